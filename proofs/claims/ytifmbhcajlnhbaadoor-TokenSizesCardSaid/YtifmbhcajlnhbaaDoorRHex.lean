/-
  The document's Unescape: x and two digits.
-/
import Derived.Test.YtifmbhcajlnhbaaDoorRUn
namespace Go.Proofs.YtifmbhcajlnhbaaDoor
set_option linter.unusedVariables false
open Go.ChangeShapes Go.WideShapes Go.ChangeAt Go.RowKit

theorem digit_q (c : Int) (h0 : 0 ≤ c) (h1 : c ≤ 255) (w : World) :
    Calls Tryd.prog 68 #[.int .u8 c] w fun e w' => e = .returned (.int .i64 (dig c)) ∧ w' = w := (digit_any c h0 h1 w).mono fun _ _ ⟨h, h'⟩ => ⟨h, h'.symm⟩

set_option maxHeartbeats 4000000 in
theorem runescape_hex (s : ByteArray) (hs : s.size ≤ 1000000) (k : Nat) (hk : k < s.size) (h92 : atB s k = 92) (h4 : ¬ s.size ≤ k + 1) (h5 : ¬ isByteL (atB s (k + 1)) = true) (w : World) :
    Calls Tryd.prog 58 #[.string s, .int .i64 k] w fun e w' => e = .returned (unV (un s k) k) ∧ Below w.heap.size w w' := by
  have e0 := atB_eq s k hk
  have x1 : ¬ (s[k].toNat : Int) < 32 := by omega
  have x2 : ¬ 126 < (s[k].toNat : Int) := by omega
  have x3 : ((s[k].toNat : Int) != 92) = false := by rw [bne_eq_false_iff_eq]; omega
  have hlt : (k : Int) < s.size := by omega
  have hsz := tail_size s k
  have hpos : 0 < (s.extract (k + 1) s.size).size := by omega
  have hp2 : 0 < s.size - (k + 1) := by omega
  have hp4 : (((s.size - (k + 1) : Nat) : Int) == 0) = false := by rw [beq_eq_false_iff_ne]; omega
  have t0 : ((s.extract (k + 1) s.size)[0].toNat : Int) = atB s (k + 1) := tail_at s k 0 (by omega) hpos
  have hn5 : ¬ (atB s (k + 1) = 110 ∨ atB s (k + 1) = 116 ∨ atB s (k + 1) = 92 ∨ atB s (k + 1) = 39 ∨ atB s (k + 1) = 34) := fun h => h5 ((isByteL_iff _).2 h)
  have y1 : (((s.extract (k + 1) s.size)[0].toNat : Int) == 110) = false := by rw [beq_eq_false_iff_ne]; omega
  have y2 : (((s.extract (k + 1) s.size)[0].toNat : Int) == 116) = false := by rw [beq_eq_false_iff_ne]; omega
  have y3 : (((s.extract (k + 1) s.size)[0].toNat : Int) == 92) = false := by rw [beq_eq_false_iff_ne]; omega
  have y4 : (((s.extract (k + 1) s.size)[0].toNat : Int) == 39) = false := by rw [beq_eq_false_iff_ne]; omega
  have y5 : (((s.extract (k + 1) s.size)[0].toNat : Int) == 34) = false := by rw [beq_eq_false_iff_ne]; omega
  have hn := un_behind s k h92 h4
  unfold UnBehind at hn
  rw [if_neg h5] at hn
  have Hn := Lib.hid hn
  clear e0 h92 h5 hn5 hn
  by_cases h6 : atB s (k + 1) = 120
  · have y6 : (((s.extract (k + 1) s.size)[0].toNat : Int) == 120) = true := by rw [beq_iff_eq]; omega
    have H6 := Lib.hid h6
    clear h6 t0
    by_cases h7 : k + 3 < s.size
    · have hq1 : 1 < (s.extract (k + 1) s.size).size := by omega
      have hq2 : 2 < (s.extract (k + 1) s.size).size := by omega
      have t1 := tail_at s k 1 (by omega) hq1
      have t2 := tail_at s k 2 (by omega) hq2
      have c1 := atB_bounds s (k + 1 + 1)
      have c2 := atB_bounds s (k + 1 + 2)
      obtain ⟨a1, r1⟩ : ∃ a1, a1 = atB s (k + 1 + 1) := ⟨_, rfl⟩
      obtain ⟨a2, r2⟩ : ∃ a2, a2 = atB s (k + 1 + 2) := ⟨_, rfl⟩
      rw [← r1] at t1 c1
      rw [← r2] at t2 c2
      have R1 : Hid (a1 = atB s (k + 2)) := Lib.hid r1
      have R2 : Hid (a2 = atB s (k + 3)) := Lib.hid r2
      obtain ⟨c1, c1'⟩ := c1
      obtain ⟨c2, c2'⟩ := c2
      have g1 := dig_bounds a1
      have g2 := dig_bounds a2
      obtain ⟨g1, g1'⟩ := g1
      obtain ⟨g2, g2'⟩ := g2
      have l3 : (3 : Int) ≤ ((s.size - (k + 1) : Nat) : Int) := by omega
      have l1 : 1 < s.size - (k + 1) := by omega
      have l2 : 2 < s.size - (k + 1) := by omega
      clear r1 r2 hsz
      by_cases h8 : 0 ≤ dig a1
      · by_cases h9 : 0 ≤ dig a2
        · go_enter Tryd.func58, Tryd.ntmps58
          go_wp2_with fail
          refine (digit_any a1 c1 c1' _).mono ?_
          rintro e w' ⟨rfl, rfl⟩
          go_wp2_with fail
          refine (digit_any a2 c2 c2' _).mono ?_
          rintro e w' ⟨rfl, rfl⟩
          go_wp2_with fail
          go_quiet ((go_at_call 68; refine Calls.quiet_of_same (digit_q _ ?_ ?_ _) <;> omega))
          go_wp2
          go_ret3
          rw [Hn.out, if_pos ⟨h7, H6.out, by rw [← R1.out]; exact h8, by rw [← R2.out]; exact h9⟩, ← R1.out, ← R2.out]
          refine ⟨?_, below_drewN (Below.refl _ _) _⟩
          have e : ∀ c d : Int, c = d → Ending.returned (.tuple #[.int .u8 c, .int .i64 ((k : Int) + 4), .bool true]) = Ending.returned (unV (some (d, (k : Int) + 4)) k) := fun c d h => by rw [h]; rfl
          refine e _ _ ?_
          omega
        · have hno : ¬ (k + 3 < s.size ∧ atB s (k + 1) = 120 ∧ 0 ≤ dig (atB s (k + 2)) ∧ 0 ≤ dig (atB s (k + 3))) := fun h => h9 (by rw [R2.out]; exact h.2.2.2)
          go_enter Tryd.func58, Tryd.ntmps58
          go_wp2_with fail
          refine (digit_any a1 c1 c1' _).mono ?_
          rintro e w' ⟨rfl, rfl⟩
          go_wp2_with fail
          refine (digit_any a2 c2 c2' _).mono ?_
          rintro e w' ⟨rfl, rfl⟩
          go_wp2
          go_ret3
          rw [Hn.out, if_neg hno]
          exact ⟨rfl, Below.refl _ _⟩
      · have hno : ¬ (k + 3 < s.size ∧ atB s (k + 1) = 120 ∧ 0 ≤ dig (atB s (k + 2)) ∧ 0 ≤ dig (atB s (k + 3))) := fun h => h8 (by rw [R1.out]; exact h.2.2.1)
        go_enter Tryd.func58, Tryd.ntmps58
        go_wp2_with fail
        refine (digit_any a1 c1 c1' _).mono ?_
        rintro e w' ⟨rfl, rfl⟩
        go_wp2
        go_ret3
        rw [Hn.out, if_neg hno]
        exact ⟨rfl, Below.refl _ _⟩
    · have hno : ¬ (k + 3 < s.size ∧ atB s (k + 1) = 120 ∧ 0 ≤ dig (atB s (k + 2)) ∧ 0 ≤ dig (atB s (k + 3))) := fun h => h7 h.1
      have l3 : ¬ (3 : Int) ≤ ((s.size - (k + 1) : Nat) : Int) := by omega
      go_enter Tryd.func58, Tryd.ntmps58
      go_wp2
      go_ret3
      rw [Hn.out, if_neg hno]
      exact ⟨rfl, Below.refl _ _⟩
  · have y6 : (((s.extract (k + 1) s.size)[0].toNat : Int) == 120) = false := by rw [beq_eq_false_iff_ne]; omega
    have hno : ¬ (k + 3 < s.size ∧ atB s (k + 1) = 120 ∧ 0 ≤ dig (atB s (k + 2)) ∧ 0 ≤ dig (atB s (k + 3))) := fun h => h6 h.2.1
    clear h6 t0
    go_enter Tryd.func58, Tryd.ntmps58
    go_wp2
    go_ret3
    rw [Hn.out, if_neg hno]
    exact ⟨rfl, Below.refl _ _⟩
end Go.Proofs.YtifmbhcajlnhbaaDoor
