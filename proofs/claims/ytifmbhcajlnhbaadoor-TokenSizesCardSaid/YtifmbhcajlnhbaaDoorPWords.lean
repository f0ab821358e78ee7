/-
  Layer 2, the program's side: keys, ops, letters, words.
-/
import Derived.Test.YtifmbhcajlnhbaaDoorTok0
namespace Go.Proofs.YtifmbhcajlnhbaaDoor
set_option linter.unusedVariables false
open Go.ChangeShapes Go.WideShapes Go.ChangeAt Go.RowKit

theorem inL_cons (t s : ByteArray) (l : List ByteArray) : inL (t :: l) s = (s.toList == t.toList || inL l s) := by
  unfold inL
  rw [List.any_cons]
  congr 1
  rw [Bool.eq_iff_iff, beq_iff_eq, beq_iff_eq]
  exact eq_comm
theorem inL_nil (s : ByteArray) : inL [] s = false := rfl

set_option maxHeartbeats 1000000 in
theorem pkey_any (s : ByteArray) (w : World) :
    Calls Tryd.prog 29 #[.string s] w fun e w' => e = .returned (.bool (inL keysL s)) ∧ w = w' := by
  go_enter Tryd.func29, Tryd.ntmps29
  go_wp2
  all_goals (go_ret; refine ⟨ret_bool ?_, rfl⟩)
  all_goals (unfold keysL; simp only [inL_cons, inL_nil, Bool.or_false])
  all_goals (first | (simp [*]; done) | (simp_all; done))

set_option maxHeartbeats 4000000 in
theorem psign_any (s : ByteArray) (w : World) :
    Calls Tryd.prog 15 #[.string s] w fun e w' => e = .returned (.bool (inL opsL s)) ∧ w = w' := by
  go_enter Tryd.func15, Tryd.ntmps15
  go_wp2
  all_goals (go_ret; refine ⟨ret_bool ?_, rfl⟩)
  all_goals (unfold opsL; simp only [inL_cons, inL_nil, Bool.or_false])
  all_goals (first | (simp [*]; done) | (simp_all; done))

set_option maxHeartbeats 2000000 in
theorem pin_any (c : Int) (h0 : 0 ≤ c) (h1 : c ≤ 255) (w : World) :
    Calls Tryd.prog 45 #[.int .u8 c] w fun e w' => e = .returned (.bool (letB c)) ∧ w = w' := by
  go_enter Tryd.func45, Tryd.ntmps45
  go_wp2_with (go_at_call 27; refine (class_any _ h0 h1 _).mono ?_; rintro e w' ⟨rfl, rfl⟩)
  all_goals (go_ret; refine ⟨ret_bool ?_, rfl⟩)
  all_goals (unfold letB; first | rfl | simp [*])

set_option maxHeartbeats 2000000 in
theorem pend_any (s : ByteArray) (hs : s.size ≤ 1000000) (k : Nat) (hk : k ≤ s.size) (w : World) :
    Calls Tryd.prog 28 #[.string s, .int .i64 k] w fun e w' => e = .returned (.int .i64 (wordEnd s k)) ∧ w = w' := by
  have HW := Lib.hid (runEnd_ok s (s.size - k) k hk (Nat.le_refl _))
  go_enter Tryd.func28, Tryd.ntmps28
  go_wp2
  go_loop [1] (fun i => ∃ m : Nat, k ≤ m ∧ m ≤ s.size ∧ i = .int .i64 m ∧ Hid (∀ i, k ≤ i → i < m → letB (atB s i) = true)) (fun i => s.size - (intOf i).toNat)
  case atStart => exact ⟨k, Nat.le_refl _, hk, rfl, Lib.hid fun i h1 h2 => by omega⟩
  case round =>
    obtain ⟨m, m1, m2, rfl, H⟩ := hrel
    by_cases hlt : m < s.size
    · have ea := Lib.hid (atB_eq s m hlt)
      have hb := s[m].toNat_lt
      by_cases hl : letB s[m].toNat = true
      · go_wp2_with (go_at_call 45; refine (pin_any _ (by omega) (by omega) _).mono ?_; rintro e w' ⟨rfl, rfl⟩)
        go_round
        case rel =>
          refine ⟨m + 1, by omega, by omega, by go_num, Lib.hid fun i h1 h2 => ?_⟩
          by_cases him : i = m
          · rw [him, ea.out]; exact hl
          · exact H.out i h1 (by omega)
        case measure => simp [intOf]; omega
      · have hl2 : letB s[m].toNat = false := by simpa using hl
        go_wp2_with (go_at_call 45; refine (pin_any _ (by omega) (by omega) _).mono ?_; rintro e w' ⟨rfl, rfl⟩)
        go_ret
        have hu : m = wordEnd s k := RunTo.unique ⟨m1, m2, H.out, .inr (by rw [ea.out]; exact hl2)⟩ HW.out
        exact ⟨ret_int (by rw [← hu]), rfl⟩
    · go_wp2
      go_ret
      have hu : m = wordEnd s k := RunTo.unique ⟨m1, m2, H.out, .inl (by omega)⟩ HW.out
      exact ⟨ret_int (by rw [← hu]), rfl⟩

/-- the kind of a name -/
def kindN (s : ByteArray) : Int := if inL keysL s = true then 8 else if cls (atB s 0) = 4 then 2 else 1
set_option maxHeartbeats 2000000 in
theorem pkind_any (s : ByteArray) (hs : 0 < s.size) (w : World) :
    Calls Tryd.prog 64 #[.string s] w fun e w' => e = .returned (.int .i64 (kindN s)) ∧ w = w' := by
  have ea := atB_eq s 0 hs
  have hb := s[0].toNat_lt
  unfold kindN
  rw [ea]
  clear ea
  go_enter Tryd.func64, Tryd.ntmps64
  go_wp2_with fail
  refine (pkey_any _ _).mono ?_
  rintro e w' ⟨rfl, rfl⟩
  go_wp2_with (go_at_call 27; refine (class_any _ (by omega) (by omega) _).mono ?_; rintro e w' ⟨rfl, rfl⟩)
  all_goals (go_ret; refine ⟨ret_int ?_, rfl⟩)
  all_goals (simp_all)
end Go.Proofs.YtifmbhcajlnhbaaDoor
