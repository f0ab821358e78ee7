/-
  Layer 2: the document's digits: a Number.
-/
import Derived.Test.YtifmbhcajlnhbaaDoorTok0
namespace Go.Proofs.YtifmbhcajlnhbaaDoor
set_option linter.unusedVariables false
open Go.ChangeShapes Go.WideShapes Go.ChangeAt Go.RowKit

def oneV (r : Tk ⊕ (Nat × Int)) : Value := match r with
  | .inl t => .tuple #[.agg #[.int .i64 t.kind, .int .i64 t.at_, .int .i64 t.fin, .string t.text, .int .i64 t.n], .agg #[.int .i64 0, .int .i64 0]]
  | .inr p => .tuple #[.agg #[.int .i64 0, .int .i64 0, .int .i64 0, .string ⟨#[]⟩, .int .i64 0], .agg #[.int .i64 p.1, .int .i64 p.2]]

theorem rclass_at (s : ByteArray) (i : Nat) (hi : i < s.size) (w : World) : Calls Tryd.prog 30 #[.int .u8 s[i].toNat] w fun e w' => e = .returned (.int .i64 (cls (atB s i))) ∧ w = w' := by
  have h := atB_eq s i hi
  have hb := s[i].toNat_lt
  rw [h]
  exact rclass_any _ (by omega) (by omega) w
/-- the world while digits are read: the number lies in the token -/
def dgWorld (w : World) (i : Nat) (n : Int) : World :=
  ((w.alloc (.cells #[.int .i64 0, .int .i64 0, .int .i64 0, .string ⟨#[]⟩, .int .i64 0] 39)).alloc (.cells #[.int .i64 0, .int .i64 0] 32)).alloc (.cells #[.int .i64 3, .int .i64 i, .int .i64 0, .string ⟨#[]⟩, .int .i64 n] 39)

set_option maxHeartbeats 4000000 in
set_option maxRecDepth 100000 in
theorem digits_any (s : ByteArray) (hs : s.size ≤ 1000000) (i : Nat) (hi : i < s.size) (w : World) :
    Calls Tryd.prog 38 #[.string s, .int .i64 i] w fun e w' => e = .returned (oneV (numAt s i)) ∧ Below w.heap.size w w' := by
  go_enter Tryd.func38, Tryd.ntmps38
  go_wp2
  go_loopw [7] (fun kv wr => ∃ (k : Nat) (n : Int), i ≤ k ∧ k ≤ s.size ∧ 0 ≤ n ∧ n ≤ 9223372036854775807 ∧ kv = .int .i64 k ∧ wr = dgWorld w i n ∧ Hid (dgsAt s i 0 = dgsAt s k n)) (fun kv _ => s.size - (intOf kv).toNat)
  case atStart => exact ⟨i, 0, Nat.le_refl _, by omega, Int.le_refl _, by omega, rfl, rfl, Lib.hid rfl⟩
  case round =>
    obtain ⟨k, n, k1, hk, n0, n1, rfl, rfl, H⟩ := hrel
    unfold dgWorld
    by_cases hlt : k < s.size
    · have hst := dgsAt_step s k n hlt
      have ek := atB_eq s k hlt
      by_cases c2 : cls (atB s k) = 2
      · rw [if_pos c2] at hst
        have hc := (cls2 _).1 c2
        have q2 : (cls (atB s k) == 2) = true := by rw [beq_iff_eq]; exact c2
        rw [ek] at hc
        obtain ⟨hc1, hc2⟩ := hc
        by_cases tg : (9223372036854775807 - (atB s k - 48)) / 10 < n
        · rw [if_pos (show tooGreat n (atB s k - 48) = true from decide_eq_true tg)] at hst
          have HN := Lib.hid (H.out.trans hst)
          rw [ek] at tg
          clear hst ek c2
          go_wp2_with fail
          refine (rclass_at s k hlt _).mono ?_
          rintro e w' ⟨rfl, rfl⟩
          go_wp2
          exact bodyPost_ret (v := .tuple #[.agg #[.int .i64 0, .int .i64 0, .int .i64 0, .string ⟨#[]⟩, .int .i64 0], .agg #[.int .i64 i, .int .i64 21]]) (by simp [results, Tryd.results38, go_sem]) rfl ⟨by unfold numAt; rw [HN.out]; simp [oneV, Option.elim, *], (((Below.refl _ _).alloc (Nat.le_refl _) _).alloc (by simp) _).alloc (by first | (simp; done) | (simp; omega)) _⟩
        · rw [if_neg (by unfold tooGreat; rw [decide_eq_true_iff]; exact tg)] at hst
          have HN := Lib.hid (H.out.trans hst)
          rw [ek] at tg
          have EK := Lib.hid ek
          clear hst ek c2
          go_wp2_with fail
          refine (rclass_at s k hlt _).mono ?_
          rintro e w' ⟨rfl, rfl⟩
          go_wp2
          go_roundw
          case rel => exact ⟨k + 1, 10 * n + (s[k].toNat - 48), by omega, by omega, by omega, by omega, by go_num, rfl, Lib.hid (by rw [HN.out, EK.out])⟩
          case measure => simp [intOf]; omega
      · rw [if_neg c2] at hst
        have HN := Lib.hid (H.out.trans hst)
        have q2 : (cls (atB s k) == 2) = false := by rw [beq_eq_false_iff_ne]; exact c2
        have hb := s[k].toNat_lt
        have EK := Lib.hid ek
        clear hst c2
        by_cases hl : letB (atB s k) = true ∧ atB s k ≠ 39
        · obtain ⟨l1, l2⟩ := hl
          have HL := Lib.hid (show k < s.size ∧ letB (atB s k) = true ∧ atB s k ≠ 39 from ⟨hlt, l1, l2⟩)
          rw [ek] at l1 l2
          have x39 : ((s[k].toNat : Int) != 39) = true := by rw [bne_iff_ne]; exact l2
          clear ek l2
          go_wp2_with fail
          refine (rclass_at s k hlt _).mono ?_
          rintro e w' ⟨rfl, rfl⟩
          go_wp2_with fail
          refine (letter2_any _ (by omega) (by omega) _).mono ?_
          rintro e w' ⟨rfl, rfl⟩
          go_wp2
          exact bodyPost_ret (v := .tuple #[.agg #[.int .i64 0, .int .i64 0, .int .i64 0, .string ⟨#[]⟩, .int .i64 0], .agg #[.int .i64 k, .int .i64 20]]) (by simp [results, Tryd.results38, go_sem]) rfl ⟨by unfold numAt; rw [HN.out]; simp only [Option.elim]; rw [if_pos HL.out]; rfl, (((Below.refl _ _).alloc (Nat.le_refl _) _).alloc (by simp) _).alloc (by first | (simp; done) | (simp; omega)) _⟩
        · have HL := Lib.hid (show ¬ (k < s.size ∧ letB (atB s k) = true ∧ atB s k ≠ 39) from fun h => hl h.2)
          by_cases l1 : letB (atB s k) = true
          · have l2 : ((s[k].toNat : Int) != 39) = false := by rw [bne_eq_false_iff_eq, ← ek]; exact Classical.not_not.1 (fun h => hl ⟨l1, h⟩)
            rw [ek] at l1
            clear ek hl
            go_wp2_with fail
            refine (rclass_at s k hlt _).mono ?_
            rintro e w' ⟨rfl, rfl⟩
            go_wp2_with fail
            refine (letter2_any _ (by omega) (by omega) _).mono ?_
            rintro e w' ⟨rfl, rfl⟩
            go_wp2
            exact bodyPost_ret (v := .tuple #[.agg #[.int .i64 3, .int .i64 i, .int .i64 k, .string (s.extract i k), .int .i64 n], .agg #[.int .i64 0, .int .i64 0]]) (by simp [results, Tryd.results38, go_sem]) rfl ⟨by unfold numAt; rw [HN.out]; simp only [Option.elim]; rw [if_neg HL.out]; rfl, (((Below.refl _ _).alloc (Nat.le_refl _) _).alloc (by simp) _).alloc (by first | (simp; done) | (simp; omega)) _⟩
          · have l1' : letB (s[k].toNat : Int) = false := by rw [← ek]; simpa using l1
            clear ek hl l1
            go_wp2_with fail
            refine (rclass_at s k hlt _).mono ?_
            rintro e w' ⟨rfl, rfl⟩
            go_wp2_with fail
            refine (letter2_any _ (by omega) (by omega) _).mono ?_
            rintro e w' ⟨rfl, rfl⟩
            go_wp2
            exact bodyPost_ret (v := .tuple #[.agg #[.int .i64 3, .int .i64 i, .int .i64 k, .string (s.extract i k), .int .i64 n], .agg #[.int .i64 0, .int .i64 0]]) (by simp [results, Tryd.results38, go_sem]) rfl ⟨by unfold numAt; rw [HN.out]; simp only [Option.elim]; rw [if_neg HL.out]; rfl, (((Below.refl _ _).alloc (Nat.le_refl _) _).alloc (by simp) _).alloc (by first | (simp; done) | (simp; omega)) _⟩
    · have HN := Lib.hid (H.out.trans (dgsAt_end s k n (by omega)))
      have HL := Lib.hid (show ¬ (k < s.size ∧ letB (atB s k) = true ∧ atB s k ≠ 39) from fun h => hlt h.1)
      go_wp2
      exact bodyPost_ret (v := .tuple #[.agg #[.int .i64 3, .int .i64 i, .int .i64 k, .string (s.extract i k), .int .i64 n], .agg #[.int .i64 0, .int .i64 0]]) (by simp [results, Tryd.results38, go_sem]) rfl ⟨by unfold numAt; rw [HN.out]; simp only [Option.elim]; rw [if_neg HL.out]; rfl, (((Below.refl _ _).alloc (Nat.le_refl _) _).alloc (by simp) _).alloc (by first | (simp; done) | (simp; omega)) _⟩
end Go.Proofs.YtifmbhcajlnhbaaDoor
