/-
  Layer 2: the document's one: the token at a place.
-/
import Derived.Test.YtifmbhcajlnhbaaDoorQuoted
import Derived.Test.YtifmbhcajlnhbaaDoorDigits
namespace Go.Proofs.YtifmbhcajlnhbaaDoor
set_option linter.unusedVariables false
open Go.ChangeShapes Go.WideShapes Go.ChangeAt Go.RowKit

set_option maxHeartbeats 4000000 in
set_option maxRecDepth 100000 in
theorem one_mark (s : ByteArray) (hs : s.size ≤ 1000000) (i : Nat) (hi : i < s.size) (hc : cls (atB s i) = 6) (w : World) :
    Calls Tryd.prog 21 #[.string s, .int .i64 i] w fun e w' => e = .returned (oneV (oneAt s i)) ∧ Below w.heap.size w w' := by
  have HE : Hid (oneAt s i = .inl ⟨7, i, i + 1, s.extract i (i + 1), 0⟩) := Lib.hid (by unfold oneAt; rw [if_neg (by omega), if_neg (by omega), if_neg (by omega), if_pos hc])
  go_enter Tryd.func21, Tryd.ntmps21
  go_wp2_with fail
  refine (rclass_at s i hi _).mono ?_
  rw [hc]
  rintro e w' ⟨rfl, rfl⟩
  go_wp2
  exact bodyPost_ret (v := .tuple #[.agg #[.int .i64 7, .int .i64 i, .int .i64 (i + 1), .string (s.extract i (i + 1)), .int .i64 0], .agg #[.int .i64 0, .int .i64 0]]) (by simp [results, Tryd.results21, go_sem]) rfl ⟨by rw [HE.out]; rfl, (((Below.refl _ _).alloc (Nat.le_refl _) _).alloc (by simp) _).alloc (by first | (simp; done) | (simp; omega)) _⟩

set_option maxHeartbeats 4000000 in
set_option maxRecDepth 100000 in
theorem one_other (s : ByteArray) (hs : s.size ≤ 1000000) (i : Nat) (hi : i < s.size) (c : Int) (hc : cls (atB s i) = c) (h0 : c = 0 ∨ c = 1) (w : World) :
    Calls Tryd.prog 21 #[.string s, .int .i64 i] w fun e w' => e = .returned (oneV (oneAt s i)) ∧ Below w.heap.size w w' := by
  have HE : Hid (oneAt s i = .inr (i, 20)) := Lib.hid (by unfold oneAt; rw [if_neg (by omega), if_neg (by omega), if_neg (by omega), if_neg (by omega), if_neg (by omega)])
  rcases h0 with rfl | rfl
  all_goals
    go_enter Tryd.func21, Tryd.ntmps21
    go_wp2_with fail
    refine (rclass_at s i hi _).mono ?_
    rw [hc]
    rintro e w' ⟨rfl, rfl⟩
    go_wp2
    exact bodyPost_ret (v := .tuple #[.agg #[.int .i64 0, .int .i64 0, .int .i64 0, .string ⟨#[]⟩, .int .i64 0], .agg #[.int .i64 i, .int .i64 20]]) (by simp [results, Tryd.results21, go_sem]) rfl ⟨by rw [HE.out]; rfl, (((Below.refl _ _).alloc (Nat.le_refl _) _).alloc (by simp) _).alloc (by first | (simp; done) | (simp; omega)) _⟩
end Go.Proofs.YtifmbhcajlnhbaaDoor
