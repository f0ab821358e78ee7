/-
  Layer 2: what Scan's answers are like, in plain words (of TBegins, for seats that have no TokenBegins). No walk.
-/
import Derived.Test.YtifmbhcajlnhbaaDoorTKnows
import Derived.Lib.Hide
import Derived.Deep.QuietTactic
import Derived.BigQuiet
import Derived.WalkSmall
namespace Go.Proofs.YtifmbhcajlnhbaaDoor
set_option linter.unusedVariables false
open Go.RowKit

theorem coll_err : ∀ (l : List (Tk × Int)) (j : Nat) (p : Nat × Int), coll j l = .inr p → p.2 ≠ 0
  | [], j, p, h => by cases h
  | x :: r, j, p, h => by
    unfold coll at h
    by_cases hv : verd j x ≠ 0
    · rw [if_pos hv] at h; cases h; exact hv
    · rw [if_neg hv] at h
      cases hc : coll (j + 1) r with
      | inl l => rw [hc] at h; cases h
      | inr q => rw [hc] at h; cases h; exact coll_err r (j + 1) _ hc
theorem scanP_err {s : ByteArray} {p : Nat × Int} (h : scanP s = .inr p) : p.2 ≠ 0 := by
  unfold scanP at h
  by_cases hb : 65536 < s.size
  · rw [if_pos hb] at h; cases h; show (6 : Int) ≠ 0; decide
  · rw [if_neg hb] at h; exact coll_err _ _ _ h
theorem scan_len {s : ByteArray} {l : List Tk} (hs : s.size ≤ 10000) (h : scanP s = .inl l) : Sc s 0 l ∧ 0 < l.length := by
  rw [scanP_small s hs] at h
  have hsc := sc_of_scan s.size 0 l (Nat.zero_le _) (by omega) h
  exact ⟨hsc, List.length_pos_iff.2 (sc_begin hsc).2⟩
theorem sc_size {s : ByteArray} {i : Nat} {l : List Tk} (h : Sc s i l) : l.length ≤ s.size - i + 1 := by
  induction h with
  | fin hi hs => simp
  | tok hi hs hj hr hl ih =>
    obtain ⟨r1, r2, r3, r4⟩ := readAt_lt hj hr
    have := skip_le hs hi
    rw [List.length_cons]
    omega
end Go.Proofs.YtifmbhcajlnhbaaDoor
