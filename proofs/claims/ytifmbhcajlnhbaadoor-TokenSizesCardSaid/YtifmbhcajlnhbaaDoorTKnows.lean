/-
  Layer 2, the laws' side: what must come; a scan's tokens as rows.
-/
import Derived.Test.YtifmbhcajlnhbaaDoorPScan
import Derived.Test.YtifmbhcajlnhbaaDoorPlaceMath
import Derived.Laws.OwnMore
namespace Go.Proofs.YtifmbhcajlnhbaaDoor
set_option linter.unusedVariables false
open Go.ChangeShapes Go.WideShapes Go.ChangeAt Go.RowKit

theorem num_any (x : Int) (w : World) : Calls Tryd.prog 8 #[.int .i64 x] w fun e w' => e = .returned (.int .i64 x) ∧ w = w' := by
  go_enter Tryd.func8, Tryd.ntmps8
  go_wp2
  go_ret
  exact ⟨rfl, rfl⟩

/-- tokens in a row of the call's own, block g -/
structure TkRows (w : World) (B g : Nat) (l : List Tk) : Prop where
  lo : B ≤ g
  hi : g < w.heap.size
  cell : ∀ (i : Nat) (t : Tk), l[i]? = some t → w.cell? ⟨g, i * 5, none⟩ = some (.int .i64 t.kind) ∧ w.cell? ⟨g, i * 5 + 1, none⟩ = some (.int .i64 t.at_) ∧ w.cell? ⟨g, i * 5 + 2, none⟩ = some (.int .i64 t.fin) ∧ w.cell? ⟨g, i * 5 + 3, none⟩ = some (.string t.text) ∧ w.cell? ⟨g, i * 5 + 4, none⟩ = some (.int .i64 t.n)
theorem TkRows.below {w w' : World} {B g : Nat} {l : List Tk} (h : TkRows w B g l) (hb : Below w.heap.size w w') : TkRows w' B g l :=
  ⟨h.lo, Nat.lt_of_lt_of_le h.hi hb.size, fun i t ht => by
    obtain ⟨a, b, c, d, e⟩ := h.cell i t ht
    exact ⟨(hb.cell (p := ⟨g, i * 5, none⟩) h.hi).trans a, (hb.cell (p := ⟨g, i * 5 + 1, none⟩) h.hi).trans b, (hb.cell (p := ⟨g, i * 5 + 2, none⟩) h.hi).trans c, (hb.cell (p := ⟨g, i * 5 + 3, none⟩) h.hi).trans d, (hb.cell (p := ⟨g, i * 5 + 4, none⟩) h.hi).trans e⟩⟩
theorem TkRows.alloc {w : World} {B g : Nat} {l : List Tk} (h : TkRows w B g l) (o : Obj) : TkRows (w.alloc o) B g l := h.below ((Below.refl _ w).alloc (Nat.le_refl _) o)
theorem rowL_at : ∀ (l : List Tk) (i : Nat) (t : Tk), l[i]? = some t → (rowL l)[i * 5]? = some (.int .i64 t.kind) ∧ (rowL l)[i * 5 + 1]? = some (.int .i64 t.at_) ∧ (rowL l)[i * 5 + 2]? = some (.int .i64 t.fin) ∧ (rowL l)[i * 5 + 3]? = some (.string t.text) ∧ (rowL l)[i * 5 + 4]? = some (.int .i64 t.n)
  | [], i, t, h => by simp at h
  | x :: l, 0, t, h => by
    simp at h
    subst h
    simp [rowL]
  | x :: l, i + 1, t, h => by
    have ih := rowL_at l i t (by simpa using h)
    have e : rowL (x :: l) = [.int .i64 x.kind, .int .i64 x.at_, .int .i64 x.fin, .string x.text, .int .i64 x.n] ++ rowL l := by simp [rowL]
    have key : ∀ m, (rowL (x :: l))[(i + 1) * 5 + m]? = (rowL l)[i * 5 + m]? := fun m => by
      rw [e, List.getElem?_append_right (by simp; omega)]
      congr 1
      simp
      omega
    exact ⟨(key 0).trans ih.1, (key 1).trans ih.2.1, (key 2).trans ih.2.2.1, (key 3).trans ih.2.2.2.1, (key 4).trans ih.2.2.2.2⟩
/-- **a scan that tells tokens** -/
theorem scan_yes {s : ByteArray} {l : List Tk} (hs : s.size ≤ 1000000) (h : scanP s = .inl l) (hl : l ≠ []) (w : World) (hw : RangeOk w) :
    Calls Tryd.prog 6 #[.string s] w fun e w' => ∃ g cap, e = .returned (.tuple #[.slice (some ⟨g, 0, none⟩) l.length cap, .agg #[.int .i64 0, .int .i64 0]]) ∧ l.length ≤ cap ∧ cap ≤ maxLen ∧ TkRows w' w.heap.size g l ∧ Below w.heap.size w w' := by
  have hc := scan_any s hs w hw
  rw [h] at hc
  refine hc.mono ?_
  rintro e w' ⟨v, rfl, hr, hb⟩
  simp only [Sum.elim_inl] at hr ⊢
  obtain ⟨hlen, ⟨hv, h0⟩ | ⟨g, cap, cur, rfl, hg, hcur, h1, h2, h3, h4⟩⟩ := hr
  · exact absurd (List.length_eq_zero_iff.1 h0) hl
  · refine ⟨g, cap, rfl, h1, h2, ⟨hg, lt_heap hcur, fun i t ht => ?_⟩, hb⟩
    have hi : i < l.length := by
      rcases Nat.lt_or_ge i l.length with q | q
      · exact q
      · rw [List.getElem?_eq_none q] at ht; cases ht
    have hat : ∀ j u, j < l.length * 5 → (rowL l)[j]? = some u → w'.cell? ⟨g, j, none⟩ = some u := fun j u hj hu => by
      rw [← h4, List.getElem?_take_of_lt hj] at hu
      rw [cell_of_row w' g j _ _ _ hcur]
      simpa using hu
    obtain ⟨a, b, c, d, f⟩ := rowL_at l i t ht
    exact ⟨hat _ _ (by omega) a, hat _ _ (by omega) b, hat _ _ (by omega) c, hat _ _ (by omega) d, hat _ _ (by omega) f⟩
/-- a scan that tells a fault -/
theorem scan_no {s : ByteArray} {p : Nat × Int} (hs : s.size ≤ 1000000) (h : scanP s = .inr p) (w : World) (hw : RangeOk w) :
    Calls Tryd.prog 6 #[.string s] w fun e w' => ∃ ao cap, e = .returned (.tuple #[.slice ao 0 cap, .agg #[.int .i64 p.1, .int .i64 p.2]]) ∧ Below w.heap.size w w' := by
  have hc := scan_any s hs w hw
  rw [h] at hc
  refine hc.mono ?_
  rintro e w' ⟨v, rfl, hr, hb⟩
  simp only [Sum.elim_inr] at hr ⊢
  obtain ⟨hlen, ⟨rfl, h0⟩ | ⟨g, cap, cur, rfl, hg, hcur, h1, h2, h3, h4⟩⟩ := hr
  · exact ⟨_, _, rfl, hb⟩
  · exact ⟨_, _, rfl, hb⟩

abbrev knowL : List Tk := [⟨1, 0, 1, ⟨#[120]⟩, 0⟩, ⟨6, 1, 2, ⟨#[43]⟩, 0⟩, ⟨3, 2, 3, ⟨#[49]⟩, 1⟩, ⟨9, 3, 3, ⟨#[]⟩, 0⟩]
theorem know_scan : scanP ⟨#[120, 43, 49]⟩ = .inl knowL := by kernel_rfl

/-- the fault's row: none -/
abbrev ftO (a e : Int) : Obj := .cells #[.int .i64 a, .int .i64 e] 27 (0, 0)

set_option maxHeartbeats 4000000 in
set_option maxRecDepth 100000 in
theorem knows_any (w : World) (hw : RangeOk w) : Calls Tryd.prog 9 #[] w fun e w' => e = .returned (.bool true) ∧ Below w.heap.size w w' := by
  go_enter Tryd.func9, Tryd.ntmps9
  go_wp2_with fail
  refine (scan_yes (by decide) know_scan (by simp) _ hw).mono ?_
  rintro e w1 ⟨g, cap, rfl, hcap, hmax, hR, hb1⟩
  simp only [List.length_cons, List.length_nil, Nat.reduceAdd] at hcap ⊢
  have hR2 := hR.alloc (ftO 0 0)
  have k0 := (hR2.cell 0 _ rfl).1
  have k1 := (hR2.cell 1 _ rfl).2.2.2.1
  have k2 := (hR2.cell 2 _ rfl).2.2.2.2
  have k3 := (hR2.cell 3 _ rfl).1
  simp only [Nat.zero_mul, Nat.one_mul, Nat.reduceMul, Nat.reduceAdd] at k0 k1 k2 k3
  go_wp2_with fail
  refine (num_any _ _).mono ?_
  rintro e w' ⟨rfl, rfl⟩
  go_wp2
  go_ret
  exact ⟨rfl, hb1.alloc hb1.size _⟩
end Go.Proofs.YtifmbhcajlnhbaaDoor
