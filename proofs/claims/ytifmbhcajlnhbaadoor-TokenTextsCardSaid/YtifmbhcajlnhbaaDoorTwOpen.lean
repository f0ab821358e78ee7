/-
  Layer 2: an argument that is a slice of the document's tokens, opened to cells.
-/
import Derived.Test.YtifmbhcajlnhbaaDoorTTexts
import Derived.Deep.Slices
import Derived.Deep.Fields
import Derived.ChangeSame
import Derived.ChangeArms
import Derived.Carry
namespace Go.Proofs.YtifmbhcajlnhbaaDoor
set_option linter.unusedVariables false
open Go.ChangeShapes Go.WideShapes Go.ChangeAt Go.RowKit Go.Deep

theorem wf_i64 {n : Int} (h : (Lit.int .i64 n).wf = true) : -9223372036854775808 ≤ n ∧ n ≤ 9223372036854775807 := by
  simp only [Lit.wf, Bool.and_eq_true, decide_eq_true_eq] at h
  exact h
theorem c_int : Tryd.prog.cellsOf 3 = 1 := by kernel_rfl
theorem c_str : Tryd.prog.cellsOf 9 = 1 := by kernel_rfl
theorem c_tok : Tryd.prog.cellsOf 39 = 5 := by kernel_rfl

set_option maxRecDepth 100000 in
theorem tok_cells {H : Type} {enc : TypeId × Value → H} {W : World} {base : Nat} {sp : Nat → Bool} {held : Bool} {n : Nat} {E : Addr} {cs : List Value} {x : DataW H × List MemPlace}
    (hc : W.cells? base E (Tryd.prog.cellsOf 39) = some cs) (ht : DataW.trod enc Tryd.prog W base sp held n 39 cs = some x) :
    ∃ t : Tw, t.fits ∧ W.cell? E = some (.int .i64 t.kind) ∧ W.cell? (E.add 1) = some (.int .i64 t.at_) ∧ W.cell? (E.add 2) = some (.int .i64 t.fin) ∧ W.cell? (E.add 3) = some (.string t.text) ∧ W.cell? (E.add 4) = some (.int .i64 t.n) := by
  obtain ⟨xs, n', hn', hx, hlen, hxl, hg⟩ := DataW.trod_struct Tryd.underlying39 ht
  obtain ⟨_, hcl, hat⟩ := World.cells?_some hc
  rw [c_tok] at hcl hat
  match cs, hcl with
  | [c0, c1, c2, c3, c4], _ =>
    match xs, hxl with
    | [y0, y1, y2, y3, y4], _ =>
      have g0 := hg 0 _ rfl
      have g1 := hg 1 _ rfl
      have g2 := hg 2 _ rfl
      have g3 := hg 3 _ rfl
      have g4 := hg 4 _ rfl
      simp only [c_int, c_str, List.drop_zero, List.drop_succ_cons, List.take_succ_cons, List.take_zero, List.getElem?_cons_zero, List.getElem?_cons_succ] at g0 g1 g2 g3 g4
      obtain ⟨z0, e0, _, _⟩ := DataW.trod_int Tryd.underlying3 g0
      obtain ⟨z1, e1, _, _⟩ := DataW.trod_int Tryd.underlying3 g1
      obtain ⟨z2, e2, _, _⟩ := DataW.trod_int Tryd.underlying3 g2
      obtain ⟨z3, e3, _, _⟩ := DataW.trod_string Tryd.underlying9 g3
      obtain ⟨z4, e4, _, w4⟩ := DataW.trod_int Tryd.underlying3 g4
      obtain rfl := (List.cons.inj e0).1
      obtain rfl := (List.cons.inj e1).1
      obtain rfl := (List.cons.inj e2).1
      obtain rfl := (List.cons.inj e3).1
      obtain rfl := (List.cons.inj e4).1
      have b0 := hat 0 (by decide)
      have b1 := hat 1 (by decide)
      have b2 := hat 2 (by decide)
      have b3 := hat 3 (by decide)
      have b4 := hat 4 (by decide)
      exact ⟨⟨z0, z1, z2, z3, z4⟩, wf_i64 w4, b0, b1, b2, b3, b4⟩

set_option maxRecDepth 100000 in
theorem tw_open {H : Type} {enc : TypeId × Value → H} {W : World} {a0 : Option Addr} {len0 cap0 : Nat} {d : DataW H} {p : List MemPlace} (h : DataW.Trod enc Tryd.prog W 0 (fun _ => true) true 30 (.slice a0 len0 cap0) d p) :
    ∃ l : List Tw, TwArg W (.slice a0 len0 cap0) l ∧ ∀ t ∈ l, t.fits := by
  obtain ⟨fuel, hf⟩ := h
  rcases open_slice Tryd.underlying30 hf with ⟨hcs, _⟩ | ⟨a, len, cap, m, n, D, Pl, hcs, hb, hl, hm, hmm, hx, hi⟩
  · simp [Value.cells] at hcs
    obtain ⟨rfl, rfl, rfl⟩ := hcs
    exact ⟨[], .inl ⟨rfl, rfl⟩, fun t ht => by cases ht⟩
  · simp [Value.cells] at hcs
    obtain ⟨rfl, rfl, rfl⟩ := hcs
    simp only [if_true] at hmm
    have key : ∀ i, i < len0 → ∃ t : Tw, t.fits ∧ W.cell? (a.add (i * 5)) = some (.int .i64 t.kind) ∧ W.cell? (a.add (i * 5 + 1)) = some (.int .i64 t.at_) ∧ W.cell? (a.add (i * 5 + 2)) = some (.int .i64 t.fin) ∧ W.cell? (a.add (i * 5 + 3)) = some (.string t.text) ∧ W.cell? (a.add (i * 5 + 4)) = some (.int .i64 t.n) := fun i him => by
      obtain ⟨cs', hc, ht'⟩ := hi i (by omega)
      obtain ⟨t, h0, h1, h2, h3, h4, h5⟩ := tok_cells hc ht'
      rw [c_tok] at h1 h2 h3 h4 h5
      have ad : ∀ j, (a.add (i * 5)).add j = a.add (i * 5 + j) := fun j => by
        by_cases hj : j = 0
        · subst hj; rfl
        · rw [add1 a _ j hj]
          unfold Addr.add
          rw [if_neg hj]
      rw [ad] at h2 h3 h4 h5
      exact ⟨t, h0, h1, h2, h3, h4, h5⟩
    let f : Nat → Tw := fun i => if hlt : i < len0 then Classical.choose (key i hlt) else ⟨0, 0, 0, ⟨#[]⟩, 0⟩
    have hff : ∀ i (hlt : i < len0), f i = Classical.choose (key i hlt) := fun i hlt => dif_pos hlt
    refine ⟨(List.range len0).map f, .inr ⟨a, cap0, by simp, fun i t ht => ?_⟩, fun t ht => ?_⟩
    · rw [List.getElem?_map] at ht
      obtain ⟨j, hj, rfl⟩ := Option.map_eq_some_iff.1 ht
      obtain ⟨hlt, hje⟩ := List.getElem?_eq_some_iff.1 hj
      rw [List.length_range] at hlt
      rw [List.getElem_range] at hje
      subst hje
      rw [hff i hlt]
      exact (Classical.choose_spec (key i hlt)).2
    · obtain ⟨j, hj, rfl⟩ := List.mem_map.1 ht
      have hlt := List.mem_range.1 hj
      rw [hff j hlt]
      exact (Classical.choose_spec (key j hlt)).1
end Go.Proofs.YtifmbhcajlnhbaaDoor
