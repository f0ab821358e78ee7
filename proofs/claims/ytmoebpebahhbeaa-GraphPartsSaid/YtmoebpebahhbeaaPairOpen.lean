/-
  Layer 7: an argument that is a slice of pairs of integers, opened to cells.
-/
import Derived.Test.YtmoebpebahhbeaaPartsL
import Derived.Deep.Slices
import Derived.Deep.Fields
import Derived.OpenShut
import Derived.ChangeSame
import Derived.ChangeArms
import Derived.Carry
namespace Go.Proofs.Ytmoebpebahhbeaa
set_option linter.unusedVariables false
open Go.ChangeShapes Go.WideShapes Go.ChangeAt Go.RowKit Go.Deep

theorem cells_int7 : Try.prog.cellsOf 3 = 1 := by kernel_rfl
theorem cells_pair7 : Try.prog.cellsOf 43 = 2 := by kernel_rfl
theorem cell_in {w : World} {a : Addr} {v : Value} (h : w.cell? a = some v) : a.block < w.heap.size := by
  by_cases hlt : a.block < w.heap.size
  · exact hlt
  · unfold World.cell? at h
    rw [Array.getElem?_eq_none (by omega)] at h
    simp at h
set_option maxRecDepth 100000 in
theorem pair_cells {H : Type} {enc : TypeId × Value → H} {W : World} {base : Nat} {sp : Nat → Bool} {held : Bool} {n : Nat} {E : Addr} {cs : List Value} {x : DataW H × List MemPlace}
    (hc : W.cells? base E (Try.prog.cellsOf 43) = some cs) (ht : DataW.trod enc Try.prog W base sp held n 43 cs = some x) :
    ∃ t : Int × Int, W.cell? E = some (.int .i64 t.1) ∧ W.cell? (E.add 1) = some (.int .i64 t.2) := by
  obtain ⟨xs, n', hn', hx, hlen, hxl, hg⟩ := DataW.trod_array Try.underlying43 ht
  obtain ⟨_, hcl, hat⟩ := World.cells?_some hc
  rw [cells_pair7] at hcl hat
  match cs, hcl with
  | [c0, c1], _ =>
    match xs, hxl with
    | [y0, y1], _ =>
      have g0 := hg 0 (by decide)
      have g1 := hg 1 (by decide)
      simp only [cells_int7, Nat.mul_one, Nat.zero_mul, List.drop_zero, List.drop_succ_cons, List.take_succ_cons, List.take_zero, List.getElem?_cons_zero, List.getElem?_cons_succ] at g0 g1
      obtain ⟨z0, e0, _, _⟩ := DataW.trod_int Try.underlying3 g0
      obtain ⟨z1, e1, _, _⟩ := DataW.trod_int Try.underlying3 g1
      obtain rfl := (List.cons.inj e0).1
      obtain rfl := (List.cons.inj e1).1
      exact ⟨⟨z0, z1⟩, hat 0 (by decide), hat 1 (by decide)⟩
set_option maxRecDepth 100000 in
theorem pairs_open {H : Type} {enc : TypeId × Value → H} {W : World} {a0 : Option Addr} {len0 cap0 : Nat} {d : DataW H} {p : List MemPlace} (h : DataW.Trod enc Try.prog W 0 (fun _ => true) true 22 (.slice a0 len0 cap0) d p) (hle : len0 ≤ 70368744177664) :
    ∃ es : List (Int × Int), es.length = len0 ∧ Edges W (.slice a0 len0 cap0) es := by
  obtain ⟨fuel, hf⟩ := h
  rcases open_slice Try.underlying22 hf with ⟨hcs, _⟩ | ⟨a, len, cap, m, n, D, Pl, hcs, hb, hl, hm, hmm, hx, hi⟩
  · simp [Value.cells] at hcs
    obtain ⟨rfl, rfl, rfl⟩ := hcs
    exact ⟨[], rfl, edges_nil W⟩
  · simp [Value.cells] at hcs
    obtain ⟨rfl, rfl, rfl⟩ := hcs
    simp only [if_true] at hmm
    have key : ∀ i, i < len0 → ∃ t : Int × Int, W.cell? (a.add (i * 2)) = some (.int .i64 t.1) ∧ W.cell? (a.add (i * 2 + 1)) = some (.int .i64 t.2) := fun i him => by
      obtain ⟨cs', hc, ht'⟩ := hi i (by omega)
      obtain ⟨t, h1, h2⟩ := pair_cells hc ht'
      rw [cells_pair7] at h1 h2
      rw [add_add1] at h2
      exact ⟨t, h1, h2⟩
    let f : Nat → Int × Int := fun i => if hlt : i < len0 then Classical.choose (key i hlt) else (0, 0)
    have hff : ∀ i (hlt : i < len0), f i = Classical.choose (key i hlt) := fun i hlt => dif_pos hlt
    have hadd : ∀ k, (a.add k).block = a.block := fun k => by unfold Addr.add; split <;> rfl
    refine ⟨(List.range len0).map f, by simp, some a, cap0, by simp, by simpa using hle, fun i t ht => ?_⟩
    rw [List.getElem?_map] at ht
    obtain ⟨j, hj, rfl⟩ := Option.map_eq_some_iff.1 ht
    obtain ⟨hlt, hje⟩ := List.getElem?_eq_some_iff.1 hj
    rw [List.length_range] at hlt
    rw [List.getElem_range] at hje
    subst hje
    rw [hff i hlt]
    have hk := Classical.choose_spec (key i hlt)
    have hin := cell_in hk.1
    rw [hadd] at hin
    exact ⟨a, rfl, hin, hk.1, hk.2⟩
set_option maxHeartbeats 2000000 in
set_option maxRecDepth 100000 in
theorem parts_long (n0 : Int) (ao : Option Addr) (n c : Nat) (hn : ¬ n ≤ 600) (w : World) :
    Calls Try.prog 5 #[.int .i64 n0, .slice ao n c] w fun e w' => e = .returned (.bool true) ∧ Below w.heap.size w w' := by
  have h3 : decide ((600 : Int) < (n : Int)) = true := decide_eq_true (by omega)
  go_enter Try.func5, Try.ntmps5
  go_wp2_with fail
  refine (knows7_any w).mono ?_
  rintro e w1 ⟨rfl, hb1⟩
  have HB1 := Lib.hid hb1
  clear hb1
  go_wp2_with fail
  go_ret
  exact ⟨rfl, HB1.out⟩
theorem parts_arg {H : Type} {enc : TypeId × Value → H} {W : World} {a0 : Option Addr} {len0 cap0 : Nat} {d : DataW H} {p : List MemPlace} (h : DataW.Trod enc Try.prog W 0 (fun _ => true) true 22 (.slice a0 len0 cap0) d p) (n0 : Int) :
    Calls Try.prog 5 #[.int .i64 n0, .slice a0 len0 cap0] W fun e w' => e = .returned (.bool true) ∧ Below W.heap.size W w' := by
  by_cases hle : len0 ≤ 600
  · obtain ⟨es, hl, hE⟩ := pairs_open h (by omega)
    exact parts_law n0 _ es W hE
  · exact parts_long n0 a0 len0 cap0 hle W
end Go.Proofs.Ytmoebpebahhbeaa
