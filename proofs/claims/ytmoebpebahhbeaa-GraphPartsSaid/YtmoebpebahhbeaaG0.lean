/-
  Layer 7: memory that a call makes itself: rows of numbers, rows of slices; which blocks were written. No walk.
-/
import Derived.Test.YtmoebpebahhbeaaRows
import Derived.WalkKit
import Derived.ProofKit
import Derived.OpenShut
import Derived.WalkSpells
import Derived.WalkSmall
import Derived.Lib.Hide
import Derived.Outline
import Derived.Below
import Derived.Carry
import Derived.Laws.OwnMore
import Derived.Maps.AppendAt
import Derived.Lib.Builder
import Derived.Deep.QuietTactic
import Derived.BigQuiet
import Derived.Deep.DeepCutAuto
import Derived.StillTailTactics
import Derived.Deep.DeepFit
namespace Go.Proofs.Ytmoebpebahhbeaa
set_option linter.unusedVariables false
open Go.ChangeShapes Go.WideShapes Go.ChangeAt Go.RowKit

theorem ret_int {k : IntKind} {a b : Int} (h : a = b) : Ending.returned (.int k a) = .returned (.int k b) := by rw [h]
theorem ret_bool {a b : Bool} (h : a = b) : Ending.returned (.bool a) = .returned (.bool b) := by rw [h]
theorem heap_lt {w : World} {k : Nat} {o : Obj} (h : w.heap[k]? = some o) : k < w.heap.size := by
  rcases Nat.lt_or_ge k w.heap.size with h2 | h2
  · exact h2
  · simp [Array.getElem?_eq_none h2] at h

/-- all blocks but those of S are as they were -/
structure Fx (S : Nat → Prop) (w w' : World) : Prop where
  os : w'.os = w.os
  tape : w'.tape = w.tape
  output : w'.output = w.output
  size : w.heap.size ≤ w'.heap.size
  block : ∀ k, k < w.heap.size → ¬ S k → w'.heap[k]? = w.heap[k]?
section
variable {S T : Nat → Prop} {w w1 w' : World}
theorem Fx.refl (S : Nat → Prop) (w : World) : Fx S w w := ⟨rfl, rfl, rfl, Nat.le_refl _, fun _ _ _ => rfl⟩
theorem Fx.trans (h : Fx S w w1) (k : Fx T w1 w') (hT : ∀ b, b < w.heap.size → T b → S b) : Fx S w w' :=
  ⟨k.os.trans h.os, k.tape.trans h.tape, k.output.trans h.output, Nat.le_trans h.size k.size, fun b hb hn => (k.block b (Nat.lt_of_lt_of_le hb h.size) (fun ht => hn (hT b hb ht))).trans (h.block b hb hn)⟩
theorem Fx.mono (h : Fx S w w') (hT : ∀ b, b < w.heap.size → S b → T b) : Fx T w w' := ⟨h.os, h.tape, h.output, h.size, fun b hb hn => h.block b hb fun hs => hn (hT b hb hs)⟩
theorem Fx.alloc (w : World) (o : Obj) : Fx S w (w.alloc o) := ⟨rfl, rfl, rfl, by simp, fun k hk _ => Below.heap_alloc w o k hk⟩
theorem Fx.drew (h : Fx S w w') : Fx S w w'.drew := ⟨h.os, h.tape, h.output, h.size, h.block⟩
theorem Fx.drewN (h : Fx S w w') (n : Nat) : Fx S w (w'.drewN n) := ⟨h.os, h.tape, h.output, h.size, h.block⟩
theorem Fx.set (w : World) (b j : Nat) (v : Value) (hS : S b) : Fx S w (w.setCell ⟨b, j, none⟩ v) := ⟨rfl, rfl, rfl, by simp, fun k _ hn => heap_setCell_other w ⟨b, j, none⟩ k v (fun e => hn (by subst e; exact hS))⟩
theorem Fx.grown {row : Option Nat} (h : w.grownBy w' row) (hS : ∀ k, row = some k → S k) : Fx S w w' := ⟨h.os, h.tape, h.output, h.size, fun k hk hn => h.block k hk fun e => hn (hS k e.symm)⟩
theorem Fx.of_below (h : Below w.heap.size w w') : Fx S w w' := ⟨h.os, h.tape, h.output, h.size, fun k hk _ => h.block k hk⟩
theorem Fx.below {B : Nat} (h : Fx S w w') (hB : B ≤ w.heap.size) (hS : ∀ b, b < B → ¬ S b) : Below B w w' := ⟨h.os, h.tape, h.output, h.size, fun k hk => h.block k (by omega) (hS k hk)⟩
theorem Fx.none (h : Fx S w w') (hS : ∀ b, b < w.heap.size → ¬ S b) : Below w.heap.size w w' := h.below (Nat.le_refl _) hS
theorem fx_row {B e s n : Nat} {v : Value} {xs : List Value} (h : w.ownsRow B e s v n xs) (hf : Fx S w w') (hn : ∀ b, v.ownBlock = some b → ¬ S b) : w'.ownsRow B e s v n xs := by
  refine ⟨h.1, ?_⟩
  rcases h.2 with h2 | ⟨g, cap, cur, hv, hB, hg, hr⟩
  · exact .inl h2
  · refine .inr ⟨g, cap, cur, hv, hB, ?_, hr⟩
    rw [hf.block g (heap_lt hg) (hn g (by rw [hv]; rfl))]
    exact hg
theorem fx_heap {b : Nat} {o : Obj} (h : w.heap[b]? = some o) (hf : Fx S w w') (hn : ¬ S b) : w'.heap[b]? = some o := (hf.block b (heap_lt h) hn).trans h
theorem fx_cell {b j : Nat} {v : Value} (h : w.cell? ⟨b, j, none⟩ = some v) (hf : Fx S w w') (hn : ¬ S b) : w'.cell? ⟨b, j, none⟩ = some v := by
  rw [World.cell?_of_block (hf.block b (World.block_lt_of_cell? w _ h) hn)]
  exact h
end

/-- the item at a place -/
def at0 (l : List Nat) (j : Nat) : Nat := l.getD j 0
def ats (l : List (List Nat)) (j : Nat) : List Nat := l.getD j []
/-- numbers as cells -/
def nv (l : List Nat) : List Value := l.map fun (x : Nat) => .int .i64 (x : Int)
/-- a node's group: 0: none; else one more than its number -/
def gv (l : List Nat) : List Value := l.map fun (x : Nat) => .int .i64 ((x : Int) - 1)
/-- steps: pairs of numbers, one behind the other -/
def rv (l : List (Nat × Nat)) : List Value := l.flatMap fun x => [.int .i64 (x.1 : Int), .int .i64 (x.2 : Int)]
theorem nv_len (l : List Nat) : (nv l).length = l.length := by simp [nv]
theorem gv_len (l : List Nat) : (gv l).length = l.length := by simp [gv]
theorem rv_len (l : List (Nat × Nat)) : (rv l).length = l.length * 2 := by
  induction l with
  | nil => rfl
  | cons x l ih => simp only [rv, List.flatMap_cons, List.length_append, List.length_cons, List.length_nil] at ih ⊢; omega
theorem nv_at {l : List Nat} {j : Nat} (h : j < l.length) : (nv l)[j]? = some (.int .i64 (at0 l j : Nat)) := by
  simp [nv, at0, List.getD, List.getElem?_eq_getElem h]
theorem gv_at {l : List Nat} {j : Nat} (h : j < l.length) : (gv l)[j]? = some (.int .i64 ((at0 l j : Nat) - 1)) := by
  simp [gv, at0, List.getD, List.getElem?_eq_getElem h]
theorem rv_cons (x : Nat × Nat) (l : List (Nat × Nat)) : rv (x :: l) = .int .i64 (x.1 : Int) :: .int .i64 (x.2 : Int) :: rv l := rfl
theorem rv_append (l r : List (Nat × Nat)) : rv (l ++ r) = rv l ++ rv r := by simp [rv]
theorem nv_append (l r : List Nat) : nv (l ++ r) = nv l ++ nv r := by simp [nv]
theorem nv_set (l : List Nat) (j x : Nat) : nv (l.set j x) = (nv l).set j (.int .i64 (x : Int)) := by simp [nv, List.map_set]
theorem gv_set (l : List Nat) (j x : Nat) : gv (l.set j x) = (gv l).set j (.int .i64 ((x : Int) - 1)) := by simp [gv, List.map_set]
theorem rv_snoc0 (l : List (Nat × Nat)) (a k : Nat) : (rv (l ++ [(a, k)]))[l.length * 2]? = some (.int .i64 (a : Int)) := by
  rw [rv_append, List.getElem?_append_right (by rw [rv_len]; omega), rv_len]; simp [rv]
theorem rv_snoc1 (l : List (Nat × Nat)) (a k : Nat) : (rv (l ++ [(a, k)]))[l.length * 2 + 1]? = some (.int .i64 (k : Int)) := by
  rw [rv_append, List.getElem?_append_right (by rw [rv_len]; omega), rv_len]; simp [rv]
theorem rv_next (l : List (Nat × Nat)) (a k m : Nat) : (rv (l ++ [(a, k)])).set (l.length * 2 + 1) (.int .i64 (m : Int)) = rv (l ++ [(a, m)]) := by
  rw [rv_append, rv_append, List.set_append_right _ _ (by rw [rv_len]; omega), rv_len]
  simp [rv]

/-- slices of numbers, each in blocks that P tells -/
structure Rws (w : World) (B : Nat) (P : Nat → Prop) (vs : List Value) (ls : List (List Nat)) : Prop where
  len : vs.length = ls.length
  row : ∀ (i : Nat) (v : Value) (l : List Nat), vs[i]? = some v → ls[i]? = some l → w.ownsRow B 3 1 v l.length (nv l)
  tag : ∀ (i : Nat) (v : Value), vs[i]? = some v → ∀ b, v.ownBlock = some b → P b
theorem Rws.nil (w : World) (B : Nat) (P : Nat → Prop) : Rws w B P [] [] := ⟨rfl, fun i v l h => by simp at h, fun i v h => by simp at h⟩
theorem Rws.fx {S P : Nat → Prop} {w w' : World} {B : Nat} {vs : List Value} {ls : List (List Nat)} (h : Rws w B P vs ls) (hf : Fx S w w') (hn : ∀ b, P b → ¬ S b) : Rws w' B P vs ls :=
  ⟨h.len, fun i v l h1 h2 => fx_row (h.row i v l h1 h2) hf fun b hb => hn b (h.tag i v h1 b hb), h.tag⟩
theorem Rws.mono {P P' : Nat → Prop} {w : World} {B : Nat} {vs : List Value} {ls : List (List Nat)} (h : Rws w B P vs ls) (hp : ∀ b, b < w.heap.size → P b → P' b) : Rws w B P' vs ls :=
  ⟨h.len, h.row, fun i v h1 b hb => by
    have hi := (List.getElem?_eq_some_iff.1 h1).1
    exact hp b ((h.row i v _ h1 (List.getElem?_eq_getElem (by rw [← h.len]; exact hi))).lt b hb).2 (h.tag i v h1 b hb)⟩
theorem Rws.snoc {P : Nat → Prop} {w : World} {B : Nat} {vs : List Value} {ls : List (List Nat)} (h : Rws w B P vs ls) {v : Value} {l : List Nat} (hr : w.ownsRow B 3 1 v l.length (nv l)) (ht : ∀ b, v.ownBlock = some b → P b) : Rws w B P (vs ++ [v]) (ls ++ [l]) := by
  refine ⟨by simp [h.len], fun i u k h1 h2 => ?_, fun i u h1 => ?_⟩
  · by_cases hi : i < vs.length
    · rw [List.getElem?_append_left hi] at h1
      rw [List.getElem?_append_left (by rw [← h.len]; exact hi)] at h2
      exact h.row i u k h1 h2
    · have : i = vs.length := by have := (List.getElem?_eq_some_iff.1 h1).1; simp at this; omega
      subst this
      rw [List.getElem?_append_right (by omega)] at h1
      rw [h.len, List.getElem?_append_right (by omega)] at h2
      simp at h1 h2
      subst h1 h2
      exact hr
  · by_cases hi : i < vs.length
    · rw [List.getElem?_append_left hi] at h1
      exact h.tag i u h1
    · have : i = vs.length := by have := (List.getElem?_eq_some_iff.1 h1).1; simp at this; omega
      subst this
      rw [List.getElem?_append_right (by omega)] at h1
      simp at h1
      subst h1
      exact ht
theorem Rws.at {P : Nat → Prop} {w : World} {B : Nat} {vs : List Value} {ls : List (List Nat)} (h : Rws w B P vs ls) {i : Nat} (hi : i < ls.length) : ∃ v, vs[i]? = some v ∧ w.ownsRow B 3 1 v (ats ls i).length (nv (ats ls i)) ∧ ∀ b, v.ownBlock = some b → P b := by
  have hv : i < vs.length := by rw [h.len]; exact hi
  refine ⟨vs[i], List.getElem?_eq_getElem hv, h.row i _ _ (List.getElem?_eq_getElem hv) ?_, h.tag i _ (List.getElem?_eq_getElem hv)⟩
  simp [ats, List.getD, List.getElem?_eq_getElem hi]
theorem owns_form {w : World} {B : Nat} {e : TypeId} {s : Nat} {v : Value} {n : Nat} {xs : List Value} (h : w.ownsRow B e s v n xs) : ∃ ao cap, v = .slice ao n cap := by
  rcases h.2 with ⟨rfl, rfl⟩ | ⟨g, cap, cur, rfl, _⟩
  · exact ⟨_, _, rfl⟩
  · exact ⟨_, _, rfl⟩
theorem owns_some {w : World} {B : Nat} {e : TypeId} {s : Nat} {v : Value} {n : Nat} {xs : List Value} (h : w.ownsRow B e s v n xs) (hn : 0 < n) : ∃ g cap, v = .slice (some ⟨g, 0, none⟩) n cap ∧ v.ownBlock = some g := by
  rcases h.2 with ⟨rfl, rfl⟩ | ⟨g, cap, cur, rfl, _⟩
  · omega
  · exact ⟨_, _, rfl, rfl⟩
/-- the cell of a number -/
theorem num_cell {w : World} {B n g cap : Nat} {l : List Nat} (h : w.ownsRow B 3 1 (.slice (some ⟨g, 0, none⟩) n cap) n (nv l)) {j : Nat} (hj : j < l.length) : w.cell? ⟨g, j, none⟩ = some (.int .i64 (at0 l j : Nat)) := by
  have := h.1
  rw [nv_len] at this
  rw [h.cellAt j (by omega), nv_at hj]
theorem grp_cell {w : World} {B n g cap : Nat} {l : List Nat} (h : w.ownsRow B 3 1 (.slice (some ⟨g, 0, none⟩) n cap) n (gv l)) {j : Nat} (hj : j < l.length) : w.cell? ⟨g, j, none⟩ = some (.int .i64 ((at0 l j : Nat) - 1)) := by
  have := h.1
  rw [gv_len] at this
  rw [h.cellAt j (by omega), gv_at hj]
theorem val_cell {w : World} {B n g cap : Nat} {e : TypeId} {l : List Value} (h : w.ownsRow B e 1 (.slice (some ⟨g, 0, none⟩) n cap) n l) {j : Nat} {v : Value} (hj : l[j]? = some v) : w.cell? ⟨g, j, none⟩ = some v := by
  have := h.1
  have := (List.getElem?_eq_some_iff.1 hj).1
  rw [h.cellAt j (by omega), hj]
theorem cells_new (W : World) (cs : List Value) (t : TypeId) : ∀ j u, cs[j]? = some u → (W.alloc (.cells cs.toArray t)).cell? ((⟨W.heap.size, 0, none⟩ : Addr).add j) = some u := by
  intro j u hj
  have hadd : (⟨W.heap.size, 0, none⟩ : Addr).add j = ⟨W.heap.size, j, none⟩ := by unfold Addr.add; split <;> simp_all
  rw [hadd, Lib.cell_of_heap (heap_alloc_new W _)]
  simpa using hj
end Go.Proofs.Ytmoebpebahhbeaa
