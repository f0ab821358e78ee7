/- Texts of this proof, joined: Gath2, RowLd, OwnDM. No condition. -/
import Derived.Test.YtkdhoelabomgkaaGreatDoorMa33
import Derived.Test.YtkdhoelabomgkaaGreatDoorMa24
import Derived.Test.YtkdhoelabomgkaaGreatDoorMa32
import Derived.Test.YtkdhoelabomgkaaGreatDoorMa17
import Derived.Test.YtkdhoelabomgkaaGreatDoorMa01
import Derived.Laws.AppendOwnNone
/-
  Layer 3: rows gathered, which may also lead to blocks that stood ahead. No walk.
-/
namespace Go.Proofs.YtkdhoelabomgkaaGreatDoor
set_option linter.unusedVariables false
open Go.ChangeShapes Go.WideShapes Go.ChangeAt Go.RowKit

/-- a block that stood ahead, or one of the call's own -/
def Mine (B0 : Nat) (w w' : World) : Nat → Prop := fun b => b < B0 ∨ Own w w' b
/-- rows that have been gathered: what these lead to lies in blocks that stood ahead (below B0) or of the call's own, but not in this row's -/
def Gath2 (B0 : Nat) {α : Type} (f : α → List Dt) (sz : Nat) (B : Nat) (w : World) (v : Value) (l : List α) (k : Nat) (vals : List Value) : Prop :=
  ∀ j t, j < k → l[j]? = some t → ∃ vs, IsVs w (fun b => b < B0 ∨ ((B ≤ b ∧ b < w.heap.size) ∧ v.ownBlock ≠ some b)) (f t) vs ∧ vs.length = sz ∧ ∀ i u, vs[i]? = some u → vals[j * sz + i]? = some u
theorem Gath2.next {B0 : Nat} {α : Type} {f : α → List Dt} {sz B : Nat} {w w1 w2 : World} {o : Obj} {v v' : Value} {l : List α} {k : Nat} {vals vs : List Value} {t : α} (h : Gath2 B0 f sz B w v l k vals) (hB0 : B0 ≤ B) (hB : B ≤ w.heap.size)
    (ht : l[k]? = some t) (hlen : vals.length = k * sz) (hvl : vs.length = sz) (hvs : IsVs w1 (Mine B0 w w1) (f t) vs) (hown : ∀ g, v.ownBlock = some g → B ≤ g ∧ g < w.heap.size)
    (hb : Below w.heap.size w w1) (hg : (w1.alloc o).grownBy w2 v.ownBlock) (hat : v'.ownBlock = v.ownBlock ∨ v'.ownBlock = some (w1.alloc o).heap.size) : Gath2 B0 f sz B w2 v' l (k + 1) (vals ++ vs) := by
  have hz1 := hb.size
  have ha1 : (w1.alloc o).heap.size = w1.heap.size + 1 := by simp
  have hz2 := hg.size
  have keep : ∀ b, b < w1.heap.size → some b ≠ v.ownBlock → w2.heap[b]? = w1.heap[b]? := fun b hb1 hb2 => by
    rw [hg.block b (by omega) hb2]
    exact Below.heap_alloc w1 o b hb1
  have fresh : ∀ b, b < w1.heap.size → v.ownBlock ≠ some b → v'.ownBlock ≠ some b := fun b hb1 hb2 => by
    rcases hat with e | e
    · rw [e]; exact hb2
    · rw [e]; intro e2; have := Option.some.inj e2; omega
  have low : ∀ b, b < B0 → v.ownBlock ≠ some b := fun b hb1 e => by have := (hown b e).1; omega
  intro j x hj hx
  by_cases hjk : j < k
  · obtain ⟨us, u1, u2, u3⟩ := h j x hjk hx
    refine ⟨us, ?_, u2, fun i u hi => ?_⟩
    · have hst : IsVs w2 (fun b => b < B0 ∨ ((B ≤ b ∧ b < w.heap.size) ∧ v.ownBlock ≠ some b)) (f x) us := IsVs.stay (fun b hP hbw => by
        rcases hP with hP | hP
        · rw [keep b (by omega) (fun e => low b hP e.symm)]
          exact hb.block b hbw
        · rw [keep b (by omega) (fun e => hP.2 e.symm)]
          exact hb.block b hbw) _ _ u1
      exact IsVs.mono (fun b hP => by
        rcases hP with hP | hP
        · exact .inl hP
        · exact .inr ⟨⟨hP.1.1, by have := hP.1.2; omega⟩, fresh b (by have := hP.1.2; omega) hP.2⟩) _ _ hst
    · have := u3 i u hi
      have hlt : j * sz + i < vals.length := (List.getElem?_eq_some_iff.1 this).1
      rw [List.getElem?_append_left hlt]
      exact this
  · obtain rfl : j = k := by omega
    obtain rfl : t = x := Option.some.inj (ht.symm.trans hx)
    refine ⟨vs, ?_, hvl, fun i u hi => ?_⟩
    · have hne : ∀ b, Mine B0 w w1 b → v.ownBlock ≠ some b := fun b hb1 e => by
        rcases hb1 with q | q
        · exact low b q e
        · have := (hown b e).2; have := q.1; omega
      have hst : IsVs w2 (Mine B0 w w1) (f t) vs := IsVs.stay (fun b hP hbw => keep b hbw (fun e => hne b hP e.symm)) _ _ hvs
      exact IsVs.mono (fun b hP => by
        rcases hP with q | q
        · exact .inl q
        · exact .inr ⟨⟨by have := q.1; omega, by have := q.2; omega⟩, fresh b q.2 (hne b (.inr q))⟩) _ _ hst
    · rw [List.getElem?_append_right (by omega), hlen, Nat.add_sub_cancel_left]
      exact hi
theorem Gath2.move {B0 : Nat} {α : Type} {f : α → List Dt} {sz B : Nat} {w w' : World} {v : Value} {l : List α} {k : Nat} {vals : List Value} (h : Gath2 B0 f sz B w v l k vals) (hs : ∀ b, (b < B0 ∨ B ≤ b) → b < w.heap.size → w'.heap[b]? = w.heap[b]?) (hz : w'.heap.size = w.heap.size) : Gath2 B0 f sz B w' v l k vals := fun j t hj ht => by
  obtain ⟨us, u1, u2, u3⟩ := h j t hj ht
  refine ⟨us, ?_, u2, u3⟩
  rw [hz]
  exact IsVs.stay (fun b hP hb => hs b (hP.imp id fun q => q.1.1) hb) _ _ u1
theorem Gath2.done {B0 : Nat} {α : Type} {f : α → List Dt} {sz B : Nat} {w : World} {e : TypeId} {v : Value} {l : List α} {vals : List Value} (h : Gath2 B0 f sz B w v l l.length vals) (ho : w.ownsRow B e sz v l.length vals) :
    IsC w (fun b => b < B0 ∨ (B ≤ b ∧ b < w.heap.size)) (.l sz (l.map f)) v := by
  unfold IsC
  rw [List.length_map]
  have hlt := ho.lt
  have hcells := @World.ownsRow.cells w B e sz v l.length vals ho
  rcases ho.2 with ⟨h1, h2⟩ | ⟨g, cap, cur, hv, h3, h4, h5, h6, _⟩
  · have : l = [] := List.length_eq_zero_iff.1 h2
    subst this
    exact .inl ⟨h1, rfl⟩
  · subst hv
    refine .inr ⟨⟨g, 0, none⟩, cap, rfl, h5, h6, fun _ => .inr (hlt g rfl), IsRows.of_get _ _ fun k r hk => ?_⟩
    rw [List.getElem?_map] at hk
    obtain ⟨t, ht, rfl⟩ := Option.map_eq_some_iff.1 hk
    obtain ⟨vs, u1, u2, u3⟩ := h k t (List.getElem?_eq_some_iff.1 ht).1 ht
    refine IsRow.of_vals _ _ vs (IsVs.mono (fun b hP => hP.imp id fun q => q.1) _ _ u1) fun j u hj => ?_
    rw [add_add2]
    exact hcells rfl _ _ (u3 j u hj)
/-- an expression at other places, as the law makes it -/
def MovE (t : Ex) : Prop := ∀ (B0 : Nat) (b : Int) (vs : List Value) (w : World), B0 ≤ w.heap.size → -9223372036854775808 ≤ b → b ≤ 9223372036854775807 → IsVs w (fun b => b < B0) t.row vs →
  Calls Tryz.prog 29 #[.agg vs.toArray, .int .i64 b] w fun e w' => ∃ vs', e = .returned (.agg vs'.toArray) ∧ IsVs w' (Mine B0 w w') (t.mv b).row vs' ∧ Below w.heap.size w w'
end Go.Proofs.YtkdhoelabomgkaaGreatDoor
/-
  Layer 3: a whole struct, a row's cells, read in whatever world behind this one. No walk.
-/
namespace Go.Proofs.YtkdhoelabomgkaaGreatDoor
set_option linter.unusedVariables false
open Go.ChangeShapes Go.WideShapes Go.ChangeAt Go.RowKit

/-- a whole struct is read, whenever -/
theorem yields_load {P : Program} {ops : Array Oper} {S : World → Prop} {o : Oper} {a : Act} (ty : TypeId) (x : Operand) (ho : o.op = .load ty x) (A : Addr) (hx : a.eval x = .pointer (some A)) (cs : Array Value) (hl : ∀ V, S V → (loadVar ty A).run P V = .ok (.agg cs) V) (hw : Region.wanted o (yielded ops a.tmps) = true) : YieldsIf P ops S o (.agg cs) a :=
  .inl ⟨hw, fun V hV => by
    unfold execOp
    simp only [ho, hx, Instr.loadAt, Instr.sureAddr, Sem.run_bind, Sem.run_pure, Result.andThen_ok, hl V hV]⟩
/-- the cells of a row, read in whatever world behind this one -/
theorem row_load {w : World} {P : Nat → Prop} {r : List Dt} {A : Addr} (h : IsRow w P r A) (ty : TypeId) (hu : ∃ d, Tryz.prog.underlying ty = some d ∧ d.isRow = true) (hi : (Tryz.prog.info? ty).map (·.size) = some r.length) :
    ∃ vs : List Value, IsVs w P r vs ∧ ∀ V : World, Below w.heap.size w V → (loadVar ty A).run Tryz.prog V = .ok (.agg vs.toArray) V := by
  obtain ⟨vs, h1, h2, h3⟩ := IsRow.vals r A h
  obtain ⟨d, hd1, hd2⟩ := hu
  exact ⟨vs, h1, fun V hV => loadVar_wide V ty A vs d (fun j v hj => (hV.cell (Lib.lt_of_cell (h3 j v hj))).trans (h3 j v hj)) hd1 hd2 (by rw [h2]; exact hi)⟩
def Al.body' : Al → Ex
  | .mk _ e => e
end Go.Proofs.YtkdhoelabomgkaaGreatDoor
/-
  Layer 3, the law's side: texts that are appended to a slice of the call's own; declarations as values. No walk.
-/
namespace Go.Proofs.YtkdhoelabomgkaaGreatDoor
set_option linter.unusedVariables false
open Go.ChangeShapes Go.WideShapes Go.ChangeAt Go.RowKit

theorem info_tx : (Tryz.prog.info? 9).map (fun i => (i.zero, i.size, i.bytes)) = some (some (.string ⟨#[]⟩), 1, 16) := by kernel_rfl
theorem info_de2 : (Tryz.prog.info? 95).map (fun i => (i.zero, i.size, i.bytes)) = some (some (.agg #[.int .i64 0, .int .i64 0, .string ⟨#[]⟩, .slice none 0 0, .slice none 0 0, .int .i64 0, .int .i64 0, .string ⟨#[]⟩, .slice none 0 0, .slice none 0 0, .int .i64 0, .int .i64 0, .string ⟨#[]⟩, .int .i64 0, .slice none 0 0, .slice none 0 0, .slice none 0 0, .slice none 0 0]), 18, 296) := by kernel_rfl
theorem info_co : (Tryz.prog.info? 99).map (fun i => (i.zero, i.size, i.bytes)) = some (some (.agg #[.int .i64 0, .string ⟨#[]⟩, .slice none 0 0]), 3, 48) := by kernel_rfl
theorem grown_refl (w : World) (row : Option Nat) : w.grownBy w row := ⟨rfl, rfl, rfl, Nat.le_refl _, fun _ _ _ => rfl⟩
/-- all of some texts appended to a slice of no items of the call's own -/
theorem append_txs {ops : Array Oper} {rest : List Oper} {o : Oper} {a : Act} {w : World} {Q : Exit → Act → World → Prop} (hgd : o.guard = none) (s x : Operand) (ho : o.op = .call { callee := .builtin .append, args := #[s, x], argTypes := #[89, 89] })
    (g : Nat) (hs : a.eval s = .slice (some ⟨g, 0, none⟩) 0 0) (hg : w.heap[g]? = some (.cells #[] 9 (0, 0))) {P : Nat → Prop} {vs : List ByteArray} {va : Option Addr} {vb : Nat} (hv : IsTxs w P (.slice va vs.length vb) vs) (hlen : vs.length ≤ 2000000) (hx : a.eval x = .slice va vs.length vb)
    (h : ∀ v' w', w'.ownsRow g 9 1 v' vs.length (vs.map Value.string) → w.grownBy w' (some g) → (v'.ownBlock = some g ∨ v'.ownBlock = some w.heap.size) → wpList Tryz.prog ops Q rest (a.put o.dst v') w') : wpList Tryz.prog ops Q (o :: rest) a w := by
  obtain ⟨i0, hi, hz0, hz1, hz2⟩ := info_parts' info_tx
  have hglt := heap_lt hg
  have hown : w.ownsRow g 9 1 (.slice (some ⟨g, 0, none⟩) 0 0) 0 [] := ⟨rfl, .inr ⟨g, 0, #[], rfl, Nat.le_refl _, hg, Nat.le_refl _, Nat.zero_le _, rfl, rfl⟩⟩
  have hv' := hv.out
  unfold IsC at hv'
  rw [List.length_map] at hv'
  rcases hv' with ⟨h1, h2⟩ | ⟨ad, cap, h1, h2, h3, _, h4⟩
  · have hn : vs = [] := List.map_eq_nil_iff.1 h2
    subst hn
    have hva : va = none ∧ vb = 0 := by injection h1 with e1 e2 e3; exact ⟨e1, e3⟩
    obtain ⟨rfl, rfl⟩ := hva
    refine wpList_append_own_none hgd s x _ ho g 9 i0 1 Tryz.underlying89 hi _ 0 [] hs hown hx ?_
    exact h _ w hown (grown_refl _ _) (.inl rfl)
  · have hva : va = some ad := by injection h1
    subst hva
    refine wpList_append_own_at w hgd s x _ ho g 9 i0 _ 1 16 Tryz.underlying89 hi hz0 hz1 hz2 rfl (by decide) _ 0 [] hs hown ad vs.length vb (vs.map Value.string) hx (by simp) (fun j u hj => ?_) (fun u hu => ?_) (by unfold maxLen; omega) (by omega) (by omega) fun v' w' h5 h6 _ h7 => ?_
    · rw [List.getElem?_map] at hj
      obtain ⟨t, ht, rfl⟩ := Option.map_eq_some_iff.1 hj
      have hr := h4.get _ ad j [Dt.s t] (by rw [List.getElem?_map, ht]; rfl)
      rw [Nat.mul_one] at hr
      exact (IsTx.cell ⟨hr⟩).1
    · obtain ⟨t, _, rfl⟩ := List.mem_map.1 hu
      rfl
    · rw [Nat.zero_add, List.nil_append] at h5
      exact h v' w' h5 h6 h7
theorem txs_sizes {P : Nat → Prop} {w : World} {vs : List ByteArray} {va : Option Addr} {vb : Nat} (hv : IsTxs w P (.slice va vs.length vb) vs) : ∀ t ∈ vs, t.size ≤ maxLen := fun t ht => by
  obtain ⟨k, hk⟩ := List.getElem?_of_mem ht
  obtain ⟨a, _, _, h⟩ := hv.at hk
  exact h.cell.2
theorem txs_of_row {w : World} {g : Nat} {v : Value} {vs : List ByteArray} (h : w.ownsRow g 9 1 v vs.length (vs.map Value.string)) (hm : ∀ t ∈ vs, t.size ≤ maxLen) : IsTxs w (fun b => v.ownBlock = some b) v vs := by
  have hlt := h.lt
  have hcells := @World.ownsRow.cells w g 9 1 v vs.length _ h
  refine ⟨?_⟩
  unfold IsC
  rw [List.length_map]
  rcases h.2 with ⟨h1, h2⟩ | ⟨b, cap, cur, hv, h3, h4, h5, h6, _⟩
  · have : vs = [] := List.length_eq_zero_iff.1 h2
    subst this
    exact .inl ⟨h1, rfl⟩
  · subst hv
    refine .inr ⟨⟨b, 0, none⟩, cap, rfl, h5, h6, fun _ => rfl, IsRows.of_get _ _ fun k r hk => ?_⟩
    rw [List.getElem?_map] at hk
    obtain ⟨t, ht, rfl⟩ := Option.map_eq_some_iff.1 hk
    rw [Nat.mul_one]
    refine IsRow.of_vals _ _ [.string t] ⟨_, _, rfl, (by unfold IsC; exact ⟨rfl, hm t (List.mem_of_getElem? ht)⟩), rfl⟩ fun j u hj => ?_
    match j, hj with
    | 0, hj =>
      simp at hj
      subst hj
      rw [add_zero2]
      exact hcells rfl k _ (by rw [List.getElem?_map, ht]; rfl)
/-- a declaration's cells as values, out of its parts' -/
theorem de_vs_mk {P : Nat → Prop} {w : World} {k p yk yp : Int} {n yn : ByteArray} {vs : List ByteArray} {cs : List Co} {yl : List Ty} {ps : List Pa} {e : Ex} {v3 v4 v8 v9 : Value} {es : List Value} (hn : n.size ≤ maxLen) (hyn : yn.size ≤ maxLen) (h3 : IsTxs w P v3 vs) (h4 : IsCos w P v4 cs) (h8 : IsTys w P v8 yl) (h9 : IsPas w P v9 ps) (he : IsVs w P e.row es) :
    IsVs w P (De.row (.mk k p n vs cs (.mk yk yp yn yl) ps e)) ([.int .i64 k, .int .i64 p, .string n, v3, v4] ++ ([.int .i64 yk, .int .i64 yp, .string yn, v8] ++ (v9 :: es))) := by
  unfold De.row
  refine IsVs.join _ _ _ _ ?_ (IsVs.join _ _ _ _ ?_ ?_)
  · exact ⟨_, _, rfl, (by unfold IsC; rfl), _, _, rfl, (by unfold IsC; rfl), _, _, rfl, (by unfold IsC; exact ⟨rfl, hn⟩), _, _, rfl, h3.out, _, _, rfl, h4.out, rfl⟩
  · unfold Ty.row
    exact ⟨_, _, rfl, (by unfold IsC; rfl), _, _, rfl, (by unfold IsC; rfl), _, _, rfl, (by unfold IsC; exact ⟨rfl, hyn⟩), _, _, rfl, h8.out, rfl⟩
  · exact ⟨v9, es, rfl, (by rw [Pa.rows_map]; exact h9.out), he⟩
/-- a declaration whose parts can be made the program's -/
def OwnD : De → Prop
  | .mk _ _ _ vs cs (.mk _ _ _ tl) ps e => vs.length ≤ 2000000 ∧ cs.length ≤ 1000000 ∧ OwnTs tl ∧ OwnPs ps ∧ OwnE e ∧ ∀ c ∈ cs, OwnTs c.args
end Go.Proofs.YtkdhoelabomgkaaGreatDoor
