/- Texts of this proof, joined: OwnDM. No condition. -/
import Derived.Test.YtdiffpiapdghoaaGreatDoorRa36
import Derived.Laws.AppendOwnNone
/-
  Layer 3, the law's side: texts that are appended to a slice of the call's own; declarations as values. No walk.
-/
namespace Go.Proofs.YtdiffpiapdghoaaGreatDoor
set_option linter.unusedVariables false
open Go.ChangeShapes Go.WideShapes Go.ChangeAt Go.RowKit

theorem info_tx : (Tryz.prog.info? 9).map (fun i => (i.zero, i.size, i.bytes)) = some (some (.string ⟨#[]⟩), 1, 16) := by kernel_rfl
theorem info_de2 : (Tryz.prog.info? 95).map (fun i => (i.zero, i.size, i.bytes)) = some (some (.agg #[.int .i64 0, .int .i64 0, .string ⟨#[]⟩, .slice none 0 0, .slice none 0 0, .int .i64 0, .int .i64 0, .string ⟨#[]⟩, .slice none 0 0, .slice none 0 0, .int .i64 0, .int .i64 0, .string ⟨#[]⟩, .int .i64 0, .slice none 0 0, .slice none 0 0, .slice none 0 0, .slice none 0 0]), 18, 296) := by kernel_rfl
theorem info_co : (Tryz.prog.info? 99).map (fun i => (i.zero, i.size, i.bytes)) = some (some (.agg #[.int .i64 0, .string ⟨#[]⟩, .slice none 0 0]), 3, 48) := by kernel_rfl
theorem grown_refl (w : World) (row : Option Nat) : w.grownBy w row := ⟨rfl, rfl, rfl, Nat.le_refl _, fun _ _ _ => rfl⟩
/-- all of some texts appended to a slice of no items of the call's own -/
theorem append_txs {ops : Array Oper} {rest : List Oper} {o : Oper} {a : Act} {w : World} {Q : Exit → Act → World → Prop} (hgd : o.guard = none) (s x : Operand) (ho : o.op = .call { callee := .builtin .append, args := #[s, x], argTypes := #[89, 89] })
    (g : Nat) (hs : a.eval s = .slice (some ⟨g, 0, none⟩) 0 0) (hg : w.heap[g]? = some (.cells #[] 9 (0, 0))) {P : Nat → Prop} {vs : List ByteArray} {va : Option Addr} {vb : Nat} (hv : IsTxs w P (.slice va vs.length vb) vs) (hlen : vs.length ≤ 2000000) (hx : a.eval x = .slice va vs.length vb)
    (h : ∀ v' w', w'.ownsRow g 9 1 v' vs.length (vs.map Value.string) → w.grownBy w' (some g) → (v'.ownBlock = some g ∨ v'.ownBlock = some w.heap.size) → wpList Tryz.prog ops Q rest (a.put o.dst v') w') : wpList Tryz.prog ops Q (o :: rest) a w := by
  obtain ⟨i0, hi, hz0, hz1, hz2⟩ := info_parts' info_tx
  have hglt := heap_lt hg
  have hown : w.ownsRow g 9 1 (.slice (some ⟨g, 0, none⟩) 0 0) 0 [] := ⟨rfl, .inr ⟨g, 0, #[], rfl, Nat.le_refl _, hg, Nat.le_refl _, Nat.zero_le _, rfl, rfl⟩⟩
  have hv' := hv.out
  unfold IsC at hv'
  rw [List.length_map] at hv'
  rcases hv' with ⟨h1, h2⟩ | ⟨ad, cap, h1, h2, h3, _, h4⟩
  · have hn : vs = [] := List.map_eq_nil_iff.1 h2
    subst hn
    have hva : va = none ∧ vb = 0 := by injection h1 with e1 e2 e3; exact ⟨e1, e3⟩
    obtain ⟨rfl, rfl⟩ := hva
    refine wpList_append_own_none hgd s x _ ho g 9 i0 1 Tryz.underlying89 hi _ 0 [] hs hown hx ?_
    exact h _ w hown (grown_refl _ _) (.inl rfl)
  · have hva : va = some ad := by injection h1
    subst hva
    refine wpList_append_own_at w hgd s x _ ho g 9 i0 _ 1 16 Tryz.underlying89 hi hz0 hz1 hz2 rfl (by decide) _ 0 [] hs hown ad vs.length vb (vs.map Value.string) hx (by simp) (fun j u hj => ?_) (fun u hu => ?_) (by unfold maxLen; omega) (by omega) (by omega) fun v' w' h5 h6 _ h7 => ?_
    · rw [List.getElem?_map] at hj
      obtain ⟨t, ht, rfl⟩ := Option.map_eq_some_iff.1 hj
      have hr := h4.get _ ad j [Dt.s t] (by rw [List.getElem?_map, ht]; rfl)
      rw [Nat.mul_one] at hr
      exact (IsTx.cell ⟨hr⟩).1
    · obtain ⟨t, _, rfl⟩ := List.mem_map.1 hu
      rfl
    · rw [Nat.zero_add, List.nil_append] at h5
      exact h v' w' h5 h6 h7
theorem txs_sizes {P : Nat → Prop} {w : World} {vs : List ByteArray} {va : Option Addr} {vb : Nat} (hv : IsTxs w P (.slice va vs.length vb) vs) : ∀ t ∈ vs, t.size ≤ maxLen := fun t ht => by
  obtain ⟨k, hk⟩ := List.getElem?_of_mem ht
  obtain ⟨a, _, _, h⟩ := hv.at hk
  exact h.cell.2
theorem txs_of_row {w : World} {g : Nat} {v : Value} {vs : List ByteArray} (h : w.ownsRow g 9 1 v vs.length (vs.map Value.string)) (hm : ∀ t ∈ vs, t.size ≤ maxLen) : IsTxs w (fun b => v.ownBlock = some b) v vs := by
  have hlt := h.lt
  have hcells := @World.ownsRow.cells w g 9 1 v vs.length _ h
  refine ⟨?_⟩
  unfold IsC
  rw [List.length_map]
  rcases h.2 with ⟨h1, h2⟩ | ⟨b, cap, cur, hv, h3, h4, h5, h6, _⟩
  · have : vs = [] := List.length_eq_zero_iff.1 h2
    subst this
    exact .inl ⟨h1, rfl⟩
  · subst hv
    refine .inr ⟨⟨b, 0, none⟩, cap, rfl, h5, h6, fun _ => rfl, IsRows.of_get _ _ fun k r hk => ?_⟩
    rw [List.getElem?_map] at hk
    obtain ⟨t, ht, rfl⟩ := Option.map_eq_some_iff.1 hk
    rw [Nat.mul_one]
    refine IsRow.of_vals _ _ [.string t] ⟨_, _, rfl, (by unfold IsC; exact ⟨rfl, hm t (List.mem_of_getElem? ht)⟩), rfl⟩ fun j u hj => ?_
    match j, hj with
    | 0, hj =>
      simp at hj
      subst hj
      rw [add_zero2]
      exact hcells rfl k _ (by rw [List.getElem?_map, ht]; rfl)
/-- a declaration's cells as values, out of its parts' -/
theorem de_vs_mk {P : Nat → Prop} {w : World} {k p yk yp : Int} {n yn : ByteArray} {vs : List ByteArray} {cs : List Co} {yl : List Ty} {ps : List Pa} {e : Ex} {v3 v4 v8 v9 : Value} {es : List Value} (hn : n.size ≤ maxLen) (hyn : yn.size ≤ maxLen) (h3 : IsTxs w P v3 vs) (h4 : IsCos w P v4 cs) (h8 : IsTys w P v8 yl) (h9 : IsPas w P v9 ps) (he : IsVs w P e.row es) :
    IsVs w P (De.row (.mk k p n vs cs (.mk yk yp yn yl) ps e)) ([.int .i64 k, .int .i64 p, .string n, v3, v4] ++ ([.int .i64 yk, .int .i64 yp, .string yn, v8] ++ (v9 :: es))) := by
  unfold De.row
  refine IsVs.join _ _ _ _ ?_ (IsVs.join _ _ _ _ ?_ ?_)
  · exact ⟨_, _, rfl, (by unfold IsC; rfl), _, _, rfl, (by unfold IsC; rfl), _, _, rfl, (by unfold IsC; exact ⟨rfl, hn⟩), _, _, rfl, h3.out, _, _, rfl, h4.out, rfl⟩
  · unfold Ty.row
    exact ⟨_, _, rfl, (by unfold IsC; rfl), _, _, rfl, (by unfold IsC; rfl), _, _, rfl, (by unfold IsC; exact ⟨rfl, hyn⟩), _, _, rfl, h8.out, rfl⟩
  · exact ⟨v9, es, rfl, (by rw [Pa.rows_map]; exact h9.out), he⟩
/-- a declaration whose parts can be made the program's -/
def OwnD : De → Prop
  | .mk _ _ _ vs cs (.mk _ _ _ tl) ps e => vs.length ≤ 2000000 ∧ cs.length ≤ 1000000 ∧ OwnTs tl ∧ OwnPs ps ∧ OwnE e ∧ ∀ c ∈ cs, OwnTs c.args
end Go.Proofs.YtdiffpiapdghoaaGreatDoor
