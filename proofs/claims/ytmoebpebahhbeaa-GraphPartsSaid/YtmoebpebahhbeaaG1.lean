/-
  Layer 7: the state of a search, in memory. No walk.
-/
import Derived.Test.YtmoebpebahhbeaaG0
namespace Go.Proofs.Ytmoebpebahhbeaa
set_option linter.unusedVariables false
open Go.ChangeShapes Go.WideShapes Go.ChangeAt Go.RowKit

/-- a search: of each node its number (0: not met), the least number known, the open ones, how many are met, the road, the groups, of each node its group's number and one (0: none) -/
structure St where
  met : List Nat
  fst : List Nat
  opn : List Nat
  cnt : Nat
  road : List (Nat × Nat)
  grps : List (List Nat)
  grp : List Nat
/-- where its slices lie -/
structure Loc where
  vm : Value
  vf : Value
  vo : Value
  vr : Value
  vg : Value
  vq : Value
  gs : List Value
/-- a search in memory: block p; O tells whose a block is -/
structure SRep (B : Nat) (O : Nat → Nat) (p : Nat) (av : Value) (L : Loc) (s : St) (w : World) : Prop where
  box : w.heap[p]? = some (.cells #[av, L.vm, L.vf, L.vo, .int .i64 (s.cnt : Int), L.vr, L.vg, L.vq] 61 (0, 0))
  m : w.ownsRow B 3 1 L.vm s.met.length (nv s.met)
  f : w.ownsRow B 3 1 L.vf s.fst.length (nv s.fst)
  o : w.ownsRow B 3 1 L.vo s.opn.length (nv s.opn)
  r : w.ownsRow B 73 2 L.vr s.road.length (rv s.road)
  g : w.ownsRow B 30 1 L.vg s.grps.length L.gs
  q : w.ownsRow B 3 1 L.vq s.grp.length (gv s.grp)
  rows : Rws w B (fun b => O b = 8) L.gs s.grps
  tp : O p = 1
  tm : ∀ b, L.vm.ownBlock = some b → O b = 2
  tf : ∀ b, L.vf.ownBlock = some b → O b = 3
  tw : ∀ b, L.vo.ownBlock = some b → O b = 4
  tr : ∀ b, L.vr.ownBlock = some b → O b = 5
  tg : ∀ b, L.vg.ownBlock = some b → O b = 6
  tq : ∀ b, L.vq.ownBlock = some b → O b = 7
  low : ∀ b, 1 ≤ O b → O b ≤ 7 → B ≤ b
/-- what the search's functions may write -/
def Mine (O : Nat → Nat) (b : Nat) : Prop := 1 ≤ O b ∧ O b ≤ 7
/-- a step of the search: it writes in its own blocks alone; blocks that were there keep their tags -/
structure Mv (O O' : Nat → Nat) (w w' : World) : Prop where
  fx : Fx (Mine O) w w'
  tag : ∀ b, b < w.heap.size → O' b = O b
theorem Mv.refl (O : Nat → Nat) (w : World) : Mv O O w w := ⟨Fx.refl _ w, fun _ _ => rfl⟩
theorem Mv.trans {O O1 O2 : Nat → Nat} {w w1 w2 : World} (h : Mv O O1 w w1) (k : Mv O1 O2 w1 w2) : Mv O O2 w w2 :=
  ⟨h.fx.trans k.fx fun b hb hm => by unfold Mine at hm ⊢; rw [h.tag b hb] at hm; exact hm, fun b hb => (k.tag b (Nat.lt_of_lt_of_le hb h.fx.size)).trans (h.tag b hb)⟩
theorem Mv.of_fx {O : Nat → Nat} {w w' : World} (h : Fx (Mine O) w w') : Mv O O w w' := ⟨h, fun _ _ => rfl⟩
section
variable {B p : Nat} {O : Nat → Nat} {av : Value} {L : Loc} {s : St} {w w' : World}
theorem SRep.pB (h : SRep B O p av L s w) : B ≤ p := h.low p (by rw [h.tp]; omega) (by rw [h.tp]; omega)
theorem SRep.size (h : SRep B O p av L s w) : B ≤ w.heap.size := by have := heap_lt h.box; have := h.pB; omega
/-- where nothing of it is written -/
theorem SRep.fx {S : Nat → Prop} (h : SRep B O p av L s w) (hf : Fx S w w') (hn : ∀ b, 1 ≤ O b → O b ≤ 8 → ¬ S b) : SRep B O p av L s w' := by
  refine ⟨fx_heap h.box hf (hn p (by rw [h.tp]; omega) (by rw [h.tp]; omega)), fx_row h.m hf fun b hb => ?_, fx_row h.f hf fun b hb => ?_, fx_row h.o hf fun b hb => ?_, fx_row h.r hf fun b hb => ?_, fx_row h.g hf fun b hb => ?_, fx_row h.q hf fun b hb => ?_, h.rows.fx hf fun b hb => ?_, h.tp, h.tm, h.tf, h.tw, h.tr, h.tg, h.tq, h.low⟩
  · exact hn b (by rw [h.tm b hb]; omega) (by rw [h.tm b hb]; omega)
  · exact hn b (by rw [h.tf b hb]; omega) (by rw [h.tf b hb]; omega)
  · exact hn b (by rw [h.tw b hb]; omega) (by rw [h.tw b hb]; omega)
  · exact hn b (by rw [h.tr b hb]; omega) (by rw [h.tr b hb]; omega)
  · exact hn b (by rw [h.tg b hb]; omega) (by rw [h.tg b hb]; omega)
  · exact hn b (by rw [h.tq b hb]; omega) (by rw [h.tq b hb]; omega)
  · exact hn b (by rw [hb]; omega) (by rw [hb]; omega)
theorem SRep.drewN (h : SRep B O p av L s w) (n : Nat) : SRep B O p av L s (w.drewN n) := h.fx (S := fun _ => False) ((Fx.refl _ w).drewN n) fun _ _ _ => id
theorem SRep.drew (h : SRep B O p av L s w) : SRep B O p av L s w.drew := h.fx (S := fun _ => False) (Fx.refl _ w).drew fun _ _ _ => id
theorem SRep.alloc (h : SRep B O p av L s w) (o : Obj) : SRep B O p av L s (w.alloc o) := h.fx (S := fun _ => False) (Fx.alloc w o) fun _ _ _ => id
/-- fields of the search's block -/
theorem SRep.c0 (h : SRep B O p av L s w) : w.cell? ⟨p, 0, none⟩ = some av := by rw [Lib.cell_of_heap h.box]; rfl
theorem SRep.c1 (h : SRep B O p av L s w) : w.cell? ⟨p, 1, none⟩ = some L.vm := by rw [Lib.cell_of_heap h.box]; rfl
theorem SRep.c2 (h : SRep B O p av L s w) : w.cell? ⟨p, 2, none⟩ = some L.vf := by rw [Lib.cell_of_heap h.box]; rfl
theorem SRep.c3 (h : SRep B O p av L s w) : w.cell? ⟨p, 3, none⟩ = some L.vo := by rw [Lib.cell_of_heap h.box]; rfl
theorem SRep.c4 (h : SRep B O p av L s w) : w.cell? ⟨p, 4, none⟩ = some (.int .i64 (s.cnt : Int)) := by rw [Lib.cell_of_heap h.box]; rfl
theorem SRep.c5 (h : SRep B O p av L s w) : w.cell? ⟨p, 5, none⟩ = some L.vr := by rw [Lib.cell_of_heap h.box]; rfl
theorem SRep.c6 (h : SRep B O p av L s w) : w.cell? ⟨p, 6, none⟩ = some L.vg := by rw [Lib.cell_of_heap h.box]; rfl
theorem SRep.c7 (h : SRep B O p av L s w) : w.cell? ⟨p, 7, none⟩ = some L.vq := by rw [Lib.cell_of_heap h.box]; rfl
theorem SRep.frz (h : SRep B O p av L s w) (j : Nat) : w.frozen? ⟨p, j, none⟩ = false := Lib.frozen_of_heap h.box j
/-- the block alone is turned, or one of its rows -/
theorem SRep.put_m (h : SRep B O p av L s w) {g n cap : Nat} (hv : L.vm = .slice (some ⟨g, 0, none⟩) n cap) (hn : n = s.met.length) (j x : Nat) (hx : w' = w.setCell ⟨g, j, none⟩ (.int .i64 (x : Int))) : SRep B O p av L { s with met := s.met.set j x } w' ∧ Fx (Mine O) w w' := by
  subst hx
  have hg : O g = 2 := h.tm g (by rw [hv]; rfl)
  have hf : Fx (fun b => O b = 2) w (w.setCell ⟨g, j, none⟩ (.int .i64 (x : Int))) := Fx.set w g j _ hg
  have hm := h.m
  rw [hv, ← hn] at hm
  refine ⟨⟨fx_heap h.box hf (by rw [h.tp]; omega), ?_, fx_row h.f hf fun b hb => by rw [h.tf b hb]; omega, fx_row h.o hf fun b hb => by rw [h.tw b hb]; omega, fx_row h.r hf fun b hb => by rw [h.tr b hb]; omega, fx_row h.g hf fun b hb => by rw [h.tg b hb]; omega, fx_row h.q hf fun b hb => by rw [h.tq b hb]; omega, h.rows.fx hf fun b hb => by rw [hb]; omega, h.tp, h.tm, h.tf, h.tw, h.tr, h.tg, h.tq, h.low⟩, hf.mono fun b _ hb => by unfold Mine; omega⟩
  have := (hm.stored j (.int .i64 (x : Int))).1
  rw [hv, nv_set, List.length_set, ← hn]
  exact this
theorem SRep.put_f (h : SRep B O p av L s w) {g n cap : Nat} (hv : L.vf = .slice (some ⟨g, 0, none⟩) n cap) (hn : n = s.fst.length) (j x : Nat) (hx : w' = w.setCell ⟨g, j, none⟩ (.int .i64 (x : Int))) : SRep B O p av L { s with fst := s.fst.set j x } w' ∧ Fx (Mine O) w w' := by
  subst hx
  have hg : O g = 3 := h.tf g (by rw [hv]; rfl)
  have hf : Fx (fun b => O b = 3) w (w.setCell ⟨g, j, none⟩ (.int .i64 (x : Int))) := Fx.set w g j _ hg
  have hm := h.f
  rw [hv, ← hn] at hm
  refine ⟨⟨fx_heap h.box hf (by rw [h.tp]; omega), fx_row h.m hf fun b hb => by rw [h.tm b hb]; omega, ?_, fx_row h.o hf fun b hb => by rw [h.tw b hb]; omega, fx_row h.r hf fun b hb => by rw [h.tr b hb]; omega, fx_row h.g hf fun b hb => by rw [h.tg b hb]; omega, fx_row h.q hf fun b hb => by rw [h.tq b hb]; omega, h.rows.fx hf fun b hb => by rw [hb]; omega, h.tp, h.tm, h.tf, h.tw, h.tr, h.tg, h.tq, h.low⟩, hf.mono fun b _ hb => by unfold Mine; omega⟩
  have := (hm.stored j (.int .i64 (x : Int))).1
  rw [hv, nv_set, List.length_set, ← hn]
  exact this
theorem SRep.put_q (h : SRep B O p av L s w) {g n cap : Nat} (hv : L.vq = .slice (some ⟨g, 0, none⟩) n cap) (hn : n = s.grp.length) (j x : Nat) (hx : w' = w.setCell ⟨g, j, none⟩ (.int .i64 ((x : Int) - 1))) : SRep B O p av L { s with grp := s.grp.set j x } w' ∧ Fx (Mine O) w w' := by
  subst hx
  have hg : O g = 7 := h.tq g (by rw [hv]; rfl)
  have hf : Fx (fun b => O b = 7) w (w.setCell ⟨g, j, none⟩ (.int .i64 ((x : Int) - 1))) := Fx.set w g j _ hg
  have hm := h.q
  rw [hv, ← hn] at hm
  refine ⟨⟨fx_heap h.box hf (by rw [h.tp]; omega), fx_row h.m hf fun b hb => by rw [h.tm b hb]; omega, fx_row h.f hf fun b hb => by rw [h.tf b hb]; omega, fx_row h.o hf fun b hb => by rw [h.tw b hb]; omega, fx_row h.r hf fun b hb => by rw [h.tr b hb]; omega, fx_row h.g hf fun b hb => by rw [h.tg b hb]; omega, ?_, h.rows.fx hf fun b hb => by rw [hb]; omega, h.tp, h.tm, h.tf, h.tw, h.tr, h.tg, h.tq, h.low⟩, hf.mono fun b _ hb => by unfold Mine; omega⟩
  have := (hm.stored j (.int .i64 ((x : Int) - 1))).1
  rw [hv, gv_set, List.length_set, ← hn]
  exact this
/-- a store into the search's own block -/
theorem SRep.put_p (h : SRep B O p av L s w) (j : Nat) (v : Value) : Fx (fun b => O b = 1) w (w.setCell ⟨p, j, none⟩ v) ∧ (w.setCell ⟨p, j, none⟩ v).heap[p]? = some (.cells (#[av, L.vm, L.vf, L.vo, .int .i64 (s.cnt : Int), L.vr, L.vg, L.vq].setIfInBounds j v) 61 (0, 0)) :=
  ⟨Fx.set w p j v h.tp, heap_setCell_same w p j _ _ v h.box⟩
theorem SRep.put_cnt (h : SRep B O p av L s w) (x : Nat) (hx : w' = w.setCell ⟨p, 4, none⟩ (.int .i64 (x : Int))) : SRep B O p av L { s with cnt := x } w' ∧ Fx (Mine O) w w' := by
  subst hx
  obtain ⟨hf, hb⟩ := h.put_p 4 (.int .i64 (x : Int))
  exact ⟨⟨hb, fx_row h.m hf fun b hb => by rw [h.tm b hb]; omega, fx_row h.f hf fun b hb => by rw [h.tf b hb]; omega, fx_row h.o hf fun b hb => by rw [h.tw b hb]; omega, fx_row h.r hf fun b hb => by rw [h.tr b hb]; omega, fx_row h.g hf fun b hb => by rw [h.tg b hb]; omega, fx_row h.q hf fun b hb => by rw [h.tq b hb]; omega, h.rows.fx hf fun b hb => by rw [hb]; omega, h.tp, h.tm, h.tf, h.tw, h.tr, h.tg, h.tq, h.low⟩, hf.mono fun b _ hb => by unfold Mine; omega⟩
/-- a step of the road: how far it is -/
theorem SRep.put_next (h : SRep B O p av L s w) {g n cap : Nat} (hv : L.vr = .slice (some ⟨g, 0, none⟩) n cap) (l : List (Nat × Nat)) (a k m : Nat) (hs : s.road = l ++ [(a, k)]) (hn : n = s.road.length) (hx : w' = w.setCell ⟨g, l.length * 2 + 1, none⟩ (.int .i64 (m : Int))) : SRep B O p av L { s with road := l ++ [(a, m)] } w' ∧ Fx (Mine O) w w' := by
  subst hx
  have hg : O g = 5 := h.tr g (by rw [hv]; rfl)
  have hf : Fx (fun b => O b = 5) w (w.setCell ⟨g, l.length * 2 + 1, none⟩ (.int .i64 (m : Int))) := Fx.set w g _ _ hg
  have hm := h.r
  rw [hv, ← hn] at hm
  refine ⟨⟨fx_heap h.box hf (by rw [h.tp]; omega), fx_row h.m hf fun b hb => by rw [h.tm b hb]; omega, fx_row h.f hf fun b hb => by rw [h.tf b hb]; omega, fx_row h.o hf fun b hb => by rw [h.tw b hb]; omega, ?_, fx_row h.g hf fun b hb => by rw [h.tg b hb]; omega, fx_row h.q hf fun b hb => by rw [h.tq b hb]; omega, h.rows.fx hf fun b hb => by rw [hb]; omega, h.tp, h.tm, h.tf, h.tw, h.tr, h.tg, h.tq, h.low⟩, hf.mono fun b _ hb => by unfold Mine; omega⟩
  have := (hm.stored (l.length * 2 + 1) (.int .i64 (m : Int))).1
  rw [hs, rv_next] at this
  have e : (l ++ [(a, m)]).length = n := by rw [hn, hs]; simp
  show (w.setCell _ _).ownsRow B _ 2 L.vr (l ++ [(a, m)]).length (rv (l ++ [(a, m)]))
  rw [hv, e]
  exact this
/-- the slice's header alone: the open ones are cut, or have grown -/
theorem SRep.head_o {w1 : World} (h : SRep B O p av L s w) {O' : Nat → Nat} {v' : Value} {l : List Nat} (hf : Fx (fun b => O b = 4) w w1) (ho : w1.ownsRow B 3 1 v' l.length (nv l)) (hO : ∀ b, b < w.heap.size → O' b = O b) (hO2 : ∀ b, v'.ownBlock = some b → O' b = 4) (hlow : ∀ b, 1 ≤ O' b → O' b ≤ 7 → B ≤ b) (hx : w' = w1.setCell ⟨p, 3, none⟩ v') : SRep B O' p av { L with vo := v' } { s with opn := l } w' ∧ Mv O O' w w' := by
  subst hx
  have hp := heap_lt h.box
  have hb1 : w1.heap[p]? = _ := fx_heap h.box hf (by rw [h.tp]; omega)
  have ho1 : O' p = 1 := by rw [hO p hp]; exact h.tp
  have hf2 : Fx (fun b => O' b = 1) w1 (w1.setCell ⟨p, 3, none⟩ v') := Fx.set w1 p 3 v' ho1
  have hff : Fx (fun b => O b = 4 ∨ O b = 1) w (w1.setCell ⟨p, 3, none⟩ v') := (hf.mono fun b _ hb => .inl hb).trans hf2 fun b hb h2 => .inr (by rw [← hO b hb]; exact h2)
  have tg : ∀ {k : Nat} {v : Value} {e sz n : Nat} {xs : List Value}, w.ownsRow B e sz v n xs → (∀ b, v.ownBlock = some b → O b = k) → ∀ b, v.ownBlock = some b → O' b = k := fun hr hk b hb => by rw [hO b (hr.lt b hb).2]; exact hk b hb
  have hrs : Rws (w1.setCell ⟨p, 3, none⟩ v') B (fun b => O' b = 8) L.gs s.grps := by
    refine (h.rows.mono (P' := fun b => O' b = 8) fun b hb h2 => by show O' b = 8; rw [hO b hb]; exact h2).fx (S := fun b => b < w.heap.size ∧ (O b = 4 ∨ O b = 1)) ⟨hff.os, hff.tape, hff.output, hff.size, fun b hb hn => hff.block b hb fun h2 => hn ⟨hb, h2⟩⟩ ?_
    intro b hb h2
    rw [hO b h2.1] at hb
    omega
  exact ⟨⟨heap_setCell_same w1 p 3 _ _ v' hb1, fx_row h.m hff fun b hb => by rw [h.tm b hb]; omega, fx_row h.f hff fun b hb => by rw [h.tf b hb]; omega, fx_row ho hf2 fun b hb => by rw [hO2 b hb]; omega, fx_row h.r hff fun b hb => by rw [h.tr b hb]; omega, fx_row h.g hff fun b hb => by rw [h.tg b hb]; omega, fx_row h.q hff fun b hb => by rw [h.tq b hb]; omega, hrs, ho1, tg h.m h.tm, tg h.f h.tf, hO2, tg h.r h.tr, tg h.g h.tg, tg h.q h.tq, hlow⟩, ⟨hff.mono fun b _ hb => by unfold Mine; omega, hO⟩⟩
theorem SRep.head_r {w1 : World} (h : SRep B O p av L s w) {O' : Nat → Nat} {v' : Value} {l : List (Nat × Nat)} (hf : Fx (fun b => O b = 5) w w1) (ho : w1.ownsRow B 73 2 v' l.length (rv l)) (hO : ∀ b, b < w.heap.size → O' b = O b) (hO2 : ∀ b, v'.ownBlock = some b → O' b = 5) (hlow : ∀ b, 1 ≤ O' b → O' b ≤ 7 → B ≤ b) (hx : w' = w1.setCell ⟨p, 5, none⟩ v') : SRep B O' p av { L with vr := v' } { s with road := l } w' ∧ Mv O O' w w' := by
  subst hx
  have hp := heap_lt h.box
  have hb1 : w1.heap[p]? = _ := fx_heap h.box hf (by rw [h.tp]; omega)
  have ho1 : O' p = 1 := by rw [hO p hp]; exact h.tp
  have hf2 : Fx (fun b => O' b = 1) w1 (w1.setCell ⟨p, 5, none⟩ v') := Fx.set w1 p 5 v' ho1
  have hff : Fx (fun b => O b = 5 ∨ O b = 1) w (w1.setCell ⟨p, 5, none⟩ v') := (hf.mono fun b _ hb => .inl hb).trans hf2 fun b hb h2 => .inr (by rw [← hO b hb]; exact h2)
  have tg : ∀ {k : Nat} {v : Value} {e sz n : Nat} {xs : List Value}, w.ownsRow B e sz v n xs → (∀ b, v.ownBlock = some b → O b = k) → ∀ b, v.ownBlock = some b → O' b = k := fun hr hk b hb => by rw [hO b (hr.lt b hb).2]; exact hk b hb
  have hrs : Rws (w1.setCell ⟨p, 5, none⟩ v') B (fun b => O' b = 8) L.gs s.grps := by
    refine (h.rows.mono (P' := fun b => O' b = 8) fun b hb h2 => by show O' b = 8; rw [hO b hb]; exact h2).fx (S := fun b => b < w.heap.size ∧ (O b = 5 ∨ O b = 1)) ⟨hff.os, hff.tape, hff.output, hff.size, fun b hb hn => hff.block b hb fun h2 => hn ⟨hb, h2⟩⟩ ?_
    intro b hb h2
    rw [hO b h2.1] at hb
    omega
  exact ⟨⟨heap_setCell_same w1 p 5 _ _ v' hb1, fx_row h.m hff fun b hb => by rw [h.tm b hb]; omega, fx_row h.f hff fun b hb => by rw [h.tf b hb]; omega, fx_row h.o hff fun b hb => by rw [h.tw b hb]; omega, fx_row ho hf2 fun b hb => by rw [hO2 b hb]; omega, fx_row h.g hff fun b hb => by rw [h.tg b hb]; omega, fx_row h.q hff fun b hb => by rw [h.tq b hb]; omega, hrs, ho1, tg h.m h.tm, tg h.f h.tf, tg h.o h.tw, hO2, tg h.g h.tg, tg h.q h.tq, hlow⟩, ⟨hff.mono fun b _ hb => by unfold Mine; omega, hO⟩⟩
/-- a group more: its own row lies in a block that is tagged 8 -/
theorem SRep.head_g {w1 : World} (h : SRep B O p av L s w) {O' : Nat → Nat} {v' u : Value} {l : List Nat} (hf : Fx (fun b => O b = 6) w w1) (ho : w1.ownsRow B 30 1 v' (s.grps ++ [l]).length (L.gs ++ [u])) (hu : w1.ownsRow B 3 1 u l.length (nv l)) (hu2 : ∀ b, u.ownBlock = some b → O' b = 8) (hO : ∀ b, b < w.heap.size → O' b = O b) (hO2 : ∀ b, v'.ownBlock = some b → O' b = 6) (hlow : ∀ b, 1 ≤ O' b → O' b ≤ 7 → B ≤ b) (hx : w' = w1.setCell ⟨p, 6, none⟩ v') : SRep B O' p av { L with vg := v', gs := L.gs ++ [u] } { s with grps := s.grps ++ [l] } w' ∧ Mv O O' w w' := by
  subst hx
  have hp := heap_lt h.box
  have hb1 : w1.heap[p]? = _ := fx_heap h.box hf (by rw [h.tp]; omega)
  have ho1 : O' p = 1 := by rw [hO p hp]; exact h.tp
  have hf2 : Fx (fun b => O' b = 1) w1 (w1.setCell ⟨p, 6, none⟩ v') := Fx.set w1 p 6 v' ho1
  have hff : Fx (fun b => O b = 6 ∨ O b = 1) w (w1.setCell ⟨p, 6, none⟩ v') := (hf.mono fun b _ hb => .inl hb).trans hf2 fun b hb h2 => .inr (by rw [← hO b hb]; exact h2)
  have tg : ∀ {k : Nat} {v : Value} {e sz n : Nat} {xs : List Value}, w.ownsRow B e sz v n xs → (∀ b, v.ownBlock = some b → O b = k) → ∀ b, v.ownBlock = some b → O' b = k := fun hr hk b hb => by rw [hO b (hr.lt b hb).2]; exact hk b hb
  have hrs : Rws (w1.setCell ⟨p, 6, none⟩ v') B (fun b => O' b = 8) L.gs s.grps := by
    refine (h.rows.mono (P' := fun b => O' b = 8) fun b hb h2 => by show O' b = 8; rw [hO b hb]; exact h2).fx (S := fun b => b < w.heap.size ∧ (O b = 6 ∨ O b = 1)) ⟨hff.os, hff.tape, hff.output, hff.size, fun b hb hn => hff.block b hb fun h2 => hn ⟨hb, h2⟩⟩ ?_
    intro b hb h2
    rw [hO b h2.1] at hb
    omega
  exact ⟨⟨heap_setCell_same w1 p 6 _ _ v' hb1, fx_row h.m hff fun b hb => by rw [h.tm b hb]; omega, fx_row h.f hff fun b hb => by rw [h.tf b hb]; omega, fx_row h.o hff fun b hb => by rw [h.tw b hb]; omega, fx_row h.r hff fun b hb => by rw [h.tr b hb]; omega, fx_row ho hf2 fun b hb => by rw [hO2 b hb]; omega, fx_row h.q hff fun b hb => by rw [h.tq b hb]; omega, hrs.snoc (fx_row hu hf2 fun b hb => by rw [hu2 b hb]; omega) hu2, ho1, tg h.m h.tm, tg h.f h.tf, tg h.o h.tw, tg h.r h.tr, hO2, tg h.q h.tq, hlow⟩, ⟨hff.mono fun b _ hb => by unfold Mine; omega, hO⟩⟩
end
/-- the tags behind an append: the slice lies where it lay, or in a block that was just laid -/
def retag (O : Nat → Nat) (z k : Nat) : Nat → Nat := fun b => if b < z then O b else k
theorem retag_old {O : Nat → Nat} {z k b : Nat} (h : b < z) : retag O z k b = O b := by simp [retag, h]
theorem retag_new {O : Nat → Nat} {z k b : Nat} (h : z ≤ b) : retag O z k b = k := by simp [retag]; omega
end Go.Proofs.Ytmoebpebahhbeaa
