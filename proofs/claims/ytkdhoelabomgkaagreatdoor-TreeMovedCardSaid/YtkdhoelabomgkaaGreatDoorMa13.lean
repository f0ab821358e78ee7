/- Texts of this proof, joined: PExprs1, PExprs0, PExprs2. No condition. -/
import Derived.Test.YtkdhoelabomgkaaGreatDoorMa11
import Derived.Test.YtkdhoelabomgkaaGreatDoorMa12
/-
  Layer 3, the program's side: expressions, held against each other: the lists up to the 1. are.
-/
namespace Go.Proofs.YtkdhoelabomgkaaGreatDoor
set_option linter.unusedVariables false
open Go.ChangeShapes Go.WideShapes Go.ChangeAt Go.RowKit

/-- a call that holds two lists against each other, from wherever above W -/
def Gives (f : Nat) (args : Array Value) (W : World) (b : Bool) : Prop := ∀ W2 : World, Below W.heap.size W W2 → Calls Tryz.prog f args W2 fun e w' => e = .returned (.bool b) ∧ Below W.heap.size W w'

set_option maxHeartbeats 1600000 in
set_option maxRecDepth 100000 in
theorem exprs_w1 (h a b : Addr) (lev : Int) (h0 : 0 ≤ lev) (h4 : lev ≤ 400) (P Q : Nat → Prop) (w : World) (xk xp xm yp : Int) (xn : ByteArray) (xl yl : List Ex) (xps yps : List Pa) (xal yal : List Al) (xds yds : List De)
    (ha : IsEx w P a (.mk xk xp xn xm xl xps xal xds)) (hb : IsEx w Q b (.mk xk yp xn xm yl yps yal yds))
    (hc1 : ∀ (v v' : Value) (W : World), Below w.heap.size w W → IsExs W P v xl → IsExs W Q v' yl → Gives 85 #[v, v', .int .i64 (lev + 1), .func (.func 47) #[.pointer (some h)] #[]] W false) :
    Calls Tryz.prog 47 #[.pointer (some h), .pointer (some a), .pointer (some b), .int .i64 lev] w fun e w' => e = .returned (.bool false) ∧ Below w.heap.size w w' := by
  obtain ⟨o4, ho4⟩ : ∃ o : Obj, o = .cells #[.pointer (some h)] 135 := ⟨_, rfl⟩
  obtain ⟨o5, ho5⟩ : ∃ o : Obj, o = .cells #[.pointer (some a)] 82 := ⟨_, rfl⟩
  obtain ⟨o6, ho6⟩ : ∃ o : Obj, o = .cells #[.pointer (some b)] 82 := ⟨_, rfl⟩
  obtain ⟨hbW, g4, g5, g6⟩ := three_boxes w o4 o5 o6
  have HW := Lib.hid (And.intro g4 (And.intro g5 g6))
  have HA := Lib.hid ha
  have HB := Lib.hid hb
  have D1 := Lib.hid hc1
  clear g4 g5 g6 ha hb hc1   
  go_enter Tryz.func47, Tryz.ntmps47
  go_wp2
  rw [← ho4, ← ho5, ← ho6]
  generalize ((w.alloc o4).alloc o5).alloc o6 = W at hbW HW ⊢
  obtain ⟨g4, g5, g6⟩ := HW.out
  subst ho4 ho5 ho6
  have e4 : W.cell? ⟨w.heap.size, 0, none⟩ = some (.pointer (some h)) := by rw [Lib.cell_of_heap g4]; rfl
  have e5 : W.cell? ⟨w.heap.size + 1, 0, none⟩ = some (.pointer (some a)) := by rw [Lib.cell_of_heap g5]; rfl
  have e6 : W.cell? ⟨w.heap.size + 1 + 1, 0, none⟩ = some (.pointer (some b)) := by rw [Lib.cell_of_heap g6]; rfl
  clear g4 g5 g6 HW
  obtain ⟨c0, _, c2, c2', c3, ⟨a4, b4, c4, _, _, x4⟩, ⟨a5, b5, c5, _, _, x5⟩, ⟨a6, b6, c6, _, _, x6⟩, ⟨a7, b7, c7, _, _, x7⟩⟩ := (HA.out.on hbW).cells
  obtain ⟨d0, _, d2, d2', d3, ⟨r4, s4, d4, _, _, y4⟩, ⟨r5, s5, d5, _, _, y5⟩, ⟨r6, s6, d6, _, _, y6⟩, ⟨r7, s7, d7, _, _, y7⟩⟩ := (HB.out.on hbW).cells
  have C1 := Lib.hid (D1.out _ _ W hbW x4 y4)
  clear x4 x5 x6 x7 y4 y5 y6 y7 D1 HA HB
  have s1 : IntKind.i64.wrap (lev + 1) = lev + 1 := IntWalk.i64_in _ (by omega)
  have HF : Hid (∀ V : World, Below W.heap.size W V → V.cell? ⟨w.heap.size, 0, none⟩ = some (.pointer (some h)) ∧ V.cell? ⟨w.heap.size + 1, 0, none⟩ = some (.pointer (some a)) ∧ V.cell? ⟨w.heap.size + 1 + 1, 0, none⟩ = some (.pointer (some b)) ∧ V.cell? a = some (.int .i64 xk) ∧ V.cell? ⟨a.block, a.off + 2, none⟩ = some (.string xn) ∧ V.cell? ⟨a.block, a.off + 3, none⟩ = some (.int .i64 xm) ∧ V.cell? ⟨a.block, a.off + 4, none⟩ = some (.slice a4 xl.length b4) ∧ V.cell? ⟨a.block, a.off + 5, none⟩ = some (.slice a5 xps.length b5) ∧ V.cell? ⟨a.block, a.off + 6, none⟩ = some (.slice a6 xal.length b6) ∧ V.cell? ⟨a.block, a.off + 7, none⟩ = some (.slice a7 xds.length b7) ∧ V.cell? b = some (.int .i64 xk) ∧ V.cell? ⟨b.block, b.off + 2, none⟩ = some (.string xn) ∧ V.cell? ⟨b.block, b.off + 3, none⟩ = some (.int .i64 xm) ∧ V.cell? ⟨b.block, b.off + 4, none⟩ = some (.slice r4 yl.length s4) ∧ V.cell? ⟨b.block, b.off + 5, none⟩ = some (.slice r5 yps.length s5) ∧ V.cell? ⟨b.block, b.off + 6, none⟩ = some (.slice r6 yal.length s6) ∧ V.cell? ⟨b.block, b.off + 7, none⟩ = some (.slice r7 yds.length s7)) := Lib.hid (fun V hV => ⟨(hV.cell (Lib.lt_of_cell e4)).trans e4, (hV.cell (Lib.lt_of_cell e5)).trans e5, (hV.cell (Lib.lt_of_cell e6)).trans e6, (hV.cell (Lib.lt_of_cell c0)).trans c0, (hV.cell (Lib.lt_of_cell c2)).trans c2, (hV.cell (Lib.lt_of_cell c3)).trans c3, (hV.cell (Lib.lt_of_cell c4)).trans c4, (hV.cell (Lib.lt_of_cell c5)).trans c5, (hV.cell (Lib.lt_of_cell c6)).trans c6, (hV.cell (Lib.lt_of_cell c7)).trans c7, (hV.cell (Lib.lt_of_cell d0)).trans d0, (hV.cell (Lib.lt_of_cell d2)).trans d2, (hV.cell (Lib.lt_of_cell d3)).trans d3, (hV.cell (Lib.lt_of_cell d4)).trans d4, (hV.cell (Lib.lt_of_cell d5)).trans d5, (hV.cell (Lib.lt_of_cell d6)).trans d6, (hV.cell (Lib.lt_of_cell d7)).trans d7⟩)
  clear e4 e5 e6 c0 c2 c3 c4 c5 c6 c7 d0 d2 d3 d4 d5 d6 d7
  have hw2 : Below W.heap.size W W.drew := (Below.refl _ _).drew
  simp only [List.append_eq, List.cons_append, List.nil_append]
  refine wp_region_plan [(44, 3), (12, 3), (12, 3), (12, 3)] (by kernel_rfl) (by kernel_rfl) ?_
  change Wrapped (wpPlan _ _ _ _ _ _ W.drew)
  generalize W.drew = w2 at hw2 ⊢
  obtain ⟨e4, e5, e6, c0, c2, c3, c4, c5, c6, c7, d0, d2, d3, d4, d5, d6, d7⟩ := HF.out w2 hw2
  refine plan_step ?_
  simp only [List.take_succ_cons, List.take_zero, List.drop_succ_cons, List.drop_zero, Nat.reduceAdd]
  repeat (refine wst_step (fun K hK => ?_); go_simp; refine hK _ ?_; clear hK K)
  refine wst_nil ?_
  intro K hK
  have HK := Lib.hid hK
  clear hK
  go_wp2_with fail
  refine (C1.out w2 hw2).mono ?_
  rintro e w3 ⟨rfl, hw3⟩
  go_wp2
  refine HK.out _ _ ?_
  clear HK K e4 e5 e6 c0 c2 c3 c4 c5 c6 c7 d0 d2 d3 d4 d5 d6 d7
  obtain ⟨e4, e5, e6, c0, c2, c3, c4, c5, c6, c7, d0, d2, d3, d4, d5, d6, d7⟩ := HF.out w3 hw3
  refine plan_step ?_
  simp only [List.take_succ_cons, List.take_zero, List.drop_succ_cons, List.drop_zero, Nat.reduceAdd]
  repeat (refine wst_step (fun K hK => ?_); go_simp; refine hK _ ?_; clear hK K)
  refine wst_nil ?_
  intro K hK
  have HK := Lib.hid hK
  clear hK
  go_wp2_with fail
  refine HK.out _ _ ?_
  clear HK K e4 e5 e6 c0 c2 c3 c4 c5 c6 c7 d0 d2 d3 d4 d5 d6 d7
  obtain ⟨e4, e5, e6, c0, c2, c3, c4, c5, c6, c7, d0, d2, d3, d4, d5, d6, d7⟩ := HF.out w3 hw3
  refine plan_step ?_
  simp only [List.take_succ_cons, List.take_zero, List.drop_succ_cons, List.drop_zero, Nat.reduceAdd]
  repeat (refine wst_step (fun K hK => ?_); go_simp; refine hK _ ?_; clear hK K)
  refine wst_nil ?_
  intro K hK
  have HK := Lib.hid hK
  clear hK
  go_wp2_with fail
  refine HK.out _ _ ?_
  clear HK K e4 e5 e6 c0 c2 c3 c4 c5 c6 c7 d0 d2 d3 d4 d5 d6 d7
  obtain ⟨e4, e5, e6, c0, c2, c3, c4, c5, c6, c7, d0, d2, d3, d4, d5, d6, d7⟩ := HF.out w3 hw3
  refine plan_step ?_
  simp only [List.take_succ_cons, List.take_zero, List.drop_succ_cons, List.drop_zero, Nat.reduceAdd]
  repeat (refine wst_step (fun K hK => ?_); go_simp; refine hK _ ?_; clear hK K)
  refine wst_nil ?_
  intro K hK
  have HK := Lib.hid hK
  clear hK
  go_wp2_with fail
  refine HK.out _ _ ?_
  clear HK K e4 e5 e6 c0 c2 c3 c4 c5 c6 c7 d0 d2 d3 d4 d5 d6 d7
  refine plan_end ?_
  go_wp2
  go_ret
  exact ⟨rfl, hbW.trans (hw3.mono hbW.size)⟩
end Go.Proofs.YtkdhoelabomgkaaGreatDoor
/-
  Layer 3, the program's side: expressions that differ in themselves, held against each other, where the level stays within what the walk goes down to.
-/
namespace Go.Proofs.YtkdhoelabomgkaaGreatDoor
set_option linter.unusedVariables false
open Go.ChangeShapes Go.WideShapes Go.ChangeAt Go.RowKit


set_option maxHeartbeats 4000000 in
set_option maxRecDepth 100000 in
theorem exprs_w0 (h a b : Addr) (lev : Int) (h0 : 0 ≤ lev) (h4 : lev ≤ 400) (P Q : Nat → Prop) (w : World) (xk xp xm yk yp ym : Int) (xn yn : ByteArray) (xl yl : List Ex) (xps yps : List Pa) (xal yal : List Al) (xds yds : List De)
    (ha : IsEx w P a (.mk xk xp xn xm xl xps xal xds)) (hb : IsEx w Q b (.mk yk yp yn ym yl yps yal yds))
    (hne : ¬ (xk = yk ∧ xn = yn ∧ xm = ym)) :
    Calls Tryz.prog 47 #[.pointer (some h), .pointer (some a), .pointer (some b), .int .i64 lev] w fun e w' => e = .returned (.bool false) ∧ Below w.heap.size w w' := by
  have HNE := Lib.hid hne
  clear hne
  obtain ⟨o4, ho4⟩ : ∃ o : Obj, o = .cells #[.pointer (some h)] 135 := ⟨_, rfl⟩
  obtain ⟨o5, ho5⟩ : ∃ o : Obj, o = .cells #[.pointer (some a)] 82 := ⟨_, rfl⟩
  obtain ⟨o6, ho6⟩ : ∃ o : Obj, o = .cells #[.pointer (some b)] 82 := ⟨_, rfl⟩
  obtain ⟨hbW, g4, g5, g6⟩ := three_boxes w o4 o5 o6
  have HW := Lib.hid (And.intro g4 (And.intro g5 g6))
  have HA := Lib.hid ha
  have HB := Lib.hid hb
  clear g4 g5 g6 ha hb
  go_enter Tryz.func47, Tryz.ntmps47
  go_wp2
  rw [← ho4, ← ho5, ← ho6]
  generalize ((w.alloc o4).alloc o5).alloc o6 = W at hbW HW ⊢
  obtain ⟨g4, g5, g6⟩ := HW.out
  subst ho4 ho5 ho6
  have e4 : W.cell? ⟨w.heap.size, 0, none⟩ = some (.pointer (some h)) := by rw [Lib.cell_of_heap g4]; rfl
  have e5 : W.cell? ⟨w.heap.size + 1, 0, none⟩ = some (.pointer (some a)) := by rw [Lib.cell_of_heap g5]; rfl
  have e6 : W.cell? ⟨w.heap.size + 1 + 1, 0, none⟩ = some (.pointer (some b)) := by rw [Lib.cell_of_heap g6]; rfl
  clear g4 g5 g6 HW
  obtain ⟨c0, _, c2, c2', c3, ⟨a4, b4, c4, _, _, x4⟩, ⟨a5, b5, c5, _, _, x5⟩, ⟨a6, b6, c6, _, _, x6⟩, ⟨a7, b7, c7, _, _, x7⟩⟩ := (HA.out.on hbW).cells
  obtain ⟨d0, _, d2, d2', d3, ⟨r4, s4, d4, _, _, y4⟩, ⟨r5, s5, d5, _, _, y5⟩, ⟨r6, s6, d6, _, _, y6⟩, ⟨r7, s7, d7, _, _, y7⟩⟩ := (HB.out.on hbW).cells
  clear x4 x5 x6 x7 y4 y5 y6 y7 HA HB
  have s1 : IntKind.i64.wrap (lev + 1) = lev + 1 := IntWalk.i64_in _ (by omega)
  have HF : Hid (∀ V : World, Below W.heap.size W V → V.cell? ⟨w.heap.size, 0, none⟩ = some (.pointer (some h)) ∧ V.cell? ⟨w.heap.size + 1, 0, none⟩ = some (.pointer (some a)) ∧ V.cell? ⟨w.heap.size + 1 + 1, 0, none⟩ = some (.pointer (some b)) ∧ V.cell? a = some (.int .i64 xk) ∧ V.cell? ⟨a.block, a.off + 2, none⟩ = some (.string xn) ∧ V.cell? ⟨a.block, a.off + 3, none⟩ = some (.int .i64 xm) ∧ V.cell? ⟨a.block, a.off + 4, none⟩ = some (.slice a4 xl.length b4) ∧ V.cell? ⟨a.block, a.off + 5, none⟩ = some (.slice a5 xps.length b5) ∧ V.cell? ⟨a.block, a.off + 6, none⟩ = some (.slice a6 xal.length b6) ∧ V.cell? ⟨a.block, a.off + 7, none⟩ = some (.slice a7 xds.length b7) ∧ V.cell? b = some (.int .i64 yk) ∧ V.cell? ⟨b.block, b.off + 2, none⟩ = some (.string yn) ∧ V.cell? ⟨b.block, b.off + 3, none⟩ = some (.int .i64 ym) ∧ V.cell? ⟨b.block, b.off + 4, none⟩ = some (.slice r4 yl.length s4) ∧ V.cell? ⟨b.block, b.off + 5, none⟩ = some (.slice r5 yps.length s5) ∧ V.cell? ⟨b.block, b.off + 6, none⟩ = some (.slice r6 yal.length s6) ∧ V.cell? ⟨b.block, b.off + 7, none⟩ = some (.slice r7 yds.length s7)) := Lib.hid (fun V hV => ⟨(hV.cell (Lib.lt_of_cell e4)).trans e4, (hV.cell (Lib.lt_of_cell e5)).trans e5, (hV.cell (Lib.lt_of_cell e6)).trans e6, (hV.cell (Lib.lt_of_cell c0)).trans c0, (hV.cell (Lib.lt_of_cell c2)).trans c2, (hV.cell (Lib.lt_of_cell c3)).trans c3, (hV.cell (Lib.lt_of_cell c4)).trans c4, (hV.cell (Lib.lt_of_cell c5)).trans c5, (hV.cell (Lib.lt_of_cell c6)).trans c6, (hV.cell (Lib.lt_of_cell c7)).trans c7, (hV.cell (Lib.lt_of_cell d0)).trans d0, (hV.cell (Lib.lt_of_cell d2)).trans d2, (hV.cell (Lib.lt_of_cell d3)).trans d3, (hV.cell (Lib.lt_of_cell d4)).trans d4, (hV.cell (Lib.lt_of_cell d5)).trans d5, (hV.cell (Lib.lt_of_cell d6)).trans d6, (hV.cell (Lib.lt_of_cell d7)).trans d7⟩)
  clear e4 e5 e6 c0 c2 c3 c4 c5 c6 c7 d0 d2 d3 d4 d5 d6 d7
  have hw2 : Below W.heap.size W W.drew := (Below.refl _ _).drew
  simp only [List.append_eq, List.cons_append, List.nil_append]
  refine wp_region_plan [(44, 3), (12, 3), (12, 3), (12, 3)] (by kernel_rfl) (by kernel_rfl) ?_
  change Wrapped (wpPlan _ _ _ _ _ _ W.drew)
  generalize W.drew = w2 at hw2 ⊢
  by_cases hk : xk = yk
  · subst hk
    by_cases hn : xn = yn
    · subst hn
      have hm : ¬ xm = ym := fun e => HNE.out ⟨rfl, rfl, e⟩
      have q3 : (xm == ym) = false := by rw [beq_eq_false_iff_ne]; exact hm
      clear hm
      obtain ⟨e4, e5, e6, c0, c2, c3, c4, c5, c6, c7, d0, d2, d3, d4, d5, d6, d7⟩ := HF.out w2 hw2
      refine plan_step ?_
      simp only [List.take_succ_cons, List.take_zero, List.drop_succ_cons, List.drop_zero, Nat.reduceAdd]
      repeat (refine wst_step (fun K hK => ?_); go_simp; refine hK _ ?_; clear hK K)
      refine wst_nil ?_
      intro K hK
      have HK := Lib.hid hK
      clear hK
      go_wp2_with fail
      refine HK.out _ _ ?_
      clear HK K e4 e5 e6 c0 c2 c3 c4 c5 c6 c7 d0 d2 d3 d4 d5 d6 d7
      obtain ⟨e4, e5, e6, c0, c2, c3, c4, c5, c6, c7, d0, d2, d3, d4, d5, d6, d7⟩ := HF.out w2 hw2
      refine plan_step ?_
      simp only [List.take_succ_cons, List.take_zero, List.drop_succ_cons, List.drop_zero, Nat.reduceAdd]
      repeat (refine wst_step (fun K hK => ?_); go_simp; refine hK _ ?_; clear hK K)
      refine wst_nil ?_
      intro K hK
      have HK := Lib.hid hK
      clear hK
      go_wp2_with fail
      refine HK.out _ _ ?_
      clear HK K e4 e5 e6 c0 c2 c3 c4 c5 c6 c7 d0 d2 d3 d4 d5 d6 d7
      obtain ⟨e4, e5, e6, c0, c2, c3, c4, c5, c6, c7, d0, d2, d3, d4, d5, d6, d7⟩ := HF.out w2 hw2
      refine plan_step ?_
      simp only [List.take_succ_cons, List.take_zero, List.drop_succ_cons, List.drop_zero, Nat.reduceAdd]
      repeat (refine wst_step (fun K hK => ?_); go_simp; refine hK _ ?_; clear hK K)
      refine wst_nil ?_
      intro K hK
      have HK := Lib.hid hK
      clear hK
      go_wp2_with fail
      refine HK.out _ _ ?_
      clear HK K e4 e5 e6 c0 c2 c3 c4 c5 c6 c7 d0 d2 d3 d4 d5 d6 d7
      obtain ⟨e4, e5, e6, c0, c2, c3, c4, c5, c6, c7, d0, d2, d3, d4, d5, d6, d7⟩ := HF.out w2 hw2
      refine plan_step ?_
      simp only [List.take_succ_cons, List.take_zero, List.drop_succ_cons, List.drop_zero, Nat.reduceAdd]
      repeat (refine wst_step (fun K hK => ?_); go_simp; refine hK _ ?_; clear hK K)
      refine wst_nil ?_
      intro K hK
      have HK := Lib.hid hK
      clear hK
      go_wp2_with fail
      refine HK.out _ _ ?_
      clear HK K e4 e5 e6 c0 c2 c3 c4 c5 c6 c7 d0 d2 d3 d4 d5 d6 d7
      refine plan_end ?_
      go_wp2
      go_ret
      exact ⟨rfl, hbW.trans (hw2.mono hbW.size)⟩
    · have q2 := text_ne hn
      clear hn
      obtain ⟨e4, e5, e6, c0, c2, c3, c4, c5, c6, c7, d0, d2, d3, d4, d5, d6, d7⟩ := HF.out w2 hw2
      refine plan_step ?_
      simp only [List.take_succ_cons, List.take_zero, List.drop_succ_cons, List.drop_zero, Nat.reduceAdd]
      repeat (refine wst_step (fun K hK => ?_); go_simp; refine hK _ ?_; clear hK K)
      refine wst_nil ?_
      intro K hK
      have HK := Lib.hid hK
      clear hK
      go_wp2_with fail
      refine HK.out _ _ ?_
      clear HK K e4 e5 e6 c0 c2 c3 c4 c5 c6 c7 d0 d2 d3 d4 d5 d6 d7
      obtain ⟨e4, e5, e6, c0, c2, c3, c4, c5, c6, c7, d0, d2, d3, d4, d5, d6, d7⟩ := HF.out w2 hw2
      refine plan_step ?_
      simp only [List.take_succ_cons, List.take_zero, List.drop_succ_cons, List.drop_zero, Nat.reduceAdd]
      repeat (refine wst_step (fun K hK => ?_); go_simp; refine hK _ ?_; clear hK K)
      refine wst_nil ?_
      intro K hK
      have HK := Lib.hid hK
      clear hK
      go_wp2_with fail
      refine HK.out _ _ ?_
      clear HK K e4 e5 e6 c0 c2 c3 c4 c5 c6 c7 d0 d2 d3 d4 d5 d6 d7
      obtain ⟨e4, e5, e6, c0, c2, c3, c4, c5, c6, c7, d0, d2, d3, d4, d5, d6, d7⟩ := HF.out w2 hw2
      refine plan_step ?_
      simp only [List.take_succ_cons, List.take_zero, List.drop_succ_cons, List.drop_zero, Nat.reduceAdd]
      repeat (refine wst_step (fun K hK => ?_); go_simp; refine hK _ ?_; clear hK K)
      refine wst_nil ?_
      intro K hK
      have HK := Lib.hid hK
      clear hK
      go_wp2_with fail
      refine HK.out _ _ ?_
      clear HK K e4 e5 e6 c0 c2 c3 c4 c5 c6 c7 d0 d2 d3 d4 d5 d6 d7
      obtain ⟨e4, e5, e6, c0, c2, c3, c4, c5, c6, c7, d0, d2, d3, d4, d5, d6, d7⟩ := HF.out w2 hw2
      refine plan_step ?_
      simp only [List.take_succ_cons, List.take_zero, List.drop_succ_cons, List.drop_zero, Nat.reduceAdd]
      repeat (refine wst_step (fun K hK => ?_); go_simp; refine hK _ ?_; clear hK K)
      refine wst_nil ?_
      intro K hK
      have HK := Lib.hid hK
      clear hK
      go_wp2_with fail
      refine HK.out _ _ ?_
      clear HK K e4 e5 e6 c0 c2 c3 c4 c5 c6 c7 d0 d2 d3 d4 d5 d6 d7
      refine plan_end ?_
      go_wp2
      go_ret
      exact ⟨rfl, hbW.trans (hw2.mono hbW.size)⟩
  · have q1 : (xk == yk) = false := by rw [beq_eq_false_iff_ne]; exact hk
    clear hk
    obtain ⟨e4, e5, e6, c0, c2, c3, c4, c5, c6, c7, d0, d2, d3, d4, d5, d6, d7⟩ := HF.out w2 hw2
    refine plan_step ?_
    simp only [List.take_succ_cons, List.take_zero, List.drop_succ_cons, List.drop_zero, Nat.reduceAdd]
    repeat (refine wst_step (fun K hK => ?_); go_simp; refine hK _ ?_; clear hK K)
    refine wst_nil ?_
    intro K hK
    have HK := Lib.hid hK
    clear hK
    go_wp2_with fail
    refine HK.out _ _ ?_
    clear HK K e4 e5 e6 c0 c2 c3 c4 c5 c6 c7 d0 d2 d3 d4 d5 d6 d7
    obtain ⟨e4, e5, e6, c0, c2, c3, c4, c5, c6, c7, d0, d2, d3, d4, d5, d6, d7⟩ := HF.out w2 hw2
    refine plan_step ?_
    simp only [List.take_succ_cons, List.take_zero, List.drop_succ_cons, List.drop_zero, Nat.reduceAdd]
    repeat (refine wst_step (fun K hK => ?_); go_simp; refine hK _ ?_; clear hK K)
    refine wst_nil ?_
    intro K hK
    have HK := Lib.hid hK
    clear hK
    go_wp2_with fail
    refine HK.out _ _ ?_
    clear HK K e4 e5 e6 c0 c2 c3 c4 c5 c6 c7 d0 d2 d3 d4 d5 d6 d7
    obtain ⟨e4, e5, e6, c0, c2, c3, c4, c5, c6, c7, d0, d2, d3, d4, d5, d6, d7⟩ := HF.out w2 hw2
    refine plan_step ?_
    simp only [List.take_succ_cons, List.take_zero, List.drop_succ_cons, List.drop_zero, Nat.reduceAdd]
    repeat (refine wst_step (fun K hK => ?_); go_simp; refine hK _ ?_; clear hK K)
    refine wst_nil ?_
    intro K hK
    have HK := Lib.hid hK
    clear hK
    go_wp2_with fail
    refine HK.out _ _ ?_
    clear HK K e4 e5 e6 c0 c2 c3 c4 c5 c6 c7 d0 d2 d3 d4 d5 d6 d7
    obtain ⟨e4, e5, e6, c0, c2, c3, c4, c5, c6, c7, d0, d2, d3, d4, d5, d6, d7⟩ := HF.out w2 hw2
    refine plan_step ?_
    simp only [List.take_succ_cons, List.take_zero, List.drop_succ_cons, List.drop_zero, Nat.reduceAdd]
    repeat (refine wst_step (fun K hK => ?_); go_simp; refine hK _ ?_; clear hK K)
    refine wst_nil ?_
    intro K hK
    have HK := Lib.hid hK
    clear hK
    go_wp2_with fail
    refine HK.out _ _ ?_
    clear HK K e4 e5 e6 c0 c2 c3 c4 c5 c6 c7 d0 d2 d3 d4 d5 d6 d7
    refine plan_end ?_
    go_wp2
    go_ret
    exact ⟨rfl, hbW.trans (hw2.mono hbW.size)⟩
end Go.Proofs.YtkdhoelabomgkaaGreatDoor
/-
  Layer 3, the program's side: expressions, held against each other: the lists up to the 2. are.
-/
namespace Go.Proofs.YtkdhoelabomgkaaGreatDoor
set_option linter.unusedVariables false
open Go.ChangeShapes Go.WideShapes Go.ChangeAt Go.RowKit


set_option maxHeartbeats 1600000 in
set_option maxRecDepth 100000 in
theorem exprs_w2 (h a b : Addr) (lev : Int) (h0 : 0 ≤ lev) (h4 : lev ≤ 400) (P Q : Nat → Prop) (w : World) (xk xp xm yp : Int) (xn : ByteArray) (xl yl : List Ex) (xps yps : List Pa) (xal yal : List Al) (xds yds : List De)
    (ha : IsEx w P a (.mk xk xp xn xm xl xps xal xds)) (hb : IsEx w Q b (.mk xk yp xn xm yl yps yal yds))
    (hc1 : ∀ (v v' : Value) (W : World), Below w.heap.size w W → IsExs W P v xl → IsExs W Q v' yl → Gives 85 #[v, v', .int .i64 (lev + 1), .func (.func 47) #[.pointer (some h)] #[]] W true)
    (hc2 : ∀ (v v' : Value) (W : World), Below w.heap.size w W → IsPas W P v xps → IsPas W Q v' yps → Gives 81 #[v, v', .int .i64 (lev + 1), .func (.func 43) #[.pointer (some h)] #[]] W false) :
    Calls Tryz.prog 47 #[.pointer (some h), .pointer (some a), .pointer (some b), .int .i64 lev] w fun e w' => e = .returned (.bool false) ∧ Below w.heap.size w w' := by
  obtain ⟨o4, ho4⟩ : ∃ o : Obj, o = .cells #[.pointer (some h)] 135 := ⟨_, rfl⟩
  obtain ⟨o5, ho5⟩ : ∃ o : Obj, o = .cells #[.pointer (some a)] 82 := ⟨_, rfl⟩
  obtain ⟨o6, ho6⟩ : ∃ o : Obj, o = .cells #[.pointer (some b)] 82 := ⟨_, rfl⟩
  obtain ⟨hbW, g4, g5, g6⟩ := three_boxes w o4 o5 o6
  have HW := Lib.hid (And.intro g4 (And.intro g5 g6))
  have HA := Lib.hid ha
  have HB := Lib.hid hb
  have D1 := Lib.hid hc1
  have D2 := Lib.hid hc2
  clear g4 g5 g6 ha hb hc1 hc2  
  go_enter Tryz.func47, Tryz.ntmps47
  go_wp2
  rw [← ho4, ← ho5, ← ho6]
  generalize ((w.alloc o4).alloc o5).alloc o6 = W at hbW HW ⊢
  obtain ⟨g4, g5, g6⟩ := HW.out
  subst ho4 ho5 ho6
  have e4 : W.cell? ⟨w.heap.size, 0, none⟩ = some (.pointer (some h)) := by rw [Lib.cell_of_heap g4]; rfl
  have e5 : W.cell? ⟨w.heap.size + 1, 0, none⟩ = some (.pointer (some a)) := by rw [Lib.cell_of_heap g5]; rfl
  have e6 : W.cell? ⟨w.heap.size + 1 + 1, 0, none⟩ = some (.pointer (some b)) := by rw [Lib.cell_of_heap g6]; rfl
  clear g4 g5 g6 HW
  obtain ⟨c0, _, c2, c2', c3, ⟨a4, b4, c4, _, _, x4⟩, ⟨a5, b5, c5, _, _, x5⟩, ⟨a6, b6, c6, _, _, x6⟩, ⟨a7, b7, c7, _, _, x7⟩⟩ := (HA.out.on hbW).cells
  obtain ⟨d0, _, d2, d2', d3, ⟨r4, s4, d4, _, _, y4⟩, ⟨r5, s5, d5, _, _, y5⟩, ⟨r6, s6, d6, _, _, y6⟩, ⟨r7, s7, d7, _, _, y7⟩⟩ := (HB.out.on hbW).cells
  have C1 := Lib.hid (D1.out _ _ W hbW x4 y4)
  have C2 := Lib.hid (D2.out _ _ W hbW x5 y5)
  clear x4 x5 x6 x7 y4 y5 y6 y7 D1 D2 HA HB
  have s1 : IntKind.i64.wrap (lev + 1) = lev + 1 := IntWalk.i64_in _ (by omega)
  have HF : Hid (∀ V : World, Below W.heap.size W V → V.cell? ⟨w.heap.size, 0, none⟩ = some (.pointer (some h)) ∧ V.cell? ⟨w.heap.size + 1, 0, none⟩ = some (.pointer (some a)) ∧ V.cell? ⟨w.heap.size + 1 + 1, 0, none⟩ = some (.pointer (some b)) ∧ V.cell? a = some (.int .i64 xk) ∧ V.cell? ⟨a.block, a.off + 2, none⟩ = some (.string xn) ∧ V.cell? ⟨a.block, a.off + 3, none⟩ = some (.int .i64 xm) ∧ V.cell? ⟨a.block, a.off + 4, none⟩ = some (.slice a4 xl.length b4) ∧ V.cell? ⟨a.block, a.off + 5, none⟩ = some (.slice a5 xps.length b5) ∧ V.cell? ⟨a.block, a.off + 6, none⟩ = some (.slice a6 xal.length b6) ∧ V.cell? ⟨a.block, a.off + 7, none⟩ = some (.slice a7 xds.length b7) ∧ V.cell? b = some (.int .i64 xk) ∧ V.cell? ⟨b.block, b.off + 2, none⟩ = some (.string xn) ∧ V.cell? ⟨b.block, b.off + 3, none⟩ = some (.int .i64 xm) ∧ V.cell? ⟨b.block, b.off + 4, none⟩ = some (.slice r4 yl.length s4) ∧ V.cell? ⟨b.block, b.off + 5, none⟩ = some (.slice r5 yps.length s5) ∧ V.cell? ⟨b.block, b.off + 6, none⟩ = some (.slice r6 yal.length s6) ∧ V.cell? ⟨b.block, b.off + 7, none⟩ = some (.slice r7 yds.length s7)) := Lib.hid (fun V hV => ⟨(hV.cell (Lib.lt_of_cell e4)).trans e4, (hV.cell (Lib.lt_of_cell e5)).trans e5, (hV.cell (Lib.lt_of_cell e6)).trans e6, (hV.cell (Lib.lt_of_cell c0)).trans c0, (hV.cell (Lib.lt_of_cell c2)).trans c2, (hV.cell (Lib.lt_of_cell c3)).trans c3, (hV.cell (Lib.lt_of_cell c4)).trans c4, (hV.cell (Lib.lt_of_cell c5)).trans c5, (hV.cell (Lib.lt_of_cell c6)).trans c6, (hV.cell (Lib.lt_of_cell c7)).trans c7, (hV.cell (Lib.lt_of_cell d0)).trans d0, (hV.cell (Lib.lt_of_cell d2)).trans d2, (hV.cell (Lib.lt_of_cell d3)).trans d3, (hV.cell (Lib.lt_of_cell d4)).trans d4, (hV.cell (Lib.lt_of_cell d5)).trans d5, (hV.cell (Lib.lt_of_cell d6)).trans d6, (hV.cell (Lib.lt_of_cell d7)).trans d7⟩)
  clear e4 e5 e6 c0 c2 c3 c4 c5 c6 c7 d0 d2 d3 d4 d5 d6 d7
  have hw2 : Below W.heap.size W W.drew := (Below.refl _ _).drew
  simp only [List.append_eq, List.cons_append, List.nil_append]
  refine wp_region_plan [(44, 3), (12, 3), (12, 3), (12, 3)] (by kernel_rfl) (by kernel_rfl) ?_
  change Wrapped (wpPlan _ _ _ _ _ _ W.drew)
  generalize W.drew = w2 at hw2 ⊢
  obtain ⟨e4, e5, e6, c0, c2, c3, c4, c5, c6, c7, d0, d2, d3, d4, d5, d6, d7⟩ := HF.out w2 hw2
  refine plan_step ?_
  simp only [List.take_succ_cons, List.take_zero, List.drop_succ_cons, List.drop_zero, Nat.reduceAdd]
  repeat (refine wst_step (fun K hK => ?_); go_simp; refine hK _ ?_; clear hK K)
  refine wst_nil ?_
  intro K hK
  have HK := Lib.hid hK
  clear hK
  go_wp2_with fail
  refine (C1.out w2 hw2).mono ?_
  rintro e w3 ⟨rfl, hw3⟩
  go_wp2
  refine HK.out _ _ ?_
  clear HK K e4 e5 e6 c0 c2 c3 c4 c5 c6 c7 d0 d2 d3 d4 d5 d6 d7
  obtain ⟨e4, e5, e6, c0, c2, c3, c4, c5, c6, c7, d0, d2, d3, d4, d5, d6, d7⟩ := HF.out w3 hw3
  refine plan_step ?_
  simp only [List.take_succ_cons, List.take_zero, List.drop_succ_cons, List.drop_zero, Nat.reduceAdd]
  repeat (refine wst_step (fun K hK => ?_); go_simp; refine hK _ ?_; clear hK K)
  refine wst_nil ?_
  intro K hK
  have HK := Lib.hid hK
  clear hK
  go_wp2_with fail
  refine (C2.out w3 hw3).mono ?_
  rintro e w4 ⟨rfl, hw4⟩
  go_wp2
  refine HK.out _ _ ?_
  clear HK K e4 e5 e6 c0 c2 c3 c4 c5 c6 c7 d0 d2 d3 d4 d5 d6 d7
  obtain ⟨e4, e5, e6, c0, c2, c3, c4, c5, c6, c7, d0, d2, d3, d4, d5, d6, d7⟩ := HF.out w4 hw4
  refine plan_step ?_
  simp only [List.take_succ_cons, List.take_zero, List.drop_succ_cons, List.drop_zero, Nat.reduceAdd]
  repeat (refine wst_step (fun K hK => ?_); go_simp; refine hK _ ?_; clear hK K)
  refine wst_nil ?_
  intro K hK
  have HK := Lib.hid hK
  clear hK
  go_wp2_with fail
  refine HK.out _ _ ?_
  clear HK K e4 e5 e6 c0 c2 c3 c4 c5 c6 c7 d0 d2 d3 d4 d5 d6 d7
  obtain ⟨e4, e5, e6, c0, c2, c3, c4, c5, c6, c7, d0, d2, d3, d4, d5, d6, d7⟩ := HF.out w4 hw4
  refine plan_step ?_
  simp only [List.take_succ_cons, List.take_zero, List.drop_succ_cons, List.drop_zero, Nat.reduceAdd]
  repeat (refine wst_step (fun K hK => ?_); go_simp; refine hK _ ?_; clear hK K)
  refine wst_nil ?_
  intro K hK
  have HK := Lib.hid hK
  clear hK
  go_wp2_with fail
  refine HK.out _ _ ?_
  clear HK K e4 e5 e6 c0 c2 c3 c4 c5 c6 c7 d0 d2 d3 d4 d5 d6 d7
  refine plan_end ?_
  go_wp2
  go_ret
  exact ⟨rfl, hbW.trans (hw4.mono hbW.size)⟩
end Go.Proofs.YtkdhoelabomgkaaGreatDoor
