/- Texts of this proof, joined: PExprs3, PExprs4, PListC, PCons, PAlts, PListX. No condition. -/
import Derived.Test.YtkdhoelabomgkaaGreatDoorMa11
import Derived.Test.YtkdhoelabomgkaaGreatDoorMa12
import Derived.Test.YtkdhoelabomgkaaGreatDoorMa13
import Derived.StillTailTactics
import Derived.Deep.RegionHeld3
/-
  Layer 3, the program's side: expressions, held against each other: the lists up to the 3. are.
-/
namespace Go.Proofs.YtkdhoelabomgkaaGreatDoor
set_option linter.unusedVariables false
open Go.ChangeShapes Go.WideShapes Go.ChangeAt Go.RowKit


set_option maxHeartbeats 1600000 in
set_option maxRecDepth 100000 in
theorem exprs_w3 (h a b : Addr) (lev : Int) (h0 : 0 ≤ lev) (h4 : lev ≤ 400) (P Q : Nat → Prop) (w : World) (xk xp xm yp : Int) (xn : ByteArray) (xl yl : List Ex) (xps yps : List Pa) (xal yal : List Al) (xds yds : List De)
    (ha : IsEx w P a (.mk xk xp xn xm xl xps xal xds)) (hb : IsEx w Q b (.mk xk yp xn xm yl yps yal yds))
    (hc1 : ∀ (v v' : Value) (W : World), Below w.heap.size w W → IsExs W P v xl → IsExs W Q v' yl → Gives 85 #[v, v', .int .i64 (lev + 1), .func (.func 47) #[.pointer (some h)] #[]] W true)
    (hc2 : ∀ (v v' : Value) (W : World), Below w.heap.size w W → IsPas W P v xps → IsPas W Q v' yps → Gives 81 #[v, v', .int .i64 (lev + 1), .func (.func 43) #[.pointer (some h)] #[]] W true)
    (hc3 : ∀ (v v' : Value) (W : World), Below w.heap.size w W → IsAls W P v xal → IsAls W Q v' yal → Gives 86 #[v, v', .int .i64 (lev + 1), .func (.func 87) #[.pointer (some h)] #[]] W false) :
    Calls Tryz.prog 47 #[.pointer (some h), .pointer (some a), .pointer (some b), .int .i64 lev] w fun e w' => e = .returned (.bool false) ∧ Below w.heap.size w w' := by
  obtain ⟨o4, ho4⟩ : ∃ o : Obj, o = .cells #[.pointer (some h)] 135 := ⟨_, rfl⟩
  obtain ⟨o5, ho5⟩ : ∃ o : Obj, o = .cells #[.pointer (some a)] 82 := ⟨_, rfl⟩
  obtain ⟨o6, ho6⟩ : ∃ o : Obj, o = .cells #[.pointer (some b)] 82 := ⟨_, rfl⟩
  obtain ⟨hbW, g4, g5, g6⟩ := three_boxes w o4 o5 o6
  have HW := Lib.hid (And.intro g4 (And.intro g5 g6))
  have HA := Lib.hid ha
  have HB := Lib.hid hb
  have D1 := Lib.hid hc1
  have D2 := Lib.hid hc2
  have D3 := Lib.hid hc3
  clear g4 g5 g6 ha hb hc1 hc2 hc3 
  go_enter Tryz.func47, Tryz.ntmps47
  go_wp2
  rw [← ho4, ← ho5, ← ho6]
  generalize ((w.alloc o4).alloc o5).alloc o6 = W at hbW HW ⊢
  obtain ⟨g4, g5, g6⟩ := HW.out
  subst ho4 ho5 ho6
  have e4 : W.cell? ⟨w.heap.size, 0, none⟩ = some (.pointer (some h)) := by rw [Lib.cell_of_heap g4]; rfl
  have e5 : W.cell? ⟨w.heap.size + 1, 0, none⟩ = some (.pointer (some a)) := by rw [Lib.cell_of_heap g5]; rfl
  have e6 : W.cell? ⟨w.heap.size + 1 + 1, 0, none⟩ = some (.pointer (some b)) := by rw [Lib.cell_of_heap g6]; rfl
  clear g4 g5 g6 HW
  obtain ⟨c0, _, c2, c2', c3, ⟨a4, b4, c4, _, _, x4⟩, ⟨a5, b5, c5, _, _, x5⟩, ⟨a6, b6, c6, _, _, x6⟩, ⟨a7, b7, c7, _, _, x7⟩⟩ := (HA.out.on hbW).cells
  obtain ⟨d0, _, d2, d2', d3, ⟨r4, s4, d4, _, _, y4⟩, ⟨r5, s5, d5, _, _, y5⟩, ⟨r6, s6, d6, _, _, y6⟩, ⟨r7, s7, d7, _, _, y7⟩⟩ := (HB.out.on hbW).cells
  have C1 := Lib.hid (D1.out _ _ W hbW x4 y4)
  have C2 := Lib.hid (D2.out _ _ W hbW x5 y5)
  have C3 := Lib.hid (D3.out _ _ W hbW x6 y6)
  clear x4 x5 x6 x7 y4 y5 y6 y7 D1 D2 D3 HA HB
  have s1 : IntKind.i64.wrap (lev + 1) = lev + 1 := IntWalk.i64_in _ (by omega)
  have HF : Hid (∀ V : World, Below W.heap.size W V → V.cell? ⟨w.heap.size, 0, none⟩ = some (.pointer (some h)) ∧ V.cell? ⟨w.heap.size + 1, 0, none⟩ = some (.pointer (some a)) ∧ V.cell? ⟨w.heap.size + 1 + 1, 0, none⟩ = some (.pointer (some b)) ∧ V.cell? a = some (.int .i64 xk) ∧ V.cell? ⟨a.block, a.off + 2, none⟩ = some (.string xn) ∧ V.cell? ⟨a.block, a.off + 3, none⟩ = some (.int .i64 xm) ∧ V.cell? ⟨a.block, a.off + 4, none⟩ = some (.slice a4 xl.length b4) ∧ V.cell? ⟨a.block, a.off + 5, none⟩ = some (.slice a5 xps.length b5) ∧ V.cell? ⟨a.block, a.off + 6, none⟩ = some (.slice a6 xal.length b6) ∧ V.cell? ⟨a.block, a.off + 7, none⟩ = some (.slice a7 xds.length b7) ∧ V.cell? b = some (.int .i64 xk) ∧ V.cell? ⟨b.block, b.off + 2, none⟩ = some (.string xn) ∧ V.cell? ⟨b.block, b.off + 3, none⟩ = some (.int .i64 xm) ∧ V.cell? ⟨b.block, b.off + 4, none⟩ = some (.slice r4 yl.length s4) ∧ V.cell? ⟨b.block, b.off + 5, none⟩ = some (.slice r5 yps.length s5) ∧ V.cell? ⟨b.block, b.off + 6, none⟩ = some (.slice r6 yal.length s6) ∧ V.cell? ⟨b.block, b.off + 7, none⟩ = some (.slice r7 yds.length s7)) := Lib.hid (fun V hV => ⟨(hV.cell (Lib.lt_of_cell e4)).trans e4, (hV.cell (Lib.lt_of_cell e5)).trans e5, (hV.cell (Lib.lt_of_cell e6)).trans e6, (hV.cell (Lib.lt_of_cell c0)).trans c0, (hV.cell (Lib.lt_of_cell c2)).trans c2, (hV.cell (Lib.lt_of_cell c3)).trans c3, (hV.cell (Lib.lt_of_cell c4)).trans c4, (hV.cell (Lib.lt_of_cell c5)).trans c5, (hV.cell (Lib.lt_of_cell c6)).trans c6, (hV.cell (Lib.lt_of_cell c7)).trans c7, (hV.cell (Lib.lt_of_cell d0)).trans d0, (hV.cell (Lib.lt_of_cell d2)).trans d2, (hV.cell (Lib.lt_of_cell d3)).trans d3, (hV.cell (Lib.lt_of_cell d4)).trans d4, (hV.cell (Lib.lt_of_cell d5)).trans d5, (hV.cell (Lib.lt_of_cell d6)).trans d6, (hV.cell (Lib.lt_of_cell d7)).trans d7⟩)
  clear e4 e5 e6 c0 c2 c3 c4 c5 c6 c7 d0 d2 d3 d4 d5 d6 d7
  have hw2 : Below W.heap.size W W.drew := (Below.refl _ _).drew
  simp only [List.append_eq, List.cons_append, List.nil_append]
  refine wp_region_plan [(44, 3), (12, 3), (12, 3), (12, 3)] (by kernel_rfl) (by kernel_rfl) ?_
  change Wrapped (wpPlan _ _ _ _ _ _ W.drew)
  generalize W.drew = w2 at hw2 ⊢
  obtain ⟨e4, e5, e6, c0, c2, c3, c4, c5, c6, c7, d0, d2, d3, d4, d5, d6, d7⟩ := HF.out w2 hw2
  refine plan_step ?_
  simp only [List.take_succ_cons, List.take_zero, List.drop_succ_cons, List.drop_zero, Nat.reduceAdd]
  repeat (refine wst_step (fun K hK => ?_); go_simp; refine hK _ ?_; clear hK K)
  refine wst_nil ?_
  intro K hK
  have HK := Lib.hid hK
  clear hK
  go_wp2_with fail
  refine (C1.out w2 hw2).mono ?_
  rintro e w3 ⟨rfl, hw3⟩
  go_wp2
  refine HK.out _ _ ?_
  clear HK K e4 e5 e6 c0 c2 c3 c4 c5 c6 c7 d0 d2 d3 d4 d5 d6 d7
  obtain ⟨e4, e5, e6, c0, c2, c3, c4, c5, c6, c7, d0, d2, d3, d4, d5, d6, d7⟩ := HF.out w3 hw3
  refine plan_step ?_
  simp only [List.take_succ_cons, List.take_zero, List.drop_succ_cons, List.drop_zero, Nat.reduceAdd]
  repeat (refine wst_step (fun K hK => ?_); go_simp; refine hK _ ?_; clear hK K)
  refine wst_nil ?_
  intro K hK
  have HK := Lib.hid hK
  clear hK
  go_wp2_with fail
  refine (C2.out w3 hw3).mono ?_
  rintro e w4 ⟨rfl, hw4⟩
  go_wp2
  refine HK.out _ _ ?_
  clear HK K e4 e5 e6 c0 c2 c3 c4 c5 c6 c7 d0 d2 d3 d4 d5 d6 d7
  obtain ⟨e4, e5, e6, c0, c2, c3, c4, c5, c6, c7, d0, d2, d3, d4, d5, d6, d7⟩ := HF.out w4 hw4
  refine plan_step ?_
  simp only [List.take_succ_cons, List.take_zero, List.drop_succ_cons, List.drop_zero, Nat.reduceAdd]
  repeat (refine wst_step (fun K hK => ?_); go_simp; refine hK _ ?_; clear hK K)
  refine wst_nil ?_
  intro K hK
  have HK := Lib.hid hK
  clear hK
  go_wp2_with fail
  refine (C3.out w4 hw4).mono ?_
  rintro e w5 ⟨rfl, hw5⟩
  go_wp2
  refine HK.out _ _ ?_
  clear HK K e4 e5 e6 c0 c2 c3 c4 c5 c6 c7 d0 d2 d3 d4 d5 d6 d7
  obtain ⟨e4, e5, e6, c0, c2, c3, c4, c5, c6, c7, d0, d2, d3, d4, d5, d6, d7⟩ := HF.out w5 hw5
  refine plan_step ?_
  simp only [List.take_succ_cons, List.take_zero, List.drop_succ_cons, List.drop_zero, Nat.reduceAdd]
  repeat (refine wst_step (fun K hK => ?_); go_simp; refine hK _ ?_; clear hK K)
  refine wst_nil ?_
  intro K hK
  have HK := Lib.hid hK
  clear hK
  go_wp2_with fail
  refine HK.out _ _ ?_
  clear HK K e4 e5 e6 c0 c2 c3 c4 c5 c6 c7 d0 d2 d3 d4 d5 d6 d7
  refine plan_end ?_
  go_wp2
  go_ret
  exact ⟨rfl, hbW.trans (hw5.mono hbW.size)⟩
end Go.Proofs.YtkdhoelabomgkaaGreatDoor
/-
  Layer 3, the program's side: expressions, held against each other: the lists up to the 4. are.
-/
namespace Go.Proofs.YtkdhoelabomgkaaGreatDoor
set_option linter.unusedVariables false
open Go.ChangeShapes Go.WideShapes Go.ChangeAt Go.RowKit


set_option maxHeartbeats 1600000 in
set_option maxRecDepth 100000 in
theorem exprs_w4 (h a b : Addr) (lev : Int) (h0 : 0 ≤ lev) (h4 : lev ≤ 400) (P Q : Nat → Prop) (w : World) (xk xp xm yp : Int) (xn : ByteArray) (xl yl : List Ex) (xps yps : List Pa) (xal yal : List Al) (xds yds : List De) (b4' : Bool)
    (ha : IsEx w P a (.mk xk xp xn xm xl xps xal xds)) (hb : IsEx w Q b (.mk xk yp xn xm yl yps yal yds))
    (hc1 : ∀ (v v' : Value) (W : World), Below w.heap.size w W → IsExs W P v xl → IsExs W Q v' yl → Gives 85 #[v, v', .int .i64 (lev + 1), .func (.func 47) #[.pointer (some h)] #[]] W true)
    (hc2 : ∀ (v v' : Value) (W : World), Below w.heap.size w W → IsPas W P v xps → IsPas W Q v' yps → Gives 81 #[v, v', .int .i64 (lev + 1), .func (.func 43) #[.pointer (some h)] #[]] W true)
    (hc3 : ∀ (v v' : Value) (W : World), Below w.heap.size w W → IsAls W P v xal → IsAls W Q v' yal → Gives 86 #[v, v', .int .i64 (lev + 1), .func (.func 87) #[.pointer (some h)] #[]] W true)
    (hc4 : ∀ (v v' : Value) (W : World), Below w.heap.size w W → IsDes W P v xds → IsDes W Q v' yds → Gives 48 #[v, v', .int .i64 (lev + 1), .func (.func 49) #[.pointer (some h)] #[]] W b4') :
    Calls Tryz.prog 47 #[.pointer (some h), .pointer (some a), .pointer (some b), .int .i64 lev] w fun e w' => e = .returned (.bool b4') ∧ Below w.heap.size w w' := by
  obtain ⟨o4, ho4⟩ : ∃ o : Obj, o = .cells #[.pointer (some h)] 135 := ⟨_, rfl⟩
  obtain ⟨o5, ho5⟩ : ∃ o : Obj, o = .cells #[.pointer (some a)] 82 := ⟨_, rfl⟩
  obtain ⟨o6, ho6⟩ : ∃ o : Obj, o = .cells #[.pointer (some b)] 82 := ⟨_, rfl⟩
  obtain ⟨hbW, g4, g5, g6⟩ := three_boxes w o4 o5 o6
  have HW := Lib.hid (And.intro g4 (And.intro g5 g6))
  have HA := Lib.hid ha
  have HB := Lib.hid hb
  have D1 := Lib.hid hc1
  have D2 := Lib.hid hc2
  have D3 := Lib.hid hc3
  have D4 := Lib.hid hc4
  clear g4 g5 g6 ha hb hc1 hc2 hc3 hc4
  go_enter Tryz.func47, Tryz.ntmps47
  go_wp2
  rw [← ho4, ← ho5, ← ho6]
  generalize ((w.alloc o4).alloc o5).alloc o6 = W at hbW HW ⊢
  obtain ⟨g4, g5, g6⟩ := HW.out
  subst ho4 ho5 ho6
  have e4 : W.cell? ⟨w.heap.size, 0, none⟩ = some (.pointer (some h)) := by rw [Lib.cell_of_heap g4]; rfl
  have e5 : W.cell? ⟨w.heap.size + 1, 0, none⟩ = some (.pointer (some a)) := by rw [Lib.cell_of_heap g5]; rfl
  have e6 : W.cell? ⟨w.heap.size + 1 + 1, 0, none⟩ = some (.pointer (some b)) := by rw [Lib.cell_of_heap g6]; rfl
  clear g4 g5 g6 HW
  obtain ⟨c0, _, c2, c2', c3, ⟨a4, b4, c4, _, _, x4⟩, ⟨a5, b5, c5, _, _, x5⟩, ⟨a6, b6, c6, _, _, x6⟩, ⟨a7, b7, c7, _, _, x7⟩⟩ := (HA.out.on hbW).cells
  obtain ⟨d0, _, d2, d2', d3, ⟨r4, s4, d4, _, _, y4⟩, ⟨r5, s5, d5, _, _, y5⟩, ⟨r6, s6, d6, _, _, y6⟩, ⟨r7, s7, d7, _, _, y7⟩⟩ := (HB.out.on hbW).cells
  have C1 := Lib.hid (D1.out _ _ W hbW x4 y4)
  have C2 := Lib.hid (D2.out _ _ W hbW x5 y5)
  have C3 := Lib.hid (D3.out _ _ W hbW x6 y6)
  have C4 := Lib.hid (D4.out _ _ W hbW x7 y7)
  clear x4 x5 x6 x7 y4 y5 y6 y7 D1 D2 D3 D4 HA HB
  have s1 : IntKind.i64.wrap (lev + 1) = lev + 1 := IntWalk.i64_in _ (by omega)
  have HF : Hid (∀ V : World, Below W.heap.size W V → V.cell? ⟨w.heap.size, 0, none⟩ = some (.pointer (some h)) ∧ V.cell? ⟨w.heap.size + 1, 0, none⟩ = some (.pointer (some a)) ∧ V.cell? ⟨w.heap.size + 1 + 1, 0, none⟩ = some (.pointer (some b)) ∧ V.cell? a = some (.int .i64 xk) ∧ V.cell? ⟨a.block, a.off + 2, none⟩ = some (.string xn) ∧ V.cell? ⟨a.block, a.off + 3, none⟩ = some (.int .i64 xm) ∧ V.cell? ⟨a.block, a.off + 4, none⟩ = some (.slice a4 xl.length b4) ∧ V.cell? ⟨a.block, a.off + 5, none⟩ = some (.slice a5 xps.length b5) ∧ V.cell? ⟨a.block, a.off + 6, none⟩ = some (.slice a6 xal.length b6) ∧ V.cell? ⟨a.block, a.off + 7, none⟩ = some (.slice a7 xds.length b7) ∧ V.cell? b = some (.int .i64 xk) ∧ V.cell? ⟨b.block, b.off + 2, none⟩ = some (.string xn) ∧ V.cell? ⟨b.block, b.off + 3, none⟩ = some (.int .i64 xm) ∧ V.cell? ⟨b.block, b.off + 4, none⟩ = some (.slice r4 yl.length s4) ∧ V.cell? ⟨b.block, b.off + 5, none⟩ = some (.slice r5 yps.length s5) ∧ V.cell? ⟨b.block, b.off + 6, none⟩ = some (.slice r6 yal.length s6) ∧ V.cell? ⟨b.block, b.off + 7, none⟩ = some (.slice r7 yds.length s7)) := Lib.hid (fun V hV => ⟨(hV.cell (Lib.lt_of_cell e4)).trans e4, (hV.cell (Lib.lt_of_cell e5)).trans e5, (hV.cell (Lib.lt_of_cell e6)).trans e6, (hV.cell (Lib.lt_of_cell c0)).trans c0, (hV.cell (Lib.lt_of_cell c2)).trans c2, (hV.cell (Lib.lt_of_cell c3)).trans c3, (hV.cell (Lib.lt_of_cell c4)).trans c4, (hV.cell (Lib.lt_of_cell c5)).trans c5, (hV.cell (Lib.lt_of_cell c6)).trans c6, (hV.cell (Lib.lt_of_cell c7)).trans c7, (hV.cell (Lib.lt_of_cell d0)).trans d0, (hV.cell (Lib.lt_of_cell d2)).trans d2, (hV.cell (Lib.lt_of_cell d3)).trans d3, (hV.cell (Lib.lt_of_cell d4)).trans d4, (hV.cell (Lib.lt_of_cell d5)).trans d5, (hV.cell (Lib.lt_of_cell d6)).trans d6, (hV.cell (Lib.lt_of_cell d7)).trans d7⟩)
  clear e4 e5 e6 c0 c2 c3 c4 c5 c6 c7 d0 d2 d3 d4 d5 d6 d7
  have hw2 : Below W.heap.size W W.drew := (Below.refl _ _).drew
  simp only [List.append_eq, List.cons_append, List.nil_append]
  refine wp_region_plan [(44, 3), (12, 3), (12, 3), (12, 3)] (by kernel_rfl) (by kernel_rfl) ?_
  change Wrapped (wpPlan _ _ _ _ _ _ W.drew)
  generalize W.drew = w2 at hw2 ⊢
  obtain ⟨e4, e5, e6, c0, c2, c3, c4, c5, c6, c7, d0, d2, d3, d4, d5, d6, d7⟩ := HF.out w2 hw2
  refine plan_step ?_
  simp only [List.take_succ_cons, List.take_zero, List.drop_succ_cons, List.drop_zero, Nat.reduceAdd]
  repeat (refine wst_step (fun K hK => ?_); go_simp; refine hK _ ?_; clear hK K)
  refine wst_nil ?_
  intro K hK
  have HK := Lib.hid hK
  clear hK
  go_wp2_with fail
  refine (C1.out w2 hw2).mono ?_
  rintro e w3 ⟨rfl, hw3⟩
  go_wp2
  refine HK.out _ _ ?_
  clear HK K e4 e5 e6 c0 c2 c3 c4 c5 c6 c7 d0 d2 d3 d4 d5 d6 d7
  obtain ⟨e4, e5, e6, c0, c2, c3, c4, c5, c6, c7, d0, d2, d3, d4, d5, d6, d7⟩ := HF.out w3 hw3
  refine plan_step ?_
  simp only [List.take_succ_cons, List.take_zero, List.drop_succ_cons, List.drop_zero, Nat.reduceAdd]
  repeat (refine wst_step (fun K hK => ?_); go_simp; refine hK _ ?_; clear hK K)
  refine wst_nil ?_
  intro K hK
  have HK := Lib.hid hK
  clear hK
  go_wp2_with fail
  refine (C2.out w3 hw3).mono ?_
  rintro e w4 ⟨rfl, hw4⟩
  go_wp2
  refine HK.out _ _ ?_
  clear HK K e4 e5 e6 c0 c2 c3 c4 c5 c6 c7 d0 d2 d3 d4 d5 d6 d7
  obtain ⟨e4, e5, e6, c0, c2, c3, c4, c5, c6, c7, d0, d2, d3, d4, d5, d6, d7⟩ := HF.out w4 hw4
  refine plan_step ?_
  simp only [List.take_succ_cons, List.take_zero, List.drop_succ_cons, List.drop_zero, Nat.reduceAdd]
  repeat (refine wst_step (fun K hK => ?_); go_simp; refine hK _ ?_; clear hK K)
  refine wst_nil ?_
  intro K hK
  have HK := Lib.hid hK
  clear hK
  go_wp2_with fail
  refine (C3.out w4 hw4).mono ?_
  rintro e w5 ⟨rfl, hw5⟩
  go_wp2
  refine HK.out _ _ ?_
  clear HK K e4 e5 e6 c0 c2 c3 c4 c5 c6 c7 d0 d2 d3 d4 d5 d6 d7
  obtain ⟨e4, e5, e6, c0, c2, c3, c4, c5, c6, c7, d0, d2, d3, d4, d5, d6, d7⟩ := HF.out w5 hw5
  refine plan_step ?_
  simp only [List.take_succ_cons, List.take_zero, List.drop_succ_cons, List.drop_zero, Nat.reduceAdd]
  repeat (refine wst_step (fun K hK => ?_); go_simp; refine hK _ ?_; clear hK K)
  refine wst_nil ?_
  intro K hK
  have HK := Lib.hid hK
  clear hK
  go_wp2_with fail
  refine (C4.out w5 hw5).mono ?_
  rintro e w6 ⟨rfl, hw6⟩
  go_wp2
  refine HK.out _ _ ?_
  clear HK K e4 e5 e6 c0 c2 c3 c4 c5 c6 c7 d0 d2 d3 d4 d5 d6 d7
  refine plan_end ?_
  go_wp2
  go_ret
  exact ⟨rfl, hbW.trans (hw6.mono hbW.size)⟩
end Go.Proofs.YtkdhoelabomgkaaGreatDoor
/-
  Layer 3, the program's side: sameList, at one of its kinds of list, given what holds two of its parts.
-/
namespace Go.Proofs.YtkdhoelabomgkaaGreatDoor
set_option linter.unusedVariables false
open Go.ChangeShapes Go.WideShapes Go.ChangeAt Go.RowKit


/-- two parts are held against each other at this level -/
def HoldsC (h : Addr) (lev : Int) (t u : Co) : Prop := ∀ (P Q : Nat → Prop) (a b : Addr) (w : World), IsCo w P a t → IsCo w Q b u →
  Calls Tryz.prog 91 #[.pointer (some h), .pointer (some a), .pointer (some b), .int .i64 lev] w fun e w' => e = .returned (.bool (t.same u)) ∧ Below w.heap.size w w'
set_option maxHeartbeats 800000 in
set_option maxRecDepth 100000 in
theorem listC (h : Addr) (lev : Int) (sl tl : List Co) (hall : ∀ (k : Nat) (t u : Co), sl[k]? = some t → tl[k]? = some u → HoldsC h lev t u) (P Q : Nat → Prop) (v v' : Value) (w : World) (hs : IsCos w P v sl) (ht : IsCos w Q v' tl) :
    Calls Tryz.prog 90 #[v, v', .int .i64 lev, .func (.func 91) #[.pointer (some h)] #[]] w fun e w' => e = .returned (.bool (Co.sames sl tl)) ∧ Below w.heap.size w w' := by
  obtain ⟨ao, cap, rfl, v1, v2⟩ := hs.form
  obtain ⟨bo, cap2, rfl, u1, u2⟩ := ht.form
  have HI := Lib.hid hall
  have HS1 := Lib.hid hs
  have HT1 := Lib.hid ht
  have hlm : (sl.length : Int) ≤ 9223372036854775807 := by unfold maxLen at v2; omega
  clear hall hs ht
  by_cases hl : sl.length = tl.length
  · have q3 : ((sl.length : Int) != tl.length) = false := by rw [bne_eq_false_iff_eq]; omega
    have HLn := Lib.hid hl
    clear hl
    go_enter Tryz.func90, Tryz.ntmps90
    go_wp2
    go_loopw [17] (fun iv wr => ∃ k : Nat, k ≤ sl.length ∧ iv = .int .i64 k ∧ Hid (∀ (j : Nat) (s t : Co), j < k → sl[j]? = some s → tl[j]? = some t → (s.same t) = true) ∧ Below w.heap.size w wr) (fun iv _ => sl.length - (intOf iv).toNat)
    case atStart => exact ⟨0, Nat.zero_le _, rfl, Lib.hid (fun j s t hj => by omega), Below.refl _ _⟩
    case round =>
      obtain ⟨i, hi, rfl, H, hbw⟩ := hrel
      by_cases hlt : i < sl.length
      · have i1 : (i : Int) < sl.length := by omega
        have i2 : (i : Int) < tl.length := by have := HLn.out; omega
        obtain ⟨x, hx⟩ : ∃ x, sl[i]? = some x := ⟨sl[i], List.getElem?_eq_getElem hlt⟩
        obtain ⟨y, hy⟩ : ∃ y, tl[i]? = some y := ⟨tl[i]'(by have := HLn.out; omega), List.getElem?_eq_getElem (by have := HLn.out; omega)⟩
        obtain ⟨a, rfl, _, hrow⟩ := HS1.out.at hx
        obtain ⟨b, rfl, _, hrow'⟩ := HT1.out.at hy
        have HR := Lib.hid (hrow.on hbw)
        have HR' := Lib.hid (hrow'.on hbw)
        have HX := Lib.hid hx
        have HY := Lib.hid hy
        have HXY := Lib.hid (HI.out i x y hx hy)
        clear hrow hrow' hx hy
        go_wp2
        go_still_tail 8, (by kernel_rfl)
        change wpList _ _ _ _ _ wr.drew
        have hbd : Below wr.heap.size wr wr.drew := (Below.refl _ _).drew
        have HXA2 := Lib.hid (HR.out.on hbd)
        have HYA2 := Lib.hid (HR'.out.on hbd)
        have hbw2 := hbw.trans (hbd.mono hbw.size)
        generalize wr.drew = w2 at HXA2 HYA2 hbw2 ⊢
        go_wp2_with fail
        refine (HXY.out P Q _ _ w2 HXA2.out HYA2.out).mono ?_
        rintro e w3 ⟨rfl, hb3⟩
        have hbw3 := hbw2.trans (hb3.mono hbw2.size)
        by_cases hr : (x.same y) = true
        · rw [hr]
          have HN : Hid (∀ (j : Nat) (s t : Co), j < i + 1 → sl[j]? = some s → tl[j]? = some t → (s.same t) = true) := Lib.hid (fun j s t hj h1 h2 => by
            by_cases hji : j = i
            · subst hji
              rw [HX.out] at h1
              rw [HY.out] at h2
              cases h1; cases h2; exact hr
            · exact H.out j s t (by omega) h1 h2)
          clear hr
          go_wp2
          go_roundw
          case rel => exact ⟨i + 1, by omega, by go_num, HN, hbw3⟩
          case measure => simp [intOf]; omega
        · have hr : (x.same y) = false := by simpa using hr
          have HF : Hid (Co.sames sl tl = false) := Lib.hid (Co.sames_not sl tl i _ _ HX.out HY.out hr)
          rw [hr]
          clear hr
          go_wp2
          go_ret
          exact ⟨by rw [HF.out]; rfl, hbw3⟩
      · have i1 : ¬ (i : Int) < sl.length := by omega
        have HF : Hid (Co.sames sl tl = true) := Lib.hid (Co.sames_all sl tl HLn.out (fun j s t h1 h2 => H.out j s t (by have := (List.getElem?_eq_some_iff.1 h1).1; omega) h1 h2))
        go_wp2
        go_ret
        exact ⟨by rw [HF.out]; rfl, hbw⟩
  · have q3 : ((sl.length : Int) != tl.length) = true := by rw [bne_iff_ne]; omega
    have HE : Hid (Co.sames sl tl = false) := Lib.hid (by
      cases hq : Co.sames sl tl with
      | false => rfl
      | true => exact absurd (Co.sames_len sl tl hq) hl)
    clear hl
    go_enter Tryz.func90, Tryz.ntmps90
    go_wp2
    go_ret
    exact ⟨by rw [HE.out]; rfl, Below.refl _ _⟩

end Go.Proofs.YtkdhoelabomgkaaGreatDoor
/-
  Layer 3, the program's side: cons, held against each other.
-/
namespace Go.Proofs.YtkdhoelabomgkaaGreatDoor
set_option linter.unusedVariables false
open Go.ChangeShapes Go.WideShapes Go.ChangeAt Go.RowKit

set_option maxHeartbeats 1600000 in
set_option maxRecDepth 100000 in
theorem cons_step (h : Addr) (lev : Int) (t u : Co) (hl : ∀ (k : Nat) (x y : Ty), t.args[k]? = some x → u.args[k]? = some y → HoldsT h lev x y) : HoldsC h lev t u := by
  intro P Q a b w ha hb
  obtain ⟨xp, xn, xl⟩ := t
  obtain ⟨yp, yn, yl⟩ := u
  have HL := Lib.hid hl
  have hsame : Co.same ⟨xp, xn, xl⟩ ⟨yp, yn, yl⟩ = (xn.data.toList == yn.data.toList && Ty.sames xl yl) := rfl
  have HS := Lib.hid hsame
  obtain ⟨_, c1, c1', ca, cb, c2, _, _, hxa⟩ := ha.cells
  obtain ⟨_, d1, d1', da, db, d2, _, _, hya⟩ := hb.cells
  have HXA := Lib.hid hxa
  have HYA := Lib.hid hya
  clear hl hsame ha hb hxa hya
  go_enter Tryz.func91, Tryz.ntmps91
  go_wp2
  by_cases hn : xn = yn
  · subst hn
    have HE : Hid (Co.same ⟨xp, xn, xl⟩ ⟨yp, xn, yl⟩ = Ty.sames xl yl) := Lib.hid (by rw [HS.out]; simp)
    go_still_tail 21, (by kernel_rfl)
    change wpList _ _ _ _ _ w.drew
    have hbd : Below w.heap.size w w.drew := (Below.refl _ _).drew
    have HXA2 := Lib.hid (HXA.out.on hbd)
    have HYA2 := Lib.hid (HYA.out.on hbd)
    generalize w.drew = w2 at HXA2 HYA2 hbd ⊢
    go_wp2_with fail
    refine (listT h lev xl yl HL.out P Q _ _ w2 HXA2.out HYA2.out).mono ?_
    rintro e w3 ⟨rfl, hb3⟩
    have hbw3 := hbd.trans (hb3.mono hbd.size)
    go_wp2
    go_ret
    exact ⟨by rw [HE.out]; rfl, hbw3⟩
  · have q2 := text_ne hn
    have HE : Hid (Co.same ⟨xp, xn, xl⟩ ⟨yp, yn, yl⟩ = false) := Lib.hid (by rw [HS.out, ← text_eq, q2]; simp)
    clear hn
    go_quiet (fail)
    go_wp2
    go_ret
    exact ⟨by rw [HE.out]; rfl, drew_below w _⟩
end Go.Proofs.YtkdhoelabomgkaaGreatDoor
/-
  Layer 3, the program's side: ways, held against each other.
-/
namespace Go.Proofs.YtkdhoelabomgkaaGreatDoor
set_option linter.unusedVariables false
open Go.ChangeShapes Go.WideShapes Go.ChangeAt Go.RowKit

/-- a call that holds two parts against each other, from wherever above W -/
theorem gives_mono {f : Nat} {args : Array Value} {W : World} {b : Bool} (h : ∀ W2 : World, Below W.heap.size W W2 → Calls Tryz.prog f args W2 fun e w' => e = .returned (.bool b) ∧ Below W2.heap.size W2 w') : Gives f args W b := fun W2 hW => (h W2 hW).mono fun e w' ⟨h1, h2⟩ => ⟨h1, hW.trans (h2.mono hW.size)⟩

set_option maxHeartbeats 1600000 in
set_option maxRecDepth 100000 in
theorem alts_step (h : Addr) (lev : Int) (t u : Al) (P Q : Nat → Prop) (a b : Addr) (w : World) (b1 b2 : Bool)
    (hc1 : Gives 43 #[.pointer (some h), .pointer (some a), .pointer (some b), .int .i64 lev] w b1)
    (hc2 : b1 = true → Gives 47 #[.pointer (some h), .pointer (some (a.add 5)), .pointer (some (b.add 5)), .int .i64 lev] w b2) :
    Calls Tryz.prog 87 #[.pointer (some h), .pointer (some a), .pointer (some b), .int .i64 lev] w fun e w' => e = .returned (.bool (b1 && b2)) ∧ Below w.heap.size w w' := by
  rw [add_off _ _ (by decide), add_off _ _ (by decide)] at hc2
  have C1 := Lib.hid hc1
  have D2 := Lib.hid hc2
  clear hc1 hc2
  go_enter Tryz.func87, Tryz.ntmps87
  go_wp2
  have hw2 : Below w.heap.size w w.drew := (Below.refl _ _).drew
  refine wp_region_plan [(8, 2), (8, 3)] (by kernel_rfl) (by kernel_rfl) ?_
  change Wrapped (wpPlan _ _ _ _ _ _ w.drew)
  generalize w.drew = w2 at hw2 ⊢
  cases b1
  · refine plan_step ?_
    simp only [List.take_succ_cons, List.take_zero, List.drop_succ_cons, List.drop_zero, Nat.reduceAdd]
    repeat (refine wst_step (fun K hK => ?_); go_simp; refine hK _ ?_; clear hK K)
    refine wst_nil ?_
    intro K hK
    have HK := Lib.hid hK
    clear hK
    go_wp2_with fail
    refine (C1.out w2 hw2).mono ?_
    rintro e w3 ⟨rfl, hw3⟩
    go_wp2
    refine HK.out _ _ ?_
    clear HK K 
    refine plan_step ?_
    simp only [List.take_succ_cons, List.take_zero, List.drop_succ_cons, List.drop_zero, Nat.reduceAdd]
    repeat (refine wst_step (fun K hK => ?_); go_simp; refine hK _ ?_; clear hK K)
    refine wst_nil ?_
    intro K hK
    have HK := Lib.hid hK
    clear hK
    go_wp2_with fail
    refine HK.out _ _ ?_
    clear HK K 
    refine plan_end ?_
    go_wp2
    go_ret
    exact ⟨rfl, hw3⟩
  · have C2 := Lib.hid (D2.out rfl)
    clear D2
    refine plan_step ?_
    simp only [List.take_succ_cons, List.take_zero, List.drop_succ_cons, List.drop_zero, Nat.reduceAdd]
    repeat (refine wst_step (fun K hK => ?_); go_simp; refine hK _ ?_; clear hK K)
    refine wst_nil ?_
    intro K hK
    have HK := Lib.hid hK
    clear hK
    go_wp2_with fail
    refine (C1.out w2 hw2).mono ?_
    rintro e w3 ⟨rfl, hw3⟩
    go_wp2
    refine HK.out _ _ ?_
    clear HK K 
    refine plan_step ?_
    simp only [List.take_succ_cons, List.take_zero, List.drop_succ_cons, List.drop_zero, Nat.reduceAdd]
    repeat (refine wst_step (fun K hK => ?_); go_simp; refine hK _ ?_; clear hK K)
    refine wst_nil ?_
    intro K hK
    have HK := Lib.hid hK
    clear hK
    go_wp2_with fail
    refine (C2.out w3 hw3).mono ?_
    rintro e w4 ⟨rfl, hw4⟩
    go_wp2
    refine HK.out _ _ ?_
    clear HK K 
    refine plan_end ?_
    go_wp2
    go_ret
    exact ⟨rfl, hw4⟩
end Go.Proofs.YtkdhoelabomgkaaGreatDoor
/-
  Layer 3, the program's side: sameList, at one of its kinds of list, given what holds two of its parts.
-/
namespace Go.Proofs.YtkdhoelabomgkaaGreatDoor
set_option linter.unusedVariables false
open Go.ChangeShapes Go.WideShapes Go.ChangeAt Go.RowKit


/-- two parts are held against each other at this level -/
def HoldsX (lev : Int) (t u : ByteArray) : Prop := ∀ (P Q : Nat → Prop) (a b : Addr) (w : World), IsTx w P a t → IsTx w Q b u →
  Calls Tryz.prog 89 #[.pointer (some a), .pointer (some b), .int .i64 lev] w fun e w' => e = .returned (.bool ((t.data.toList == u.data.toList))) ∧ Below w.heap.size w w'
set_option maxHeartbeats 800000 in
set_option maxRecDepth 100000 in
theorem listX (lev : Int) (sl tl : List ByteArray) (hall : ∀ (k : Nat) (t u : ByteArray), sl[k]? = some t → tl[k]? = some u → HoldsX lev t u) (P Q : Nat → Prop) (v v' : Value) (w : World) (hs : IsTxs w P v sl) (ht : IsTxs w Q v' tl) :
    Calls Tryz.prog 88 #[v, v', .int .i64 lev, .func (.func 89) #[] #[]] w fun e w' => e = .returned (.bool (Tx.sames sl tl)) ∧ Below w.heap.size w w' := by
  obtain ⟨ao, cap, rfl, v1, v2⟩ := hs.form
  obtain ⟨bo, cap2, rfl, u1, u2⟩ := ht.form
  have HI := Lib.hid hall
  have HS1 := Lib.hid hs
  have HT1 := Lib.hid ht
  have hlm : (sl.length : Int) ≤ 9223372036854775807 := by unfold maxLen at v2; omega
  clear hall hs ht
  by_cases hl : sl.length = tl.length
  · have q3 : ((sl.length : Int) != tl.length) = false := by rw [bne_eq_false_iff_eq]; omega
    have HLn := Lib.hid hl
    clear hl
    go_enter Tryz.func88, Tryz.ntmps88
    go_wp2
    go_loopw [17] (fun iv wr => ∃ k : Nat, k ≤ sl.length ∧ iv = .int .i64 k ∧ Hid (∀ (j : Nat) (s t : ByteArray), j < k → sl[j]? = some s → tl[j]? = some t → ((s.data.toList == t.data.toList)) = true) ∧ Below w.heap.size w wr) (fun iv _ => sl.length - (intOf iv).toNat)
    case atStart => exact ⟨0, Nat.zero_le _, rfl, Lib.hid (fun j s t hj => by omega), Below.refl _ _⟩
    case round =>
      obtain ⟨i, hi, rfl, H, hbw⟩ := hrel
      by_cases hlt : i < sl.length
      · have i1 : (i : Int) < sl.length := by omega
        have i2 : (i : Int) < tl.length := by have := HLn.out; omega
        obtain ⟨x, hx⟩ : ∃ x, sl[i]? = some x := ⟨sl[i], List.getElem?_eq_getElem hlt⟩
        obtain ⟨y, hy⟩ : ∃ y, tl[i]? = some y := ⟨tl[i]'(by have := HLn.out; omega), List.getElem?_eq_getElem (by have := HLn.out; omega)⟩
        obtain ⟨a, rfl, _, hrow⟩ := HS1.out.at hx
        obtain ⟨b, rfl, _, hrow'⟩ := HT1.out.at hy
        rw [Nat.mul_one] at hrow hrow'
        have HR := Lib.hid (hrow.on hbw)
        have HR' := Lib.hid (hrow'.on hbw)
        have HX := Lib.hid hx
        have HY := Lib.hid hy
        have HXY := Lib.hid (HI.out i x y hx hy)
        clear hrow hrow' hx hy
        go_wp2
        go_still_tail 8, (by kernel_rfl)
        change wpList _ _ _ _ _ wr.drew
        have hbd : Below wr.heap.size wr wr.drew := (Below.refl _ _).drew
        have HXA2 := Lib.hid (HR.out.on hbd)
        have HYA2 := Lib.hid (HR'.out.on hbd)
        have hbw2 := hbw.trans (hbd.mono hbw.size)
        generalize wr.drew = w2 at HXA2 HYA2 hbw2 ⊢
        go_wp2_with fail
        refine (HXY.out P Q _ _ w2 HXA2.out HYA2.out).mono ?_
        rintro e w3 ⟨rfl, hb3⟩
        have hbw3 := hbw2.trans (hb3.mono hbw2.size)
        by_cases hr : ((x.data.toList == y.data.toList)) = true
        · rw [hr]
          have HN : Hid (∀ (j : Nat) (s t : ByteArray), j < i + 1 → sl[j]? = some s → tl[j]? = some t → ((s.data.toList == t.data.toList)) = true) := Lib.hid (fun j s t hj h1 h2 => by
            by_cases hji : j = i
            · subst hji
              rw [HX.out] at h1
              rw [HY.out] at h2
              cases h1; cases h2; exact hr
            · exact H.out j s t (by omega) h1 h2)
          clear hr
          go_wp2
          go_roundw
          case rel => exact ⟨i + 1, by omega, by go_num, HN, hbw3⟩
          case measure => simp [intOf]; omega
        · have hr : ((x.data.toList == y.data.toList)) = false := by simpa using hr
          have HF : Hid (Tx.sames sl tl = false) := Lib.hid (Tx.sames_not sl tl i _ _ HX.out HY.out hr)
          rw [hr]
          clear hr
          go_wp2
          go_ret
          exact ⟨by rw [HF.out]; rfl, hbw3⟩
      · have i1 : ¬ (i : Int) < sl.length := by omega
        have HF : Hid (Tx.sames sl tl = true) := Lib.hid (Tx.sames_all sl tl HLn.out (fun j s t h1 h2 => H.out j s t (by have := (List.getElem?_eq_some_iff.1 h1).1; omega) h1 h2))
        go_wp2
        go_ret
        exact ⟨by rw [HF.out]; rfl, hbw⟩
  · have q3 : ((sl.length : Int) != tl.length) = true := by rw [bne_iff_ne]; omega
    have HE : Hid (Tx.sames sl tl = false) := Lib.hid (by
      cases hq : Tx.sames sl tl with
      | false => rfl
      | true => exact absurd (Tx.sames_len sl tl hq) hl)
    clear hl
    go_enter Tryz.func88, Tryz.ntmps88
    go_wp2
    go_ret
    exact ⟨by rw [HE.out]; rfl, Below.refl _ _⟩
end Go.Proofs.YtkdhoelabomgkaaGreatDoor
