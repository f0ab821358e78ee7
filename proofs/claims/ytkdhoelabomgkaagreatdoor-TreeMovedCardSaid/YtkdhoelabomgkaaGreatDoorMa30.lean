/- Texts of this proof, joined: KExprs, KAlts, KListC, KCons. No condition. -/
import Derived.Test.YtkdhoelabomgkaaGreatDoorMa28
import Derived.Test.YtkdhoelabomgkaaGreatDoorMa29
import Derived.Test.YtkdhoelabomgkaaGreatDoorMa12
/-
  Layer 3, the program's side: expressions, held against each other, where parts are put off: those that are the same.
-/
namespace Go.Proofs.YtkdhoelabomgkaaGreatDoor
set_option linter.unusedVariables false
open Go.ChangeShapes Go.WideShapes Go.ChangeAt Go.RowKit

set_option maxHeartbeats 1600000 in
set_option maxRecDepth 100000 in
theorem exprs_stepK (h : Nat) (lev : Int) (h0 : 0 ≤ lev) (h4 : lev ≤ 400) (xk xp xm yp : Int) (xn : ByteArray) (xl yl : List Ex) (xps yps : List Pa) (xal yal : List Al) (xds yds : List De)
    (q1 : Ex.sames xl yl = true) (q2 : Pa.sames xps yps = true) (q3 : Al.sames xal yal = true) (q4 : De.sames xds yds = true)
    (hl1 : ∀ (k : Nat) (t u : Ex), xl[k]? = some t → yl[k]? = some u → HoldsEK h (lev + 1) t u) (hl2 : ∀ (k : Nat) (t u : Pa), xps[k]? = some t → yps[k]? = some u → HoldsPK h (lev + 1) t u) (hl3 : ∀ (k : Nat) (t u : Al), xal[k]? = some t → yal[k]? = some u → HoldsAK h (lev + 1) t u) (hl4 : ∀ (k : Nat) (t u : De), xds[k]? = some t → yds[k]? = some u → HoldsDK h (lev + 1) t u) :
    HoldsEK h lev (.mk xk xp xn xm xl xps xal xds) (.mk xk yp xn xm yl yps yal yds) := by
  intro a b w n ho hn hba hbb ha hb
  obtain ⟨o4, ho4⟩ : ∃ o : Obj, o = .cells #[.pointer (some ⟨h, 0, none⟩)] 135 := ⟨_, rfl⟩
  obtain ⟨o5, ho5⟩ : ∃ o : Obj, o = .cells #[.pointer (some a)] 82 := ⟨_, rfl⟩
  obtain ⟨o6, ho6⟩ : ∃ o : Obj, o = .cells #[.pointer (some b)] 82 := ⟨_, rfl⟩
  obtain ⟨hbW, g4, g5, g6⟩ := three_boxes w o4 o5 o6
  have HW := Lib.hid (And.intro g4 (And.intro g5 g6))
  have HA := Lib.hid ha
  have HB := Lib.hid hb
  have HO := Lib.hid ho
  have HNn : Hid (n + (Ex.nds xl + Pa.nds xps + Al.nds xal + De.nds xds + 1) ≤ 1000000) := Lib.hid (by unfold Ex.nd at hn; exact hn)
  have HP := Lib.hid (And.intro hba hbb)
  have HQ := Lib.hid (And.intro q1 (And.intro q2 (And.intro q3 q4)))
  have L1 := Lib.hid hl1
  have L2 := Lib.hid hl2
  have L3 := Lib.hid hl3
  have L4 := Lib.hid hl4
  clear g4 g5 g6 ha hb ho hn hba hbb q1 q2 q3 q4 hl1 hl2 hl3 hl4
  go_enter Tryz.func47, Tryz.ntmps47
  go_wp2
  rw [← ho4, ← ho5, ← ho6]
  generalize ((w.alloc o4).alloc o5).alloc o6 = W at hbW HW ⊢
  obtain ⟨g4, g5, g6⟩ := HW.out
  subst ho4 ho5 ho6
  have e4 : W.cell? ⟨w.heap.size, 0, none⟩ = some (.pointer (some ⟨h, 0, none⟩)) := by rw [Lib.cell_of_heap g4]; rfl
  have e5 : W.cell? ⟨w.heap.size + 1, 0, none⟩ = some (.pointer (some a)) := by rw [Lib.cell_of_heap g5]; rfl
  have e6 : W.cell? ⟨w.heap.size + 1 + 1, 0, none⟩ = some (.pointer (some b)) := by rw [Lib.cell_of_heap g6]; rfl
  clear g4 g5 g6 HW
  obtain ⟨c0, _, c2, c2', c3, ⟨a4, b4, c4, _, _, x4⟩, ⟨a5, b5, c5, _, _, x5⟩, ⟨a6, b6, c6, _, _, x6⟩, ⟨a7, b7, c7, _, _, x7⟩⟩ := (HA.out.on hbW).cells
  obtain ⟨d0, _, d2, d2', d3, ⟨r4, s4, d4, _, _, y4⟩, ⟨r5, s5, d5, _, _, y5⟩, ⟨r6, s6, d6, _, _, y6⟩, ⟨r7, s7, d7, _, _, y7⟩⟩ := (HB.out.on hbW).cells
  have hhi := HO.out.hi
  have hHW := HO.out.on hbW
  have hKW := Kp.of_below hhi.2 hbW
  have hWi := hHW.hi
  have C1 : Hid (∀ V : World, Kp h W V → HoldOk h n V → Calls Tryz.prog 85 #[.slice a4 xl.length b4, .slice r4 yl.length s4, .int .i64 (lev + 1), .func (.func 47) #[.pointer (some ⟨h, 0, none⟩)] #[]] V fun e w' => e = .returned (.bool true) ∧ Kp h W w' ∧ HoldOk h (n + Ex.nds xl) w') := Lib.hid (fun V hK hO => (listEK h (lev + 1) xl yl HQ.out.1 L1.out _ _ V _ hO (by have := HNn.out; omega) ⟨IsC.stay (hK.low hWi.1) _ _ x4.out⟩ ⟨IsC.stay (hK.low hWi.1) _ _ y4.out⟩).mono (fun e w' hq => ⟨hq.1, hK.trans hq.2.1, hq.2.2⟩))
  have C2 : Hid (∀ V : World, Kp h W V → HoldOk h (n + Ex.nds xl) V → Calls Tryz.prog 81 #[.slice a5 xps.length b5, .slice r5 yps.length s5, .int .i64 (lev + 1), .func (.func 43) #[.pointer (some ⟨h, 0, none⟩)] #[]] V fun e w' => e = .returned (.bool true) ∧ Kp h W w' ∧ HoldOk h ((n + Ex.nds xl) + Pa.nds xps) w') := Lib.hid (fun V hK hO => (listPK h (lev + 1) xps yps HQ.out.2.1 L2.out _ _ V _ hO (by have := HNn.out; omega) ⟨IsC.stay (hK.low hWi.1) _ _ x5.out⟩ ⟨IsC.stay (hK.low hWi.1) _ _ y5.out⟩).mono (fun e w' hq => ⟨hq.1, hK.trans hq.2.1, hq.2.2⟩))
  have C3 : Hid (∀ V : World, Kp h W V → HoldOk h ((n + Ex.nds xl) + Pa.nds xps) V → Calls Tryz.prog 86 #[.slice a6 xal.length b6, .slice r6 yal.length s6, .int .i64 (lev + 1), .func (.func 87) #[.pointer (some ⟨h, 0, none⟩)] #[]] V fun e w' => e = .returned (.bool true) ∧ Kp h W w' ∧ HoldOk h (((n + Ex.nds xl) + Pa.nds xps) + Al.nds xal) w') := Lib.hid (fun V hK hO => (listAK h (lev + 1) xal yal HQ.out.2.2.1 L3.out _ _ V _ hO (by have := HNn.out; omega) ⟨IsC.stay (hK.low hWi.1) _ _ x6.out⟩ ⟨IsC.stay (hK.low hWi.1) _ _ y6.out⟩).mono (fun e w' hq => ⟨hq.1, hK.trans hq.2.1, hq.2.2⟩))
  have C4 : Hid (∀ V : World, Kp h W V → HoldOk h (((n + Ex.nds xl) + Pa.nds xps) + Al.nds xal) V → Calls Tryz.prog 48 #[.slice a7 xds.length b7, .slice r7 yds.length s7, .int .i64 (lev + 1), .func (.func 49) #[.pointer (some ⟨h, 0, none⟩)] #[]] V fun e w' => e = .returned (.bool true) ∧ Kp h W w' ∧ HoldOk h ((((n + Ex.nds xl) + Pa.nds xps) + Al.nds xal) + De.nds xds) w') := Lib.hid (fun V hK hO => (listDK h (lev + 1) xds yds HQ.out.2.2.2 L4.out _ _ V _ hO (by have := HNn.out; omega) ⟨IsC.stay (hK.low hWi.1) _ _ x7.out⟩ ⟨IsC.stay (hK.low hWi.1) _ _ y7.out⟩).mono (fun e w' hq => ⟨hq.1, hK.trans hq.2.1, hq.2.2⟩))
  clear x4 x5 x6 x7 y4 y5 y6 y7 L1 L2 L3 L4 HA HB
  have s1 : IntKind.i64.wrap (lev + 1) = lev + 1 := IntWalk.i64_in _ (by omega)
  have HF : Hid (∀ V : World, Kp h W V → V.cell? ⟨w.heap.size, 0, none⟩ = some (.pointer (some ⟨h, 0, none⟩)) ∧ V.cell? ⟨w.heap.size + 1, 0, none⟩ = some (.pointer (some a)) ∧ V.cell? ⟨w.heap.size + 1 + 1, 0, none⟩ = some (.pointer (some b)) ∧ V.cell? a = some (.int .i64 xk) ∧ V.cell? ⟨a.block, a.off + 2, none⟩ = some (.string xn) ∧ V.cell? ⟨a.block, a.off + 3, none⟩ = some (.int .i64 xm) ∧ V.cell? ⟨a.block, a.off + 4, none⟩ = some (.slice a4 xl.length b4) ∧ V.cell? ⟨a.block, a.off + 5, none⟩ = some (.slice a5 xps.length b5) ∧ V.cell? ⟨a.block, a.off + 6, none⟩ = some (.slice a6 xal.length b6) ∧ V.cell? ⟨a.block, a.off + 7, none⟩ = some (.slice a7 xds.length b7) ∧ V.cell? b = some (.int .i64 xk) ∧ V.cell? ⟨b.block, b.off + 2, none⟩ = some (.string xn) ∧ V.cell? ⟨b.block, b.off + 3, none⟩ = some (.int .i64 xm) ∧ V.cell? ⟨b.block, b.off + 4, none⟩ = some (.slice r4 yl.length s4) ∧ V.cell? ⟨b.block, b.off + 5, none⟩ = some (.slice r5 yps.length s5) ∧ V.cell? ⟨b.block, b.off + 6, none⟩ = some (.slice r6 yal.length s6) ∧ V.cell? ⟨b.block, b.off + 7, none⟩ = some (.slice r7 yds.length s7)) := Lib.hid (fun V hV => by
    have h6 : arr h W = arr h w := by unfold arr; rw [World.cell?_of_block (hbW.block h hhi.2)]
    have hbx : ∀ c : Nat, w.heap.size ≤ c → arr h W ≠ some c := fun c hc e => by
      rw [h6] at e
      have := (hhi.1 c e).2
      omega
    have hba := HP.out.1
    have hbb := HP.out.2
    have hlo : ∀ x : Addr, x.block < h → arr h W ≠ some x.block := fun x hx e => by
      have := (hWi.1 _ e).1
      omega
    exact ⟨hV.cell (A := ⟨w.heap.size, 0, none⟩) (by have := hhi.2; show w.heap.size ≠ h; omega) (hbx (w.heap.size) (by omega)) e4, hV.cell (A := ⟨w.heap.size + 1, 0, none⟩) (by have := hhi.2; show w.heap.size + 1 ≠ h; omega) (hbx (w.heap.size + 1) (by omega)) e5, hV.cell (A := ⟨w.heap.size + 1 + 1, 0, none⟩) (by have := hhi.2; show w.heap.size + 1 + 1 ≠ h; omega) (hbx (w.heap.size + 1 + 1) (by omega)) e6, hV.cell (by show a.block ≠ h; omega) (hlo a hba) c0, hV.cell (by show a.block ≠ h; omega) (hlo a hba) c2, hV.cell (by show a.block ≠ h; omega) (hlo a hba) c3, hV.cell (by show a.block ≠ h; omega) (hlo a hba) c4, hV.cell (by show a.block ≠ h; omega) (hlo a hba) c5, hV.cell (by show a.block ≠ h; omega) (hlo a hba) c6, hV.cell (by show a.block ≠ h; omega) (hlo a hba) c7, hV.cell (by show b.block ≠ h; omega) (hlo b hbb) d0, hV.cell (by show b.block ≠ h; omega) (hlo b hbb) d2, hV.cell (by show b.block ≠ h; omega) (hlo b hbb) d3, hV.cell (by show b.block ≠ h; omega) (hlo b hbb) d4, hV.cell (by show b.block ≠ h; omega) (hlo b hbb) d5, hV.cell (by show b.block ≠ h; omega) (hlo b hbb) d6, hV.cell (by show b.block ≠ h; omega) (hlo b hbb) d7⟩)
  clear e4 e5 e6 c0 c2 c3 c4 c5 c6 c7 d0 d2 d3 d4 d5 d6 d7
  have HW2 := Lib.hid (And.intro (Kp.of_below hWi.2 ((Below.refl _ _).drew : Below W.heap.size W W.drew)) (hHW.on ((Below.refl _ _).drew : Below W.heap.size W W.drew)))
  have HKW := Lib.hid hKW
  clear hhi hHW hKW hWi hbW
  simp only [List.append_eq, List.cons_append, List.nil_append]
  refine wp_region_plan [(44, 3), (12, 3), (12, 3), (12, 3)] (by kernel_rfl) (by kernel_rfl) ?_
  change Wrapped (wpPlan _ _ _ _ _ _ W.drew)
  generalize W.drew = w2 at HW2 ⊢
  obtain ⟨e4, e5, e6, c0, c2, c3, c4, c5, c6, c7, d0, d2, d3, d4, d5, d6, d7⟩ := HF.out w2 HW2.out.1
  refine plan_step ?_
  simp only [List.take_succ_cons, List.take_zero, List.drop_succ_cons, List.drop_zero, Nat.reduceAdd]
  repeat (refine wst_step (fun K hK => ?_); go_simp; refine hK _ ?_; clear hK K)
  refine wst_nil ?_
  intro K hK
  have HK := Lib.hid hK
  clear hK
  go_wp2_with fail
  refine (C1.out w2 HW2.out.1 HW2.out.2).mono ?_
  rintro e w3 ⟨rfl, hw3⟩
  have HW3 := Lib.hid hw3
  clear hw3
  go_wp2
  refine HK.out _ _ ?_
  clear HK K e4 e5 e6 c0 c2 c3 c4 c5 c6 c7 d0 d2 d3 d4 d5 d6 d7
  obtain ⟨e4, e5, e6, c0, c2, c3, c4, c5, c6, c7, d0, d2, d3, d4, d5, d6, d7⟩ := HF.out w3 HW3.out.1
  refine plan_step ?_
  simp only [List.take_succ_cons, List.take_zero, List.drop_succ_cons, List.drop_zero, Nat.reduceAdd]
  repeat (refine wst_step (fun K hK => ?_); go_simp; refine hK _ ?_; clear hK K)
  refine wst_nil ?_
  intro K hK
  have HK := Lib.hid hK
  clear hK
  go_wp2_with fail
  refine (C2.out w3 HW3.out.1 HW3.out.2).mono ?_
  rintro e w4 ⟨rfl, hw4⟩
  have HW4 := Lib.hid hw4
  clear hw4
  go_wp2
  refine HK.out _ _ ?_
  clear HK K e4 e5 e6 c0 c2 c3 c4 c5 c6 c7 d0 d2 d3 d4 d5 d6 d7
  obtain ⟨e4, e5, e6, c0, c2, c3, c4, c5, c6, c7, d0, d2, d3, d4, d5, d6, d7⟩ := HF.out w4 HW4.out.1
  refine plan_step ?_
  simp only [List.take_succ_cons, List.take_zero, List.drop_succ_cons, List.drop_zero, Nat.reduceAdd]
  repeat (refine wst_step (fun K hK => ?_); go_simp; refine hK _ ?_; clear hK K)
  refine wst_nil ?_
  intro K hK
  have HK := Lib.hid hK
  clear hK
  go_wp2_with fail
  refine (C3.out w4 HW4.out.1 HW4.out.2).mono ?_
  rintro e w5 ⟨rfl, hw5⟩
  have HW5 := Lib.hid hw5
  clear hw5
  go_wp2
  refine HK.out _ _ ?_
  clear HK K e4 e5 e6 c0 c2 c3 c4 c5 c6 c7 d0 d2 d3 d4 d5 d6 d7
  obtain ⟨e4, e5, e6, c0, c2, c3, c4, c5, c6, c7, d0, d2, d3, d4, d5, d6, d7⟩ := HF.out w5 HW5.out.1
  refine plan_step ?_
  simp only [List.take_succ_cons, List.take_zero, List.drop_succ_cons, List.drop_zero, Nat.reduceAdd]
  repeat (refine wst_step (fun K hK => ?_); go_simp; refine hK _ ?_; clear hK K)
  refine wst_nil ?_
  intro K hK
  have HK := Lib.hid hK
  clear hK
  go_wp2_with fail
  refine (C4.out w5 HW5.out.1 HW5.out.2).mono ?_
  rintro e w6 ⟨rfl, hw6⟩
  have HW6 := Lib.hid hw6
  clear hw6
  go_wp2
  refine HK.out _ _ ?_
  clear HK K e4 e5 e6 c0 c2 c3 c4 c5 c6 c7 d0 d2 d3 d4 d5 d6 d7
  refine plan_end ?_
  go_wp2
  go_ret
  exact ⟨rfl, HKW.out.trans HW6.out.1, HW6.out.2.mono (by unfold Ex.nd; omega)⟩
set_option maxHeartbeats 800000 in
set_option maxRecDepth 100000 in
theorem exprs_offK (h : Nat) (t u : Ex) (hsm : t.same u = true) (hnd : t.nd ≤ 200) : HoldsEK h 401 t u := by
  intro a b w n ho hn hba hbb ha hb
  have h1 : 1 ≤ t.nd := by cases t; unfold Ex.nd; omega
  obtain ⟨o4, ho4⟩ : ∃ o : Obj, o = .cells #[.pointer (some ⟨h, 0, none⟩)] 135 := ⟨_, rfl⟩
  obtain ⟨o5, ho5⟩ : ∃ o : Obj, o = .cells #[.pointer (some a)] 82 := ⟨_, rfl⟩
  obtain ⟨o6, ho6⟩ : ∃ o : Obj, o = .cells #[.pointer (some b)] 82 := ⟨_, rfl⟩
  obtain ⟨hbW, g4, g5, g6⟩ := three_boxes w o4 o5 o6
  have HW := Lib.hid (And.intro g4 (And.intro g5 g6))
  have HA := Lib.hid ha
  have HB := Lib.hid hb
  have HO := Lib.hid ho
  have HS := Lib.hid (And.intro hsm hnd)
  have HP := Lib.hid (And.intro hba hbb)
  have HNn := Lib.hid hn
  clear g4 g5 g6 ha hb hsm ho hn hnd hba hbb
  go_enter Tryz.func47, Tryz.ntmps47
  go_upto_region 3 with fail
  rw [← ho4, ← ho5, ← ho6]
  generalize ((w.alloc o4).alloc o5).alloc o6 = W at hbW HW ⊢
  obtain ⟨g4, g5, g6⟩ := HW.out
  subst ho4 ho5 ho6
  have e4 : W.cell? ⟨w.heap.size, 0, none⟩ = some (.pointer (some ⟨h, 0, none⟩)) := by rw [Lib.cell_of_heap g4]; rfl
  have e5 : W.cell? ⟨w.heap.size + 1, 0, none⟩ = some (.pointer (some a)) := by rw [Lib.cell_of_heap g5]; rfl
  have e6 : W.cell? ⟨w.heap.size + 1 + 1, 0, none⟩ = some (.pointer (some b)) := by rw [Lib.cell_of_heap g6]; rfl
  clear g4 g5 g6 HW
  have HOW := HO.out.on hbW
  have HKW := Kp.of_below HO.out.hi.2 hbW
  have hhi := HO.out.hi
  have hY : YesV h W (.func (.func 84) #[] #[.pointer (some ⟨w.heap.size, 0, none⟩), .pointer (some ⟨w.heap.size + 1, 0, none⟩), .pointer (some ⟨w.heap.size + 1 + 1, 0, none⟩)]) := by
    have hbx : ∀ c : Nat, w.heap.size ≤ c → arr h W ≠ some c := fun c hc e => by
      rcases HKW.own with h4 | ⟨k, h4, h5⟩
      · rw [h4] at e
        have := (hhi.1 c e).2
        omega
      · have h6 : arr h W = arr h w := by unfold arr; rw [World.cell?_of_block (hbW.block h hhi.2)]
        rw [h6] at e
        have := (hhi.1 c e).2
        omega
    refine ⟨_, _, _, _, a, b, rfl, ⟨by have := hhi.2; omega, hbx _ (by omega), e4⟩, ⟨by have := hhi.2; omega, hbx _ (by omega), e5⟩, ⟨by have := hhi.2; omega, hbx _ (by omega), e6⟩, HP.out.1, HP.out.2, ?_⟩
    exact .inr (.inr ⟨rfl, t, u, HS.out.1, HS.out.2, HA.out.on hbW, HB.out.on hbW⟩)
  have HY := Lib.hid (And.intro hY (And.intro HOW HKW))
  clear hY HOW HKW hhi e4 e5 e6
  go_wp2_with (
    go_at_call 79
    refine (putOff_any h n _ W HY.out.2.1 (by have := HNn.out; omega) HY.out.1).mono ?_
    rintro e w3 ⟨rfl, hk3, ho3⟩
    have HF := Lib.hid (And.intro (HY.out.2.2.trans hk3) (ho3.mono (m := n + t.nd) (by omega)))
    clear hk3 ho3)
  go_ret
  exact ⟨rfl, HF.out.1, HF.out.2⟩
end Go.Proofs.YtkdhoelabomgkaaGreatDoor
/-
  Layer 3, the program's side: ways, held against each other, where parts are put off: those that are the same.
-/
namespace Go.Proofs.YtkdhoelabomgkaaGreatDoor
set_option linter.unusedVariables false
open Go.ChangeShapes Go.WideShapes Go.ChangeAt Go.RowKit

set_option maxHeartbeats 1600000 in
set_option maxRecDepth 100000 in
theorem alts_stepK (h : Nat) (lev : Int) (p q : Pa) (s t : Ex) (hp : HoldsPK h lev p q) (he : HoldsEK h lev s t) : HoldsAK h lev (.mk p s) (.mk q t) := by
  intro a b w n ho hn hba hbb ha hb
  obtain ⟨a1, a2⟩ := ha.parts
  obtain ⟨b1, b2⟩ := hb.parts
  have hn : n + (p.nd + s.nd + 1) ≤ 1000000 := by unfold Al.nd at hn; exact hn
  have hhi := ho.hi
  have C1 : Hid (∀ V : World, Kp h w V → HoldOk h n V → Calls Tryz.prog 43 #[.pointer (some ⟨h, 0, none⟩), .pointer (some a), .pointer (some b), .int .i64 lev] V fun e w' => e = .returned (.bool true) ∧ Kp h w w' ∧ HoldOk h (n + p.nd) w') := Lib.hid (fun V hK hO => (hp a b V n hO (by omega) hba hbb ⟨IsRow.stay (hK.low hhi.1) _ _ hba a1.out⟩ ⟨IsRow.stay (hK.low hhi.1) _ _ hbb b1.out⟩).mono (fun e w' hq => ⟨hq.1, hK.trans hq.2.1, hq.2.2⟩))
  have f2 : ∀ V : World, Kp h w V → HoldOk h (n + p.nd) V → Calls Tryz.prog 47 #[.pointer (some ⟨h, 0, none⟩), .pointer (some (a.add 5)), .pointer (some (b.add 5)), .int .i64 lev] V fun e w' => e = .returned (.bool true) ∧ Kp h w w' ∧ HoldOk h (n + p.nd + s.nd) w' := fun V hK hO => (he (a.add 5) (b.add 5) V (n + p.nd) hO (by omega) (by rw [add_block2]; exact hba) (by rw [add_block2]; exact hbb) ⟨IsRow.stay (hK.low hhi.1) _ _ (by rw [add_block2]; exact hba) a2.out⟩ ⟨IsRow.stay (hK.low hhi.1) _ _ (by rw [add_block2]; exact hbb) b2.out⟩).mono (fun e w' hq => ⟨hq.1, hK.trans hq.2.1, hq.2.2⟩)
  rw [add_off _ _ (by decide), add_off _ _ (by decide)] at f2
  have C2 := Lib.hid f2
  have HW2 := Lib.hid (And.intro (Kp.of_below hhi.2 ((Below.refl _ _).drew : Below w.heap.size w w.drew)) (ho.on ((Below.refl _ _).drew : Below w.heap.size w w.drew)))
  clear f2 a1 a2 b1 b2 ha hb hhi ho hp he hba hbb hn
  go_enter Tryz.func87, Tryz.ntmps87
  go_wp2
  refine wp_region_plan [(8, 2), (8, 3)] (by kernel_rfl) (by kernel_rfl) ?_
  change Wrapped (wpPlan _ _ _ _ _ _ w.drew)
  generalize w.drew = w2 at HW2 ⊢
  refine plan_step ?_
  simp only [List.take_succ_cons, List.take_zero, List.drop_succ_cons, List.drop_zero, Nat.reduceAdd]
  repeat (refine wst_step (fun K hK => ?_); go_simp; refine hK _ ?_; clear hK K)
  refine wst_nil ?_
  intro K hK
  have HK := Lib.hid hK
  clear hK
  go_wp2_with fail
  refine (C1.out w2 HW2.out.1 HW2.out.2).mono ?_
  rintro e w3 ⟨rfl, hw3⟩
  have HW3 := Lib.hid hw3
  clear hw3
  go_wp2
  refine HK.out _ _ ?_
  clear HK K
  refine plan_step ?_
  simp only [List.take_succ_cons, List.take_zero, List.drop_succ_cons, List.drop_zero, Nat.reduceAdd]
  repeat (refine wst_step (fun K hK => ?_); go_simp; refine hK _ ?_; clear hK K)
  refine wst_nil ?_
  intro K hK
  have HK := Lib.hid hK
  clear hK
  go_wp2_with fail
  refine (C2.out w3 HW3.out.1 HW3.out.2).mono ?_
  rintro e w4 ⟨rfl, hw4⟩
  have HW4 := Lib.hid hw4
  clear hw4
  go_wp2
  refine HK.out _ _ ?_
  clear HK K
  refine plan_end ?_
  go_wp2
  go_ret
  exact ⟨rfl, HW4.out.1, HW4.out.2.mono (by unfold Al.nd; omega)⟩
end Go.Proofs.YtkdhoelabomgkaaGreatDoor
/-
  Layer 3, the program's side: sameList at one of its kinds, of lists that are the same, where parts are put off.
-/
namespace Go.Proofs.YtkdhoelabomgkaaGreatDoor
set_option linter.unusedVariables false
open Go.ChangeShapes Go.WideShapes Go.ChangeAt Go.RowKit

def HoldsCK (h : Nat) (lev : Int) (t u : Co) : Prop := ∀ (a b : Addr) (w : World) (n : Nat), HoldOk h n w → n + t.nd ≤ 1000000 → a.block < h → b.block < h → IsCo w (fun b => b < h) a t → IsCo w (fun b => b < h) b u →
  Calls Tryz.prog 91 #[.pointer (some ⟨h, 0, none⟩), .pointer (some a), .pointer (some b), .int .i64 lev] w fun e w' => e = .returned (.bool true) ∧ Kp h w w' ∧ HoldOk h (n + t.nd) w'
theorem Co.nds_upto : ∀ (l : List Co) (k : Nat) (t : Co), l[k]? = some t → Co.nds (l.take (k + 1)) = Co.nds (l.take k) + t.nd ∧ Co.nds (l.take (k + 1)) ≤ Co.nds l
  | [], k, t, h => by simp at h
  | x :: r, 0, t, h => by
    simp at h
    subst h
    rw [List.take_succ_cons, List.take_zero, List.take_zero]
    show x.nd + Co.nds [] = Co.nds [] + x.nd ∧ x.nd + Co.nds [] ≤ x.nd + Co.nds r
    have h0 : Co.nds [] = 0 := rfl
    omega
  | x :: r, k + 1, t, h => by
    have h1 := Co.nds_upto r k t (by simpa using h)
    rw [List.take_succ_cons, List.take_succ_cons]
    show x.nd + Co.nds (r.take (k + 1)) = x.nd + Co.nds (r.take k) + t.nd ∧ x.nd + Co.nds (r.take (k + 1)) ≤ x.nd + Co.nds r
    omega
set_option maxHeartbeats 800000 in
set_option maxRecDepth 100000 in
theorem listCK (h : Nat) (lev : Int) (sl tl : List Co) (hs0 : Co.sames sl tl = true) (hall : ∀ (k : Nat) (t u : Co), sl[k]? = some t → tl[k]? = some u → HoldsCK h lev t u) (v v' : Value) (w : World) (n : Nat) (ho : HoldOk h n w) (hn : n + Co.nds sl ≤ 1000000) (hs : IsCos w (fun b => b < h) v sl) (ht : IsCos w (fun b => b < h) v' tl) :
    Calls Tryz.prog 90 #[v, v', .int .i64 lev, .func (.func 91) #[.pointer (some ⟨h, 0, none⟩)] #[]] w fun e w' => e = .returned (.bool true) ∧ Kp h w w' ∧ HoldOk h (n + Co.nds sl) w' := by
  obtain ⟨ao, cap, rfl, v1, v2⟩ := hs.form
  obtain ⟨bo, cap2, rfl, u1, u2⟩ := ht.form
  have hl := Co.sames_len sl tl hs0
  have HI := Lib.hid hall
  have HS1 := Lib.hid hs
  have HT1 := Lib.hid ht
  have HO := Lib.hid ho
  have HLo := Lib.hid ho.hi
  have hlm : (sl.length : Int) ≤ 9223372036854775807 := by unfold maxLen at v2; omega
  have q3 : ((sl.length : Int) != tl.length) = false := by rw [bne_eq_false_iff_eq]; omega
  have HLn := Lib.hid hl
  have HNn := Lib.hid hn
  clear hall hs ht ho hl hs0 hn
  go_enter Tryz.func90, Tryz.ntmps90
  go_wp2
  go_loopw [17] (fun iv wr => ∃ k : Nat, k ≤ sl.length ∧ iv = .int .i64 k ∧ Hid (Kp h w wr ∧ HoldOk h (n + Co.nds (sl.take k)) wr)) (fun iv _ => sl.length - (intOf iv).toNat)
  case atStart => exact ⟨0, Nat.zero_le _, rfl, Lib.hid ⟨Kp.refl _ _, HO.out.mono (by omega)⟩⟩
  case round =>
    obtain ⟨i, hi, rfl, H⟩ := hrel
    by_cases hlt : i < sl.length
    · have i1 : (i : Int) < sl.length := by omega
      have i2 : (i : Int) < tl.length := by have := HLn.out; omega
      obtain ⟨x, hx⟩ : ∃ x, sl[i]? = some x := ⟨sl[i], List.getElem?_eq_getElem hlt⟩
      obtain ⟨y, hy⟩ : ∃ y, tl[i]? = some y := ⟨tl[i]'(by have := HLn.out; omega), List.getElem?_eq_getElem (by have := HLn.out; omega)⟩
      obtain ⟨a, rfl, _, hrow⟩ := HS1.out.at hx
      obtain ⟨b, rfl, _, hrow'⟩ := HT1.out.at hy
      have hpa : (a.add (i * 3)).block < h := by
        rw [add_block2]
        exact isC_blk HS1.out.out (by intro e; have h1 := congrArg List.length e; simp only [List.length_map, List.length_nil] at h1; omega)
      have hpb : (b.add (i * 3)).block < h := by
        rw [add_block2]
        exact isC_blk HT1.out.out (by intro e; have h1 := congrArg List.length e; simp only [List.length_map, List.length_nil] at h1; have := HLn.out; omega)
      have hst := H.out.1.low HLo.out.1
      have hR : IsCo wr (fun b => b < h) (a.add (i * 3)) x := ⟨IsRow.stay hst _ _ hpa hrow.out⟩
      have hR' : IsCo wr (fun b => b < h) (b.add (i * 3)) y := ⟨IsRow.stay hst _ _ hpb hrow'.out⟩
      have HNd := Lib.hid (Co.nds_upto sl i x hx)
      have HXY := Lib.hid (And.intro hpa (And.intro hpb (HI.out i x y hx hy)))
      have HR := Lib.hid (And.intro hR hR')
      clear hrow hrow' hx hy hpa hpb hst hR hR'
      go_wp2
      go_still_tail 8, (by kernel_rfl)
      change wpList _ _ _ _ _ wr.drew
      have hbd : Below wr.heap.size wr wr.drew := (Below.refl _ _).drew
      have HR2 := Lib.hid (And.intro (HR.out.1.on hbd) (HR.out.2.on hbd))
      have HK2 := Lib.hid (And.intro (H.out.1.trans (Kp.of_below H.out.2.hi.2 hbd)) (H.out.2.on hbd))
      clear hbd
      generalize wr.drew = w2 at HR2 HK2 ⊢
      go_wp2_with fail
      refine (HXY.out.2.2 _ _ w2 _ HK2.out.2 (by have := HNd.out; have := HNn.out; omega) HXY.out.1 HXY.out.2.1 HR2.out.1 HR2.out.2).mono ?_
      rintro e w3 ⟨rfl, hk3, ho3⟩
      have HN : Hid (Kp h w w3 ∧ HoldOk h (n + Co.nds (sl.take (i + 1))) w3) := Lib.hid ⟨HK2.out.1.trans hk3, ho3.mono (by have := HNd.out; omega)⟩
      clear hk3 ho3 HK2
      go_wp2
      go_roundw
      case rel => exact ⟨i + 1, by omega, by go_num, HN⟩
      case measure => simp [intOf]; omega
    · have i1 : ¬ (i : Int) < sl.length := by omega
      have HF : Hid (HoldOk h (n + Co.nds sl) wr) := Lib.hid (by
        have h1 := H.out.2
        rwa [show i = sl.length by omega, List.take_length] at h1)
      go_wp2
      go_ret
      exact ⟨rfl, H.out.1, HF.out⟩
end Go.Proofs.YtkdhoelabomgkaaGreatDoor
/-
  Layer 3, the program's side: cons, held against each other, where parts are put off: those that are the same.
-/
namespace Go.Proofs.YtkdhoelabomgkaaGreatDoor
set_option linter.unusedVariables false
open Go.ChangeShapes Go.WideShapes Go.ChangeAt Go.RowKit

set_option maxHeartbeats 1600000 in
set_option maxRecDepth 100000 in
theorem cons_stepK (h : Nat) (lev : Int) (t u : Co) (hsm : t.same u = true) (hl : ∀ (k : Nat) (x y : Ty), t.args[k]? = some x → u.args[k]? = some y → HoldsTK h lev x y) : HoldsCK h lev t u := by
  intro a b w n ho hn hba hbb ha hb
  obtain ⟨xp, xn, xl⟩ := t
  obtain ⟨yp, yn, yl⟩ := u
  have hsame : (xn.data.toList == yn.data.toList && Ty.sames xl yl) = true := hsm
  simp only [Bool.and_eq_true, beq_iff_eq] at hsame
  obtain ⟨e2, e4⟩ := hsame
  have e2 : xn = yn := by
    by_cases hq : xn = yn
    · exact hq
    · have h1 := text_ne hq
      rw [text_eq] at h1
      simp [e2] at h1
  subst e2
  have HL := Lib.hid hl
  have HE4 := Lib.hid e4
  have HO := Lib.hid ho
  have HNn : Hid (n + (Ty.nds xl + 1) ≤ 1000000) := Lib.hid hn
  obtain ⟨_, c1, c1', ca, cb, c2, _, _, hxa⟩ := ha.cells
  obtain ⟨_, d1, d1', da, db, d2, _, _, hya⟩ := hb.cells
  have HXA := Lib.hid hxa
  have HYA := Lib.hid hya
  clear hl e4 hsm ho hn ha hb hxa hya
  go_enter Tryz.func91, Tryz.ntmps91
  go_wp2
  go_still_tail 21, (by kernel_rfl)
  change wpList _ _ _ _ _ w.drew
  have hbd : Below w.heap.size w w.drew := (Below.refl _ _).drew
  have HXA2 := Lib.hid (HXA.out.on hbd)
  have HYA2 := Lib.hid (HYA.out.on hbd)
  have HO2 := Lib.hid (HO.out.on hbd)
  have HK2 := Lib.hid (Kp.of_below HO.out.hi.2 hbd)
  clear hbd
  generalize w.drew = w2 at HXA2 HYA2 HO2 HK2 ⊢
  go_wp2_with fail
  refine (listTK h lev xl yl HE4.out HL.out _ _ w2 n HO2.out (by have := HNn.out; omega) HXA2.out HYA2.out).mono ?_
  rintro e w3 ⟨rfl, hk3, ho3⟩
  have HF := Lib.hid (And.intro (HK2.out.trans hk3) ho3)
  clear hk3 ho3
  go_wp2
  go_ret
  exact ⟨rfl, HF.out.1, HF.out.2.mono (by show n + Ty.nds xl ≤ n + (Ty.nds xl + 1); omega)⟩
end Go.Proofs.YtkdhoelabomgkaaGreatDoor
