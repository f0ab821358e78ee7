/- Texts of this proof, joined: LawRights. No condition. -/
import Derived.Test.YtdiffpiapdghoaaGreatDoorRa42
import Derived.Test.YtdiffpiapdghoaaGreatDoorRa39
import Derived.Test.YtdiffpiapdghoaaGreatDoorRa43
/-
  Layer 3, the law's side: TreeRights.
-/
namespace Go.Proofs.YtdiffpiapdghoaaGreatDoor
set_option linter.unusedVariables false
open Go.ChangeShapes Go.WideShapes Go.ChangeAt Go.RowKit

theorem rights_small {t : Ty} {p : Pa} {x : Ex} {l : List De} {y : Int} (h : Ex.nds [x, .mk 0 0 ⟨#[]⟩ 0 [] [p] [] l] ≤ 600) (ht : y ≤ 9223372036854775807 ∧ (0 ≤ y → (Ty.nds [t] : Int) + y ≤ 600)) (hn : 0 ≤ y) :
    t.nd ≤ 1000000 ∧ p.nd ≤ 1000000 ∧ x.nd ≤ 1000000 ∧ De.nds l ≤ 1000000 := by
  have := ht.2 hn
  simp only [Ty.nds] at this
  simp only [Ex.nds, Ex.nd, Pa.nds] at h
  omega
set_option maxHeartbeats 6400000 in
set_option maxRecDepth 100000 in
theorem rights_law (tk tp : Int) (tn : ByteArray) (tl : List Ty) (ta : Option Addr) (tb : Nat) (pk pp pm : Int) (pn : ByteArray) (pl : List Pa) (qa : Option Addr) (qb : Nat)
    (ek ep em : Int) (en : ByteArray) (el : List Ex) (eps : List Pa) (eal : List Al) (eds : List De) (a4 a5 a6 a7 : Option Addr) (b4 b5 b6 b7 : Nat) (la : Option Addr) (lb : Nat) (l : List De) (top : Bool) (w : World) (hr : RangeOk w)
    (hT : IsVs w Any (Ty.row (.mk tk tp tn tl)) [.int .i64 tk, .int .i64 tp, .string tn, .slice ta tl.length tb]) (hP : IsVs w Any (Pa.row (.mk pk pp pn pm pl)) [.int .i64 pk, .int .i64 pp, .string pn, .int .i64 pm, .slice qa pl.length qb]) (hE : IsVs w Any (Ex.row (.mk ek ep en em el eps eal eds)) [.int .i64 ek, .int .i64 ep, .string en, .int .i64 em, .slice a4 el.length b4, .slice a5 eps.length b5, .slice a6 eal.length b6, .slice a7 eds.length b7])
    (hfit : Ex.fits [.mk ek ep en em el eps eal eds, .mk 0 0 ⟨#[]⟩ 0 [] [.mk pk pp pn pm pl] [] l]) (hl : IsDes w Any (.slice la l.length lb) l) :
    Calls Tryz.prog 3 #[.agg #[.int .i64 tk, .int .i64 tp, .string tn, .slice ta tl.length tb], .agg #[.int .i64 pk, .int .i64 pp, .string pn, .int .i64 pm, .slice qa pl.length qb], .agg #[.int .i64 ek, .int .i64 ep, .string en, .int .i64 em, .slice a4 el.length b4, .slice a5 eps.length b5, .slice a6 eal.length b6, .slice a7 eds.length b7], .slice la l.length lb, .bool top] w fun e w' => e = .returned (.bool true) ∧ Below w.heap.size w w' := by
  obtain ⟨hbW, gT, gP, gE⟩ := three_boxes w (.cells #[.int .i64 tk, .int .i64 tp, .string tn, .slice ta tl.length tb] 24) (.cells #[.int .i64 pk, .int .i64 pp, .string pn, .int .i64 pm, .slice qa pl.length qb] 27) (.cells #[.int .i64 ek, .int .i64 ep, .string en, .int .i64 em, .slice a4 el.length b4, .slice a5 eps.length b5, .slice a6 eal.length b6, .slice a7 eds.length b7] 32)
  have HE := Lib.hid hE
  have HL := Lib.hid hl
  have HT := Lib.hid hT
  have HPa := Lib.hid hP
  have HRw := Lib.hid hr
  clear hE hl hT hP hr
  go_enter Tryz.func3, Tryz.ntmps3
  go_upto_region 1 with fail
  generalize ((w.alloc _).alloc _).alloc _ = W at hbW gT gP gE ⊢
  have GT := Lib.hid gT
  have GP := Lib.hid gP
  have GE := Lib.hid gE
  have HB := Lib.hid hbW
  obtain ⟨e0, e1, e2, e3, e4, e5, e6, e7⟩ := cells_of_block gE
  have p0 : W.cell? ⟨w.heap.size + 1, 0, none⟩ = some (.int .i64 pk) := by rw [Lib.cell_of_heap gP]; rfl
  have p1 : W.cell? ⟨w.heap.size + 1, 1, none⟩ = some (.int .i64 pp) := by rw [Lib.cell_of_heap gP]; rfl
  have p2 : W.cell? ⟨w.heap.size + 1, 2, none⟩ = some (.string pn) := by rw [Lib.cell_of_heap gP]; rfl
  have p3 : W.cell? ⟨w.heap.size + 1, 3, none⟩ = some (.int .i64 pm) := by rw [Lib.cell_of_heap gP]; rfl
  have p4 : W.cell? ⟨w.heap.size + 1, 4, none⟩ = some (.slice qa pl.length qb) := by rw [Lib.cell_of_heap gP]; rfl
  clear gT gP gE hbW
  go_wp2_with fail
  clear e0 e1 e2 e3 e4 e5 e6 e7 p0 p1 p2 p3 p4
  generalize ho4 : Obj.cells #[.int .i64 pk, .int .i64 pp, .string pn, .int .i64 pm, .slice qa pl.length qb] _ = o4
  have hb1 := bl_alloc o4 (Below.refl W.heap.size W)
  have g4 := heap_alloc_new W o4
  have HB1 := Lib.hid (HB.out.trans (hb1.mono HB.out.size))
  have hz1 : (W.alloc o4).heap.size = W.heap.size + 1 := by simp
  generalize W.alloc o4 = V1 at hb1 g4 HB1 hz1 ⊢
  subst ho4
  generalize ho : Obj.cells _ _ = o5
  have hb2 := bl_alloc o5 (Below.refl V1.heap.size V1)
  have g5 := heap_alloc_new V1 o5
  have HB2 := Lib.hid (HB1.out.trans (hb2.mono HB1.out.size))
  have g4' := Below.heap_eq hb2 g4
  rw [hz1] at g5
  clear hz1
  generalize V1.alloc o5 = W2 at hb2 g5 g4' HB2 ⊢
  subst ho
  have hPs : IsPas W2 Any (.slice (some ⟨W.heap.size, 0, none⟩) 1 1) [.mk pk pp pn pm pl] := by
    refine ⟨?_⟩
    unfold IsC
    refine .inr ⟨⟨W.heap.size, 0, none⟩, 1, rfl, Nat.le_refl _, by unfold maxLen; omega, fun _ => trivial, ?_⟩
    exact rows_flat _ [_] [] (.cons (IsVs.on HB2.out _ _ HPa.out) rfl .nil) g4'
  have hX := exs_at (P := Any) (W := W2) [.mk ek ep en em el eps eal eds, .mk 0 0 ⟨#[]⟩ 0 [] [.mk pk pp pn pm pl] [] l] [_, _] (.cons (IsVs.on HB2.out _ _ HE.out) rfl (.cons (ex_vs_mk (by decide) (nil_exs W2) hPs (nil_als W2) (HL.out.on HB2.out)) rfl .nil)) g5 trivial (by show 2 ≤ maxLen; decide)
  have HX := Lib.hid hX
  have hbV := hb1.trans (hb2.mono hb1.size)
  clear hX g5 g4 g4' hPs
  refine (light_any _ _ W2 HX.out).mono ?_
  rintro e' w3 ⟨⟨b, rfl, hlt⟩, h3⟩
  have HL3 := Lib.hid hlt
  clear hlt
  have k3 := HB2.out.trans (h3.mono HB2.out.size)
  have hbV3 := hbV.trans (h3.mono hbV.size)
  cases b
  · go_wp2_with fail
    refine (knows_any w3).mono ?_
    rintro e' w4 ⟨rfl, h4⟩
    go_wp2
    go_ret
    exact ⟨rfl, k3.trans (h4.mono k3.size)⟩
  · have gT3 := Below.heap_eq hbV3 GT.out
    have t0 : w3.cell? ⟨w.heap.size, 0, none⟩ = some (.int .i64 tk) := by rw [Lib.cell_of_heap gT3]; rfl
    have t1 : w3.cell? ⟨w.heap.size, 1, none⟩ = some (.int .i64 tp) := by rw [Lib.cell_of_heap gT3]; rfl
    have t2 : w3.cell? ⟨w.heap.size, 2, none⟩ = some (.string tn) := by rw [Lib.cell_of_heap gT3]; rfl
    have t3 : w3.cell? ⟨w.heap.size, 3, none⟩ = some (.slice ta tl.length tb) := by rw [Lib.cell_of_heap gT3]; rfl
    have K3 := Lib.hid k3
    have HV3 := Lib.hid hbV3
    clear gT3 k3 hbV3 hb1 hb2 hbV
    go_wp2_with fail
    clear t0 t1 t2 t3
    generalize ho : Obj.cells _ _ = o6
    have hb4 := bl_alloc o6 (Below.refl w3.heap.size w3)
    have g6 := heap_alloc_new w3 o6
    have k4 := K3.out.trans (hb4.mono K3.out.size)
    have hV4 := HV3.out.trans (hb4.mono HV3.out.size)
    generalize w3.alloc o6 = w4 at hb4 g6 k4 hV4 ⊢
    subst ho
    have hY : IsTys w4 Any (.slice (some ⟨w3.heap.size, 0, none⟩) 1 1) [.mk tk tp tn tl] := by
      refine ⟨?_⟩
      unfold IsC
      refine .inr ⟨⟨w3.heap.size, 0, none⟩, 1, by rw [Ty.rows_map]; rfl, by rw [Ty.rows_map]; exact Nat.le_refl _, by unfold maxLen; omega, fun _ => trivial, ?_⟩
      rw [Ty.rows_map]
      exact rows_flat _ [_] [] (.cons (IsVs.on k4 _ _ HT.out) rfl .nil) g6
    have HY := Lib.hid hY
    clear hY g6
    refine (fewT_numB _ _ 600 w4 HY.out).mono ?_
    rintro e' w5 ⟨⟨y, rfl, hy⟩, h5⟩
    have HYn := Lib.hid hy
    clear hy
    have k5 := k4.trans (h5.mono k4.size)
    have hV5 := hV4.trans (h5.mono hV4.size)
    by_cases hn : y < 0
    · go_wp2_with fail
      refine (knows_any w5).mono ?_
      rintro e' w6 ⟨rfl, h6⟩
      go_wp2
      go_ret
      exact ⟨rfl, k5.trans (h6.mono k5.size)⟩
    · have HN := Lib.hid (rights_small (HL3.out trivial hfit) (HYn.out trivial (by omega)) (show 0 ≤ y by omega))
      obtain ⟨vt, ht1, ht2⟩ := row_load (row_at (IsVs.on k5 _ _ HT.out) (Below.heap_eq hV5 GT.out)) 24 und_ty3 (by rw [Ty.row_len]; exact info_ty3)
      obtain ⟨vp, hp1, hp2⟩ := row_load (row_at (IsVs.on k5 _ _ HPa.out) (Below.heap_eq hV5 GP.out)) 27 und_pa3 (by rw [Pa.row_len]; exact info_pa3)
      obtain ⟨ve, he1, he2⟩ := row_load (row_at (IsVs.on k5 _ _ HE.out) (Below.heap_eq hV5 GE.out)) 32 und_ex3 (by rw [Ex.row_len]; exact info_ex3)
      have VT := Lib.hid ht1
      have VT2 := Lib.hid ht2
      have VP := Lib.hid hp1
      have VP2 := Lib.hid hp2
      have VE := Lib.hid he1
      have VE2 := Lib.hid he2
      have HL := Lib.hid (HL.out.on k5)
      have HR := Lib.hid (HRw.out.on k5)
      have K5 := Lib.hid k5
      clear ht1 ht2 hp1 hp2 he1 he2 k5 k4 hb4 hV4 hV5 h5 h3
      go_wp2
      have hw0 : Below w5.heap.size w5 w5.drew := (Below.refl _ _).drew
      refine wp_region_gate (fun V => Below w5.heap.size w5 V) 100 (by kernel_rfl) hw0 ?_
      change AtG _ _ _ _ _ _ _ _ _ w5.drew
      generalize w5.drew = W0 at hw0 ⊢
      refine G_hold (i := 0) rfl (by kernel_rfl) (fun _ _ _ h => h) (yields_load 24 _ rfl ⟨w.heap.size, 0, none⟩ rfl vt.toArray VT2.out rfl) ?_
      simp only [Act.put, List.setIfInBounds_toArray, List.set_cons_zero, List.set_cons_succ]
      refine G_hold (i := 3) rfl (by kernel_rfl) (fun _ _ _ h => h) (yields_load 24 _ rfl ⟨w.heap.size, 0, none⟩ rfl vt.toArray VT2.out rfl) ?_
      simp only [Act.put, List.setIfInBounds_toArray, List.set_cons_zero, List.set_cons_succ]
      refine G_one (k := 1) rfl (by kernel_rfl) (fun K hK => ?_)
      have HK := Lib.hid hK
      clear hK
      go_wp2_with fail
      refine (ownT_vs (.mk tk tp tn tl) HN.out.1 _ vt W0 (IsVs.on hw0 _ _ VT.out)).mono ?_
      rintro e W1 ⟨px, rfl, hpx, hb1⟩
      have hw1 := hw0.trans (hb1.mono hw0.size)
      have HB1 := Lib.hid hb1
      have HP1 := Lib.hid hpx
      clear hpx
      clear hb1
      go_wp2
      refine HK.out _ _ (fun _ => hw1) ?_
      clear HK K
      refine G_one (k := 2) rfl (by kernel_rfl) (fun K hK => ?_)
      have HK := Lib.hid hK
      clear hK
      go_wp2_with fail
      refine (rightT_any (.mk tk tp tn tl) _ px W1 (HR.out.on hw1) HP1.out).mono ?_
      rintro e W2 ⟨rfl, hb2⟩
      have hw2 := hw1.trans (hb2.mono hw1.size)
      have HB2 := Lib.hid hb2
      clear hb2
      go_wp2
      refine HK.out _ _ (fun _ => hw2) ?_
      clear HK K
      refine G_one (k := 4) rfl (by kernel_rfl) (fun K hK => ?_)
      have HK := Lib.hid hK
      clear hK
      go_wp2_with fail
      refine (rdT_any (.mk tk tp tn tl) _ vt W2 (IsVs.on hw2 _ _ VT.out)).mono ?_
      rintro e W3 ⟨rfl, hb3⟩
      have hw3 := hw2.trans (hb3.mono hw2.size)
      have HB3 := Lib.hid hb3
      clear hb3
      go_wp2
      refine HK.out _ _ (fun _ => hw3) ?_
      clear HK K
      clear HP1 HB1 HB2 HB3
      refine G_one (k := 5) rfl (by kernel_rfl) (fun K hK => ?_)
      have HK := Lib.hid hK
      clear hK
      go_wp2
      try simp only [beq_self_eq_true]
      refine HK.out _ _ (fun _ => hw3) ?_
      clear HK K
      refine G_one (k := 6) rfl (by kernel_rfl) (fun K hK => ?_)
      have HK := Lib.hid hK
      clear hK
      go_wp2
      refine HK.out _ _ (fun _ => hw3) ?_
      clear HK K
      refine G_hold (i := 7) rfl (by kernel_rfl) (fun _ _ _ h => h) (yields_load 27 _ rfl ⟨w.heap.size + 1, 0, none⟩ rfl vp.toArray VP2.out rfl) ?_
      simp only [Act.put, List.setIfInBounds_toArray, List.set_cons_zero, List.set_cons_succ]
      refine G_hold (i := 10) rfl (by kernel_rfl) (fun _ _ _ h => h) (yields_load 27 _ rfl ⟨w.heap.size + 1, 0, none⟩ rfl vp.toArray VP2.out rfl) ?_
      simp only [Act.put, List.setIfInBounds_toArray, List.set_cons_zero, List.set_cons_succ]
      refine G_one (k := 8) rfl (by kernel_rfl) (fun K hK => ?_)
      have HK := Lib.hid hK
      clear hK
      go_wp2_with fail
      refine (ownP_vs (.mk pk pp pn pm pl) HN.out.2.1 _ vp W3 (IsVs.on hw3 _ _ VP.out)).mono ?_
      rintro e W4 ⟨px, rfl, hpx, hb4⟩
      have hw4 := hw3.trans (hb4.mono hw3.size)
      have HB4 := Lib.hid hb4
      have HP1 := Lib.hid hpx
      clear hpx
      clear hb4
      go_wp2
      refine HK.out _ _ (fun _ => hw4) ?_
      clear HK K
      refine G_one (k := 9) rfl (by kernel_rfl) (fun K hK => ?_)
      have HK := Lib.hid hK
      clear hK
      go_wp2_with fail
      refine (rightP_any (.mk pk pp pn pm pl) _ px W4 (HR.out.on hw4) HP1.out).mono ?_
      rintro e W5 ⟨rfl, hb5⟩
      have hw5 := hw4.trans (hb5.mono hw4.size)
      have HB5 := Lib.hid hb5
      clear hb5
      go_wp2
      refine HK.out _ _ (fun _ => hw5) ?_
      clear HK K
      refine G_one (k := 11) rfl (by kernel_rfl) (fun K hK => ?_)
      have HK := Lib.hid hK
      clear hK
      go_wp2_with fail
      refine (rdP_any (.mk pk pp pn pm pl) _ vp W5 (IsVs.on hw5 _ _ VP.out)).mono ?_
      rintro e W6 ⟨rfl, hb6⟩
      have hw6 := hw5.trans (hb6.mono hw5.size)
      have HB6 := Lib.hid hb6
      clear hb6
      go_wp2
      refine HK.out _ _ (fun _ => hw6) ?_
      clear HK K
      clear HP1 HB4 HB5 HB6
      refine G_one (k := 12) rfl (by kernel_rfl) (fun K hK => ?_)
      have HK := Lib.hid hK
      clear hK
      go_wp2
      try simp only [beq_self_eq_true]
      refine HK.out _ _ (fun _ => hw6) ?_
      clear HK K
      refine G_one (k := 13) rfl (by kernel_rfl) (fun K hK => ?_)
      have HK := Lib.hid hK
      clear hK
      go_wp2
      refine HK.out _ _ (fun _ => hw6) ?_
      clear HK K
      refine G_one (k := 14) rfl (by kernel_rfl) (fun K hK => ?_)
      have HK := Lib.hid hK
      clear hK
      go_wp2
      refine HK.out _ _ (fun _ => hw6) ?_
      clear HK K
      refine G_hold (i := 15) rfl (by kernel_rfl) (fun _ _ _ h => h) (yields_load 32 _ rfl ⟨w.heap.size + 1 + 1, 0, none⟩ rfl ve.toArray VE2.out rfl) ?_
      simp only [Act.put, List.setIfInBounds_toArray, List.set_cons_zero, List.set_cons_succ]
      refine G_hold (i := 18) rfl (by kernel_rfl) (fun _ _ _ h => h) (yields_load 32 _ rfl ⟨w.heap.size + 1 + 1, 0, none⟩ rfl ve.toArray VE2.out rfl) ?_
      simp only [Act.put, List.setIfInBounds_toArray, List.set_cons_zero, List.set_cons_succ]
      refine G_one (k := 16) rfl (by kernel_rfl) (fun K hK => ?_)
      have HK := Lib.hid hK
      clear hK
      go_wp2_with fail
      refine (ownE_nd 1000000 (Nat.le_refl _) (.mk ek ep en em el eps eal eds) HN.out.2.2.1 _ ve W6 (IsVs.on hw6 _ _ VE.out)).mono ?_
      rintro e W7 ⟨px, rfl, hpx, hb7⟩
      have hw7 := hw6.trans (hb7.mono hw6.size)
      have HB7 := Lib.hid hb7
      have HP1 := Lib.hid hpx
      clear hpx
      clear hb7
      go_wp2
      refine HK.out _ _ (fun _ => hw7) ?_
      clear HK K
      refine G_one (k := 17) rfl (by kernel_rfl) (fun K hK => ?_)
      have HK := Lib.hid hK
      clear hK
      go_wp2_with fail
      refine (rightE_any (.mk ek ep en em el eps eal eds) _ px W7 (HR.out.on hw7) HP1.out).mono ?_
      rintro e W8 ⟨rfl, hb8⟩
      have hw8 := hw7.trans (hb8.mono hw7.size)
      have HB8 := Lib.hid hb8
      clear hb8
      go_wp2
      refine HK.out _ _ (fun _ => hw8) ?_
      clear HK K
      refine G_one (k := 19) rfl (by kernel_rfl) (fun K hK => ?_)
      have HK := Lib.hid hK
      clear hK
      go_wp2_with fail
      refine (rdE_any (.mk ek ep en em el eps eal eds) HN.out.2.2.1 _ ve W8 (IsVs.on hw8 _ _ VE.out)).mono ?_
      rintro e W9 ⟨rfl, hb9⟩
      have hw9 := hw8.trans (hb9.mono hw8.size)
      have HB9 := Lib.hid hb9
      clear hb9
      go_wp2
      refine HK.out _ _ (fun _ => hw9) ?_
      clear HK K
      clear HP1 HB7 HB8 HB9
      refine G_one (k := 20) rfl (by kernel_rfl) (fun K hK => ?_)
      have HK := Lib.hid hK
      clear hK
      go_wp2
      try simp only [beq_self_eq_true]
      refine HK.out _ _ (fun _ => hw9) ?_
      clear HK K
      refine G_one (k := 21) rfl (by kernel_rfl) (fun K hK => ?_)
      have HK := Lib.hid hK
      clear hK
      go_wp2
      refine HK.out _ _ (fun _ => hw9) ?_
      clear HK K
      refine G_one (k := 22) rfl (by kernel_rfl) (fun K hK => ?_)
      have HK := Lib.hid hK
      clear hK
      go_wp2
      refine HK.out _ _ (fun _ => hw9) ?_
      clear HK K
      refine G_hold (i := 23) (v := ?_) rfl (by kernel_rfl) (fun _ _ _ h => h) (Or.inl ⟨by rfl, fun V hV => ?_⟩) ?_
      rotate_left
      · go_simp; with_reducible rfl
      simp only [Act.put, List.setIfInBounds_toArray, List.set_cons_zero, List.set_cons_succ]
      refine G_hold (i := 25) (v := ?_) rfl (by kernel_rfl) (fun _ _ _ h => h) (Or.inl ⟨by rfl, fun V hV => ?_⟩) ?_
      rotate_left
      · go_simp; with_reducible rfl
      simp only [Act.put, List.setIfInBounds_toArray, List.set_cons_zero, List.set_cons_succ]
      refine G_hold (i := 27) (v := ?_) rfl (by kernel_rfl) (fun _ _ _ h => h) (Or.inl ⟨by rfl, fun V hV => ?_⟩) ?_
      rotate_left
      · go_simp; with_reducible rfl
      simp only [Act.put, List.setIfInBounds_toArray, List.set_cons_zero, List.set_cons_succ]
      refine G_hold (i := 28) (v := ?_) rfl (by kernel_rfl) (fun _ _ _ h => h) (Or.inl ⟨by rfl, fun V hV => ?_⟩) ?_
      rotate_left
      · go_simp; with_reducible rfl
      simp only [Act.put, List.setIfInBounds_toArray, List.set_cons_zero, List.set_cons_succ]
      refine G_one (k := 24) rfl (by kernel_rfl) (fun K hK => ?_)
      have HK := Lib.hid hK
      clear hK
      go_wp2_with fail
      refine (ownDs_nd l HN.out.2.2.2 _ _ W9 (HL.out.on hw9)).mono ?_
      rintro e W10 ⟨pv, rfl, hpv, hb10⟩
      have hw10 := hw9.trans (hb10.mono hw9.size)
      have HB10 := Lib.hid hb10
      have HP1 := Lib.hid hpv
      clear hpv
      clear hb10
      go_wp2
      refine HK.out _ _ (fun _ => hw10) ?_
      clear HK K
      refine G_one (k := 26) rfl (by kernel_rfl) (fun K hK => ?_)
      have HK := Lib.hid hK
      clear hK
      go_wp2_with fail
      refine (rightDs_any l top _ pv W10 (HR.out.on hw10) HP1.out).mono ?_
      rintro e W11 ⟨rfl, hb11⟩
      have hw11 := hw10.trans (hb11.mono hw10.size)
      have HB11 := Lib.hid hb11
      clear hb11
      go_wp2
      refine HK.out _ _ (fun _ => hw11) ?_
      clear HK K
      refine G_one (k := 29) rfl (by kernel_rfl) (fun K hK => ?_)
      have HK := Lib.hid hK
      clear hK
      go_wp2_with fail
      refine (rdDs_any l HN.out.2.2.2 top _ _ W11 (HL.out.on hw11)).mono ?_
      rintro e W12 ⟨rfl, hb12⟩
      have hw12 := hw11.trans (hb12.mono hw11.size)
      have HB12 := Lib.hid hb12
      clear hb12
      go_wp2
      refine HK.out _ _ (fun _ => hw12) ?_
      clear HK K
      clear HP1 HB10 HB11 HB12
      refine G_one (k := 30) rfl (by kernel_rfl) (fun K hK => ?_)
      have HK := Lib.hid hK
      clear hK
      go_wp2
      try simp only [beq_self_eq_true]
      refine HK.out _ _ (fun _ => hw12) ?_
      clear HK K
      refine G_one (k := 31) rfl (by kernel_rfl) (fun K hK => ?_)
      have HK := Lib.hid hK
      clear hK
      go_wp2
      refine HK.out _ _ (fun _ => hw12) ?_
      clear HK K
      refine G_one (k := 32) rfl (by kernel_rfl) (fun K hK => ?_)
      have HK := Lib.hid hK
      clear hK
      go_wp2
      refine HK.out _ _ (fun _ => hw12) ?_
      clear HK K
      refine G_one (k := 33) rfl (by kernel_rfl) (fun K hK => ?_)
      have HK := Lib.hid hK
      clear hK
      go_wp2_with fail
      refine (knows_any W12).mono ?_
      rintro e W13 ⟨rfl, hb13⟩
      have hw13 := hw12.trans (hb13.mono hw12.size)
      have HB13 := Lib.hid hb13
      clear hb13
      go_wp2
      refine HK.out _ _ (fun _ => hw13) ?_
      clear HK K
      refine G_one (k := 34) rfl (by kernel_rfl) (fun K hK => ?_)
      have HK := Lib.hid hK
      clear hK
      go_wp2
      refine HK.out _ _ (fun _ => hw13) ?_
      clear HK K
      refine G_one (k := 35) rfl (by kernel_rfl) (fun K hK => ?_)
      have HK := Lib.hid hK
      clear hK
      go_wp2
      refine HK.out _ _ (fun _ => hw13) ?_
      clear HK K
      refine G_done (by kernel_rfl) ?_
      have hz := K5.out.trans (hw13.mono K5.out.size)
      go_wp2
      go_ret
      exact ⟨rfl, hz⟩
/-- the same, of trees as arguments -/
theorem rights_vs (t : Ty) (p : Pa) (x : Ex) (l : List De) (top : Bool) (vt vp vx : List Value) (vl : Value) (w : World) (hr : RangeOk w) (ht : IsVs w Any t.row vt) (hp : IsVs w Any p.row vp) (hx : IsVs w Any x.row vx) (hl : IsDes w Any vl l) (fx : x.fit) (fl : De.fits l) :
    Calls Tryz.prog 3 #[.agg vt.toArray, .agg vp.toArray, .agg vx.toArray, vl, .bool top] w fun e w' => e = .returned (.bool true) ∧ Below w.heap.size w w' := by
  obtain ⟨tk, tp, tn, tl⟩ := t
  obtain ⟨pk, pp, pn, pm, pl⟩ := p
  obtain ⟨ek, ep, en, em, el, eps, eal, eds⟩ := x
  obtain ⟨ta, tb, rfl, _⟩ := ty_vs ht
  obtain ⟨qa, qb, rfl, _⟩ := pa_vs hp
  obtain ⟨_, a4, a5, a6, a7, b4, b5, b6, b7, rfl, _⟩ := ex_vs hx
  obtain ⟨la, lb, rfl, _⟩ := hl.form
  exact rights_law _ _ _ _ _ _ _ _ _ _ _ _ _ _ _ _ _ _ _ _ _ a4 a5 a6 a7 _ _ _ _ _ _ _ _ _ hr ht hp hx (by
    simp only [Ex.fits, Ex.fit, Al.fits]
    simp only [Ex.fit] at fx
    exact ⟨fx, ⟨trivial, trivial, fl⟩, trivial⟩) hl
end Go.Proofs.YtdiffpiapdghoaaGreatDoor
