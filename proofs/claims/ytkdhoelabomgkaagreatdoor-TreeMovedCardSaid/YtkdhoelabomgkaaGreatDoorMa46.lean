/- Texts of this proof, joined: LawMoved. No condition. -/
import Derived.Test.YtkdhoelabomgkaaGreatDoorMa44
import Derived.Test.YtkdhoelabomgkaaGreatDoorMa36
import Derived.Test.YtkdhoelabomgkaaGreatDoorMa45
/-
  Layer 3, the law's side: TreeMoved.
-/
namespace Go.Proofs.YtkdhoelabomgkaaGreatDoor
set_option linter.unusedVariables false
open Go.ChangeShapes Go.WideShapes Go.ChangeAt Go.RowKit

theorem wf_mv {n : Int} (h : (Lit.int .i64 n).wf = true) : -9223372036854775808 ≤ n ∧ n ≤ 9223372036854775807 := by
  simp only [Lit.wf, Bool.and_eq_true, decide_eq_true_eq] at h
  exact h
theorem two_boxes (w : World) (o4 o5 : Obj) : Below w.heap.size w ((w.alloc o4).alloc o5) ∧ ((w.alloc o4).alloc o5).heap[w.heap.size]? = some o4 ∧ ((w.alloc o4).alloc o5).heap[w.heap.size + 1]? = some o5 := by
  have h5 := heap_alloc_new (w.alloc o4) o5
  rw [show (w.alloc o4).heap.size = w.heap.size + 1 by simp] at h5
  exact ⟨((Below.refl _ _).alloc (Nat.le_refl _) _).alloc (by simp) _, (Below.heap_alloc _ _ _ (by simp)).trans (heap_alloc_new w o4), h5⟩
theorem und_xm : ∃ d, Tryz.prog.underlying 32 = some d ∧ d.isRow = true := ⟨_, Tryz.underlying32, by kernel_rfl⟩
theorem info_xm : (Tryz.prog.info? 32).map (·.size) = some 8 := by kernel_rfl
theorem moved_small {x y : Ex} (h : Ex.nds [x, y] ≤ 600) : x.nd + y.nd ≤ 600 ∧ 1 ≤ x.nd ∧ 1 ≤ y.nd := by
  simp only [Ex.nds] at h
  refine ⟨by omega, ?_, ?_⟩
  · cases x; unfold Ex.nd; omega
  · cases y; unfold Ex.nd; omega
set_option maxHeartbeats 6400000 in
set_option maxRecDepth 100000 in
theorem moved_law (ek ep em : Int) (en : ByteArray) (el : List Ex) (eps : List Pa) (eal : List Al) (eds : List De) (a4 a5 a6 a7 : Option Addr) (b4 b5 b6 b7 : Nat) (fk fp fm : Int) (fn : ByteArray) (fl : List Ex) (fps : List Pa) (fal : List Al) (fds : List De) (c4 c5 c6 c7 : Option Addr) (d4 d5 d6 d7 : Nat) (by1 : Int) (hB1' : -9223372036854775808 ≤ by1) (hB2' : by1 ≤ 9223372036854775807) (w : World) (hr : RangeOk w)
    (hE : IsVs w Any (Ex.row (.mk ek ep en em el eps eal eds)) [.int .i64 ek, .int .i64 ep, .string en, .int .i64 em, .slice a4 el.length b4, .slice a5 eps.length b5, .slice a6 eal.length b6, .slice a7 eds.length b7]) (hF : IsVs w Any (Ex.row (.mk fk fp fn fm fl fps fal fds)) [.int .i64 fk, .int .i64 fp, .string fn, .int .i64 fm, .slice c4 fl.length d4, .slice c5 fps.length d5, .slice c6 fal.length d6, .slice c7 fds.length d7])
    (hfit : Ex.fits [.mk ek ep en em el eps eal eds, .mk fk fp fn fm fl fps fal fds]) :
    Calls Tryz.prog 5 #[.agg #[.int .i64 ek, .int .i64 ep, .string en, .int .i64 em, .slice a4 el.length b4, .slice a5 eps.length b5, .slice a6 eal.length b6, .slice a7 eds.length b7], .agg #[.int .i64 fk, .int .i64 fp, .string fn, .int .i64 fm, .slice c4 fl.length d4, .slice c5 fps.length d5, .slice c6 fal.length d6, .slice c7 fds.length d7], .int .i64 by1] w fun e w' => e = .returned (.bool true) ∧ Below w.heap.size w w' := by
  have hX := two_boxes w (.cells #[.int .i64 ek, .int .i64 ep, .string en, .int .i64 em, .slice a4 el.length b4, .slice a5 eps.length b5, .slice a6 eal.length b6, .slice a7 eds.length b7] 32) (.cells #[.int .i64 fk, .int .i64 fp, .string fn, .int .i64 fm, .slice c4 fl.length d4, .slice c5 fps.length d5, .slice c6 fal.length d6, .slice c7 fds.length d7] 32)
  have HE := Lib.hid hE
  have HF := Lib.hid hF
  have HR := Lib.hid hr
  have hB1 := Lib.hid hB1'
  have hB2 := Lib.hid hB2'
  clear hE hF hr hB1' hB2'
  go_enter Tryz.func5, Tryz.ntmps5
  go_upto_region 1 with fail
  generalize (w.alloc _).alloc _ = W at hX ⊢
  obtain ⟨hb, gE, gF⟩ := hX
  have GE := Lib.hid gE
  have GF := Lib.hid gF
  have HB := Lib.hid hb
  obtain ⟨e0, e1, e2, e3, e4, e5, e6, e7⟩ := cells_of_block gE
  obtain ⟨f0, f1, f2, f3, f4, f5, f6, f7⟩ := cells_of_block gF
  clear gE gF hb
  go_wp2_with fail
  generalize ho : Obj.cells _ _ = o5
  have hb2 := bl_alloc o5 (Below.refl W.heap.size W)
  have g5 := heap_alloc_new W o5
  have HB2 := Lib.hid (HB.out.trans (hb2.mono HB.out.size))
  generalize W.alloc o5 = W2 at hb2 g5 HB2 ⊢
  subst ho
  have hX := exs_at (P := Any) (W := W2) [.mk ek ep en em el eps eal eds, .mk fk fp fn fm fl fps fal fds] [_, _] (.cons (IsVs.on HB2.out _ _ HE.out) rfl (.cons (IsVs.on HB2.out _ _ HF.out) rfl .nil)) g5 trivial (by show 2 ≤ maxLen; decide)
  have HX := Lib.hid hX
  clear hX g5
  refine (light_any _ _ W2 HX.out).mono ?_
  rintro e' w3 ⟨⟨b, rfl, hlt⟩, h3⟩
  have HL3 := Lib.hid hlt
  clear hlt
  have k3 := HB2.out.trans (h3.mono HB2.out.size)
  cases b
  · go_wp2_with fail
    refine (knows_any w3).mono ?_
    rintro e' w4 ⟨rfl, h4⟩
    go_wp2
    go_ret
    exact ⟨rfl, k3.trans (h4.mono k3.size)⟩
  · skip
    have gE3 := Below.heap_eq h3 (Below.heap_eq hb2 GE.out)
    have gF3 := Below.heap_eq h3 (Below.heap_eq hb2 GF.out)
    obtain ⟨vE, he1, he2⟩ := row_load (row_at (IsVs.on k3 _ _ HE.out) gE3) 32 und_xm (by rw [Ex.row_len]; exact info_xm)
    obtain ⟨vF, hf1, hf2⟩ := row_load (row_at (IsVs.on k3 _ _ HF.out) gF3) 32 und_xm (by rw [Ex.row_len]; exact info_xm)
    have VE := Lib.hid he2
    have VF := Lib.hid hf2
    have VE1 := Lib.hid he1
    have VF1 := Lib.hid hf1
    have HN := Lib.hid (moved_small (HL3.out rfl hfit))
    have K3 := Lib.hid k3
    clear he1 he2 hf1 hf2 gE3 gF3 k3 h3 hb2 e0 e1 e2 e3 e4 e5 e6 e7 f0 f1 f2 f3 f4 f5 f6 f7
    go_wp2_with (refine wpList_load_any rfl 32 _ rfl ⟨w.heap.size, 0, none⟩ rfl vE.toArray (VE.out _ (Below.refl _ _)) ?_)
    refine (ownE_nd 1000000 (Nat.le_refl _) (.mk ek ep en em el eps eal eds) (by have := HN.out.1; omega) _ vE w3 VE1.out).mono ?_
    rintro e w4 ⟨va, rfl, hva, h4⟩
    obtain ⟨_, x4, x5, x6, x7, y4, y5, y6, y7, rfl, _⟩ := ex_vs hva
    have HVA := Lib.hid hva
    have H4 := Lib.hid h4
    clear hva h4
    go_upto_region 4 with (first | (refine store_any 53 #[.int .i64 ek, .int .i64 ep, .string en, .int .i64 em, .slice x4 el.length y4, .slice x5 eps.length y5, .slice x6 eal.length y6, .slice x7 eds.length y7] w4.heap.size w4.heap.size _ (heap_alloc_new w4 _) ((Below.refl w4.heap.size w4).alloc (Nat.le_refl _) _) (Nat.le_refl _) info_tex rfl (by simp [Value.oneCell']) rfl _ _ rfl rfl rfl ?_; intro W5 hg5 hbo5))
    have hb35 := H4.out.trans (hbo5.mono H4.out.size)
    have HVA5 := Lib.hid (IsVs.mono (Q := fun b => b < W5.heap.size) (fun b hb => Nat.lt_of_lt_of_le hb.2 hbo5.size) _ _ (IsVs.on hbo5 _ _ HVA.out))
    have HG5 := Lib.hid hg5
    have HB35 := Lib.hid hb35
    clear hg5 hb35 hbo5
    go_wp2_with (refine wpList_load_any rfl 32 _ rfl ⟨w.heap.size + 1, 0, none⟩ rfl vF.toArray (VF.out _ HB35.out) ?_)
    refine (ownE_nd 1000000 (Nat.le_refl _) (.mk fk fp fn fm fl fps fal fds) (by have := HN.out.1; omega) _ vF W5 (IsVs.on HB35.out _ _ VF1.out)).mono ?_
    rintro e w6 ⟨vb, rfl, hvb, h6⟩
    obtain ⟨_, p4, p5, p6, p7, q4, q5, q6, q7, rfl, _⟩ := ex_vs hvb
    have HVB := Lib.hid hvb
    have H6 := Lib.hid h6
    clear hvb h6
    go_upto_region 5 with (first | (refine store_any 53 #[.int .i64 fk, .int .i64 fp, .string fn, .int .i64 fm, .slice p4 fl.length q4, .slice p5 fps.length q5, .slice p6 fal.length q6, .slice p7 fds.length q7] w6.heap.size w6.heap.size _ (heap_alloc_new w6 _) ((Below.refl w6.heap.size w6).alloc (Nat.le_refl _) _) (Nat.le_refl _) info_tex rfl (by simp [Value.oneCell']) rfl _ _ rfl rfl rfl ?_; intro W7 hg7 hbo7))
    have hb57 := H6.out.trans (hbo7.mono H6.out.size)
    have HVB7 := Lib.hid (IsVs.mono (Q := fun b => b < W7.heap.size) (fun b hb => Nat.lt_of_lt_of_le hb.2 hbo7.size) _ _ (IsVs.on hbo7 _ _ HVB.out))
    have HVA7 := Lib.hid (IsVs.mono (Q := fun b => b < W7.heap.size) (fun b hb => Nat.lt_of_lt_of_le hb hb57.size) _ _ (IsVs.on hb57 _ _ HVA5.out))
    have HG7 := Lib.hid hg7
    have HG57 := Lib.hid (Below.heap_eq hb57 HG5.out)
    have HB57 := Lib.hid hb57
    clear hg7 hb57 hbo7
    obtain ⟨vM, hm1, hm2⟩ := row_load (row_at HVA7.out HG57.out) 53 und_tex (by rw [Ex.row_len]; exact info_tex)
    have VM := Lib.hid hm2
    have VM1 := Lib.hid hm1
    clear hm1 hm2
    go_wp2_with (refine wpList_load_any rfl 53 _ rfl ⟨w4.heap.size, 0, none⟩ rfl vM.toArray (VM.out _ (Below.refl _ _)) ?_)
    refine (movE_nd 1000000 (Nat.le_refl _) (.mk ek ep en em el eps eal eds) (by have := HN.out.1; omega) W7.heap.size by1 vM W7 (Nat.le_refl _) hB1.out hB2.out VM1.out).mono ?_
    rintro e w8 ⟨vc, rfl, hvc, h8⟩
    have hvc' := hvc
    rw [Ex.mv] at hvc'
    obtain ⟨l4, l6, hvc'⟩ : ∃ l4 l6, IsVs w8 (Mine W7.heap.size W7 w8) (Ex.row (.mk ek by1 en em l4 eps l6 eds)) vc := ⟨_, _, hvc'⟩
    obtain ⟨_, m4, m5, m6, m7, n4, n5, n6, n7, rfl, _⟩ := ex_vs hvc'
    have HVC := Lib.hid hvc
    have H8 := Lib.hid h8
    clear hvc hvc' h8
    go_upto_region 6 with (first | (refine store_any 53 #[.int .i64 ek, .int .i64 by1, .string en, .int .i64 em, .slice m4 l4.length n4, .slice m5 eps.length n5, .slice m6 l6.length n6, .slice m7 eds.length n7] w8.heap.size w8.heap.size _ (heap_alloc_new w8 _) ((Below.refl w8.heap.size w8).alloc (Nat.le_refl _) _) (Nat.le_refl _) info_tex rfl (by simp [Value.oneCell']) rfl _ _ rfl rfl rfl ?_; intro W9 hg9 hbo9))
    have hb79 := H8.out.trans (hbo9.mono H8.out.size)
    have hb8 := H8.out.size
    have hvA := IsVs.mono (Q := fun b => b < W9.heap.size) (fun b hb => Nat.lt_of_lt_of_le hb hb79.size) _ _ (IsVs.on hb79 _ _ HVA7.out)
    have hvB := IsVs.mono (Q := fun b => b < W9.heap.size) (fun b hb => Nat.lt_of_lt_of_le hb hb79.size) _ _ (IsVs.on hb79 _ _ HVB7.out)
    have hvC := IsVs.mono (Q := fun b => b < W9.heap.size) (fun b hb => Nat.lt_of_lt_of_le (hb.elim (fun h => Nat.lt_of_lt_of_le h hb8) (fun h => h.2)) hbo9.size) _ _ (IsVs.on hbo9 _ _ HVC.out)
    obtain ⟨vA, hA1, hA2⟩ := row_load (row_at hvA (Below.heap_eq hb79 HG57.out)) 53 und_tex (by rw [Ex.row_len]; exact info_tex)
    obtain ⟨vB, hBb1, hBb2⟩ := row_load (row_at hvB (Below.heap_eq hb79 HG7.out)) 53 und_tex (by rw [Ex.row_len]; exact info_tex)
    obtain ⟨vC, hC1, hC2⟩ := row_load (row_at hvC hg9) 53 und_tex (by rw [Ex.row_len]; exact info_tex)
    have hb39 := HB35.out.trans ((HB57.out.trans (hb79.mono HB57.out.size)).mono HB35.out.size)
    have K9 := Lib.hid (K3.out.trans (hb39.mono K3.out.size))
    obtain ⟨s, r, n, d, ht⟩ : ∃ s r n d, Told W9 vA vB vC s r n d := ⟨_, _, _, _, told (.mk ek ep en em el eps eal eds) (.mk fk fp fn fm fl fps fal fds) by1 HN.out.1 HN.out.2.1 HN.out.2.2 vA vB vC W9 (HR.out.on K9.out) hA1 hBb1 hC1⟩
    have HT := Lib.hid ht
    have LA := Lib.hid hA2
    have LB := Lib.hid hBb2
    have LC := Lib.hid hC2
    clear ht hA1 hA2 hBb1 hBb2 hC1 hC2 hvA hvB hvC hg9 hbo9 hb79 hb39 hb8
    clear HVA HVB HVC HVA5 HVA7 HVB7 HG5 HG7 HG57 HB35 HB57 H4 H6 H8 VE VF VE1 VF1 VM VM1 K3 HN HL3 HX HB2 HE HF GE GF HB HR
    generalize w4.heap.size = NA at LA ⊢
    generalize w6.heap.size = NB at LB ⊢
    generalize w8.heap.size = NC at LC ⊢
    generalize W9 = W at K9 HT LA LB LC ⊢
    go_wp2
    have hw0 : Below W.heap.size W W.drew := (Below.refl _ _).drew
    refine wp_region_gate (fun V => Below W.heap.size W V) 100 (by kernel_rfl) hw0 ?_
    change AtG _ _ _ _ _ _ _ _ _ W.drew
    generalize W.drew = W0 at hw0 ⊢
    refine G_hold (i := 0) rfl (by kernel_rfl) (fun _ _ _ h => h) (yields_load 53 _ rfl ⟨NA, 0, none⟩ rfl vA.toArray LA.out rfl) ?_
    simp only [Act.put, List.setIfInBounds_toArray, List.set_cons_zero, List.set_cons_succ]
    refine G_hold (i := 1) rfl (by kernel_rfl) (fun _ _ _ h => h) (yields_load 53 _ rfl ⟨NC, 0, none⟩ rfl vC.toArray LC.out rfl) ?_
    simp only [Act.put, List.setIfInBounds_toArray, List.set_cons_zero, List.set_cons_succ]
    refine G_one (k := 2) rfl (by kernel_rfl) (fun K hK => ?_)
    have HK := Lib.hid hK
    clear hK
    go_wp2_with fail
    refine (show Calls _ _ _ W0 _ from HT.out.ac W0 hw0).mono ?_
    rintro e W1 ⟨rfl, hb1⟩
    have hw1 := hw0.trans (hb1.mono hw0.size)
    clear hb1
    go_wp2
    refine HK.out _ _ (fun _ => hw1) ?_
    clear HK K
    refine G_one (k := 3) rfl (by kernel_rfl) (fun K hK => ?_)
    have HK := Lib.hid hK
    clear hK
    go_wp2
    refine HK.out _ _ (fun _ => hw1) ?_
    clear HK K
    refine G_one (k := 4) rfl (by kernel_rfl) (fun K hK => ?_)
    have HK := Lib.hid hK
    clear hK
    go_wp2
    refine HK.out _ _ (fun _ => hw1) ?_
    clear HK K
    refine G_hold (i := 5) rfl (by kernel_rfl) (fun _ _ _ h => h) (yields_load 53 _ rfl ⟨NC, 0, none⟩ rfl vC.toArray LC.out rfl) ?_
    simp only [Act.put, List.setIfInBounds_toArray, List.set_cons_zero, List.set_cons_succ]
    refine G_hold (i := 6) rfl (by kernel_rfl) (fun _ _ _ h => h) (yields_load 53 _ rfl ⟨NA, 0, none⟩ rfl vA.toArray LA.out rfl) ?_
    simp only [Act.put, List.setIfInBounds_toArray, List.set_cons_zero, List.set_cons_succ]
    refine G_one (k := 7) rfl (by kernel_rfl) (fun K hK => ?_)
    have HK := Lib.hid hK
    clear hK
    go_wp2_with fail
    refine (show Calls _ _ _ W1 _ from HT.out.ca W1 hw1).mono ?_
    rintro e W2 ⟨rfl, hb2⟩
    have hw2 := hw1.trans (hb2.mono hw1.size)
    clear hb2
    go_wp2
    refine HK.out _ _ (fun _ => hw2) ?_
    clear HK K
    refine G_one (k := 8) rfl (by kernel_rfl) (fun K hK => ?_)
    have HK := Lib.hid hK
    clear hK
    go_wp2
    refine HK.out _ _ (fun _ => hw2) ?_
    clear HK K
    refine G_one (k := 9) rfl (by kernel_rfl) (fun K hK => ?_)
    have HK := Lib.hid hK
    clear hK
    go_wp2
    refine HK.out _ _ (fun _ => hw2) ?_
    clear HK K
    refine G_one (k := 10) rfl (by kernel_rfl) (fun K hK => ?_)
    have HK := Lib.hid hK
    clear hK
    go_wp2
    refine HK.out _ _ (fun _ => hw2) ?_
    clear HK K
    refine G_hold (i := 11) rfl (by kernel_rfl) (fun _ _ _ h => h) (yields_load 53 _ rfl ⟨NA, 0, none⟩ rfl vA.toArray LA.out rfl) ?_
    simp only [Act.put, List.setIfInBounds_toArray, List.set_cons_zero, List.set_cons_succ]
    refine G_hold (i := 12) rfl (by kernel_rfl) (fun _ _ _ h => h) (yields_load 53 _ rfl ⟨NB, 0, none⟩ rfl vB.toArray LB.out rfl) ?_
    simp only [Act.put, List.setIfInBounds_toArray, List.set_cons_zero, List.set_cons_succ]
    refine G_hold (i := 14) rfl (by kernel_rfl) (fun _ _ _ h => h) (yields_load 53 _ rfl ⟨NC, 0, none⟩ rfl vC.toArray LC.out rfl) ?_
    simp only [Act.put, List.setIfInBounds_toArray, List.set_cons_zero, List.set_cons_succ]
    refine G_hold (i := 15) rfl (by kernel_rfl) (fun _ _ _ h => h) (yields_load 53 _ rfl ⟨NB, 0, none⟩ rfl vB.toArray LB.out rfl) ?_
    simp only [Act.put, List.setIfInBounds_toArray, List.set_cons_zero, List.set_cons_succ]
    refine G_one (k := 13) rfl (by kernel_rfl) (fun K hK => ?_)
    have HK := Lib.hid hK
    clear hK
    go_wp2_with fail
    refine (show Calls _ _ _ W2 _ from HT.out.ab W2 hw2).mono ?_
    rintro e W3 ⟨rfl, hb3⟩
    have hw3 := hw2.trans (hb3.mono hw2.size)
    clear hb3
    go_wp2
    refine HK.out _ _ (fun _ => hw3) ?_
    clear HK K
    refine G_one (k := 16) rfl (by kernel_rfl) (fun K hK => ?_)
    have HK := Lib.hid hK
    clear hK
    go_wp2_with fail
    refine (show Calls _ _ _ W3 _ from HT.out.cb W3 hw3).mono ?_
    rintro e W4 ⟨rfl, hb4⟩
    have hw4 := hw3.trans (hb4.mono hw3.size)
    clear hb4
    go_wp2
    refine HK.out _ _ (fun _ => hw4) ?_
    clear HK K
    refine G_one (k := 17) rfl (by kernel_rfl) (fun K hK => ?_)
    have HK := Lib.hid hK
    clear hK
    go_wp2
    refine HK.out _ _ (fun _ => hw4) ?_
    clear HK K
    refine G_one (k := 18) rfl (by kernel_rfl) (fun K hK => ?_)
    have HK := Lib.hid hK
    clear hK
    go_wp2
    refine HK.out _ _ (fun _ => hw4) ?_
    clear HK K
    refine G_one (k := 19) rfl (by kernel_rfl) (fun K hK => ?_)
    have HK := Lib.hid hK
    clear hK
    go_wp2
    refine HK.out _ _ (fun _ => hw4) ?_
    clear HK K
    refine G_hold (i := 20) rfl (by kernel_rfl) (fun _ _ _ h => h) (yields_load 53 _ rfl ⟨NA, 0, none⟩ rfl vA.toArray LA.out rfl) ?_
    simp only [Act.put, List.setIfInBounds_toArray, List.set_cons_zero, List.set_cons_succ]
    refine G_hold (i := 21) rfl (by kernel_rfl) (fun _ _ _ h => h) (yields_load 53 _ rfl ⟨NB, 0, none⟩ rfl vB.toArray LB.out rfl) ?_
    simp only [Act.put, List.setIfInBounds_toArray, List.set_cons_zero, List.set_cons_succ]
    refine G_hold (i := 23) rfl (by kernel_rfl) (fun _ _ _ h => h) (yields_load 53 _ rfl ⟨NB, 0, none⟩ rfl vB.toArray LB.out rfl) ?_
    simp only [Act.put, List.setIfInBounds_toArray, List.set_cons_zero, List.set_cons_succ]
    refine G_hold (i := 24) rfl (by kernel_rfl) (fun _ _ _ h => h) (yields_load 53 _ rfl ⟨NA, 0, none⟩ rfl vA.toArray LA.out rfl) ?_
    simp only [Act.put, List.setIfInBounds_toArray, List.set_cons_zero, List.set_cons_succ]
    refine G_one (k := 22) rfl (by kernel_rfl) (fun K hK => ?_)
    have HK := Lib.hid hK
    clear hK
    go_wp2_with fail
    refine (show Calls _ _ _ W4 _ from HT.out.ab W4 hw4).mono ?_
    rintro e W5 ⟨rfl, hb5⟩
    have hw5 := hw4.trans (hb5.mono hw4.size)
    clear hb5
    go_wp2
    refine HK.out _ _ (fun _ => hw5) ?_
    clear HK K
    refine G_one (k := 25) rfl (by kernel_rfl) (fun K hK => ?_)
    have HK := Lib.hid hK
    clear hK
    go_wp2_with fail
    refine (show Calls _ _ _ W5 _ from HT.out.ba W5 hw5).mono ?_
    rintro e W6 ⟨rfl, hb6⟩
    have hw6 := hw5.trans (hb6.mono hw5.size)
    clear hb6
    go_wp2
    refine HK.out _ _ (fun _ => hw6) ?_
    clear HK K
    refine G_one (k := 26) rfl (by kernel_rfl) (fun K hK => ?_)
    have HK := Lib.hid hK
    clear hK
    go_wp2
    refine HK.out _ _ (fun _ => hw6) ?_
    clear HK K
    refine G_one (k := 27) rfl (by kernel_rfl) (fun K hK => ?_)
    have HK := Lib.hid hK
    clear hK
    go_wp2
    refine HK.out _ _ (fun _ => hw6) ?_
    clear HK K
    refine G_one (k := 28) rfl (by kernel_rfl) (fun K hK => ?_)
    have HK := Lib.hid hK
    clear hK
    go_wp2
    refine HK.out _ _ (fun _ => hw6) ?_
    clear HK K
    refine G_one (k := 29) rfl (by kernel_rfl) (fun K hK => ?_)
    have HK := Lib.hid hK
    clear hK
    go_wp2_with fail
    refine (show Calls _ _ _ W6 _ from knows_any W6).mono ?_
    rintro e W7 ⟨rfl, hb7⟩
    have hw7 := hw6.trans (hb7.mono hw6.size)
    clear hb7
    go_wp2
    refine HK.out _ _ (fun _ => hw7) ?_
    clear HK K
    refine G_one (k := 30) rfl (by kernel_rfl) (fun K hK => ?_)
    have HK := Lib.hid hK
    clear hK
    go_wp2
    refine HK.out _ _ (fun _ => hw7) ?_
    clear HK K
    refine G_one (k := 31) rfl (by kernel_rfl) (fun K hK => ?_)
    have HK := Lib.hid hK
    clear hK
    go_wp2
    refine HK.out _ _ (fun _ => hw7) ?_
    clear HK K
    refine G_done (by kernel_rfl) ?_
    have hdn := Lib.hid HT.out.dn
    have hd1 := Lib.hid HT.out.d1
    cases s
    · skip
      go_wp2
      have hwd : Below W.heap.size W W7.drew := hw7.drew
      refine wp_region_gate (fun V => Below W.heap.size W V) 100 (by kernel_rfl) hwd ?_
      change AtG _ _ _ _ _ _ _ _ _ W7.drew
      generalize W7.drew = W8 at hwd ⊢
      rename _ => hw8
      refine G_hold (i := 0) rfl (by kernel_rfl) (fun _ _ _ h => h) (yields_load 53 _ rfl ⟨NA, 0, none⟩ rfl vA.toArray LA.out rfl) ?_
      simp only [Act.put, List.setIfInBounds_toArray, List.set_cons_zero, List.set_cons_succ]
      refine G_hold (i := 2) rfl (by kernel_rfl) (fun _ _ _ h => h) (yields_load 53 _ rfl ⟨NC, 0, none⟩ rfl vC.toArray LC.out rfl) ?_
      simp only [Act.put, List.setIfInBounds_toArray, List.set_cons_zero, List.set_cons_succ]
      refine G_one (k := 1) rfl (by kernel_rfl) (fun K hK => ?_)
      have HK := Lib.hid hK
      clear hK
      go_wp2_with fail
      refine (show Calls _ _ _ W8 _ from HT.out.na W8 hw8).mono ?_
      rintro e W9 ⟨rfl, hb9⟩
      have hw9 := hw8.trans (hb9.mono hw8.size)
      clear hb9
      go_wp2
      refine HK.out _ _ (fun _ => hw9) ?_
      clear HK K
      refine G_one (k := 3) rfl (by kernel_rfl) (fun K hK => ?_)
      have HK := Lib.hid hK
      clear hK
      go_wp2_with fail
      refine (show Calls _ _ _ W9 _ from HT.out.nc W9 hw9).mono ?_
      rintro e W10 ⟨rfl, hb10⟩
      have hw10 := hw9.trans (hb10.mono hw9.size)
      clear hb10
      go_wp2
      refine HK.out _ _ (fun _ => hw10) ?_
      clear HK K
      refine G_one (k := 4) rfl (by kernel_rfl) (fun K hK => ?_)
      have HK := Lib.hid hK
      clear hK
      go_wp2
      refine HK.out _ _ (fun _ => hw10) ?_
      clear HK K
      refine G_one (k := 5) rfl (by kernel_rfl) (fun K hK => ?_)
      have HK := Lib.hid hK
      clear hK
      go_wp2
      refine HK.out _ _ (fun _ => hw10) ?_
      clear HK K
      refine G_hold (i := 6) rfl (by kernel_rfl) (fun _ _ _ h => h) (yields_load 53 _ rfl ⟨NA, 0, none⟩ rfl vA.toArray LA.out rfl) ?_
      simp only [Act.put, List.setIfInBounds_toArray, List.set_cons_zero, List.set_cons_succ]
      refine G_hold (i := 8) rfl (by kernel_rfl) (fun _ _ _ h => h) (yields_load 53 _ rfl ⟨NC, 0, none⟩ rfl vC.toArray LC.out rfl) ?_
      simp only [Act.put, List.setIfInBounds_toArray, List.set_cons_zero, List.set_cons_succ]
      refine G_one (k := 7) rfl (by kernel_rfl) (fun K hK => ?_)
      have HK := Lib.hid hK
      clear hK
      go_wp2_with fail
      refine (show Calls _ _ _ W10 _ from HT.out.da W10 hw10).mono ?_
      rintro e W11 ⟨rfl, hb11⟩
      have hw11 := hw10.trans (hb11.mono hw10.size)
      clear hb11
      go_wp2
      refine HK.out _ _ (fun _ => hw11) ?_
      clear HK K
      refine G_one (k := 9) rfl (by kernel_rfl) (fun K hK => ?_)
      have HK := Lib.hid hK
      clear hK
      go_wp2_with fail
      refine (show Calls _ _ _ W11 _ from HT.out.dc W11 hw11).mono ?_
      rintro e W12 ⟨rfl, hb12⟩
      have hw12 := hw11.trans (hb12.mono hw11.size)
      clear hb12
      go_wp2
      refine HK.out _ _ (fun _ => hw12) ?_
      clear HK K
      refine G_one (k := 10) rfl (by kernel_rfl) (fun K hK => ?_)
      have HK := Lib.hid hK
      clear hK
      go_wp2
      refine HK.out _ _ (fun _ => hw12) ?_
      clear HK K
      refine G_one (k := 11) rfl (by kernel_rfl) (fun K hK => ?_)
      have HK := Lib.hid hK
      clear hK
      go_wp2
      refine HK.out _ _ (fun _ => hw12) ?_
      clear HK K
      refine G_one (k := 12) rfl (by kernel_rfl) (fun K hK => ?_)
      have HK := Lib.hid hK
      clear hK
      go_wp2
      refine HK.out _ _ (fun _ => hw12) ?_
      clear HK K
      refine G_hold (i := 13) rfl (by kernel_rfl) (fun _ _ _ h => h) (yields_load 53 _ rfl ⟨NA, 0, none⟩ rfl vA.toArray LA.out rfl) ?_
      simp only [Act.put, List.setIfInBounds_toArray, List.set_cons_zero, List.set_cons_succ]
      refine G_hold (i := 15) rfl (by kernel_rfl) (fun _ _ _ h => h) (yields_load 53 _ rfl ⟨NC, 0, none⟩ rfl vC.toArray LC.out rfl) ?_
      simp only [Act.put, List.setIfInBounds_toArray, List.set_cons_zero, List.set_cons_succ]
      refine G_one (k := 14) rfl (by kernel_rfl) (fun K hK => ?_)
      have HK := Lib.hid hK
      clear hK
      go_wp2_with fail
      refine (show Calls _ _ _ W12 _ from HT.out.ra W12 hw12).mono ?_
      rintro e W13 ⟨rfl, hb13⟩
      have hw13 := hw12.trans (hb13.mono hw12.size)
      clear hb13
      go_wp2
      refine HK.out _ _ (fun _ => hw13) ?_
      clear HK K
      refine G_one (k := 16) rfl (by kernel_rfl) (fun K hK => ?_)
      have HK := Lib.hid hK
      clear hK
      go_wp2_with fail
      refine (show Calls _ _ _ W13 _ from HT.out.rc W13 hw13).mono ?_
      rintro e W14 ⟨rfl, hb14⟩
      have hw14 := hw13.trans (hb14.mono hw13.size)
      clear hb14
      go_wp2
      refine HK.out _ _ (fun _ => hw14) ?_
      clear HK K
      refine G_one (k := 17) rfl (by kernel_rfl) (fun K hK => ?_)
      have HK := Lib.hid hK
      clear hK
      go_wp2
      refine HK.out _ _ (fun _ => hw14) ?_
      clear HK K
      refine G_one (k := 18) rfl (by kernel_rfl) (fun K hK => ?_)
      have HK := Lib.hid hK
      clear hK
      go_wp2
      refine HK.out _ _ (fun _ => hw14) ?_
      clear HK K
      refine G_one (k := 19) rfl (by kernel_rfl) (fun K hK => ?_)
      have HK := Lib.hid hK
      clear hK
      go_wp2
      refine HK.out _ _ (fun _ => hw14) ?_
      clear HK K
      refine G_hold (i := 20) rfl (by kernel_rfl) (fun _ _ _ h => h) (yields_load 53 _ rfl ⟨NA, 0, none⟩ rfl vA.toArray LA.out rfl) ?_
      simp only [Act.put, List.setIfInBounds_toArray, List.set_cons_zero, List.set_cons_succ]
      refine G_hold (i := 22) rfl (by kernel_rfl) (fun _ _ _ h => h) (yields_load 53 _ rfl ⟨NA, 0, none⟩ rfl vA.toArray LA.out rfl) ?_
      simp only [Act.put, List.setIfInBounds_toArray, List.set_cons_zero, List.set_cons_succ]
      refine G_one (k := 21) rfl (by kernel_rfl) (fun K hK => ?_)
      have HK := Lib.hid hK
      clear hK
      go_wp2_with fail
      refine (show Calls _ _ _ W14 _ from HT.out.da W14 hw14).mono ?_
      rintro e W15 ⟨rfl, hb15⟩
      have hw15 := hw14.trans (hb15.mono hw14.size)
      clear hb15
      go_wp2
      refine HK.out _ _ (fun _ => hw15) ?_
      clear HK K
      refine G_one (k := 23) rfl (by kernel_rfl) (fun K hK => ?_)
      have HK := Lib.hid hK
      clear hK
      go_wp2_with fail
      refine (show Calls _ _ _ W15 _ from HT.out.na W15 hw15).mono ?_
      rintro e W16 ⟨rfl, hb16⟩
      have hw16 := hw15.trans (hb16.mono hw15.size)
      clear hb16
      go_wp2
      refine HK.out _ _ (fun _ => hw16) ?_
      clear HK K
      refine G_one (k := 24) rfl (by kernel_rfl) (fun K hK => ?_)
      have HK := Lib.hid hK
      clear hK
      go_wp2
      simp only [decide_eq_true hdn.out]
      refine HK.out _ _ (fun _ => hw16) ?_
      clear HK K
      refine G_one (k := 25) rfl (by kernel_rfl) (fun K hK => ?_)
      have HK := Lib.hid hK
      clear hK
      go_wp2
      refine HK.out _ _ (fun _ => hw16) ?_
      clear HK K
      refine G_one (k := 26) rfl (by kernel_rfl) (fun K hK => ?_)
      have HK := Lib.hid hK
      clear hK
      go_wp2
      refine HK.out _ _ (fun _ => hw16) ?_
      clear HK K
      refine G_hold (i := 27) rfl (by kernel_rfl) (fun _ _ _ h => h) (yields_load 53 _ rfl ⟨NA, 0, none⟩ rfl vA.toArray LA.out rfl) ?_
      simp only [Act.put, List.setIfInBounds_toArray, List.set_cons_zero, List.set_cons_succ]
      refine G_one (k := 28) rfl (by kernel_rfl) (fun K hK => ?_)
      have HK := Lib.hid hK
      clear hK
      go_wp2_with fail
      refine (show Calls _ _ _ W16 _ from HT.out.da W16 hw16).mono ?_
      rintro e W17 ⟨rfl, hb17⟩
      have hw17 := hw16.trans (hb17.mono hw16.size)
      clear hb17
      go_wp2
      refine HK.out _ _ (fun _ => hw17) ?_
      clear HK K
      refine G_one (k := 29) rfl (by kernel_rfl) (fun K hK => ?_)
      have HK := Lib.hid hK
      clear hK
      go_wp2
      simp only [decide_eq_true hd1.out]
      refine HK.out _ _ (fun _ => hw17) ?_
      clear HK K
      refine G_one (k := 30) rfl (by kernel_rfl) (fun K hK => ?_)
      have HK := Lib.hid hK
      clear hK
      go_wp2
      refine HK.out _ _ (fun _ => hw17) ?_
      clear HK K
      refine G_one (k := 31) rfl (by kernel_rfl) (fun K hK => ?_)
      have HK := Lib.hid hK
      clear hK
      go_wp2
      refine HK.out _ _ (fun _ => hw17) ?_
      clear HK K
      refine G_hold (i := 32) rfl (by kernel_rfl) (fun _ _ _ h => h) (yields_load 53 _ rfl ⟨NA, 0, none⟩ rfl vA.toArray LA.out rfl) ?_
      simp only [Act.put, List.setIfInBounds_toArray, List.set_cons_zero, List.set_cons_succ]
      refine G_hold (i := 33) rfl (by kernel_rfl) (fun _ _ _ h => h) (yields_load 53 _ rfl ⟨NB, 0, none⟩ rfl vB.toArray LB.out rfl) ?_
      simp only [Act.put, List.setIfInBounds_toArray, List.set_cons_zero, List.set_cons_succ]
      refine G_one (k := 34) rfl (by kernel_rfl) (fun K hK => ?_)
      have HK := Lib.hid hK
      clear hK
      go_wp2_with fail
      refine (show Calls _ _ _ W17 _ from HT.out.ab W17 hw17).mono ?_
      rintro e W18 ⟨rfl, hb18⟩
      have hw18 := hw17.trans (hb18.mono hw17.size)
      clear hb18
      go_wp2
      refine HK.out _ _ (fun _ => hw18) ?_
      clear HK K
      refine G_one (k := 35) rfl (by kernel_rfl) (fun K hK => ?_)
      have HK := Lib.hid hK
      clear hK
      go_wp2
      refine HK.out _ _ (fun _ => hw18) ?_
      clear HK K
      refine G_one (k := 36) rfl (by kernel_rfl) (fun K hK => ?_)
      have HK := Lib.hid hK
      clear hK
      go_wp2
      refine HK.out _ _ (fun _ => hw18) ?_
      clear HK K
      refine G_hold (i := 37) rfl (by kernel_rfl) (fun _ _ _ h => h) (Or.inr ⟨by rfl, rfl⟩) ?_
      simp only [Act.put, List.setIfInBounds_toArray, List.set_cons_zero, List.set_cons_succ]
      refine G_hold (i := 39) rfl (by kernel_rfl) (fun _ _ _ h => h) (Or.inr ⟨by rfl, rfl⟩) ?_
      simp only [Act.put, List.setIfInBounds_toArray, List.set_cons_zero, List.set_cons_succ]
      refine G_one (k := 38) rfl (by kernel_rfl) (fun K hK => ?_)
      have HK := Lib.hid hK
      clear hK
      go_wp2
      refine HK.out _ _ (fun _ => hw18) ?_
      clear HK K
      refine G_one (k := 40) rfl (by kernel_rfl) (fun K hK => ?_)
      have HK := Lib.hid hK
      clear hK
      go_wp2
      refine HK.out _ _ (fun _ => hw18) ?_
      clear HK K
      refine G_one (k := 41) rfl (by kernel_rfl) (fun K hK => ?_)
      have HK := Lib.hid hK
      clear hK
      go_wp2
      refine HK.out _ _ (fun _ => hw18) ?_
      clear HK K
      refine G_one (k := 42) rfl (by kernel_rfl) (fun K hK => ?_)
      have HK := Lib.hid hK
      clear hK
      go_wp2
      refine HK.out _ _ (fun _ => hw18) ?_
      clear HK K
      refine G_hold (i := 43) rfl (by kernel_rfl) (fun _ _ _ h => h) (Or.inr ⟨by rfl, rfl⟩) ?_
      simp only [Act.put, List.setIfInBounds_toArray, List.set_cons_zero, List.set_cons_succ]
      refine G_hold (i := 45) rfl (by kernel_rfl) (fun _ _ _ h => h) (Or.inr ⟨by rfl, rfl⟩) ?_
      simp only [Act.put, List.setIfInBounds_toArray, List.set_cons_zero, List.set_cons_succ]
      refine G_one (k := 44) rfl (by kernel_rfl) (fun K hK => ?_)
      have HK := Lib.hid hK
      clear hK
      go_wp2
      refine HK.out _ _ (fun _ => hw18) ?_
      clear HK K
      refine G_one (k := 46) rfl (by kernel_rfl) (fun K hK => ?_)
      have HK := Lib.hid hK
      clear hK
      go_wp2
      refine HK.out _ _ (fun _ => hw18) ?_
      clear HK K
      refine G_one (k := 47) rfl (by kernel_rfl) (fun K hK => ?_)
      have HK := Lib.hid hK
      clear hK
      go_wp2
      refine HK.out _ _ (fun _ => hw18) ?_
      clear HK K
      refine G_one (k := 48) rfl (by kernel_rfl) (fun K hK => ?_)
      have HK := Lib.hid hK
      clear hK
      go_wp2
      refine HK.out _ _ (fun _ => hw18) ?_
      clear HK K
      refine G_one (k := 49) rfl (by kernel_rfl) (fun K hK => ?_)
      have HK := Lib.hid hK
      clear hK
      go_wp2
      refine HK.out _ _ (fun _ => hw18) ?_
      clear HK K
      refine G_one (k := 50) rfl (by kernel_rfl) (fun K hK => ?_)
      have HK := Lib.hid hK
      clear hK
      go_wp2
      refine HK.out _ _ (fun _ => hw18) ?_
      clear HK K
      refine G_one (k := 51) rfl (by kernel_rfl) (fun K hK => ?_)
      have HK := Lib.hid hK
      clear hK
      go_wp2
      refine HK.out _ _ (fun _ => hw18) ?_
      clear HK K
      refine G_done (by kernel_rfl) ?_
      have hz := K9.out.trans (hw18.mono K9.out.size)
      go_wp2
      go_ret
      exact ⟨rfl, hz⟩
    · skip
      go_wp2
      have hwd : Below W.heap.size W W7.drew := hw7.drew
      refine wp_region_gate (fun V => Below W.heap.size W V) 100 (by kernel_rfl) hwd ?_
      change AtG _ _ _ _ _ _ _ _ _ W7.drew
      generalize W7.drew = W8 at hwd ⊢
      rename _ => hw8
      refine G_hold (i := 0) rfl (by kernel_rfl) (fun _ _ _ h => h) (yields_load 53 _ rfl ⟨NA, 0, none⟩ rfl vA.toArray LA.out rfl) ?_
      simp only [Act.put, List.setIfInBounds_toArray, List.set_cons_zero, List.set_cons_succ]
      refine G_hold (i := 2) rfl (by kernel_rfl) (fun _ _ _ h => h) (yields_load 53 _ rfl ⟨NC, 0, none⟩ rfl vC.toArray LC.out rfl) ?_
      simp only [Act.put, List.setIfInBounds_toArray, List.set_cons_zero, List.set_cons_succ]
      refine G_one (k := 1) rfl (by kernel_rfl) (fun K hK => ?_)
      have HK := Lib.hid hK
      clear hK
      go_wp2_with fail
      refine (show Calls _ _ _ W8 _ from HT.out.na W8 hw8).mono ?_
      rintro e W9 ⟨rfl, hb9⟩
      have hw9 := hw8.trans (hb9.mono hw8.size)
      clear hb9
      go_wp2
      refine HK.out _ _ (fun _ => hw9) ?_
      clear HK K
      refine G_one (k := 3) rfl (by kernel_rfl) (fun K hK => ?_)
      have HK := Lib.hid hK
      clear hK
      go_wp2_with fail
      refine (show Calls _ _ _ W9 _ from HT.out.nc W9 hw9).mono ?_
      rintro e W10 ⟨rfl, hb10⟩
      have hw10 := hw9.trans (hb10.mono hw9.size)
      clear hb10
      go_wp2
      refine HK.out _ _ (fun _ => hw10) ?_
      clear HK K
      refine G_one (k := 4) rfl (by kernel_rfl) (fun K hK => ?_)
      have HK := Lib.hid hK
      clear hK
      go_wp2
      refine HK.out _ _ (fun _ => hw10) ?_
      clear HK K
      refine G_one (k := 5) rfl (by kernel_rfl) (fun K hK => ?_)
      have HK := Lib.hid hK
      clear hK
      go_wp2
      refine HK.out _ _ (fun _ => hw10) ?_
      clear HK K
      refine G_hold (i := 6) rfl (by kernel_rfl) (fun _ _ _ h => h) (yields_load 53 _ rfl ⟨NA, 0, none⟩ rfl vA.toArray LA.out rfl) ?_
      simp only [Act.put, List.setIfInBounds_toArray, List.set_cons_zero, List.set_cons_succ]
      refine G_hold (i := 8) rfl (by kernel_rfl) (fun _ _ _ h => h) (yields_load 53 _ rfl ⟨NC, 0, none⟩ rfl vC.toArray LC.out rfl) ?_
      simp only [Act.put, List.setIfInBounds_toArray, List.set_cons_zero, List.set_cons_succ]
      refine G_one (k := 7) rfl (by kernel_rfl) (fun K hK => ?_)
      have HK := Lib.hid hK
      clear hK
      go_wp2_with fail
      refine (show Calls _ _ _ W10 _ from HT.out.da W10 hw10).mono ?_
      rintro e W11 ⟨rfl, hb11⟩
      have hw11 := hw10.trans (hb11.mono hw10.size)
      clear hb11
      go_wp2
      refine HK.out _ _ (fun _ => hw11) ?_
      clear HK K
      refine G_one (k := 9) rfl (by kernel_rfl) (fun K hK => ?_)
      have HK := Lib.hid hK
      clear hK
      go_wp2_with fail
      refine (show Calls _ _ _ W11 _ from HT.out.dc W11 hw11).mono ?_
      rintro e W12 ⟨rfl, hb12⟩
      have hw12 := hw11.trans (hb12.mono hw11.size)
      clear hb12
      go_wp2
      refine HK.out _ _ (fun _ => hw12) ?_
      clear HK K
      refine G_one (k := 10) rfl (by kernel_rfl) (fun K hK => ?_)
      have HK := Lib.hid hK
      clear hK
      go_wp2
      refine HK.out _ _ (fun _ => hw12) ?_
      clear HK K
      refine G_one (k := 11) rfl (by kernel_rfl) (fun K hK => ?_)
      have HK := Lib.hid hK
      clear hK
      go_wp2
      refine HK.out _ _ (fun _ => hw12) ?_
      clear HK K
      refine G_one (k := 12) rfl (by kernel_rfl) (fun K hK => ?_)
      have HK := Lib.hid hK
      clear hK
      go_wp2
      refine HK.out _ _ (fun _ => hw12) ?_
      clear HK K
      refine G_hold (i := 13) rfl (by kernel_rfl) (fun _ _ _ h => h) (yields_load 53 _ rfl ⟨NA, 0, none⟩ rfl vA.toArray LA.out rfl) ?_
      simp only [Act.put, List.setIfInBounds_toArray, List.set_cons_zero, List.set_cons_succ]
      refine G_hold (i := 15) rfl (by kernel_rfl) (fun _ _ _ h => h) (yields_load 53 _ rfl ⟨NC, 0, none⟩ rfl vC.toArray LC.out rfl) ?_
      simp only [Act.put, List.setIfInBounds_toArray, List.set_cons_zero, List.set_cons_succ]
      refine G_one (k := 14) rfl (by kernel_rfl) (fun K hK => ?_)
      have HK := Lib.hid hK
      clear hK
      go_wp2_with fail
      refine (show Calls _ _ _ W12 _ from HT.out.ra W12 hw12).mono ?_
      rintro e W13 ⟨rfl, hb13⟩
      have hw13 := hw12.trans (hb13.mono hw12.size)
      clear hb13
      go_wp2
      refine HK.out _ _ (fun _ => hw13) ?_
      clear HK K
      refine G_one (k := 16) rfl (by kernel_rfl) (fun K hK => ?_)
      have HK := Lib.hid hK
      clear hK
      go_wp2_with fail
      refine (show Calls _ _ _ W13 _ from HT.out.rc W13 hw13).mono ?_
      rintro e W14 ⟨rfl, hb14⟩
      have hw14 := hw13.trans (hb14.mono hw13.size)
      clear hb14
      go_wp2
      refine HK.out _ _ (fun _ => hw14) ?_
      clear HK K
      refine G_one (k := 17) rfl (by kernel_rfl) (fun K hK => ?_)
      have HK := Lib.hid hK
      clear hK
      go_wp2
      refine HK.out _ _ (fun _ => hw14) ?_
      clear HK K
      refine G_one (k := 18) rfl (by kernel_rfl) (fun K hK => ?_)
      have HK := Lib.hid hK
      clear hK
      go_wp2
      refine HK.out _ _ (fun _ => hw14) ?_
      clear HK K
      refine G_one (k := 19) rfl (by kernel_rfl) (fun K hK => ?_)
      have HK := Lib.hid hK
      clear hK
      go_wp2
      refine HK.out _ _ (fun _ => hw14) ?_
      clear HK K
      refine G_hold (i := 20) rfl (by kernel_rfl) (fun _ _ _ h => h) (yields_load 53 _ rfl ⟨NA, 0, none⟩ rfl vA.toArray LA.out rfl) ?_
      simp only [Act.put, List.setIfInBounds_toArray, List.set_cons_zero, List.set_cons_succ]
      refine G_hold (i := 22) rfl (by kernel_rfl) (fun _ _ _ h => h) (yields_load 53 _ rfl ⟨NA, 0, none⟩ rfl vA.toArray LA.out rfl) ?_
      simp only [Act.put, List.setIfInBounds_toArray, List.set_cons_zero, List.set_cons_succ]
      refine G_one (k := 21) rfl (by kernel_rfl) (fun K hK => ?_)
      have HK := Lib.hid hK
      clear hK
      go_wp2_with fail
      refine (show Calls _ _ _ W14 _ from HT.out.da W14 hw14).mono ?_
      rintro e W15 ⟨rfl, hb15⟩
      have hw15 := hw14.trans (hb15.mono hw14.size)
      clear hb15
      go_wp2
      refine HK.out _ _ (fun _ => hw15) ?_
      clear HK K
      refine G_one (k := 23) rfl (by kernel_rfl) (fun K hK => ?_)
      have HK := Lib.hid hK
      clear hK
      go_wp2_with fail
      refine (show Calls _ _ _ W15 _ from HT.out.na W15 hw15).mono ?_
      rintro e W16 ⟨rfl, hb16⟩
      have hw16 := hw15.trans (hb16.mono hw15.size)
      clear hb16
      go_wp2
      refine HK.out _ _ (fun _ => hw16) ?_
      clear HK K
      refine G_one (k := 24) rfl (by kernel_rfl) (fun K hK => ?_)
      have HK := Lib.hid hK
      clear hK
      go_wp2
      simp only [decide_eq_true hdn.out]
      refine HK.out _ _ (fun _ => hw16) ?_
      clear HK K
      refine G_one (k := 25) rfl (by kernel_rfl) (fun K hK => ?_)
      have HK := Lib.hid hK
      clear hK
      go_wp2
      refine HK.out _ _ (fun _ => hw16) ?_
      clear HK K
      refine G_one (k := 26) rfl (by kernel_rfl) (fun K hK => ?_)
      have HK := Lib.hid hK
      clear hK
      go_wp2
      refine HK.out _ _ (fun _ => hw16) ?_
      clear HK K
      refine G_hold (i := 27) rfl (by kernel_rfl) (fun _ _ _ h => h) (yields_load 53 _ rfl ⟨NA, 0, none⟩ rfl vA.toArray LA.out rfl) ?_
      simp only [Act.put, List.setIfInBounds_toArray, List.set_cons_zero, List.set_cons_succ]
      refine G_one (k := 28) rfl (by kernel_rfl) (fun K hK => ?_)
      have HK := Lib.hid hK
      clear hK
      go_wp2_with fail
      refine (show Calls _ _ _ W16 _ from HT.out.da W16 hw16).mono ?_
      rintro e W17 ⟨rfl, hb17⟩
      have hw17 := hw16.trans (hb17.mono hw16.size)
      clear hb17
      go_wp2
      refine HK.out _ _ (fun _ => hw17) ?_
      clear HK K
      refine G_one (k := 29) rfl (by kernel_rfl) (fun K hK => ?_)
      have HK := Lib.hid hK
      clear hK
      go_wp2
      simp only [decide_eq_true hd1.out]
      refine HK.out _ _ (fun _ => hw17) ?_
      clear HK K
      refine G_one (k := 30) rfl (by kernel_rfl) (fun K hK => ?_)
      have HK := Lib.hid hK
      clear hK
      go_wp2
      refine HK.out _ _ (fun _ => hw17) ?_
      clear HK K
      refine G_one (k := 31) rfl (by kernel_rfl) (fun K hK => ?_)
      have HK := Lib.hid hK
      clear hK
      go_wp2
      refine HK.out _ _ (fun _ => hw17) ?_
      clear HK K
      refine G_hold (i := 32) rfl (by kernel_rfl) (fun _ _ _ h => h) (yields_load 53 _ rfl ⟨NA, 0, none⟩ rfl vA.toArray LA.out rfl) ?_
      simp only [Act.put, List.setIfInBounds_toArray, List.set_cons_zero, List.set_cons_succ]
      refine G_hold (i := 33) rfl (by kernel_rfl) (fun _ _ _ h => h) (yields_load 53 _ rfl ⟨NB, 0, none⟩ rfl vB.toArray LB.out rfl) ?_
      simp only [Act.put, List.setIfInBounds_toArray, List.set_cons_zero, List.set_cons_succ]
      refine G_one (k := 34) rfl (by kernel_rfl) (fun K hK => ?_)
      have HK := Lib.hid hK
      clear hK
      go_wp2_with fail
      refine (show Calls _ _ _ W17 _ from HT.out.ab W17 hw17).mono ?_
      rintro e W18 ⟨rfl, hb18⟩
      have hw18 := hw17.trans (hb18.mono hw17.size)
      clear hb18
      go_wp2
      refine HK.out _ _ (fun _ => hw18) ?_
      clear HK K
      refine G_one (k := 35) rfl (by kernel_rfl) (fun K hK => ?_)
      have HK := Lib.hid hK
      clear hK
      go_wp2
      refine HK.out _ _ (fun _ => hw18) ?_
      clear HK K
      refine G_one (k := 36) rfl (by kernel_rfl) (fun K hK => ?_)
      have HK := Lib.hid hK
      clear hK
      go_wp2
      refine HK.out _ _ (fun _ => hw18) ?_
      clear HK K
      refine G_hold (i := 37) rfl (by kernel_rfl) (fun _ _ _ h => h) (yields_load 53 _ rfl ⟨NA, 0, none⟩ rfl vA.toArray LA.out rfl) ?_
      simp only [Act.put, List.setIfInBounds_toArray, List.set_cons_zero, List.set_cons_succ]
      refine G_hold (i := 39) rfl (by kernel_rfl) (fun _ _ _ h => h) (yields_load 53 _ rfl ⟨NB, 0, none⟩ rfl vB.toArray LB.out rfl) ?_
      simp only [Act.put, List.setIfInBounds_toArray, List.set_cons_zero, List.set_cons_succ]
      refine G_one (k := 38) rfl (by kernel_rfl) (fun K hK => ?_)
      have HK := Lib.hid hK
      clear hK
      go_wp2_with fail
      refine (show Calls _ _ _ W18 _ from HT.out.na W18 hw18).mono ?_
      rintro e W19 ⟨rfl, hb19⟩
      have hw19 := hw18.trans (hb19.mono hw18.size)
      clear hb19
      go_wp2
      refine HK.out _ _ (fun _ => hw19) ?_
      clear HK K
      refine G_one (k := 40) rfl (by kernel_rfl) (fun K hK => ?_)
      have HK := Lib.hid hK
      clear hK
      go_wp2_with fail
      refine (show Calls _ _ _ W19 _ from HT.out.nb rfl W19 hw19).mono ?_
      rintro e W20 ⟨rfl, hb20⟩
      have hw20 := hw19.trans (hb20.mono hw19.size)
      clear hb20
      go_wp2
      refine HK.out _ _ (fun _ => hw20) ?_
      clear HK K
      refine G_one (k := 41) rfl (by kernel_rfl) (fun K hK => ?_)
      have HK := Lib.hid hK
      clear hK
      go_wp2
      refine HK.out _ _ (fun _ => hw20) ?_
      clear HK K
      refine G_one (k := 42) rfl (by kernel_rfl) (fun K hK => ?_)
      have HK := Lib.hid hK
      clear hK
      go_wp2
      refine HK.out _ _ (fun _ => hw20) ?_
      clear HK K
      refine G_hold (i := 43) rfl (by kernel_rfl) (fun _ _ _ h => h) (yields_load 53 _ rfl ⟨NA, 0, none⟩ rfl vA.toArray LA.out rfl) ?_
      simp only [Act.put, List.setIfInBounds_toArray, List.set_cons_zero, List.set_cons_succ]
      refine G_hold (i := 45) rfl (by kernel_rfl) (fun _ _ _ h => h) (yields_load 53 _ rfl ⟨NB, 0, none⟩ rfl vB.toArray LB.out rfl) ?_
      simp only [Act.put, List.setIfInBounds_toArray, List.set_cons_zero, List.set_cons_succ]
      refine G_one (k := 44) rfl (by kernel_rfl) (fun K hK => ?_)
      have HK := Lib.hid hK
      clear hK
      go_wp2_with fail
      refine (show Calls _ _ _ W20 _ from HT.out.ra W20 hw20).mono ?_
      rintro e W21 ⟨rfl, hb21⟩
      have hw21 := hw20.trans (hb21.mono hw20.size)
      clear hb21
      go_wp2
      refine HK.out _ _ (fun _ => hw21) ?_
      clear HK K
      refine G_one (k := 46) rfl (by kernel_rfl) (fun K hK => ?_)
      have HK := Lib.hid hK
      clear hK
      go_wp2_with fail
      refine (show Calls _ _ _ W21 _ from HT.out.rb rfl W21 hw21).mono ?_
      rintro e W22 ⟨rfl, hb22⟩
      have hw22 := hw21.trans (hb22.mono hw21.size)
      clear hb22
      go_wp2
      refine HK.out _ _ (fun _ => hw22) ?_
      clear HK K
      refine G_one (k := 47) rfl (by kernel_rfl) (fun K hK => ?_)
      have HK := Lib.hid hK
      clear hK
      go_wp2
      refine HK.out _ _ (fun _ => hw22) ?_
      clear HK K
      refine G_one (k := 48) rfl (by kernel_rfl) (fun K hK => ?_)
      have HK := Lib.hid hK
      clear hK
      go_wp2
      refine HK.out _ _ (fun _ => hw22) ?_
      clear HK K
      refine G_one (k := 49) rfl (by kernel_rfl) (fun K hK => ?_)
      have HK := Lib.hid hK
      clear hK
      go_wp2
      refine HK.out _ _ (fun _ => hw22) ?_
      clear HK K
      refine G_one (k := 50) rfl (by kernel_rfl) (fun K hK => ?_)
      have HK := Lib.hid hK
      clear hK
      go_wp2
      refine HK.out _ _ (fun _ => hw22) ?_
      clear HK K
      refine G_one (k := 51) rfl (by kernel_rfl) (fun K hK => ?_)
      have HK := Lib.hid hK
      clear hK
      go_wp2
      refine HK.out _ _ (fun _ => hw22) ?_
      clear HK K
      refine G_done (by kernel_rfl) ?_
      have hz := K9.out.trans (hw22.mono K9.out.size)
      go_wp2
      go_ret
      exact ⟨rfl, hz⟩
/-- the same, of trees as arguments -/
theorem moved_vs (x y : Ex) (by1 : Int) (vx vy : List Value) (hB1 : -9223372036854775808 ≤ by1) (hB2 : by1 ≤ 9223372036854775807) (w : World) (hr : RangeOk w) (hx : IsVs w Any x.row vx) (hy : IsVs w Any y.row vy) (fx : x.fit) (fy : y.fit) :
    Calls Tryz.prog 5 #[.agg vx.toArray, .agg vy.toArray, .int .i64 by1] w fun e w' => e = .returned (.bool true) ∧ Below w.heap.size w w' := by
  obtain ⟨ek, ep, en, em, el, eps, eal, eds⟩ := x
  obtain ⟨fk, fp, fn, fm, fl, fps, fal, fds⟩ := y
  obtain ⟨_, a4, a5, a6, a7, b4, b5, b6, b7, rfl, _⟩ := ex_vs hx
  obtain ⟨_, c4, c5, c6, c7, d4, d5, d6, d7, rfl, _⟩ := ex_vs hy
  exact moved_law _ _ _ _ _ _ _ _ a4 a5 a6 a7 _ _ _ _ _ _ _ _ _ _ _ _ c4 c5 c6 c7 _ _ _ _ by1 hB1 hB2 w hr hx hy (by simp only [Ex.fits]; exact ⟨fx, fy, trivial⟩)
end Go.Proofs.YtkdhoelabomgkaaGreatDoor
