/- Texts of this proof, joined: OwnD. No condition. -/
import Derived.Test.YtkdhoelabomgkaaGreatDoorMa34
/-
  Layer 3, the law's side: OwnDecls: the document's declarations as the program's: the same trees, in blocks of their own, given their parts'.
-/
namespace Go.Proofs.YtkdhoelabomgkaaGreatDoor
set_option linter.unusedVariables false
open Go.ChangeShapes Go.WideShapes Go.ChangeAt Go.RowKit

/-- a whole block taken out of memory -/
theorem load_block (w : World) (N : Nat) (cs : List Value) (ty : TypeId) (h : w.heap[N]? = some (.cells cs.toArray ty (0, 0))) (hu : ∃ d, Tryz.prog.underlying ty = some d ∧ d.isRow = true) (hi : (Tryz.prog.info? ty).map (·.size) = some cs.length) : (loadVar ty ⟨N, 0, none⟩).run Tryz.prog w = .ok (.agg cs.toArray) w := by
  obtain ⟨d, h1, h2⟩ := hu
  refine loadVar_wide w ty ⟨N, 0, none⟩ cs d (fun j v hv => ?_) h1 h2 hi
  by_cases hj0 : j = 0
  · subst hj0
    rw [add_zero2, Lib.cell_of_heap h]
    simpa using hv
  · rw [add_off _ _ hj0, Lib.cell_of_heap h]
    simpa using hv
set_option maxRecDepth 100000 in
theorem und_de2 : ∃ d, Tryz.prog.underlying 95 = some d ∧ d.isRow = true := ⟨_, rfl, by kernel_rfl⟩
set_option maxHeartbeats 12800000 in
set_option maxRecDepth 100000 in
theorem ownDs_step (l : List De) (hall : ∀ d ∈ l, OwnD d) (hll : l.length ≤ 1000000) : OwnDs l := by
  intro Pd v w hv
  obtain ⟨ao, cap, rfl, v1, v2⟩ := hv.form
  have HI := Lib.hid hall
  have HV := Lib.hid hv
  clear hall hv
  obtain ⟨i0, hi, hz0, hz1, hz2⟩ := info_parts' info_de2
  obtain ⟨j0, hj, hj0, hj1, hj2⟩ := info_parts' info_co
  obtain ⟨oz, hoz⟩ : ∃ o : Obj, o = .cells #[.int .i64 0, .int .i64 0, .string ⟨#[]⟩, .slice none 0 0, .slice none 0 0, .int .i64 0, .int .i64 0, .string ⟨#[]⟩, .slice none 0 0, .slice none 0 0, .int .i64 0, .int .i64 0, .string ⟨#[]⟩, .int .i64 0, .slice none 0 0, .slice none 0 0, .slice none 0 0, .slice none 0 0] 95 := ⟨_, rfl⟩
  go_enter Tryz.func19, Tryz.ntmps19
  go_wp2
  go_loopw [3, 4] (fun xu iv wr => ∃ (k : Nat) (xv : Value) (vals : List Value), k ≤ l.length ∧ xv = xu ∧ iv = .int .i64 k ∧ wr.ownsRow w.heap.size 95 18 xv k vals ∧ Hid (Gath De.row 18 w.heap.size wr xv l k vals) ∧ Below w.heap.size w wr) (fun _ iv _ => l.length - (intOf iv).toNat)
  case atStart => exact ⟨0, _, [], Nat.zero_le _, rfl, rfl, World.ownsRow_nil _ _ _ _, Lib.hid (fun j t hj => by omega), Below.refl _ _⟩
  case round =>
    obtain ⟨k, xv, vals, hk, hx, rfl, hown, HG, hbw⟩ := hrel
    subst hx
    obtain ⟨w0, e0⟩ : ∃ w0, w0 = wr := ⟨_, rfl⟩
    by_cases hlt : k < l.length
    · have k1 : (k : Int) < l.length := by omega
      obtain ⟨t, ht⟩ : ∃ t, l[k]? = some t := ⟨l[k], List.getElem?_eq_getElem hlt⟩
      obtain ⟨a, rfl, _, hrow⟩ := HV.out.at ht
      have hrow := hrow.on hbw
      have HOD := Lib.hid (HI.out t (List.mem_of_getElem? ht))
      have HT := Lib.hid ht
      obtain ⟨tk, tp, tn, vs, cs, ⟨yk, yp, yn, yl⟩, ps, ⟨ek, ep, en, em, el, eps, eal, eds⟩⟩ := t
      obtain ⟨c0, c1, c2, htn, ⟨va, vb, c3, vv1, vv2, hvs⟩, ⟨ca, cb, c4, cc1, cc2, hcs⟩, hty, ⟨pa, pb, c9, _, _, hps⟩, hex⟩ := hrow.cells
      obtain ⟨c5, c6, c7, hyn, ya, yb, c8, _, _, hyl⟩ := hty.cells
      obtain ⟨c10, c11, c12, hen, c13, ⟨a4, b4, c14, _, _, x4⟩, ⟨a5, b5, c15, _, _, x5⟩, ⟨a6, b6, c16, _, _, x6⟩, ⟨a7, b7, c17, _, _, x7⟩⟩ := hex.cells
      rw [add_off _ _ (by decide)] at c5 c6 c7 c8 c10 c11 c12 c13 c14 c15 c16 c17
      simp only [Nat.add_assoc, Nat.reduceAdd] at c5 c6 c7 c8 c10 c11 c12 c13 c14 c15 c16 c17
      subst e0
      have HLD := Lib.hid (load_de w0 (a.add (k * 18)) c0 c1 c2 c3 c4 c5 c6 c7 c8 c9 c10 c11 c12 c13 c14 c15 c16 c17)
      have HVT := Lib.hid hvs
      have HCT := Lib.hid hcs
      have HYT := Lib.hid hyl
      have HPT := Lib.hid hps
      have HET := Lib.hid (ex_vs_mk (k := ek) (p := ep) (n := en) (m := em) hen x4 x5 x6 x7)
      have hoc : (#[.int .i64 tk, .int .i64 tp, .string tn, .slice va vs.length vb, .slice ca cs.length cb, .int .i64 yk, .int .i64 yp, .string yn, .slice ya yl.length yb, .slice pa ps.length pb, .int .i64 ek, .int .i64 ep, .string en, .int .i64 em, .slice a4 el.length b4, .slice a5 eps.length b5, .slice a6 eal.length b6, .slice a7 eds.length b7] : Array Value).all (·.oneCell') = true := by simp [Value.oneCell']
      have HOC := Lib.hid hoc
      have hvm : (vs.length : Int) ≤ 9223372036854775807 := by unfold maxLen at vv2; omega
      have hcm : (cs.length : Int) ≤ 9223372036854775807 := by unfold maxLen at cc2; omega
      clear hrow hty hex hvs hcs hyl hps x4 x5 x6 x7 ht hoc c0 c1 c2 c3 c4 c5 c6 c7 c8 c9 c10 c11 c12 c13 c14 c15 c16 c17
      go_upto_region 6 with (first
        | (refine wpList_load_any rfl 92 _ rfl (a.add (k * 18)) rfl #[.int .i64 tk, .int .i64 tp, .string tn, .slice va vs.length vb, .slice ca cs.length cb, .int .i64 yk, .int .i64 yp, .string yn, .slice ya yl.length yb, .slice pa ps.length pb, .int .i64 ek, .int .i64 ep, .string en, .int .i64 em, .slice a4 el.length b4, .slice a5 eps.length b5, .slice a6 eal.length b6, .slice a7 eds.length b7] HLD.out ?_)
        | (refine store_any 92 #[.int .i64 tk, .int .i64 tp, .string tn, .slice va vs.length vb, .slice ca cs.length cb, .int .i64 yk, .int .i64 yp, .string yn, .slice ya yl.length yb, .slice pa ps.length pb, .int .i64 ek, .int .i64 ep, .string en, .int .i64 em, .slice a4 el.length b4, .slice a5 eps.length b5, .slice a6 eal.length b6, .slice a7 eds.length b7] w0.heap.size w0.heap.size _ (heap_alloc_new w0 _) ((Below.refl w0.heap.size w0).alloc (Nat.le_refl _) _) (Nat.le_refl _) info_de rfl HOC.out rfl _ _ rfl rfl rfl ?_; intro wo hwo hbo))
      clear HLD HOC
      obtain ⟨M, hM⟩ : ∃ M, M = w0.heap.size := ⟨_, rfl⟩
      rw [← hM] at hwo ⊢
      have HM := Lib.hid hM
      clear hM
      have e0 : wo.cell? ⟨M, 0, none⟩ = some (.int .i64 tk) := by rw [Lib.cell_of_heap hwo]; rfl
      have e1 : wo.cell? ⟨M, 1, none⟩ = some (.int .i64 tp) := by rw [Lib.cell_of_heap hwo]; rfl
      have e2 : wo.cell? ⟨M, 2, none⟩ = some (.string tn) := by rw [Lib.cell_of_heap hwo]; rfl
      have e3 : wo.cell? ⟨M, 3, none⟩ = some (.slice va vs.length vb) := by rw [Lib.cell_of_heap hwo]; rfl
      have e5 : wo.cell? ⟨M, 5, none⟩ = some (.int .i64 yk) := by rw [Lib.cell_of_heap hwo]; rfl
      have e6 : wo.cell? ⟨M, 6, none⟩ = some (.int .i64 yp) := by rw [Lib.cell_of_heap hwo]; rfl
      have e7 : wo.cell? ⟨M, 7, none⟩ = some (.string yn) := by rw [Lib.cell_of_heap hwo]; rfl
      have e8 : wo.cell? ⟨M, 8, none⟩ = some (.slice ya yl.length yb) := by rw [Lib.cell_of_heap hwo]; rfl
      have e9 : wo.cell? ⟨M, 9, none⟩ = some (.slice pa ps.length pb) := by rw [Lib.cell_of_heap hwo]; rfl
      have e10 : wo.cell? ⟨M, 10, none⟩ = some (.int .i64 ek) := by rw [Lib.cell_of_heap hwo]; rfl
      have e11 : wo.cell? ⟨M, 11, none⟩ = some (.int .i64 ep) := by rw [Lib.cell_of_heap hwo]; rfl
      have e12 : wo.cell? ⟨M, 12, none⟩ = some (.string en) := by rw [Lib.cell_of_heap hwo]; rfl
      have e13 : wo.cell? ⟨M, 13, none⟩ = some (.int .i64 em) := by rw [Lib.cell_of_heap hwo]; rfl
      have e14 : wo.cell? ⟨M, 14, none⟩ = some (.slice a4 el.length b4) := by rw [Lib.cell_of_heap hwo]; rfl
      have e15 : wo.cell? ⟨M, 15, none⟩ = some (.slice a5 eps.length b5) := by rw [Lib.cell_of_heap hwo]; rfl
      have e16 : wo.cell? ⟨M, 16, none⟩ = some (.slice a6 eal.length b6) := by rw [Lib.cell_of_heap hwo]; rfl
      have e17 : wo.cell? ⟨M, 17, none⟩ = some (.slice a7 eds.length b7) := by rw [Lib.cell_of_heap hwo]; rfl
      have HTX := Lib.hid (HVT.out.on hbo)
      have HYL := Lib.hid (HYT.out.on hbo)
      have HPS := Lib.hid (HPT.out.on hbo)
      have HVS := Lib.hid (IsVs.on hbo _ _ HET.out)
      have HWO := Lib.hid hwo
      clear hwo
      simp only [Act.put]
      go_cut [6] (fun s6 wx => ∃ (N : Nat) (p3 p8 p9 h4 h5 h6 h7 : Option Addr) (q3 q8 q9 i4 i5 i6 i7 : Nat), s6 = .pointer (some ⟨N, 0, none⟩) ∧ wx.heap[N]? = some (.cells #[.int .i64 tk, .int .i64 tp, .string tn, .slice p3 vs.length q3, .slice none 0 0, .int .i64 yk, .int .i64 yp, .string yn, .slice p8 yl.length q8, .slice p9 ps.length q9, .int .i64 ek, .int .i64 ep, .string en, .int .i64 em, .slice h4 el.length i4, .slice h5 eps.length i5, .slice h6 eal.length i6, .slice h7 eds.length i7] 95 (0, 0)) ∧ IsTxs wx (fun b => Own wo wx b ∧ b ≠ N) (.slice p3 vs.length q3) vs ∧ IsTys wx (fun b => Own wo wx b ∧ b ≠ N) (.slice p8 yl.length q8) yl ∧ IsPas wx (fun b => Own wo wx b ∧ b ≠ N) (.slice p9 ps.length q9) ps ∧ IsVs wx (fun b => Own wo wx b ∧ b ≠ N) (Ex.row (.mk ek ep en em el eps eal eds)) [.int .i64 ek, .int .i64 ep, .string en, .int .i64 em, .slice h4 el.length i4, .slice h5 eps.length i5, .slice h6 eal.length i6, .slice h7 eds.length i7] ∧ Below wo.heap.size wo wx ∧ wo.heap.size ≤ N)
      case first =>
        have HS : Hid (∀ V : World, Below wo.heap.size wo V → V.cell? ⟨M, 0, none⟩ = some (.int .i64 tk) ∧ V.cell? ⟨M, 1, none⟩ = some (.int .i64 tp) ∧ V.cell? ⟨M, 2, none⟩ = some (.string tn) ∧ V.cell? ⟨M, 3, none⟩ = some (.slice va vs.length vb) ∧ V.cell? ⟨M, 5, none⟩ = some (.int .i64 yk) ∧ V.cell? ⟨M, 6, none⟩ = some (.int .i64 yp) ∧ V.cell? ⟨M, 7, none⟩ = some (.string yn) ∧ V.cell? ⟨M, 8, none⟩ = some (.slice ya yl.length yb) ∧ V.cell? ⟨M, 9, none⟩ = some (.slice pa ps.length pb) ∧ V.cell? ⟨M, 10, none⟩ = some (.int .i64 ek) ∧ V.cell? ⟨M, 11, none⟩ = some (.int .i64 ep) ∧ V.cell? ⟨M, 12, none⟩ = some (.string en) ∧ V.cell? ⟨M, 13, none⟩ = some (.int .i64 em) ∧ V.cell? ⟨M, 14, none⟩ = some (.slice a4 el.length b4) ∧ V.cell? ⟨M, 15, none⟩ = some (.slice a5 eps.length b5) ∧ V.cell? ⟨M, 16, none⟩ = some (.slice a6 eal.length b6) ∧ V.cell? ⟨M, 17, none⟩ = some (.slice a7 eds.length b7)) := Lib.hid (fun V hV => ⟨(hV.cell (Lib.lt_of_cell e0)).trans e0, (hV.cell (Lib.lt_of_cell e1)).trans e1, (hV.cell (Lib.lt_of_cell e2)).trans e2, (hV.cell (Lib.lt_of_cell e3)).trans e3, (hV.cell (Lib.lt_of_cell e5)).trans e5, (hV.cell (Lib.lt_of_cell e6)).trans e6, (hV.cell (Lib.lt_of_cell e7)).trans e7, (hV.cell (Lib.lt_of_cell e8)).trans e8, (hV.cell (Lib.lt_of_cell e9)).trans e9, (hV.cell (Lib.lt_of_cell e10)).trans e10, (hV.cell (Lib.lt_of_cell e11)).trans e11, (hV.cell (Lib.lt_of_cell e12)).trans e12, (hV.cell (Lib.lt_of_cell e13)).trans e13, (hV.cell (Lib.lt_of_cell e14)).trans e14, (hV.cell (Lib.lt_of_cell e15)).trans e15, (hV.cell (Lib.lt_of_cell e16)).trans e16, (hV.cell (Lib.lt_of_cell e17)).trans e17⟩)
        clear e0 e1 e2 e3 e5 e6 e7 e8 e9 e10 e11 e12 e13 e14 e15 e16 e17
        have hw0 : Below wo.heap.size wo wo.drew := (Below.refl _ _).drew
        refine wp_region_gate (fun V => V.cell? ⟨M, 0, none⟩ = some (.int .i64 tk) ∧ V.cell? ⟨M, 1, none⟩ = some (.int .i64 tp) ∧ V.cell? ⟨M, 2, none⟩ = some (.string tn) ∧ V.cell? ⟨M, 3, none⟩ = some (.slice va vs.length vb) ∧ V.cell? ⟨M, 5, none⟩ = some (.int .i64 yk) ∧ V.cell? ⟨M, 6, none⟩ = some (.int .i64 yp) ∧ V.cell? ⟨M, 7, none⟩ = some (.string yn) ∧ V.cell? ⟨M, 8, none⟩ = some (.slice ya yl.length yb) ∧ V.cell? ⟨M, 9, none⟩ = some (.slice pa ps.length pb) ∧ V.cell? ⟨M, 10, none⟩ = some (.int .i64 ek) ∧ V.cell? ⟨M, 11, none⟩ = some (.int .i64 ep) ∧ V.cell? ⟨M, 12, none⟩ = some (.string en) ∧ V.cell? ⟨M, 13, none⟩ = some (.int .i64 em) ∧ V.cell? ⟨M, 14, none⟩ = some (.slice a4 el.length b4) ∧ V.cell? ⟨M, 15, none⟩ = some (.slice a5 eps.length b5) ∧ V.cell? ⟨M, 16, none⟩ = some (.slice a6 eal.length b6) ∧ V.cell? ⟨M, 17, none⟩ = some (.slice a7 eds.length b7)) 21 (by kernel_rfl) (HS.out _ hw0) ?_
        change AtG _ _ _ _ _ _ _ _ _ wo.drew
        generalize wo.drew = u0 at hw0 ⊢
        refine G_take (i := 0) (v := ?_) rfl (by kernel_rfl) (fun _ _ _ h => h) (Or.inl ⟨by rfl, fun V hV => ?_⟩) ?_
        rotate_left
        · obtain ⟨e0, e1, e2, e3, e5, e6, e7, e8, e9, e10, e11, e12, e13, e14, e15, e16, e17⟩ := hV; go_simp; with_reducible rfl
        simp only [Act.put, List.setIfInBounds_toArray, List.set_cons_zero, List.set_cons_succ]
        refine G_take (i := 1) (v := ?_) rfl (by kernel_rfl) (fun _ _ _ h => h) (Or.inl ⟨by rfl, fun V hV => ?_⟩) ?_
        rotate_left
        · obtain ⟨e0, e1, e2, e3, e5, e6, e7, e8, e9, e10, e11, e12, e13, e14, e15, e16, e17⟩ := hV; go_simp; with_reducible rfl
        simp only [Act.put, List.setIfInBounds_toArray, List.set_cons_zero, List.set_cons_succ]
        refine G_take (i := 2) (v := ?_) rfl (by kernel_rfl) (fun _ _ _ h => h) (Or.inl ⟨by rfl, fun V hV => ?_⟩) ?_
        rotate_left
        · obtain ⟨e0, e1, e2, e3, e5, e6, e7, e8, e9, e10, e11, e12, e13, e14, e15, e16, e17⟩ := hV; go_simp; with_reducible rfl
        simp only [Act.put, List.setIfInBounds_toArray, List.set_cons_zero, List.set_cons_succ]
        refine G_take (i := 3) (v := ?_) rfl (by kernel_rfl) (fun _ _ _ h => h) (Or.inl ⟨by rfl, fun V hV => ?_⟩) ?_
        rotate_left
        · obtain ⟨e0, e1, e2, e3, e5, e6, e7, e8, e9, e10, e11, e12, e13, e14, e15, e16, e17⟩ := hV; go_simp; with_reducible rfl
        simp only [Act.put, List.setIfInBounds_toArray, List.set_cons_zero, List.set_cons_succ]
        refine G_take (i := 4) (v := ?_) rfl (by kernel_rfl) (fun _ _ _ h => h) (Or.inl ⟨by rfl, fun V hV => ?_⟩) ?_
        rotate_left
        · obtain ⟨e0, e1, e2, e3, e5, e6, e7, e8, e9, e10, e11, e12, e13, e14, e15, e16, e17⟩ := hV; go_simp; with_reducible rfl
        simp only [Act.put, List.setIfInBounds_toArray, List.set_cons_zero, List.set_cons_succ]
        refine G_take (i := 5) (v := ?_) rfl (by kernel_rfl) (fun _ _ _ h => h) (Or.inl ⟨by rfl, fun V hV => ?_⟩) ?_
        rotate_left
        · obtain ⟨e0, e1, e2, e3, e5, e6, e7, e8, e9, e10, e11, e12, e13, e14, e15, e16, e17⟩ := hV; go_simp; with_reducible rfl
        simp only [Act.put, List.setIfInBounds_toArray, List.set_cons_zero, List.set_cons_succ]
        refine G_take (i := 7) (v := ?_) rfl (by kernel_rfl) (fun _ _ _ h => h) (Or.inl ⟨by rfl, fun V hV => ?_⟩) ?_
        rotate_left
        · obtain ⟨e0, e1, e2, e3, e5, e6, e7, e8, e9, e10, e11, e12, e13, e14, e15, e16, e17⟩ := hV; go_simp; with_reducible rfl
        simp only [Act.put, List.setIfInBounds_toArray, List.set_cons_zero, List.set_cons_succ]
        refine G_take (i := 8) (v := ?_) rfl (by kernel_rfl) (fun _ _ _ h => h) (Or.inl ⟨by rfl, fun V hV => ?_⟩) ?_
        rotate_left
        · obtain ⟨e0, e1, e2, e3, e5, e6, e7, e8, e9, e10, e11, e12, e13, e14, e15, e16, e17⟩ := hV; go_simp; with_reducible rfl
        simp only [Act.put, List.setIfInBounds_toArray, List.set_cons_zero, List.set_cons_succ]
        refine G_take (i := 10) (v := ?_) rfl (by kernel_rfl) (fun _ _ _ h => h) (Or.inl ⟨by rfl, fun V hV => ?_⟩) ?_
        rotate_left
        · obtain ⟨e0, e1, e2, e3, e5, e6, e7, e8, e9, e10, e11, e12, e13, e14, e15, e16, e17⟩ := hV; go_simp; with_reducible rfl
        simp only [Act.put, List.setIfInBounds_toArray, List.set_cons_zero, List.set_cons_succ]
        refine G_take (i := 11) (v := ?_) rfl (by kernel_rfl) (fun _ _ _ h => h) (Or.inl ⟨by rfl, fun V hV => ?_⟩) ?_
        rotate_left
        · obtain ⟨e0, e1, e2, e3, e5, e6, e7, e8, e9, e10, e11, e12, e13, e14, e15, e16, e17⟩ := hV; go_simp; with_reducible rfl
        simp only [Act.put, List.setIfInBounds_toArray, List.set_cons_zero, List.set_cons_succ]
        refine G_take (i := 13) (v := ?_) rfl (by kernel_rfl) (fun _ _ _ h => h) (Or.inl ⟨by rfl, fun V hV => ?_⟩) ?_
        rotate_left
        · obtain ⟨e0, e1, e2, e3, e5, e6, e7, e8, e9, e10, e11, e12, e13, e14, e15, e16, e17⟩ := hV; go_simp; with_reducible rfl
        simp only [Act.put, List.setIfInBounds_toArray, List.set_cons_zero, List.set_cons_succ]
        refine G_take (i := 14) (v := ?_) rfl (by kernel_rfl) (fun _ _ _ h => h) (Or.inl ⟨by rfl, fun V hV => ?_⟩) ?_
        rotate_left
        · obtain ⟨e0, e1, e2, e3, e5, e6, e7, e8, e9, e10, e11, e12, e13, e14, e15, e16, e17⟩ := hV; go_simp; with_reducible rfl
        simp only [Act.put, List.setIfInBounds_toArray, List.set_cons_zero, List.set_cons_succ]
        refine G_take (i := 16) (v := ?_) rfl (by kernel_rfl) (fun _ _ _ h => h) (Or.inl ⟨by rfl, fun V hV => ?_⟩) ?_
        rotate_left
        · obtain ⟨e0, e1, e2, e3, e5, e6, e7, e8, e9, e10, e11, e12, e13, e14, e15, e16, e17⟩ := hV; go_simp; with_reducible rfl
        simp only [Act.put, List.setIfInBounds_toArray, List.set_cons_zero, List.set_cons_succ]
        refine G_take (i := 17) (v := ?_) rfl (by kernel_rfl) (fun _ _ _ h => h) (Or.inl ⟨by rfl, fun V hV => ?_⟩) ?_
        rotate_left
        · obtain ⟨e0, e1, e2, e3, e5, e6, e7, e8, e9, e10, e11, e12, e13, e14, e15, e16, e17⟩ := hV; go_simp; with_reducible rfl
        simp only [Act.put, List.setIfInBounds_toArray, List.set_cons_zero, List.set_cons_succ]
        refine G_two (k := 6) (m := 20) rfl rfl (by kernel_rfl) (fun K hK => ?_) (fun K hK => ?_)
        · have HK := Lib.hid hK
          clear hK
          go_wp2
          refine HK.out _ _ (fun _ => HS.out _ (bl_alloc _ hw0)) ?_
          clear HK K
          have HL := Lib.hid (heap_alloc_new u0 (.cells #[] 9))
          have hs1 : Below u0.heap.size u0 (u0.alloc (.cells #[] 9)) := bl_alloc _ (Below.refl _ _)
          have hw1 := bl_alloc (.cells #[] 9) hw0
          have hq1 : u0.heap.size + 1 ≤ (u0.alloc (.cells #[] 9)).heap.size := by simp
          generalize u0.alloc (.cells #[] 9) = u1 at HL hs1 hw1 hq1 ⊢
          refine G_two (k := 9) (m := 20) rfl rfl (by kernel_rfl) (fun K hK => ?_) (fun K hK => ?_)
          · have HK := Lib.hid hK
            clear hK
            have hgL : u1.heap[u0.heap.size]? = some (.cells #[] 9 (0, 0)) := HL.out
            go_wp2_with (refine append_txs rfl _ _ rfl u0.heap.size rfl hgL (HTX.out.on hw1) HOD.out.1 rfl ?_; intro v3 u2 hown3 hgrow3 hat3)
            obtain ⟨p3, q3, rfl⟩ := owns_form hown3
            have hlt3 := hown3.lt
            have HV3 : Hid (IsTxs u2 (fun b => (b = u0.heap.size ∨ b = u1.heap.size) ∧ b < u2.heap.size) (.slice p3 vs.length q3) vs) := Lib.hid ⟨IsC.mono (fun b hb => ⟨by rcases hat3 with e | e <;> (rw [hb] at e; injection e with e; omega), (hlt3 b hb).2⟩) _ _ (txs_of_row hown3 (txs_sizes HTX.out)).out⟩
            have hw2 : Below wo.heap.size wo u2 := hw1.grown hgrow3 hw1.size (fun j hj => by injection hj with hj; have := hw0.size; omega)
            have hp : ∀ b : Nat, b < u1.heap.size → b ≠ u0.heap.size → u2.heap[b]? = u1.heap[b]? := fun b h1 h2 => hgrow3.block b h1 (fun e => h2 (by injection e))
            have HPk := Lib.hid hp
            have hq2 : u1.heap.size ≤ u2.heap.size := hgrow3.size
            clear hgL hown3 hgrow3 hat3 hlt3 hp
            go_wp2
            refine HK.out _ _ (fun _ => HS.out _ hw2) ?_
            clear HK K
            refine G_two (k := 12) (m := 20) rfl rfl (by kernel_rfl) (fun K hK => ?_) (fun K hK => ?_)
            · have HK := Lib.hid hK
              clear hK
              go_wp2_with fail
              refine (ownT_step yk yp yn yl HOD.out.2.2.1 Pd (.slice ya yl.length yb) _ (HYL.out.on hw2)).mono ?_
              rintro e u3 ⟨v8, rfl, hv8, hs3⟩
              obtain ⟨p8, q8, rfl, _, _⟩ := hv8.form
              have HV8 := Lib.hid hv8
              clear hv8
              have hw3 : Below wo.heap.size wo u3 := hw2.trans (hs3.mono hw2.size)
              have hq3 : u2.heap.size ≤ u3.heap.size := hs3.size
              go_wp2
              refine HK.out _ _ (fun _ => HS.out _ hw3) ?_
              clear HK K
              refine G_two (k := 15) (m := 20) rfl rfl (by kernel_rfl) (fun K hK => ?_) (fun K hK => ?_)
              · have HK := Lib.hid hK
                clear hK
                go_wp2_with fail
                refine (HOD.out.2.2.2.1 Pd (.slice pa ps.length pb) _ (HPS.out.on hw3)).mono ?_
                rintro e u4 ⟨v9, rfl, hv9, hs4⟩
                obtain ⟨p9, q9, rfl, _, _⟩ := hv9.form
                have HV9 := Lib.hid hv9
                clear hv9
                have hw4 : Below wo.heap.size wo u4 := hw3.trans (hs4.mono hw3.size)
                have hq4 : u3.heap.size ≤ u4.heap.size := hs4.size
                go_wp2
                refine HK.out _ _ (fun _ => HS.out _ hw4) ?_
                clear HK K
                refine G_two (k := 18) (m := 20) rfl rfl (by kernel_rfl) (fun K hK => ?_) (fun K hK => ?_)
                · have HK := Lib.hid hK
                  clear hK
                  go_wp2_with fail
                  refine (HOD.out.2.2.2.2.1 Pd _ _ (HVS.out.on hw4)).mono ?_
                  rintro e u5 ⟨vs10, rfl, hv10, hs5⟩
                  obtain ⟨_, h4, h5, h6, h7, i4, i5, i6, i7, rfl, _, _, _, _⟩ := ex_vs hv10
                  have HV10 := Lib.hid hv10
                  clear hv10
                  have hw5 : Below wo.heap.size wo u5 := hw4.trans (hs5.mono hw4.size)
                  have hq5 : u4.heap.size ≤ u5.heap.size := hs5.size
                  go_wp2
                  refine HK.out _ _ (fun _ => HS.out _ hw5) ?_
                  clear HK K
                  refine G_pure (i := 19) (v := ?_) rfl (by kernel_rfl) (fun _ _ _ h => h) (Or.inl ⟨by rfl, fun V hV => ?_⟩) ?_
                  rotate_left
                  · go_simp; with_reducible rfl
                  simp only [Act.put, List.setIfInBounds_toArray, List.set_cons_zero, List.set_cons_succ]
                  refine G_one (k := 20) rfl (by kernel_rfl) (fun K hK => ?_)
                  have HK := Lib.hid hK
                  clear hK
                  go_wp2
                  refine HK.out _ _ (fun _ => HS.out _ (bl_alloc _ hw5)) ?_
                  clear HK K
                  rw [← hoz]
                  have HZ := Lib.hid (heap_alloc_new u5 oz)
                  have hs6 : Below u5.heap.size u5 (u5.alloc oz) := bl_alloc _ (Below.refl _ _)
                  have hw6 := bl_alloc oz hw5
                  have hq6 : u5.heap.size + 1 ≤ (u5.alloc oz).heap.size := by simp
                  generalize u5.alloc oz = u6 at HZ hs6 hw6 hq6 ⊢
                  have HN := Lib.hid (show u6.heap[u5.heap.size]? = some oz from HZ.out)
                  refine G_one (k := 21) rfl (by kernel_rfl) (fun K hK => ?_)
                  have HK := Lib.hid hK
                  clear hK
                  have hn6 := HN.out
                  rw [hoz] at hn6
                  refine store_all 95 #[.int .i64 tk, .int .i64 tp, .string tn, .slice p3 vs.length q3, .slice none 0 0, .int .i64 yk, .int .i64 yp, .string yn, .slice p8 yl.length q8, .slice p9 ps.length q9, .int .i64 ek, .int .i64 ep, .string en, .int .i64 em, .slice h4 el.length i4, .slice h5 eps.length i5, .slice h6 eal.length i6, .slice h7 eds.length i7] u5.heap.size _ hn6 (by kernel_rfl) rfl (by simp [Value.oneCell']) rfl _ _ rfl rfl rfl ?_
                  intro u7 hn7 ho7 hz7
                  have hnb := heap_lt hn6
                  have HN7 := Lib.hid hn7
                  have HO7 := Lib.hid ho7
                  have hzz7 := hz7.1
                  have HZ7 := Lib.hid hz7
                  clear hn6 hn7 ho7 hz7
                  go_wp2
                  refine HK.out _ _ (fun h => absurd (h.symm.trans (by kernel_rfl : _ = true)) Bool.false_ne_true) ?_
                  clear HK K
                  refine G_done (by kernel_rfl) ?_
                  have g3 : IsTxs u7 (fun b => Own wo u7 b ∧ b ≠ u5.heap.size) (.slice p3 vs.length q3) vs := ⟨IsC.mono (fun b hb => ⟨⟨by have h1 := hb.1; have h2 := hb.2; have := hw0.size; have := hq1; have := hq2; have := hq3; have := hq4; have := hq5; have := hq6; omega, by have h1 := hb.1; have h2 := hb.2; have := hq1; have := hq2; have := hq3; have := hq4; have := hq5; have := hq6; omega⟩, by have h1 := hb.1; have h2 := hb.2; have := hq1; have := hq2; have := hq3; have := hq4; have := hq5; have := hq6; omega⟩) _ _ (IsC.stay (fun b hb _ => HO7.out b (by have h1 := hb.1; have h2 := hb.2; have := hq1; have := hq2; have := hq3; have := hq4; have := hq5; have := hq6; omega)) _ _ (HV3.out.on (bl_tr2 (bl_tr2 (bl_tr2 hs3 hs4) hs5) hs6)).out)⟩
                  have g8 : IsTys u7 (fun b => Own wo u7 b ∧ b ≠ u5.heap.size) (.slice p8 yl.length q8) yl := ⟨IsC.mono (fun b hb => ⟨⟨by have h1 := hb.1; have h2 := hb.2; have := hw2.size; have := hq1; have := hq2; have := hq3; have := hq4; have := hq5; have := hq6; omega, by have h1 := hb.1; have h2 := hb.2; have := hq1; have := hq2; have := hq3; have := hq4; have := hq5; have := hq6; omega⟩, by have h1 := hb.1; have h2 := hb.2; have := hq1; have := hq2; have := hq3; have := hq4; have := hq5; have := hq6; omega⟩) _ _ (IsC.stay (fun b hb _ => HO7.out b (by have h1 := hb.1; have h2 := hb.2; have := hq1; have := hq2; have := hq3; have := hq4; have := hq5; have := hq6; omega)) _ _ (HV8.out.on (bl_tr2 (bl_tr2 hs4 hs5) hs6)).out)⟩
                  have g9 : IsPas u7 (fun b => Own wo u7 b ∧ b ≠ u5.heap.size) (.slice p9 ps.length q9) ps := ⟨IsC.mono (fun b hb => ⟨⟨by have h1 := hb.1; have h2 := hb.2; have := hw3.size; have := hq1; have := hq2; have := hq3; have := hq4; have := hq5; have := hq6; omega, by have h1 := hb.1; have h2 := hb.2; have := hq1; have := hq2; have := hq3; have := hq4; have := hq5; have := hq6; omega⟩, by have h1 := hb.1; have h2 := hb.2; have := hq1; have := hq2; have := hq3; have := hq4; have := hq5; have := hq6; omega⟩) _ _ (IsC.stay (fun b hb _ => HO7.out b (by have h1 := hb.1; have h2 := hb.2; have := hq1; have := hq2; have := hq3; have := hq4; have := hq5; have := hq6; omega)) _ _ (HV9.out.on (bl_tr2 hs5 hs6)).out)⟩
                  have g10 : IsVs u7 (fun b => Own wo u7 b ∧ b ≠ u5.heap.size) (Ex.row (.mk ek ep en em el eps eal eds)) [.int .i64 ek, .int .i64 ep, .string en, .int .i64 em, .slice h4 el.length i4, .slice h5 eps.length i5, .slice h6 eal.length i6, .slice h7 eds.length i7] := IsVs.mono (fun b hb => ⟨⟨by have h1 := hb.1; have h2 := hb.2; have := hw4.size; have := hq1; have := hq2; have := hq3; have := hq4; have := hq5; have := hq6; omega, by have h1 := hb.1; have h2 := hb.2; have := hq1; have := hq2; have := hq3; have := hq4; have := hq5; have := hq6; omega⟩, by have h1 := hb.1; have h2 := hb.2; have := hq1; have := hq2; have := hq3; have := hq4; have := hq5; have := hq6; omega⟩) _ _ (IsVs.stay (fun b hb _ => HO7.out b (by have h1 := hb.1; have h2 := hb.2; have := hq1; have := hq2; have := hq3; have := hq4; have := hq5; have := hq6; omega)) _ _ (IsVs.on hs6 _ _ HV10.out))
                  have hnw := hw5.size
                  have hb7 : Below wo.heap.size wo u7 := ⟨HZ7.out.2.1.trans hw6.os, HZ7.out.2.2.1.trans hw6.tape, HZ7.out.2.2.2.trans hw6.output, by have := hw6.size; omega, fun j hj => (HO7.out j (by omega)).trans (hw6.block j hj)⟩
                  have G := Lib.hid (And.intro g3 (And.intro g8 (And.intro g9 (And.intro g10 hb7))))
                  clear HN g3 g8 g9 g10 hb7
                  go_wp2_with fail
                  go_meet
                  exact ⟨u5.heap.size, _, _, _, _, _, _, _, _, _, _, _, _, _, _, rfl, HN7.out, G.out.1, G.out.2.1, G.out.2.2.1, G.out.2.2.2.1, G.out.2.2.2.2, hnw⟩
                · have HK := Lib.hid hK
                  clear hK
                  go_wp2
                  refine HK.out _ _ (fun _ => HS.out _ (bl_alloc _ hw4)) ?_
                  clear HK K
                  rw [← hoz]
                  have HZ := Lib.hid (heap_alloc_new u4 oz)
                  have hs5 : Below u4.heap.size u4 (u4.alloc oz) := bl_alloc _ (Below.refl _ _)
                  have hw5 := bl_alloc oz hw4
                  have hq5 : u4.heap.size + 1 ≤ (u4.alloc oz).heap.size := by simp
                  generalize u4.alloc oz = u5 at HZ hs5 hw5 hq5 ⊢
                  refine G_one (k := 18) rfl (by kernel_rfl) (fun K hK => ?_)
                  have HK := Lib.hid hK
                  clear hK
                  go_wp2_with fail
                  refine (HOD.out.2.2.2.2.1 Pd _ _ (HVS.out.on hw5)).mono ?_
                  rintro e u6 ⟨vs10, rfl, hv10, hs6⟩
                  obtain ⟨_, h4, h5, h6, h7, i4, i5, i6, i7, rfl, _, _, _, _⟩ := ex_vs hv10
                  have HV10 := Lib.hid hv10
                  clear hv10
                  have hw6 : Below wo.heap.size wo u6 := hw5.trans (hs6.mono hw5.size)
                  have hq6 : u5.heap.size ≤ u6.heap.size := hs6.size
                  go_wp2
                  refine HK.out _ _ (fun _ => HS.out _ hw6) ?_
                  clear HK K
                  refine G_pure (i := 19) (v := ?_) rfl (by kernel_rfl) (fun _ _ _ h => h) (Or.inl ⟨by rfl, fun V hV => ?_⟩) ?_
                  rotate_left
                  · go_simp; with_reducible rfl
                  simp only [Act.put, List.setIfInBounds_toArray, List.set_cons_zero, List.set_cons_succ]
                  have HN := Lib.hid (show u6.heap[u4.heap.size]? = some oz from ((hs6.block _ (heap_lt HZ.out)).trans HZ.out))
                  refine G_one (k := 21) rfl (by kernel_rfl) (fun K hK => ?_)
                  have HK := Lib.hid hK
                  clear hK
                  have hn6 := HN.out
                  rw [hoz] at hn6
                  refine store_all 95 #[.int .i64 tk, .int .i64 tp, .string tn, .slice p3 vs.length q3, .slice none 0 0, .int .i64 yk, .int .i64 yp, .string yn, .slice p8 yl.length q8, .slice p9 ps.length q9, .int .i64 ek, .int .i64 ep, .string en, .int .i64 em, .slice h4 el.length i4, .slice h5 eps.length i5, .slice h6 eal.length i6, .slice h7 eds.length i7] u4.heap.size _ hn6 (by kernel_rfl) rfl (by simp [Value.oneCell']) rfl _ _ rfl rfl rfl ?_
                  intro u7 hn7 ho7 hz7
                  have hnb := heap_lt hn6
                  have HN7 := Lib.hid hn7
                  have HO7 := Lib.hid ho7
                  have hzz7 := hz7.1
                  have HZ7 := Lib.hid hz7
                  clear hn6 hn7 ho7 hz7
                  go_wp2
                  refine HK.out _ _ (fun h => absurd (h.symm.trans (by kernel_rfl : _ = true)) Bool.false_ne_true) ?_
                  clear HK K
                  refine G_done (by kernel_rfl) ?_
                  have g3 : IsTxs u7 (fun b => Own wo u7 b ∧ b ≠ u4.heap.size) (.slice p3 vs.length q3) vs := ⟨IsC.mono (fun b hb => ⟨⟨by have h1 := hb.1; have h2 := hb.2; have := hw0.size; have := hq1; have := hq2; have := hq3; have := hq4; have := hq5; have := hq6; omega, by have h1 := hb.1; have h2 := hb.2; have := hq1; have := hq2; have := hq3; have := hq4; have := hq5; have := hq6; omega⟩, by have h1 := hb.1; have h2 := hb.2; have := hq1; have := hq2; have := hq3; have := hq4; have := hq5; have := hq6; omega⟩) _ _ (IsC.stay (fun b hb _ => HO7.out b (by have h1 := hb.1; have h2 := hb.2; have := hq1; have := hq2; have := hq3; have := hq4; have := hq5; have := hq6; omega)) _ _ (HV3.out.on (bl_tr2 (bl_tr2 (bl_tr2 hs3 hs4) hs5) hs6)).out)⟩
                  have g8 : IsTys u7 (fun b => Own wo u7 b ∧ b ≠ u4.heap.size) (.slice p8 yl.length q8) yl := ⟨IsC.mono (fun b hb => ⟨⟨by have h1 := hb.1; have h2 := hb.2; have := hw2.size; have := hq1; have := hq2; have := hq3; have := hq4; have := hq5; have := hq6; omega, by have h1 := hb.1; have h2 := hb.2; have := hq1; have := hq2; have := hq3; have := hq4; have := hq5; have := hq6; omega⟩, by have h1 := hb.1; have h2 := hb.2; have := hq1; have := hq2; have := hq3; have := hq4; have := hq5; have := hq6; omega⟩) _ _ (IsC.stay (fun b hb _ => HO7.out b (by have h1 := hb.1; have h2 := hb.2; have := hq1; have := hq2; have := hq3; have := hq4; have := hq5; have := hq6; omega)) _ _ (HV8.out.on (bl_tr2 (bl_tr2 hs4 hs5) hs6)).out)⟩
                  have g9 : IsPas u7 (fun b => Own wo u7 b ∧ b ≠ u4.heap.size) (.slice p9 ps.length q9) ps := ⟨IsC.mono (fun b hb => ⟨⟨by have h1 := hb.1; have h2 := hb.2; have := hw3.size; have := hq1; have := hq2; have := hq3; have := hq4; have := hq5; have := hq6; omega, by have h1 := hb.1; have h2 := hb.2; have := hq1; have := hq2; have := hq3; have := hq4; have := hq5; have := hq6; omega⟩, by have h1 := hb.1; have h2 := hb.2; have := hq1; have := hq2; have := hq3; have := hq4; have := hq5; have := hq6; omega⟩) _ _ (IsC.stay (fun b hb _ => HO7.out b (by have h1 := hb.1; have h2 := hb.2; have := hq1; have := hq2; have := hq3; have := hq4; have := hq5; have := hq6; omega)) _ _ (HV9.out.on (bl_tr2 hs5 hs6)).out)⟩
                  have g10 : IsVs u7 (fun b => Own wo u7 b ∧ b ≠ u4.heap.size) (Ex.row (.mk ek ep en em el eps eal eds)) [.int .i64 ek, .int .i64 ep, .string en, .int .i64 em, .slice h4 el.length i4, .slice h5 eps.length i5, .slice h6 eal.length i6, .slice h7 eds.length i7] := IsVs.mono (fun b hb => ⟨⟨by have h1 := hb.1; have h2 := hb.2; have := hw5.size; have := hq1; have := hq2; have := hq3; have := hq4; have := hq5; have := hq6; omega, by have h1 := hb.1; have h2 := hb.2; have := hq1; have := hq2; have := hq3; have := hq4; have := hq5; have := hq6; omega⟩, by have h1 := hb.1; have h2 := hb.2; have := hq1; have := hq2; have := hq3; have := hq4; have := hq5; have := hq6; omega⟩) _ _ (IsVs.stay (fun b hb _ => HO7.out b (by have h1 := hb.1; have h2 := hb.2; have := hq1; have := hq2; have := hq3; have := hq4; have := hq5; have := hq6; omega)) _ _ HV10.out)
                  have hnw := hw4.size
                  have hb7 : Below wo.heap.size wo u7 := ⟨HZ7.out.2.1.trans hw6.os, HZ7.out.2.2.1.trans hw6.tape, HZ7.out.2.2.2.trans hw6.output, by have := hw6.size; omega, fun j hj => (HO7.out j (by omega)).trans (hw6.block j hj)⟩
                  have G := Lib.hid (And.intro g3 (And.intro g8 (And.intro g9 (And.intro g10 hb7))))
                  clear HN g3 g8 g9 g10 hb7
                  go_wp2_with fail
                  go_meet
                  exact ⟨u4.heap.size, _, _, _, _, _, _, _, _, _, _, _, _, _, _, rfl, HN7.out, G.out.1, G.out.2.1, G.out.2.2.1, G.out.2.2.2.1, G.out.2.2.2.2, hnw⟩
              · have HK := Lib.hid hK
                clear hK
                go_wp2
                refine HK.out _ _ (fun _ => HS.out _ (bl_alloc _ hw3)) ?_
                clear HK K
                rw [← hoz]
                have HZ := Lib.hid (heap_alloc_new u3 oz)
                have hs4 : Below u3.heap.size u3 (u3.alloc oz) := bl_alloc _ (Below.refl _ _)
                have hw4 := bl_alloc oz hw3
                have hq4 : u3.heap.size + 1 ≤ (u3.alloc oz).heap.size := by simp
                generalize u3.alloc oz = u4 at HZ hs4 hw4 hq4 ⊢
                refine G_one (k := 15) rfl (by kernel_rfl) (fun K hK => ?_)
                have HK := Lib.hid hK
                clear hK
                go_wp2_with fail
                refine (HOD.out.2.2.2.1 Pd (.slice pa ps.length pb) _ (HPS.out.on hw4)).mono ?_
                rintro e u5 ⟨v9, rfl, hv9, hs5⟩
                obtain ⟨p9, q9, rfl, _, _⟩ := hv9.form
                have HV9 := Lib.hid hv9
                clear hv9
                have hw5 : Below wo.heap.size wo u5 := hw4.trans (hs5.mono hw4.size)
                have hq5 : u4.heap.size ≤ u5.heap.size := hs5.size
                go_wp2
                refine HK.out _ _ (fun _ => HS.out _ hw5) ?_
                clear HK K
                refine G_one (k := 18) rfl (by kernel_rfl) (fun K hK => ?_)
                have HK := Lib.hid hK
                clear hK
                go_wp2_with fail
                refine (HOD.out.2.2.2.2.1 Pd _ _ (HVS.out.on hw5)).mono ?_
                rintro e u6 ⟨vs10, rfl, hv10, hs6⟩
                obtain ⟨_, h4, h5, h6, h7, i4, i5, i6, i7, rfl, _, _, _, _⟩ := ex_vs hv10
                have HV10 := Lib.hid hv10
                clear hv10
                have hw6 : Below wo.heap.size wo u6 := hw5.trans (hs6.mono hw5.size)
                have hq6 : u5.heap.size ≤ u6.heap.size := hs6.size
                go_wp2
                refine HK.out _ _ (fun _ => HS.out _ hw6) ?_
                clear HK K
                refine G_pure (i := 19) (v := ?_) rfl (by kernel_rfl) (fun _ _ _ h => h) (Or.inl ⟨by rfl, fun V hV => ?_⟩) ?_
                rotate_left
                · go_simp; with_reducible rfl
                simp only [Act.put, List.setIfInBounds_toArray, List.set_cons_zero, List.set_cons_succ]
                have HN := Lib.hid (show u6.heap[u3.heap.size]? = some oz from ((hs6.block _ (heap_lt ((hs5.block _ (heap_lt HZ.out)).trans HZ.out))).trans ((hs5.block _ (heap_lt HZ.out)).trans HZ.out)))
                refine G_one (k := 21) rfl (by kernel_rfl) (fun K hK => ?_)
                have HK := Lib.hid hK
                clear hK
                have hn6 := HN.out
                rw [hoz] at hn6
                refine store_all 95 #[.int .i64 tk, .int .i64 tp, .string tn, .slice p3 vs.length q3, .slice none 0 0, .int .i64 yk, .int .i64 yp, .string yn, .slice p8 yl.length q8, .slice p9 ps.length q9, .int .i64 ek, .int .i64 ep, .string en, .int .i64 em, .slice h4 el.length i4, .slice h5 eps.length i5, .slice h6 eal.length i6, .slice h7 eds.length i7] u3.heap.size _ hn6 (by kernel_rfl) rfl (by simp [Value.oneCell']) rfl _ _ rfl rfl rfl ?_
                intro u7 hn7 ho7 hz7
                have hnb := heap_lt hn6
                have HN7 := Lib.hid hn7
                have HO7 := Lib.hid ho7
                have hzz7 := hz7.1
                have HZ7 := Lib.hid hz7
                clear hn6 hn7 ho7 hz7
                go_wp2
                refine HK.out _ _ (fun h => absurd (h.symm.trans (by kernel_rfl : _ = true)) Bool.false_ne_true) ?_
                clear HK K
                refine G_done (by kernel_rfl) ?_
                have g3 : IsTxs u7 (fun b => Own wo u7 b ∧ b ≠ u3.heap.size) (.slice p3 vs.length q3) vs := ⟨IsC.mono (fun b hb => ⟨⟨by have h1 := hb.1; have h2 := hb.2; have := hw0.size; have := hq1; have := hq2; have := hq3; have := hq4; have := hq5; have := hq6; omega, by have h1 := hb.1; have h2 := hb.2; have := hq1; have := hq2; have := hq3; have := hq4; have := hq5; have := hq6; omega⟩, by have h1 := hb.1; have h2 := hb.2; have := hq1; have := hq2; have := hq3; have := hq4; have := hq5; have := hq6; omega⟩) _ _ (IsC.stay (fun b hb _ => HO7.out b (by have h1 := hb.1; have h2 := hb.2; have := hq1; have := hq2; have := hq3; have := hq4; have := hq5; have := hq6; omega)) _ _ (HV3.out.on (bl_tr2 (bl_tr2 (bl_tr2 hs3 hs4) hs5) hs6)).out)⟩
                have g8 : IsTys u7 (fun b => Own wo u7 b ∧ b ≠ u3.heap.size) (.slice p8 yl.length q8) yl := ⟨IsC.mono (fun b hb => ⟨⟨by have h1 := hb.1; have h2 := hb.2; have := hw2.size; have := hq1; have := hq2; have := hq3; have := hq4; have := hq5; have := hq6; omega, by have h1 := hb.1; have h2 := hb.2; have := hq1; have := hq2; have := hq3; have := hq4; have := hq5; have := hq6; omega⟩, by have h1 := hb.1; have h2 := hb.2; have := hq1; have := hq2; have := hq3; have := hq4; have := hq5; have := hq6; omega⟩) _ _ (IsC.stay (fun b hb _ => HO7.out b (by have h1 := hb.1; have h2 := hb.2; have := hq1; have := hq2; have := hq3; have := hq4; have := hq5; have := hq6; omega)) _ _ (HV8.out.on (bl_tr2 (bl_tr2 hs4 hs5) hs6)).out)⟩
                have g9 : IsPas u7 (fun b => Own wo u7 b ∧ b ≠ u3.heap.size) (.slice p9 ps.length q9) ps := ⟨IsC.mono (fun b hb => ⟨⟨by have h1 := hb.1; have h2 := hb.2; have := hw4.size; have := hq1; have := hq2; have := hq3; have := hq4; have := hq5; have := hq6; omega, by have h1 := hb.1; have h2 := hb.2; have := hq1; have := hq2; have := hq3; have := hq4; have := hq5; have := hq6; omega⟩, by have h1 := hb.1; have h2 := hb.2; have := hq1; have := hq2; have := hq3; have := hq4; have := hq5; have := hq6; omega⟩) _ _ (IsC.stay (fun b hb _ => HO7.out b (by have h1 := hb.1; have h2 := hb.2; have := hq1; have := hq2; have := hq3; have := hq4; have := hq5; have := hq6; omega)) _ _ (HV9.out.on hs6).out)⟩
                have g10 : IsVs u7 (fun b => Own wo u7 b ∧ b ≠ u3.heap.size) (Ex.row (.mk ek ep en em el eps eal eds)) [.int .i64 ek, .int .i64 ep, .string en, .int .i64 em, .slice h4 el.length i4, .slice h5 eps.length i5, .slice h6 eal.length i6, .slice h7 eds.length i7] := IsVs.mono (fun b hb => ⟨⟨by have h1 := hb.1; have h2 := hb.2; have := hw5.size; have := hq1; have := hq2; have := hq3; have := hq4; have := hq5; have := hq6; omega, by have h1 := hb.1; have h2 := hb.2; have := hq1; have := hq2; have := hq3; have := hq4; have := hq5; have := hq6; omega⟩, by have h1 := hb.1; have h2 := hb.2; have := hq1; have := hq2; have := hq3; have := hq4; have := hq5; have := hq6; omega⟩) _ _ (IsVs.stay (fun b hb _ => HO7.out b (by have h1 := hb.1; have h2 := hb.2; have := hq1; have := hq2; have := hq3; have := hq4; have := hq5; have := hq6; omega)) _ _ HV10.out)
                have hnw := hw3.size
                have hb7 : Below wo.heap.size wo u7 := ⟨HZ7.out.2.1.trans hw6.os, HZ7.out.2.2.1.trans hw6.tape, HZ7.out.2.2.2.trans hw6.output, by have := hw6.size; omega, fun j hj => (HO7.out j (by omega)).trans (hw6.block j hj)⟩
                have G := Lib.hid (And.intro g3 (And.intro g8 (And.intro g9 (And.intro g10 hb7))))
                clear HN g3 g8 g9 g10 hb7
                go_wp2_with fail
                go_meet
                exact ⟨u3.heap.size, _, _, _, _, _, _, _, _, _, _, _, _, _, _, rfl, HN7.out, G.out.1, G.out.2.1, G.out.2.2.1, G.out.2.2.2.1, G.out.2.2.2.2, hnw⟩
            · have HK := Lib.hid hK
              clear hK
              go_wp2
              refine HK.out _ _ (fun _ => HS.out _ (bl_alloc _ hw2)) ?_
              clear HK K
              rw [← hoz]
              have HZ := Lib.hid (heap_alloc_new u2 oz)
              have hs3 : Below u2.heap.size u2 (u2.alloc oz) := bl_alloc _ (Below.refl _ _)
              have hw3 := bl_alloc oz hw2
              have hq3 : u2.heap.size + 1 ≤ (u2.alloc oz).heap.size := by simp
              generalize u2.alloc oz = u3 at HZ hs3 hw3 hq3 ⊢
              refine G_one (k := 12) rfl (by kernel_rfl) (fun K hK => ?_)
              have HK := Lib.hid hK
              clear hK
              go_wp2_with fail
              refine (ownT_step yk yp yn yl HOD.out.2.2.1 Pd (.slice ya yl.length yb) _ (HYL.out.on hw3)).mono ?_
              rintro e u4 ⟨v8, rfl, hv8, hs4⟩
              obtain ⟨p8, q8, rfl, _, _⟩ := hv8.form
              have HV8 := Lib.hid hv8
              clear hv8
              have hw4 : Below wo.heap.size wo u4 := hw3.trans (hs4.mono hw3.size)
              have hq4 : u3.heap.size ≤ u4.heap.size := hs4.size
              go_wp2
              refine HK.out _ _ (fun _ => HS.out _ hw4) ?_
              clear HK K
              refine G_one (k := 15) rfl (by kernel_rfl) (fun K hK => ?_)
              have HK := Lib.hid hK
              clear hK
              go_wp2_with fail
              refine (HOD.out.2.2.2.1 Pd (.slice pa ps.length pb) _ (HPS.out.on hw4)).mono ?_
              rintro e u5 ⟨v9, rfl, hv9, hs5⟩
              obtain ⟨p9, q9, rfl, _, _⟩ := hv9.form
              have HV9 := Lib.hid hv9
              clear hv9
              have hw5 : Below wo.heap.size wo u5 := hw4.trans (hs5.mono hw4.size)
              have hq5 : u4.heap.size ≤ u5.heap.size := hs5.size
              go_wp2
              refine HK.out _ _ (fun _ => HS.out _ hw5) ?_
              clear HK K
              refine G_one (k := 18) rfl (by kernel_rfl) (fun K hK => ?_)
              have HK := Lib.hid hK
              clear hK
              go_wp2_with fail
              refine (HOD.out.2.2.2.2.1 Pd _ _ (HVS.out.on hw5)).mono ?_
              rintro e u6 ⟨vs10, rfl, hv10, hs6⟩
              obtain ⟨_, h4, h5, h6, h7, i4, i5, i6, i7, rfl, _, _, _, _⟩ := ex_vs hv10
              have HV10 := Lib.hid hv10
              clear hv10
              have hw6 : Below wo.heap.size wo u6 := hw5.trans (hs6.mono hw5.size)
              have hq6 : u5.heap.size ≤ u6.heap.size := hs6.size
              go_wp2
              refine HK.out _ _ (fun _ => HS.out _ hw6) ?_
              clear HK K
              refine G_pure (i := 19) (v := ?_) rfl (by kernel_rfl) (fun _ _ _ h => h) (Or.inl ⟨by rfl, fun V hV => ?_⟩) ?_
              rotate_left
              · go_simp; with_reducible rfl
              simp only [Act.put, List.setIfInBounds_toArray, List.set_cons_zero, List.set_cons_succ]
              have HN := Lib.hid (show u6.heap[u2.heap.size]? = some oz from ((hs6.block _ (heap_lt ((hs5.block _ (heap_lt ((hs4.block _ (heap_lt HZ.out)).trans HZ.out))).trans ((hs4.block _ (heap_lt HZ.out)).trans HZ.out)))).trans ((hs5.block _ (heap_lt ((hs4.block _ (heap_lt HZ.out)).trans HZ.out))).trans ((hs4.block _ (heap_lt HZ.out)).trans HZ.out))))
              refine G_one (k := 21) rfl (by kernel_rfl) (fun K hK => ?_)
              have HK := Lib.hid hK
              clear hK
              have hn6 := HN.out
              rw [hoz] at hn6
              refine store_all 95 #[.int .i64 tk, .int .i64 tp, .string tn, .slice p3 vs.length q3, .slice none 0 0, .int .i64 yk, .int .i64 yp, .string yn, .slice p8 yl.length q8, .slice p9 ps.length q9, .int .i64 ek, .int .i64 ep, .string en, .int .i64 em, .slice h4 el.length i4, .slice h5 eps.length i5, .slice h6 eal.length i6, .slice h7 eds.length i7] u2.heap.size _ hn6 (by kernel_rfl) rfl (by simp [Value.oneCell']) rfl _ _ rfl rfl rfl ?_
              intro u7 hn7 ho7 hz7
              have hnb := heap_lt hn6
              have HN7 := Lib.hid hn7
              have HO7 := Lib.hid ho7
              have hzz7 := hz7.1
              have HZ7 := Lib.hid hz7
              clear hn6 hn7 ho7 hz7
              go_wp2
              refine HK.out _ _ (fun h => absurd (h.symm.trans (by kernel_rfl : _ = true)) Bool.false_ne_true) ?_
              clear HK K
              refine G_done (by kernel_rfl) ?_
              have g3 : IsTxs u7 (fun b => Own wo u7 b ∧ b ≠ u2.heap.size) (.slice p3 vs.length q3) vs := ⟨IsC.mono (fun b hb => ⟨⟨by have h1 := hb.1; have h2 := hb.2; have := hw0.size; have := hq1; have := hq2; have := hq3; have := hq4; have := hq5; have := hq6; omega, by have h1 := hb.1; have h2 := hb.2; have := hq1; have := hq2; have := hq3; have := hq4; have := hq5; have := hq6; omega⟩, by have h1 := hb.1; have h2 := hb.2; have := hq1; have := hq2; have := hq3; have := hq4; have := hq5; have := hq6; omega⟩) _ _ (IsC.stay (fun b hb _ => HO7.out b (by have h1 := hb.1; have h2 := hb.2; have := hq1; have := hq2; have := hq3; have := hq4; have := hq5; have := hq6; omega)) _ _ (HV3.out.on (bl_tr2 (bl_tr2 (bl_tr2 hs3 hs4) hs5) hs6)).out)⟩
              have g8 : IsTys u7 (fun b => Own wo u7 b ∧ b ≠ u2.heap.size) (.slice p8 yl.length q8) yl := ⟨IsC.mono (fun b hb => ⟨⟨by have h1 := hb.1; have h2 := hb.2; have := hw3.size; have := hq1; have := hq2; have := hq3; have := hq4; have := hq5; have := hq6; omega, by have h1 := hb.1; have h2 := hb.2; have := hq1; have := hq2; have := hq3; have := hq4; have := hq5; have := hq6; omega⟩, by have h1 := hb.1; have h2 := hb.2; have := hq1; have := hq2; have := hq3; have := hq4; have := hq5; have := hq6; omega⟩) _ _ (IsC.stay (fun b hb _ => HO7.out b (by have h1 := hb.1; have h2 := hb.2; have := hq1; have := hq2; have := hq3; have := hq4; have := hq5; have := hq6; omega)) _ _ (HV8.out.on (bl_tr2 hs5 hs6)).out)⟩
              have g9 : IsPas u7 (fun b => Own wo u7 b ∧ b ≠ u2.heap.size) (.slice p9 ps.length q9) ps := ⟨IsC.mono (fun b hb => ⟨⟨by have h1 := hb.1; have h2 := hb.2; have := hw4.size; have := hq1; have := hq2; have := hq3; have := hq4; have := hq5; have := hq6; omega, by have h1 := hb.1; have h2 := hb.2; have := hq1; have := hq2; have := hq3; have := hq4; have := hq5; have := hq6; omega⟩, by have h1 := hb.1; have h2 := hb.2; have := hq1; have := hq2; have := hq3; have := hq4; have := hq5; have := hq6; omega⟩) _ _ (IsC.stay (fun b hb _ => HO7.out b (by have h1 := hb.1; have h2 := hb.2; have := hq1; have := hq2; have := hq3; have := hq4; have := hq5; have := hq6; omega)) _ _ (HV9.out.on hs6).out)⟩
              have g10 : IsVs u7 (fun b => Own wo u7 b ∧ b ≠ u2.heap.size) (Ex.row (.mk ek ep en em el eps eal eds)) [.int .i64 ek, .int .i64 ep, .string en, .int .i64 em, .slice h4 el.length i4, .slice h5 eps.length i5, .slice h6 eal.length i6, .slice h7 eds.length i7] := IsVs.mono (fun b hb => ⟨⟨by have h1 := hb.1; have h2 := hb.2; have := hw5.size; have := hq1; have := hq2; have := hq3; have := hq4; have := hq5; have := hq6; omega, by have h1 := hb.1; have h2 := hb.2; have := hq1; have := hq2; have := hq3; have := hq4; have := hq5; have := hq6; omega⟩, by have h1 := hb.1; have h2 := hb.2; have := hq1; have := hq2; have := hq3; have := hq4; have := hq5; have := hq6; omega⟩) _ _ (IsVs.stay (fun b hb _ => HO7.out b (by have h1 := hb.1; have h2 := hb.2; have := hq1; have := hq2; have := hq3; have := hq4; have := hq5; have := hq6; omega)) _ _ HV10.out)
              have hnw := hw2.size
              have hb7 : Below wo.heap.size wo u7 := ⟨HZ7.out.2.1.trans hw6.os, HZ7.out.2.2.1.trans hw6.tape, HZ7.out.2.2.2.trans hw6.output, by have := hw6.size; omega, fun j hj => (HO7.out j (by omega)).trans (hw6.block j hj)⟩
              have G := Lib.hid (And.intro g3 (And.intro g8 (And.intro g9 (And.intro g10 hb7))))
              clear HN g3 g8 g9 g10 hb7
              go_wp2_with fail
              go_meet
              exact ⟨u2.heap.size, _, _, _, _, _, _, _, _, _, _, _, _, _, _, rfl, HN7.out, G.out.1, G.out.2.1, G.out.2.2.1, G.out.2.2.2.1, G.out.2.2.2.2, hnw⟩
          · have HK := Lib.hid hK
            clear hK
            go_wp2
            refine HK.out _ _ (fun _ => HS.out _ (bl_alloc _ hw1)) ?_
            clear HK K
            rw [← hoz]
            have HZ := Lib.hid (heap_alloc_new u1 oz)
            have hs2 : Below u1.heap.size u1 (u1.alloc oz) := bl_alloc _ (Below.refl _ _)
            have hw2 := bl_alloc oz hw1
            have hq2 : u1.heap.size + 1 ≤ (u1.alloc oz).heap.size := by simp
            generalize u1.alloc oz = u2 at HZ hs2 hw2 hq2 ⊢
            refine G_one (k := 9) rfl (by kernel_rfl) (fun K hK => ?_)
            have HK := Lib.hid hK
            clear hK
            have hgL : u2.heap[u0.heap.size]? = some (.cells #[] 9 (0, 0)) := ((hs2.block _ (heap_lt HL.out)).trans HL.out)
            go_wp2_with (refine append_txs rfl _ _ rfl u0.heap.size rfl hgL (HTX.out.on hw2) HOD.out.1 rfl ?_; intro v3 u3 hown3 hgrow3 hat3)
            obtain ⟨p3, q3, rfl⟩ := owns_form hown3
            have hlt3 := hown3.lt
            have HV3 : Hid (IsTxs u3 (fun b => (b = u0.heap.size ∨ b = u2.heap.size) ∧ b < u3.heap.size) (.slice p3 vs.length q3) vs) := Lib.hid ⟨IsC.mono (fun b hb => ⟨by rcases hat3 with e | e <;> (rw [hb] at e; injection e with e; omega), (hlt3 b hb).2⟩) _ _ (txs_of_row hown3 (txs_sizes HTX.out)).out⟩
            have hw3 : Below wo.heap.size wo u3 := hw2.grown hgrow3 hw2.size (fun j hj => by injection hj with hj; have := hw0.size; omega)
            have hp : ∀ b : Nat, b < u2.heap.size → b ≠ u0.heap.size → u3.heap[b]? = u2.heap[b]? := fun b h1 h2 => hgrow3.block b h1 (fun e => h2 (by injection e))
            have HPk := Lib.hid hp
            have hq3 : u2.heap.size ≤ u3.heap.size := hgrow3.size
            clear hgL hown3 hgrow3 hat3 hlt3 hp
            go_wp2
            refine HK.out _ _ (fun _ => HS.out _ hw3) ?_
            clear HK K
            refine G_one (k := 12) rfl (by kernel_rfl) (fun K hK => ?_)
            have HK := Lib.hid hK
            clear hK
            go_wp2_with fail
            refine (ownT_step yk yp yn yl HOD.out.2.2.1 Pd (.slice ya yl.length yb) _ (HYL.out.on hw3)).mono ?_
            rintro e u4 ⟨v8, rfl, hv8, hs4⟩
            obtain ⟨p8, q8, rfl, _, _⟩ := hv8.form
            have HV8 := Lib.hid hv8
            clear hv8
            have hw4 : Below wo.heap.size wo u4 := hw3.trans (hs4.mono hw3.size)
            have hq4 : u3.heap.size ≤ u4.heap.size := hs4.size
            go_wp2
            refine HK.out _ _ (fun _ => HS.out _ hw4) ?_
            clear HK K
            refine G_one (k := 15) rfl (by kernel_rfl) (fun K hK => ?_)
            have HK := Lib.hid hK
            clear hK
            go_wp2_with fail
            refine (HOD.out.2.2.2.1 Pd (.slice pa ps.length pb) _ (HPS.out.on hw4)).mono ?_
            rintro e u5 ⟨v9, rfl, hv9, hs5⟩
            obtain ⟨p9, q9, rfl, _, _⟩ := hv9.form
            have HV9 := Lib.hid hv9
            clear hv9
            have hw5 : Below wo.heap.size wo u5 := hw4.trans (hs5.mono hw4.size)
            have hq5 : u4.heap.size ≤ u5.heap.size := hs5.size
            go_wp2
            refine HK.out _ _ (fun _ => HS.out _ hw5) ?_
            clear HK K
            refine G_one (k := 18) rfl (by kernel_rfl) (fun K hK => ?_)
            have HK := Lib.hid hK
            clear hK
            go_wp2_with fail
            refine (HOD.out.2.2.2.2.1 Pd _ _ (HVS.out.on hw5)).mono ?_
            rintro e u6 ⟨vs10, rfl, hv10, hs6⟩
            obtain ⟨_, h4, h5, h6, h7, i4, i5, i6, i7, rfl, _, _, _, _⟩ := ex_vs hv10
            have HV10 := Lib.hid hv10
            clear hv10
            have hw6 : Below wo.heap.size wo u6 := hw5.trans (hs6.mono hw5.size)
            have hq6 : u5.heap.size ≤ u6.heap.size := hs6.size
            go_wp2
            refine HK.out _ _ (fun _ => HS.out _ hw6) ?_
            clear HK K
            refine G_pure (i := 19) (v := ?_) rfl (by kernel_rfl) (fun _ _ _ h => h) (Or.inl ⟨by rfl, fun V hV => ?_⟩) ?_
            rotate_left
            · go_simp; with_reducible rfl
            simp only [Act.put, List.setIfInBounds_toArray, List.set_cons_zero, List.set_cons_succ]
            have HN := Lib.hid (show u6.heap[u1.heap.size]? = some oz from ((hs6.block _ (heap_lt ((hs5.block _ (heap_lt ((hs4.block _ (heap_lt ((HPk.out _ (by have := heap_lt HZ.out; have := hq1; have := hq2; have := hq3; have := hq4; have := hq5; have := hq6; omega) (by have := hq1; have := hq2; have := hq3; have := hq4; have := hq5; have := hq6; omega)).trans HZ.out))).trans ((HPk.out _ (by have := heap_lt HZ.out; have := hq1; have := hq2; have := hq3; have := hq4; have := hq5; have := hq6; omega) (by have := hq1; have := hq2; have := hq3; have := hq4; have := hq5; have := hq6; omega)).trans HZ.out)))).trans ((hs4.block _ (heap_lt ((HPk.out _ (by have := heap_lt HZ.out; have := hq1; have := hq2; have := hq3; have := hq4; have := hq5; have := hq6; omega) (by have := hq1; have := hq2; have := hq3; have := hq4; have := hq5; have := hq6; omega)).trans HZ.out))).trans ((HPk.out _ (by have := heap_lt HZ.out; have := hq1; have := hq2; have := hq3; have := hq4; have := hq5; have := hq6; omega) (by have := hq1; have := hq2; have := hq3; have := hq4; have := hq5; have := hq6; omega)).trans HZ.out))))).trans ((hs5.block _ (heap_lt ((hs4.block _ (heap_lt ((HPk.out _ (by have := heap_lt HZ.out; have := hq1; have := hq2; have := hq3; have := hq4; have := hq5; have := hq6; omega) (by have := hq1; have := hq2; have := hq3; have := hq4; have := hq5; have := hq6; omega)).trans HZ.out))).trans ((HPk.out _ (by have := heap_lt HZ.out; have := hq1; have := hq2; have := hq3; have := hq4; have := hq5; have := hq6; omega) (by have := hq1; have := hq2; have := hq3; have := hq4; have := hq5; have := hq6; omega)).trans HZ.out)))).trans ((hs4.block _ (heap_lt ((HPk.out _ (by have := heap_lt HZ.out; have := hq1; have := hq2; have := hq3; have := hq4; have := hq5; have := hq6; omega) (by have := hq1; have := hq2; have := hq3; have := hq4; have := hq5; have := hq6; omega)).trans HZ.out))).trans ((HPk.out _ (by have := heap_lt HZ.out; have := hq1; have := hq2; have := hq3; have := hq4; have := hq5; have := hq6; omega) (by have := hq1; have := hq2; have := hq3; have := hq4; have := hq5; have := hq6; omega)).trans HZ.out)))))
            refine G_one (k := 21) rfl (by kernel_rfl) (fun K hK => ?_)
            have HK := Lib.hid hK
            clear hK
            have hn6 := HN.out
            rw [hoz] at hn6
            refine store_all 95 #[.int .i64 tk, .int .i64 tp, .string tn, .slice p3 vs.length q3, .slice none 0 0, .int .i64 yk, .int .i64 yp, .string yn, .slice p8 yl.length q8, .slice p9 ps.length q9, .int .i64 ek, .int .i64 ep, .string en, .int .i64 em, .slice h4 el.length i4, .slice h5 eps.length i5, .slice h6 eal.length i6, .slice h7 eds.length i7] u1.heap.size _ hn6 (by kernel_rfl) rfl (by simp [Value.oneCell']) rfl _ _ rfl rfl rfl ?_
            intro u7 hn7 ho7 hz7
            have hnb := heap_lt hn6
            have HN7 := Lib.hid hn7
            have HO7 := Lib.hid ho7
            have hzz7 := hz7.1
            have HZ7 := Lib.hid hz7
            clear hn6 hn7 ho7 hz7
            go_wp2
            refine HK.out _ _ (fun h => absurd (h.symm.trans (by kernel_rfl : _ = true)) Bool.false_ne_true) ?_
            clear HK K
            refine G_done (by kernel_rfl) ?_
            have g3 : IsTxs u7 (fun b => Own wo u7 b ∧ b ≠ u1.heap.size) (.slice p3 vs.length q3) vs := ⟨IsC.mono (fun b hb => ⟨⟨by have h1 := hb.1; have h2 := hb.2; have := hw0.size; have := hq1; have := hq2; have := hq3; have := hq4; have := hq5; have := hq6; omega, by have h1 := hb.1; have h2 := hb.2; have := hq1; have := hq2; have := hq3; have := hq4; have := hq5; have := hq6; omega⟩, by have h1 := hb.1; have h2 := hb.2; have := hq1; have := hq2; have := hq3; have := hq4; have := hq5; have := hq6; omega⟩) _ _ (IsC.stay (fun b hb _ => HO7.out b (by have h1 := hb.1; have h2 := hb.2; have := hq1; have := hq2; have := hq3; have := hq4; have := hq5; have := hq6; omega)) _ _ (HV3.out.on (bl_tr2 (bl_tr2 hs4 hs5) hs6)).out)⟩
            have g8 : IsTys u7 (fun b => Own wo u7 b ∧ b ≠ u1.heap.size) (.slice p8 yl.length q8) yl := ⟨IsC.mono (fun b hb => ⟨⟨by have h1 := hb.1; have h2 := hb.2; have := hw3.size; have := hq1; have := hq2; have := hq3; have := hq4; have := hq5; have := hq6; omega, by have h1 := hb.1; have h2 := hb.2; have := hq1; have := hq2; have := hq3; have := hq4; have := hq5; have := hq6; omega⟩, by have h1 := hb.1; have h2 := hb.2; have := hq1; have := hq2; have := hq3; have := hq4; have := hq5; have := hq6; omega⟩) _ _ (IsC.stay (fun b hb _ => HO7.out b (by have h1 := hb.1; have h2 := hb.2; have := hq1; have := hq2; have := hq3; have := hq4; have := hq5; have := hq6; omega)) _ _ (HV8.out.on (bl_tr2 hs5 hs6)).out)⟩
            have g9 : IsPas u7 (fun b => Own wo u7 b ∧ b ≠ u1.heap.size) (.slice p9 ps.length q9) ps := ⟨IsC.mono (fun b hb => ⟨⟨by have h1 := hb.1; have h2 := hb.2; have := hw4.size; have := hq1; have := hq2; have := hq3; have := hq4; have := hq5; have := hq6; omega, by have h1 := hb.1; have h2 := hb.2; have := hq1; have := hq2; have := hq3; have := hq4; have := hq5; have := hq6; omega⟩, by have h1 := hb.1; have h2 := hb.2; have := hq1; have := hq2; have := hq3; have := hq4; have := hq5; have := hq6; omega⟩) _ _ (IsC.stay (fun b hb _ => HO7.out b (by have h1 := hb.1; have h2 := hb.2; have := hq1; have := hq2; have := hq3; have := hq4; have := hq5; have := hq6; omega)) _ _ (HV9.out.on hs6).out)⟩
            have g10 : IsVs u7 (fun b => Own wo u7 b ∧ b ≠ u1.heap.size) (Ex.row (.mk ek ep en em el eps eal eds)) [.int .i64 ek, .int .i64 ep, .string en, .int .i64 em, .slice h4 el.length i4, .slice h5 eps.length i5, .slice h6 eal.length i6, .slice h7 eds.length i7] := IsVs.mono (fun b hb => ⟨⟨by have h1 := hb.1; have h2 := hb.2; have := hw5.size; have := hq1; have := hq2; have := hq3; have := hq4; have := hq5; have := hq6; omega, by have h1 := hb.1; have h2 := hb.2; have := hq1; have := hq2; have := hq3; have := hq4; have := hq5; have := hq6; omega⟩, by have h1 := hb.1; have h2 := hb.2; have := hq1; have := hq2; have := hq3; have := hq4; have := hq5; have := hq6; omega⟩) _ _ (IsVs.stay (fun b hb _ => HO7.out b (by have h1 := hb.1; have h2 := hb.2; have := hq1; have := hq2; have := hq3; have := hq4; have := hq5; have := hq6; omega)) _ _ HV10.out)
            have hnw := hw1.size
            have hb7 : Below wo.heap.size wo u7 := ⟨HZ7.out.2.1.trans hw6.os, HZ7.out.2.2.1.trans hw6.tape, HZ7.out.2.2.2.trans hw6.output, by have := hw6.size; omega, fun j hj => (HO7.out j (by omega)).trans (hw6.block j hj)⟩
            have G := Lib.hid (And.intro g3 (And.intro g8 (And.intro g9 (And.intro g10 hb7))))
            clear HN g3 g8 g9 g10 hb7
            go_wp2_with fail
            go_meet
            exact ⟨u1.heap.size, _, _, _, _, _, _, _, _, _, _, _, _, _, _, rfl, HN7.out, G.out.1, G.out.2.1, G.out.2.2.1, G.out.2.2.2.1, G.out.2.2.2.2, hnw⟩
        · have HK := Lib.hid hK
          clear hK
          go_wp2
          refine HK.out _ _ (fun _ => HS.out _ (bl_alloc _ hw0)) ?_
          clear HK K
          rw [← hoz]
          have HZ := Lib.hid (heap_alloc_new u0 oz)
          have hs1 : Below u0.heap.size u0 (u0.alloc oz) := bl_alloc _ (Below.refl _ _)
          have hw1 := bl_alloc oz hw0
          have hq1 : u0.heap.size + 1 ≤ (u0.alloc oz).heap.size := by simp
          generalize u0.alloc oz = u1 at HZ hs1 hw1 hq1 ⊢
          refine G_one (k := 6) rfl (by kernel_rfl) (fun K hK => ?_)
          have HK := Lib.hid hK
          clear hK
          go_wp2
          refine HK.out _ _ (fun _ => HS.out _ (bl_alloc _ hw1)) ?_
          clear HK K
          have HL := Lib.hid (heap_alloc_new u1 (.cells #[] 9))
          have hs2 : Below u1.heap.size u1 (u1.alloc (.cells #[] 9)) := bl_alloc _ (Below.refl _ _)
          have hw2 := bl_alloc (.cells #[] 9) hw1
          have hq2 : u1.heap.size + 1 ≤ (u1.alloc (.cells #[] 9)).heap.size := by simp
          generalize u1.alloc (.cells #[] 9) = u2 at HL hs2 hw2 hq2 ⊢
          refine G_one (k := 9) rfl (by kernel_rfl) (fun K hK => ?_)
          have HK := Lib.hid hK
          clear hK
          have hgL : u2.heap[u1.heap.size]? = some (.cells #[] 9 (0, 0)) := HL.out
          go_wp2_with (refine append_txs rfl _ _ rfl u1.heap.size rfl hgL (HTX.out.on hw2) HOD.out.1 rfl ?_; intro v3 u3 hown3 hgrow3 hat3)
          obtain ⟨p3, q3, rfl⟩ := owns_form hown3
          have hlt3 := hown3.lt
          have HV3 : Hid (IsTxs u3 (fun b => (b = u1.heap.size ∨ b = u2.heap.size) ∧ b < u3.heap.size) (.slice p3 vs.length q3) vs) := Lib.hid ⟨IsC.mono (fun b hb => ⟨by rcases hat3 with e | e <;> (rw [hb] at e; injection e with e; omega), (hlt3 b hb).2⟩) _ _ (txs_of_row hown3 (txs_sizes HTX.out)).out⟩
          have hw3 : Below wo.heap.size wo u3 := hw2.grown hgrow3 hw2.size (fun j hj => by injection hj with hj; have := hw1.size; omega)
          have hp : ∀ b : Nat, b < u2.heap.size → b ≠ u1.heap.size → u3.heap[b]? = u2.heap[b]? := fun b h1 h2 => hgrow3.block b h1 (fun e => h2 (by injection e))
          have HPk := Lib.hid hp
          have hq3 : u2.heap.size ≤ u3.heap.size := hgrow3.size
          clear hgL hown3 hgrow3 hat3 hlt3 hp
          go_wp2
          refine HK.out _ _ (fun _ => HS.out _ hw3) ?_
          clear HK K
          refine G_one (k := 12) rfl (by kernel_rfl) (fun K hK => ?_)
          have HK := Lib.hid hK
          clear hK
          go_wp2_with fail
          refine (ownT_step yk yp yn yl HOD.out.2.2.1 Pd (.slice ya yl.length yb) _ (HYL.out.on hw3)).mono ?_
          rintro e u4 ⟨v8, rfl, hv8, hs4⟩
          obtain ⟨p8, q8, rfl, _, _⟩ := hv8.form
          have HV8 := Lib.hid hv8
          clear hv8
          have hw4 : Below wo.heap.size wo u4 := hw3.trans (hs4.mono hw3.size)
          have hq4 : u3.heap.size ≤ u4.heap.size := hs4.size
          go_wp2
          refine HK.out _ _ (fun _ => HS.out _ hw4) ?_
          clear HK K
          refine G_one (k := 15) rfl (by kernel_rfl) (fun K hK => ?_)
          have HK := Lib.hid hK
          clear hK
          go_wp2_with fail
          refine (HOD.out.2.2.2.1 Pd (.slice pa ps.length pb) _ (HPS.out.on hw4)).mono ?_
          rintro e u5 ⟨v9, rfl, hv9, hs5⟩
          obtain ⟨p9, q9, rfl, _, _⟩ := hv9.form
          have HV9 := Lib.hid hv9
          clear hv9
          have hw5 : Below wo.heap.size wo u5 := hw4.trans (hs5.mono hw4.size)
          have hq5 : u4.heap.size ≤ u5.heap.size := hs5.size
          go_wp2
          refine HK.out _ _ (fun _ => HS.out _ hw5) ?_
          clear HK K
          refine G_one (k := 18) rfl (by kernel_rfl) (fun K hK => ?_)
          have HK := Lib.hid hK
          clear hK
          go_wp2_with fail
          refine (HOD.out.2.2.2.2.1 Pd _ _ (HVS.out.on hw5)).mono ?_
          rintro e u6 ⟨vs10, rfl, hv10, hs6⟩
          obtain ⟨_, h4, h5, h6, h7, i4, i5, i6, i7, rfl, _, _, _, _⟩ := ex_vs hv10
          have HV10 := Lib.hid hv10
          clear hv10
          have hw6 : Below wo.heap.size wo u6 := hw5.trans (hs6.mono hw5.size)
          have hq6 : u5.heap.size ≤ u6.heap.size := hs6.size
          go_wp2
          refine HK.out _ _ (fun _ => HS.out _ hw6) ?_
          clear HK K
          refine G_pure (i := 19) (v := ?_) rfl (by kernel_rfl) (fun _ _ _ h => h) (Or.inl ⟨by rfl, fun V hV => ?_⟩) ?_
          rotate_left
          · go_simp; with_reducible rfl
          simp only [Act.put, List.setIfInBounds_toArray, List.set_cons_zero, List.set_cons_succ]
          have HN := Lib.hid (show u6.heap[u0.heap.size]? = some oz from ((hs6.block _ (heap_lt ((hs5.block _ (heap_lt ((hs4.block _ (heap_lt ((HPk.out _ (by have := heap_lt HZ.out; have := hq1; have := hq2; have := hq3; have := hq4; have := hq5; have := hq6; omega) (by have := hq1; have := hq2; have := hq3; have := hq4; have := hq5; have := hq6; omega)).trans ((hs2.block _ (heap_lt HZ.out)).trans HZ.out)))).trans ((HPk.out _ (by have := heap_lt HZ.out; have := hq1; have := hq2; have := hq3; have := hq4; have := hq5; have := hq6; omega) (by have := hq1; have := hq2; have := hq3; have := hq4; have := hq5; have := hq6; omega)).trans ((hs2.block _ (heap_lt HZ.out)).trans HZ.out))))).trans ((hs4.block _ (heap_lt ((HPk.out _ (by have := heap_lt HZ.out; have := hq1; have := hq2; have := hq3; have := hq4; have := hq5; have := hq6; omega) (by have := hq1; have := hq2; have := hq3; have := hq4; have := hq5; have := hq6; omega)).trans ((hs2.block _ (heap_lt HZ.out)).trans HZ.out)))).trans ((HPk.out _ (by have := heap_lt HZ.out; have := hq1; have := hq2; have := hq3; have := hq4; have := hq5; have := hq6; omega) (by have := hq1; have := hq2; have := hq3; have := hq4; have := hq5; have := hq6; omega)).trans ((hs2.block _ (heap_lt HZ.out)).trans HZ.out)))))).trans ((hs5.block _ (heap_lt ((hs4.block _ (heap_lt ((HPk.out _ (by have := heap_lt HZ.out; have := hq1; have := hq2; have := hq3; have := hq4; have := hq5; have := hq6; omega) (by have := hq1; have := hq2; have := hq3; have := hq4; have := hq5; have := hq6; omega)).trans ((hs2.block _ (heap_lt HZ.out)).trans HZ.out)))).trans ((HPk.out _ (by have := heap_lt HZ.out; have := hq1; have := hq2; have := hq3; have := hq4; have := hq5; have := hq6; omega) (by have := hq1; have := hq2; have := hq3; have := hq4; have := hq5; have := hq6; omega)).trans ((hs2.block _ (heap_lt HZ.out)).trans HZ.out))))).trans ((hs4.block _ (heap_lt ((HPk.out _ (by have := heap_lt HZ.out; have := hq1; have := hq2; have := hq3; have := hq4; have := hq5; have := hq6; omega) (by have := hq1; have := hq2; have := hq3; have := hq4; have := hq5; have := hq6; omega)).trans ((hs2.block _ (heap_lt HZ.out)).trans HZ.out)))).trans ((HPk.out _ (by have := heap_lt HZ.out; have := hq1; have := hq2; have := hq3; have := hq4; have := hq5; have := hq6; omega) (by have := hq1; have := hq2; have := hq3; have := hq4; have := hq5; have := hq6; omega)).trans ((hs2.block _ (heap_lt HZ.out)).trans HZ.out))))))
          refine G_one (k := 21) rfl (by kernel_rfl) (fun K hK => ?_)
          have HK := Lib.hid hK
          clear hK
          have hn6 := HN.out
          rw [hoz] at hn6
          refine store_all 95 #[.int .i64 tk, .int .i64 tp, .string tn, .slice p3 vs.length q3, .slice none 0 0, .int .i64 yk, .int .i64 yp, .string yn, .slice p8 yl.length q8, .slice p9 ps.length q9, .int .i64 ek, .int .i64 ep, .string en, .int .i64 em, .slice h4 el.length i4, .slice h5 eps.length i5, .slice h6 eal.length i6, .slice h7 eds.length i7] u0.heap.size _ hn6 (by kernel_rfl) rfl (by simp [Value.oneCell']) rfl _ _ rfl rfl rfl ?_
          intro u7 hn7 ho7 hz7
          have hnb := heap_lt hn6
          have HN7 := Lib.hid hn7
          have HO7 := Lib.hid ho7
          have hzz7 := hz7.1
          have HZ7 := Lib.hid hz7
          clear hn6 hn7 ho7 hz7
          go_wp2
          refine HK.out _ _ (fun h => absurd (h.symm.trans (by kernel_rfl : _ = true)) Bool.false_ne_true) ?_
          clear HK K
          refine G_done (by kernel_rfl) ?_
          have g3 : IsTxs u7 (fun b => Own wo u7 b ∧ b ≠ u0.heap.size) (.slice p3 vs.length q3) vs := ⟨IsC.mono (fun b hb => ⟨⟨by have h1 := hb.1; have h2 := hb.2; have := hw1.size; have := hq1; have := hq2; have := hq3; have := hq4; have := hq5; have := hq6; omega, by have h1 := hb.1; have h2 := hb.2; have := hq1; have := hq2; have := hq3; have := hq4; have := hq5; have := hq6; omega⟩, by have h1 := hb.1; have h2 := hb.2; have := hq1; have := hq2; have := hq3; have := hq4; have := hq5; have := hq6; omega⟩) _ _ (IsC.stay (fun b hb _ => HO7.out b (by have h1 := hb.1; have h2 := hb.2; have := hq1; have := hq2; have := hq3; have := hq4; have := hq5; have := hq6; omega)) _ _ (HV3.out.on (bl_tr2 (bl_tr2 hs4 hs5) hs6)).out)⟩
          have g8 : IsTys u7 (fun b => Own wo u7 b ∧ b ≠ u0.heap.size) (.slice p8 yl.length q8) yl := ⟨IsC.mono (fun b hb => ⟨⟨by have h1 := hb.1; have h2 := hb.2; have := hw3.size; have := hq1; have := hq2; have := hq3; have := hq4; have := hq5; have := hq6; omega, by have h1 := hb.1; have h2 := hb.2; have := hq1; have := hq2; have := hq3; have := hq4; have := hq5; have := hq6; omega⟩, by have h1 := hb.1; have h2 := hb.2; have := hq1; have := hq2; have := hq3; have := hq4; have := hq5; have := hq6; omega⟩) _ _ (IsC.stay (fun b hb _ => HO7.out b (by have h1 := hb.1; have h2 := hb.2; have := hq1; have := hq2; have := hq3; have := hq4; have := hq5; have := hq6; omega)) _ _ (HV8.out.on (bl_tr2 hs5 hs6)).out)⟩
          have g9 : IsPas u7 (fun b => Own wo u7 b ∧ b ≠ u0.heap.size) (.slice p9 ps.length q9) ps := ⟨IsC.mono (fun b hb => ⟨⟨by have h1 := hb.1; have h2 := hb.2; have := hw4.size; have := hq1; have := hq2; have := hq3; have := hq4; have := hq5; have := hq6; omega, by have h1 := hb.1; have h2 := hb.2; have := hq1; have := hq2; have := hq3; have := hq4; have := hq5; have := hq6; omega⟩, by have h1 := hb.1; have h2 := hb.2; have := hq1; have := hq2; have := hq3; have := hq4; have := hq5; have := hq6; omega⟩) _ _ (IsC.stay (fun b hb _ => HO7.out b (by have h1 := hb.1; have h2 := hb.2; have := hq1; have := hq2; have := hq3; have := hq4; have := hq5; have := hq6; omega)) _ _ (HV9.out.on hs6).out)⟩
          have g10 : IsVs u7 (fun b => Own wo u7 b ∧ b ≠ u0.heap.size) (Ex.row (.mk ek ep en em el eps eal eds)) [.int .i64 ek, .int .i64 ep, .string en, .int .i64 em, .slice h4 el.length i4, .slice h5 eps.length i5, .slice h6 eal.length i6, .slice h7 eds.length i7] := IsVs.mono (fun b hb => ⟨⟨by have h1 := hb.1; have h2 := hb.2; have := hw5.size; have := hq1; have := hq2; have := hq3; have := hq4; have := hq5; have := hq6; omega, by have h1 := hb.1; have h2 := hb.2; have := hq1; have := hq2; have := hq3; have := hq4; have := hq5; have := hq6; omega⟩, by have h1 := hb.1; have h2 := hb.2; have := hq1; have := hq2; have := hq3; have := hq4; have := hq5; have := hq6; omega⟩) _ _ (IsVs.stay (fun b hb _ => HO7.out b (by have h1 := hb.1; have h2 := hb.2; have := hq1; have := hq2; have := hq3; have := hq4; have := hq5; have := hq6; omega)) _ _ HV10.out)
          have hnw := hw0.size
          have hb7 : Below wo.heap.size wo u7 := ⟨HZ7.out.2.1.trans hw6.os, HZ7.out.2.2.1.trans hw6.tape, HZ7.out.2.2.2.trans hw6.output, by have := hw6.size; omega, fun j hj => (HO7.out j (by omega)).trans (hw6.block j hj)⟩
          have G := Lib.hid (And.intro g3 (And.intro g8 (And.intro g9 (And.intro g10 hb7))))
          clear HN g3 g8 g9 g10 hb7
          go_wp2_with fail
          go_meet
          exact ⟨u0.heap.size, _, _, _, _, _, _, _, _, _, _, _, _, _, _, rfl, HN7.out, G.out.1, G.out.2.1, G.out.2.2.1, G.out.2.2.2.1, G.out.2.2.2.2, hnw⟩
      case rest =>
        obtain ⟨N, p3, p8, p9, h4, h5, h6, h7, q3, q8, q9, i4, i5, i6, i7, rfl, hN, g3, g8, g9, g10, hbc, hNo⟩ := hcut
        have hNlt := heap_lt hN
        have hMN : M < N := by have := heap_lt HWO.out; omega
        have HMc := Lib.hid ((hbc.block _ (heap_lt HWO.out)).trans HWO.out)
        have hMlt := heap_lt HWO.out
        have HNc := Lib.hid hN
        have G3 := Lib.hid g3
        have G8 := Lib.hid g8
        have G9 := Lib.hid g9
        have G10 := Lib.hid g10
        clear hN g3 g8 g9 g10 e0 e1 e2 e3 e5 e6 e7 e8 e9 e10 e11 e12 e13 e14 e15 e16 e17
        go_wp2_with fail
        go_loopw [7] (fun iv wr => ∃ (k2 : Nat) (yv : Value) (vals2 : List Value), k2 ≤ cs.length ∧ iv = .int .i64 k2 ∧ Hid (wr.heap[N]? = some (.cells #[.int .i64 tk, .int .i64 tp, .string tn, .slice p3 vs.length q3, yv, .int .i64 yk, .int .i64 yp, .string yn, .slice p8 yl.length q8, .slice p9 ps.length q9, .int .i64 ek, .int .i64 ep, .string en, .int .i64 em, .slice h4 el.length i4, .slice h5 eps.length i5, .slice h6 eal.length i6, .slice h7 eds.length i7] 95 (0, 0))) ∧ wr.ownsRow wc.heap.size 99 3 yv k2 vals2 ∧ Hid (Gath Co.row 3 wc.heap.size wr yv cs k2 vals2) ∧ Hid (∀ b : Nat, b < wc.heap.size → b ≠ N → wr.heap[b]? = wc.heap[b]?) ∧ Below wo.heap.size wo wr ∧ wc.heap.size ≤ wr.heap.size) (fun iv _ => cs.length - (intOf iv).toNat)
        case atStart => exact ⟨0, _, [], Nat.zero_le _, rfl, HNc, World.ownsRow_nil _ _ _ _, Lib.hid (fun j t hj => by omega), Lib.hid (fun _ _ _ => rfl), hbc, Nat.le_refl _⟩
        case round =>
          obtain ⟨k2, yv, vals2, hk2, rfl, HX, hownc, HGc, HKp, hbr, hszr⟩ := hrel
          have hwS : wr.heap[M]? = some _ := (HKp.out _ (by omega) (by omega)).trans HMc.out
          by_cases hlt2 : k2 < cs.length
          · have k2i : (k2 : Int) < cs.length := by omega
            obtain ⟨cc, hcc⟩ : ∃ cc, cs[k2]? = some cc := ⟨cs[k2], List.getElem?_eq_getElem hlt2⟩
            have hb0r : Below w0.heap.size w0 wr := hbo.trans (hbr.mono hbo.size)
            obtain ⟨a2, rfl, _, hco⟩ := HCT.out.at hcc
            obtain ⟨d0, d1, d1', da, db, d2, _, _, hca⟩ := (hco.on hb0r).cells
            have HOC := Lib.hid (HOD.out.2.2.2.2.2 cc (List.mem_of_getElem? hcc))
            have HTc := Lib.hid hcc
            have HCA := Lib.hid hca
            have cN : wr.cell? ⟨N, 4, none⟩ = some yv := by rw [Lib.cell_of_heap HX.out]; rfl
            have cS : wr.cell? ⟨M, 4, none⟩ = some (.slice (some a2) cs.length cb) := by rw [Lib.cell_of_heap hwS]; rfl
            have HF : Hid (∀ V : World, Below wr.heap.size wr V → V.cell? ⟨N, 4, none⟩ = some (yv) ∧ V.cell? ⟨M, 4, none⟩ = some (.slice (some a2) cs.length cb) ∧ V.cell? (a2.add (k2 * 3)) = some (.int .i64 cc.at_) ∧ V.cell? ⟨(a2.add (k2 * 3)).block, (a2.add (k2 * 3)).off + 1, none⟩ = some (.string cc.name) ∧ V.cell? ⟨(a2.add (k2 * 3)).block, (a2.add (k2 * 3)).off + 2, none⟩ = some (.slice da cc.args.length db)) := Lib.hid (fun V hV => ⟨(hV.cell (Lib.lt_of_cell cN)).trans cN, (hV.cell (Lib.lt_of_cell cS)).trans cS, (hV.cell (Lib.lt_of_cell d0)).trans d0, (hV.cell (Lib.lt_of_cell d1)).trans d1, (hV.cell (Lib.lt_of_cell d2)).trans d2⟩)
            clear hco hca hcc d0 d1 d2 cN hwS
            go_wp2
            clear cS
            have hw0 : Below wr.heap.size wr wr.drew := (Below.refl _ _).drew
            refine wp_region_gate (fun V => V.cell? ⟨N, 4, none⟩ = some (yv) ∧ V.cell? ⟨M, 4, none⟩ = some (.slice (some a2) cs.length cb) ∧ V.cell? (a2.add (k2 * 3)) = some (.int .i64 cc.at_) ∧ V.cell? ⟨(a2.add (k2 * 3)).block, (a2.add (k2 * 3)).off + 1, none⟩ = some (.string cc.name) ∧ V.cell? ⟨(a2.add (k2 * 3)).block, (a2.add (k2 * 3)).off + 2, none⟩ = some (.slice da cc.args.length db)) 23 (by kernel_rfl) (HF.out _ hw0) ?_
            change AtG _ _ _ _ _ _ _ _ _ wr.drew
            have hz0' : wr.drew.heap.size = wr.heap.size := rfl
            have hh0 : ∀ b : Nat, wr.drew.heap[b]? = wr.heap[b]? := fun b => rfl
            have HH0 := Lib.hid hh0
            clear hh0
            generalize wr.drew = W0 at hw0 hz0' HH0 ⊢
            refine G_take (i := 0) (v := ?_) rfl (by kernel_rfl) (fun _ _ _ h => h) (Or.inl ⟨by rfl, fun V hV => ?_⟩) ?_
            rotate_left
            · obtain ⟨cN, cS, d0, d1, d2⟩ := hV; go_simp; with_reducible rfl
            simp only [Act.put, List.setIfInBounds_toArray, List.set_cons_zero, List.set_cons_succ]
            refine G_take (i := 1) (v := ?_) rfl (by kernel_rfl) (fun _ _ _ h => h) (Or.inl ⟨by rfl, fun V hV => ?_⟩) ?_
            rotate_left
            · obtain ⟨cN, cS, d0, d1, d2⟩ := hV; go_simp; with_reducible rfl
            simp only [Act.put, List.setIfInBounds_toArray, List.set_cons_zero, List.set_cons_succ]
            refine G_take (i := 2) (v := ?_) rfl (by kernel_rfl) (fun _ _ _ h => h) (Or.inl ⟨by rfl, fun V hV => ?_⟩) ?_
            rotate_left
            · obtain ⟨cN, cS, d0, d1, d2⟩ := hV; go_simp; with_reducible rfl
            simp only [Act.put, List.setIfInBounds_toArray, List.set_cons_zero, List.set_cons_succ]
            refine G_take (i := 3) (v := ?_) rfl (by kernel_rfl) (fun _ _ _ h => h) (Or.inl ⟨by rfl, fun V hV => ?_⟩) ?_
            rotate_left
            · obtain ⟨cN, cS, d0, d1, d2⟩ := hV; go_simp; with_reducible rfl
            simp only [Act.put, List.setIfInBounds_toArray, List.set_cons_zero, List.set_cons_succ]
            refine G_take (i := 4) (v := ?_) rfl (by kernel_rfl) (fun _ _ _ h => h) (Or.inl ⟨by rfl, fun V hV => ?_⟩) ?_
            rotate_left
            · obtain ⟨cN, cS, d0, d1, d2⟩ := hV; go_simp; with_reducible rfl
            simp only [Act.put, List.setIfInBounds_toArray, List.set_cons_zero, List.set_cons_succ]
            refine G_take (i := 5) (v := ?_) rfl (by kernel_rfl) (fun _ _ _ h => h) (Or.inl ⟨by rfl, fun V hV => ?_⟩) ?_
            rotate_left
            · obtain ⟨cN, cS, d0, d1, d2⟩ := hV; go_simp; with_reducible rfl
            simp only [Act.put, List.setIfInBounds_toArray, List.set_cons_zero, List.set_cons_succ]
            refine G_take (i := 6) (v := ?_) rfl (by kernel_rfl) (fun _ _ _ h => h) (Or.inl ⟨by rfl, fun V hV => ?_⟩) ?_
            rotate_left
            · obtain ⟨cN, cS, d0, d1, d2⟩ := hV; go_simp; with_reducible rfl
            simp only [Act.put, List.setIfInBounds_toArray, List.set_cons_zero, List.set_cons_succ]
            refine G_take (i := 7) (v := ?_) rfl (by kernel_rfl) (fun _ _ _ h => h) (Or.inl ⟨by rfl, fun V hV => ?_⟩) ?_
            rotate_left
            · obtain ⟨cN, cS, d0, d1, d2⟩ := hV; go_simp; with_reducible rfl
            simp only [Act.put, List.setIfInBounds_toArray, List.set_cons_zero, List.set_cons_succ]
            refine G_take (i := 8) (v := ?_) rfl (by kernel_rfl) (fun _ _ _ h => h) (Or.inl ⟨by rfl, fun V hV => ?_⟩) ?_
            rotate_left
            · obtain ⟨cN, cS, d0, d1, d2⟩ := hV; go_simp; with_reducible rfl
            simp only [Act.put, List.setIfInBounds_toArray, List.set_cons_zero, List.set_cons_succ]
            refine G_take (i := 9) (v := ?_) rfl (by kernel_rfl) (fun _ _ _ h => h) (Or.inl ⟨by rfl, fun V hV => ?_⟩) ?_
            rotate_left
            · obtain ⟨cN, cS, d0, d1, d2⟩ := hV; go_simp; with_reducible rfl
            simp only [Act.put, List.setIfInBounds_toArray, List.set_cons_zero, List.set_cons_succ]
            refine G_take (i := 10) (v := ?_) rfl (by kernel_rfl) (fun _ _ _ h => h) (Or.inl ⟨by rfl, fun V hV => ?_⟩) ?_
            rotate_left
            · obtain ⟨cN, cS, d0, d1, d2⟩ := hV; go_simp; with_reducible rfl
            simp only [Act.put, List.setIfInBounds_toArray, List.set_cons_zero, List.set_cons_succ]
            refine G_take (i := 11) (v := ?_) rfl (by kernel_rfl) (fun _ _ _ h => h) (Or.inl ⟨by rfl, fun V hV => ?_⟩) ?_
            rotate_left
            · obtain ⟨cN, cS, d0, d1, d2⟩ := hV; go_simp; with_reducible rfl
            simp only [Act.put, List.setIfInBounds_toArray, List.set_cons_zero, List.set_cons_succ]
            refine G_take (i := 12) (v := ?_) rfl (by kernel_rfl) (fun _ _ _ h => h) (Or.inl ⟨by rfl, fun V hV => ?_⟩) ?_
            rotate_left
            · obtain ⟨cN, cS, d0, d1, d2⟩ := hV; go_simp; with_reducible rfl
            simp only [Act.put, List.setIfInBounds_toArray, List.set_cons_zero, List.set_cons_succ]
            refine G_take (i := 13) (v := ?_) rfl (by kernel_rfl) (fun _ _ _ h => h) (Or.inl ⟨by rfl, fun V hV => ?_⟩) ?_
            rotate_left
            · obtain ⟨cN, cS, d0, d1, d2⟩ := hV; go_simp; with_reducible rfl
            simp only [Act.put, List.setIfInBounds_toArray, List.set_cons_zero, List.set_cons_succ]
            refine G_take (i := 14) (v := ?_) rfl (by kernel_rfl) (fun _ _ _ h => h) (Or.inl ⟨by rfl, fun V hV => ?_⟩) ?_
            rotate_left
            · obtain ⟨cN, cS, d0, d1, d2⟩ := hV; go_simp; with_reducible rfl
            simp only [Act.put, List.setIfInBounds_toArray, List.set_cons_zero, List.set_cons_succ]
            refine G_take (i := 15) (v := ?_) rfl (by kernel_rfl) (fun _ _ _ h => h) (Or.inl ⟨by rfl, fun V hV => ?_⟩) ?_
            rotate_left
            · obtain ⟨cN, cS, d0, d1, d2⟩ := hV; go_simp; with_reducible rfl
            simp only [Act.put, List.setIfInBounds_toArray, List.set_cons_zero, List.set_cons_succ]
            refine G_take (i := 16) (v := ?_) rfl (by kernel_rfl) (fun _ _ _ h => h) (Or.inl ⟨by rfl, fun V hV => ?_⟩) ?_
            rotate_left
            · obtain ⟨cN, cS, d0, d1, d2⟩ := hV; go_simp; with_reducible rfl
            simp only [Act.put, List.setIfInBounds_toArray, List.set_cons_zero, List.set_cons_succ]
            refine G_take (i := 17) (v := ?_) rfl (by kernel_rfl) (fun _ _ _ h => h) (Or.inl ⟨by rfl, fun V hV => ?_⟩) ?_
            rotate_left
            · obtain ⟨cN, cS, d0, d1, d2⟩ := hV; go_simp; with_reducible rfl
            simp only [Act.put, List.setIfInBounds_toArray, List.set_cons_zero, List.set_cons_succ]
            refine G_take (i := 18) (v := ?_) rfl (by kernel_rfl) (fun _ _ _ h => h) (Or.inl ⟨by rfl, fun V hV => ?_⟩) ?_
            rotate_left
            · obtain ⟨cN, cS, d0, d1, d2⟩ := hV; go_simp; with_reducible rfl
            simp only [Act.put, List.setIfInBounds_toArray, List.set_cons_zero, List.set_cons_succ]
            refine G_take (i := 19) (v := ?_) rfl (by kernel_rfl) (fun _ _ _ h => h) (Or.inl ⟨by rfl, fun V hV => ?_⟩) ?_
            rotate_left
            · obtain ⟨cN, cS, d0, d1, d2⟩ := hV; go_simp; with_reducible rfl
            simp only [Act.put, List.setIfInBounds_toArray, List.set_cons_zero, List.set_cons_succ]
            refine G_one (k := 20) rfl (by kernel_rfl) (fun K hK => ?_)
            have HK := Lib.hid hK
            clear hK
            go_wp2_with fail
            refine (HOC.out Pd _ W0 (HCA.out.on hw0)).mono ?_
            rintro e W1 ⟨vp', rfl, hvp', hb1'⟩
            obtain ⟨j4, j5, rfl, _, _⟩ := hvp'.form
            have hw1 : Below wr.heap.size wr W1 := hw0.trans (hb1'.mono hw0.size)
            have HVS' : Hid (IsVs W1 (Own W0 W1) (Co.row cc) [.int .i64 cc.at_, .string cc.name, .slice j4 cc.args.length j5]) := Lib.hid (by
              unfold Co.row
              exact ⟨_, _, rfl, (by unfold IsC; rfl), _, _, rfl, (by unfold IsC; exact ⟨rfl, d1'⟩), _, _, rfl, hvp'.out, rfl⟩)
            clear hvp'
            go_wp2
            refine HK.out _ _ (fun _ => HF.out _ hw1) ?_
            clear HK K
            refine G_pure (i := 21) (v := ?_) rfl (by kernel_rfl) (fun _ _ _ h => h) (Or.inl ⟨by rfl, fun V hV => ?_⟩) ?_
            rotate_left
            · go_simp; with_reducible rfl
            simp only [Act.put, List.setIfInBounds_toArray, List.set_cons_zero, List.set_cons_succ]
            refine G_one (k := 22) rfl (by kernel_rfl) (fun K hK => ?_)
            have HK := Lib.hid hK
            clear hK
            go_wp2
            refine HK.out _ _ (fun _ => HF.out _ (bl_alloc _ hw1)) ?_
            clear HK K
            refine G_one (k := 23) rfl (by kernel_rfl) (fun K hK => ?_)
            have HK := Lib.hid hK
            clear hK
            have hown1 : W1.ownsRow wc.heap.size 99 3 yv k2 vals2 := owns_move hownc (fun b _ hb => (hb1'.block b (by omega)).trans (HH0.out b))
            have hsz1 := hw1.size
            have hlen1 := hown1.1
            have hck := HOD.out.2.1
            go_wp2_with (at_builtin; refine wpList_append_own_at _ rfl _ _ 93 rfl wc.heap.size 99 j0 _ 3 48 Tryz.underlying93 hj hj0 hj1 hj2 rfl (by decide) _ _ _ rfl (hown1.alloc _) ⟨W1.heap.size, 0, none⟩ 1 1 [.int .i64 cc.at_, .string cc.name, .slice j4 cc.args.length j5] rfl rfl (cells_new _ [.int .i64 cc.at_, .string cc.name, .slice j4 cc.args.length j5] _) (by simp [Value.oneCell']) (by unfold maxLen; omega) (by omega) (by simp; omega) ?_; intro v2' W2 hown2 hgrow _ hat)
            have hgrow' : (W1.alloc (.cells #[.int .i64 cc.at_, .string cc.name, .slice j4 cc.args.length j5] 99)).grownBy W2 yv.ownBlock := hgrow
            have hat' : v2'.ownBlock = yv.ownBlock ∨ v2'.ownBlock = some (W1.alloc (.cells #[.int .i64 cc.at_, .string cc.name, .slice j4 cc.args.length j5] 99)).heap.size := hat
            have hG0 : Gath Co.row 3 wc.heap.size W0 yv cs k2 vals2 := HGc.out.move (fun b _ _ => HH0.out b) hz0'
            have HG2 := Lib.hid (hG0.next (by omega) HTc.out hlen1 rfl HVS'.out (fun g hg => by have := (hownc.lt g hg).2; omega) hb1' hgrow' hat')
            have hkeep : ∀ b : Nat, b < wc.heap.size → W2.heap[b]? = wr.heap[b]? := fun b hb => by
              rw [hgrow'.block b (by simp; omega) (fun e => by have := (hownc.lt b e.symm).1; omega), Below.heap_alloc _ _ _ (by omega), hb1'.block b (by omega)]
              exact HH0.out b
            have HKP := Lib.hid hkeep
            have hsz2 : W1.heap.size + 1 ≤ W2.heap.size := by have := hgrow'.size; simpa using this
            have n2 : W2.heap[N]? = some (.cells #[.int .i64 tk, .int .i64 tp, .string tn, .slice p3 vs.length q3, yv, .int .i64 yk, .int .i64 yp, .string yn, .slice p8 yl.length q8, .slice p9 ps.length q9, .int .i64 ek, .int .i64 ep, .string en, .int .i64 em, .slice h4 el.length i4, .slice h5 eps.length i5, .slice h6 eal.length i6, .slice h7 eds.length i7] 95 (0, 0)) := (hkeep N hNlt).trans HX.out
            have hb2 : Below wo.heap.size wo W2 := ((hbr.trans (hw1.mono hbr.size)).alloc (by have := hbr.size; omega) _).grown hgrow' (by simp; have := hbr.size; omega) (fun j hj => by have := (hownc.lt j hj).1; have := hbc.size; omega)
            clear hgrow hgrow' hat hat' hownc hown1 hG0 hkeep
            go_wp2
            refine HK.out _ _ (fun h => absurd (h.symm.trans (by kernel_rfl : _ = true)) Bool.false_ne_true) ?_
            clear HK K
            refine G_one (k := 24) rfl (by kernel_rfl) (fun K hK => ?_)
            have HK := Lib.hid hK
            clear hK
            go_wp2
            refine HK.out _ _ (fun h => absurd (h.symm.trans (by kernel_rfl : _ = true)) Bool.false_ne_true) ?_
            clear HK K
            obtain ⟨r4, s4, rfl⟩ := owns_form hown2
            refine G_one (k := 25) rfl (by kernel_rfl) (fun K hK => ?_)
            have HK := Lib.hid hK
            clear hK
            have cN2 : W2.cell? ⟨N, 4, none⟩ = some yv := by rw [Lib.cell_of_heap n2]; rfl
            have fN2 : W2.frozen? ⟨N, 4, none⟩ = false := Lib.frozen_of_heap n2 4
            have n3 : (W2.setCell ⟨N, 4, none⟩ (.slice r4 (k2 + 1) s4)).heap[N]? = some (.cells #[.int .i64 tk, .int .i64 tp, .string tn, .slice p3 vs.length q3, .slice r4 (k2 + 1) s4, .int .i64 yk, .int .i64 yp, .string yn, .slice p8 yl.length q8, .slice p9 ps.length q9, .int .i64 ek, .int .i64 ep, .string en, .int .i64 em, .slice h4 el.length i4, .slice h5 eps.length i5, .slice h6 eal.length i6, .slice h7 eds.length i7] 95 (0, 0)) := heap_setCell_same _ N 4 _ _ (.slice r4 (k2 + 1) s4) n2
            have HN3 := Lib.hid n3
            have ho3 : ∀ b : Nat, b ≠ N → (W2.setCell ⟨N, 4, none⟩ (.slice r4 (k2 + 1) s4)).heap[b]? = W2.heap[b]? := fun b hb => heap_setCell_other _ _ _ _ hb
            have HO3 := Lib.hid ho3
            have hz3 : (W2.setCell ⟨N, 4, none⟩ (.slice r4 (k2 + 1) s4)).heap.size = W2.heap.size := by simp
            have hb3 := hb2.setCell (p := ⟨N, 4, none⟩) hNo (.slice r4 (k2 + 1) s4)
            clear n2 n3 ho3
            go_wp2
            generalize W2.setCell ⟨N, 4, none⟩ (.slice r4 (k2 + 1) s4) = W3 at HN3 HO3 hz3 hb3 ⊢
            refine HK.out _ _ (fun h => absurd (h.symm.trans (by kernel_rfl : _ = true)) Bool.false_ne_true) ?_
            clear HK K cN2 fN2
            refine G_done (by kernel_rfl) ?_
            have hown3 : W3.ownsRow wc.heap.size 99 3 (.slice r4 (k2 + 1) s4) (k2 + 1) (vals2 ++ [.int .i64 cc.at_, .string cc.name, .slice j4 cc.args.length j5]) := owns_move hown2 (fun b hb _ => HO3.out b (by omega))
            have HG3 := Lib.hid (HG2.out.move (fun b hb _ => HO3.out b (by omega)) hz3)
            have HKp3 : Hid (∀ b : Nat, b < wc.heap.size → b ≠ N → W3.heap[b]? = wc.heap[b]?) := Lib.hid (fun b hb hbN => (HO3.out b hbN).trans ((HKP.out b hb).trans (HKp.out b hb hbN)))
            clear hown2
            go_wp2
            go_roundw
            case rel => exact ⟨k2 + 1, _, _, by omega, by go_num, HN3, hown3, HG3, HKp3, hb3, by omega⟩
            case measure => simp [intOf]; omega
          · have hkk : k2 = cs.length := by omega
            have k2i : ¬ (k2 : Int) < cs.length := by omega
            subst hkk
            have cS : wr.cell? ⟨M, 4, none⟩ = some (.slice ca cs.length cb) := by rw [Lib.cell_of_heap hwS]; rfl
            have HDc := Lib.hid (HGc.out.done hownc)
            obtain ⟨z4, z5, rfl⟩ := owns_form hownc
            have hb0r : Below w0.heap.size w0 wr := hbo.trans (hbr.mono hbo.size)
            have hz0r := hb0r.size
            have hzo := hbo.size
            have HLB := Lib.hid (load_block wr N [.int .i64 tk, .int .i64 tp, .string tn, .slice p3 vs.length q3, .slice z4 cs.length z5, .int .i64 yk, .int .i64 yp, .string yn, .slice p8 yl.length q8, .slice p9 ps.length q9, .int .i64 ek, .int .i64 ep, .string en, .int .i64 em, .slice h4 el.length i4, .slice h5 eps.length i5, .slice h6 eal.length i6, .slice h7 eds.length i7] 95 HX.out und_de2 (by kernel_rfl))
            have hownr : wr.ownsRow w.heap.size 95 18 xv k vals := owns_move hown (fun b _ hb => hb0r.block b hb)
            have hsl : ∀ b : Nat, b < wc.heap.size → b ≠ N → wr.heap[b]? = wc.heap[b]? := HKp.out
            have f3 : IsTxs wr (Own w0 wr) (.slice p3 vs.length q3) vs := ⟨IsC.mono (fun b hb => ⟨by have := hb.1.1; omega, by have := hb.1.2; omega⟩) _ _ (IsC.stay (fun b hb _ => hsl b hb.1.2 hb.2) _ _ G3.out.out)⟩
            have f8 : IsTys wr (Own w0 wr) (.slice p8 yl.length q8) yl := ⟨IsC.mono (fun b hb => ⟨by have := hb.1.1; omega, by have := hb.1.2; omega⟩) _ _ (IsC.stay (fun b hb _ => hsl b hb.1.2 hb.2) _ _ G8.out.out)⟩
            have f9 : IsPas wr (Own w0 wr) (.slice p9 ps.length q9) ps := ⟨IsC.mono (fun b hb => ⟨by have := hb.1.1; omega, by have := hb.1.2; omega⟩) _ _ (IsC.stay (fun b hb _ => hsl b hb.1.2 hb.2) _ _ G9.out.out)⟩
            have f10 : IsVs wr (Own w0 wr) (Ex.row (.mk ek ep en em el eps eal eds)) [.int .i64 ek, .int .i64 ep, .string en, .int .i64 em, .slice h4 el.length i4, .slice h5 eps.length i5, .slice h6 eal.length i6, .slice h7 eds.length i7] := IsVs.mono (fun b hb => ⟨by have := hb.1.1; omega, by have := hb.1.2; omega⟩) _ _ (IsVs.stay (fun b hb _ => hsl b hb.1.2 hb.2) _ _ G10.out)
            have f4 : IsCos wr (Own w0 wr) (.slice z4 cs.length z5) cs := ⟨IsC.mono (fun b hb => ⟨by have := hb.1; have := hbc.size; omega, by have := hb.2; omega⟩) _ _ HDc.out⟩
            have HVS2 : Hid (IsVs wr (Own w0 wr) (De.row (.mk tk tp tn vs cs (.mk yk yp yn yl) ps (.mk ek ep en em el eps eal eds))) [.int .i64 tk, .int .i64 tp, .string tn, .slice p3 vs.length q3, .slice z4 cs.length z5, .int .i64 yk, .int .i64 yp, .string yn, .slice p8 yl.length q8, .slice p9 ps.length q9, .int .i64 ek, .int .i64 ep, .string en, .int .i64 em, .slice h4 el.length i4, .slice h5 eps.length i5, .slice h6 eal.length i6, .slice h7 eds.length i7]) := Lib.hid (de_vs_mk htn hyn f3 f4 f8 f9 f10)
            have hlen1 := hownr.1
            have hzb : w.heap.size ≤ w0.heap.size := hbw.size
            have hbwr := hbw.trans (hb0r.mono hbw.size)
            clear hwS hownc HGc HX f3 f4 f8 f9 f10 hsl
            go_wp2_with (first
              | (refine wpList_load_any rfl 95 _ rfl ⟨N, 0, none⟩ rfl #[.int .i64 tk, .int .i64 tp, .string tn, .slice p3 vs.length q3, .slice z4 cs.length z5, .int .i64 yk, .int .i64 yp, .string yn, .slice p8 yl.length q8, .slice p9 ps.length q9, .int .i64 ek, .int .i64 ep, .string en, .int .i64 em, .slice h4 el.length i4, .slice h5 eps.length i5, .slice h6 eal.length i6, .slice h7 eds.length i7] HLB.out ?_)
              | (at_builtin; refine wpList_append_own_at _ rfl _ _ 51 rfl w.heap.size 95 i0 _ 18 296 Tryz.underlying51 hi hz0 hz1 hz2 rfl (by decide) _ _ _ rfl (hownr.alloc _) ⟨wr.heap.size, 0, none⟩ 1 1 [.int .i64 tk, .int .i64 tp, .string tn, .slice p3 vs.length q3, .slice z4 cs.length z5, .int .i64 yk, .int .i64 yp, .string yn, .slice p8 yl.length q8, .slice p9 ps.length q9, .int .i64 ek, .int .i64 ep, .string en, .int .i64 em, .slice h4 el.length i4, .slice h5 eps.length i5, .slice h6 eal.length i6, .slice h7 eds.length i7] rfl rfl (cells_new _ [.int .i64 tk, .int .i64 tp, .string tn, .slice p3 vs.length q3, .slice z4 cs.length z5, .int .i64 yk, .int .i64 yp, .string yn, .slice p8 yl.length q8, .slice p9 ps.length q9, .int .i64 ek, .int .i64 ep, .string en, .int .i64 em, .slice h4 el.length i4, .slice h5 eps.length i5, .slice h6 eal.length i6, .slice h7 eds.length i7] _) (by simp [Value.oneCell']) (by unfold maxLen; omega) (by omega) (by simp; omega) ?_; intro v2' W2 hown2 hgrow _ hat; have hgrow' : (wr.alloc (.cells #[.int .i64 tk, .int .i64 tp, .string tn, .slice p3 vs.length q3, .slice z4 cs.length z5, .int .i64 yk, .int .i64 yp, .string yn, .slice p8 yl.length q8, .slice p9 ps.length q9, .int .i64 ek, .int .i64 ep, .string en, .int .i64 em, .slice h4 el.length i4, .slice h5 eps.length i5, .slice h6 eal.length i6, .slice h7 eds.length i7] 95)).grownBy W2 xv.ownBlock := hgrow; have hat' : v2'.ownBlock = xv.ownBlock ∨ v2'.ownBlock = some (wr.alloc (.cells #[.int .i64 tk, .int .i64 tp, .string tn, .slice p3 vs.length q3, .slice z4 cs.length z5, .int .i64 yk, .int .i64 yp, .string yn, .slice p8 yl.length q8, .slice p9 ps.length q9, .int .i64 ek, .int .i64 ep, .string en, .int .i64 em, .slice h4 el.length i4, .slice h5 eps.length i5, .slice h6 eal.length i6, .slice h7 eds.length i7] 95)).heap.size := hat; have HG2 := Lib.hid (HG.out.next hzb HT.out hlen1 rfl HVS2.out (fun g hg => (hown.lt g hg).2) hb0r hgrow' hat'); have hb3 : Below w.heap.size w W2 := (hbwr.alloc hbwr.size _).grown hgrow' (by simp; omega) (fun j hj => (hown.lt j hj).1); clear hgrow hgrow' hat hat'))
            clear cS
            go_roundw
            case rel => exact ⟨k + 1, _, _, by omega, rfl, by go_num, hown2, HG2, hb3⟩
            case measure => simp [intOf]; omega
    · have hkk : k = l.length := by omega
      have k1 : ¬ (k : Int) < l.length := by omega
      subst hkk
      have HD := Lib.hid (HG.out.done hown)
      subst e0
      go_wp2
      go_ret
      exact ⟨_, rfl, ⟨HD.out⟩, hbw⟩
end Go.Proofs.YtkdhoelabomgkaaGreatDoor
