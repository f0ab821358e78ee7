/- Texts of this proof, joined: Size, RConst, KnM, PRtV. No condition. -/
import Derived.Test.YtdiffpiapdghoaaGreatDoorRa30
import Derived.LoopN
import Derived.Test.YtdiffpiapdghoaaGreatDoorRa25
import Derived.Test.YtdiffpiapdghoaaGreatDoorRa24
import Derived.Test.YtdiffpiapdghoaaGreatDoorRa29
/-
  Layer 3, the program's side: Size, Deep of a tree of fewer than four hundred parts.
-/
namespace Go.Proofs.YtdiffpiapdghoaaGreatDoor
set_option linter.unusedVariables false
open Go.ChangeShapes Go.WideShapes Go.ChangeAt Go.RowKit

theorem Ex.mem_nd' {l : List Ex} {t : Ex} (h : t ∈ l) : t.nd ≤ Ex.nds l := by obtain ⟨k, hk⟩ := List.getElem?_of_mem h; exact Ex.nds_get l k t hk
theorem Al.mem_nd' {l : List Al} {t : Al} (h : t ∈ l) : t.nd ≤ Al.nds l := by obtain ⟨k, hk⟩ := List.getElem?_of_mem h; exact Al.nds_get l k t hk
theorem De.mem_nd' {l : List De} {t : De} (h : t ∈ l) : t.nd ≤ De.nds l := by obtain ⟨k, hk⟩ := List.getElem?_of_mem h; exact De.nds_get l k t hk
theorem add_all : ∀ (n : Nat) (e : Ex) (lev : Int), 1 ≤ lev → lev + n ≤ 400 → e.nd ≤ n → Adds 93 e lev
  | 0, .mk _ _ _ _ _ _ _ _, lev, h0, h4, hn => by unfold Ex.nd at hn; omega
  | n + 1, .mk xk xp xn xm xl xps xal xds, lev, h0, h4, hn => by
    unfold Ex.nd at hn
    push_cast at h4
    have hs1 := Ex.szs_nds xl
    have hs2 := Al.szs_nds xal
    have hs3 := De.szs_nds xds
    have part : ∀ e : Ex, e.nd ≤ n → Adds 109 e (lev + 1) := fun e he => by
      have h1 : 1 ≤ e.nd := by obtain ⟨_, _, _, _, _, _, _, _⟩ := e; unfold Ex.nd; omega
      exact part_of_add e (lev + 1) (by omega) (by omega) (add_all n e (lev + 1) (by omega) (by omega) he)
    refine add_step xk xp xm xn xl xps xal xds lev h0 (by omega) (fun t ht => part t (by have := Ex.mem_nd' ht; omega)) (fun t ht => ?_) (fun t ht => ?_) (by omega)
    · have h1 := Al.mem_nd' ht
      obtain ⟨p, e⟩ := t
      unfold Al.nd at h1
      exact part e (by omega)
    · have h1 := De.mem_nd' ht
      obtain ⟨d1, d2, d3, d4, d5, d6, d7, d8⟩ := t
      unfold De.nd at h1
      exact part d8 (by omega)
theorem four_boxes (w : World) (o4 o5 o6 o7 : Obj) : Below w.heap.size w ((((w.alloc o4).alloc o5).alloc o6).alloc o7) ∧ ((((w.alloc o4).alloc o5).alloc o6).alloc o7).heap[w.heap.size]? = some o4 ∧ ((((w.alloc o4).alloc o5).alloc o6).alloc o7).heap[w.heap.size + 1]? = some o5 ∧ ((((w.alloc o4).alloc o5).alloc o6).alloc o7).heap[w.heap.size + 1 + 1]? = some o6 ∧ ((((w.alloc o4).alloc o5).alloc o6).alloc o7).heap[w.heap.size + 1 + 1 + 1]? = some o7 ∧ ((((w.alloc o4).alloc o5).alloc o6).alloc o7).heap.size = w.heap.size + 4 := by
  obtain ⟨h1, h2, h3, h4⟩ := three_boxes w o4 o5 o6
  have h7 := heap_alloc_new (((w.alloc o4).alloc o5).alloc o6) o7
  rw [show (((w.alloc o4).alloc o5).alloc o6).heap.size = w.heap.size + 1 + 1 + 1 by simp] at h7
  exact ⟨h1.alloc h1.size _, (Below.heap_alloc _ _ _ (heap_lt h2)).trans h2, (Below.heap_alloc _ _ _ (heap_lt h3)).trans h3, (Below.heap_alloc _ _ _ (heap_lt h4)).trans h4, h7, by simp⟩
set_option maxHeartbeats 3200000 in
set_option maxRecDepth 100000 in
theorem count_any (e : Ex) (hn : e.nd ≤ 399) (P : Nat → Prop) (vs : List Value) (w : World) (hv : IsVs w (fun b => P b ∧ b < w.heap.size) e.row vs) :
    Calls Tryz.prog 51 #[.agg vs.toArray] w fun e' w' => ∃ b : Nat, e' = .returned (.agg (cnt (e.sz : Int) (e.dm 1 0) (.slice (some ⟨b, 0, none⟩) 0 1))) ∧ Below w.heap.size w w' := by
  obtain ⟨o1, ho1⟩ : ∃ o : Obj, o = .cells vs.toArray 53 := ⟨_, rfl⟩
  obtain ⟨xk, xp, xn, xm, xl, xps, xal, xds⟩ := e
  obtain ⟨_, a4, a5, a6, a7, b4, b5, b6, b7, rfl, _⟩ := ex_vs hv
  have HV := Lib.hid hv
  clear hv
  go_enter Tryz.func51, Tryz.ntmps51
  obtain ⟨o2, ho2⟩ : ∃ o : Obj, o = .cells #[.int .i64 0, .int .i64 0, .slice none 0 0] 113 := ⟨_, rfl⟩
  obtain ⟨o3, ho3⟩ : ∃ o : Obj, o = .cells #[.int .i64 0, .int .i64 0, .slice (some ⟨w.heap.size + 1 + 1 + 1, 0, none⟩) 1 1] 113 := ⟨_, rfl⟩
  obtain ⟨o4, ho4⟩ : ∃ o : Obj, o = .cells #[.pointer (some ⟨w.heap.size, 0, none⟩), .int .i64 1] 148 := ⟨_, rfl⟩
  obtain ⟨hbW, g1, g2, g3, g4, hsz⟩ := four_boxes w o1 o2 o3 o4
  have HG := Lib.hid (And.intro g1 (And.intro g2 (And.intro g3 g4)))
  have HZ := Lib.hid hsz
  clear g1 g2 g3 g4 hsz
  go_wp2
  rw [← ho1, ← ho2, ← ho3, ← ho4]
  generalize (((w.alloc o1).alloc o2).alloc o3).alloc o4 = W at hbW HG HZ ⊢
  obtain ⟨g1, g2, g3, g4⟩ := HG.out
  have hsz := HZ.out
  have hz : w.heap.size + 1 + 1 + 1 < W.heap.size := by omega
  have hz2 : w.heap.size + 1 + 1 < W.heap.size := by omega
  subst ho1 ho3 ho4
  have k2 : W.cell? ⟨w.heap.size + 1 + 1, 2, none⟩ = some (.slice (some ⟨w.heap.size + 1 + 1 + 1, 0, none⟩) 1 1) := by rw [Lib.cell_of_heap g3]; rfl
  have f2 : W.frozen? ⟨w.heap.size + 1 + 1, 2, none⟩ = false := Lib.frozen_of_heap g3 2
  have l0 : W.cell? ⟨w.heap.size + 1 + 1 + 1, 0, none⟩ = some (.pointer (some ⟨w.heap.size, 0, none⟩)) := by rw [Lib.cell_of_heap g4]; rfl
  have l1 : W.cell? ⟨w.heap.size + 1 + 1 + 1, 1, none⟩ = some (.int .i64 1) := by rw [Lib.cell_of_heap g4]; rfl
  have G1 := Lib.hid g1
  have G2 := Lib.hid g2
  have G3 := Lib.hid g3
  clear g1 g2 g3 g4 HG hsz
  refine wp_loop_rounds 2 ?_
  rw [rounds_succ]
  go_wp2_with fail
  obtain ⟨o5, ho5⟩ : ∃ o : Obj, o = .cells #[.pointer (some ⟨w.heap.size, 0, none⟩), .int .i64 1] 148 := ⟨_, rfl⟩
  rw [← ho5]
  have hX3 : ((W.setCell ⟨w.heap.size + 1 + 1, 2, none⟩ (.slice (some ⟨w.heap.size + 1 + 1 + 1, 0, none⟩) 0 1)).alloc o5).heap[w.heap.size + 1 + 1]? = some (.cells (cnt 0 0 (.slice (some ⟨w.heap.size + 1 + 1 + 1, 0, none⟩) 0 1)) 113 (0, 0)) :=
    (Below.heap_alloc _ _ _ (by simp; omega)).trans (heap_setCell_same _ _ 2 _ _ _ G3.out)
  have hXo : ∀ b : Nat, b < W.heap.size → b ≠ w.heap.size + 1 + 1 → ((W.setCell ⟨w.heap.size + 1 + 1, 2, none⟩ (.slice (some ⟨w.heap.size + 1 + 1 + 1, 0, none⟩) 0 1)).alloc o5).heap[b]? = W.heap[b]? := fun b h1 h2 =>
    (Below.heap_alloc _ _ _ (by simp; omega)).trans (heap_setCell_other _ _ _ _ h2)
  have hbX : Below w.heap.size w ((W.setCell ⟨w.heap.size + 1 + 1, 2, none⟩ (.slice (some ⟨w.heap.size + 1 + 1 + 1, 0, none⟩) 0 1)).alloc o5) := (hbW.setCell (p := ⟨w.heap.size + 1 + 1, 2, none⟩) (by show w.heap.size ≤ w.heap.size + 1 + 1; omega) _).alloc (by simp; omega) _
  have hXz : W.heap.size < ((W.setCell ⟨w.heap.size + 1 + 1, 2, none⟩ (.slice (some ⟨w.heap.size + 1 + 1 + 1, 0, none⟩) 0 1)).alloc o5).heap.size := by simp
  generalize (W.setCell ⟨w.heap.size + 1 + 1, 2, none⟩ (.slice (some ⟨w.heap.size + 1 + 1 + 1, 0, none⟩) 0 1)).alloc o5 = X at hX3 hXo hbX hXz ⊢
  clear k2 f2 l0 l1
  have hXe : IsEx X (fun b => b ≠ w.heap.size + 1 + 1) ⟨w.heap.size, 0, none⟩ (.mk xk xp xn xm xl xps xal xds) := ⟨row_at (IsVs.mono (fun b hb => by have := hb.2; omega) _ _ (IsVs.on hbX _ _ HV.out)) ((hXo _ (by omega) (by omega)).trans G1.out)⟩
  have hsn := Ex.sz_nd (.mk xk xp xn xm xl xps xal xds)
  refine (add_all 399 _ 1 (by omega) (by omega) hn (w.heap.size + 1 + 1) ⟨w.heap.size, 0, none⟩ X 0 0 _ (by show w.heap.size ≠ w.heap.size + 1 + 1; omega) hXe hX3 (by omega) (by omega)).mono ?_
  rintro e' V ⟨rfl, hT⟩
  rw [Int.zero_add] at hT
  have hT3 := hT.at_
  unfold cnt at hT3
  have k0 : V.cell? ⟨w.heap.size + 1 + 1, 0, none⟩ = some (.int .i64 ((Ex.mk xk xp xn xm xl xps xal xds).sz : Int)) := by rw [Lib.cell_of_heap hT3]; rfl
  have k1 : V.cell? ⟨w.heap.size + 1 + 1, 1, none⟩ = some (.int .i64 ((Ex.mk xk xp xn xm xl xps xal xds).dm 1 0)) := by rw [Lib.cell_of_heap hT3]; rfl
  have k2 : V.cell? ⟨w.heap.size + 1 + 1, 2, none⟩ = some (.slice (some ⟨w.heap.size + 1 + 1 + 1, 0, none⟩) 0 1) := by rw [Lib.cell_of_heap hT3]; rfl
  have hT2 : V.heap[w.heap.size + 1]? = some o2 := (hT.other _ (by omega)).trans ((hXo _ (by omega) (by omega)).trans G2.out)
  rw [ho2] at hT2
  have j0 : V.cell? ⟨w.heap.size + 1, 0, none⟩ = some (.int .i64 0) := by rw [Lib.cell_of_heap hT2]; rfl
  have j1 : V.cell? ⟨w.heap.size + 1, 1, none⟩ = some (.int .i64 0) := by rw [Lib.cell_of_heap hT2]; rfl
  have j2 : V.cell? ⟨w.heap.size + 1, 2, none⟩ = some (.slice none 0 0) := by rw [Lib.cell_of_heap hT2]; rfl
  have f0 : V.frozen? ⟨w.heap.size + 1, 0, none⟩ = false := Lib.frozen_of_heap hT2 0
  have f1 : V.frozen? ⟨w.heap.size + 1, 1, none⟩ = false := Lib.frozen_of_heap hT2 1
  have f2 : V.frozen? ⟨w.heap.size + 1, 2, none⟩ = false := Lib.frozen_of_heap hT2 2
  have hbV : Below w.heap.size w V := ⟨hT.rest.2.1.trans hbX.os, hT.rest.2.2.1.trans hbX.tape, hT.rest.2.2.2.trans hbX.output, by have := hT.rest.1; have := hbX.size; omega, fun j hj => (hT.other j (by omega)).trans (hbX.block j hj)⟩
  have HT2 := Lib.hid hT2
  have HBV := Lib.hid hbV
  clear hT hT3 hT2 hX3 hXo hbX hXz hXe G1 G2 G3 hbW HV hbV hsn hn
  go_wp2_with fail
  rw [rounds_succ]
  go_wp2
  have h1 := heap_setCell_same V (w.heap.size + 1) 0 _ _ (.int .i64 ((Ex.mk xk xp xn xm xl xps xal xds).sz : Int)) HT2.out
  have h2 := heap_setCell_same _ (w.heap.size + 1) 1 _ _ (.int .i64 ((Ex.mk xk xp xn xm xl xps xal xds).dm 1 0)) h1
  have h3 := heap_setCell_same _ (w.heap.size + 1) 2 _ _ (.slice (some ⟨w.heap.size + 1 + 1 + 1, 0, none⟩) 0 1) h2
  have hbF := ((HBV.out.setCell (p := ⟨w.heap.size + 1, 0, none⟩) (Nat.le_succ _) (.int .i64 ((Ex.mk xk xp xn xm xl xps xal xds).sz : Int))).setCell (p := ⟨w.heap.size + 1, 1, none⟩) (Nat.le_succ _) (.int .i64 ((Ex.mk xk xp xn xm xl xps xal xds).dm 1 0))).setCell (p := ⟨w.heap.size + 1, 2, none⟩) (Nat.le_succ _) (.slice (some ⟨w.heap.size + 1 + 1 + 1, 0, none⟩) 0 1)
  generalize ((V.setCell ⟨w.heap.size + 1, 0, none⟩ (.int .i64 ((Ex.mk xk xp xn xm xl xps xal xds).sz : Int))).setCell ⟨w.heap.size + 1, 1, none⟩ (.int .i64 ((Ex.mk xk xp xn xm xl xps xal xds).dm 1 0))).setCell ⟨w.heap.size + 1, 2, none⟩ (.slice (some ⟨w.heap.size + 1 + 1 + 1, 0, none⟩) 0 1) = V3 at h3 hbF ⊢
  have r0 : V3.cell? ⟨w.heap.size + 1, 0, none⟩ = some (.int .i64 ((Ex.mk xk xp xn xm xl xps xal xds).sz : Int)) := by rw [Lib.cell_of_heap h3]; rfl
  have r1 : V3.cell? ⟨w.heap.size + 1, 1, none⟩ = some (.int .i64 ((Ex.mk xk xp xn xm xl xps xal xds).dm 1 0)) := by rw [Lib.cell_of_heap h3]; rfl
  have r2 : V3.cell? ⟨w.heap.size + 1, 2, none⟩ = some (.slice (some ⟨w.heap.size + 1 + 1 + 1, 0, none⟩) 0 1) := by rw [Lib.cell_of_heap h3]; rfl
  have HBF := Lib.hid hbF
  clear h1 h2 h3 hbF k0 k1 k2 j0 j1 j2 f0 f1 f2
  exact bodyPost_ret (v := .agg #[.int .i64 ((Ex.mk xk xp xn xm xl xps xal xds).sz : Int), .int .i64 ((Ex.mk xk xp xn xm xl xps xal xds).dm 1 0), .slice (some ⟨w.heap.size + 1 + 1 + 1, 0, none⟩) 0 1]) (by simp [results, Tryz.results51, go_sem, *]) rfl ⟨_, rfl, HBF.out⟩
set_option maxHeartbeats 1600000 in
set_option maxRecDepth 100000 in
theorem size_any (e : Ex) (hn : e.nd ≤ 399) (P : Nat → Prop) (vs : List Value) (w : World) (hv : IsVs w (fun b => P b ∧ b < w.heap.size) e.row vs) :
    Calls Tryz.prog 30 #[.agg vs.toArray] w fun e' w' => e' = .returned (.int .i64 (e.sz : Int)) ∧ Below w.heap.size w w' := by
  obtain ⟨o1, ho1⟩ : ∃ o : Obj, o = .cells vs.toArray 53 := ⟨_, rfl⟩
  have hb1 := bl_alloc o1 (Below.refl w.heap.size w)
  have hv1 := IsVs.on hb1 _ _ hv
  have HV1 := Lib.hid (IsVs.mono (Q := fun b => P b ∧ b < (w.alloc o1).heap.size) (fun b hb => ⟨hb.1, by have := hb.2; simp; omega⟩) _ _ hv1)
  have g1 := heap_alloc_new w o1
  obtain ⟨xk, xp, xn, xm, xl, xps, xal, xds⟩ := e
  obtain ⟨_, a4, a5, a6, a7, b4, b5, b6, b7, rfl, _⟩ := ex_vs hv
  clear hv hv1
  go_enter Tryz.func30, Tryz.ntmps30
  go_upto_region 1 with fail
  rw [← ho1]
  generalize w.alloc o1 = W at hb1 HV1 g1 ⊢
  subst ho1
  have c0 : W.cell? ⟨w.heap.size, 0, none⟩ = some (.int .i64 xk) := by rw [Lib.cell_of_heap g1]; rfl
  have c1 : W.cell? ⟨w.heap.size, 1, none⟩ = some (.int .i64 xp) := by rw [Lib.cell_of_heap g1]; rfl
  have c2 : W.cell? ⟨w.heap.size, 2, none⟩ = some (.string xn) := by rw [Lib.cell_of_heap g1]; rfl
  have c3 : W.cell? ⟨w.heap.size, 3, none⟩ = some (.int .i64 xm) := by rw [Lib.cell_of_heap g1]; rfl
  have c4 : W.cell? ⟨w.heap.size, 4, none⟩ = some (.slice a4 xl.length b4) := by rw [Lib.cell_of_heap g1]; rfl
  have c5 : W.cell? ⟨w.heap.size, 5, none⟩ = some (.slice a5 xps.length b5) := by rw [Lib.cell_of_heap g1]; rfl
  have c6 : W.cell? ⟨w.heap.size, 6, none⟩ = some (.slice a6 xal.length b6) := by rw [Lib.cell_of_heap g1]; rfl
  have c7 : W.cell? ⟨w.heap.size, 7, none⟩ = some (.slice a7 xds.length b7) := by rw [Lib.cell_of_heap g1]; rfl
  clear g1
  go_wp2_with fail
  clear c0 c1 c2 c3 c4 c5 c6 c7
  refine (count_any _ hn P _ W HV1.out).mono ?_
  rintro e' w' ⟨lb, rfl, hb2⟩
  unfold cnt
  have hf0 : ∀ (V : World) (x y : Int) (z : Value), (Instr.field 113 (.agg #[.int .i64 x, .int .i64 y, z]) 0).run Tryz.prog V = .ok (.int .i64 x) V := fun _ _ _ _ => by kernel_rfl
  have hf1 : ∀ (V : World) (x y : Int) (z : Value), (Instr.field 113 (.agg #[.int .i64 x, .int .i64 y, z]) 1).run Tryz.prog V = .ok (.int .i64 y) V := fun _ _ _ _ => by kernel_rfl
  go_wp2
  go_ret
  exact ⟨rfl, hb1.trans (hb2.mono hb1.size)⟩
set_option maxHeartbeats 1600000 in
set_option maxRecDepth 100000 in
theorem deep_any (e : Ex) (hn : e.nd ≤ 399) (P : Nat → Prop) (vs : List Value) (w : World) (hv : IsVs w (fun b => P b ∧ b < w.heap.size) e.row vs) :
    Calls Tryz.prog 31 #[.agg vs.toArray] w fun e' w' => e' = .returned (.int .i64 (e.dm 1 0)) ∧ Below w.heap.size w w' := by
  obtain ⟨o1, ho1⟩ : ∃ o : Obj, o = .cells vs.toArray 53 := ⟨_, rfl⟩
  have hb1 := bl_alloc o1 (Below.refl w.heap.size w)
  have hv1 := IsVs.on hb1 _ _ hv
  have HV1 := Lib.hid (IsVs.mono (Q := fun b => P b ∧ b < (w.alloc o1).heap.size) (fun b hb => ⟨hb.1, by have := hb.2; simp; omega⟩) _ _ hv1)
  have g1 := heap_alloc_new w o1
  obtain ⟨xk, xp, xn, xm, xl, xps, xal, xds⟩ := e
  obtain ⟨_, a4, a5, a6, a7, b4, b5, b6, b7, rfl, _⟩ := ex_vs hv
  clear hv hv1
  go_enter Tryz.func31, Tryz.ntmps31
  go_upto_region 1 with fail
  rw [← ho1]
  generalize w.alloc o1 = W at hb1 HV1 g1 ⊢
  subst ho1
  have c0 : W.cell? ⟨w.heap.size, 0, none⟩ = some (.int .i64 xk) := by rw [Lib.cell_of_heap g1]; rfl
  have c1 : W.cell? ⟨w.heap.size, 1, none⟩ = some (.int .i64 xp) := by rw [Lib.cell_of_heap g1]; rfl
  have c2 : W.cell? ⟨w.heap.size, 2, none⟩ = some (.string xn) := by rw [Lib.cell_of_heap g1]; rfl
  have c3 : W.cell? ⟨w.heap.size, 3, none⟩ = some (.int .i64 xm) := by rw [Lib.cell_of_heap g1]; rfl
  have c4 : W.cell? ⟨w.heap.size, 4, none⟩ = some (.slice a4 xl.length b4) := by rw [Lib.cell_of_heap g1]; rfl
  have c5 : W.cell? ⟨w.heap.size, 5, none⟩ = some (.slice a5 xps.length b5) := by rw [Lib.cell_of_heap g1]; rfl
  have c6 : W.cell? ⟨w.heap.size, 6, none⟩ = some (.slice a6 xal.length b6) := by rw [Lib.cell_of_heap g1]; rfl
  have c7 : W.cell? ⟨w.heap.size, 7, none⟩ = some (.slice a7 xds.length b7) := by rw [Lib.cell_of_heap g1]; rfl
  clear g1
  go_wp2_with fail
  clear c0 c1 c2 c3 c4 c5 c6 c7
  refine (count_any _ hn P _ W HV1.out).mono ?_
  rintro e' w' ⟨lb, rfl, hb2⟩
  unfold cnt
  have hf0 : ∀ (V : World) (x y : Int) (z : Value), (Instr.field 113 (.agg #[.int .i64 x, .int .i64 y, z]) 0).run Tryz.prog V = .ok (.int .i64 x) V := fun _ _ _ _ => by kernel_rfl
  have hf1 : ∀ (V : World) (x y : Int) (z : Value), (Instr.field 113 (.agg #[.int .i64 x, .int .i64 y, z]) 1).run Tryz.prog V = .ok (.int .i64 y) V := fun _ _ _ _ => by kernel_rfl
  go_wp2
  go_ret
  exact ⟨rfl, hb1.trans (hb2.mono hb1.size)⟩
end Go.Proofs.YtdiffpiapdghoaaGreatDoor
/-
  Layer 3, the program's side: RightExpr of the constants' call, and of any tree by rightExpr.
-/
namespace Go.Proofs.YtdiffpiapdghoaaGreatDoor
set_option linter.unusedVariables false
open Go.ChangeShapes Go.WideShapes Go.ChangeAt Go.RowKit

set_option maxHeartbeats 1600000 in
set_option maxRecDepth 100000 in
theorem rightE_of (e : Ex) (b : Bool) (hr : RightE 1 e b) (P : Nat → Prop) (vs : List Value) (w : World) (hv : IsVs w P e.row vs) :
    Calls Tryz.prog 15 #[.agg vs.toArray] w fun e' w' => e' = .returned (.bool b) ∧ Below w.heap.size w w' := by
  obtain ⟨o1, ho1⟩ : ∃ o : Obj, o = .cells vs.toArray 53 := ⟨_, rfl⟩
  have hb1 := bl_alloc o1 (Below.refl w.heap.size w)
  have hv1 := IsVs.on hb1 _ _ hv
  have g1 := heap_alloc_new w o1
  obtain ⟨xk, xp, xn, xm, xl, xps, xal, xds⟩ := e
  obtain ⟨_, a4, a5, a6, a7, b4, b5, b6, b7, rfl, _⟩ := ex_vs hv
  clear hv
  go_enter Tryz.func15, Tryz.ntmps15
  go_upto_region 1 with fail
  rw [← ho1]
  generalize w.alloc o1 = W at hb1 hv1 g1 ⊢
  subst ho1
  have HH := Lib.hid (hr P ⟨w.heap.size, 0, none⟩ W ⟨row_at hv1 g1⟩)
  clear g1 hv1 hr
  go_wp2_with fail
  refine HH.out.mono ?_
  rintro e' w' ⟨rfl, hb2⟩
  go_wp2
  go_ret
  exact ⟨rfl, hb1.trans (hb2.mono hb1.size)⟩
/-- the constants -/
def nameC (n : ByteArray) : Ex := .mk 1 0 n 0 [] [] [] []
def numC (m p : Int) : Ex := .mk 3 p ⟨#[]⟩ m [] [] [] []
def callC (p q : Int) (n : ByteArray) (m : Int) : Ex := .mk 6 p ⟨#[]⟩ 0 [nameC n, numC m q] [] [] []
theorem name_f : nameB ⟨#[102]⟩ = true := by kernel_rfl
theorem right_call (p q m : Int) (hm : 0 ≤ m) (n : ByteArray) (hn : nameB n = true) : RightE 1 (callC p q n m) true := by
  unfold callC
  refine right_plain _ _ _ _ _ 1 (by omega) (by omega) (fun P E w h => rhead_call p _ _ P E w h) ?_
  intro k t ht
  match k with
  | 0 =>
    simp at ht
    subst ht
    exact right_plain _ _ _ _ _ 2 (by omega) (by omega) (fun P E w h => rhead_name _ n hn P E w h) (fun k t ht => by simp at ht)
  | 1 =>
    simp at ht
    subst ht
    exact right_plain _ _ _ _ _ 2 (by omega) (by omega) (fun P E w h => rhead_int _ m hm P E w h) (fun k t ht => by simp at ht)
  | k + 2 => simp at ht
end Go.Proofs.YtdiffpiapdghoaaGreatDoor
/-
  Layer 3, the program's side: the constants' cells.
-/
namespace Go.Proofs.YtdiffpiapdghoaaGreatDoor
set_option linter.unusedVariables false
open Go.ChangeShapes Go.WideShapes Go.ChangeAt Go.RowKit

/-- the constants' cells -/
def nameVs (n : ByteArray) : List Value := [.int .i64 1, .int .i64 0, .string n, .int .i64 0, .slice none 0 0, .slice none 0 0, .slice none 0 0, .slice none 0 0]
def numVs (m p : Int) : List Value := [.int .i64 3, .int .i64 p, .string ⟨#[]⟩, .int .i64 m, .slice none 0 0, .slice none 0 0, .slice none 0 0, .slice none 0 0]
def callVs (p : Int) (b : Nat) : List Value := [.int .i64 6, .int .i64 p, .string ⟨#[]⟩, .int .i64 0, .slice (some ⟨b, 0, none⟩) 2 2, .slice none 0 0, .slice none 0 0, .slice none 0 0]
theorem cells_of_block {W : World} {N : Nat} {x0 x1 x2 x3 x4 x5 x6 x7 : Value} {T : TypeId} (g : W.heap[N]? = some (.cells #[x0, x1, x2, x3, x4, x5, x6, x7] T (0, 0))) :
    W.cell? ⟨N, 0, none⟩ = some x0 ∧ W.cell? ⟨N, 1, none⟩ = some x1 ∧ W.cell? ⟨N, 2, none⟩ = some x2 ∧ W.cell? ⟨N, 3, none⟩ = some x3 ∧ W.cell? ⟨N, 4, none⟩ = some x4 ∧ W.cell? ⟨N, 5, none⟩ = some x5 ∧ W.cell? ⟨N, 6, none⟩ = some x6 ∧ W.cell? ⟨N, 7, none⟩ = some x7 := by
  refine ⟨?_, ?_, ?_, ?_, ?_, ?_, ?_, ?_⟩ <;> (rw [Lib.cell_of_heap g]; rfl)
theorem nil_exs {P : Nat → Prop} (W : World) : IsExs W P (.slice none 0 0) [] := ⟨by unfold IsC; exact .inl ⟨rfl, rfl⟩⟩
theorem nil_pas {P : Nat → Prop} (W : World) : IsPas W P (.slice none 0 0) [] := ⟨by unfold IsC; exact .inl ⟨rfl, rfl⟩⟩
theorem nil_als {P : Nat → Prop} (W : World) : IsAls W P (.slice none 0 0) [] := ⟨by unfold IsC; exact .inl ⟨rfl, rfl⟩⟩
theorem nil_des {P : Nat → Prop} (W : World) : IsDes W P (.slice none 0 0) [] := ⟨by unfold IsC; exact .inl ⟨rfl, rfl⟩⟩
theorem name_vs {P : Nat → Prop} (W : World) (n : ByteArray) (hn : n.size ≤ maxLen) : IsVs W P (nameC n).row (nameVs n) := ex_vs_mk hn (nil_exs W) (nil_pas W) (nil_als W) (nil_des W)
theorem num_vs {P : Nat → Prop} (W : World) (m p : Int) : IsVs W P (numC m p).row (numVs m p) := ex_vs_mk (by decide) (nil_exs W) (nil_pas W) (nil_als W) (nil_des W)
theorem call_vs {P : Nat → Prop} (W : World) (p q m : Int) (n : ByteArray) (hn : n.size ≤ maxLen) (b : Nat) (hP : P b) (T : TypeId) (g : W.heap[b]? = some (.cells (nameVs n ++ numVs m q).toArray T (0, 0))) : IsVs W P (callC p q n m).row (callVs p b) := by
  refine ex_vs_mk (by decide) ⟨?_⟩ (nil_pas W) (nil_als W) (nil_des W)
  unfold IsC
  refine .inr ⟨⟨b, 0, none⟩, 2, rfl, Nat.le_refl _, by unfold maxLen; omega, fun _ => hP, ?_⟩
  show IsRows W P 8 [Ex.row (nameC n), Ex.row (numC m q)] _
  unfold IsRows IsRows IsRows
  refine ⟨IsRow.of_vals _ _ _ (name_vs W n hn) fun j u hj => ?_, IsRow.of_vals _ _ _ (num_vs W m q) fun j u hj => ?_, trivial⟩
  · match j, hj with
    | 0, hj => simp [nameVs] at hj; subst hj; rw [add_zero2, Lib.cell_of_heap g]; rfl
    | 1, hj => simp [nameVs] at hj; subst hj; rw [add_off _ _ (by decide), Lib.cell_of_heap g]; rfl
    | 2, hj => simp [nameVs] at hj; subst hj; rw [add_off _ _ (by decide), Lib.cell_of_heap g]; rfl
    | 3, hj => simp [nameVs] at hj; subst hj; rw [add_off _ _ (by decide), Lib.cell_of_heap g]; rfl
    | 4, hj => simp [nameVs] at hj; subst hj; rw [add_off _ _ (by decide), Lib.cell_of_heap g]; rfl
    | 5, hj => simp [nameVs] at hj; subst hj; rw [add_off _ _ (by decide), Lib.cell_of_heap g]; rfl
    | 6, hj => simp [nameVs] at hj; subst hj; rw [add_off _ _ (by decide), Lib.cell_of_heap g]; rfl
    | 7, hj => simp [nameVs] at hj; subst hj; rw [add_off _ _ (by decide), Lib.cell_of_heap g]; rfl
  · rw [show ((⟨b, 0, none⟩ : Addr).add 8) = ⟨b, 8, none⟩ from add_off _ _ (by decide)]
    match j, hj with
    | 0, hj => simp [numVs] at hj; subst hj; rw [add_zero2, Lib.cell_of_heap g]; rfl
    | 1, hj => simp [numVs] at hj; subst hj; rw [add_off _ _ (by decide), Lib.cell_of_heap g]; rfl
    | 2, hj => simp [numVs] at hj; subst hj; rw [add_off _ _ (by decide), Lib.cell_of_heap g]; rfl
    | 3, hj => simp [numVs] at hj; subst hj; rw [add_off _ _ (by decide), Lib.cell_of_heap g]; rfl
    | 4, hj => simp [numVs] at hj; subst hj; rw [add_off _ _ (by decide), Lib.cell_of_heap g]; rfl
    | 5, hj => simp [numVs] at hj; subst hj; rw [add_off _ _ (by decide), Lib.cell_of_heap g]; rfl
    | 6, hj => simp [numVs] at hj; subst hj; rw [add_off _ _ (by decide), Lib.cell_of_heap g]; rfl
    | 7, hj => simp [numVs] at hj; subst hj; rw [add_off _ _ (by decide), Lib.cell_of_heap g]; rfl

theorem five_boxes (w : World) (o4 o5 o6 o7 o8 : Obj) : Below w.heap.size w (((((w.alloc o4).alloc o5).alloc o6).alloc o7).alloc o8) ∧ (((((w.alloc o4).alloc o5).alloc o6).alloc o7).alloc o8).heap[w.heap.size]? = some o4 ∧ (((((w.alloc o4).alloc o5).alloc o6).alloc o7).alloc o8).heap[w.heap.size + 1]? = some o5 ∧ (((((w.alloc o4).alloc o5).alloc o6).alloc o7).alloc o8).heap[w.heap.size + 1 + 1]? = some o6 ∧ (((((w.alloc o4).alloc o5).alloc o6).alloc o7).alloc o8).heap[w.heap.size + 1 + 1 + 1]? = some o7 ∧ (((((w.alloc o4).alloc o5).alloc o6).alloc o7).alloc o8).heap[w.heap.size + 1 + 1 + 1 + 1]? = some o8 ∧ (((((w.alloc o4).alloc o5).alloc o6).alloc o7).alloc o8).heap.size = w.heap.size + 5 := by
  obtain ⟨h1, h2, h3, h4, h5, h6⟩ := four_boxes w o4 o5 o6 o7
  have h8 := heap_alloc_new ((((w.alloc o4).alloc o5).alloc o6).alloc o7) o8
  rw [h6] at h8
  exact ⟨h1.alloc h1.size _, (Below.heap_alloc _ _ _ (heap_lt h2)).trans h2, (Below.heap_alloc _ _ _ (heap_lt h3)).trans h3, (Below.heap_alloc _ _ _ (heap_lt h4)).trans h4, (Below.heap_alloc _ _ _ (heap_lt h5)).trans h5, h8, by simp⟩
end Go.Proofs.YtdiffpiapdghoaaGreatDoor
/-
  Layer 3, the program's side: nothing at all; variables; cons.
-/
namespace Go.Proofs.YtdiffpiapdghoaaGreatDoor
set_option linter.unusedVariables false
open Go.ChangeShapes Go.WideShapes Go.ChangeAt Go.RowKit

theorem cells_of_block4 {W : World} {N : Nat} {x0 x1 x2 x3 : Value} {T : TypeId} (g : W.heap[N]? = some (.cells #[x0, x1, x2, x3] T (0, 0))) :
    W.cell? ⟨N, 0, none⟩ = some x0 ∧ W.cell? ⟨N, 1, none⟩ = some x1 ∧ W.cell? ⟨N, 2, none⟩ = some x2 ∧ W.cell? ⟨N, 3, none⟩ = some x3 :=
  ⟨by rw [Lib.cell_of_heap g]; rfl, by rw [Lib.cell_of_heap g]; rfl, by rw [Lib.cell_of_heap g]; rfl, by rw [Lib.cell_of_heap g]; rfl⟩
theorem ty0_vs (w : World) : IsVs w Any ty0.row [.int .i64 0, .int .i64 0, .string ⟨#[]⟩, .slice none 0 0] := by
  unfold ty0 Ty.row
  exact ⟨_, _, rfl, (by unfold IsC; rfl), _, _, rfl, (by unfold IsC; rfl), _, _, rfl, (by unfold IsC; exact ⟨rfl, by decide⟩), _, _, rfl, (by unfold IsC Ty.rows; exact .inl ⟨rfl, rfl⟩), rfl⟩
theorem ex0_vs (w : World) : IsVs w Any ex0.row [.int .i64 0, .int .i64 0, .string ⟨#[]⟩, .int .i64 0, .slice none 0 0, .slice none 0 0, .slice none 0 0, .slice none 0 0] :=
  ex_vs_mk (by decide) (nil_exs w) (nil_pas w) (nil_als w) (nil_des w)
set_option maxHeartbeats 800000 in
set_option maxRecDepth 100000 in
theorem notype_any (t : Ty) (P : Nat → Prop) (vs : List Value) (w : World) (hv : IsVs w P t.row vs) :
    Calls Tryz.prog 107 #[.agg vs.toArray] w fun e w' => e = .returned (.bool (t.same ty0)) ∧ Below w.heap.size w w' := by
  obtain ⟨tk, tp, tn, tl⟩ := t
  obtain ⟨a, b, rfl, _⟩ := ty_vs hv
  have hb1 := bl_alloc (.cells #[.int .i64 tk, .int .i64 tp, .string tn, .slice a tl.length b] 39) (Below.refl w.heap.size w)
  have g1 := heap_alloc_new w (.cells #[.int .i64 tk, .int .i64 tp, .string tn, .slice a tl.length b] 39)
  have HV := Lib.hid (IsVs.on hb1 _ _ hv)
  clear hv
  go_enter Tryz.func107, Tryz.ntmps107
  go_upto_region 1 with fail
  generalize (w.alloc (.cells #[.int .i64 tk, .int .i64 tp, .string tn, .slice a tl.length b] 39)) = W at hb1 g1 HV ⊢
  obtain ⟨c0, c1, c2, c3⟩ := cells_of_block4 g1
  have HB := Lib.hid hb1
  clear g1 hb1
  go_wp2_with fail
  refine (sameT_any (.mk tk tp tn tl) ty0 (.inr (by decide)) P Any [_, _, _, _] [_, _, _, _] W HV.out (ty0_vs W)).mono ?_
  rintro e w' ⟨rfl, hb⟩
  go_wp2
  go_ret
  exact ⟨rfl, HB.out.trans (hb.mono HB.out.size)⟩
set_option maxHeartbeats 800000 in
set_option maxRecDepth 100000 in
theorem noexpr_any (t : Ex) (P : Nat → Prop) (vs : List Value) (w : World) (hv : IsVs w P t.row vs) :
    Calls Tryz.prog 108 #[.agg vs.toArray] w fun e w' => e = .returned (.bool (t.same ex0)) ∧ Below w.heap.size w w' := by
  obtain ⟨ek, ep, en, em, el, eps, eal, eds⟩ := t
  obtain ⟨_, a4, a5, a6, a7, b4, b5, b6, b7, rfl, _⟩ := ex_vs hv
  have hb1 := bl_alloc (.cells #[.int .i64 ek, .int .i64 ep, .string en, .int .i64 em, .slice a4 el.length b4, .slice a5 eps.length b5, .slice a6 eal.length b6, .slice a7 eds.length b7] 53) (Below.refl w.heap.size w)
  have g1 := heap_alloc_new w (.cells #[.int .i64 ek, .int .i64 ep, .string en, .int .i64 em, .slice a4 el.length b4, .slice a5 eps.length b5, .slice a6 eal.length b6, .slice a7 eds.length b7] 53)
  have HV := Lib.hid (IsVs.on hb1 _ _ hv)
  clear hv
  go_enter Tryz.func108, Tryz.ntmps108
  go_upto_region 1 with fail
  generalize (w.alloc (.cells #[.int .i64 ek, .int .i64 ep, .string en, .int .i64 em, .slice a4 el.length b4, .slice a5 eps.length b5, .slice a6 eal.length b6, .slice a7 eds.length b7] 53)) = W at hb1 g1 HV ⊢
  obtain ⟨c0, c1, c2, c3, c4, c5, c6, c7⟩ := cells_of_block g1
  have HB := Lib.hid hb1
  clear g1 hb1
  go_wp2_with fail
  refine (sameE_any (.mk ek ep en em el eps eal eds) ex0 (.inr (by decide)) P Any [_, _, _, _, _, _, _, _] [_, _, _, _, _, _, _, _] W HV.out (ex0_vs W)).mono ?_
  rintro e w' ⟨rfl, hb⟩
  go_wp2
  go_ret
  exact ⟨rfl, HB.out.trans (hb.mono HB.out.size)⟩

theorem any_take_succ {vs : List ByteArray} {k : Nat} {x : ByteArray} (hx : vs[k]? = some x) (f : ByteArray → Bool) : (vs.take (k + 1)).any f = ((vs.take k).any f || f x) := by
  rw [List.take_add_one, hx]
  simp
theorem any_take_le {vs : List ByteArray} {k m : Nat} {x : ByteArray} (hx : vs[k]? = some x) (hk : k < m) (f : ByteArray → Bool) (hf : f x = true) : (vs.take m).any f = true := by
  rw [List.any_eq_true]
  refine ⟨x, List.mem_of_getElem? (i := k) ?_, hf⟩
  rw [List.getElem?_take_of_lt hk]
  exact hx
set_option maxHeartbeats 1600000 in
set_option maxRecDepth 100000 in
theorem index_any (vs : List ByteArray) (m : Nat) (hm : m ≤ vs.length) (s : ByteArray) (P : Nat → Prop) (ao : Option Addr) (n cap : Nat) (w : World) (hM : vs.length ≤ maxLen) (hs : IsTxs w P (.slice ao n cap) vs) :
    Calls Tryz.prog 125 #[.slice ao m cap, .string s] w fun e w' => (∃ r : Int, e = .returned (.int .i64 r) ∧ decide (0 ≤ r) = (vs.take m).any (fun u => u.toList == s.toList)) ∧ w = w' := by
  have HS := Lib.hid hs
  have hmm : (m : Int) ≤ 9223372036854775807 := by unfold maxLen at hM; omega
  clear hs
  go_enter Tryz.func125, Tryz.ntmps125
  go_wp2
  go_loop [8] (fun i => ∃ k : Nat, k ≤ m ∧ i = .int .i64 k ∧ Hid ((vs.take k).any (fun u => u.toList == s.toList) = false)) (fun i => m - (intOf i).toNat)
  case atStart => exact ⟨0, Nat.zero_le _, rfl, Lib.hid (by simp)⟩
  case round =>
    obtain ⟨k, hk, rfl, H⟩ := hrel
    by_cases hlt : k < m
    · have i1 : (k : Int) < m := by omega
      obtain ⟨x, hx⟩ : ∃ x, vs[k]? = some x := ⟨vs[k]'(by omega), List.getElem?_eq_getElem (by omega)⟩
      obtain ⟨a, rfl, _, hrow⟩ := HS.out.at hx
      have hcell := (hrow.cell).1
      rw [Nat.mul_one] at hcell
      have HX := Lib.hid hx
      clear hrow hx
      by_cases he : (s.toList == x.toList) = true
      · have HA := Lib.hid (any_take_le HX.out hlt (fun u => u.toList == s.toList) (by rw [beq_iff_eq] at he ⊢; exact he.symm))
        go_wp2
        go_ret
        exact ⟨⟨_, rfl, by rw [HA.out]; exact decide_eq_true (by omega)⟩, rfl⟩
      · have he : (s.toList == x.toList) = false := by simpa using he
        have HN : Hid ((vs.take (k + 1)).any (fun u => u.toList == s.toList) = false) := Lib.hid (by
          rw [any_take_succ HX.out, H.out, Bool.false_or]
          rw [beq_eq_false_iff_ne] at he ⊢
          exact fun h => he h.symm)
        go_wp2
        go_round
        case rel => exact ⟨k + 1, by omega, by go_num, HN⟩
        case measure => simp [intOf]; omega
    · have i1 : ¬ (k : Int) < m := by omega
      have hkm : k = m := by omega
      subst hkm
      go_wp2
      go_ret
      exact ⟨⟨_, rfl, by rw [H.out]; rfl⟩, rfl⟩
set_option maxHeartbeats 800000 in
theorem contains_any (vs : List ByteArray) (m : Nat) (hm : m ≤ vs.length) (s : ByteArray) (P : Nat → Prop) (ao : Option Addr) (n cap : Nat) (w : World) (hM : vs.length ≤ maxLen) (hs : IsTxs w P (.slice ao n cap) vs) :
    Calls Tryz.prog 116 #[.slice ao m cap, .string s] w fun e w' => e = .returned (.bool ((vs.take m).any fun u => u.toList == s.toList)) ∧ w = w' := by
  have HI := Lib.hid (index_any vs m hm s P ao n cap w hM hs)
  clear hs
  go_enter Tryz.func116, Tryz.ntmps116
  go_wp2_with fail
  refine HI.out.mono ?_
  rintro e w' ⟨⟨r, rfl, hr⟩, rfl⟩
  have HR := Lib.hid hr
  clear hr
  by_cases h0 : 0 ≤ r
  · go_wp2
    go_ret
    exact ⟨by rw [← HR.out]; simp [h0], rfl⟩
  · go_wp2
    go_ret
    exact ⟨by rw [← HR.out]; simp, rfl⟩
end Go.Proofs.YtdiffpiapdghoaaGreatDoor
