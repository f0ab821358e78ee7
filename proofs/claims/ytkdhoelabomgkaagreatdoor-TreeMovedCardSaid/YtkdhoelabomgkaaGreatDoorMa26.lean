/- Texts of this proof, joined: Size. No condition. -/
import Derived.Test.YtkdhoelabomgkaaGreatDoorMa19
import Derived.LoopN
/-
  Layer 3, the program's side: Size, Deep of a tree of fewer than four hundred parts.
-/
namespace Go.Proofs.YtkdhoelabomgkaaGreatDoor
set_option linter.unusedVariables false
open Go.ChangeShapes Go.WideShapes Go.ChangeAt Go.RowKit

theorem Ex.mem_nd' {l : List Ex} {t : Ex} (h : t ∈ l) : t.nd ≤ Ex.nds l := by obtain ⟨k, hk⟩ := List.getElem?_of_mem h; exact Ex.nds_get l k t hk
theorem Al.mem_nd' {l : List Al} {t : Al} (h : t ∈ l) : t.nd ≤ Al.nds l := by obtain ⟨k, hk⟩ := List.getElem?_of_mem h; exact Al.nds_get l k t hk
theorem De.mem_nd' {l : List De} {t : De} (h : t ∈ l) : t.nd ≤ De.nds l := by obtain ⟨k, hk⟩ := List.getElem?_of_mem h; exact De.nds_get l k t hk
theorem add_all : ∀ (n : Nat) (e : Ex) (lev : Int), 1 ≤ lev → lev + n ≤ 400 → e.nd ≤ n → Adds 93 e lev
  | 0, .mk _ _ _ _ _ _ _ _, lev, h0, h4, hn => by unfold Ex.nd at hn; omega
  | n + 1, .mk xk xp xn xm xl xps xal xds, lev, h0, h4, hn => by
    unfold Ex.nd at hn
    push_cast at h4
    have hs1 := Ex.szs_nds xl
    have hs2 := Al.szs_nds xal
    have hs3 := De.szs_nds xds
    have part : ∀ e : Ex, e.nd ≤ n → Adds 109 e (lev + 1) := fun e he => by
      have h1 : 1 ≤ e.nd := by obtain ⟨_, _, _, _, _, _, _, _⟩ := e; unfold Ex.nd; omega
      exact part_of_add e (lev + 1) (by omega) (by omega) (add_all n e (lev + 1) (by omega) (by omega) he)
    refine add_step xk xp xm xn xl xps xal xds lev h0 (by omega) (fun t ht => part t (by have := Ex.mem_nd' ht; omega)) (fun t ht => ?_) (fun t ht => ?_) (by omega)
    · have h1 := Al.mem_nd' ht
      obtain ⟨p, e⟩ := t
      unfold Al.nd at h1
      exact part e (by omega)
    · have h1 := De.mem_nd' ht
      obtain ⟨d1, d2, d3, d4, d5, d6, d7, d8⟩ := t
      unfold De.nd at h1
      exact part d8 (by omega)
theorem four_boxes (w : World) (o4 o5 o6 o7 : Obj) : Below w.heap.size w ((((w.alloc o4).alloc o5).alloc o6).alloc o7) ∧ ((((w.alloc o4).alloc o5).alloc o6).alloc o7).heap[w.heap.size]? = some o4 ∧ ((((w.alloc o4).alloc o5).alloc o6).alloc o7).heap[w.heap.size + 1]? = some o5 ∧ ((((w.alloc o4).alloc o5).alloc o6).alloc o7).heap[w.heap.size + 1 + 1]? = some o6 ∧ ((((w.alloc o4).alloc o5).alloc o6).alloc o7).heap[w.heap.size + 1 + 1 + 1]? = some o7 ∧ ((((w.alloc o4).alloc o5).alloc o6).alloc o7).heap.size = w.heap.size + 4 := by
  obtain ⟨h1, h2, h3, h4⟩ := three_boxes w o4 o5 o6
  have h7 := heap_alloc_new (((w.alloc o4).alloc o5).alloc o6) o7
  rw [show (((w.alloc o4).alloc o5).alloc o6).heap.size = w.heap.size + 1 + 1 + 1 by simp] at h7
  exact ⟨h1.alloc h1.size _, (Below.heap_alloc _ _ _ (heap_lt h2)).trans h2, (Below.heap_alloc _ _ _ (heap_lt h3)).trans h3, (Below.heap_alloc _ _ _ (heap_lt h4)).trans h4, h7, by simp⟩
set_option maxHeartbeats 3200000 in
set_option maxRecDepth 100000 in
theorem count_any (e : Ex) (hn : e.nd ≤ 399) (P : Nat → Prop) (vs : List Value) (w : World) (hv : IsVs w (fun b => P b ∧ b < w.heap.size) e.row vs) :
    Calls Tryz.prog 51 #[.agg vs.toArray] w fun e' w' => ∃ b : Nat, e' = .returned (.agg (cnt (e.sz : Int) (e.dm 1 0) (.slice (some ⟨b, 0, none⟩) 0 1))) ∧ Below w.heap.size w w' := by
  obtain ⟨o1, ho1⟩ : ∃ o : Obj, o = .cells vs.toArray 53 := ⟨_, rfl⟩
  obtain ⟨xk, xp, xn, xm, xl, xps, xal, xds⟩ := e
  obtain ⟨_, a4, a5, a6, a7, b4, b5, b6, b7, rfl, _⟩ := ex_vs hv
  have HV := Lib.hid hv
  clear hv
  go_enter Tryz.func51, Tryz.ntmps51
  obtain ⟨o2, ho2⟩ : ∃ o : Obj, o = .cells #[.int .i64 0, .int .i64 0, .slice none 0 0] 113 := ⟨_, rfl⟩
  obtain ⟨o3, ho3⟩ : ∃ o : Obj, o = .cells #[.int .i64 0, .int .i64 0, .slice (some ⟨w.heap.size + 1 + 1 + 1, 0, none⟩) 1 1] 113 := ⟨_, rfl⟩
  obtain ⟨o4, ho4⟩ : ∃ o : Obj, o = .cells #[.pointer (some ⟨w.heap.size, 0, none⟩), .int .i64 1] 148 := ⟨_, rfl⟩
  obtain ⟨hbW, g1, g2, g3, g4, hsz⟩ := four_boxes w o1 o2 o3 o4
  have HG := Lib.hid (And.intro g1 (And.intro g2 (And.intro g3 g4)))
  have HZ := Lib.hid hsz
  clear g1 g2 g3 g4 hsz
  go_wp2
  rw [← ho1, ← ho2, ← ho3, ← ho4]
  generalize (((w.alloc o1).alloc o2).alloc o3).alloc o4 = W at hbW HG HZ ⊢
  obtain ⟨g1, g2, g3, g4⟩ := HG.out
  have hsz := HZ.out
  have hz : w.heap.size + 1 + 1 + 1 < W.heap.size := by omega
  have hz2 : w.heap.size + 1 + 1 < W.heap.size := by omega
  subst ho1 ho3 ho4
  have k2 : W.cell? ⟨w.heap.size + 1 + 1, 2, none⟩ = some (.slice (some ⟨w.heap.size + 1 + 1 + 1, 0, none⟩) 1 1) := by rw [Lib.cell_of_heap g3]; rfl
  have f2 : W.frozen? ⟨w.heap.size + 1 + 1, 2, none⟩ = false := Lib.frozen_of_heap g3 2
  have l0 : W.cell? ⟨w.heap.size + 1 + 1 + 1, 0, none⟩ = some (.pointer (some ⟨w.heap.size, 0, none⟩)) := by rw [Lib.cell_of_heap g4]; rfl
  have l1 : W.cell? ⟨w.heap.size + 1 + 1 + 1, 1, none⟩ = some (.int .i64 1) := by rw [Lib.cell_of_heap g4]; rfl
  have G1 := Lib.hid g1
  have G2 := Lib.hid g2
  have G3 := Lib.hid g3
  clear g1 g2 g3 g4 HG hsz
  refine wp_loop_rounds 2 ?_
  rw [rounds_succ]
  go_wp2_with fail
  obtain ⟨o5, ho5⟩ : ∃ o : Obj, o = .cells #[.pointer (some ⟨w.heap.size, 0, none⟩), .int .i64 1] 148 := ⟨_, rfl⟩
  rw [← ho5]
  have hX3 : ((W.setCell ⟨w.heap.size + 1 + 1, 2, none⟩ (.slice (some ⟨w.heap.size + 1 + 1 + 1, 0, none⟩) 0 1)).alloc o5).heap[w.heap.size + 1 + 1]? = some (.cells (cnt 0 0 (.slice (some ⟨w.heap.size + 1 + 1 + 1, 0, none⟩) 0 1)) 113 (0, 0)) :=
    (Below.heap_alloc _ _ _ (by simp; omega)).trans (heap_setCell_same _ _ 2 _ _ _ G3.out)
  have hXo : ∀ b : Nat, b < W.heap.size → b ≠ w.heap.size + 1 + 1 → ((W.setCell ⟨w.heap.size + 1 + 1, 2, none⟩ (.slice (some ⟨w.heap.size + 1 + 1 + 1, 0, none⟩) 0 1)).alloc o5).heap[b]? = W.heap[b]? := fun b h1 h2 =>
    (Below.heap_alloc _ _ _ (by simp; omega)).trans (heap_setCell_other _ _ _ _ h2)
  have hbX : Below w.heap.size w ((W.setCell ⟨w.heap.size + 1 + 1, 2, none⟩ (.slice (some ⟨w.heap.size + 1 + 1 + 1, 0, none⟩) 0 1)).alloc o5) := (hbW.setCell (p := ⟨w.heap.size + 1 + 1, 2, none⟩) (by show w.heap.size ≤ w.heap.size + 1 + 1; omega) _).alloc (by simp; omega) _
  have hXz : W.heap.size < ((W.setCell ⟨w.heap.size + 1 + 1, 2, none⟩ (.slice (some ⟨w.heap.size + 1 + 1 + 1, 0, none⟩) 0 1)).alloc o5).heap.size := by simp
  generalize (W.setCell ⟨w.heap.size + 1 + 1, 2, none⟩ (.slice (some ⟨w.heap.size + 1 + 1 + 1, 0, none⟩) 0 1)).alloc o5 = X at hX3 hXo hbX hXz ⊢
  clear k2 f2 l0 l1
  have hXe : IsEx X (fun b => b ≠ w.heap.size + 1 + 1) ⟨w.heap.size, 0, none⟩ (.mk xk xp xn xm xl xps xal xds) := ⟨row_at (IsVs.mono (fun b hb => by have := hb.2; omega) _ _ (IsVs.on hbX _ _ HV.out)) ((hXo _ (by omega) (by omega)).trans G1.out)⟩
  have hsn := Ex.sz_nd (.mk xk xp xn xm xl xps xal xds)
  refine (add_all 399 _ 1 (by omega) (by omega) hn (w.heap.size + 1 + 1) ⟨w.heap.size, 0, none⟩ X 0 0 _ (by show w.heap.size ≠ w.heap.size + 1 + 1; omega) hXe hX3 (by omega) (by omega)).mono ?_
  rintro e' V ⟨rfl, hT⟩
  rw [Int.zero_add] at hT
  have hT3 := hT.at_
  unfold cnt at hT3
  have k0 : V.cell? ⟨w.heap.size + 1 + 1, 0, none⟩ = some (.int .i64 ((Ex.mk xk xp xn xm xl xps xal xds).sz : Int)) := by rw [Lib.cell_of_heap hT3]; rfl
  have k1 : V.cell? ⟨w.heap.size + 1 + 1, 1, none⟩ = some (.int .i64 ((Ex.mk xk xp xn xm xl xps xal xds).dm 1 0)) := by rw [Lib.cell_of_heap hT3]; rfl
  have k2 : V.cell? ⟨w.heap.size + 1 + 1, 2, none⟩ = some (.slice (some ⟨w.heap.size + 1 + 1 + 1, 0, none⟩) 0 1) := by rw [Lib.cell_of_heap hT3]; rfl
  have hT2 : V.heap[w.heap.size + 1]? = some o2 := (hT.other _ (by omega)).trans ((hXo _ (by omega) (by omega)).trans G2.out)
  rw [ho2] at hT2
  have j0 : V.cell? ⟨w.heap.size + 1, 0, none⟩ = some (.int .i64 0) := by rw [Lib.cell_of_heap hT2]; rfl
  have j1 : V.cell? ⟨w.heap.size + 1, 1, none⟩ = some (.int .i64 0) := by rw [Lib.cell_of_heap hT2]; rfl
  have j2 : V.cell? ⟨w.heap.size + 1, 2, none⟩ = some (.slice none 0 0) := by rw [Lib.cell_of_heap hT2]; rfl
  have f0 : V.frozen? ⟨w.heap.size + 1, 0, none⟩ = false := Lib.frozen_of_heap hT2 0
  have f1 : V.frozen? ⟨w.heap.size + 1, 1, none⟩ = false := Lib.frozen_of_heap hT2 1
  have f2 : V.frozen? ⟨w.heap.size + 1, 2, none⟩ = false := Lib.frozen_of_heap hT2 2
  have hbV : Below w.heap.size w V := ⟨hT.rest.2.1.trans hbX.os, hT.rest.2.2.1.trans hbX.tape, hT.rest.2.2.2.trans hbX.output, by have := hT.rest.1; have := hbX.size; omega, fun j hj => (hT.other j (by omega)).trans (hbX.block j hj)⟩
  have HT2 := Lib.hid hT2
  have HBV := Lib.hid hbV
  clear hT hT3 hT2 hX3 hXo hbX hXz hXe G1 G2 G3 hbW HV hbV hsn hn
  go_wp2_with fail
  rw [rounds_succ]
  go_wp2
  have h1 := heap_setCell_same V (w.heap.size + 1) 0 _ _ (.int .i64 ((Ex.mk xk xp xn xm xl xps xal xds).sz : Int)) HT2.out
  have h2 := heap_setCell_same _ (w.heap.size + 1) 1 _ _ (.int .i64 ((Ex.mk xk xp xn xm xl xps xal xds).dm 1 0)) h1
  have h3 := heap_setCell_same _ (w.heap.size + 1) 2 _ _ (.slice (some ⟨w.heap.size + 1 + 1 + 1, 0, none⟩) 0 1) h2
  have hbF := ((HBV.out.setCell (p := ⟨w.heap.size + 1, 0, none⟩) (Nat.le_succ _) (.int .i64 ((Ex.mk xk xp xn xm xl xps xal xds).sz : Int))).setCell (p := ⟨w.heap.size + 1, 1, none⟩) (Nat.le_succ _) (.int .i64 ((Ex.mk xk xp xn xm xl xps xal xds).dm 1 0))).setCell (p := ⟨w.heap.size + 1, 2, none⟩) (Nat.le_succ _) (.slice (some ⟨w.heap.size + 1 + 1 + 1, 0, none⟩) 0 1)
  generalize ((V.setCell ⟨w.heap.size + 1, 0, none⟩ (.int .i64 ((Ex.mk xk xp xn xm xl xps xal xds).sz : Int))).setCell ⟨w.heap.size + 1, 1, none⟩ (.int .i64 ((Ex.mk xk xp xn xm xl xps xal xds).dm 1 0))).setCell ⟨w.heap.size + 1, 2, none⟩ (.slice (some ⟨w.heap.size + 1 + 1 + 1, 0, none⟩) 0 1) = V3 at h3 hbF ⊢
  have r0 : V3.cell? ⟨w.heap.size + 1, 0, none⟩ = some (.int .i64 ((Ex.mk xk xp xn xm xl xps xal xds).sz : Int)) := by rw [Lib.cell_of_heap h3]; rfl
  have r1 : V3.cell? ⟨w.heap.size + 1, 1, none⟩ = some (.int .i64 ((Ex.mk xk xp xn xm xl xps xal xds).dm 1 0)) := by rw [Lib.cell_of_heap h3]; rfl
  have r2 : V3.cell? ⟨w.heap.size + 1, 2, none⟩ = some (.slice (some ⟨w.heap.size + 1 + 1 + 1, 0, none⟩) 0 1) := by rw [Lib.cell_of_heap h3]; rfl
  have HBF := Lib.hid hbF
  clear h1 h2 h3 hbF k0 k1 k2 j0 j1 j2 f0 f1 f2
  exact bodyPost_ret (v := .agg #[.int .i64 ((Ex.mk xk xp xn xm xl xps xal xds).sz : Int), .int .i64 ((Ex.mk xk xp xn xm xl xps xal xds).dm 1 0), .slice (some ⟨w.heap.size + 1 + 1 + 1, 0, none⟩) 0 1]) (by simp [results, Tryz.results51, go_sem, *]) rfl ⟨_, rfl, HBF.out⟩
set_option maxHeartbeats 1600000 in
set_option maxRecDepth 100000 in
theorem size_any (e : Ex) (hn : e.nd ≤ 399) (P : Nat → Prop) (vs : List Value) (w : World) (hv : IsVs w (fun b => P b ∧ b < w.heap.size) e.row vs) :
    Calls Tryz.prog 30 #[.agg vs.toArray] w fun e' w' => e' = .returned (.int .i64 (e.sz : Int)) ∧ Below w.heap.size w w' := by
  obtain ⟨o1, ho1⟩ : ∃ o : Obj, o = .cells vs.toArray 53 := ⟨_, rfl⟩
  have hb1 := bl_alloc o1 (Below.refl w.heap.size w)
  have hv1 := IsVs.on hb1 _ _ hv
  have HV1 := Lib.hid (IsVs.mono (Q := fun b => P b ∧ b < (w.alloc o1).heap.size) (fun b hb => ⟨hb.1, by have := hb.2; simp; omega⟩) _ _ hv1)
  have g1 := heap_alloc_new w o1
  obtain ⟨xk, xp, xn, xm, xl, xps, xal, xds⟩ := e
  obtain ⟨_, a4, a5, a6, a7, b4, b5, b6, b7, rfl, _⟩ := ex_vs hv
  clear hv hv1
  go_enter Tryz.func30, Tryz.ntmps30
  go_upto_region 1 with fail
  rw [← ho1]
  generalize w.alloc o1 = W at hb1 HV1 g1 ⊢
  subst ho1
  have c0 : W.cell? ⟨w.heap.size, 0, none⟩ = some (.int .i64 xk) := by rw [Lib.cell_of_heap g1]; rfl
  have c1 : W.cell? ⟨w.heap.size, 1, none⟩ = some (.int .i64 xp) := by rw [Lib.cell_of_heap g1]; rfl
  have c2 : W.cell? ⟨w.heap.size, 2, none⟩ = some (.string xn) := by rw [Lib.cell_of_heap g1]; rfl
  have c3 : W.cell? ⟨w.heap.size, 3, none⟩ = some (.int .i64 xm) := by rw [Lib.cell_of_heap g1]; rfl
  have c4 : W.cell? ⟨w.heap.size, 4, none⟩ = some (.slice a4 xl.length b4) := by rw [Lib.cell_of_heap g1]; rfl
  have c5 : W.cell? ⟨w.heap.size, 5, none⟩ = some (.slice a5 xps.length b5) := by rw [Lib.cell_of_heap g1]; rfl
  have c6 : W.cell? ⟨w.heap.size, 6, none⟩ = some (.slice a6 xal.length b6) := by rw [Lib.cell_of_heap g1]; rfl
  have c7 : W.cell? ⟨w.heap.size, 7, none⟩ = some (.slice a7 xds.length b7) := by rw [Lib.cell_of_heap g1]; rfl
  clear g1
  go_wp2_with fail
  clear c0 c1 c2 c3 c4 c5 c6 c7
  refine (count_any _ hn P _ W HV1.out).mono ?_
  rintro e' w' ⟨lb, rfl, hb2⟩
  unfold cnt
  have hf0 : ∀ (V : World) (x y : Int) (z : Value), (Instr.field 113 (.agg #[.int .i64 x, .int .i64 y, z]) 0).run Tryz.prog V = .ok (.int .i64 x) V := fun _ _ _ _ => by kernel_rfl
  have hf1 : ∀ (V : World) (x y : Int) (z : Value), (Instr.field 113 (.agg #[.int .i64 x, .int .i64 y, z]) 1).run Tryz.prog V = .ok (.int .i64 y) V := fun _ _ _ _ => by kernel_rfl
  go_wp2
  go_ret
  exact ⟨rfl, hb1.trans (hb2.mono hb1.size)⟩
set_option maxHeartbeats 1600000 in
set_option maxRecDepth 100000 in
theorem deep_any (e : Ex) (hn : e.nd ≤ 399) (P : Nat → Prop) (vs : List Value) (w : World) (hv : IsVs w (fun b => P b ∧ b < w.heap.size) e.row vs) :
    Calls Tryz.prog 31 #[.agg vs.toArray] w fun e' w' => e' = .returned (.int .i64 (e.dm 1 0)) ∧ Below w.heap.size w w' := by
  obtain ⟨o1, ho1⟩ : ∃ o : Obj, o = .cells vs.toArray 53 := ⟨_, rfl⟩
  have hb1 := bl_alloc o1 (Below.refl w.heap.size w)
  have hv1 := IsVs.on hb1 _ _ hv
  have HV1 := Lib.hid (IsVs.mono (Q := fun b => P b ∧ b < (w.alloc o1).heap.size) (fun b hb => ⟨hb.1, by have := hb.2; simp; omega⟩) _ _ hv1)
  have g1 := heap_alloc_new w o1
  obtain ⟨xk, xp, xn, xm, xl, xps, xal, xds⟩ := e
  obtain ⟨_, a4, a5, a6, a7, b4, b5, b6, b7, rfl, _⟩ := ex_vs hv
  clear hv hv1
  go_enter Tryz.func31, Tryz.ntmps31
  go_upto_region 1 with fail
  rw [← ho1]
  generalize w.alloc o1 = W at hb1 HV1 g1 ⊢
  subst ho1
  have c0 : W.cell? ⟨w.heap.size, 0, none⟩ = some (.int .i64 xk) := by rw [Lib.cell_of_heap g1]; rfl
  have c1 : W.cell? ⟨w.heap.size, 1, none⟩ = some (.int .i64 xp) := by rw [Lib.cell_of_heap g1]; rfl
  have c2 : W.cell? ⟨w.heap.size, 2, none⟩ = some (.string xn) := by rw [Lib.cell_of_heap g1]; rfl
  have c3 : W.cell? ⟨w.heap.size, 3, none⟩ = some (.int .i64 xm) := by rw [Lib.cell_of_heap g1]; rfl
  have c4 : W.cell? ⟨w.heap.size, 4, none⟩ = some (.slice a4 xl.length b4) := by rw [Lib.cell_of_heap g1]; rfl
  have c5 : W.cell? ⟨w.heap.size, 5, none⟩ = some (.slice a5 xps.length b5) := by rw [Lib.cell_of_heap g1]; rfl
  have c6 : W.cell? ⟨w.heap.size, 6, none⟩ = some (.slice a6 xal.length b6) := by rw [Lib.cell_of_heap g1]; rfl
  have c7 : W.cell? ⟨w.heap.size, 7, none⟩ = some (.slice a7 xds.length b7) := by rw [Lib.cell_of_heap g1]; rfl
  clear g1
  go_wp2_with fail
  clear c0 c1 c2 c3 c4 c5 c6 c7
  refine (count_any _ hn P _ W HV1.out).mono ?_
  rintro e' w' ⟨lb, rfl, hb2⟩
  unfold cnt
  have hf0 : ∀ (V : World) (x y : Int) (z : Value), (Instr.field 113 (.agg #[.int .i64 x, .int .i64 y, z]) 0).run Tryz.prog V = .ok (.int .i64 x) V := fun _ _ _ _ => by kernel_rfl
  have hf1 : ∀ (V : World) (x y : Int) (z : Value), (Instr.field 113 (.agg #[.int .i64 x, .int .i64 y, z]) 1).run Tryz.prog V = .ok (.int .i64 y) V := fun _ _ _ _ => by kernel_rfl
  go_wp2
  go_ret
  exact ⟨rfl, hb1.trans (hb2.mono hb1.size)⟩
end Go.Proofs.YtkdhoelabomgkaaGreatDoor
