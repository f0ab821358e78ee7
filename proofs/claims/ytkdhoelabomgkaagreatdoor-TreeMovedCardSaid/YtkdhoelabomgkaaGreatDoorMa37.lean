/- Texts of this proof, joined: Moved. No condition. -/
import Derived.Test.YtkdhoelabomgkaaGreatDoorMa34
import Derived.Test.YtkdhoelabomgkaaGreatDoorMa36
/-
  Layer 3, the law's side: moved: an expression at other places.
-/
namespace Go.Proofs.YtkdhoelabomgkaaGreatDoor
set_option linter.unusedVariables false
open Go.ChangeShapes Go.WideShapes Go.ChangeAt Go.RowKit

theorem und_tex : ∃ d, Tryz.prog.underlying 53 = some d ∧ d.isRow = true := ⟨_, Tryz.underlying53, by kernel_rfl⟩
theorem und_tpa : ∃ d, Tryz.prog.underlying 45 = some d ∧ d.isRow = true := ⟨_, Tryz.underlying45, by kernel_rfl⟩
theorem info_tex : (Tryz.prog.info? 53).map (·.size) = some 8 := by kernel_rfl
theorem info_tpa : (Tryz.prog.info? 45).map (·.size) = some 5 := by kernel_rfl
theorem Ex.mvs_len : ∀ (l : List Ex) (b : Int), (Ex.mvs l b).length = l.length
  | [], b => by unfold Ex.mvs; rfl
  | t :: r, b => by unfold Ex.mvs; simp [Ex.mvs_len r]
theorem Al.mvs_len : ∀ (l : List Al) (b : Int), (Al.mvs l b).length = l.length
  | [], b => by unfold Al.mvs; rfl
  | .mk p e :: r, b => by unfold Al.mvs; simp [Al.mvs_len r]
theorem mvs_get : ∀ {l : List Ex} {b : Int} {k : Nat} {t u : Ex}, l[k]? = some t → u = t.mv b → (Ex.mvs l b)[k]? = some u
  | [], b, k, t, u, h, _ => by simp at h
  | x :: r, b, 0, t, u, h, e => by simp at h; subst h e; unfold Ex.mvs; rfl
  | x :: r, b, k + 1, t, u, h, e => by unfold Ex.mvs; rw [List.getElem?_cons_succ]; exact mvs_get (by simpa using h) e
theorem amvs_get : ∀ {l : List Al} {b : Int} {k : Nat} {p : Pa} {t u : Ex}, l[k]? = some (.mk p t) → u = t.mv b → (Al.mvs l b)[k]? = some (.mk p u)
  | [], b, k, p, t, u, h, _ => by simp at h
  | x :: r, b, 0, p, t, u, h, e => by simp at h; subst h e; unfold Al.mvs; rfl
  | .mk q x :: r, b, k + 1, p, t, u, h, e => by unfold Al.mvs; rw [List.getElem?_cons_succ]; exact amvs_get (by simpa using h) e
set_option maxHeartbeats 16000000 in
set_option maxRecDepth 100000 in
theorem moved_step (k p m : Int) (n : ByteArray) (l : List Ex) (ps : List Pa) (al : List Al) (ds : List De) (hes : ∀ t ∈ l, MovE t) (hal : ∀ t ∈ al, MovE t.body') (hll : l.length ≤ 1000000) (hla : al.length ≤ 1000000) : MovE (.mk k p n m l ps al ds) := by
  intro B0 bb vs w hB0 hbb1 hbb2 hv
  obtain ⟨hnm, a4, a5, a6, a7, b4, b5, b6, b7, rfl, h4, h5, h6, h7⟩ := ex_vs hv
  have hm1 : -1000 < bb.tmod 1000 := Int.lt_tmod_of_pos bb (by decide)
  have hm2 : bb.tmod 1000 < 1000 := Int.tmod_lt_of_pos bb (by decide)
  obtain ⟨o1, ho1⟩ : ∃ o : Obj, o = .cells #[.int .i64 k, .int .i64 p, .string n, .int .i64 m, .slice a4 l.length b4, .slice a5 ps.length b5, .slice a6 al.length b6, .slice a7 ds.length b7] 53 := ⟨_, rfl⟩
  obtain ⟨o2, ho2⟩ : ∃ o : Obj, o = .cells #[.int .i64 0, .int .i64 0, .string ⟨#[]⟩, .int .i64 0, .slice none 0 0, .slice none 0 0, .slice none 0 0, .slice none 0 0] 53 := ⟨_, rfl⟩
  have hb1 := ((Below.refl w.heap.size w).alloc (Nat.le_refl _) o1).alloc (by simp) o2
  have hN1 : ((w.alloc o1).alloc o2).heap[w.heap.size]? = some o1 := (Below.heap_alloc _ _ _ (by simp)).trans (heap_alloc_new w o1)
  have hN2 : ((w.alloc o1).alloc o2).heap[w.heap.size + 1]? = some o2 := by
    have := heap_alloc_new (w.alloc o1) o2
    rwa [show (w.alloc o1).heap.size = w.heap.size + 1 by simp] at this
  have hsz : ((w.alloc o1).alloc o2).heap.size = w.heap.size + 2 := by simp
  have H5 := Lib.hid h5
  have H7 := Lib.hid h7
  have H4 := Lib.hid (h4.on hb1)
  have H6 := Lib.hid (h6.on hb1)
  have HE := Lib.hid hes
  have HAl := Lib.hid hal
  clear h4 h5 h6 h7 hes hal hv
  go_enter Tryz.func29, Tryz.ntmps29
  go_upto_region 1 with fail
  rw [← ho1, ← ho2]
  generalize (w.alloc o1).alloc o2 = W at hb1 hN1 hN2 hsz H4 H6 ⊢
  have hN1' := hN1
  rw [ho1] at hN1'
  have c0 : W.cell? ⟨w.heap.size, 0, none⟩ = some (.int .i64 k) := by rw [Lib.cell_of_heap hN1']; rfl
  have c2 : W.cell? ⟨w.heap.size, 2, none⟩ = some (.string n) := by rw [Lib.cell_of_heap hN1']; rfl
  have c3 : W.cell? ⟨w.heap.size, 3, none⟩ = some (.int .i64 m) := by rw [Lib.cell_of_heap hN1']; rfl
  have c5 : W.cell? ⟨w.heap.size, 5, none⟩ = some (.slice a5 ps.length b5) := by rw [Lib.cell_of_heap hN1']; rfl
  have c7 : W.cell? ⟨w.heap.size, 7, none⟩ = some (.slice a7 ds.length b7) := by rw [Lib.cell_of_heap hN1']; rfl
  clear hN1'
  go_upto_region 2 with fail
  clear c0 c2 c3 c5 c7
  have hn4 := heap_alloc_new W (.cells #[.int .i64 k, .int .i64 bb, .string n, .int .i64 m, .slice none 0 0, .slice a5 ps.length b5, .slice none 0 0, .slice a7 ds.length b7] 53)
  have hzA : (W.alloc (.cells #[.int .i64 k, .int .i64 bb, .string n, .int .i64 m, .slice none 0 0, .slice a5 ps.length b5, .slice none 0 0, .slice a7 ds.length b7] 53)).heap.size = W.heap.size + 1 := by simp
  have hbc := bl_alloc (.cells #[.int .i64 k, .int .i64 bb, .string n, .int .i64 m, .slice none 0 0, .slice a5 ps.length b5, .slice none 0 0, .slice a7 ds.length b7] 53) (Below.refl W.heap.size W)
  rw [hsz] at hn4
  obtain ⟨N, hNe⟩ : ∃ N, N = w.heap.size + 2 := ⟨_, rfl⟩
  rw [← hNe] at hn4 ⊢
  generalize W.alloc (.cells #[.int .i64 k, .int .i64 bb, .string n, .int .i64 m, .slice none 0 0, .slice a5 ps.length b5, .slice none 0 0, .slice a7 ds.length b7] 53) = wc at hn4 hzA hbc ⊢
  have hNW : W.heap.size ≤ N := by omega
  have hNlt : N < wc.heap.size := by omega
  have HW1 := Lib.hid ((hbc.block _ (heap_lt hN1)).trans hN1)
  have HW2 := Lib.hid ((hbc.block _ (heap_lt hN2)).trans hN2)
  have hWs : w.heap.size + 2 = W.heap.size := hsz.symm
  have HNc := Lib.hid hn4
  have hsl : (l.length : Int) ≤ 9223372036854775807 := by omega
  have hsl2 : (al.length : Int) ≤ 9223372036854775807 := by omega
  obtain ⟨i0, hi, hz0, hz1, hz2⟩ := info_parts' info_ex
  clear hN1 hN2 hsz hn4 hNe
  go_wp2_with fail
  go_loopw [6] (fun iv wr => ∃ (k1 : Nat) (xv : Value) (vals : List Value), k1 ≤ l.length ∧ iv = .int .i64 k1 ∧ Hid (wr.heap[N]? = some (.cells #[.int .i64 k, .int .i64 bb, .string n, .int .i64 m, xv, .slice a5 ps.length b5, .slice none 0 0, .slice a7 ds.length b7] 53 (0, 0))) ∧ wr.ownsRow wc.heap.size 53 8 xv k1 vals ∧ Hid (Gath2 B0 Ex.row 8 wc.heap.size wr xv (Ex.mvs l (bb.tmod 1000 + 1)) k1 vals) ∧ Hid (∀ b : Nat, b < wc.heap.size → b ≠ N → wr.heap[b]? = wc.heap[b]?) ∧ Below W.heap.size W wr ∧ wc.heap.size ≤ wr.heap.size) (fun iv _ => l.length - (intOf iv).toNat)
  case atStart => exact ⟨0, _, [], Nat.zero_le _, rfl, HNc, World.ownsRow_nil _ _ _ _, Lib.hid (fun j t hj => by omega), Lib.hid (fun _ _ _ => rfl), hbc, Nat.le_refl _⟩
  case round =>
    obtain ⟨k1, xv, vals, hk1, rfl, HX, hown, HG, HKp, hbr, hszr⟩ := hrel
    have hwS : wr.heap[w.heap.size]? = some o1 := (HKp.out _ (by omega) (by omega)).trans HW1.out
    by_cases hlt : k1 < l.length
    · have k1i : (k1 : Int) < l.length := by omega
      obtain ⟨t, ht⟩ : ∃ t, l[k1]? = some t := ⟨l[k1], List.getElem?_eq_getElem hlt⟩
      obtain ⟨a, rfl, _, hrow⟩ := H4.out.at ht
      obtain ⟨xs, hx1, hx2⟩ := row_load (hrow.on hbr).out 53 und_tex (by rw [Ex.row_len]; exact info_tex)
      have HOE := Lib.hid (HE.out t (List.mem_of_getElem? ht))
      have HT := Lib.hid ht
      have cN : wr.cell? ⟨N, 4, none⟩ = some xv := by rw [Lib.cell_of_heap HX.out]; rfl
      have cS : wr.cell? ⟨w.heap.size, 4, none⟩ = some (.slice (some a) l.length b4) := by rw [ho1] at hwS; rw [Lib.cell_of_heap hwS]; rfl
      have HF : Hid (∀ V : World, Below wr.heap.size wr V → V.cell? ⟨N, 4, none⟩ = some xv ∧ V.cell? ⟨w.heap.size, 4, none⟩ = some (.slice (some a) l.length b4) ∧ (loadVar 53 (a.add (k1 * 8))).run Tryz.prog V = .ok (.agg xs.toArray) V) := Lib.hid (fun V hV => ⟨(hV.cell (Lib.lt_of_cell cN)).trans cN, (hV.cell (Lib.lt_of_cell cS)).trans cS, hx2 V hV⟩)
      have HVS := Lib.hid hx1
      clear hrow ht cN hwS hx1 hx2
      go_wp2
      clear cS
      have hw0 : Below wr.heap.size wr wr.drew := (Below.refl _ _).drew
      refine wp_region_gate (fun V => V.cell? ⟨N, 4, none⟩ = some xv ∧ V.cell? ⟨w.heap.size, 4, none⟩ = some (.slice (some a) l.length b4) ∧ (loadVar 53 (a.add (k1 * 8))).run Tryz.prog V = .ok (.agg xs.toArray) V) 12 (by kernel_rfl) (HF.out _ hw0) ?_
      change AtG _ _ _ _ _ _ _ _ _ wr.drew
      have hz0' : wr.drew.heap.size = wr.heap.size := rfl
      have hh0 : ∀ b : Nat, wr.drew.heap[b]? = wr.heap[b]? := fun b => rfl
      have HH0 := Lib.hid hh0
      clear hh0
      generalize wr.drew = W0 at hw0 hz0' HH0 ⊢
      refine G_take (i := 0) (v := ?_) rfl (by kernel_rfl) (fun _ _ _ h => h) (Or.inl ⟨by rfl, fun V hV => ?_⟩) ?_
      rotate_left
      · obtain ⟨cN, cS, _⟩ := hV; go_simp; with_reducible rfl
      simp only [Act.put, List.setIfInBounds_toArray, List.set_cons_zero, List.set_cons_succ]
      refine G_take (i := 1) (v := ?_) rfl (by kernel_rfl) (fun _ _ _ h => h) (Or.inl ⟨by rfl, fun V hV => ?_⟩) ?_
      rotate_left
      · obtain ⟨cN, cS, _⟩ := hV; go_simp; with_reducible rfl
      simp only [Act.put, List.setIfInBounds_toArray, List.set_cons_zero, List.set_cons_succ]
      refine G_take (i := 2) (v := ?_) rfl (by kernel_rfl) (fun _ _ _ h => h) (Or.inl ⟨by rfl, fun V hV => ?_⟩) ?_
      rotate_left
      · obtain ⟨cN, cS, _⟩ := hV; go_simp; with_reducible rfl
      simp only [Act.put, List.setIfInBounds_toArray, List.set_cons_zero, List.set_cons_succ]
      refine G_take (i := 3) (v := ?_) rfl (by kernel_rfl) (fun _ _ _ h => h) (Or.inl ⟨by rfl, fun V hV => ?_⟩) ?_
      rotate_left
      · obtain ⟨cN, cS, _⟩ := hV; go_simp; with_reducible rfl
      simp only [Act.put, List.setIfInBounds_toArray, List.set_cons_zero, List.set_cons_succ]
      refine G_pure (i := 4) (v := ?_) rfl (by kernel_rfl) (fun _ _ _ h => h) (Or.inl ⟨by rfl, fun V hV => ?_⟩) ?_
      rotate_left
      · go_simp; with_reducible rfl
      simp only [Act.put, List.setIfInBounds_toArray, List.set_cons_zero, List.set_cons_succ]
      refine G_take (i := 5) (v := ?_) rfl (by kernel_rfl) (fun _ _ _ h => h) (Or.inl ⟨by rfl, fun V hV => ?_⟩) ?_
      rotate_left
      · obtain ⟨cN, cS, _⟩ := hV; go_simp; with_reducible rfl
      simp only [Act.put, List.setIfInBounds_toArray, List.set_cons_zero, List.set_cons_succ]
      refine G_take (i := 6) rfl (by kernel_rfl) (fun _ _ _ h => h) (yields_load 53 _ rfl (a.add (k1 * 8)) rfl xs.toArray (fun V hV => hV.2.2) rfl) ?_
      simp only [Act.put, List.setIfInBounds_toArray, List.set_cons_zero, List.set_cons_succ]
      refine G_pure (i := 7) (v := ?_) rfl (by kernel_rfl) (fun _ _ _ h => h) (Or.inl ⟨by rfl, fun V hV => ?_⟩) ?_
      rotate_left
      · go_simp; with_reducible rfl
      simp only [Act.put, List.setIfInBounds_toArray, List.set_cons_zero, List.set_cons_succ]
      refine G_pure (i := 8) (v := ?_) rfl (by kernel_rfl) (fun _ _ _ h => h) (Or.inl ⟨by rfl, fun V hV => ?_⟩) ?_
      rotate_left
      · go_simp; with_reducible rfl
      simp only [Act.put, List.setIfInBounds_toArray, List.set_cons_zero, List.set_cons_succ]
      refine G_pure (i := 9) (v := ?_) rfl (by kernel_rfl) (fun _ _ _ h => h) (Or.inl ⟨by rfl, fun V hV => ?_⟩) ?_
      rotate_left
      · go_simp; with_reducible rfl
      simp only [Act.put, List.setIfInBounds_toArray, List.set_cons_zero, List.set_cons_succ]
      refine G_one (k := 10) rfl (by kernel_rfl) (fun K hK => ?_)
      have HK := Lib.hid hK
      clear hK
      go_wp2_with fail
      refine (HOE.out B0 (bb.tmod 1000 + 1) xs W0 (by have := hbr.size; have := hb1.size; omega) (by omega) (by omega) (IsVs.on hw0 _ _ HVS.out)).mono ?_
      rintro e W1 ⟨vs', rfl, hvs', hb01⟩
      obtain ⟨⟨tk, tp, tn, tm, tl, tps, tal, tds⟩, hmv⟩ : ∃ u, u = t.mv (bb.tmod 1000 + 1) := ⟨_, rfl⟩
      rw [← hmv] at hvs'
      obtain ⟨_, h4, h5, h6, h7, i4, i5, i6, i7, rfl, _, _, _, _⟩ := ex_vs hvs'
      have HVS' := Lib.hid hvs'
      have HMV := Lib.hid hmv
      have hw1 : Below wr.heap.size wr W1 := hw0.trans (hb01.mono hw0.size)
      clear hvs' hmv
      go_wp2
      refine HK.out _ _ (fun _ => HF.out _ hw1) ?_
      clear HK K
      refine G_one (k := 11) rfl (by kernel_rfl) (fun K hK => ?_)
      have HK := Lib.hid hK
      clear hK
      go_wp2
      refine HK.out _ _ (fun _ => HF.out _ (bl_alloc _ hw1)) ?_
      clear HK K
      refine G_one (k := 12) rfl (by kernel_rfl) (fun K hK => ?_)
      have HK := Lib.hid hK
      clear hK
      have hown1 : W1.ownsRow wc.heap.size 53 8 xv k1 vals := owns_move hown (fun b _ hb => (hb01.block b (by omega)).trans (HH0.out b))
      have hsz1 := hw1.size
      have hlen1 := hown1.1
      go_wp2_with (at_builtin; refine wpList_append_own_at _ rfl _ _ 49 rfl wc.heap.size 53 i0 _ 8 136 Tryz.underlying49 hi hz0 hz1 hz2 rfl (by decide) _ _ _ rfl (hown1.alloc _) ⟨W1.heap.size, 0, none⟩ 1 1 [.int .i64 tk, .int .i64 tp, .string tn, .int .i64 tm, .slice h4 tl.length i4, .slice h5 tps.length i5, .slice h6 tal.length i6, .slice h7 tds.length i7] rfl rfl (cells_new _ [.int .i64 tk, .int .i64 tp, .string tn, .int .i64 tm, .slice h4 tl.length i4, .slice h5 tps.length i5, .slice h6 tal.length i6, .slice h7 tds.length i7] _) (by simp [Value.oneCell']) (by unfold maxLen; omega) (by omega) (by simp; omega) ?_; intro v2' W2 hown2 hgrow _ hat)
      have hgrow' : (W1.alloc (.cells #[.int .i64 tk, .int .i64 tp, .string tn, .int .i64 tm, .slice h4 tl.length i4, .slice h5 tps.length i5, .slice h6 tal.length i6, .slice h7 tds.length i7] 53)).grownBy W2 xv.ownBlock := hgrow
      have hat' : v2'.ownBlock = xv.ownBlock ∨ v2'.ownBlock = some (W1.alloc (.cells #[.int .i64 tk, .int .i64 tp, .string tn, .int .i64 tm, .slice h4 tl.length i4, .slice h5 tps.length i5, .slice h6 tal.length i6, .slice h7 tds.length i7] 53)).heap.size := hat
      have hG0 : Gath2 B0 Ex.row 8 wc.heap.size W0 xv (Ex.mvs l (bb.tmod 1000 + 1)) k1 vals := HG.out.move (fun b _ _ => HH0.out b) hz0'
      have HG2 := Lib.hid (hG0.next (by omega) (by omega) (mvs_get HT.out HMV.out) hlen1 rfl HVS'.out (fun g hg => by have := hown.lt g hg; omega) hb01 hgrow' hat')
      have hkeep : ∀ b : Nat, b < wc.heap.size → W2.heap[b]? = wr.heap[b]? := fun b hb => by
        rw [hgrow'.block b (by simp; omega) (fun e => by have := (hown.lt b e.symm).1; omega), Below.heap_alloc _ _ _ (by omega), hb01.block b (by omega)]
        exact HH0.out b
      have HKP := Lib.hid hkeep
      have hsz2 : W1.heap.size + 1 ≤ W2.heap.size := by have := hgrow'.size; simpa using this
      have n2 : W2.heap[N]? = some (.cells #[.int .i64 k, .int .i64 bb, .string n, .int .i64 m, xv, .slice a5 ps.length b5, .slice none 0 0, .slice a7 ds.length b7] 53 (0, 0)) := (hkeep N hNlt).trans HX.out
      have hb2 : Below W.heap.size W W2 := ((hbr.trans (hw1.mono hbr.size)).alloc (by have := hbr.size; omega) _).grown hgrow' (by simp; have := hbr.size; omega) (fun j hj => by have := (hown.lt j hj).1; have := hbc.size; omega)
      clear hgrow hgrow' hat hat' hown hown1 hG0 hkeep
      go_wp2
      refine HK.out _ _ (fun h => absurd (h.symm.trans (by kernel_rfl : _ = true)) Bool.false_ne_true) ?_
      clear HK K
      refine G_one (k := 13) rfl (by kernel_rfl) (fun K hK => ?_)
      have HK := Lib.hid hK
      clear hK
      go_wp2
      refine HK.out _ _ (fun h => absurd (h.symm.trans (by kernel_rfl : _ = true)) Bool.false_ne_true) ?_
      clear HK K
      obtain ⟨r4, s4, rfl⟩ := owns_form hown2
      refine G_one (k := 14) rfl (by kernel_rfl) (fun K hK => ?_)
      have HK := Lib.hid hK
      clear hK
      have cN2 : W2.cell? ⟨N, 4, none⟩ = some xv := by rw [Lib.cell_of_heap n2]; rfl
      have fN2 : W2.frozen? ⟨N, 4, none⟩ = false := Lib.frozen_of_heap n2 4
      have n3 : (W2.setCell ⟨N, 4, none⟩ (.slice r4 (k1 + 1) s4)).heap[N]? = some (.cells #[.int .i64 k, .int .i64 bb, .string n, .int .i64 m, (.slice r4 (k1 + 1) s4), .slice a5 ps.length b5, .slice none 0 0, .slice a7 ds.length b7] 53 (0, 0)) := heap_setCell_same _ N 4 _ _ (.slice r4 (k1 + 1) s4) n2
      have HN3 := Lib.hid n3
      have ho3 : ∀ b : Nat, b ≠ N → (W2.setCell ⟨N, 4, none⟩ (.slice r4 (k1 + 1) s4)).heap[b]? = W2.heap[b]? := fun b hb => heap_setCell_other _ _ _ _ hb
      have HO3 := Lib.hid ho3
      have hz3 : (W2.setCell ⟨N, 4, none⟩ (.slice r4 (k1 + 1) s4)).heap.size = W2.heap.size := by simp
      have hb3 := hb2.setCell (p := ⟨N, 4, none⟩) hNW (.slice r4 (k1 + 1) s4)
      clear n2 n3 ho3
      go_wp2
      generalize W2.setCell ⟨N, 4, none⟩ (.slice r4 (k1 + 1) s4) = W3 at HN3 HO3 hz3 hb3 ⊢
      refine HK.out _ _ (fun h => absurd (h.symm.trans (by kernel_rfl : _ = true)) Bool.false_ne_true) ?_
      clear HK K cN2 fN2
      refine G_done (by kernel_rfl) ?_
      have hown3 : W3.ownsRow wc.heap.size 53 8 (.slice r4 (k1 + 1) s4) (k1 + 1) (vals ++ [.int .i64 tk, .int .i64 tp, .string tn, .int .i64 tm, .slice h4 tl.length i4, .slice h5 tps.length i5, .slice h6 tal.length i6, .slice h7 tds.length i7]) := owns_move hown2 (fun b hb _ => HO3.out b (by omega))
      have HG3 := Lib.hid (HG2.out.move (fun b hb _ => HO3.out b (by omega)) hz3)
      have HKp3 : Hid (∀ b : Nat, b < wc.heap.size → b ≠ N → W3.heap[b]? = wc.heap[b]?) := Lib.hid (fun b hb hbN => (HO3.out b hbN).trans ((HKP.out b hb).trans (HKp.out b hb hbN)))
      clear hown2
      go_wp2
      go_roundw
      case rel => exact ⟨k1 + 1, _, _, by omega, by go_num, HN3, hown3, HG3, HKp3, hb3, by omega⟩
      case measure => simp [intOf]; omega
    · have hkk : k1 = l.length := by omega
      have k1i : ¬ (k1 : Int) < l.length := by omega
      subst hkk
      have cS : wr.cell? ⟨w.heap.size, 4, none⟩ = some (.slice a4 l.length b4) := by rw [ho1] at hwS; rw [Lib.cell_of_heap hwS]; rfl
      have HSS := Lib.hid hwS
      have hln : l.length = (Ex.mvs l (bb.tmod 1000 + 1)).length := (Ex.mvs_len l _).symm
      have HGd := HG.out
      have hownd := hown
      rw [hln] at HGd hownd
      have HD1 := Lib.hid (HGd.done hownd)
      obtain ⟨x4, y4, rfl⟩ := owns_form hown
      obtain ⟨w2, hw2r⟩ : ∃ V, V = wr := ⟨_, rfl⟩
      have HNL := Lib.hid HX.out
      clear hwS HX hown HG HGd hownd hln
      go_wp2
      subst hw2r
      have hNlt2 : N < w2.heap.size := by omega
      obtain ⟨j0, hj, hj0, hj1, hj2⟩ := info_parts' info_al
      clear cS
      go_loopw [7] (fun iv wr => ∃ (k2 : Nat) (yv : Value) (vals : List Value), k2 ≤ al.length ∧ iv = .int .i64 k2 ∧ Hid (wr.heap[N]? = some (.cells #[.int .i64 k, .int .i64 bb, .string n, .int .i64 m, .slice x4 l.length y4, .slice a5 ps.length b5, yv, .slice a7 ds.length b7] 53 (0, 0))) ∧ wr.ownsRow w2.heap.size 86 13 yv k2 vals ∧ Hid (Gath2 B0 Al.row 13 w2.heap.size wr yv (Al.mvs al (bb.tmod 1000 + 2)) k2 vals) ∧ Hid (∀ b : Nat, b < w2.heap.size → b ≠ N → wr.heap[b]? = w2.heap[b]?) ∧ Below W.heap.size W wr ∧ w2.heap.size ≤ wr.heap.size) (fun iv _ => al.length - (intOf iv).toNat)
      case atStart => exact ⟨0, _, [], Nat.zero_le _, rfl, HNL, World.ownsRow_nil _ _ _ _, Lib.hid (fun j t hj => by omega), Lib.hid (fun _ _ _ => rfl), hbr, Nat.le_refl _⟩
      case round =>
        obtain ⟨k2, yv, vals, hk2, rfl, HX, hown, HG, HKp2, hbr2, hszr2⟩ := hrel
        have hwS : wr.heap[w.heap.size]? = some o1 := (HKp2.out _ (by omega) (by omega)).trans HSS.out
        by_cases hlt2 : k2 < al.length
        · have k2i : (k2 : Int) < al.length := by omega
          obtain ⟨t, ht⟩ : ∃ t, al[k2]? = some t := ⟨al[k2], List.getElem?_eq_getElem hlt2⟩
          obtain ⟨a, rfl, _, hrow⟩ := H6.out.at ht
          have HOA := Lib.hid (HAl.out t (List.mem_of_getElem? ht))
          obtain ⟨⟨pk, pp, pn, pm, pl⟩, te⟩ := t
          have HOA : Hid (MovE te) := Lib.hid HOA.out
          obtain ⟨hpa, hex⟩ := (hrow.on hbr2).parts
          obtain ⟨qs, hq1, hq2⟩ := row_load hpa.out 45 und_tpa (by rw [Pa.row_len]; exact info_tpa)
          obtain ⟨xs, hx1, hx2⟩ := row_load hex.out 53 und_tex (by rw [Ex.row_len]; exact info_tex)
          obtain ⟨qa, qb, rfl, hpn, hpl⟩ := pa_vs hq1
          have HT := Lib.hid ht
          have cN : wr.cell? ⟨N, 6, none⟩ = some yv := by rw [Lib.cell_of_heap HX.out]; rfl
          have cS : wr.cell? ⟨w.heap.size, 6, none⟩ = some (.slice (some a) al.length b6) := by rw [ho1] at hwS; rw [Lib.cell_of_heap hwS]; rfl
          have HF : Hid (∀ V : World, Below wr.heap.size wr V → V.cell? ⟨N, 6, none⟩ = some yv ∧ V.cell? ⟨w.heap.size, 6, none⟩ = some (.slice (some a) al.length b6) ∧ (loadVar 45 (a.add (k2 * 13))).run Tryz.prog V = .ok (.agg #[.int .i64 pk, .int .i64 pp, .string pn, .int .i64 pm, .slice qa pl.length qb]) V ∧ (loadVar 53 ((a.add (k2 * 13)).add 5)).run Tryz.prog V = .ok (.agg xs.toArray) V) := Lib.hid (fun V hV => ⟨(hV.cell (Lib.lt_of_cell cN)).trans cN, (hV.cell (Lib.lt_of_cell cS)).trans cS, hq2 V hV, hx2 V hV⟩)
          have HVS := Lib.hid hx1
          have HVP := Lib.hid hq1
          clear hrow hpa hex ht cN hwS hx1 hx2 hq1 hq2 hpl
          go_wp2
          clear cS
          have hw0 : Below wr.heap.size wr wr.drew := (Below.refl _ _).drew
          refine wp_region_gate (fun V => V.cell? ⟨N, 6, none⟩ = some yv ∧ V.cell? ⟨w.heap.size, 6, none⟩ = some (.slice (some a) al.length b6) ∧ (loadVar 45 (a.add (k2 * 13))).run Tryz.prog V = .ok (.agg #[.int .i64 pk, .int .i64 pp, .string pn, .int .i64 pm, .slice qa pl.length qb]) V ∧ (loadVar 53 ((a.add (k2 * 13)).add 5)).run Tryz.prog V = .ok (.agg xs.toArray) V) 20 (by kernel_rfl) (HF.out _ hw0) ?_
          change AtG _ _ _ _ _ _ _ _ _ wr.drew
          have hz0' : wr.drew.heap.size = wr.heap.size := rfl
          have hh0 : ∀ b : Nat, wr.drew.heap[b]? = wr.heap[b]? := fun b => rfl
          have HH0 := Lib.hid hh0
          clear hh0
          generalize wr.drew = W0 at hw0 hz0' HH0 ⊢
          refine G_take (i := 0) (v := ?_) rfl (by kernel_rfl) (fun _ _ _ h => h) (Or.inl ⟨by rfl, fun V hV => ?_⟩) ?_
          rotate_left
          · obtain ⟨cN, cS, _⟩ := hV; go_simp; with_reducible rfl
          simp only [Act.put, List.setIfInBounds_toArray, List.set_cons_zero, List.set_cons_succ]
          refine G_take (i := 1) (v := ?_) rfl (by kernel_rfl) (fun _ _ _ h => h) (Or.inl ⟨by rfl, fun V hV => ?_⟩) ?_
          rotate_left
          · obtain ⟨cN, cS, _⟩ := hV; go_simp; with_reducible rfl
          simp only [Act.put, List.setIfInBounds_toArray, List.set_cons_zero, List.set_cons_succ]
          refine G_take (i := 2) (v := ?_) rfl (by kernel_rfl) (fun _ _ _ h => h) (Or.inl ⟨by rfl, fun V hV => ?_⟩) ?_
          rotate_left
          · obtain ⟨cN, cS, _⟩ := hV; go_simp; with_reducible rfl
          simp only [Act.put, List.setIfInBounds_toArray, List.set_cons_zero, List.set_cons_succ]
          refine G_take (i := 3) (v := ?_) rfl (by kernel_rfl) (fun _ _ _ h => h) (Or.inl ⟨by rfl, fun V hV => ?_⟩) ?_
          rotate_left
          · obtain ⟨cN, cS, _⟩ := hV; go_simp; with_reducible rfl
          simp only [Act.put, List.setIfInBounds_toArray, List.set_cons_zero, List.set_cons_succ]
          refine G_pure (i := 4) (v := ?_) rfl (by kernel_rfl) (fun _ _ _ h => h) (Or.inl ⟨by rfl, fun V hV => ?_⟩) ?_
          rotate_left
          · go_simp; with_reducible rfl
          simp only [Act.put, List.setIfInBounds_toArray, List.set_cons_zero, List.set_cons_succ]
          refine G_take (i := 5) (v := ?_) rfl (by kernel_rfl) (fun _ _ _ h => h) (Or.inl ⟨by rfl, fun V hV => ?_⟩) ?_
          rotate_left
          · obtain ⟨cN, cS, _⟩ := hV; go_simp; with_reducible rfl
          simp only [Act.put, List.setIfInBounds_toArray, List.set_cons_zero, List.set_cons_succ]
          refine G_take (i := 6) (v := ?_) rfl (by kernel_rfl) (fun _ _ _ h => h) (Or.inl ⟨by rfl, fun V hV => ?_⟩) ?_
          rotate_left
          · obtain ⟨cN, cS, _⟩ := hV; go_simp; with_reducible rfl
          simp only [Act.put, List.setIfInBounds_toArray, List.set_cons_zero, List.set_cons_succ]
          refine G_take (i := 7) rfl (by kernel_rfl) (fun _ _ _ h => h) (yields_load 45 _ rfl (a.add (k2 * 13)) rfl #[.int .i64 pk, .int .i64 pp, .string pn, .int .i64 pm, .slice qa pl.length qb] (fun V hV => hV.2.2.1) rfl) ?_
          simp only [Act.put, List.setIfInBounds_toArray, List.set_cons_zero, List.set_cons_succ]
          refine G_take (i := 8) (v := ?_) rfl (by kernel_rfl) (fun _ _ _ h => h) (Or.inl ⟨by rfl, fun V hV => ?_⟩) ?_
          rotate_left
          · obtain ⟨cN, cS, _⟩ := hV; go_simp; with_reducible rfl
          simp only [Act.put, List.setIfInBounds_toArray, List.set_cons_zero, List.set_cons_succ]
          refine G_take (i := 9) (v := ?_) rfl (by kernel_rfl) (fun _ _ _ h => h) (Or.inl ⟨by rfl, fun V hV => ?_⟩) ?_
          rotate_left
          · obtain ⟨cN, cS, _⟩ := hV; go_simp; with_reducible rfl
          simp only [Act.put, List.setIfInBounds_toArray, List.set_cons_zero, List.set_cons_succ]
          refine G_pure (i := 10) (v := ?_) rfl (by kernel_rfl) (fun _ _ _ h => h) (Or.inl ⟨by rfl, fun V hV => ?_⟩) ?_
          rotate_left
          · go_simp; with_reducible rfl
          simp only [Act.put, List.setIfInBounds_toArray, List.set_cons_zero, List.set_cons_succ]
          refine G_take (i := 11) (v := ?_) rfl (by kernel_rfl) (fun _ _ _ h => h) (Or.inl ⟨by rfl, fun V hV => ?_⟩) ?_
          rotate_left
          · obtain ⟨cN, cS, _⟩ := hV; go_simp; with_reducible rfl
          simp only [Act.put, List.setIfInBounds_toArray, List.set_cons_zero, List.set_cons_succ]
          refine G_take (i := 12) (v := ?_) rfl (by kernel_rfl) (fun _ _ _ h => h) (Or.inl ⟨by rfl, fun V hV => ?_⟩) ?_
          rotate_left
          · obtain ⟨cN, cS, _⟩ := hV; go_simp; with_reducible rfl
          simp only [Act.put, List.setIfInBounds_toArray, List.set_cons_zero, List.set_cons_succ]
          refine G_take (i := 13) rfl (by kernel_rfl) (fun _ _ _ h => h) (yields_load 53 _ rfl ((a.add (k2 * 13)).add 5) rfl xs.toArray (fun V hV => hV.2.2.2) rfl) ?_
          simp only [Act.put, List.setIfInBounds_toArray, List.set_cons_zero, List.set_cons_succ]
          refine G_pure (i := 14) (v := ?_) rfl (by kernel_rfl) (fun _ _ _ h => h) (Or.inl ⟨by rfl, fun V hV => ?_⟩) ?_
          rotate_left
          · go_simp; with_reducible rfl
          simp only [Act.put, List.setIfInBounds_toArray, List.set_cons_zero, List.set_cons_succ]
          refine G_pure (i := 15) (v := ?_) rfl (by kernel_rfl) (fun _ _ _ h => h) (Or.inl ⟨by rfl, fun V hV => ?_⟩) ?_
          rotate_left
          · go_simp; with_reducible rfl
          simp only [Act.put, List.setIfInBounds_toArray, List.set_cons_zero, List.set_cons_succ]
          refine G_pure (i := 16) (v := ?_) rfl (by kernel_rfl) (fun _ _ _ h => h) (Or.inl ⟨by rfl, fun V hV => ?_⟩) ?_
          rotate_left
          · go_simp; with_reducible rfl
          simp only [Act.put, List.setIfInBounds_toArray, List.set_cons_zero, List.set_cons_succ]
          refine G_one (k := 17) rfl (by kernel_rfl) (fun K hK => ?_)
          have HK := Lib.hid hK
          clear hK
          go_wp2_with fail
          refine (HOA.out B0 (bb.tmod 1000 + 2) xs W0 (by have := hbr2.size; have := hb1.size; omega) (by omega) (by omega) (IsVs.on hw0 _ _ HVS.out)).mono ?_
          rintro e W1 ⟨vs', rfl, hvs', hb01⟩
          obtain ⟨⟨tk, tp, tn, tm, tl, tps, tal, tds⟩, hmv⟩ : ∃ u, u = te.mv (bb.tmod 1000 + 2) := ⟨_, rfl⟩
          rw [← hmv] at hvs'
          obtain ⟨_, h4, h5, h6, h7, i4, i5, i6, i7, rfl, _, _, _, _⟩ := ex_vs hvs'
          have hw1 : Below wr.heap.size wr W1 := hw0.trans (hb01.mono hw0.size)
          have HVS' : Hid (IsVs W1 (Mine B0 W0 W1) (Al.row (.mk (.mk pk pp pn pm pl) (.mk tk tp tn tm tl tps tal tds))) [.int .i64 pk, .int .i64 pp, .string pn, .int .i64 pm, .slice qa pl.length qb, .int .i64 tk, .int .i64 tp, .string tn, .int .i64 tm, .slice h4 tl.length i4, .slice h5 tps.length i5, .slice h6 tal.length i6, .slice h7 tds.length i7]) := Lib.hid (by
            unfold Al.row
            refine IsVs.join _ _ [.int .i64 pk, .int .i64 pp, .string pn, .int .i64 pm, .slice qa pl.length qb] _ ?_ hvs'
            exact IsVs.mono (fun b hb => .inl hb) _ _ (IsVs.on hw1 _ _ HVP.out))
          have HMV := Lib.hid hmv
          clear hvs' hmv
          go_wp2
          refine HK.out _ _ (fun _ => HF.out _ hw1) ?_
          clear HK K
          refine G_pure (i := 18) (v := ?_) rfl (by kernel_rfl) (fun _ _ _ h => h) (Or.inl ⟨by rfl, fun V hV => ?_⟩) ?_
          rotate_left
          · go_simp; with_reducible rfl
          simp only [Act.put, List.setIfInBounds_toArray, List.set_cons_zero, List.set_cons_succ]
          refine G_one (k := 19) rfl (by kernel_rfl) (fun K hK => ?_)
          have HK := Lib.hid hK
          clear hK
          go_wp2
          refine HK.out _ _ (fun _ => HF.out _ (bl_alloc _ hw1)) ?_
          clear HK K
          refine G_one (k := 20) rfl (by kernel_rfl) (fun K hK => ?_)
          have HK := Lib.hid hK
          clear hK
          have hown1 : W1.ownsRow w2.heap.size 86 13 yv k2 vals := owns_move hown (fun b _ hb => (hb01.block b (by omega)).trans (HH0.out b))
          have hsz1 := hw1.size
          have hlen1 := hown1.1
          go_wp2_with (at_builtin; refine wpList_append_own_at _ rfl _ _ 50 rfl w2.heap.size 86 j0 _ 13 200 Tryz.underlying50 hj hj0 hj1 hj2 rfl (by decide) _ _ _ rfl (hown1.alloc _) ⟨W1.heap.size, 0, none⟩ 1 1 [.int .i64 pk, .int .i64 pp, .string pn, .int .i64 pm, .slice qa pl.length qb, .int .i64 tk, .int .i64 tp, .string tn, .int .i64 tm, .slice h4 tl.length i4, .slice h5 tps.length i5, .slice h6 tal.length i6, .slice h7 tds.length i7] rfl rfl (cells_new _ [.int .i64 pk, .int .i64 pp, .string pn, .int .i64 pm, .slice qa pl.length qb, .int .i64 tk, .int .i64 tp, .string tn, .int .i64 tm, .slice h4 tl.length i4, .slice h5 tps.length i5, .slice h6 tal.length i6, .slice h7 tds.length i7] _) (by simp [Value.oneCell']) (by unfold maxLen; omega) (by omega) (by simp; omega) ?_; intro v2' W2 hown2 hgrow _ hat)
          have hgrow' : (W1.alloc (.cells #[.int .i64 pk, .int .i64 pp, .string pn, .int .i64 pm, .slice qa pl.length qb, .int .i64 tk, .int .i64 tp, .string tn, .int .i64 tm, .slice h4 tl.length i4, .slice h5 tps.length i5, .slice h6 tal.length i6, .slice h7 tds.length i7] 86)).grownBy W2 yv.ownBlock := hgrow
          have hat' : v2'.ownBlock = yv.ownBlock ∨ v2'.ownBlock = some (W1.alloc (.cells #[.int .i64 pk, .int .i64 pp, .string pn, .int .i64 pm, .slice qa pl.length qb, .int .i64 tk, .int .i64 tp, .string tn, .int .i64 tm, .slice h4 tl.length i4, .slice h5 tps.length i5, .slice h6 tal.length i6, .slice h7 tds.length i7] 86)).heap.size := hat
          have hG0 : Gath2 B0 Al.row 13 w2.heap.size W0 yv (Al.mvs al (bb.tmod 1000 + 2)) k2 vals := HG.out.move (fun b _ _ => HH0.out b) hz0'
          have HG2 := Lib.hid (hG0.next (by omega) (by omega) (amvs_get HT.out HMV.out) hlen1 rfl HVS'.out (fun g hg => by have := hown.lt g hg; omega) hb01 hgrow' hat')
          have hkeep : ∀ b : Nat, b < w2.heap.size → W2.heap[b]? = wr.heap[b]? := fun b hb => by
            rw [hgrow'.block b (by simp; omega) (fun e => by have := (hown.lt b e.symm).1; omega), Below.heap_alloc _ _ _ (by omega), hb01.block b (by omega)]
            exact HH0.out b
          have HKP := Lib.hid hkeep
          have hsz2 : W1.heap.size + 1 ≤ W2.heap.size := by have := hgrow'.size; simpa using this
          have n2 : W2.heap[N]? = some (.cells #[.int .i64 k, .int .i64 bb, .string n, .int .i64 m, .slice x4 l.length y4, .slice a5 ps.length b5, yv, .slice a7 ds.length b7] 53 (0, 0)) := (hkeep N hNlt2).trans HX.out
          have hb2 : Below W.heap.size W W2 := ((hbr2.trans (hw1.mono hbr2.size)).alloc (by have := hbr2.size; omega) _).grown hgrow' (by simp; have := hbr2.size; omega) (fun j hj => by have := (hown.lt j hj).1; have := hbc.size; omega)
          clear hgrow hgrow' hat hat' hown hown1 hG0 hkeep
          go_wp2
          refine HK.out _ _ (fun h => absurd (h.symm.trans (by kernel_rfl : _ = true)) Bool.false_ne_true) ?_
          clear HK K
          refine G_one (k := 21) rfl (by kernel_rfl) (fun K hK => ?_)
          have HK := Lib.hid hK
          clear hK
          go_wp2
          refine HK.out _ _ (fun h => absurd (h.symm.trans (by kernel_rfl : _ = true)) Bool.false_ne_true) ?_
          clear HK K
          obtain ⟨r4, s4, rfl⟩ := owns_form hown2
          refine G_one (k := 22) rfl (by kernel_rfl) (fun K hK => ?_)
          have HK := Lib.hid hK
          clear hK
          have cN2 : W2.cell? ⟨N, 6, none⟩ = some yv := by rw [Lib.cell_of_heap n2]; rfl
          have fN2 : W2.frozen? ⟨N, 6, none⟩ = false := Lib.frozen_of_heap n2 6
          have n3 : (W2.setCell ⟨N, 6, none⟩ (.slice r4 (k2 + 1) s4)).heap[N]? = some (.cells #[.int .i64 k, .int .i64 bb, .string n, .int .i64 m, .slice x4 l.length y4, .slice a5 ps.length b5, (.slice r4 (k2 + 1) s4), .slice a7 ds.length b7] 53 (0, 0)) := heap_setCell_same _ N 6 _ _ (.slice r4 (k2 + 1) s4) n2
          have HN3 := Lib.hid n3
          have ho3 : ∀ b : Nat, b ≠ N → (W2.setCell ⟨N, 6, none⟩ (.slice r4 (k2 + 1) s4)).heap[b]? = W2.heap[b]? := fun b hb => heap_setCell_other _ _ _ _ hb
          have HO3 := Lib.hid ho3
          have hz3 : (W2.setCell ⟨N, 6, none⟩ (.slice r4 (k2 + 1) s4)).heap.size = W2.heap.size := by simp
          have hb3 := hb2.setCell (p := ⟨N, 6, none⟩) hNW (.slice r4 (k2 + 1) s4)
          clear n2 n3 ho3
          go_wp2
          generalize W2.setCell ⟨N, 6, none⟩ (.slice r4 (k2 + 1) s4) = W3 at HN3 HO3 hz3 hb3 ⊢
          refine HK.out _ _ (fun h => absurd (h.symm.trans (by kernel_rfl : _ = true)) Bool.false_ne_true) ?_
          clear HK K cN2 fN2
          refine G_done (by kernel_rfl) ?_
          have hown3 : W3.ownsRow w2.heap.size 86 13 (.slice r4 (k2 + 1) s4) (k2 + 1) (vals ++ [.int .i64 pk, .int .i64 pp, .string pn, .int .i64 pm, .slice qa pl.length qb, .int .i64 tk, .int .i64 tp, .string tn, .int .i64 tm, .slice h4 tl.length i4, .slice h5 tps.length i5, .slice h6 tal.length i6, .slice h7 tds.length i7]) := owns_move hown2 (fun b hb _ => HO3.out b (by omega))
          have HG3 := Lib.hid (HG2.out.move (fun b hb _ => HO3.out b (by omega)) hz3)
          have HKp3 : Hid (∀ b : Nat, b < w2.heap.size → b ≠ N → W3.heap[b]? = w2.heap[b]?) := Lib.hid (fun b hb hbN => (HO3.out b hbN).trans ((HKP.out b hb).trans (HKp2.out b hb hbN)))
          clear hown2
          go_wp2
          go_roundw
          case rel => exact ⟨k2 + 1, _, _, by omega, by go_num, HN3, hown3, HG3, HKp3, hb3, by omega⟩
          case measure => simp [intOf]; omega
        · have hkk : k2 = al.length := by omega
          have k2i : ¬ (k2 : Int) < al.length := by omega
          subst hkk
          have cS : wr.cell? ⟨w.heap.size, 6, none⟩ = some (.slice a6 al.length b6) := by rw [ho1] at hwS; rw [Lib.cell_of_heap hwS]; rfl
          have hln : al.length = (Al.mvs al (bb.tmod 1000 + 2)).length := (Al.mvs_len al _).symm
          have HGd := HG.out
          have hownd := hown
          rw [hln] at HGd hownd
          have HD2 := Lib.hid (HGd.done hownd)
          obtain ⟨z4, z5, rfl⟩ := owns_form hown
          have nF := HX.out
          have hw22 : wr.heap[w.heap.size + 1]? = some o2 := (HKp2.out _ (by omega) (by omega)).trans ((HKp.out _ (by omega) (by omega)).trans HW2.out)
          rw [ho2] at hw22
          have u0 : wr.cell? ⟨N, 0, none⟩ = some (.int .i64 k) := by rw [Lib.cell_of_heap nF]; rfl
          have u1 : wr.cell? ⟨N, 1, none⟩ = some (.int .i64 bb) := by rw [Lib.cell_of_heap nF]; rfl
          have u2 : wr.cell? ⟨N, 2, none⟩ = some (.string n) := by rw [Lib.cell_of_heap nF]; rfl
          have u3 : wr.cell? ⟨N, 3, none⟩ = some (.int .i64 m) := by rw [Lib.cell_of_heap nF]; rfl
          have u4 : wr.cell? ⟨N, 4, none⟩ = some (.slice x4 l.length y4) := by rw [Lib.cell_of_heap nF]; rfl
          have u5 : wr.cell? ⟨N, 5, none⟩ = some (.slice a5 ps.length b5) := by rw [Lib.cell_of_heap nF]; rfl
          have u6 : wr.cell? ⟨N, 6, none⟩ = some (.slice z4 al.length z5) := by rw [Lib.cell_of_heap nF]; rfl
          have u7 : wr.cell? ⟨N, 7, none⟩ = some (.slice a7 ds.length b7) := by rw [Lib.cell_of_heap nF]; rfl
          have HW22 := Lib.hid hw22
          clear hwS hw22 nF HX hown HG HGd hownd hln
          go_wp2_with (refine store_all 53 #[.int .i64 k, .int .i64 bb, .string n, .int .i64 m, .slice x4 l.length y4, .slice a5 ps.length b5, .slice z4 al.length z5, .slice a7 ds.length b7] (w.heap.size + 1) _ HW22.out (by kernel_rfl) rfl (by simp [Value.oneCell']) rfl _ _ rfl rfl rfl ?_; intro W4 hn4 ho4 hz4)
          clear u0 u1 u2 u3 u4 u5 u6 u7
          have r0 : W4.cell? ⟨w.heap.size + 1, 0, none⟩ = some (.int .i64 k) := by rw [Lib.cell_of_heap hn4]; rfl
          have r1 : W4.cell? ⟨w.heap.size + 1, 1, none⟩ = some (.int .i64 bb) := by rw [Lib.cell_of_heap hn4]; rfl
          have r2 : W4.cell? ⟨w.heap.size + 1, 2, none⟩ = some (.string n) := by rw [Lib.cell_of_heap hn4]; rfl
          have r3 : W4.cell? ⟨w.heap.size + 1, 3, none⟩ = some (.int .i64 m) := by rw [Lib.cell_of_heap hn4]; rfl
          have r4 : W4.cell? ⟨w.heap.size + 1, 4, none⟩ = some (.slice x4 l.length y4) := by rw [Lib.cell_of_heap hn4]; rfl
          have r5 : W4.cell? ⟨w.heap.size + 1, 5, none⟩ = some (.slice a5 ps.length b5) := by rw [Lib.cell_of_heap hn4]; rfl
          have r6 : W4.cell? ⟨w.heap.size + 1, 6, none⟩ = some (.slice z4 al.length z5) := by rw [Lib.cell_of_heap hn4]; rfl
          have r7 : W4.cell? ⟨w.heap.size + 1, 7, none⟩ = some (.slice a7 ds.length b7) := by rw [Lib.cell_of_heap hn4]; rfl
          have hwW := hb1.size
          have hWc := hbc.size
          have hzz := hz4.1
          have k4 : ∀ b : Nat, W.heap.size ≤ b → W4.heap[b]? = wr.heap[b]? := fun b hb => ho4 b (by omega)
          have hq := hb1.trans (hbr2.mono hwW)
          have hbF : Below w.heap.size w W4 :=
            ⟨hz4.2.1.trans hq.os, hz4.2.2.1.trans hq.tape, hz4.2.2.2.trans hq.output, by omega, fun j hj => (ho4 j (by omega)).trans (hq.block j hj)⟩
          have t4 : IsExs W4 (Mine B0 w W4) (.slice x4 l.length y4) (Ex.mvs l (bb.tmod 1000 + 1)) := ⟨IsC.mono (fun b hb => hb.imp id fun q => ⟨by have := q.1; omega, by have := q.2; omega⟩) _ _ (IsC.stay (fun b hb hbs => by
            rcases hb with q | q
            · rw [ho4 b (by omega), HKp2.out b hbs (by omega)]
            · exact (k4 b (by have := q.1; omega)).trans (HKp2.out b q.2 (by have := q.1; omega))) _ _ HD1.out)⟩
          have t6 : IsAls W4 (Mine B0 w W4) (.slice z4 al.length z5) (Al.mvs al (bb.tmod 1000 + 2)) := ⟨IsC.mono (fun b hb => hb.imp id fun q => ⟨by have := q.1; omega, by have := q.2; omega⟩) _ _ (IsC.stay (fun b hb _ => by
            rcases hb with q | q
            · exact ho4 b (by omega)
            · exact k4 b (by have := q.1; omega)) _ _ HD2.out)⟩
          have t5 : IsPas W4 (Mine B0 w W4) (.slice a5 ps.length b5) ps := ⟨IsC.mono (fun b hb => .inl hb) _ _ (H5.out.on hbF).out⟩
          have t7 : IsDes W4 (Mine B0 w W4) (.slice a7 ds.length b7) ds := ⟨IsC.mono (fun b hb => .inl hb) _ _ (H7.out.on hbF).out⟩
          have HFin := Lib.hid (ex_vs_mk (k := k) (p := bb) (n := n) (m := m) hnm t4 t5 t6 t7)
          clear hn4 ho4 hz4 k4 t4 t5 t6 t7
          exact bodyPost_ret (v := .agg #[.int .i64 k, .int .i64 bb, .string n, .int .i64 m, .slice x4 l.length y4, .slice a5 ps.length b5, .slice z4 al.length z5, .slice a7 ds.length b7]) (by simp [results, Tryz.results29, go_sem, *]) rfl ⟨[.int .i64 k, .int .i64 bb, .string n, .int .i64 m, .slice x4 l.length y4, .slice a5 ps.length b5, .slice z4 al.length z5, .slice a7 ds.length b7], rfl, by rw [Ex.mv]; exact HFin.out, hbF⟩
/-- moved, of any tree -/
theorem movE_nd : ∀ (z : Nat), z ≤ 1000000 → ∀ t : Ex, t.nd ≤ z → MovE t
  | 0, _, .mk _ _ _ _ _ _ _ _, h => by unfold Ex.nd at h; omega
  | z + 1, hz, .mk k p n m l ps al ds, h => by
    unfold Ex.nd at h
    have n1 := Ex.nds_len l
    have n3 := Al.nds_len al
    refine moved_step k p m n l ps al ds (fun t ht => ?_) (fun t ht => ?_) (by omega) (by omega)
    · obtain ⟨j, hj⟩ := List.getElem?_of_mem ht
      have := Ex.nds_get l j t hj
      exact movE_nd z (by omega) t (by omega)
    · obtain ⟨j, hj⟩ := List.getElem?_of_mem ht
      have := Al.nds_get al j t hj
      obtain ⟨p, e⟩ := t
      unfold Al.nd at this
      exact movE_nd z (by omega) e (by omega)
end Go.Proofs.YtkdhoelabomgkaaGreatDoor
