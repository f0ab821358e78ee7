/- Texts of this proof, joined: LawSames. No condition. -/
import Derived.Test.YtdiffpiapdghoaaGreatDoorSa21
import Derived.Test.YtdiffpiapdghoaaGreatDoorSa28
import Derived.Test.YtdiffpiapdghoaaGreatDoorSa30
/-
  Layer 3, the law's side: TreeSames.
-/
namespace Go.Proofs.YtdiffpiapdghoaaGreatDoor
set_option linter.unusedVariables false
open Go.ChangeShapes Go.WideShapes Go.ChangeAt Go.RowKit

theorem und_pa2 : ∃ d, Tryz.prog.underlying 27 = some d ∧ d.isRow = true := ⟨_, Tryz.underlying27, by kernel_rfl⟩
theorem und_ty2 : ∃ d, Tryz.prog.underlying 24 = some d ∧ d.isRow = true := ⟨_, Tryz.underlying24, by kernel_rfl⟩
theorem und_ex2 : ∃ d, Tryz.prog.underlying 32 = some d ∧ d.isRow = true := ⟨_, Tryz.underlying32, by kernel_rfl⟩
theorem info_pa2 : (Tryz.prog.info? 27).map (·.size) = some 5 := by kernel_rfl
theorem info_ty2 : (Tryz.prog.info? 24).map (·.size) = some 4 := by kernel_rfl
theorem info_ex2 : (Tryz.prog.info? 32).map (·.size) = some 8 := by kernel_rfl
/-- an expression's patterns, in its cells -/
theorem ex_ps {P : Nat → Prop} {w : World} {k p m : Int} {n : ByteArray} {l : List Ex} {ps : List Pa} {al : List Al} {ds : List De} {a4 a5 a6 a7 : Option Addr} {c4 c5 c6 c7 b4 b5 b6 b7 : Nat}
    (h : IsVs w P (Ex.row (.mk k p n m l ps al ds)) [.int .i64 k, .int .i64 p, .string n, .int .i64 m, .slice a4 c4 b4, .slice a5 c5 b5, .slice a6 c6 b6, .slice a7 c7 b7]) : IsPas w P (.slice a5 ps.length b5) ps := by
  obtain ⟨_, A4, A5, A6, A7, B4, B5, B6, B7, he, h4, h5, h6, h7⟩ := ex_vs h
  simp only [List.cons.injEq, Value.slice.injEq, and_true, true_and] at he
  obtain ⟨_, ⟨rfl, _, rfl⟩, _⟩ := he
  exact h5
/-- of two whose parts are few together, one has few -/
theorem pats_small {ek ep em fk fp fm : Int} {en fn : ByteArray} {el fl : List Ex} {eps fps : List Pa} {eal fal : List Al} {eds fds l m : List De} {k : Nat} {x y : Pa}
    (h : Ex.nds [.mk ek ep en em el eps eal eds, .mk fk fp fn fm fl fps fal fds, .mk 0 0 ⟨#[]⟩ 0 [] [] [] l, .mk 0 0 ⟨#[]⟩ 0 [] [] [] m] ≤ 600) (hx : eps[k]? = some x) (hy : fps[k]? = some y) : x.nd ≤ 1000000 ∧ y.nd ≤ 1000000 ∧ (x.nd ≤ 400 ∨ y.nd ≤ 400) := by
  have h1 := Pa.nds_get eps k x hx
  have h2 := Pa.nds_get fps k y hy
  simp only [Ex.nds, Ex.nd] at h
  omega
theorem all_small {e f : Ex} {l m : List De} (h : Ex.nds [e, f, .mk 0 0 ⟨#[]⟩ 0 [] [] [] l, .mk 0 0 ⟨#[]⟩ 0 [] [] [] m] ≤ 600) :
    e.nd ≤ 1000000 ∧ f.nd ≤ 1000000 ∧ (e.nd ≤ 400 ∨ f.nd ≤ 400) ∧ De.nds l ≤ 1000000 ∧ De.nds m ≤ 1000000 ∧ (De.nds l ≤ 400 ∨ De.nds m ≤ 400) := by
  simp only [Ex.nds, Ex.nd] at h
  omega
theorem types_small {t u : Ty} {y : Int} (h : y ≤ 9223372036854775807 ∧ (0 ≤ y → (Ty.nds [t, u] : Int) + y ≤ 600)) (hn : 0 ≤ y) : t.nd ≤ 1000000 ∧ u.nd ≤ 1000000 ∧ (t.nd ≤ 400 ∨ u.nd ≤ 400) := by
  have := h.2 (by omega)
  simp only [Ty.nds] at this
  omega
set_option maxHeartbeats 6400000 in
set_option maxRecDepth 100000 in
theorem sames_law (tk tp uk up : Int) (tn un : ByteArray) (tl ul : List Ty) (ta ua : Option Addr) (tb ub : Nat)
    (ek ep em fk fp fm : Int) (en fn : ByteArray) (el fl : List Ex) (eps fps : List Pa) (eal fal : List Al) (eds fds : List De) (a4 a5 a6 a7 c4 c5 c6 c7 : Option Addr) (b4 b5 b6 b7 d4 d5 d6 d7 : Nat) (la ma : Option Addr) (lb mb : Nat) (l m : List De) (w : World)
    (hE : IsVs w Any (Ex.row (.mk ek ep en em el eps eal eds)) [.int .i64 ek, .int .i64 ep, .string en, .int .i64 em, .slice a4 el.length b4, .slice a5 eps.length b5, .slice a6 eal.length b6, .slice a7 eds.length b7])
    (hF : IsVs w Any (Ex.row (.mk fk fp fn fm fl fps fal fds)) [.int .i64 fk, .int .i64 fp, .string fn, .int .i64 fm, .slice c4 fl.length d4, .slice c5 fps.length d5, .slice c6 fal.length d6, .slice c7 fds.length d7])
    (hT : IsVs w Any (Ty.row (.mk tk tp tn tl)) [.int .i64 tk, .int .i64 tp, .string tn, .slice ta tl.length tb])
    (hU : IsVs w Any (Ty.row (.mk uk up un ul)) [.int .i64 uk, .int .i64 up, .string un, .slice ua ul.length ub])
    (hfit : Ex.fits [.mk ek ep en em el eps eal eds, .mk fk fp fn fm fl fps fal fds, .mk 0 0 ⟨#[]⟩ 0 [] [] [] l, .mk 0 0 ⟨#[]⟩ 0 [] [] [] m]) (hl : IsDes w Any (.slice la l.length lb) l) (hm : IsDes w Any (.slice ma m.length mb) m) :
    Calls Tryz.prog 4 #[.agg #[.int .i64 tk, .int .i64 tp, .string tn, .slice ta tl.length tb], .agg #[.int .i64 uk, .int .i64 up, .string un, .slice ua ul.length ub],
      .agg #[.int .i64 ek, .int .i64 ep, .string en, .int .i64 em, .slice a4 el.length b4, .slice a5 eps.length b5, .slice a6 eal.length b6, .slice a7 eds.length b7],
      .agg #[.int .i64 fk, .int .i64 fp, .string fn, .int .i64 fm, .slice c4 fl.length d4, .slice c5 fps.length d5, .slice c6 fal.length d6, .slice c7 fds.length d7], .slice la l.length lb, .slice ma m.length mb] w fun e w' => e = .returned (.bool true) ∧ Below w.heap.size w w' := by
  have HE := Lib.hid hE
  have HF := Lib.hid hF
  have HL := Lib.hid hl
  have HT := Lib.hid hT
  have HU := Lib.hid hU
  have HM := Lib.hid hm
  clear hE hF hl hm hT hU
  go_enter Tryz.func4, Tryz.ntmps4
  go_upto_region 1 with fail
  have hX := four_boxes w (.cells #[.int .i64 tk, .int .i64 tp, .string tn, .slice ta tl.length tb] 24) (.cells #[.int .i64 uk, .int .i64 up, .string un, .slice ua ul.length ub] 24) (.cells #[.int .i64 ek, .int .i64 ep, .string en, .int .i64 em, .slice a4 el.length b4, .slice a5 eps.length b5, .slice a6 eal.length b6, .slice a7 eds.length b7] 32) (.cells #[.int .i64 fk, .int .i64 fp, .string fn, .int .i64 fm, .slice c4 fl.length d4, .slice c5 fps.length d5, .slice c6 fal.length d6, .slice c7 fds.length d7] 32)
  generalize (((w.alloc _).alloc _).alloc _).alloc _ = W at hX ⊢
  obtain ⟨hb, gT, gU, gE, gF, hsz⟩ := hX
  have GT := Lib.hid gT
  have GU := Lib.hid gU
  have GE := Lib.hid gE
  have GF := Lib.hid gF
  have HB := Lib.hid (And.intro hb hsz)
  obtain ⟨e0, e1, e2, e3, e4, e5, e6, e7⟩ := cells_of_block gE
  obtain ⟨f0, f1, f2, f3, f4, f5, f6, f7⟩ := cells_of_block gF
  clear gT gU gE gF hb hsz
  go_wp2_with fail
  generalize ho : Obj.cells _ _ = o5
  have hb2 := bl_alloc o5 (Below.refl W.heap.size W)
  have g5 := heap_alloc_new W o5
  have HB2 := Lib.hid (HB.out.1.trans (hb2.mono HB.out.1.size))
  generalize W.alloc o5 = W2 at hb2 g5 HB2 ⊢
  subst ho
  have hX := exs_at (P := Any) (W := W2) [.mk ek ep en em el eps eal eds, .mk fk fp fn fm fl fps fal fds, .mk 0 0 ⟨#[]⟩ 0 [] [] [] l, .mk 0 0 ⟨#[]⟩ 0 [] [] [] m] [_, _, _, _] (.cons (IsVs.on HB2.out _ _ HE.out) rfl (.cons (IsVs.on HB2.out _ _ HF.out) rfl (.cons (ex_vs_mk (by decide) (nil_exs W2) (nil_pas W2) (nil_als W2) (HL.out.on HB2.out)) rfl (.cons (ex_vs_mk (by decide) (nil_exs W2) (nil_pas W2) (nil_als W2) (HM.out.on HB2.out)) rfl .nil)))) g5 trivial (by show 4 ≤ maxLen; decide)
  have HX := Lib.hid hX
  clear hX g5
  refine (light_any _ _ W2 HX.out).mono ?_
  rintro e' w3 ⟨⟨b, rfl, hlt⟩, h3⟩
  have HL3 := Lib.hid hlt
  clear hlt
  have k3 := HB2.out.trans (h3.mono HB2.out.size)
  cases b
  · go_wp2_with fail
    refine (knows_any w3).mono ?_
    rintro e' w4 ⟨rfl, h4⟩
    go_wp2
    go_ret
    exact ⟨rfl, k3.trans (h4.mono k3.size)⟩
  · have gT3 := Below.heap_eq h3 (Below.heap_eq hb2 GT.out)
    have gU3 := Below.heap_eq h3 (Below.heap_eq hb2 GU.out)
    have t0 : w3.cell? ⟨w.heap.size, 0, none⟩ = some (.int .i64 tk) := by rw [Lib.cell_of_heap gT3]; rfl
    have t1 : w3.cell? ⟨w.heap.size, 1, none⟩ = some (.int .i64 tp) := by rw [Lib.cell_of_heap gT3]; rfl
    have t2 : w3.cell? ⟨w.heap.size, 2, none⟩ = some (.string tn) := by rw [Lib.cell_of_heap gT3]; rfl
    have t3 : w3.cell? ⟨w.heap.size, 3, none⟩ = some (.slice ta tl.length tb) := by rw [Lib.cell_of_heap gT3]; rfl
    have u0 : w3.cell? ⟨w.heap.size + 1, 0, none⟩ = some (.int .i64 uk) := by rw [Lib.cell_of_heap gU3]; rfl
    have u1 : w3.cell? ⟨w.heap.size + 1, 1, none⟩ = some (.int .i64 up) := by rw [Lib.cell_of_heap gU3]; rfl
    have u2 : w3.cell? ⟨w.heap.size + 1, 2, none⟩ = some (.string un) := by rw [Lib.cell_of_heap gU3]; rfl
    have u3 : w3.cell? ⟨w.heap.size + 1, 3, none⟩ = some (.slice ua ul.length ub) := by rw [Lib.cell_of_heap gU3]; rfl
    have GT3 := Lib.hid gT3
    have GU3 := Lib.hid gU3
    clear gT3 gU3 e0 e1 e2 e3 e4 e5 e6 e7 f0 f1 f2 f3 f4 f5 f6 f7
    go_wp2_with fail
    clear t0 t1 t2 t3 u0 u1 u2 u3
    generalize ho : Obj.cells _ _ = o6
    have hb4 := bl_alloc o6 (Below.refl w3.heap.size w3)
    have g6 := heap_alloc_new w3 o6
    have k4 := k3.trans (hb4.mono k3.size)
    have K4 := Lib.hid k4
    have K3 := Lib.hid k3
    generalize w3.alloc o6 = w4 at hb4 g6 k4 K4 ⊢
    subst ho
    have hY : IsTys w4 Any (.slice (some ⟨w3.heap.size, 0, none⟩) 2 2) [.mk tk tp tn tl, .mk uk up un ul] := by
      refine ⟨?_⟩
      unfold IsC
      refine .inr ⟨⟨w3.heap.size, 0, none⟩, 2, by rw [Ty.rows_map]; rfl, by rw [Ty.rows_map]; exact Nat.le_refl _, by unfold maxLen; omega, fun _ => trivial, ?_⟩
      rw [Ty.rows_map]
      exact rows_flat _ [_, _] [] (.cons (IsVs.on k4 _ _ HT.out) rfl (.cons (IsVs.on k4 _ _ HU.out) rfl .nil)) g6
    have HY := Lib.hid hY
    clear hY g6
    refine (fewT_numB _ _ 600 w4 HY.out).mono ?_
    rintro e' w5 ⟨⟨y, rfl, hy⟩, h5⟩
    have HYn := Lib.hid hy
    clear hy
    have k5 := k4.trans (h5.mono k4.size)
    by_cases hn : y < 0
    · go_wp2_with fail
      refine (knows_any w5).mono ?_
      rintro e' w6 ⟨rfl, h6⟩
      go_wp2
      go_ret
      exact ⟨rfl, k5.trans (h6.mono k5.size)⟩
    · have E5 := Lib.hid (Below.heap_eq h5 (Below.heap_eq hb4 (Below.heap_eq h3 (Below.heap_eq hb2 GE.out))))
      have F5 := Lib.hid (Below.heap_eq h5 (Below.heap_eq hb4 (Below.heap_eq h3 (Below.heap_eq hb2 GF.out))))
      have T5 := Lib.hid (Below.heap_eq h5 (Below.heap_eq hb4 GT3.out))
      have U5 := Lib.hid (Below.heap_eq h5 (Below.heap_eq hb4 GU3.out))
      have hm5 : (eps.length : Int) ≤ 9223372036854775807 := by
        obtain ⟨_, _, _, _, _, _, _, _, _, _, _, hps, _⟩ := ex_vs HE.out
        obtain ⟨_, _, _, v1, v2⟩ := hps.form
        unfold maxLen at v2; omega
      have K5 := Lib.hid k5
      clear hb2 HB2 hb4 k4 K4 K3 k3 GT3 GU3
      go_wp2
      go_loopw [13] (fun iv wr => ∃ k : Nat, k ≤ eps.length ∧ iv = .int .i64 k ∧ Below w5.heap.size w5 wr) (fun iv _ => eps.length - (intOf iv).toNat)
      case atStart => exact ⟨0, Nat.zero_le _, rfl, Below.refl _ _⟩
      case round =>
        obtain ⟨k, hk, rfl, hbw⟩ := hrel
        have gE6 := Below.heap_eq hbw E5.out
        have gF6 := Below.heap_eq hbw F5.out
        have e5 : wr.cell? ⟨w.heap.size + 1 + 1, 5, none⟩ = some (.slice a5 eps.length b5) := by rw [Lib.cell_of_heap gE6]; rfl
        have f5 : wr.cell? ⟨w.heap.size + 1 + 1 + 1, 5, none⟩ = some (.slice c5 fps.length d5) := by rw [Lib.cell_of_heap gF6]; rfl
        clear gE6 gF6
        by_cases hlt : k < eps.length
        · have i1 : (k : Int) < eps.length := by omega
          by_cases hlt2 : k < fps.length
          · have i2 : (k : Int) < fps.length := by omega
            obtain ⟨x, hx⟩ : ∃ x, eps[k]? = some x := ⟨eps[k], List.getElem?_eq_getElem hlt⟩
            obtain ⟨y2, hy2⟩ : ∃ x, fps[k]? = some x := ⟨fps[k], List.getElem?_eq_getElem hlt2⟩
            obtain ⟨A1, rfl, _, hrow⟩ := (ex_ps HE.out).at hx
            obtain ⟨B1, rfl, _, hrow'⟩ := (ex_ps HF.out).at hy2
            have kw := K5.out.trans (hbw.mono K5.out.size)
            obtain ⟨vs, hv1, hv2⟩ := row_load (hrow.on kw).out 27 und_pa2 (by rw [Pa.row_len]; exact info_pa2)
            obtain ⟨us, hu1, hu2⟩ := row_load (hrow'.on kw).out 27 und_pa2 (by rw [Pa.row_len]; exact info_pa2)
            have HV1 := Lib.hid hv1
            have HV2 := Lib.hid hv2
            have HU1 := Lib.hid hu1
            have HU2 := Lib.hid hu2
            have HN := Lib.hid (pats_small (HL3.out trivial hfit) hx hy2)
            clear hrow hrow' hx hy2 hv1 hv2 hu1 hu2 kw
            go_wp2
            have hw0 : Below wr.heap.size wr wr.drew := (Below.refl _ _).drew
            refine wp_region_gate (fun V => Below wr.heap.size wr V) 100 (by kernel_rfl) hw0 ?_
            change AtG _ _ _ _ _ _ _ _ _ wr.drew
            generalize wr.drew = W0 at hw0 ⊢
            refine G_hold (i := 0) (v := ?_) rfl (by kernel_rfl) (fun _ _ _ h => h) (Or.inl ⟨by rfl, fun V hV => ?_⟩) ?_
            rotate_left
            · go_simp; with_reducible rfl
            simp only [Act.put, List.setIfInBounds_toArray, List.set_cons_zero, List.set_cons_succ]
            refine G_hold (i := 1) (v := ?_) rfl (by kernel_rfl) (fun _ _ _ h => h) (Or.inl ⟨by rfl, fun V hV => ?_⟩) ?_
            rotate_left
            · have e5 := bel_cell hV e5; go_simp; with_reducible rfl
            simp only [Act.put, List.setIfInBounds_toArray, List.set_cons_zero, List.set_cons_succ]
            refine G_hold (i := 2) (v := ?_) rfl (by kernel_rfl) (fun _ _ _ h => h) (Or.inl ⟨by rfl, fun V hV => ?_⟩) ?_
            rotate_left
            · go_simp; with_reducible rfl
            simp only [Act.put, List.setIfInBounds_toArray, List.set_cons_zero, List.set_cons_succ]
            refine G_hold (i := 3) (v := ?_) rfl (by kernel_rfl) (fun _ _ _ h => h) (Or.inl ⟨by rfl, fun V hV => ?_⟩) ?_
            rotate_left
            · go_simp; with_reducible rfl
            simp only [Act.put, List.setIfInBounds_toArray, List.set_cons_zero, List.set_cons_succ]
            refine G_hold (i := 4) rfl (by kernel_rfl) (fun _ _ _ h => h) (yields_load 27 _ rfl (A1.add (k * 5)) rfl vs.toArray HV2.out rfl) ?_
            simp only [Act.put, List.setIfInBounds_toArray, List.set_cons_zero, List.set_cons_succ]
            refine G_hold (i := 6) (v := ?_) rfl (by kernel_rfl) (fun _ _ _ h => h) (Or.inl ⟨by rfl, fun V hV => ?_⟩) ?_
            rotate_left
            · go_simp; with_reducible rfl
            simp only [Act.put, List.setIfInBounds_toArray, List.set_cons_zero, List.set_cons_succ]
            refine G_hold (i := 7) (v := ?_) rfl (by kernel_rfl) (fun _ _ _ h => h) (Or.inl ⟨by rfl, fun V hV => ?_⟩) ?_
            rotate_left
            · have f5 := bel_cell hV f5; go_simp; with_reducible rfl
            simp only [Act.put, List.setIfInBounds_toArray, List.set_cons_zero, List.set_cons_succ]
            refine G_hold (i := 8) (v := ?_) rfl (by kernel_rfl) (fun _ _ _ h => h) (Or.inl ⟨by rfl, fun V hV => ?_⟩) ?_
            rotate_left
            · go_simp; with_reducible rfl
            simp only [Act.put, List.setIfInBounds_toArray, List.set_cons_zero, List.set_cons_succ]
            refine G_hold (i := 9) (v := ?_) rfl (by kernel_rfl) (fun _ _ _ h => h) (Or.inl ⟨by rfl, fun V hV => ?_⟩) ?_
            rotate_left
            · go_simp; with_reducible rfl
            simp only [Act.put, List.setIfInBounds_toArray, List.set_cons_zero, List.set_cons_succ]
            refine G_hold (i := 10) rfl (by kernel_rfl) (fun _ _ _ h => h) (yields_load 27 _ rfl (B1.add (k * 5)) rfl us.toArray HU2.out rfl) ?_
            simp only [Act.put, List.setIfInBounds_toArray, List.set_cons_zero, List.set_cons_succ]
            refine G_hold (i := 13) (v := ?_) rfl (by kernel_rfl) (fun _ _ _ h => h) (Or.inl ⟨by rfl, fun V hV => ?_⟩) ?_
            rotate_left
            · go_simp; with_reducible rfl
            simp only [Act.put, List.setIfInBounds_toArray, List.set_cons_zero, List.set_cons_succ]
            refine G_hold (i := 14) (v := ?_) rfl (by kernel_rfl) (fun _ _ _ h => h) (Or.inl ⟨by rfl, fun V hV => ?_⟩) ?_
            rotate_left
            · have e5 := bel_cell hV e5; go_simp; with_reducible rfl
            simp only [Act.put, List.setIfInBounds_toArray, List.set_cons_zero, List.set_cons_succ]
            refine G_hold (i := 15) (v := ?_) rfl (by kernel_rfl) (fun _ _ _ h => h) (Or.inl ⟨by rfl, fun V hV => ?_⟩) ?_
            rotate_left
            · go_simp; with_reducible rfl
            simp only [Act.put, List.setIfInBounds_toArray, List.set_cons_zero, List.set_cons_succ]
            refine G_hold (i := 16) (v := ?_) rfl (by kernel_rfl) (fun _ _ _ h => h) (Or.inl ⟨by rfl, fun V hV => ?_⟩) ?_
            rotate_left
            · go_simp; with_reducible rfl
            simp only [Act.put, List.setIfInBounds_toArray, List.set_cons_zero, List.set_cons_succ]
            refine G_hold (i := 17) rfl (by kernel_rfl) (fun _ _ _ h => h) (yields_load 27 _ rfl (A1.add (k * 5)) rfl vs.toArray HV2.out rfl) ?_
            simp only [Act.put, List.setIfInBounds_toArray, List.set_cons_zero, List.set_cons_succ]
            refine G_hold (i := 18) (v := ?_) rfl (by kernel_rfl) (fun _ _ _ h => h) (Or.inl ⟨by rfl, fun V hV => ?_⟩) ?_
            rotate_left
            · go_simp; with_reducible rfl
            simp only [Act.put, List.setIfInBounds_toArray, List.set_cons_zero, List.set_cons_succ]
            refine G_hold (i := 19) (v := ?_) rfl (by kernel_rfl) (fun _ _ _ h => h) (Or.inl ⟨by rfl, fun V hV => ?_⟩) ?_
            rotate_left
            · have f5 := bel_cell hV f5; go_simp; with_reducible rfl
            simp only [Act.put, List.setIfInBounds_toArray, List.set_cons_zero, List.set_cons_succ]
            refine G_hold (i := 20) (v := ?_) rfl (by kernel_rfl) (fun _ _ _ h => h) (Or.inl ⟨by rfl, fun V hV => ?_⟩) ?_
            rotate_left
            · go_simp; with_reducible rfl
            simp only [Act.put, List.setIfInBounds_toArray, List.set_cons_zero, List.set_cons_succ]
            refine G_hold (i := 21) (v := ?_) rfl (by kernel_rfl) (fun _ _ _ h => h) (Or.inl ⟨by rfl, fun V hV => ?_⟩) ?_
            rotate_left
            · go_simp; with_reducible rfl
            simp only [Act.put, List.setIfInBounds_toArray, List.set_cons_zero, List.set_cons_succ]
            refine G_hold (i := 22) rfl (by kernel_rfl) (fun _ _ _ h => h) (yields_load 27 _ rfl (B1.add (k * 5)) rfl us.toArray HU2.out rfl) ?_
            simp only [Act.put, List.setIfInBounds_toArray, List.set_cons_zero, List.set_cons_succ]
            refine G_one (k := 5) rfl (by kernel_rfl) (fun K hK => ?_)
            have HK := Lib.hid hK
            clear hK
            go_wp2_with fail
            refine (ownP_vs x HN.out.1 _ vs W0 (IsVs.on hw0 _ _ HV1.out)).mono ?_
            rintro e W1 ⟨px, rfl, hpx, hb1⟩
            have hw1 := hw0.trans (hb1.mono hw0.size)
            have HB1 := Lib.hid hb1
            have HP1 := Lib.hid hpx
            clear hpx
            clear hb1
            go_wp2
            refine HK.out _ _ (fun _ => hw1) ?_
            clear HK K
            refine G_one (k := 11) rfl (by kernel_rfl) (fun K hK => ?_)
            have HK := Lib.hid hK
            clear hK
            go_wp2_with fail
            refine (ownP_vs y2 HN.out.2.1 _ us W1 (IsVs.on hw1 _ _ HU1.out)).mono ?_
            rintro e W2 ⟨py, rfl, hpy, hb2⟩
            have hw2 := hw1.trans (hb2.mono hw1.size)
            have HB2 := Lib.hid hb2
            have HP2 := Lib.hid hpy
            clear hpy
            clear hb2
            go_wp2
            refine HK.out _ _ (fun _ => hw2) ?_
            clear HK K
            refine G_one (k := 12) rfl (by kernel_rfl) (fun K hK => ?_)
            have HK := Lib.hid hK
            clear hK
            go_wp2_with fail
            refine (sameP_any x y2 HN.out.2.2 _ _ px py W2 (IsVs.on HB2.out _ _ HP1.out) HP2.out).mono ?_
            rintro e W3 ⟨rfl, hb3⟩
            have hw3 := hw2.trans (hb3.mono hw2.size)
            have HB3 := Lib.hid hb3
            clear hb3
            go_wp2
            refine HK.out _ _ (fun _ => hw3) ?_
            clear HK K
            refine G_one (k := 23) rfl (by kernel_rfl) (fun K hK => ?_)
            have HK := Lib.hid hK
            clear hK
            go_wp2_with fail
            refine (rsameP_vs x y2 _ _ vs us W3 (IsVs.on hw3 _ _ HV1.out) (IsVs.on hw3 _ _ HU1.out)).mono ?_
            rintro e W4 ⟨rfl, hb4⟩
            have hw4 := hw3.trans (hb4.mono hw3.size)
            have HB4 := Lib.hid hb4
            clear hb4
            go_wp2
            refine HK.out _ _ (fun _ => hw4) ?_
            clear HK K
            refine G_one (k := 24) rfl (by kernel_rfl) (fun K hK => ?_)
            have HK := Lib.hid hK
            clear hK
            go_wp2
            refine HK.out _ _ (fun _ => hw4) ?_
            clear HK K
            refine G_done (by kernel_rfl) ?_
            have hbw4 := hbw.trans (hw4.mono hbw.size)
            generalize Pa.same x y2 = sb
            have q : (sb != sb) = false := by cases sb <;> rfl
            clear HV1 HV2 HU1 HU2 HN HP1 HP2 HB1 HB2 HB3 HB4
            go_wp2
            go_roundw
            case rel => exact ⟨k + 1, by omega, by go_num, hbw4⟩
            case measure => simp [intOf]; omega
          · have i2 : ¬ (k : Int) < fps.length := by omega
            have kw := K5.out.trans (hbw.mono K5.out.size)
            obtain ⟨vt, ht1, ht2⟩ := row_load (row_at (IsVs.on kw _ _ HT.out) (Below.heap_eq hbw T5.out)) 24 und_ty2 (by rw [Ty.row_len]; exact info_ty2)
            obtain ⟨vu, hu1, hu2⟩ := row_load (row_at (IsVs.on kw _ _ HU.out) (Below.heap_eq hbw U5.out)) 24 und_ty2 (by rw [Ty.row_len]; exact info_ty2)
            obtain ⟨ve, he1, he2⟩ := row_load (row_at (IsVs.on kw _ _ HE.out) (Below.heap_eq hbw E5.out)) 32 und_ex2 (by rw [Ex.row_len]; exact info_ex2)
            obtain ⟨vf, hf1, hf2⟩ := row_load (row_at (IsVs.on kw _ _ HF.out) (Below.heap_eq hbw F5.out)) 32 und_ex2 (by rw [Ex.row_len]; exact info_ex2)
            have VT := Lib.hid ht1
            have VT2 := Lib.hid ht2
            have VU := Lib.hid hu1
            have VU2 := Lib.hid hu2
            have VE := Lib.hid he1
            have VE2 := Lib.hid he2
            have VF := Lib.hid hf1
            have VF2 := Lib.hid hf2
            have HL := Lib.hid (HL.out.on kw)
            have HM := Lib.hid (HM.out.on kw)
            have HN := Lib.hid (all_small (HL3.out trivial hfit))
            have HNT := Lib.hid (types_small (HYn.out trivial (by omega)) hn)
            have KW := Lib.hid kw
            clear ht1 ht2 hu1 hu2 he1 he2 hf1 hf2 kw
            go_wp2
            clear e5 f5
            have hw0 : Below wr.heap.size wr wr.drew := (Below.refl _ _).drew
            refine wp_region_gate (fun V => Below wr.heap.size wr V) 100 (by kernel_rfl) hw0 ?_
            change AtG _ _ _ _ _ _ _ _ _ wr.drew
            generalize wr.drew = W0 at hw0 ⊢
            refine G_hold (i := 0) rfl (by kernel_rfl) (fun _ _ _ h => h) (yields_load 24 _ rfl ⟨w.heap.size, 0, none⟩ rfl vt.toArray VT2.out rfl) ?_
            simp only [Act.put, List.setIfInBounds_toArray, List.set_cons_zero, List.set_cons_succ]
            refine G_hold (i := 2) rfl (by kernel_rfl) (fun _ _ _ h => h) (yields_load 24 _ rfl ⟨w.heap.size + 1, 0, none⟩ rfl vu.toArray VU2.out rfl) ?_
            simp only [Act.put, List.setIfInBounds_toArray, List.set_cons_zero, List.set_cons_succ]
            refine G_hold (i := 5) rfl (by kernel_rfl) (fun _ _ _ h => h) (yields_load 24 _ rfl ⟨w.heap.size, 0, none⟩ rfl vt.toArray VT2.out rfl) ?_
            simp only [Act.put, List.setIfInBounds_toArray, List.set_cons_zero, List.set_cons_succ]
            refine G_hold (i := 6) rfl (by kernel_rfl) (fun _ _ _ h => h) (yields_load 24 _ rfl ⟨w.heap.size + 1, 0, none⟩ rfl vu.toArray VU2.out rfl) ?_
            simp only [Act.put, List.setIfInBounds_toArray, List.set_cons_zero, List.set_cons_succ]
            refine G_one (k := 1) rfl (by kernel_rfl) (fun K hK => ?_)
            have HK := Lib.hid hK
            clear hK
            go_wp2_with fail
            refine (ownT_vs (.mk tk tp tn tl) HNT.out.1 _ vt W0 (IsVs.on hw0 _ _ VT.out)).mono ?_
            rintro e W1 ⟨px, rfl, hpx, hb1⟩
            have hw1 := hw0.trans (hb1.mono hw0.size)
            have HB1 := Lib.hid hb1
            have HP1 := Lib.hid hpx
            clear hpx
            clear hb1
            go_wp2
            refine HK.out _ _ (fun _ => hw1) ?_
            clear HK K
            refine G_one (k := 3) rfl (by kernel_rfl) (fun K hK => ?_)
            have HK := Lib.hid hK
            clear hK
            go_wp2_with fail
            refine (ownT_vs (.mk uk up un ul) HNT.out.2.1 _ vu W1 (IsVs.on hw1 _ _ VU.out)).mono ?_
            rintro e W2 ⟨py, rfl, hpy, hb2⟩
            have hw2 := hw1.trans (hb2.mono hw1.size)
            have HB2 := Lib.hid hb2
            have HP2 := Lib.hid hpy
            clear hpy
            clear hb2
            go_wp2
            refine HK.out _ _ (fun _ => hw2) ?_
            clear HK K
            refine G_one (k := 4) rfl (by kernel_rfl) (fun K hK => ?_)
            have HK := Lib.hid hK
            clear hK
            go_wp2_with fail
            refine (sameT_any (.mk tk tp tn tl) (.mk uk up un ul) HNT.out.2.2 _ _ px py W2 (IsVs.on HB2.out _ _ HP1.out) HP2.out).mono ?_
            rintro e W3 ⟨rfl, hb3⟩
            have hw3 := hw2.trans (hb3.mono hw2.size)
            have HB3 := Lib.hid hb3
            clear hb3
            go_wp2
            refine HK.out _ _ (fun _ => hw3) ?_
            clear HK K
            refine G_one (k := 7) rfl (by kernel_rfl) (fun K hK => ?_)
            have HK := Lib.hid hK
            clear hK
            go_wp2_with fail
            refine (rsameT_vs (.mk tk tp tn tl) (.mk uk up un ul) _ _ vt vu W3 (IsVs.on hw3 _ _ VT.out) (IsVs.on hw3 _ _ VU.out)).mono ?_
            rintro e W4 ⟨rfl, hb4⟩
            have hw4 := hw3.trans (hb4.mono hw3.size)
            have HB4 := Lib.hid hb4
            clear hb4
            go_wp2
            refine HK.out _ _ (fun _ => hw4) ?_
            clear HK K
            clear HP1 HP2 HB1 HB2 HB3 HB4
            refine G_one (k := 8) rfl (by kernel_rfl) (fun K hK => ?_)
            have HK := Lib.hid hK
            clear hK
            go_wp2
            try simp only [beq_self_eq_true]
            refine HK.out _ _ (fun _ => hw4) ?_
            clear HK K
            refine G_one (k := 9) rfl (by kernel_rfl) (fun K hK => ?_)
            have HK := Lib.hid hK
            clear hK
            go_wp2
            refine HK.out _ _ (fun _ => hw4) ?_
            clear HK K
            refine G_hold (i := 10) rfl (by kernel_rfl) (fun _ _ _ h => h) (yields_load 32 _ rfl ⟨w.heap.size + 1 + 1, 0, none⟩ rfl ve.toArray VE2.out rfl) ?_
            simp only [Act.put, List.setIfInBounds_toArray, List.set_cons_zero, List.set_cons_succ]
            refine G_hold (i := 12) rfl (by kernel_rfl) (fun _ _ _ h => h) (yields_load 32 _ rfl ⟨w.heap.size + 1 + 1 + 1, 0, none⟩ rfl vf.toArray VF2.out rfl) ?_
            simp only [Act.put, List.setIfInBounds_toArray, List.set_cons_zero, List.set_cons_succ]
            refine G_hold (i := 15) rfl (by kernel_rfl) (fun _ _ _ h => h) (yields_load 32 _ rfl ⟨w.heap.size + 1 + 1, 0, none⟩ rfl ve.toArray VE2.out rfl) ?_
            simp only [Act.put, List.setIfInBounds_toArray, List.set_cons_zero, List.set_cons_succ]
            refine G_hold (i := 16) rfl (by kernel_rfl) (fun _ _ _ h => h) (yields_load 32 _ rfl ⟨w.heap.size + 1 + 1 + 1, 0, none⟩ rfl vf.toArray VF2.out rfl) ?_
            simp only [Act.put, List.setIfInBounds_toArray, List.set_cons_zero, List.set_cons_succ]
            refine G_one (k := 11) rfl (by kernel_rfl) (fun K hK => ?_)
            have HK := Lib.hid hK
            clear hK
            go_wp2_with fail
            refine (ownE_nd 1000000 (Nat.le_refl _) (.mk ek ep en em el eps eal eds) HN.out.1 _ ve W4 (IsVs.on hw4 _ _ VE.out)).mono ?_
            rintro e W5 ⟨px, rfl, hpx, hb5⟩
            have hw5 := hw4.trans (hb5.mono hw4.size)
            have HB5 := Lib.hid hb5
            have HP1 := Lib.hid hpx
            clear hpx
            clear hb5
            go_wp2
            refine HK.out _ _ (fun _ => hw5) ?_
            clear HK K
            refine G_one (k := 13) rfl (by kernel_rfl) (fun K hK => ?_)
            have HK := Lib.hid hK
            clear hK
            go_wp2_with fail
            refine (ownE_nd 1000000 (Nat.le_refl _) (.mk fk fp fn fm fl fps fal fds) HN.out.2.1 _ vf W5 (IsVs.on hw5 _ _ VF.out)).mono ?_
            rintro e W6 ⟨py, rfl, hpy, hb6⟩
            have hw6 := hw5.trans (hb6.mono hw5.size)
            have HB6 := Lib.hid hb6
            have HP2 := Lib.hid hpy
            clear hpy
            clear hb6
            go_wp2
            refine HK.out _ _ (fun _ => hw6) ?_
            clear HK K
            refine G_one (k := 14) rfl (by kernel_rfl) (fun K hK => ?_)
            have HK := Lib.hid hK
            clear hK
            go_wp2_with fail
            refine (sameE_any (.mk ek ep en em el eps eal eds) (.mk fk fp fn fm fl fps fal fds) HN.out.2.2.1 _ _ px py W6 (IsVs.on HB6.out _ _ HP1.out) HP2.out).mono ?_
            rintro e W7 ⟨rfl, hb7⟩
            have hw7 := hw6.trans (hb7.mono hw6.size)
            have HB7 := Lib.hid hb7
            clear hb7
            go_wp2
            refine HK.out _ _ (fun _ => hw7) ?_
            clear HK K
            refine G_one (k := 17) rfl (by kernel_rfl) (fun K hK => ?_)
            have HK := Lib.hid hK
            clear hK
            go_wp2_with fail
            refine (rsameE_any (.mk ek ep en em el eps eal eds) (.mk fk fp fn fm fl fps fal fds) _ _ ve vf W7 (IsVs.on hw7 _ _ VE.out) (IsVs.on hw7 _ _ VF.out)).mono ?_
            rintro e W8 ⟨rfl, hb8⟩
            have hw8 := hw7.trans (hb8.mono hw7.size)
            have HB8 := Lib.hid hb8
            clear hb8
            go_wp2
            refine HK.out _ _ (fun _ => hw8) ?_
            clear HK K
            clear HP1 HP2 HB5 HB6 HB7 HB8
            refine G_one (k := 18) rfl (by kernel_rfl) (fun K hK => ?_)
            have HK := Lib.hid hK
            clear hK
            go_wp2
            try simp only [beq_self_eq_true]
            refine HK.out _ _ (fun _ => hw8) ?_
            clear HK K
            refine G_one (k := 19) rfl (by kernel_rfl) (fun K hK => ?_)
            have HK := Lib.hid hK
            clear hK
            go_wp2
            refine HK.out _ _ (fun _ => hw8) ?_
            clear HK K
            refine G_one (k := 20) rfl (by kernel_rfl) (fun K hK => ?_)
            have HK := Lib.hid hK
            clear hK
            go_wp2
            refine HK.out _ _ (fun _ => hw8) ?_
            clear HK K
            refine G_hold (i := 21) (v := ?_) rfl (by kernel_rfl) (fun _ _ _ h => h) (Or.inl ⟨by rfl, fun V hV => ?_⟩) ?_
            rotate_left
            · go_simp; with_reducible rfl
            simp only [Act.put, List.setIfInBounds_toArray, List.set_cons_zero, List.set_cons_succ]
            refine G_hold (i := 23) (v := ?_) rfl (by kernel_rfl) (fun _ _ _ h => h) (Or.inl ⟨by rfl, fun V hV => ?_⟩) ?_
            rotate_left
            · go_simp; with_reducible rfl
            simp only [Act.put, List.setIfInBounds_toArray, List.set_cons_zero, List.set_cons_succ]
            refine G_hold (i := 26) (v := ?_) rfl (by kernel_rfl) (fun _ _ _ h => h) (Or.inl ⟨by rfl, fun V hV => ?_⟩) ?_
            rotate_left
            · go_simp; with_reducible rfl
            simp only [Act.put, List.setIfInBounds_toArray, List.set_cons_zero, List.set_cons_succ]
            refine G_hold (i := 27) (v := ?_) rfl (by kernel_rfl) (fun _ _ _ h => h) (Or.inl ⟨by rfl, fun V hV => ?_⟩) ?_
            rotate_left
            · go_simp; with_reducible rfl
            simp only [Act.put, List.setIfInBounds_toArray, List.set_cons_zero, List.set_cons_succ]
            refine G_one (k := 22) rfl (by kernel_rfl) (fun K hK => ?_)
            have HK := Lib.hid hK
            clear hK
            go_wp2_with fail
            refine (ownDs_nd l HN.out.2.2.2.1 _ _ W8 (HL.out.on hw8)).mono ?_
            rintro e W9 ⟨pv, rfl, hpv, hb9⟩
            have hw9 := hw8.trans (hb9.mono hw8.size)
            have HB9 := Lib.hid hb9
            have HP1 := Lib.hid hpv
            clear hpv
            clear hb9
            go_wp2
            refine HK.out _ _ (fun _ => hw9) ?_
            clear HK K
            refine G_one (k := 24) rfl (by kernel_rfl) (fun K hK => ?_)
            have HK := Lib.hid hK
            clear hK
            go_wp2_with fail
            refine (ownDs_nd m HN.out.2.2.2.2.1 _ _ W9 (HM.out.on hw9)).mono ?_
            rintro e W10 ⟨pw, rfl, hpw, hb10⟩
            have hw10 := hw9.trans (hb10.mono hw9.size)
            have HB10 := Lib.hid hb10
            have HP2 := Lib.hid hpw
            clear hpw
            clear hb10
            go_wp2
            refine HK.out _ _ (fun _ => hw10) ?_
            clear HK K
            refine G_one (k := 25) rfl (by kernel_rfl) (fun K hK => ?_)
            have HK := Lib.hid hK
            clear hK
            go_wp2_with fail
            refine (sameDs_any l m HN.out.2.2.2.2.2 _ _ pv pw W10 (HP1.out.on HB10.out) HP2.out).mono ?_
            rintro e W11 ⟨rfl, hb11⟩
            have hw11 := hw10.trans (hb11.mono hw10.size)
            have HB11 := Lib.hid hb11
            clear hb11
            go_wp2
            refine HK.out _ _ (fun _ => hw11) ?_
            clear HK K
            refine G_one (k := 28) rfl (by kernel_rfl) (fun K hK => ?_)
            have HK := Lib.hid hK
            clear hK
            go_wp2_with fail
            refine (rsameDs_any l m _ _ _ _ W11 (HL.out.on hw11) (HM.out.on hw11)).mono ?_
            rintro e W12 ⟨rfl, hb12⟩
            have hw12 := hw11.trans (hb12.mono hw11.size)
            have HB12 := Lib.hid hb12
            clear hb12
            go_wp2
            refine HK.out _ _ (fun _ => hw12) ?_
            clear HK K
            clear HP1 HP2 HB9 HB10 HB11 HB12
            refine G_one (k := 29) rfl (by kernel_rfl) (fun K hK => ?_)
            have HK := Lib.hid hK
            clear hK
            go_wp2
            try simp only [beq_self_eq_true]
            refine HK.out _ _ (fun _ => hw12) ?_
            clear HK K
            refine G_one (k := 30) rfl (by kernel_rfl) (fun K hK => ?_)
            have HK := Lib.hid hK
            clear hK
            go_wp2
            refine HK.out _ _ (fun _ => hw12) ?_
            clear HK K
            refine G_one (k := 31) rfl (by kernel_rfl) (fun K hK => ?_)
            have HK := Lib.hid hK
            clear hK
            go_wp2
            refine HK.out _ _ (fun _ => hw12) ?_
            clear HK K
            refine G_one (k := 32) rfl (by kernel_rfl) (fun K hK => ?_)
            have HK := Lib.hid hK
            clear hK
            go_wp2_with fail
            refine (knows_any W12).mono ?_
            rintro e W13 ⟨rfl, hb13⟩
            have hw13 := hw12.trans (hb13.mono hw12.size)
            have HB13 := Lib.hid hb13
            clear hb13
            go_wp2
            refine HK.out _ _ (fun _ => hw13) ?_
            clear HK K
            refine G_one (k := 33) rfl (by kernel_rfl) (fun K hK => ?_)
            have HK := Lib.hid hK
            clear hK
            go_wp2
            refine HK.out _ _ (fun _ => hw13) ?_
            clear HK K
            refine G_one (k := 34) rfl (by kernel_rfl) (fun K hK => ?_)
            have HK := Lib.hid hK
            clear hK
            go_wp2
            refine HK.out _ _ (fun _ => hw13) ?_
            clear HK K
            refine G_done (by kernel_rfl) ?_
            have hz := KW.out.trans (hw13.mono KW.out.size)
            go_wp2
            go_ret
            exact ⟨rfl, hz⟩
        · have i1 : ¬ (k : Int) < eps.length := by omega
          have kw := K5.out.trans (hbw.mono K5.out.size)
          obtain ⟨vt, ht1, ht2⟩ := row_load (row_at (IsVs.on kw _ _ HT.out) (Below.heap_eq hbw T5.out)) 24 und_ty2 (by rw [Ty.row_len]; exact info_ty2)
          obtain ⟨vu, hu1, hu2⟩ := row_load (row_at (IsVs.on kw _ _ HU.out) (Below.heap_eq hbw U5.out)) 24 und_ty2 (by rw [Ty.row_len]; exact info_ty2)
          obtain ⟨ve, he1, he2⟩ := row_load (row_at (IsVs.on kw _ _ HE.out) (Below.heap_eq hbw E5.out)) 32 und_ex2 (by rw [Ex.row_len]; exact info_ex2)
          obtain ⟨vf, hf1, hf2⟩ := row_load (row_at (IsVs.on kw _ _ HF.out) (Below.heap_eq hbw F5.out)) 32 und_ex2 (by rw [Ex.row_len]; exact info_ex2)
          have VT := Lib.hid ht1
          have VT2 := Lib.hid ht2
          have VU := Lib.hid hu1
          have VU2 := Lib.hid hu2
          have VE := Lib.hid he1
          have VE2 := Lib.hid he2
          have VF := Lib.hid hf1
          have VF2 := Lib.hid hf2
          have HL := Lib.hid (HL.out.on kw)
          have HM := Lib.hid (HM.out.on kw)
          have HN := Lib.hid (all_small (HL3.out trivial hfit))
          have HNT := Lib.hid (types_small (HYn.out trivial (by omega)) hn)
          have KW := Lib.hid kw
          clear ht1 ht2 hu1 hu2 he1 he2 hf1 hf2 kw
          go_wp2
          clear e5 f5
          have hw0 : Below wr.heap.size wr wr.drew := (Below.refl _ _).drew
          refine wp_region_gate (fun V => Below wr.heap.size wr V) 100 (by kernel_rfl) hw0 ?_
          change AtG _ _ _ _ _ _ _ _ _ wr.drew
          generalize wr.drew = W0 at hw0 ⊢
          refine G_hold (i := 0) rfl (by kernel_rfl) (fun _ _ _ h => h) (yields_load 24 _ rfl ⟨w.heap.size, 0, none⟩ rfl vt.toArray VT2.out rfl) ?_
          simp only [Act.put, List.setIfInBounds_toArray, List.set_cons_zero, List.set_cons_succ]
          refine G_hold (i := 2) rfl (by kernel_rfl) (fun _ _ _ h => h) (yields_load 24 _ rfl ⟨w.heap.size + 1, 0, none⟩ rfl vu.toArray VU2.out rfl) ?_
          simp only [Act.put, List.setIfInBounds_toArray, List.set_cons_zero, List.set_cons_succ]
          refine G_hold (i := 5) rfl (by kernel_rfl) (fun _ _ _ h => h) (yields_load 24 _ rfl ⟨w.heap.size, 0, none⟩ rfl vt.toArray VT2.out rfl) ?_
          simp only [Act.put, List.setIfInBounds_toArray, List.set_cons_zero, List.set_cons_succ]
          refine G_hold (i := 6) rfl (by kernel_rfl) (fun _ _ _ h => h) (yields_load 24 _ rfl ⟨w.heap.size + 1, 0, none⟩ rfl vu.toArray VU2.out rfl) ?_
          simp only [Act.put, List.setIfInBounds_toArray, List.set_cons_zero, List.set_cons_succ]
          refine G_one (k := 1) rfl (by kernel_rfl) (fun K hK => ?_)
          have HK := Lib.hid hK
          clear hK
          go_wp2_with fail
          refine (ownT_vs (.mk tk tp tn tl) HNT.out.1 _ vt W0 (IsVs.on hw0 _ _ VT.out)).mono ?_
          rintro e W1 ⟨px, rfl, hpx, hb1⟩
          have hw1 := hw0.trans (hb1.mono hw0.size)
          have HB1 := Lib.hid hb1
          have HP1 := Lib.hid hpx
          clear hpx
          clear hb1
          go_wp2
          refine HK.out _ _ (fun _ => hw1) ?_
          clear HK K
          refine G_one (k := 3) rfl (by kernel_rfl) (fun K hK => ?_)
          have HK := Lib.hid hK
          clear hK
          go_wp2_with fail
          refine (ownT_vs (.mk uk up un ul) HNT.out.2.1 _ vu W1 (IsVs.on hw1 _ _ VU.out)).mono ?_
          rintro e W2 ⟨py, rfl, hpy, hb2⟩
          have hw2 := hw1.trans (hb2.mono hw1.size)
          have HB2 := Lib.hid hb2
          have HP2 := Lib.hid hpy
          clear hpy
          clear hb2
          go_wp2
          refine HK.out _ _ (fun _ => hw2) ?_
          clear HK K
          refine G_one (k := 4) rfl (by kernel_rfl) (fun K hK => ?_)
          have HK := Lib.hid hK
          clear hK
          go_wp2_with fail
          refine (sameT_any (.mk tk tp tn tl) (.mk uk up un ul) HNT.out.2.2 _ _ px py W2 (IsVs.on HB2.out _ _ HP1.out) HP2.out).mono ?_
          rintro e W3 ⟨rfl, hb3⟩
          have hw3 := hw2.trans (hb3.mono hw2.size)
          have HB3 := Lib.hid hb3
          clear hb3
          go_wp2
          refine HK.out _ _ (fun _ => hw3) ?_
          clear HK K
          refine G_one (k := 7) rfl (by kernel_rfl) (fun K hK => ?_)
          have HK := Lib.hid hK
          clear hK
          go_wp2_with fail
          refine (rsameT_vs (.mk tk tp tn tl) (.mk uk up un ul) _ _ vt vu W3 (IsVs.on hw3 _ _ VT.out) (IsVs.on hw3 _ _ VU.out)).mono ?_
          rintro e W4 ⟨rfl, hb4⟩
          have hw4 := hw3.trans (hb4.mono hw3.size)
          have HB4 := Lib.hid hb4
          clear hb4
          go_wp2
          refine HK.out _ _ (fun _ => hw4) ?_
          clear HK K
          clear HP1 HP2 HB1 HB2 HB3 HB4
          refine G_one (k := 8) rfl (by kernel_rfl) (fun K hK => ?_)
          have HK := Lib.hid hK
          clear hK
          go_wp2
          try simp only [beq_self_eq_true]
          refine HK.out _ _ (fun _ => hw4) ?_
          clear HK K
          refine G_one (k := 9) rfl (by kernel_rfl) (fun K hK => ?_)
          have HK := Lib.hid hK
          clear hK
          go_wp2
          refine HK.out _ _ (fun _ => hw4) ?_
          clear HK K
          refine G_hold (i := 10) rfl (by kernel_rfl) (fun _ _ _ h => h) (yields_load 32 _ rfl ⟨w.heap.size + 1 + 1, 0, none⟩ rfl ve.toArray VE2.out rfl) ?_
          simp only [Act.put, List.setIfInBounds_toArray, List.set_cons_zero, List.set_cons_succ]
          refine G_hold (i := 12) rfl (by kernel_rfl) (fun _ _ _ h => h) (yields_load 32 _ rfl ⟨w.heap.size + 1 + 1 + 1, 0, none⟩ rfl vf.toArray VF2.out rfl) ?_
          simp only [Act.put, List.setIfInBounds_toArray, List.set_cons_zero, List.set_cons_succ]
          refine G_hold (i := 15) rfl (by kernel_rfl) (fun _ _ _ h => h) (yields_load 32 _ rfl ⟨w.heap.size + 1 + 1, 0, none⟩ rfl ve.toArray VE2.out rfl) ?_
          simp only [Act.put, List.setIfInBounds_toArray, List.set_cons_zero, List.set_cons_succ]
          refine G_hold (i := 16) rfl (by kernel_rfl) (fun _ _ _ h => h) (yields_load 32 _ rfl ⟨w.heap.size + 1 + 1 + 1, 0, none⟩ rfl vf.toArray VF2.out rfl) ?_
          simp only [Act.put, List.setIfInBounds_toArray, List.set_cons_zero, List.set_cons_succ]
          refine G_one (k := 11) rfl (by kernel_rfl) (fun K hK => ?_)
          have HK := Lib.hid hK
          clear hK
          go_wp2_with fail
          refine (ownE_nd 1000000 (Nat.le_refl _) (.mk ek ep en em el eps eal eds) HN.out.1 _ ve W4 (IsVs.on hw4 _ _ VE.out)).mono ?_
          rintro e W5 ⟨px, rfl, hpx, hb5⟩
          have hw5 := hw4.trans (hb5.mono hw4.size)
          have HB5 := Lib.hid hb5
          have HP1 := Lib.hid hpx
          clear hpx
          clear hb5
          go_wp2
          refine HK.out _ _ (fun _ => hw5) ?_
          clear HK K
          refine G_one (k := 13) rfl (by kernel_rfl) (fun K hK => ?_)
          have HK := Lib.hid hK
          clear hK
          go_wp2_with fail
          refine (ownE_nd 1000000 (Nat.le_refl _) (.mk fk fp fn fm fl fps fal fds) HN.out.2.1 _ vf W5 (IsVs.on hw5 _ _ VF.out)).mono ?_
          rintro e W6 ⟨py, rfl, hpy, hb6⟩
          have hw6 := hw5.trans (hb6.mono hw5.size)
          have HB6 := Lib.hid hb6
          have HP2 := Lib.hid hpy
          clear hpy
          clear hb6
          go_wp2
          refine HK.out _ _ (fun _ => hw6) ?_
          clear HK K
          refine G_one (k := 14) rfl (by kernel_rfl) (fun K hK => ?_)
          have HK := Lib.hid hK
          clear hK
          go_wp2_with fail
          refine (sameE_any (.mk ek ep en em el eps eal eds) (.mk fk fp fn fm fl fps fal fds) HN.out.2.2.1 _ _ px py W6 (IsVs.on HB6.out _ _ HP1.out) HP2.out).mono ?_
          rintro e W7 ⟨rfl, hb7⟩
          have hw7 := hw6.trans (hb7.mono hw6.size)
          have HB7 := Lib.hid hb7
          clear hb7
          go_wp2
          refine HK.out _ _ (fun _ => hw7) ?_
          clear HK K
          refine G_one (k := 17) rfl (by kernel_rfl) (fun K hK => ?_)
          have HK := Lib.hid hK
          clear hK
          go_wp2_with fail
          refine (rsameE_any (.mk ek ep en em el eps eal eds) (.mk fk fp fn fm fl fps fal fds) _ _ ve vf W7 (IsVs.on hw7 _ _ VE.out) (IsVs.on hw7 _ _ VF.out)).mono ?_
          rintro e W8 ⟨rfl, hb8⟩
          have hw8 := hw7.trans (hb8.mono hw7.size)
          have HB8 := Lib.hid hb8
          clear hb8
          go_wp2
          refine HK.out _ _ (fun _ => hw8) ?_
          clear HK K
          clear HP1 HP2 HB5 HB6 HB7 HB8
          refine G_one (k := 18) rfl (by kernel_rfl) (fun K hK => ?_)
          have HK := Lib.hid hK
          clear hK
          go_wp2
          try simp only [beq_self_eq_true]
          refine HK.out _ _ (fun _ => hw8) ?_
          clear HK K
          refine G_one (k := 19) rfl (by kernel_rfl) (fun K hK => ?_)
          have HK := Lib.hid hK
          clear hK
          go_wp2
          refine HK.out _ _ (fun _ => hw8) ?_
          clear HK K
          refine G_one (k := 20) rfl (by kernel_rfl) (fun K hK => ?_)
          have HK := Lib.hid hK
          clear hK
          go_wp2
          refine HK.out _ _ (fun _ => hw8) ?_
          clear HK K
          refine G_hold (i := 21) (v := ?_) rfl (by kernel_rfl) (fun _ _ _ h => h) (Or.inl ⟨by rfl, fun V hV => ?_⟩) ?_
          rotate_left
          · go_simp; with_reducible rfl
          simp only [Act.put, List.setIfInBounds_toArray, List.set_cons_zero, List.set_cons_succ]
          refine G_hold (i := 23) (v := ?_) rfl (by kernel_rfl) (fun _ _ _ h => h) (Or.inl ⟨by rfl, fun V hV => ?_⟩) ?_
          rotate_left
          · go_simp; with_reducible rfl
          simp only [Act.put, List.setIfInBounds_toArray, List.set_cons_zero, List.set_cons_succ]
          refine G_hold (i := 26) (v := ?_) rfl (by kernel_rfl) (fun _ _ _ h => h) (Or.inl ⟨by rfl, fun V hV => ?_⟩) ?_
          rotate_left
          · go_simp; with_reducible rfl
          simp only [Act.put, List.setIfInBounds_toArray, List.set_cons_zero, List.set_cons_succ]
          refine G_hold (i := 27) (v := ?_) rfl (by kernel_rfl) (fun _ _ _ h => h) (Or.inl ⟨by rfl, fun V hV => ?_⟩) ?_
          rotate_left
          · go_simp; with_reducible rfl
          simp only [Act.put, List.setIfInBounds_toArray, List.set_cons_zero, List.set_cons_succ]
          refine G_one (k := 22) rfl (by kernel_rfl) (fun K hK => ?_)
          have HK := Lib.hid hK
          clear hK
          go_wp2_with fail
          refine (ownDs_nd l HN.out.2.2.2.1 _ _ W8 (HL.out.on hw8)).mono ?_
          rintro e W9 ⟨pv, rfl, hpv, hb9⟩
          have hw9 := hw8.trans (hb9.mono hw8.size)
          have HB9 := Lib.hid hb9
          have HP1 := Lib.hid hpv
          clear hpv
          clear hb9
          go_wp2
          refine HK.out _ _ (fun _ => hw9) ?_
          clear HK K
          refine G_one (k := 24) rfl (by kernel_rfl) (fun K hK => ?_)
          have HK := Lib.hid hK
          clear hK
          go_wp2_with fail
          refine (ownDs_nd m HN.out.2.2.2.2.1 _ _ W9 (HM.out.on hw9)).mono ?_
          rintro e W10 ⟨pw, rfl, hpw, hb10⟩
          have hw10 := hw9.trans (hb10.mono hw9.size)
          have HB10 := Lib.hid hb10
          have HP2 := Lib.hid hpw
          clear hpw
          clear hb10
          go_wp2
          refine HK.out _ _ (fun _ => hw10) ?_
          clear HK K
          refine G_one (k := 25) rfl (by kernel_rfl) (fun K hK => ?_)
          have HK := Lib.hid hK
          clear hK
          go_wp2_with fail
          refine (sameDs_any l m HN.out.2.2.2.2.2 _ _ pv pw W10 (HP1.out.on HB10.out) HP2.out).mono ?_
          rintro e W11 ⟨rfl, hb11⟩
          have hw11 := hw10.trans (hb11.mono hw10.size)
          have HB11 := Lib.hid hb11
          clear hb11
          go_wp2
          refine HK.out _ _ (fun _ => hw11) ?_
          clear HK K
          refine G_one (k := 28) rfl (by kernel_rfl) (fun K hK => ?_)
          have HK := Lib.hid hK
          clear hK
          go_wp2_with fail
          refine (rsameDs_any l m _ _ _ _ W11 (HL.out.on hw11) (HM.out.on hw11)).mono ?_
          rintro e W12 ⟨rfl, hb12⟩
          have hw12 := hw11.trans (hb12.mono hw11.size)
          have HB12 := Lib.hid hb12
          clear hb12
          go_wp2
          refine HK.out _ _ (fun _ => hw12) ?_
          clear HK K
          clear HP1 HP2 HB9 HB10 HB11 HB12
          refine G_one (k := 29) rfl (by kernel_rfl) (fun K hK => ?_)
          have HK := Lib.hid hK
          clear hK
          go_wp2
          try simp only [beq_self_eq_true]
          refine HK.out _ _ (fun _ => hw12) ?_
          clear HK K
          refine G_one (k := 30) rfl (by kernel_rfl) (fun K hK => ?_)
          have HK := Lib.hid hK
          clear hK
          go_wp2
          refine HK.out _ _ (fun _ => hw12) ?_
          clear HK K
          refine G_one (k := 31) rfl (by kernel_rfl) (fun K hK => ?_)
          have HK := Lib.hid hK
          clear hK
          go_wp2
          refine HK.out _ _ (fun _ => hw12) ?_
          clear HK K
          refine G_one (k := 32) rfl (by kernel_rfl) (fun K hK => ?_)
          have HK := Lib.hid hK
          clear hK
          go_wp2_with fail
          refine (knows_any W12).mono ?_
          rintro e W13 ⟨rfl, hb13⟩
          have hw13 := hw12.trans (hb13.mono hw12.size)
          have HB13 := Lib.hid hb13
          clear hb13
          go_wp2
          refine HK.out _ _ (fun _ => hw13) ?_
          clear HK K
          refine G_one (k := 33) rfl (by kernel_rfl) (fun K hK => ?_)
          have HK := Lib.hid hK
          clear hK
          go_wp2
          refine HK.out _ _ (fun _ => hw13) ?_
          clear HK K
          refine G_one (k := 34) rfl (by kernel_rfl) (fun K hK => ?_)
          have HK := Lib.hid hK
          clear hK
          go_wp2
          refine HK.out _ _ (fun _ => hw13) ?_
          clear HK K
          refine G_done (by kernel_rfl) ?_
          have hz := KW.out.trans (hw13.mono KW.out.size)
          go_wp2
          go_ret
          exact ⟨rfl, hz⟩
/-- the same, of trees as arguments -/
theorem sames_vs (t u : Ty) (x y : Ex) (l m : List De) (vt vu vx vy : List Value) (vl vm : Value) (w : World) (ht : IsVs w Any t.row vt) (hu : IsVs w Any u.row vu) (hx : IsVs w Any x.row vx) (hy : IsVs w Any y.row vy) (hl : IsDes w Any vl l) (hm : IsDes w Any vm m)
    (fx : x.fit) (fy : y.fit) (fl : De.fits l) (fm : De.fits m) :
    Calls Tryz.prog 4 #[.agg vt.toArray, .agg vu.toArray, .agg vx.toArray, .agg vy.toArray, vl, vm] w fun e w' => e = .returned (.bool true) ∧ Below w.heap.size w w' := by
  obtain ⟨tk, tp, tn, tl⟩ := t
  obtain ⟨uk, up, un, ul⟩ := u
  obtain ⟨ek, ep, en, em, el, eps, eal, eds⟩ := x
  obtain ⟨fk, fp, fn, fm', fl', fps, fal, fds⟩ := y
  obtain ⟨ta, tb, rfl, _⟩ := ty_vs ht
  obtain ⟨ua, ub, rfl, _⟩ := ty_vs hu
  obtain ⟨_, a4, a5, a6, a7, b4, b5, b6, b7, rfl, _⟩ := ex_vs hx
  obtain ⟨_, c4, c5, c6, c7, d4, d5, d6, d7, rfl, _⟩ := ex_vs hy
  obtain ⟨la, lb, rfl, _⟩ := hl.form
  obtain ⟨ma, mb, rfl, _⟩ := hm.form
  exact sames_law _ _ _ _ _ _ _ _ _ _ _ _ _ _ _ _ _ _ _ _ _ _ _ _ _ _ _ _ a4 a5 a6 a7 c4 c5 c6 c7 _ _ _ _ _ _ _ _ _ _ _ _ _ _ _ hx hy ht hu (by
    simp only [Ex.fits, Ex.fit, Al.fits]
    simp only [Ex.fit] at fx fy
    exact ⟨fx, fy, ⟨trivial, trivial, fl⟩, ⟨trivial, trivial, fm⟩, trivial⟩) hl hm
end Go.Proofs.YtdiffpiapdghoaaGreatDoor
