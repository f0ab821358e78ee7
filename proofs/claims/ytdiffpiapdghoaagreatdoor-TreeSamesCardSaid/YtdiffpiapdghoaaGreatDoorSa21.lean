/- Texts of this proof, joined: Knows, RowsAt, RSameC. No condition. -/
import Derived.Test.YtdiffpiapdghoaaGreatDoorSa20
import Derived.Test.YtdiffpiapdghoaaGreatDoorSa17
/-
  Layer 3, the law's side: knows: the constants.
-/
namespace Go.Proofs.YtdiffpiapdghoaaGreatDoor
set_option linter.unusedVariables false
open Go.ChangeShapes Go.WideShapes Go.ChangeAt Go.RowKit

theorem Below.heap_eq {w w' : World} (h : Below w.heap.size w w') {b : Nat} {o : Obj} (g : w.heap[b]? = some o) : w'.heap[b]? = some o := (h.block b (heap_lt g)).trans g

set_option maxHeartbeats 1600000 in
set_option maxRecDepth 100000 in
theorem knows_any (w : World) : Calls Tryz.prog 8 #[] w fun e w' => e = .returned (.bool true) ∧ Below w.heap.size w w' := by
  go_enter Tryz.func8, Tryz.ntmps8
  go_upto_region 4 with fail
  have hF := five_boxes w (.cells (nameVs ⟨#[102]⟩).toArray 53) (.cells (nameVs ⟨#[102]⟩ ++ numVs 7 3).toArray 53) (.cells (callVs 0 (w.heap.size + 1)).toArray 53) (.cells (nameVs ⟨#[102]⟩ ++ numVs 7 0).toArray 53) (.cells (callVs 9 (w.heap.size + 1 + 1 + 1)).toArray 53)
  change _ at hF ⊢
  simp only [nameVs, numVs, callVs, List.cons_append, List.nil_append] at hF
  generalize ((((w.alloc _).alloc _).alloc _).alloc _).alloc _ = W at hF ⊢
  obtain ⟨hb, gF, gA, gE, gB, gG, hsz⟩ := hF
  have vE := Lib.hid (call_vs (P := fun b => True ∧ b < W.heap.size) W 0 3 7 ⟨#[102]⟩ (by decide) (w.heap.size + 1) ⟨trivial, by omega⟩ _ gA)
  have GF := Lib.hid gF
  have GE := Lib.hid gE
  have GG := Lib.hid gG
  have GB := Lib.hid gB
  have GA := Lib.hid gA
  have HB := Lib.hid (And.intro hb hsz)
  obtain ⟨e0, e1, e2, e3, e4, e5, e6, e7⟩ := cells_of_block gE
  clear gF gA gE gB gG hb hsz
  go_wp2_with fail
  refine (size_any (callC 0 3 ⟨#[102]⟩ 7) (by decide) _ _ W vE.out).mono ?_
  rintro e' w1 ⟨rfl, h1⟩
  rw [show ((callC 0 3 ⟨#[102]⟩ 7).sz : Int) = 3 by decide]
  have e0 := bel_cell h1 e0
  have e1 := bel_cell h1 e1
  have e2 := bel_cell h1 e2
  have e3 := bel_cell h1 e3
  have e4 := bel_cell h1 e4
  have e5 := bel_cell h1 e5
  have e6 := bel_cell h1 e6
  have e7 := bel_cell h1 e7
  have hv1 := Lib.hid (call_vs (P := fun b => True ∧ b < w1.heap.size) w1 0 3 7 ⟨#[102]⟩ (by decide) (w.heap.size + 1) ⟨trivial, by have := h1.size; have := HB.out.2; omega⟩ _ ((Below.heap_eq h1 GA.out)))
  go_wp2_with fail
  refine (deep_any (callC 0 3 ⟨#[102]⟩ 7) (by decide) _ _ w1 hv1.out).mono ?_
  rintro e' w2 ⟨rfl, h2⟩
  rw [show (callC 0 3 ⟨#[102]⟩ 7).dm 1 0 = 2 by decide]
  have e0 := bel_cell h2 e0
  have e1 := bel_cell h2 e1
  have e2 := bel_cell h2 e2
  have e3 := bel_cell h2 e3
  have e4 := bel_cell h2 e4
  have e5 := bel_cell h2 e5
  have e6 := bel_cell h2 e6
  have e7 := bel_cell h2 e7
  have hv2 := Lib.hid (IsVs.on h2 _ _ hv1.out)
  go_wp2_with fail
  refine (rightE_of (callC 0 3 ⟨#[102]⟩ 7) true (right_call 0 3 7 (by decide) _ name_f) _ _ w2 hv2.out).mono ?_
  rintro e' w3 ⟨rfl, h3⟩
  have e0 := bel_cell h3 e0
  have e1 := bel_cell h3 e1
  have e2 := bel_cell h3 e2
  have e3 := bel_cell h3 e3
  have e4 := bel_cell h3 e4
  have e5 := bel_cell h3 e5
  have e6 := bel_cell h3 e6
  have e7 := bel_cell h3 e7
  have hv3 := Lib.hid (IsVs.on h3 _ _ hv2.out)
  have GG3 := Lib.hid (Below.heap_eq h3 (Below.heap_eq h2 (Below.heap_eq h1 GG.out)))
  have GB3 := Lib.hid (Below.heap_eq h3 (Below.heap_eq h2 (Below.heap_eq h1 GB.out)))
  have GF3 := Lib.hid (Below.heap_eq h3 (Below.heap_eq h2 (Below.heap_eq h1 GF.out)))
  obtain ⟨g0, g1, g2, g3, g4, g5, g6, g7⟩ := cells_of_block GG3.out
  have vG := Lib.hid (call_vs (P := fun _ => True) w3 9 0 7 ⟨#[102]⟩ (by decide) (w.heap.size + 1 + 1 + 1) trivial _ GB3.out)
  go_wp2_with fail
  refine (sameE_any (callC 0 3 ⟨#[102]⟩ 7) (callC 9 0 ⟨#[102]⟩ 7) (.inl (by decide)) _ _ _ _ w3 hv3.out vG.out).mono ?_
  rintro e' w4 ⟨rfl, h4⟩
  rw [show (callC 0 3 ⟨#[102]⟩ 7).same (callC 9 0 ⟨#[102]⟩ 7) = true by first | kernel_rfl | simp [callC, nameC, numC, Ex.same, Ex.sames, Pa.sames, Al.sames, De.sames]]
  clear g0 g1 g2 g3 g4 g5 g6 g7
  have e0 := bel_cell h4 e0
  have e1 := bel_cell h4 e1
  have e2 := bel_cell h4 e2
  have e3 := bel_cell h4 e3
  have e4 := bel_cell h4 e4
  have e5 := bel_cell h4 e5
  have e6 := bel_cell h4 e6
  have e7 := bel_cell h4 e7
  have hv4 := Lib.hid (IsVs.on h4 _ _ hv3.out)
  have GF4 := Lib.hid (Below.heap_eq h4 GF3.out)
  obtain ⟨g0, g1, g2, g3, g4, g5, g6, g7⟩ := cells_of_block GF4.out
  have vF := Lib.hid (name_vs (P := fun _ => True) w4 ⟨#[102]⟩ (by decide))
  go_wp2_with fail
  refine (sameE_any (callC 0 3 ⟨#[102]⟩ 7) (nameC ⟨#[102]⟩) (.inl (by decide)) _ _ _ _ w4 hv4.out vF.out).mono ?_
  rintro e' w5 ⟨rfl, h5⟩
  rw [show (callC 0 3 ⟨#[102]⟩ 7).same (nameC ⟨#[102]⟩) = false by first | kernel_rfl | simp [callC, nameC, numC, Ex.same]]
  go_wp2
  go_ret
  have k1 := HB.out.1.trans (h1.mono HB.out.1.size)
  have k2 := k1.trans (h2.mono k1.size)
  have k3 := k2.trans (h3.mono k2.size)
  have k4 := k3.trans (h4.mono k3.size)
  have k5 := k4.trans (h5.mono k4.size)
  exact ⟨rfl, k5⟩
end Go.Proofs.YtdiffpiapdghoaaGreatDoor
/-
  Layer 3: rows that lie one behind the other in one block.
-/
namespace Go.Proofs.YtdiffpiapdghoaaGreatDoor
set_option linter.unusedVariables false
open Go.ChangeShapes Go.WideShapes Go.ChangeAt Go.RowKit

/-- values of rows, one list each, of this length -/
inductive AllVs (w : World) (P : Nat → Prop) (n : Nat) : List (List Dt) → List (List Value) → Prop
  | nil : AllVs w P n [] []
  | cons {r : List Dt} {vs : List Value} {rs : List (List Dt)} {vss : List (List Value)} : IsVs w P r vs → vs.length = n → AllVs w P n rs vss → AllVs w P n (r :: rs) (vs :: vss)
theorem rows_flat {P : Nat → Prop} {W : World} {N n : Nat} {T : TypeId} : ∀ (rs : List (List Dt)) (vss : List (List Value)) (pre : List Value), AllVs W P n rs vss → W.heap[N]? = some (.cells (pre ++ vss.flatten).toArray T (0, 0)) → IsRows W P n rs ⟨N, pre.length, none⟩
  | [], _, pre, h, g => by unfold IsRows; trivial
  | r :: rs, vs :: vss, pre, h, g => by
    cases h with
    | cons h1 h2 h3 =>
      unfold IsRows
      refine ⟨IsRow.of_vals _ _ vs h1 fun j v hj => ?_, ?_⟩
      · have hlt := (List.getElem?_eq_some_iff.1 hj).1
        have ha : ((⟨N, pre.length, none⟩ : Addr).add j) = ⟨N, pre.length + j, none⟩ := by
          unfold Addr.add; split <;> simp_all
        rw [ha, Lib.cell_of_heap g, List.getElem?_toArray, List.getElem?_append_right (by omega), Nat.add_sub_cancel_left, List.flatten_cons, List.getElem?_append_left hlt]
        exact hj
      · have ha : ((⟨N, pre.length, none⟩ : Addr).add n) = ⟨N, (pre ++ vs).length, none⟩ := by
          rw [List.length_append, h2]; unfold Addr.add; split <;> simp_all
        rw [ha]
        exact rows_flat (T := T) rs vss (pre ++ vs) h3 (by rw [g]; simp)
theorem exs_at {P : Nat → Prop} {W : World} {N : Nat} {T : TypeId} (l : List Ex) (vss : List (List Value)) (h : AllVs W P 8 (l.map Ex.row) vss) (g : W.heap[N]? = some (.cells vss.flatten.toArray T (0, 0))) (hP : P N) (hl : l.length ≤ maxLen) : IsExs W P (.slice (some ⟨N, 0, none⟩) l.length l.length) l := by
  refine ⟨?_⟩
  unfold IsC
  refine .inr ⟨⟨N, 0, none⟩, l.length, by simp, by simp, hl, fun _ => hP, ?_⟩
  exact rows_flat _ vss [] h (by simpa using g)
end Go.Proofs.YtdiffpiapdghoaaGreatDoor
/-
  Layer 3, the document's side: sameCons.
-/
namespace Go.Proofs.YtdiffpiapdghoaaGreatDoor
set_option linter.unusedVariables false
open Go.ChangeShapes Go.WideShapes Go.ChangeAt Go.RowKit

/-- types held against each other, as values -/
theorem rsameT_vs (t u : Ty) (P Q : Nat → Prop) (vs us : List Value) (w : World) (hv : IsVs w P t.row vs) (hu : IsVs w Q u.row us) :
    Calls Tryz.prog 24 #[.agg vs.toArray, .agg us.toArray] w fun e w' => e = .returned (.bool (t.same u)) ∧ Below w.heap.size w w' := by
  obtain ⟨tk, tp, tn, tl⟩ := t
  obtain ⟨uk, up, un, ul⟩ := u
  obtain ⟨a, b, rfl, h1, h2⟩ := ty_vs hv
  obtain ⟨a', b', rfl, h3, h4⟩ := ty_vs hu
  exact rsameT_all _ (.mk tk tp tn tl) (.mk uk up un ul) (Nat.le_refl _) P Q _ _ w ⟨h1, h2⟩ ⟨h3, h4⟩
set_option maxHeartbeats 8000000 in
set_option maxRecDepth 100000 in
theorem rsameCs_any (sl tl : List Co) (P Q : Nat → Prop) (v v' : Value) (w : World) (hs : IsCos w P v sl) (ht : IsCos w Q v' tl) :
    Calls Tryz.prog 92 #[v, v'] w fun e w' => e = .returned (.bool (Co.sames sl tl)) ∧ Below w.heap.size w w' := by
  obtain ⟨ao, cap, rfl, v1, v2⟩ := hs.form
  obtain ⟨bo, cap2, rfl, u1, u2⟩ := ht.form
  have HS1 := Lib.hid hs
  have HT1 := Lib.hid ht
  have hlm : (sl.length : Int) ≤ 9223372036854775807 := by unfold maxLen at v2; omega
  clear hs ht
  by_cases hl : sl.length = tl.length
  · have q3 : ((sl.length : Int) != tl.length) = false := by rw [bne_eq_false_iff_eq]; omega
    have HLn := Lib.hid hl
    clear hl
    go_enter Tryz.func92, Tryz.ntmps92
    go_wp2
    go_loopw [5] (fun iv wr => ∃ k : Nat, k ≤ sl.length ∧ iv = .int .i64 k ∧ Hid (∀ (j : Nat) (s t : Co), j < k → sl[j]? = some s → tl[j]? = some t → s.same t = true) ∧ Below w.heap.size w wr) (fun iv _ => sl.length - (intOf iv).toNat)
    case atStart => exact ⟨0, Nat.zero_le _, rfl, Lib.hid (fun j s t hj => by omega), Below.refl _ _⟩
    case round =>
      obtain ⟨i, hi, rfl, H, hbw⟩ := hrel
      obtain ⟨w0, e0⟩ : ∃ w0, w0 = wr := ⟨_, rfl⟩
      subst e0
      by_cases hlt : i < sl.length
      · have i1 : (i : Int) < sl.length := by omega
        have i2 : (i : Int) < tl.length := by have := HLn.out; omega
        obtain ⟨x, hx⟩ : ∃ x, sl[i]? = some x := ⟨sl[i], List.getElem?_eq_getElem hlt⟩
        obtain ⟨y, hy⟩ : ∃ y, tl[i]? = some y := ⟨tl[i]'(by have := HLn.out; omega), List.getElem?_eq_getElem (by have := HLn.out; omega)⟩
        obtain ⟨a, rfl, _, hrow⟩ := HS1.out.at hx
        obtain ⟨b, rfl, _, hrow'⟩ := HT1.out.at hy
        have hrow := hrow.on hbw
        have hrow' := hrow'.on hbw
        have HX := Lib.hid hx
        have HY := Lib.hid hy
        obtain ⟨xp, xn, xl⟩ := x
        obtain ⟨yp, yn, yl⟩ := y
        obtain ⟨_, c1, c1', ca, cb, c2, hc1, hc2, hxa⟩ := hrow.cells
        obtain ⟨_, d1, d1', da, db, d2, hd1, hd2, hya⟩ := hrow'.cells
        simp only at c1 c2 d1 d2 c1' d1' hc1 hc2 hd1 hd2
        have hxlm : (xl.length : Int) ≤ 9223372036854775807 := by unfold maxLen at hc2; omega
        have HXA := Lib.hid hxa
        have HYA := Lib.hid hya
        have hsame : Co.same ⟨xp, xn, xl⟩ ⟨yp, yn, yl⟩ = (xn.data.toList == yn.data.toList && Ty.sames xl yl) := rfl
        have HSM := Lib.hid hsame
        clear hrow hrow' hxa hya hx hy hsame
        by_cases hn : xn = yn
        · subst hn
          have n1 : (xn.toList != xn.toList) = false := by simp
          by_cases hxy : xl.length = yl.length
          · have q4 : ((xl.length : Int) != yl.length) = false := by rw [bne_eq_false_iff_eq]; omega
            have HXY := Lib.hid hxy
            clear hxy
            go_wp2
            go_quiet (fail)
            go_wp2
            go_loopw [6] (fun iv wr => ∃ k : Nat, k ≤ xl.length ∧ iv = .int .i64 k ∧ Hid (∀ (j : Nat) (s t : Ty), j < k → xl[j]? = some s → yl[j]? = some t → s.same t = true) ∧ Below w0.heap.size w0 wr) (fun iv _ => xl.length - (intOf iv).toNat)
            case atStart => exact ⟨0, Nat.zero_le _, rfl, Lib.hid (fun j s t hj => by omega), drew_below w0 _⟩
            case round =>
              obtain ⟨k, hk, rfl, HK2, hb2⟩ := hrel
              have e2 : wr.cell? ⟨(a.add (i * 3)).block, (a.add (i * 3)).off + 2, none⟩ = some (.slice ca xl.length cb) := (hb2.cell (Lib.lt_of_cell c2)).trans c2
              have f2 : wr.cell? ⟨(b.add (i * 3)).block, (b.add (i * 3)).off + 2, none⟩ = some (.slice da yl.length db) := (hb2.cell (Lib.lt_of_cell d2)).trans d2
              by_cases hkl : k < xl.length
              · have k1 : (k : Int) < xl.length := by omega
                have k2 : (k : Int) < yl.length := by have := HXY.out; omega
                obtain ⟨s, hs⟩ : ∃ s, xl[k]? = some s := ⟨xl[k], List.getElem?_eq_getElem hkl⟩
                obtain ⟨t, ht⟩ : ∃ t, yl[k]? = some t := ⟨yl[k]'(by have := HXY.out; omega), List.getElem?_eq_getElem (by have := HXY.out; omega)⟩
                obtain ⟨p, rfl, _, hps⟩ := HXA.out.at hs
                obtain ⟨q, rfl, _, hqt⟩ := HYA.out.at ht
                have hps := hps.on hb2
                have hqt := hqt.on hb2
                have HSs := Lib.hid hs
                have HTt := Lib.hid ht
                obtain ⟨sk, sp, sn, ss⟩ := s
                obtain ⟨tk, tp, tn, tt⟩ := t
                obtain ⟨s0, s1, s2, s2', sa, sb, s3, _, _, hsa⟩ := hps.cells
                obtain ⟨t0, t1, t2, t2', ta, tb, t3, _, _, hta⟩ := hqt.cells
                have HV1 : Hid (IsVs wr P (Ty.row (.mk sk sp sn ss)) [.int .i64 sk, .int .i64 sp, .string sn, .slice sa ss.length sb]) := Lib.hid (by
                  unfold Ty.row
                  exact ⟨_, _, rfl, (by unfold IsC; rfl), _, _, rfl, (by unfold IsC; rfl), _, _, rfl, (by unfold IsC; exact ⟨rfl, s2'⟩), _, _, rfl, hsa.out, rfl⟩)
                have HV2 : Hid (IsVs wr Q (Ty.row (.mk tk tp tn tt)) [.int .i64 tk, .int .i64 tp, .string tn, .slice ta tt.length tb]) := Lib.hid (by
                  unfold Ty.row
                  exact ⟨_, _, rfl, (by unfold IsC; rfl), _, _, rfl, (by unfold IsC; rfl), _, _, rfl, (by unfold IsC; exact ⟨rfl, t2'⟩), _, _, rfl, hta.out, rfl⟩)
                clear hps hqt hsa hta hs ht
                go_wp2
                go_still_tail 16, (by kernel_rfl)
                change wpList _ _ _ _ _ wr.drew
                have hbd : Below wr.heap.size wr wr.drew := (Below.refl _ _).drew
                have HV1' := Lib.hid (IsVs.on hbd _ _ HV1.out)
                have HV2' := Lib.hid (IsVs.on hbd _ _ HV2.out)
                have hb3 := hb2.trans (hbd.mono hb2.size)
                generalize wr.drew = w2 at HV1' HV2' hb3 ⊢
                go_wp2_with fail
                refine (rsameT_vs _ _ P Q _ _ w2 HV1'.out HV2'.out).mono ?_
                rintro e w3 ⟨rfl, hb4⟩
                have hb5 := hb3.trans (hb4.mono hb3.size)
                cases hr : Ty.same (.mk sk sp sn ss) (.mk tk tp tn tt)
                · have HF : Hid (Co.sames sl tl = false) := Lib.hid (Co.sames_not sl tl i _ _ HX.out HY.out (by rw [HSM.out, Ty.sames_not xl yl k _ _ HSs.out HTt.out hr]; simp))
                  go_wp2
                  go_ret
                  exact ⟨by rw [HF.out]; rfl, hbw.trans (hb5.mono hbw.size)⟩
                · have HN : Hid (∀ (j : Nat) (s t : Ty), j < k + 1 → xl[j]? = some s → yl[j]? = some t → s.same t = true) := Lib.hid (fun j s t hj h1 h2 => by
                    by_cases hjk : j = k
                    · subst hjk
                      rw [HSs.out] at h1
                      rw [HTt.out] at h2
                      cases h1; cases h2; exact hr
                    · exact HK2.out j s t (by omega) h1 h2)
                  clear hr e2 f2
                  go_wp2
                  go_roundw
                  case rel => exact ⟨k + 1, by omega, by go_num, HN, hb5⟩
                  case measure => simp [intOf]; omega
              · have k1 : ¬ (k : Int) < xl.length := by omega
                have HEq : Hid (Co.same ⟨xp, xn, xl⟩ ⟨yp, xn, yl⟩ = true) := Lib.hid (by
                  rw [HSM.out, Ty.sames_all xl yl HXY.out (fun j s t h1 h2 => HK2.out j s t (by have := (List.getElem?_eq_some_iff.1 h1).1; omega) h1 h2)]
                  simp)
                have HN : Hid (∀ (j : Nat) (s t : Co), j < i + 1 → sl[j]? = some s → tl[j]? = some t → s.same t = true) := Lib.hid (fun j s t hj h1 h2 => by
                  by_cases hji : j = i
                  · subst hji
                    rw [HX.out] at h1
                    rw [HY.out] at h2
                    cases h1; cases h2; exact HEq.out
                  · exact H.out j s t (by omega) h1 h2)
                have hb6 := hbw.trans (hb2.mono hbw.size)
                go_wp2
                go_roundw
                case rel => exact ⟨i + 1, by omega, by go_num, HN, hb6⟩
                case measure => simp [intOf]; omega
          · have q4 : ((xl.length : Int) != yl.length) = true := by rw [bne_iff_ne]; omega
            have HF : Hid (Co.sames sl tl = false) := Lib.hid (Co.sames_not sl tl i _ _ HX.out HY.out (by
              rw [HSM.out]
              have : Ty.sames xl yl = false := by
                cases hq : Ty.sames xl yl with
                | false => rfl
                | true => exact absurd (Ty.sames_len xl yl hq) hxy
              rw [this]; simp))
            clear hxy
            go_wp2
            go_quiet (fail)
            go_wp2
            go_ret
            exact ⟨by rw [HF.out]; rfl, hbw.trans ((drew_below w0 _).mono hbw.size)⟩
        · have q2 := text_ne hn
          have HF : Hid (Co.sames sl tl = false) := Lib.hid (Co.sames_not sl tl i _ _ HX.out HY.out (by rw [HSM.out, ← text_eq, text_ne hn]; rfl))
          clear hn
          go_wp2
          go_quiet (fail)
          go_wp2
          go_ret
          exact ⟨by rw [HF.out]; rfl, hbw.trans ((drew_below w0 _).mono hbw.size)⟩
      · have i1 : ¬ (i : Int) < sl.length := by omega
        have HF : Hid (Co.sames sl tl = true) := Lib.hid (Co.sames_all sl tl HLn.out (fun j s t h1 h2 => H.out j s t (by have := (List.getElem?_eq_some_iff.1 h1).1; omega) h1 h2))
        go_wp2
        go_ret
        exact ⟨by rw [HF.out]; rfl, hbw⟩
  · have q3 : ((sl.length : Int) != tl.length) = true := by rw [bne_iff_ne]; omega
    have HE : Hid (Co.sames sl tl = false) := Lib.hid (by
      cases hq : Co.sames sl tl with
      | false => rfl
      | true => exact absurd (Co.sames_len sl tl hq) hl)
    clear hl
    go_enter Tryz.func92, Tryz.ntmps92
    go_wp2
    go_ret
    exact ⟨by rw [HE.out]; rfl, Below.refl _ _⟩
end Go.Proofs.YtdiffpiapdghoaaGreatDoor
