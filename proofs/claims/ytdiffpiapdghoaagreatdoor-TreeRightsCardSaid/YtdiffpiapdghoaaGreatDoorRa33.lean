/- Texts of this proof, joined: RSameE. No condition. -/
import Derived.Test.YtdiffpiapdghoaaGreatDoorRa27
import Derived.Test.YtdiffpiapdghoaaGreatDoorRa18
/-
  Layer 3, the document's side: SameExpr, given how its parts are held against each other.
-/
namespace Go.Proofs.YtdiffpiapdghoaaGreatDoor
set_option linter.unusedVariables false
open Go.ChangeShapes Go.WideShapes Go.ChangeAt Go.RowKit

def Ex.args' : Ex → List Ex
  | .mk _ _ _ _ l _ _ _ => l
def Ex.alts' : Ex → List Al
  | .mk _ _ _ _ _ _ al _ => al
def Ex.decls' : Ex → List De
  | .mk _ _ _ _ _ _ _ ds => ds
def Al.body' : Al → Ex
  | .mk _ e => e
set_option maxHeartbeats 12800000 in
set_option maxRecDepth 100000 in
theorem rsameE_step (t u : Ex) (hargs : ∀ (k : Nat) (x y : Ex), t.args'[k]? = some x → u.args'[k]? = some y → RSameE x y) (halts : ∀ (k : Nat) (x y : Al), t.alts'[k]? = some x → u.alts'[k]? = some y → RSameE x.body' y.body')
    (hds : ∀ (P Q : Nat → Prop) (v v' : Value) (w : World), IsDes w P v t.decls' → IsDes w Q v' u.decls' → Calls Tryz.prog 28 #[v, v'] w fun e w' => e = .returned (.bool (De.sames t.decls' u.decls')) ∧ Below w.heap.size w w') : RSameE t u := by
  intro P Q vs us w hvs hus
  obtain ⟨o4, ho4⟩ : ∃ o : Obj, o = .cells vs.toArray 32 := ⟨_, rfl⟩
  obtain ⟨o5, ho5⟩ : ∃ o : Obj, o = .cells us.toArray 32 := ⟨_, rfl⟩
  have hbW := ((Below.refl w.heap.size w).alloc (Nat.le_refl _) o4).alloc (by simp) o5
  have g4 : ((w.alloc o4).alloc o5).heap[w.heap.size]? = some o4 := (Below.heap_alloc _ _ _ (by simp)).trans (heap_alloc_new w o4)
  have g5 : ((w.alloc o4).alloc o5).heap[w.heap.size + 1]? = some o5 := by
    have := heap_alloc_new (w.alloc o4) o5
    rwa [show (w.alloc o4).heap.size = w.heap.size + 1 by simp] at this
  obtain ⟨xk, xp, xn, xm, xl, xps, xal, xds⟩ := t
  obtain ⟨yk, yp, yn, ym, yl, yps, yal, yds⟩ := u
  obtain ⟨_, xa4, xa5, xa6, xa7, xb4, xb5, xb6, xb7, xrf, xH4, xH5, xH6, xH7⟩ := ex_vs (IsVs.on hbW _ _ hvs)
  obtain ⟨_, ya4, ya5, ya6, ya7, yb4, yb5, yb6, yb7, yrf, yH4, yH5, yH6, yH7⟩ := ex_vs (IsVs.on hbW _ _ hus)
  subst xrf yrf
  have XH4 := Lib.hid xH4
  have XH5 := Lib.hid xH5
  have XH6 := Lib.hid xH6
  have XH7 := Lib.hid xH7
  have YH4 := Lib.hid yH4
  have YH5 := Lib.hid yH5
  have YH6 := Lib.hid yH6
  have YH7 := Lib.hid yH7
  have HA := Lib.hid hargs
  have HL := Lib.hid halts
  have HD := Lib.hid hds
  have hxl : (xl.length : Int) ≤ 9223372036854775807 := by obtain ⟨_, _, e, _, h⟩ := xH4.form; injection e with _ _ e3; unfold maxLen at h; omega
  have hxal : (xal.length : Int) ≤ 9223372036854775807 := by obtain ⟨_, _, e, _, h⟩ := xH6.form; injection e with _ _ e3; unfold maxLen at h; omega
  clear xH4 xH5 xH6 xH7 yH4 yH5 yH6 yH7 hargs halts hds hvs hus
  have hsame : Ex.same (.mk xk xp xn xm xl xps xal xds) (.mk yk yp yn ym yl yps yal yds) = (xk == yk && (xn.data.toList == yn.data.toList && (xm == ym && (Ex.sames xl yl && (Pa.sames xps yps && (Al.sames xal yal && De.sames xds yds)))))) := by unfold Ex.same; rfl
  have HS := Lib.hid hsame
  clear hsame
  go_enter Tryz.func26, Tryz.ntmps26
  go_upto_region 1 with fail
  rw [← ho4, ← ho5]
  generalize (w.alloc o4).alloc o5 = W at hbW g4 g5 XH4 XH5 XH6 XH7 YH4 YH5 YH6 YH7 ⊢
  subst ho4 ho5
  have c0 : W.cell? ⟨w.heap.size, 0, none⟩ = some (.int .i64 xk) := by rw [Lib.cell_of_heap g4]; rfl
  have d0 : W.cell? ⟨w.heap.size + 1, 0, none⟩ = some (.int .i64 yk) := by rw [Lib.cell_of_heap g5]; rfl
  have c2 : W.cell? ⟨w.heap.size, 2, none⟩ = some (.string xn) := by rw [Lib.cell_of_heap g4]; rfl
  have d2 : W.cell? ⟨w.heap.size + 1, 2, none⟩ = some (.string yn) := by rw [Lib.cell_of_heap g5]; rfl
  have c3 : W.cell? ⟨w.heap.size, 3, none⟩ = some (.int .i64 xm) := by rw [Lib.cell_of_heap g4]; rfl
  have d3 : W.cell? ⟨w.heap.size + 1, 3, none⟩ = some (.int .i64 ym) := by rw [Lib.cell_of_heap g5]; rfl
  have c4 : W.cell? ⟨w.heap.size, 4, none⟩ = some (.slice xa4 xl.length xb4) := by rw [Lib.cell_of_heap g4]; rfl
  have d4 : W.cell? ⟨w.heap.size + 1, 4, none⟩ = some (.slice ya4 yl.length yb4) := by rw [Lib.cell_of_heap g5]; rfl
  have c5 : W.cell? ⟨w.heap.size, 5, none⟩ = some (.slice xa5 xps.length xb5) := by rw [Lib.cell_of_heap g4]; rfl
  have d5 : W.cell? ⟨w.heap.size + 1, 5, none⟩ = some (.slice ya5 yps.length yb5) := by rw [Lib.cell_of_heap g5]; rfl
  have c6 : W.cell? ⟨w.heap.size, 6, none⟩ = some (.slice xa6 xal.length xb6) := by rw [Lib.cell_of_heap g4]; rfl
  have d6 : W.cell? ⟨w.heap.size + 1, 6, none⟩ = some (.slice ya6 yal.length yb6) := by rw [Lib.cell_of_heap g5]; rfl
  have c7 : W.cell? ⟨w.heap.size, 7, none⟩ = some (.slice xa7 xds.length xb7) := by rw [Lib.cell_of_heap g4]; rfl
  have d7 : W.cell? ⟨w.heap.size + 1, 7, none⟩ = some (.slice ya7 yds.length yb7) := by rw [Lib.cell_of_heap g5]; rfl
  have HF : Hid (∀ V : World, Below W.heap.size W V → V.cell? ⟨w.heap.size, 0, none⟩ = some (.int .i64 xk) ∧ V.cell? ⟨w.heap.size, 2, none⟩ = some (.string xn) ∧ V.cell? ⟨w.heap.size, 3, none⟩ = some (.int .i64 xm) ∧ V.cell? ⟨w.heap.size, 4, none⟩ = some (.slice xa4 xl.length xb4) ∧ V.cell? ⟨w.heap.size, 5, none⟩ = some (.slice xa5 xps.length xb5) ∧ V.cell? ⟨w.heap.size, 6, none⟩ = some (.slice xa6 xal.length xb6) ∧ V.cell? ⟨w.heap.size, 7, none⟩ = some (.slice xa7 xds.length xb7) ∧ V.cell? ⟨w.heap.size + 1, 0, none⟩ = some (.int .i64 yk) ∧ V.cell? ⟨w.heap.size + 1, 2, none⟩ = some (.string yn) ∧ V.cell? ⟨w.heap.size + 1, 3, none⟩ = some (.int .i64 ym) ∧ V.cell? ⟨w.heap.size + 1, 4, none⟩ = some (.slice ya4 yl.length yb4) ∧ V.cell? ⟨w.heap.size + 1, 5, none⟩ = some (.slice ya5 yps.length yb5) ∧ V.cell? ⟨w.heap.size + 1, 6, none⟩ = some (.slice ya6 yal.length yb6) ∧ V.cell? ⟨w.heap.size + 1, 7, none⟩ = some (.slice ya7 yds.length yb7)) := Lib.hid (fun V hV => ⟨(hV.cell (Lib.lt_of_cell c0)).trans c0, (hV.cell (Lib.lt_of_cell c2)).trans c2, (hV.cell (Lib.lt_of_cell c3)).trans c3, (hV.cell (Lib.lt_of_cell c4)).trans c4, (hV.cell (Lib.lt_of_cell c5)).trans c5, (hV.cell (Lib.lt_of_cell c6)).trans c6, (hV.cell (Lib.lt_of_cell c7)).trans c7, (hV.cell (Lib.lt_of_cell d0)).trans d0, (hV.cell (Lib.lt_of_cell d2)).trans d2, (hV.cell (Lib.lt_of_cell d3)).trans d3, (hV.cell (Lib.lt_of_cell d4)).trans d4, (hV.cell (Lib.lt_of_cell d5)).trans d5, (hV.cell (Lib.lt_of_cell d6)).trans d6, (hV.cell (Lib.lt_of_cell d7)).trans d7⟩)
  clear g4 g5
  by_cases hk : xk = yk
  · have q1 : (xk == yk) = true := by rw [beq_iff_eq]; exact hk
    by_cases hn : xn = yn
    · subst hn
      by_cases hm : xm = ym
      · subst hm
        by_cases hl : xl.length = yl.length
        · have q3 : ((xl.length : Int) != yl.length) = false := by rw [bne_eq_false_iff_eq]; omega
          by_cases hla : xal.length = yal.length
          · have q4 : ((xal.length : Int) != yal.length) = false := by rw [bne_eq_false_iff_eq]; omega
            have HLn := Lib.hid hl
            have HLa := Lib.hid hla
            have HK0 := Lib.hid hk
            clear hl hla hk
            go_wp2_with fail
            clear c0 c2 c3 c4 c5 c6 c7 d0 d2 d3 d4 d5 d6 d7
            refine (rsamePs_all _ xps yps (Nat.le_refl _) P Q _ _ W XH5.out YH5.out).mono ?_
            rintro e w1 ⟨rfl, hb01⟩
            cases e1 : Pa.sames xps yps
            · have HE2 : Hid (Ex.same (.mk xk xp xn xm xl xps xal xds) (.mk yk yp xn xm yl yps yal yds) = false) := Lib.hid (by rw [HS.out, e1]; simp)
              go_wp2
              all_goals (go_ret; exact ⟨by rw [HE2.out]; rfl, hbW.trans (hb01.mono hbW.size)⟩)
            · have HPa := Lib.hid e1
              clear e1
              obtain ⟨c0, c2, c3, c4, c5, c6, c7, d0, d2, d3, d4, d5, d6, d7⟩ := HF.out w1 hb01
              go_wp2_with fail
              clear c0 c2 c3 c4 c5 c6 c7 d0 d2 d3 d4 d5 d6 d7
              refine (HD.out P Q _ _ w1 (XH7.out.on hb01) (YH7.out.on hb01)).mono ?_
              rintro e w2' ⟨rfl, hb12⟩
              have hb02 := hb01.trans (hb12.mono hb01.size)
              cases e2 : De.sames xds yds
              · have HE2 : Hid (Ex.same (.mk xk xp xn xm xl xps xal xds) (.mk yk yp xn xm yl yps yal yds) = false) := Lib.hid (by rw [HS.out, e2]; simp)
                have e2' : De.sames (Ex.decls' (.mk xk xp xn xm xl xps xal xds)) (Ex.decls' (.mk yk yp xn xm yl yps yal yds)) = false := e2
                rw [e2']
                clear e2 e2'
                go_wp2
                all_goals (go_ret; exact ⟨by rw [HE2.out]; rfl, hbW.trans (hb02.mono hbW.size)⟩)
              · have HDe := Lib.hid e2
                have e2' : De.sames (Ex.decls' (.mk xk xp xn xm xl xps xal xds)) (Ex.decls' (.mk yk yp xn xm yl yps yal yds)) = true := e2
                rw [e2']
                clear e2 e2'
                go_wp2
                go_loopw [5] (fun iv wr => ∃ k : Nat, k ≤ xl.length ∧ iv = .int .i64 k ∧ Hid (∀ (j : Nat) (s t : Ex), j < k → xl[j]? = some s → yl[j]? = some t → s.same t = true) ∧ Below W.heap.size W wr) (fun iv _ => xl.length - (intOf iv).toNat)
                case atStart => exact ⟨0, Nat.zero_le _, rfl, Lib.hid (fun j s t hj => by omega), hb02⟩
                case round =>
                  obtain ⟨i, hi, rfl, H, hbr⟩ := hrel
                  obtain ⟨c0, c2, c3, c4, c5, c6, c7, d0, d2, d3, d4, d5, d6, d7⟩ := HF.out wr hbr
                  by_cases hlt : i < xl.length
                  · have i1 : (i : Int) < xl.length := by omega
                    have i2 : (i : Int) < yl.length := by have := HLn.out; omega
                    obtain ⟨s, hs⟩ : ∃ s, xl[i]? = some s := ⟨xl[i], List.getElem?_eq_getElem hlt⟩
                    obtain ⟨t, ht⟩ : ∃ t, yl[i]? = some t := ⟨yl[i]'(by have := HLn.out; omega), List.getElem?_eq_getElem (by have := HLn.out; omega)⟩
                    obtain ⟨a, rfl, _, hps⟩ := XH4.out.at hs
                    obtain ⟨b, rfl, _, hqt⟩ := YH4.out.at ht
                    have hps := hps.on hbr
                    have hqt := hqt.on hbr
                    have HSs := Lib.hid hs
                    have HTt := Lib.hid ht
                    have HST := Lib.hid (HA.out i s t hs ht)
                    obtain ⟨sk, sp, sn, sm, sl, sps, sal, sds⟩ := s
                    obtain ⟨tk, tp, tn, tm, tl, tps, tal, tds⟩ := t
                    obtain ⟨s0, s1, s2, s2', s3, ⟨sa4, sb4, s4, _, _, z4⟩, ⟨sa5, sb5, s5, _, _, z5⟩, ⟨sa6, sb6, s6, _, _, z6⟩, ⟨sa7, sb7, s7, _, _, z7⟩⟩ := hps.cells
                    obtain ⟨t0, t1, t2, t2', t3, ⟨ta4, tb4, t4, _, _, v4⟩, ⟨ta5, tb5, t5, _, _, v5⟩, ⟨ta6, tb6, t6, _, _, v6⟩, ⟨ta7, tb7, t7, _, _, v7⟩⟩ := hqt.cells
                    have HV1 := Lib.hid (ex_vs_mk (k := sk) (p := sp) (n := sn) (m := sm) s2' z4 z5 z6 z7)
                    have HV2 := Lib.hid (ex_vs_mk (k := tk) (p := tp) (n := tn) (m := tm) t2' v4 v5 v6 v7)
                    clear hps hqt hs ht z4 z5 z6 z7 v4 v5 v6 v7 c0 c2 c3 c5 c6 c7 d0 d2 d3 d5 d6 d7
                    go_wp2
                    go_still_tail 10, (by kernel_rfl)
                    change wpList _ _ _ _ _ wr.drew
                    have hbd : Below wr.heap.size wr wr.drew := (Below.refl _ _).drew
                    have HV1' := Lib.hid (IsVs.on hbd _ _ HV1.out)
                    have HV2' := Lib.hid (IsVs.on hbd _ _ HV2.out)
                    have hb3 := hbr.trans (hbd.mono hbr.size)
                    generalize wr.drew = w2 at HV1' HV2' hb3 ⊢
                    clear s0 s1 s2 s3 s4 s5 s6 s7 t0 t1 t2 t3 t4 t5 t6 t7 c4 d4
                    go_wp2_with fail
                    refine (HST.out P Q _ _ w2 HV1'.out HV2'.out).mono ?_
                    rintro e w3 ⟨rfl, hb4⟩
                    have hb5 := hb3.trans (hb4.mono hb3.size)
                    cases hr : Ex.same (.mk sk sp sn sm sl sps sal sds) (.mk tk tp tn tm tl tps tal tds)
                    · have HE2 : Hid (Ex.same (.mk xk xp xn xm xl xps xal xds) (.mk yk yp xn xm yl yps yal yds) = false) := Lib.hid (by rw [HS.out, Ex.sames_not xl yl i _ _ HSs.out HTt.out hr]; simp)
                      go_wp2
                      go_ret
                      exact ⟨by rw [HE2.out]; rfl, hbW.trans (hb5.mono hbW.size)⟩
                    · have HN : Hid (∀ (j : Nat) (s t : Ex), j < i + 1 → xl[j]? = some s → yl[j]? = some t → s.same t = true) := Lib.hid (fun j s t hj h1 h2 => by
                        by_cases hji : j = i
                        · subst hji
                          rw [HSs.out] at h1
                          rw [HTt.out] at h2
                          cases h1; cases h2; exact hr
                        · exact H.out j s t (by omega) h1 h2)
                      clear hr
                      go_wp2
                      go_roundw
                      case rel => exact ⟨i + 1, by omega, by go_num, HN, hb5⟩
                      case measure => simp [intOf]; omega
                  · have i1 : ¬ (i : Int) < xl.length := by omega
                    have HTX := Lib.hid (Ex.sames_all xl yl HLn.out (fun j s t h1 h2 => H.out j s t (by have := (List.getElem?_eq_some_iff.1 h1).1; omega) h1 h2))
                    obtain ⟨wm, hwm⟩ : ∃ wm, wm = wr := ⟨_, rfl⟩
                    subst hwm
                    have hbm := hbr
                    go_wp2
                    clear c0 c2 c3 c4 c5 c6 c7 d0 d2 d3 d4 d5 d6 d7
                    go_loopw [6] (fun iv wr => ∃ k : Nat, k ≤ xal.length ∧ iv = .int .i64 k ∧ Hid (∀ (j : Nat) (s t : Al), j < k → xal[j]? = some s → yal[j]? = some t → s.same t = true) ∧ Below W.heap.size W wr) (fun iv _ => xal.length - (intOf iv).toNat)
                    case atStart => exact ⟨0, Nat.zero_le _, rfl, Lib.hid (fun j s t hj => by omega), hbm⟩
                    case round =>
                      obtain ⟨i, hi, rfl, H2, hbr⟩ := hrel
                      obtain ⟨c0, c2, c3, c4, c5, c6, c7, d0, d2, d3, d4, d5, d6, d7⟩ := HF.out wr hbr
                      by_cases hlt : i < xal.length
                      · have i1 : (i : Int) < xal.length := by omega
                        have i2 : (i : Int) < yal.length := by have := HLa.out; omega
                        obtain ⟨s, hs⟩ : ∃ s, xal[i]? = some s := ⟨xal[i], List.getElem?_eq_getElem hlt⟩
                        obtain ⟨t, ht⟩ : ∃ t, yal[i]? = some t := ⟨yal[i]'(by have := HLa.out; omega), List.getElem?_eq_getElem (by have := HLa.out; omega)⟩
                        obtain ⟨a, rfl, _, hps⟩ := XH6.out.at hs
                        obtain ⟨b, rfl, _, hqt⟩ := YH6.out.at ht
                        have hps := hps.on hbr
                        have hqt := hqt.on hbr
                        have HSs := Lib.hid hs
                        have HTt := Lib.hid ht
                        have hst := HL.out i s t hs ht
                        obtain ⟨⟨pk, pp, pn, pm, pl⟩, ⟨sk, sp, sn, sm, sl, sps, sal, sds⟩⟩ := s
                        obtain ⟨⟨qk, qp, qn, qm, ql⟩, ⟨tk, tp, tn, tm, tl, tps, tal, tds⟩⟩ := t
                        have HST : Hid (RSameE (.mk sk sp sn sm sl sps sal sds) (.mk tk tp tn tm tl tps tal tds)) := Lib.hid hst
                        obtain ⟨hp1, he1⟩ := hps.parts
                        obtain ⟨hq1, hf1⟩ := hqt.parts
                        obtain ⟨p0, p1, p2, p2', p3, pa, pb, p4, _, _, hpl⟩ := hp1.cells
                        obtain ⟨q0, q1', q2, q2', q3, qa, qb, q4, _, _, hql⟩ := hq1.cells
                        obtain ⟨s0, s1, s2, s2', s3, ⟨sa4, sb4, s4, _, _, z4⟩, ⟨sa5, sb5, s5, _, _, z5⟩, ⟨sa6, sb6, s6, _, _, z6⟩, ⟨sa7, sb7, s7, _, _, z7⟩⟩ := he1.cells
                        obtain ⟨t0, t1, t2, t2', t3, ⟨ta4, tb4, t4, _, _, v4⟩, ⟨ta5, tb5, t5, _, _, v5⟩, ⟨ta6, tb6, t6, _, _, v6⟩, ⟨ta7, tb7, t7, _, _, v7⟩⟩ := hf1.cells
                        rw [add_off _ _ (by decide)] at s0 s1 s2 s3 s4 s5 s6 s7 t0 t1 t2 t3 t4 t5 t6 t7
                        simp only [Nat.add_assoc, Nat.reduceAdd] at s1 s2 s3 s4 s5 s6 s7 t1 t2 t3 t4 t5 t6 t7
                        have HV1 := Lib.hid (ex_vs_mk (k := sk) (p := sp) (n := sn) (m := sm) s2' z4 z5 z6 z7)
                        have HV2 := Lib.hid (ex_vs_mk (k := tk) (p := tp) (n := tn) (m := tm) t2' v4 v5 v6 v7)
                        have HPL := Lib.hid hpl
                        have HQL := Lib.hid hql
                        have HG : Hid (∀ V : World, Below wr.heap.size wr V → V.cell? ⟨w.heap.size, 6, none⟩ = some (.slice (some a) xal.length xb6) ∧ V.cell? ⟨w.heap.size + 1, 6, none⟩ = some (.slice (some b) yal.length yb6) ∧ V.cell? ⟨(a.add (i * 13)).block, (a.add (i * 13)).off + 5, none⟩ = some (.int .i64 sk) ∧ V.cell? ⟨(a.add (i * 13)).block, (a.add (i * 13)).off + 6, none⟩ = some (.int .i64 sp) ∧ V.cell? ⟨(a.add (i * 13)).block, (a.add (i * 13)).off + 7, none⟩ = some (.string sn) ∧ V.cell? ⟨(a.add (i * 13)).block, (a.add (i * 13)).off + 8, none⟩ = some (.int .i64 sm) ∧ V.cell? ⟨(a.add (i * 13)).block, (a.add (i * 13)).off + 9, none⟩ = some (.slice sa4 sl.length sb4) ∧ V.cell? ⟨(a.add (i * 13)).block, (a.add (i * 13)).off + 10, none⟩ = some (.slice sa5 sps.length sb5) ∧ V.cell? ⟨(a.add (i * 13)).block, (a.add (i * 13)).off + 11, none⟩ = some (.slice sa6 sal.length sb6) ∧ V.cell? ⟨(a.add (i * 13)).block, (a.add (i * 13)).off + 12, none⟩ = some (.slice sa7 sds.length sb7) ∧ V.cell? ⟨(b.add (i * 13)).block, (b.add (i * 13)).off + 5, none⟩ = some (.int .i64 tk) ∧ V.cell? ⟨(b.add (i * 13)).block, (b.add (i * 13)).off + 6, none⟩ = some (.int .i64 tp) ∧ V.cell? ⟨(b.add (i * 13)).block, (b.add (i * 13)).off + 7, none⟩ = some (.string tn) ∧ V.cell? ⟨(b.add (i * 13)).block, (b.add (i * 13)).off + 8, none⟩ = some (.int .i64 tm) ∧ V.cell? ⟨(b.add (i * 13)).block, (b.add (i * 13)).off + 9, none⟩ = some (.slice ta4 tl.length tb4) ∧ V.cell? ⟨(b.add (i * 13)).block, (b.add (i * 13)).off + 10, none⟩ = some (.slice ta5 tps.length tb5) ∧ V.cell? ⟨(b.add (i * 13)).block, (b.add (i * 13)).off + 11, none⟩ = some (.slice ta6 tal.length tb6) ∧ V.cell? ⟨(b.add (i * 13)).block, (b.add (i * 13)).off + 12, none⟩ = some (.slice ta7 tds.length tb7)) := Lib.hid (fun V hV => ⟨(hV.cell (Lib.lt_of_cell c6)).trans c6, (hV.cell (Lib.lt_of_cell d6)).trans d6, (hV.cell (Lib.lt_of_cell s0)).trans s0, (hV.cell (Lib.lt_of_cell s1)).trans s1, (hV.cell (Lib.lt_of_cell s2)).trans s2, (hV.cell (Lib.lt_of_cell s3)).trans s3, (hV.cell (Lib.lt_of_cell s4)).trans s4, (hV.cell (Lib.lt_of_cell s5)).trans s5, (hV.cell (Lib.lt_of_cell s6)).trans s6, (hV.cell (Lib.lt_of_cell s7)).trans s7, (hV.cell (Lib.lt_of_cell t0)).trans t0, (hV.cell (Lib.lt_of_cell t1)).trans t1, (hV.cell (Lib.lt_of_cell t2)).trans t2, (hV.cell (Lib.lt_of_cell t3)).trans t3, (hV.cell (Lib.lt_of_cell t4)).trans t4, (hV.cell (Lib.lt_of_cell t5)).trans t5, (hV.cell (Lib.lt_of_cell t6)).trans t6, (hV.cell (Lib.lt_of_cell t7)).trans t7⟩)
                        clear hps hqt hs ht hp1 he1 hq1 hf1 hpl hql hst z4 z5 z6 z7 v4 v5 v6 v7 c0 c2 c3 c4 c5 c7 d0 d2 d3 d4 d5 d7 s0 s1 s2 s3 s4 s5 s6 s7 t0 t1 t2 t3 t4 t5 t6 t7
                        go_wp2
                        refine wp_region_plan [(12, 3), (12, 3)] (by kernel_rfl) (by kernel_rfl) ?_
                        change Wrapped (wpPlan _ _ _ _ _ _ wr.drew)
                        have hbd : Below wr.heap.size wr wr.drew := (Below.refl _ _).drew
                        refine plan_step ?_
                        simp only [List.take_succ_cons, List.take_zero, List.drop_succ_cons, List.drop_zero, Nat.reduceAdd]
                        repeat (refine wst_step (fun K hK => ?_); go_simp; refine hK _ ?_; clear hK K)
                        refine wst_nil ?_
                        intro K hK
                        have HK := Lib.hid hK
                        clear hK c6 d6 p0 p1 p2 p3 p4 q0 q1' q2 q3 q4
                        go_wp2_with fail
                        refine (rsameP_step pk pp pn pm pl qk qp qn qm ql (rsamePs_all _ pl ql (Nat.le_refl _)) P Q _ _ _ (HPL.out.on hbd) (HQL.out.on hbd)).mono ?_
                        rintro e w3 ⟨rfl, hb4⟩
                        have hb5 := hbd.trans (hb4.mono hbd.size)
                        have hb6 := hbr.trans (hb5.mono hbr.size)
                        cases hr : Pa.same (.mk pk pp pn pm pl) (.mk qk qp qn qm ql)
                        · have HE2 : Hid (Ex.same (.mk xk xp xn xm xl xps xal xds) (.mk yk yp xn xm yl yps yal yds) = false) := Lib.hid (by rw [HS.out, Al.sames_not xal yal i _ _ HSs.out HTt.out (by unfold Al.same; rw [hr]; rfl)]; simp)
                          go_wp2
                          refine HK.out _ _ ?_
                          clear HK K
                          refine plan_step ?_
                          simp only [List.take_succ_cons, List.take_zero, List.drop_succ_cons, List.drop_zero, Nat.reduceAdd]
                          repeat (refine wst_step (fun K hK => ?_); go_simp; refine hK _ ?_; clear hK K)
                          refine wst_nil ?_
                          intro K hK
                          have HK := Lib.hid hK
                          clear hK
                          go_wp2
                          refine HK.out _ _ ?_
                          clear HK K
                          refine plan_end ?_
                          go_wp2
                          go_ret
                          exact ⟨by rw [HE2.out]; rfl, hbW.trans (hb6.mono hbW.size)⟩
                        · have HPS := Lib.hid hr
                          clear hr
                          go_wp2
                          refine HK.out _ _ ?_
                          clear HK K
                          refine plan_step ?_
                          simp only [List.take_succ_cons, List.take_zero, List.drop_succ_cons, List.drop_zero, Nat.reduceAdd]
                          obtain ⟨c6, d6, s0, s1, s2, s3, s4, s5, s6, s7, t0, t1, t2, t3, t4, t5, t6, t7⟩ := HG.out w3 hb5
                          repeat (refine wst_step (fun K hK => ?_); go_simp; refine hK _ ?_; clear hK K)
                          refine wst_nil ?_
                          intro K hK
                          have HK := Lib.hid hK
                          clear hK c6 d6 s0 s1 s2 s3 s4 s5 s6 s7 t0 t1 t2 t3 t4 t5 t6 t7
                          go_wp2_with fail
                          refine (HST.out P Q _ _ w3 (IsVs.on hb5 _ _ HV1.out) (IsVs.on hb5 _ _ HV2.out)).mono ?_
                          rintro e w4 ⟨rfl, hb7⟩
                          have hb8 := hb6.trans (hb7.mono hb6.size)
                          go_wp2
                          refine HK.out _ _ ?_
                          clear HK K
                          refine plan_end ?_
                          cases hr : Ex.same (.mk sk sp sn sm sl sps sal sds) (.mk tk tp tn tm tl tps tal tds)
                          · have HE2 : Hid (Ex.same (.mk xk xp xn xm xl xps xal xds) (.mk yk yp xn xm yl yps yal yds) = false) := Lib.hid (by rw [HS.out, Al.sames_not xal yal i _ _ HSs.out HTt.out (by unfold Al.same; rw [hr]; simp)]; simp)
                            go_wp2
                            go_ret
                            exact ⟨by rw [HE2.out]; rfl, hbW.trans (hb8.mono hbW.size)⟩
                          · have HN : Hid (∀ (j : Nat) (s t : Al), j < i + 1 → xal[j]? = some s → yal[j]? = some t → s.same t = true) := Lib.hid (fun j s t hj h1 h2 => by
                              by_cases hji : j = i
                              · subst hji
                                rw [HSs.out] at h1
                                rw [HTt.out] at h2
                                cases h1; cases h2
                                unfold Al.same
                                rw [hr, HPS.out]; rfl
                              · exact H2.out j s t (by omega) h1 h2)
                            clear hr
                            go_wp2
                            go_roundw
                            case rel => exact ⟨i + 1, by omega, by go_num, HN, hb8⟩
                            case measure => simp [intOf]; omega
                      · have i1 : ¬ (i : Int) < xal.length := by omega
                        have HTA := Lib.hid (Al.sames_all xal yal HLa.out (fun j s t h1 h2 => H2.out j s t (by have := (List.getElem?_eq_some_iff.1 h1).1; omega) h1 h2))
                        have HE2 : Hid (Ex.same (.mk xk xp xn xm xl xps xal xds) (.mk yk yp xn xm yl yps yal yds) = true) := Lib.hid (by rw [HS.out, HK0.out, HTX.out, HTA.out, HPa.out, HDe.out]; simp)
                        have HE3 : Hid (Ex.same (.mk yk xp xn xm xl xps xal xds) (.mk yk yp xn xm yl yps yal yds) = true) := Lib.hid (by have h := HE2.out; rw [HK0.out] at h; exact h)
                        go_wp2
                        go_ret
                        exact ⟨by first | (rw [HE2.out]; rfl) | (rw [HE3.out]; rfl), hbW.trans (hbr.mono hbW.size)⟩
          · have q4 : ((xal.length : Int) != yal.length) = true := by rw [bne_iff_ne]; omega
            have HE2 : Hid (Ex.same (.mk xk xp xn xm xl xps xal xds) (.mk yk yp xn xm yl yps yal yds) = false) := Lib.hid (by
              have : Al.sames xal yal = false := by
                cases hq : Al.sames xal yal with
                | false => rfl
                | true => exact absurd (Al.sames_len xal yal hq) hla
              rw [HS.out, this]; simp)
            clear hla hl hk
            go_wp2
            all_goals (go_ret; exact ⟨by rw [HE2.out]; rfl, hbW⟩)
        · have q3 : ((xl.length : Int) != yl.length) = true := by rw [bne_iff_ne]; omega
          have HE2 : Hid (Ex.same (.mk xk xp xn xm xl xps xal xds) (.mk yk yp xn xm yl yps yal yds) = false) := Lib.hid (by
            have : Ex.sames xl yl = false := by
              cases hq : Ex.sames xl yl with
              | false => rfl
              | true => exact absurd (Ex.sames_len xl yl hq) hl
            rw [HS.out, this]; simp)
          clear hl hk
          go_wp2
          all_goals (go_ret; exact ⟨by rw [HE2.out]; rfl, hbW⟩)
      · have q3 : (xm == ym) = false := by rw [beq_eq_false_iff_ne]; exact hm
        have HE2 : Hid (Ex.same (.mk xk xp xn xm xl xps xal xds) (.mk yk yp xn ym yl yps yal yds) = false) := Lib.hid (by rw [HS.out, q3]; simp)
        clear hk hm
        go_wp2
        all_goals (go_ret; exact ⟨by rw [HE2.out]; rfl, hbW⟩)
    · have q2 := text_ne hn
      have HE2 : Hid (Ex.same (.mk xk xp xn xm xl xps xal xds) (.mk yk yp yn ym yl yps yal yds) = false) := Lib.hid (by rw [HS.out, ← text_eq, q2]; simp)
      clear hk hn
      go_wp2
      all_goals (go_ret; exact ⟨by rw [HE2.out]; rfl, hbW⟩)
  · have q1 : (xk == yk) = false := by rw [beq_eq_false_iff_ne]; exact hk
    have HE2 : Hid (Ex.same (.mk xk xp xn xm xl xps xal xds) (.mk yk yp yn ym yl yps yal yds) = false) := Lib.hid (by rw [HS.out, q1]; rfl)
    clear hk
    go_wp2
    all_goals (go_ret; exact ⟨by rw [HE2.out]; rfl, hbW⟩)
end Go.Proofs.YtdiffpiapdghoaaGreatDoor
