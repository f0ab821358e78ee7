/- Texts of this proof, joined: FewD2, FewB2, Few2. No condition. -/
import Derived.Test.YtkdhoelabomgkaaGreatDoorMa17
import Derived.Test.YtkdhoelabomgkaaGreatDoorMa44
import Derived.Test.YtkdhoelabomgkaaGreatDoorMa18
/-
  Layer 3, the law's side: FewDecls counts the parts (given the smaller ones).
-/
namespace Go.Proofs.YtkdhoelabomgkaaGreatDoor
set_option linter.unusedVariables false
open Go.ChangeShapes Go.WideShapes Go.ChangeAt Go.RowKit

set_option maxHeartbeats 16000000 in
set_option maxRecDepth 100000 in
theorem fewD_stepB (z : Nat) (l : List De) (hz : l ≠ [] → FewY z) (hl : De.wts l ≤ z + 1) (v : Value) (x : Int) (w : World) (hv : IsDes w Any v l) : Calls Tryz.prog 54 #[v, .int .i64 x] w (NumB (De.fits l) (De.nds l) x w) := by
  obtain ⟨ao, cap, rfl, v1, v2⟩ := hv.form
  have hlm : (l.length : Int) ≤ 9223372036854775807 := by unfold maxLen at v2; omega
  have HZ := Lib.hid hz
  have HV := Lib.hid hv
  clear hz hv
  go_enter Tryz.func54, Tryz.ntmps54
  go_wp2
  go_loopw [1, 5, 6, 7, 8] (fun lv iv _ _ _ wr => ∃ (k : Nat) (y : Int), k ≤ l.length ∧ iv = .int .i64 k ∧ lv = .int .i64 y ∧ Hid (De.fits l → x ≤ 9223372036854775807 → y ≤ 9223372036854775807 ∧ (0 ≤ y → (De.nds (l.take k) : Int) + y ≤ x)) ∧ Below w.heap.size w wr) (fun _ iv _ _ _ _ => l.length - (intOf iv).toNat)
  case atStart => exact ⟨0, x, Nat.zero_le _, rfl, rfl, Lib.hid (fun _ hx => ⟨hx, fun _ => by simp [De.nds]⟩), Below.refl _ _⟩
  case round =>
    obtain ⟨k, y, hk, rfl, rfl, HR, hbw⟩ := hrel
    obtain ⟨w0, e0⟩ : ∃ w0, w0 = wr := ⟨_, rfl⟩
    subst e0
    by_cases hlt : k < l.length
    · have k1 : (k : Int) < l.length := by omega
      by_cases hy : y < 0
      · have q : ¬ (0 : Int) ≤ y := by omega
        clear hy
        go_wp2
        go_ret
        exact ⟨⟨_, rfl, fun hf hx => ⟨(HR.out hf hx).1, fun h => by omega⟩⟩, hbw⟩
      have q : (0 : Int) ≤ y := by omega
      obtain ⟨t, ht⟩ : ∃ t, l[k]? = some t := ⟨l[k], List.getElem?_eq_getElem hlt⟩
      have hsz := De.wts_get l k t ht
      obtain ⟨a, rfl, _, hrow⟩ := HV.out.at ht
      have hrow := hrow.on hbw
      obtain ⟨tk, tp, tn, vs, cs, ty, ps, ex⟩ := t
      obtain ⟨yk, yp, yn, yl⟩ := ty
      obtain ⟨ek, ep, en, em, el, eps, eal, eds⟩ := ex
      unfold De.wt at hsz
      obtain ⟨c0, c1, c2, htn, ⟨va, vb, c3, vv1, vv2, hvs⟩, ⟨ca, cb, c4, cc1, cc2, hcs⟩, hty, ⟨pa, pb, c9, _, _, hps⟩, hex⟩ := hrow.cells
      obtain ⟨c5, c6, c7, hyn, ya, yb, c8, _, _, hyl⟩ := hty.cells
      obtain ⟨c10, c11, c12, hen, c13, ⟨a4, b4, c14, _, _, h4⟩, ⟨a5, b5, c15, _, _, h5⟩, ⟨a6, b6, c16, _, _, h6⟩, ⟨a7, b7, c17, _, _, h7⟩⟩ := hex.cells
      rw [add_off _ _ (by decide)] at c5 c6 c7 c8 c10 c11 c12 c13 c14 c15 c16 c17
      simp only [Nat.add_assoc, Nat.reduceAdd] at c5 c6 c7 c8 c10 c11 c12 c13 c14 c15 c16 c17
      obtain ⟨o, ho⟩ : ∃ o : Obj, o = .cells #[.int .i64 tk, .int .i64 tp, .string tn, .slice va vs.length vb, .slice ca cs.length cb, .int .i64 yk, .int .i64 yp, .string yn, .slice ya yl.length yb, .slice pa ps.length pb, .int .i64 ek, .int .i64 ep, .string en, .int .i64 em, .slice a4 el.length b4, .slice a5 eps.length b5, .slice a6 eal.length b6, .slice a7 eds.length b7] 92 := ⟨_, rfl⟩
      have hwt : Ex.wts [.mk ek ep en em el eps eal eds] ≤ z := by unfold Ex.wts Ex.wts; omega
      have HVS := Lib.hid hvs
      have HCS := Lib.hid hcs
      have HYL := Lib.hid hyl
      have HPS := Lib.hid hps
      have H4 := Lib.hid h4
      have H5 := Lib.hid h5
      have H6 := Lib.hid h6
      have H7 := Lib.hid h7
      have hvm : (vs.length : Int) ≤ 9223372036854775807 := by unfold maxLen at vv2; omega
      have hcm : (cs.length : Int) ≤ 9223372036854775807 := by unfold maxLen at cc2; omega
      obtain ⟨hnb0, hnb⟩ := quo_100 tn.size htn
      clear hrow hty hex hvs hcs hyl hps h4 h5 h6 h7 hsz hy
      have hld := load_de w0 (a.add (k * 18)) c0 c1 c2 c3 c4 c5 c6 c7 c8 c9 c10 c11 c12 c13 c14 c15 c16 c17
      have HLD := Lib.hid hld
      have hoc : (#[.int .i64 tk, .int .i64 tp, .string tn, .slice va vs.length vb, .slice ca cs.length cb, .int .i64 yk, .int .i64 yp, .string yn, .slice ya yl.length yb, .slice pa ps.length pb, .int .i64 ek, .int .i64 ep, .string en, .int .i64 em, .slice a4 el.length b4, .slice a5 eps.length b5, .slice a6 eal.length b6, .slice a7 eds.length b7] : Array Value).all (·.oneCell') = true := by simp [Value.oneCell']
      have HOC := Lib.hid hoc
      clear hld hoc c0 c1 c2 c3 c4 c5 c6 c7 c8 c9 c10 c11 c12 c13 c14 c15 c16 c17
      go_upto_region 5 with (first
        | (refine wpList_load_any rfl 92 _ rfl (a.add (k * 18)) rfl #[.int .i64 tk, .int .i64 tp, .string tn, .slice va vs.length vb, .slice ca cs.length cb, .int .i64 yk, .int .i64 yp, .string yn, .slice ya yl.length yb, .slice pa ps.length pb, .int .i64 ek, .int .i64 ep, .string en, .int .i64 em, .slice a4 el.length b4, .slice a5 eps.length b5, .slice a6 eal.length b6, .slice a7 eds.length b7] HLD.out ?_)
        | (refine store_any 92 #[.int .i64 tk, .int .i64 tp, .string tn, .slice va vs.length vb, .slice ca cs.length cb, .int .i64 yk, .int .i64 yp, .string yn, .slice ya yl.length yb, .slice pa ps.length pb, .int .i64 ek, .int .i64 ep, .string en, .int .i64 em, .slice a4 el.length b4, .slice a5 eps.length b5, .slice a6 eal.length b6, .slice a7 eds.length b7] w0.heap.size w0.heap.size _ (heap_alloc_new w0 _) ((Below.refl w0.heap.size w0).alloc (Nat.le_refl _) _) (Nat.le_refl _) info_de rfl HOC.out rfl _ _ rfl rfl rfl ?_; intro wo hwo hbo))
      clear HLD HOC
      have e2 : wo.cell? ⟨w0.heap.size, 2, none⟩ = some (.string tn) := by rw [Lib.cell_of_heap hwo]; rfl
      have e3 : wo.cell? ⟨w0.heap.size, 3, none⟩ = some (.slice va vs.length vb) := by rw [Lib.cell_of_heap hwo]; rfl
      go_upto_block 2 with fail
      rw [← ho] at hwo
      clear e2 e3
      go_cut [1, 7] (fun s1 s7 wx => wo = wx ∧ ∃ y1 : Int, s1 = .int .i64 y1 ∧ Hid (vs.length ≤ 8796093022208 → y ≤ 9223372036854775807 → y1 ≤ 9223372036854775807 ∧ (0 ≤ y1 → (vs.length : Int) + 1 + y1 ≤ y)))
      case first =>
        go_wp2_with fail
        go_loopw [1, 7] (fun lv iv wr => ∃ (j : Nat) (y1 : Int), j ≤ vs.length ∧ iv = .int .i64 j ∧ lv = .int .i64 y1 ∧ Hid (vs.length ≤ 8796093022208 → y ≤ 9223372036854775807 → y1 ≤ 9223372036854775807 ∧ (0 ≤ y1 → (vs.length : Int) + 1 + y1 ≤ y)) ∧ wo = wr) (fun _ iv _ => vs.length - (intOf iv).toNat)
        case atStart => exact ⟨0, _, Nat.zero_le _, rfl, rfl, Lib.hid (fun hv9 hx9 => by (try simp only [IntKind.wrap_i64]); (try unfold wrap64); omega), rfl⟩
        case round =>
        obtain ⟨j2, y2, hj2, rfl, rfl, HQ, hww⟩ := hrel
        subst hww
        have e3 : wo.cell? ⟨w0.heap.size, 3, none⟩ = some (.slice va vs.length vb) := by have h9 := hwo; rw [ho] at h9; rw [Lib.cell_of_heap h9]; rfl
        by_cases hjl2 : j2 < vs.length
        · have j1 : (j2 : Int) < vs.length := by omega
          by_cases hy2 : y2 < 0
          · have q : ¬ (0 : Int) ≤ y2 := by omega
            clear hy2
            go_wp2
            go_meet
            exact ⟨rfl, _, rfl, HQ⟩
          · have q : (0 : Int) ≤ y2 := by omega
            obtain ⟨s, hs⟩ : ∃ s, vs[j2]? = some s := ⟨vs[j2], List.getElem?_eq_getElem hjl2⟩
            obtain ⟨b, rfl, _, htx⟩ := HVS.out.at hs
            have htx := htx.on hbo
            obtain ⟨d0, d1⟩ := htx.cell
            rw [Nat.mul_one] at d0
            obtain ⟨mb0, mb⟩ := quo_100 s.size d1
            clear hy2 htx hs
            go_wp2
            go_roundw
            case rel => exact ⟨j2 + 1, _, by omega, by go_num, rfl, Lib.hid (fun hv9 hx9 => by have h9 := HQ.out hv9 hx9; (try simp only [IntKind.wrap_i64]); (try unfold wrap64); omega), by trivial⟩
            case measure => simp [intOf]; omega
        · have j1 : ¬ (j2 : Int) < vs.length := by omega
          go_wp2
          go_meet
          exact ⟨rfl, _, rfl, HQ⟩
      case rest =>
      obtain ⟨hww, y2, rfl, HQ⟩ := hcut
      subst hww
      go_upto_block 4 with fail
      go_cut [1, 8] (fun s1 s8 wx => Hid (∃ n, wx = wo.drewN n) ∧ ∃ y1 : Int, s1 = .int .i64 y1 ∧ Hid (vs.length ≤ 8796093022208 → y ≤ 9223372036854775807 → y1 ≤ 9223372036854775807 ∧ (0 ≤ y1 → (vs.length : Int) + 1 + (Co.nds cs : Int) + y1 ≤ y)))
      case first =>
        go_wp2_with fail
        go_loopw [1, 8] (fun lv iv wr => ∃ (j : Nat) (y1 : Int), j ≤ cs.length ∧ iv = .int .i64 j ∧ lv = .int .i64 y1 ∧ Hid (vs.length ≤ 8796093022208 → y ≤ 9223372036854775807 → y1 ≤ 9223372036854775807 ∧ (0 ≤ y1 → (vs.length : Int) + 1 + (Co.nds (cs.take j) : Int) + y1 ≤ y)) ∧ Hid (∃ n, wr = wo.drewN n)) (fun _ iv _ => cs.length - (intOf iv).toNat)
        case atStart => exact ⟨0, _, Nat.zero_le _, rfl, rfl, Lib.hid (fun hv9 hx9 => by have h9 := HQ.out hv9 hx9; simp only [List.take_zero, Co.nds]; omega), Lib.hid ⟨0, rfl⟩⟩
        case round =>
        obtain ⟨j, y3, hj, rfl, rfl, HQ2, HW⟩ := hrel
        have hwq : wr.heap[w0.heap.size]? = some o := by obtain ⟨n, e⟩ := HW.out; rw [e]; exact hwo
        have hbw2 : Below w0.heap.size w0 wr := by obtain ⟨n, e⟩ := HW.out; rw [e]; exact hbo.trans ((drew_below wo n).mono hbo.size)
        have e4 : wr.cell? ⟨w0.heap.size, 4, none⟩ = some (.slice ca cs.length cb) := by have h9 := hwq; rw [ho] at h9; rw [Lib.cell_of_heap h9]; rfl
        by_cases hjl : j < cs.length
        · have j1 : (j : Int) < cs.length := by omega
          by_cases hy : y3 < 0
          · have q3 : ¬ (0 : Int) ≤ y3 := by omega
            clear hy
            go_wp2
            go_meet
            exact ⟨HW, _, rfl, Lib.hid (fun hv9 hx9 => ⟨(HQ2.out hv9 hx9).1, fun h => by omega⟩)⟩
          · have q3 : (0 : Int) ≤ y3 := by omega
            obtain ⟨c, hc⟩ : ∃ c, cs[j]? = some c := ⟨cs[j], List.getElem?_eq_getElem hjl⟩
            obtain ⟨b, rfl, _, hco⟩ := HCS.out.at hc
            have hco := hco.on hbw2
            obtain ⟨d0, d1, d1', da, db, d2, _, _, hca⟩ := hco.cells
            have HCA := Lib.hid hca
            have HNM := Lib.hid (Ty.nms_is _ c.args da db (Nat.le_refl _) hca)
            have HCT := Lib.hid hc
            have HD1 := Lib.hid d1'
            obtain ⟨hnb0, hnb⟩ := quo_100 c.name.size d1'
            clear hy hco hca hc
            go_wp2
            have hcall := Lib.hid fun m => fewT_any _ c.args (Nat.le_refl _) (.slice da c.args.length db) (wrap64 (wrap64 (y3 - 1) - (c.name.size : Int) / 100)) (wr.drewN m) (HCA.out.on (drew_below wr m))
            go_quiet ((go_at_call 7; exact Calls.quiet_of (hcall.out _)))
            go_wp2
            go_roundw
            case rel =>
              refine ⟨j + 1, _, by omega, by go_num, rfl, Lib.hid (fun hv9 hx9 => ?_), ?_⟩
              · have h9 := HQ2.out hv9 hx9
                have hx1 := take_100 y3 c.name.size q3 h9.1 HD1.out
                have hq := quo_100 c.name.size HD1.out
                rw [hx1, Co.nds_take cs j c HCT.out]
                have hle := le_both (Ty.fews_le c.args (y3 - 1 - (c.name.size : Int) / 100) HNM.out (by omega)) (by omega)
                refine ⟨hle.1, fun h => ?_⟩
                have f1 := hle.2 h
                have f0 := h9.2 q3
                omega
              exact (Lib.hid (by obtain ⟨n, e⟩ := HW.out; exact ⟨n + nq, by rw [e, World.drewN_drewN]⟩))
            case measure => simp [intOf]; omega
        · have j1 : ¬ (j : Int) < cs.length := by omega
          go_wp2
          go_meet
          exact ⟨HW, _, rfl, Lib.hid (fun hv9 hx9 => by have h9 := HQ2.out hv9 hx9; rw [List.take_of_length_le (by omega)] at h9; exact h9)⟩
      case rest =>
      obtain ⟨HW, y3, rfl, HQ2⟩ := hcut
      have hwq : wc.heap[w0.heap.size]? = some o := by obtain ⟨n, e⟩ := HW.out; rw [e]; exact hwo
      have hbw2 : Below w0.heap.size w0 wc := by obtain ⟨n, e⟩ := HW.out; rw [e]; exact hbo.trans ((drew_below wo n).mono hbo.size)
      clear HW hwo hbo
      have hO5 : wc.heap[w0.heap.size]? = some o := hwq
      subst ho
      have g5 : wc.cell? ⟨w0.heap.size, 5, none⟩ = some (.int .i64 yk) := by rw [Lib.cell_of_heap hO5]; rfl
      have g6 : wc.cell? ⟨w0.heap.size, 6, none⟩ = some (.int .i64 yp) := by rw [Lib.cell_of_heap hO5]; rfl
      have g7 : wc.cell? ⟨w0.heap.size, 7, none⟩ = some (.string yn) := by rw [Lib.cell_of_heap hO5]; rfl
      have g8 : wc.cell? ⟨w0.heap.size, 8, none⟩ = some (.slice ya yl.length yb) := by rw [Lib.cell_of_heap hO5]; rfl
      have hL1 : (wc.alloc (.cells #[.int .i64 yk, .int .i64 yp, .string yn, .slice ya yl.length yb] 24)).heap[wc.heap.size]? = some (.cells #[.int .i64 yk, .int .i64 yp, .string yn, .slice ya yl.length yb] 24) := heap_alloc_new wc _
      have hbq := (Below.refl wc.heap.size wc).alloc (Nat.le_refl _) (.cells #[.int .i64 yk, .int .i64 yp, .string yn, .slice ya yl.length yb] 24)
      have hT1 := ty_lit hL1 hyn ((HYL.out.on hbw2).on hbq)
      go_wp2_with fail
      refine (fewT_numB _ _ _ _ hT1).mono ?_
      rintro e w3 ⟨⟨r1, rfl, R1⟩, hc1⟩
      replace R1 := Lib.hid R1
      have hO6 := (hc1.block _ (by have := heap_lt hO5; simp; omega)).trans ((hbq.block _ (heap_lt hO5)).trans hO5)
      have g9 : w3.cell? ⟨w0.heap.size, 9, none⟩ = some (.slice pa ps.length pb) := by rw [Lib.cell_of_heap hO6]; rfl
      have hb3 := hbw2.trans ((hbq.trans (hc1.mono hbq.size)).mono hbw2.size)
      go_wp2_with fail
      refine (fewP_numB ps _ _ _ (HPS.out.on hb3)).mono ?_
      rintro e w4 ⟨⟨r2, rfl, R2⟩, hc2⟩
      replace R2 := Lib.hid R2
      have hO7 := (hc2.block _ (heap_lt hO6)).trans hO6
      have hb4 := hb3.trans (hc2.mono hb3.size)
      have t0 : w4.cell? ⟨w0.heap.size, 10, none⟩ = some (.int .i64 ek) := by rw [Lib.cell_of_heap hO7]; rfl
      have t1 : w4.cell? ⟨w0.heap.size, 11, none⟩ = some (.int .i64 ep) := by rw [Lib.cell_of_heap hO7]; rfl
      have t2 : w4.cell? ⟨w0.heap.size, 12, none⟩ = some (.string en) := by rw [Lib.cell_of_heap hO7]; rfl
      have t3 : w4.cell? ⟨w0.heap.size, 13, none⟩ = some (.int .i64 em) := by rw [Lib.cell_of_heap hO7]; rfl
      have t4 : w4.cell? ⟨w0.heap.size, 14, none⟩ = some (.slice a4 el.length b4) := by rw [Lib.cell_of_heap hO7]; rfl
      have t5 : w4.cell? ⟨w0.heap.size, 15, none⟩ = some (.slice a5 eps.length b5) := by rw [Lib.cell_of_heap hO7]; rfl
      have t6 : w4.cell? ⟨w0.heap.size, 16, none⟩ = some (.slice a6 eal.length b6) := by rw [Lib.cell_of_heap hO7]; rfl
      have t7 : w4.cell? ⟨w0.heap.size, 17, none⟩ = some (.slice a7 eds.length b7) := by rw [Lib.cell_of_heap hO7]; rfl
      obtain ⟨oE, hoE⟩ : ∃ o : Obj, o = .cells #[.int .i64 ek, .int .i64 ep, .string en, .int .i64 em, .slice a4 el.length b4, .slice a5 eps.length b5, .slice a6 eal.length b6, .slice a7 eds.length b7] 32 := ⟨_, rfl⟩
      have hL2 := heap_alloc_new w4 oE
      have hbe := (Below.refl w4.heap.size w4).alloc (Nat.le_refl _) oE
      have hb5 := hb4.trans (hbe.mono hb4.size)
      subst hoE
      have hE1 := ex_lit hL2 hen (H4.out.on hb5) (H5.out.on hb5) (H6.out.on hb5) (H7.out.on hb5)
      go_wp2_with fail
      refine ((HZ.out (ne_nil hlt)).ex _ hwt _ _ _ hE1).mono ?_
      rintro e w5 ⟨⟨r3, rfl, R3⟩, hc3⟩
      replace R3 := Lib.hid R3
      have hb6 := hb5.trans (hc3.mono hb5.size)
      go_wp2
      go_roundw
      case rel =>
        refine ⟨k + 1, _, by omega, by go_num, rfl, Lib.hid (fun hf hx => ?_), hbw.trans (hb6.mono hbw.size)⟩
        have h0 := HR.out hf hx
        have hft := De.fits_get l k _ hf ht
        unfold De.fit at hft
        have e0 := HQ2.out hft.1 h0.1
        have e1 := R1.out trivial e0.1
        have e2 := R2.out trivial e1.1
        have e3 := R3.out (by unfold Ex.fits Ex.fits; exact ⟨hft.2, trivial⟩) e2.1
        refine ⟨e3.1, fun h => ?_⟩
        rw [De.nds_take l k _ ht]
        unfold De.nd
        have f3 := e3.2 h
        have f2 := e2.2 (by omega)
        have f1 := e1.2 (by omega)
        have f0 := e0.2 (by omega)
        have f9 := h0.2 q
        unfold Ex.nds Ex.nds at f3
        unfold Ty.nds Ty.nds at f1
        omega
      case measure => simp [intOf]; omega
    · have k1 : ¬ (k : Int) < l.length := by omega
      go_wp2
      go_ret
      exact ⟨⟨_, rfl, fun hf hx => by have h9 := HR.out hf hx; rw [List.take_of_length_le (by omega)] at h9; exact h9⟩, hbw⟩
end Go.Proofs.YtkdhoelabomgkaaGreatDoor
/-
  Layer 3, the law's side: fewAlts counts the parts (given the smaller ones).
-/
namespace Go.Proofs.YtkdhoelabomgkaaGreatDoor
set_option linter.unusedVariables false
open Go.ChangeShapes Go.WideShapes Go.ChangeAt Go.RowKit

theorem wrap_1 (y : Int) (h0 : 0 ≤ y) (hm : y ≤ 9223372036854775807) : IntKind.i64.wrap (y - 1) = y - 1 := by rw [IntKind.wrap_i64]; omega
set_option maxHeartbeats 8000000 in
set_option maxRecDepth 100000 in
theorem fewA_stepB (z : Nat) (l : List Al) (hz : l ≠ [] → FewY z) (hl : Al.wts l ≤ z + 1) (v : Value) (x : Int) (w : World) (hv : IsAls w Any v l) : Calls Tryz.prog 53 #[v, .int .i64 x] w (NumB (Al.fits l) (Al.nds l) x w) := by
  obtain ⟨ao, cap, rfl, v1, v2⟩ := hv.form
  have hlm : (l.length : Int) ≤ 9223372036854775807 := by unfold maxLen at v2; omega
  have HZ := Lib.hid hz
  have HV := Lib.hid hv
  clear hz hv
  go_enter Tryz.func53, Tryz.ntmps53
  go_wp2
  go_loopw [1, 5] (fun lv iv wr => ∃ (k : Nat) (y : Int), k ≤ l.length ∧ iv = .int .i64 k ∧ lv = .int .i64 y ∧ Hid (Al.fits l → x ≤ 9223372036854775807 → y ≤ 9223372036854775807 ∧ (0 ≤ y → (Al.nds (l.take k) : Int) + y ≤ x)) ∧ Below w.heap.size w wr) (fun _ iv _ => l.length - (intOf iv).toNat)
  case atStart => exact ⟨0, x, Nat.zero_le _, rfl, rfl, Lib.hid (fun _ hx => ⟨hx, fun _ => by simp [Al.nds]⟩), Below.refl _ _⟩
  case round =>
    obtain ⟨k, y, hk, rfl, rfl, HR, hbw⟩ := hrel
    by_cases hlt : k < l.length
    · have k1 : (k : Int) < l.length := by omega
      by_cases hy : y < 0
      · have q : ¬ (0 : Int) ≤ y := by omega
        clear hy
        go_wp2
        go_ret
        exact ⟨⟨_, rfl, fun hf hx => ⟨(HR.out hf hx).1, fun h => by omega⟩⟩, hbw⟩
      have q : (0 : Int) ≤ y := by omega
      obtain ⟨t, ht⟩ : ∃ t, l[k]? = some t := ⟨l[k], List.getElem?_eq_getElem hlt⟩
      have hsz := Al.wts_get l k t ht
      obtain ⟨a, rfl, _, hrow⟩ := HV.out.at ht
      have hrow := hrow.on hbw
      obtain ⟨tp, te⟩ := t
      obtain ⟨pk, pp, pn, pm, pl⟩ := tp
      obtain ⟨ek, ep, en, em, el, eps, eal, eds⟩ := te
      unfold Al.wt at hsz
      obtain ⟨hpa, hex⟩ := hrow.parts
      obtain ⟨c0, c1, c2, hpn, c3, ⟨pa, pb, c4, _, _, hpl⟩⟩ := hpa.cells
      obtain ⟨c5, c6, c7, hen, c8, ⟨a4, b4, c9, _, _, h4⟩, ⟨a5, b5, c10, _, _, h5⟩, ⟨a6, b6, c11, _, _, h6⟩, ⟨a7, b7, c12, _, _, h7⟩⟩ := hex.cells
      rw [add_off _ _ (by decide)] at c5 c6 c7 c8 c9 c10 c11 c12
      simp only [Nat.add_assoc, Nat.reduceAdd] at c6 c7 c8 c9 c10 c11 c12
      have hwt : Ex.wts [.mk ek ep en em el eps eal eds] ≤ z := by unfold Ex.wts Ex.wts; omega
      have HPL := Lib.hid hpl
      have HNM := Lib.hid (Pa.nms_is _ pl pa pb (Nat.le_refl _) hpl)
      have H4 := Lib.hid h4
      have H5 := Lib.hid h5
      have H6 := Lib.hid h6
      have H7 := Lib.hid h7
      clear hrow hpa hex hpl h4 h5 h6 h7 hsz hy
      go_upto_block 1 with fail
      go_cut [1] (fun s1 wx => (∃ y2 : Int, s1 = .int .i64 y2 ∧ Hid (Ex.fits [.mk ek ep en em el eps eal eds] → Pa.fews [.mk pk pp pn pm pl] (IntKind.i64.wrap (y - 1)) ≤ 9223372036854775807 → y2 ≤ 9223372036854775807 ∧ (0 ≤ y2 → (Ex.nds [.mk ek ep en em el eps eal eds] : Int) + y2 ≤ Pa.fews [.mk pk pp pn pm pl] (IntKind.i64.wrap (y - 1))))) ∧ Below wr.heap.size wr wx)
      case first =>
        go_upto_region 4 with fail
        go_region_held3 (fun V => V.cell? (a.add (k * 13)) = some (.int .i64 pk) ∧ V.cell? ⟨(a.add (k * 13)).block, (a.add (k * 13)).off + 1, none⟩ = some (.int .i64 pp) ∧ V.cell? ⟨(a.add (k * 13)).block, (a.add (k * 13)).off + 2, none⟩ = some (.string pn) ∧ V.cell? ⟨(a.add (k * 13)).block, (a.add (k * 13)).off + 3, none⟩ = some (.int .i64 pm) ∧ V.cell? ⟨(a.add (k * 13)).block, (a.add (k * 13)).off + 4, none⟩ = some (.slice pa pl.length pb)
          ∧ V.cell? ⟨(a.add (k * 13)).block, (a.add (k * 13)).off + 5, none⟩ = some (.int .i64 ek) ∧ V.cell? ⟨(a.add (k * 13)).block, (a.add (k * 13)).off + 6, none⟩ = some (.int .i64 ep) ∧ V.cell? ⟨(a.add (k * 13)).block, (a.add (k * 13)).off + 7, none⟩ = some (.string en) ∧ V.cell? ⟨(a.add (k * 13)).block, (a.add (k * 13)).off + 8, none⟩ = some (.int .i64 em)
          ∧ V.cell? ⟨(a.add (k * 13)).block, (a.add (k * 13)).off + 9, none⟩ = some (.slice a4 el.length b4) ∧ V.cell? ⟨(a.add (k * 13)).block, (a.add (k * 13)).off + 10, none⟩ = some (.slice a5 eps.length b5) ∧ V.cell? ⟨(a.add (k * 13)).block, (a.add (k * 13)).off + 11, none⟩ = some (.slice a6 eal.length b6) ∧ V.cell? ⟨(a.add (k * 13)).block, (a.add (k * 13)).off + 12, none⟩ = some (.slice a7 eds.length b7))
          (first | go_keep | exact ⟨(hc5.cell (Lib.lt_of_cell c0)).trans c0, (hc5.cell (Lib.lt_of_cell c1)).trans c1, (hc5.cell (Lib.lt_of_cell c2)).trans c2, (hc5.cell (Lib.lt_of_cell c3)).trans c3, (hc5.cell (Lib.lt_of_cell c4)).trans c4, (hc5.cell (Lib.lt_of_cell c5)).trans c5, (hc5.cell (Lib.lt_of_cell c6)).trans c6, (hc5.cell (Lib.lt_of_cell c7)).trans c7, (hc5.cell (Lib.lt_of_cell c8)).trans c8, (hc5.cell (Lib.lt_of_cell c9)).trans c9, (hc5.cell (Lib.lt_of_cell c10)).trans c10, (hc5.cell (Lib.lt_of_cell c11)).trans c11, (hc5.cell (Lib.lt_of_cell c12)).trans c12⟩)
          (first
            | (go_at_call 52; refine (fewP_any _ [.mk pk pp pn pm pl] (Nat.le_refl _) _ (IntKind.i64.wrap (y - 1)) _ (pa_lit (by repeat (first | exact at_alloc (by simp) | refine at_drew ?_ | refine at_drewN _ ?_ | refine at_keep ?_)) hpn (HPL.out.on (by repeat (first | exact Below.refl _ _ | refine bl_drew ?_ | refine bl_drewN _ ?_ | refine bl_alloc _ ?_))))).mono ?_; rintro e w' ⟨rfl, n, rfl⟩)
            | (go_at_call 32; refine ((HZ.out (ne_nil hlt)).ex [.mk ek ep en em el eps eal eds] hwt _ _ _ (ex_lit (by repeat (first | exact at_alloc (by simp) | refine at_drew ?_ | refine at_drewN _ ?_ | refine at_keep ?_)) hen (H4.out.on (by repeat (first | exact Below.refl _ _ | refine bl_drew ?_ | refine bl_drewN _ ?_ | refine bl_alloc _ ?_))) (H5.out.on (by repeat (first | exact Below.refl _ _ | refine bl_drew ?_ | refine bl_drewN _ ?_ | refine bl_alloc _ ?_))) (H6.out.on (by repeat (first | exact Below.refl _ _ | refine bl_drew ?_ | refine bl_drewN _ ?_ | refine bl_alloc _ ?_))) (H7.out.on (by repeat (first | exact Below.refl _ _ | refine bl_drew ?_ | refine bl_drewN _ ?_ | refine bl_alloc _ ?_))))).mono ?_; rintro e w5 ⟨⟨r5, rfl, R5⟩, hc5⟩; replace R5 := Lib.hid R5; replace hc5 := (show Below wr.heap.size wr _ from (by repeat (first | exact Below.refl _ _ | refine bl_drew ?_ | refine bl_drewN _ ?_ | refine bl_alloc _ ?_))).trans (hc5.mono (Below.size (by repeat (first | exact Below.refl _ _ | refine bl_drew ?_ | refine bl_drewN _ ?_ | refine bl_alloc _ ?_))))))
        all_goals (go_wp2_with fail; go_meet; exact ⟨⟨_, rfl, R5⟩, hc5⟩)
      case rest =>
      obtain ⟨⟨y2, rfl, R5⟩, hb5⟩ := hcut
      clear c0 c1 c2 c3 c4 c5 c6 c7 c8 c9 c10 c11 c12
      go_wp2
      go_roundw
      case rel =>
        refine ⟨k + 1, _, by omega, by go_num, rfl, Lib.hid (fun hf hx => ?_), hbw.trans (hb5.mono hbw.size)⟩
        have h0 := HR.out hf hx
        have hft := Al.fits_get l k _ hf ht
        unfold Al.fit at hft
        have R := R5.out
        rw [wrap_1 y q h0.1] at R
        have hle := le_both (Pa.fews_le [.mk pk pp pn pm pl] (y - 1) (by unfold Pa.nms; refine ⟨?_, by unfold Pa.nms; trivial⟩; unfold Pa.nm; exact ⟨hpn, HNM.out⟩) (by omega)) (by omega)
        have e5 := R (by unfold Ex.fits Ex.fits; exact ⟨hft, trivial⟩) hle.1
        refine ⟨e5.1, fun h => ?_⟩
        rw [Al.nds_take l k _ ht]
        unfold Al.nd
        have f5 := e5.2 h
        have f4 := hle.2 (by omega)
        have f0 := h0.2 q
        unfold Ex.nds Ex.nds at f5
        unfold Pa.nds Pa.nds at f4
        omega
      case measure => simp [intOf]; omega
    · have k1 : ¬ (k : Int) < l.length := by omega
      go_wp2
      go_ret
      exact ⟨⟨_, rfl, fun hf hx => by have h9 := HR.out hf hx; rw [List.take_of_length_le (by omega)] at h9; exact h9⟩, hbw⟩
end Go.Proofs.YtkdhoelabomgkaaGreatDoor
/-
  Layer 3, the law's side: FewExprs, fewAlts, FewDecls count the parts, for every list; light.
-/
namespace Go.Proofs.YtkdhoelabomgkaaGreatDoor
set_option linter.unusedVariables false
open Go.ChangeShapes Go.WideShapes Go.ChangeAt Go.RowKit

theorem fewY_all : ∀ z, FewY z
  | 0 => ⟨fun l h v x w hv => fewE_stepB 0 l (fun hne => absurd h (by obtain ⟨t, r, rfl⟩ := List.exists_cons_of_ne_nil hne; have := Ex.wts_get (t :: r) 0 t rfl; omega)) (by omega) v x w hv,
      fun l h v x w hv => fewA_stepB 0 l (fun hne => absurd h (by obtain ⟨t, r, rfl⟩ := List.exists_cons_of_ne_nil hne; have := Al.wts_get (t :: r) 0 t rfl; omega)) (by omega) v x w hv,
      fun l h v x w hv => fewD_stepB 0 l (fun hne => absurd h (by obtain ⟨t, r, rfl⟩ := List.exists_cons_of_ne_nil hne; have := De.wts_get (t :: r) 0 t rfl; omega)) (by omega) v x w hv⟩
  | z + 1 => ⟨fun l h v x w hv => fewE_stepB z l (fun _ => fewY_all z) h v x w hv, fun l h v x w hv => fewA_stepB z l (fun _ => fewY_all z) h v x w hv, fun l h v x w hv => fewD_stepB z l (fun _ => fewY_all z) h v x w hv⟩
theorem fewE_numB (l : List Ex) (v : Value) (x : Int) (w : World) (hv : IsExs w Any v l) : Calls Tryz.prog 32 #[v, .int .i64 x] w (NumB (Ex.fits l) (Ex.nds l) x w) := (fewY_all _).ex l (Nat.le_refl _) v x w hv
/-- light says yes only of no more than 600 parts -/
theorem light_any (l : List Ex) (v : Value) (w : World) (hv : IsExs w Any v l) :
    Calls Tryz.prog 6 #[v] w fun e w' => (∃ b, e = .returned (.bool b) ∧ (b = true → Ex.fits l → Ex.nds l ≤ 600)) ∧ Below w.heap.size w w' := by
  obtain ⟨ao, cap, rfl, v1, v2⟩ := hv.form
  go_enter Tryz.func6, Tryz.ntmps6
  go_wp2_with fail
  refine (fewE_numB l _ _ _ hv).mono ?_
  rintro e w1 ⟨⟨r, rfl, hr⟩, hb⟩
  replace hr := Lib.hid hr
  by_cases h : 0 ≤ r
  · have hc : (decide (0 ≤ r)) = true := by simp [h]
    have HB := Lib.hid h
    clear hc
    go_wp2
    go_ret
    refine ⟨⟨true, by first | rfl | simp, fun _ hf => ?_⟩, hb⟩
    have h1 := (hr.out hf (by omega)).2 HB.out
    omega
  · have q : ¬ (0 : Int) ≤ r := h
    clear h
    go_wp2
    go_ret
    exact ⟨⟨false, by first | rfl | (simp; omega), fun h => absurd h (by simp)⟩, hb⟩
end Go.Proofs.YtkdhoelabomgkaaGreatDoor
