/- Texts of this proof, joined: RRtDs. No condition. -/
import Derived.Test.YtdiffpiapdghoaaGreatDoorRa40
/-
  Layer 3, the document's side: declarations that may be; RightExpr, RightDecls.
-/
namespace Go.Proofs.YtdiffpiapdghoaaGreatDoor
set_option linter.unusedVariables false
open Go.ChangeShapes Go.WideShapes Go.ChangeAt Go.RowKit

/-- a whole struct is taken, where a guard that holds stands ahead -/
theorem wpList_load_g {P : Program} {ops : Array Oper} {rest : List Oper} {o : Oper} {a : Act} {w : World} {Q : Exit → Act → World → Prop} (hgd : Region.wanted o (yielded ops a.tmps) = true) (ty : TypeId) (x : Operand) (ho : o.op = .load ty x)
    (A : Addr) (hx : a.eval x = .pointer (some A)) (cs : Array Value) (hl : (loadVar ty A).run P w = .ok (.agg cs) w)
    (h : wpList P ops Q rest (a.put o.dst (.agg cs)) w) : wpList P ops Q (o :: rest) a w :=
  wpList_step fun _ hK => by
    simp only [hgd, if_true]
    unfold Oper.wp execOp
    simp only [ho, hx, Instr.loadAt, Instr.sureAddr, Sem.run_bind, Sem.run_pure, Result.andThen_ok, hl]
    exact hK _ _ h
/-- few variables, few cons -/
def De.narrow : De → Prop
  | .mk _ _ _ vs cs _ _ _ => vs.length ≤ 1000000 ∧ cs.length ≤ 1000000
theorem sumz (a b : Nat) (h : ¬ (a = 0 ∧ b = 0)) : (((a : Int) + (b : Int)) == 0) = false := by
  rw [beq_eq_false_iff_ne]
  omega
set_option maxHeartbeats 16000000 in
set_option maxRecDepth 100000 in
theorem rrD_succ (left : Int) (b : Ex → Bool) (l : List De) (top : Bool) (hall : ∀ (j : Nat) (d : De), l[j]? = some d → RrE left d.body' (b d.body')) (hsm : ∀ (j : Nat) (d : De), l[j]? = some d → d.narrow) : RrD left l top (decide ((l.length : Int) ≤ 512) && l.all (deB top b)) := by
  intro P v w hs
  obtain ⟨ao, cap, rfl, v1, v2⟩ := hs.form
  by_cases h5 : (512 : Int) < l.length
  · rw [decide_eq_false (by omega), Bool.false_and]
    clear hs hall hsm
    go_enter Tryz.func42, Tryz.ntmps42
    go_wp2
    go_ret
    exact ⟨rfl, Below.refl _ _⟩
  rw [decide_eq_true (by omega), Bool.true_and]
  have HS := Lib.hid hs
  have HA := Lib.hid hall
  have HM := Lib.hid hsm
  clear hs hall hsm v1 v2
  go_enter Tryz.func42, Tryz.ntmps42
  go_wp2
  go_loopw [7] (fun iv wr => ∃ j : Nat, j ≤ l.length ∧ iv = .int .i64 j ∧ Hid (∀ (i : Nat) (t : De), i < j → l[i]? = some t → deB top b t = true) ∧ Below w.heap.size w wr) (fun iv _ => l.length - (intOf iv).toNat)
  case atStart => exact ⟨0, Nat.zero_le _, rfl, Lib.hid (fun i t hi => by omega), Below.refl _ _⟩
  case round =>
    obtain ⟨i, hi, rfl, H, hbw⟩ := hrel
    obtain ⟨u1, ew⟩ : ∃ w0, w0 = wr := ⟨_, rfl⟩
    rw [← ew] at hbw ⊢
    clear ew
    by_cases hlt : i < l.length
    · have i1 : (i : Int) < l.length := by omega
      obtain ⟨d, hd⟩ : ∃ x, l[i]? = some x := ⟨l[i], List.getElem?_eq_getElem hlt⟩
      obtain ⟨A1, rfl, _, hrow⟩ := HS.out.at hd
      obtain ⟨xs, hv1, hv2⟩ := row_load (hrow.on hbw).out 92 und_de (by rw [De.row_len]; exact info_de)
      obtain ⟨k, p, n, vs, cs, ⟨yk, yp, yn, yl⟩, ps, ⟨ek, ep, en, em, el, eps, eal, eds⟩⟩ := d
      obtain ⟨hn, va, vb, ca, cb, ya, yb, pa, pb, a4, a5, a6, a7, b4, b5, b6, b7, rfl, hvs, hcs, hty, hps, hex⟩ := de_vs hv1
      have HX := Lib.hid hd
      have HQ : Hid (RrE left (.mk ek ep en em el eps eal eds) (b (.mk ek ep en em el eps eal eds))) := Lib.hid (HA.out i _ hd)
      obtain ⟨nv, nc⟩ : vs.length ≤ 1000000 ∧ cs.length ≤ 1000000 := HM.out i _ hd
      have HLD := Lib.hid (hv2 u1 (Below.refl _ _))
      have HOC := Lib.hid (show (#[.int .i64 k, .int .i64 p, .string n, .slice va vs.length vb, .slice ca cs.length cb, .int .i64 yk, .int .i64 yp, .string yn, .slice ya yl.length yb, .slice pa ps.length pb, .int .i64 ek, .int .i64 ep, .string en, .int .i64 em, .slice a4 el.length b4, .slice a5 eps.length b5, .slice a6 eal.length b6, .slice a7 eds.length b7] : Array Value).all (·.oneCell') = true by simp [Value.oneCell'])
      have HV1 := Lib.hid hv1
      have HPs := Lib.hid hps
      have HTy := Lib.hid hty
      have HEx := Lib.hid hex
      obtain ⟨_, _, _, _, m9⟩ := hps.form
      have l9 : (ps.length : Int) ≤ 9223372036854775807 := by unfold maxLen at m9; omega
      have HBW := Lib.hid hbw
      clear hd hrow hv1 hv2 hvs hcs hty hps hex hbw m9
      go_upto_region 7 with (first
        | (refine wpList_load_any rfl 92 _ rfl (A1.add (i * 18)) rfl #[.int .i64 k, .int .i64 p, .string n, .slice va vs.length vb, .slice ca cs.length cb, .int .i64 yk, .int .i64 yp, .string yn, .slice ya yl.length yb, .slice pa ps.length pb, .int .i64 ek, .int .i64 ep, .string en, .int .i64 em, .slice a4 el.length b4, .slice a5 eps.length b5, .slice a6 eal.length b6, .slice a7 eds.length b7] HLD.out ?_)
        | (refine store_any 92 #[.int .i64 k, .int .i64 p, .string n, .slice va vs.length vb, .slice ca cs.length cb, .int .i64 yk, .int .i64 yp, .string yn, .slice ya yl.length yb, .slice pa ps.length pb, .int .i64 ek, .int .i64 ep, .string en, .int .i64 em, .slice a4 el.length b4, .slice a5 eps.length b5, .slice a6 eal.length b6, .slice a7 eds.length b7] u1.heap.size u1.heap.size _ (heap_alloc_new u1 _) ((Below.refl u1.heap.size u1).alloc (Nat.le_refl _) _) (Nat.le_refl _) info_de rfl HOC.out rfl _ _ rfl rfl rfl ?_; intro v0 hw0 hb0))
      clear HLD HOC
      have HB0 := Lib.hid (HBW.out.trans (hb0.mono HBW.out.size))
      have HD := Lib.hid (IsVs.on hb0 _ _ HV1.out)
      have HT := Lib.hid (IsVs.on hb0 _ _ HTy.out)
      have HE := Lib.hid (IsVs.on hb0 _ _ HEx.out)
      have HP := Lib.hid (HPs.out.on hb0)
      have G0 := Lib.hid hw0
      have e0 : v0.cell? ⟨u1.heap.size, 0, none⟩ = some (.int .i64 k) := by rw [Lib.cell_of_heap hw0]; rfl
      have e2 : v0.cell? ⟨u1.heap.size, 2, none⟩ = some (.string n) := by rw [Lib.cell_of_heap hw0]; rfl
      have e3 : v0.cell? ⟨u1.heap.size, 3, none⟩ = some (.slice va vs.length vb) := by rw [Lib.cell_of_heap hw0]; rfl
      have e4 : v0.cell? ⟨u1.heap.size, 4, none⟩ = some (.slice ca cs.length cb) := by rw [Lib.cell_of_heap hw0]; rfl
      have e5 : v0.cell? ⟨u1.heap.size, 5, none⟩ = some (.int .i64 yk) := by rw [Lib.cell_of_heap hw0]; rfl
      have e6 : v0.cell? ⟨u1.heap.size, 6, none⟩ = some (.int .i64 yp) := by rw [Lib.cell_of_heap hw0]; rfl
      have e7 : v0.cell? ⟨u1.heap.size, 7, none⟩ = some (.string yn) := by rw [Lib.cell_of_heap hw0]; rfl
      have e8 : v0.cell? ⟨u1.heap.size, 8, none⟩ = some (.slice ya yl.length yb) := by rw [Lib.cell_of_heap hw0]; rfl
      have e9 : v0.cell? ⟨u1.heap.size, 9, none⟩ = some (.slice pa ps.length pb) := by rw [Lib.cell_of_heap hw0]; rfl
      have e10 : v0.cell? ⟨u1.heap.size, 10, none⟩ = some (.int .i64 ek) := by rw [Lib.cell_of_heap hw0]; rfl
      have e11 : v0.cell? ⟨u1.heap.size, 11, none⟩ = some (.int .i64 ep) := by rw [Lib.cell_of_heap hw0]; rfl
      have e12 : v0.cell? ⟨u1.heap.size, 12, none⟩ = some (.string en) := by rw [Lib.cell_of_heap hw0]; rfl
      have e13 : v0.cell? ⟨u1.heap.size, 13, none⟩ = some (.int .i64 em) := by rw [Lib.cell_of_heap hw0]; rfl
      have e14 : v0.cell? ⟨u1.heap.size, 14, none⟩ = some (.slice a4 el.length b4) := by rw [Lib.cell_of_heap hw0]; rfl
      have e15 : v0.cell? ⟨u1.heap.size, 15, none⟩ = some (.slice a5 eps.length b5) := by rw [Lib.cell_of_heap hw0]; rfl
      have e16 : v0.cell? ⟨u1.heap.size, 16, none⟩ = some (.slice a6 eal.length b6) := by rw [Lib.cell_of_heap hw0]; rfl
      have e17 : v0.cell? ⟨u1.heap.size, 17, none⟩ = some (.slice a7 eds.length b7) := by rw [Lib.cell_of_heap hw0]; rfl
      have bw0 := Below.refl v0.heap.size v0
      clear hw0 hb0 HV1 HTy HEx HPs
      go_upto_region 8 with fail
      clear e3 e4
      by_cases h1 : k = 1
      · subst h1
        cases top with
        | false =>
          have HF : Hid (l.all (deB false b) = false) := Lib.hid (all_not HX.out (by simp only [deB]; rfl))
          go_wp2
          go_ret
          exact ⟨by rw [HF.out]; rfl, HB0.out.trans (bw0.mono HB0.out.size)⟩
        | true =>
          have HLD := Lib.hid (load_de v0 ⟨u1.heap.size, 0, none⟩ (by rw [Lib.cell_of_heap G0.out]; rfl) (by rw [Lib.cell_of_heap G0.out]; rfl) (by rw [Lib.cell_of_heap G0.out]; rfl) (by rw [Lib.cell_of_heap G0.out]; rfl) (by rw [Lib.cell_of_heap G0.out]; rfl) (by rw [Lib.cell_of_heap G0.out]; rfl) (by rw [Lib.cell_of_heap G0.out]; rfl) (by rw [Lib.cell_of_heap G0.out]; rfl) (by rw [Lib.cell_of_heap G0.out]; rfl) (by rw [Lib.cell_of_heap G0.out]; rfl) (by rw [Lib.cell_of_heap G0.out]; rfl) (by rw [Lib.cell_of_heap G0.out]; rfl) (by rw [Lib.cell_of_heap G0.out]; rfl) (by rw [Lib.cell_of_heap G0.out]; rfl) (by rw [Lib.cell_of_heap G0.out]; rfl) (by rw [Lib.cell_of_heap G0.out]; rfl) (by rw [Lib.cell_of_heap G0.out]; rfl) (by rw [Lib.cell_of_heap G0.out]; rfl))
          clear e2 e5 e6 e7 e8 e9 e10 e11 e12 e13 e14 e15 e16 e17
          go_wp2_with (refine wpList_load_g (by rfl) 92 _ rfl ⟨u1.heap.size, 0, none⟩ rfl #[.int .i64 1, .int .i64 p, .string n, .slice va vs.length vb, .slice ca cs.length cb, .int .i64 yk, .int .i64 yp, .string yn, .slice ya yl.length yb, .slice pa ps.length pb, .int .i64 ek, .int .i64 ep, .string en, .int .i64 em, .slice a4 el.length b4, .slice a5 eps.length b5, .slice a6 eal.length b6, .slice a7 eds.length b7] HLD.out ?_)
          refine (rdata_any _ p yk yp ek ep em n yn en vs cs yl ps eps el eal eds P [.int .i64 1, .int .i64 p, .string n, .slice va vs.length vb, .slice ca cs.length cb, .int .i64 yk, .int .i64 yp, .string yn, .slice ya yl.length yb, .slice pa ps.length pb, .int .i64 ek, .int .i64 ep, .string en, .int .i64 em, .slice a4 el.length b4, .slice a5 eps.length b5, .slice a6 eal.length b6, .slice a7 eds.length b7] v0 HD.out).mono ?_
          rintro e v1 ⟨rfl, hb1⟩
          have bw1 := bw0.trans (hb1.mono bw0.size)
          clear hb1
          cases hd : dataB n vs cs (.mk yk yp yn yl) ps (.mk ek ep en em el eps eal eds) with
          | false =>
            have HF : Hid (l.all (deB true b) = false) := Lib.hid (all_not HX.out (by simp only [deB]; rw [hd]; rfl))
            clear hd
            go_wp2
            go_ret
            exact ⟨by rw [HF.out]; rfl, HB0.out.trans (bw1.mono HB0.out.size)⟩
          | true =>
            have HN : Hid (∀ (j : Nat) (t : De), j < i + 1 → l[j]? = some t → deB true b t = true) := Lib.hid (fun j t hj h1 => by
              by_cases hji : j = i
              · subst hji
                rw [HX.out] at h1
                cases h1
                simp only [deB]
                rw [hd]; rfl
              · exact H.out j t (by omega) h1)
            have hz := HB0.out.trans (bw1.mono HB0.out.size)
            clear hd
            go_wp2
            go_roundw
            case rel => exact ⟨i + 1, by omega, by go_num, HN, hz⟩
            case measure => simp [intOf]; omega
      by_cases h2 : k = 2
      · subst h2
        clear h1
        by_cases hbare : vs.length = 0 ∧ cs.length = 0
        · obtain ⟨hv0, hc0⟩ := hbare
          obtain rfl := List.length_eq_zero_iff.1 hv0
          obtain rfl := List.length_eq_zero_iff.1 hc0
          clear hv0 hc0
          cases h4 : nameB n with
          | false =>
            have HF : Hid (l.all (deB top b) = false) := Lib.hid (all_not HX.out (by simp only [deB]; show sigB _ _ _ _ _ _ = false; unfold sigB; rw [h4]; rfl))
            go_wp2_with fail
            refine (rdword_any n hn v0).mono ?_
            rw [h4]
            rintro e v1 ⟨rfl, hb1⟩
            have bw1 := bw0.trans (hb1.mono bw0.size)
            have e0 := bel_cell hb1 e0
            have e2 := bel_cell hb1 e2
            have e5 := bel_cell hb1 e5
            have e6 := bel_cell hb1 e6
            have e7 := bel_cell hb1 e7
            have e8 := bel_cell hb1 e8
            have e9 := bel_cell hb1 e9
            have e10 := bel_cell hb1 e10
            have e11 := bel_cell hb1 e11
            have e12 := bel_cell hb1 e12
            have e13 := bel_cell hb1 e13
            have e14 := bel_cell hb1 e14
            have e15 := bel_cell hb1 e15
            have e16 := bel_cell hb1 e16
            have e17 := bel_cell hb1 e17
            clear hb1
            clear h4
            go_wp2
            go_ret
            exact ⟨by rw [HF.out]; rfl, HB0.out.trans (bw1.mono HB0.out.size)⟩
          | true =>
            cases h5 : Ty.rt (.mk yk yp yn yl) 400 with
            | false =>
              have HF : Hid (l.all (deB top b) = false) := Lib.hid (all_not HX.out (by simp only [deB]; show sigB _ _ _ _ _ _ = false; unfold sigB; rw [h5]; simp))
              go_wp2_with fail
              refine (rdword_any n hn v0).mono ?_
              rw [h4]
              rintro e v1 ⟨rfl, hb1⟩
              have bw1 := bw0.trans (hb1.mono bw0.size)
              have e0 := bel_cell hb1 e0
              have e2 := bel_cell hb1 e2
              have e5 := bel_cell hb1 e5
              have e6 := bel_cell hb1 e6
              have e7 := bel_cell hb1 e7
              have e8 := bel_cell hb1 e8
              have e9 := bel_cell hb1 e9
              have e10 := bel_cell hb1 e10
              have e11 := bel_cell hb1 e11
              have e12 := bel_cell hb1 e12
              have e13 := bel_cell hb1 e13
              have e14 := bel_cell hb1 e14
              have e15 := bel_cell hb1 e15
              have e16 := bel_cell hb1 e16
              have e17 := bel_cell hb1 e17
              clear hb1
              go_wp2_with fail
              refine (rdT_any (.mk yk yp yn yl) P [.int .i64 yk, .int .i64 yp, .string yn, .slice ya yl.length yb] v1 (IsVs.on bw1 _ _ HT.out)).mono ?_
              rw [h5]
              rintro e v2 ⟨rfl, hb2⟩
              have bw2 := bw1.trans (hb2.mono bw1.size)
              have e0 := bel_cell hb2 e0
              have e2 := bel_cell hb2 e2
              have e5 := bel_cell hb2 e5
              have e6 := bel_cell hb2 e6
              have e7 := bel_cell hb2 e7
              have e8 := bel_cell hb2 e8
              have e9 := bel_cell hb2 e9
              have e10 := bel_cell hb2 e10
              have e11 := bel_cell hb2 e11
              have e12 := bel_cell hb2 e12
              have e13 := bel_cell hb2 e13
              have e14 := bel_cell hb2 e14
              have e15 := bel_cell hb2 e15
              have e16 := bel_cell hb2 e16
              have e17 := bel_cell hb2 e17
              clear hb2
              clear h4 h5
              go_wp2
              go_ret
              exact ⟨by rw [HF.out]; rfl, HB0.out.trans (bw2.mono HB0.out.size)⟩
            | true =>
              by_cases h6 : ¬ ps = []
              · have h6l : 0 < ps.length := List.length_pos_iff.2 h6
                have HF : Hid (l.all (deB top b) = false) := Lib.hid (all_not HX.out (by simp only [deB]; show sigB _ _ _ _ _ _ = false; unfold sigB; rw [show ((ps.length : Int) == 0) = false by rw [beq_eq_false_iff_ne]; omega]; simp))
                go_wp2_with fail
                refine (rdword_any n hn v0).mono ?_
                rw [h4]
                rintro e v1 ⟨rfl, hb1⟩
                have bw1 := bw0.trans (hb1.mono bw0.size)
                have e0 := bel_cell hb1 e0
                have e2 := bel_cell hb1 e2
                have e5 := bel_cell hb1 e5
                have e6 := bel_cell hb1 e6
                have e7 := bel_cell hb1 e7
                have e8 := bel_cell hb1 e8
                have e9 := bel_cell hb1 e9
                have e10 := bel_cell hb1 e10
                have e11 := bel_cell hb1 e11
                have e12 := bel_cell hb1 e12
                have e13 := bel_cell hb1 e13
                have e14 := bel_cell hb1 e14
                have e15 := bel_cell hb1 e15
                have e16 := bel_cell hb1 e16
                have e17 := bel_cell hb1 e17
                clear hb1
                go_wp2_with fail
                refine (rdT_any (.mk yk yp yn yl) P [.int .i64 yk, .int .i64 yp, .string yn, .slice ya yl.length yb] v1 (IsVs.on bw1 _ _ HT.out)).mono ?_
                rw [h5]
                rintro e v2 ⟨rfl, hb2⟩
                have bw2 := bw1.trans (hb2.mono bw1.size)
                have e0 := bel_cell hb2 e0
                have e2 := bel_cell hb2 e2
                have e5 := bel_cell hb2 e5
                have e6 := bel_cell hb2 e6
                have e7 := bel_cell hb2 e7
                have e8 := bel_cell hb2 e8
                have e9 := bel_cell hb2 e9
                have e10 := bel_cell hb2 e10
                have e11 := bel_cell hb2 e11
                have e12 := bel_cell hb2 e12
                have e13 := bel_cell hb2 e13
                have e14 := bel_cell hb2 e14
                have e15 := bel_cell hb2 e15
                have e16 := bel_cell hb2 e16
                have e17 := bel_cell hb2 e17
                clear hb2
                clear h4 h5
                go_wp2
                go_ret
                exact ⟨by rw [HF.out]; rfl, HB0.out.trans (bw2.mono HB0.out.size)⟩
              obtain rfl : ps = [] := Classical.byContradiction h6
              clear h6
              cases h7 : Ex.same (.mk ek ep en em el eps eal eds) ex0 with
              | false =>
                have HF : Hid (l.all (deB top b) = false) := Lib.hid (all_not HX.out (by simp only [deB]; show sigB _ _ _ _ _ _ = false; unfold sigB; rw [h7]; simp))
                go_wp2_with fail
                refine (rdword_any n hn v0).mono ?_
                rw [h4]
                rintro e v1 ⟨rfl, hb1⟩
                have bw1 := bw0.trans (hb1.mono bw0.size)
                have e0 := bel_cell hb1 e0
                have e2 := bel_cell hb1 e2
                have e5 := bel_cell hb1 e5
                have e6 := bel_cell hb1 e6
                have e7 := bel_cell hb1 e7
                have e8 := bel_cell hb1 e8
                have e9 := bel_cell hb1 e9
                have e10 := bel_cell hb1 e10
                have e11 := bel_cell hb1 e11
                have e12 := bel_cell hb1 e12
                have e13 := bel_cell hb1 e13
                have e14 := bel_cell hb1 e14
                have e15 := bel_cell hb1 e15
                have e16 := bel_cell hb1 e16
                have e17 := bel_cell hb1 e17
                clear hb1
                go_wp2_with fail
                refine (rdT_any (.mk yk yp yn yl) P [.int .i64 yk, .int .i64 yp, .string yn, .slice ya yl.length yb] v1 (IsVs.on bw1 _ _ HT.out)).mono ?_
                rw [h5]
                rintro e v2 ⟨rfl, hb2⟩
                have bw2 := bw1.trans (hb2.mono bw1.size)
                have e0 := bel_cell hb2 e0
                have e2 := bel_cell hb2 e2
                have e5 := bel_cell hb2 e5
                have e6 := bel_cell hb2 e6
                have e7 := bel_cell hb2 e7
                have e8 := bel_cell hb2 e8
                have e9 := bel_cell hb2 e9
                have e10 := bel_cell hb2 e10
                have e11 := bel_cell hb2 e11
                have e12 := bel_cell hb2 e12
                have e13 := bel_cell hb2 e13
                have e14 := bel_cell hb2 e14
                have e15 := bel_cell hb2 e15
                have e16 := bel_cell hb2 e16
                have e17 := bel_cell hb2 e17
                clear hb2
                go_wp2_with fail
                refine (rsameE_any (.mk ek ep en em el eps eal eds) ex0 P Any [.int .i64 ek, .int .i64 ep, .string en, .int .i64 em, .slice a4 el.length b4, .slice a5 eps.length b5, .slice a6 eal.length b6, .slice a7 eds.length b7] [_, _, _, _, _, _, _, _] v2 (IsVs.on bw2 _ _ HE.out) (ex0_vs v2)).mono ?_
                rw [h7]
                rintro e v3 ⟨rfl, hb3⟩
                have bw3 := bw2.trans (hb3.mono bw2.size)
                have e0 := bel_cell hb3 e0
                have e2 := bel_cell hb3 e2
                have e5 := bel_cell hb3 e5
                have e6 := bel_cell hb3 e6
                have e7 := bel_cell hb3 e7
                have e8 := bel_cell hb3 e8
                have e9 := bel_cell hb3 e9
                have e10 := bel_cell hb3 e10
                have e11 := bel_cell hb3 e11
                have e12 := bel_cell hb3 e12
                have e13 := bel_cell hb3 e13
                have e14 := bel_cell hb3 e14
                have e15 := bel_cell hb3 e15
                have e16 := bel_cell hb3 e16
                have e17 := bel_cell hb3 e17
                clear hb3
                clear h4 h5 h7
                go_wp2
                go_ret
                exact ⟨by rw [HF.out]; rfl, HB0.out.trans (bw3.mono HB0.out.size)⟩
              | true =>
                have HN : Hid (∀ (j : Nat) (t : De), j < i + 1 → l[j]? = some t → deB top b t = true) := Lib.hid (fun j t hj h1 => by
                  by_cases hji : j = i
                  · subst hji
                    rw [HX.out] at h1
                    cases h1
                    simp only [deB]
                    show sigB _ _ _ _ _ _ = true; unfold sigB; rw [h4, h5, h7]; rfl
                  · exact H.out j t (by omega) h1)
                go_wp2_with fail
                refine (rdword_any n hn v0).mono ?_
                rw [h4]
                rintro e v1 ⟨rfl, hb1⟩
                have bw1 := bw0.trans (hb1.mono bw0.size)
                have e0 := bel_cell hb1 e0
                have e2 := bel_cell hb1 e2
                have e5 := bel_cell hb1 e5
                have e6 := bel_cell hb1 e6
                have e7 := bel_cell hb1 e7
                have e8 := bel_cell hb1 e8
                have e9 := bel_cell hb1 e9
                have e10 := bel_cell hb1 e10
                have e11 := bel_cell hb1 e11
                have e12 := bel_cell hb1 e12
                have e13 := bel_cell hb1 e13
                have e14 := bel_cell hb1 e14
                have e15 := bel_cell hb1 e15
                have e16 := bel_cell hb1 e16
                have e17 := bel_cell hb1 e17
                clear hb1
                go_wp2_with fail
                refine (rdT_any (.mk yk yp yn yl) P [.int .i64 yk, .int .i64 yp, .string yn, .slice ya yl.length yb] v1 (IsVs.on bw1 _ _ HT.out)).mono ?_
                rw [h5]
                rintro e v2 ⟨rfl, hb2⟩
                have bw2 := bw1.trans (hb2.mono bw1.size)
                have e0 := bel_cell hb2 e0
                have e2 := bel_cell hb2 e2
                have e5 := bel_cell hb2 e5
                have e6 := bel_cell hb2 e6
                have e7 := bel_cell hb2 e7
                have e8 := bel_cell hb2 e8
                have e9 := bel_cell hb2 e9
                have e10 := bel_cell hb2 e10
                have e11 := bel_cell hb2 e11
                have e12 := bel_cell hb2 e12
                have e13 := bel_cell hb2 e13
                have e14 := bel_cell hb2 e14
                have e15 := bel_cell hb2 e15
                have e16 := bel_cell hb2 e16
                have e17 := bel_cell hb2 e17
                clear hb2
                go_wp2_with fail
                refine (rsameE_any (.mk ek ep en em el eps eal eds) ex0 P Any [.int .i64 ek, .int .i64 ep, .string en, .int .i64 em, .slice a4 el.length b4, .slice a5 eps.length b5, .slice a6 eal.length b6, .slice a7 eds.length b7] [_, _, _, _, _, _, _, _] v2 (IsVs.on bw2 _ _ HE.out) (ex0_vs v2)).mono ?_
                rw [h7]
                rintro e v3 ⟨rfl, hb3⟩
                have bw3 := bw2.trans (hb3.mono bw2.size)
                have e0 := bel_cell hb3 e0
                have e2 := bel_cell hb3 e2
                have e5 := bel_cell hb3 e5
                have e6 := bel_cell hb3 e6
                have e7 := bel_cell hb3 e7
                have e8 := bel_cell hb3 e8
                have e9 := bel_cell hb3 e9
                have e10 := bel_cell hb3 e10
                have e11 := bel_cell hb3 e11
                have e12 := bel_cell hb3 e12
                have e13 := bel_cell hb3 e13
                have e14 := bel_cell hb3 e14
                have e15 := bel_cell hb3 e15
                have e16 := bel_cell hb3 e16
                have e17 := bel_cell hb3 e17
                clear hb3
                have hz := HB0.out.trans (bw3.mono HB0.out.size)
                clear h4 h5 h7
                go_wp2
                go_roundw
                case rel => exact ⟨i + 1, by omega, by go_num, HN, hz⟩
                case measure => simp [intOf]; omega
        · have zb := sumz vs.length cs.length hbare
          have HZ := Lib.hid zb
          have zz : (((vs.length : Int) == 0) && ((cs.length : Int) == 0)) = false := by
            rw [Bool.and_eq_false_iff, beq_eq_false_iff_ne, beq_eq_false_iff_ne]; omega
          have HF : Hid (l.all (deB top b) = false) := Lib.hid (all_not HX.out (by
            simp only [deB]
            show sigB _ _ _ _ _ _ = false
            unfold sigB
            cases hq1 : ((vs.length : Int) == 0) with
            | false => simp
            | true =>
              have hq2 : ((cs.length : Int) == 0) = false := by simpa [hq1] using zz
              rw [hq2]; simp))
          clear zz
          go_wp2
          go_ret
          exact ⟨by rw [HF.out]; rfl, HB0.out.trans (bw0.mono HB0.out.size)⟩
      by_cases h3 : k = 3
      · subst h3
        clear h1 h2
        by_cases hbare : vs.length = 0 ∧ cs.length = 0
        · obtain ⟨hv0, hc0⟩ := hbare
          obtain rfl := List.length_eq_zero_iff.1 hv0
          obtain rfl := List.length_eq_zero_iff.1 hc0
          clear hv0 hc0
          cases h4 : nameB n with
          | false =>
            have HF : Hid (l.all (deB top b) = false) := Lib.hid (all_not HX.out (by simp only [deB]; show defB _ _ _ _ _ _ = false; unfold defB; rw [h4]; rfl))
            go_wp2_with fail
            refine (rdword_any n hn v0).mono ?_
            rw [h4]
            rintro e v1 ⟨rfl, hb1⟩
            have bw1 := bw0.trans (hb1.mono bw0.size)
            have e0 := bel_cell hb1 e0
            have e2 := bel_cell hb1 e2
            have e5 := bel_cell hb1 e5
            have e6 := bel_cell hb1 e6
            have e7 := bel_cell hb1 e7
            have e8 := bel_cell hb1 e8
            have e9 := bel_cell hb1 e9
            have e10 := bel_cell hb1 e10
            have e11 := bel_cell hb1 e11
            have e12 := bel_cell hb1 e12
            have e13 := bel_cell hb1 e13
            have e14 := bel_cell hb1 e14
            have e15 := bel_cell hb1 e15
            have e16 := bel_cell hb1 e16
            have e17 := bel_cell hb1 e17
            clear hb1
            clear h4
            go_wp2
            have hz := HB0.out.trans (bw1.mono HB0.out.size)
            have GJ := Lib.hid ((bw1.block _ (heap_lt G0.out)).trans G0.out)
            clear e0 e2 e5 e6 e7 e8 e9 e10 e11 e12 e13 e14 e15 e16 e17
            go_loopw [10, 11] (fun ov iv wr => ov = .bool false ∧ iv = .int .i64 0 ∧ v1 = wr) (fun _ _ _ => 0)
            case atStart => exact ⟨rfl, rfl, rfl⟩
            case round =>
              obtain ⟨rfl, rfl, rfl⟩ := hrel
              have e9 : v1.cell? ⟨u1.heap.size, 9, none⟩ = some (.slice pa ps.length pb) := by rw [Lib.cell_of_heap GJ.out]; rfl
              go_wp2
              all_goals (go_ret; exact ⟨by rw [HF.out]; rfl, hz⟩)
          | true =>
            cases h5 : Ty.same (.mk yk yp yn yl) ty0 with
            | false =>
              have HF : Hid (l.all (deB top b) = false) := Lib.hid (all_not HX.out (by simp only [deB]; show defB _ _ _ _ _ _ = false; unfold defB; rw [h5]; simp))
              go_wp2_with fail
              refine (rdword_any n hn v0).mono ?_
              rw [h4]
              rintro e v1 ⟨rfl, hb1⟩
              have bw1 := bw0.trans (hb1.mono bw0.size)
              have e0 := bel_cell hb1 e0
              have e2 := bel_cell hb1 e2
              have e5 := bel_cell hb1 e5
              have e6 := bel_cell hb1 e6
              have e7 := bel_cell hb1 e7
              have e8 := bel_cell hb1 e8
              have e9 := bel_cell hb1 e9
              have e10 := bel_cell hb1 e10
              have e11 := bel_cell hb1 e11
              have e12 := bel_cell hb1 e12
              have e13 := bel_cell hb1 e13
              have e14 := bel_cell hb1 e14
              have e15 := bel_cell hb1 e15
              have e16 := bel_cell hb1 e16
              have e17 := bel_cell hb1 e17
              clear hb1
              go_wp2_with fail
              refine (rsameT_vs (.mk yk yp yn yl) ty0 P Any [.int .i64 yk, .int .i64 yp, .string yn, .slice ya yl.length yb] [_, _, _, _] v1 (IsVs.on bw1 _ _ HT.out) (ty0_vs v1)).mono ?_
              rw [h5]
              rintro e v2 ⟨rfl, hb2⟩
              have bw2 := bw1.trans (hb2.mono bw1.size)
              have e0 := bel_cell hb2 e0
              have e2 := bel_cell hb2 e2
              have e5 := bel_cell hb2 e5
              have e6 := bel_cell hb2 e6
              have e7 := bel_cell hb2 e7
              have e8 := bel_cell hb2 e8
              have e9 := bel_cell hb2 e9
              have e10 := bel_cell hb2 e10
              have e11 := bel_cell hb2 e11
              have e12 := bel_cell hb2 e12
              have e13 := bel_cell hb2 e13
              have e14 := bel_cell hb2 e14
              have e15 := bel_cell hb2 e15
              have e16 := bel_cell hb2 e16
              have e17 := bel_cell hb2 e17
              clear hb2
              clear h4 h5
              go_wp2
              have hz := HB0.out.trans (bw2.mono HB0.out.size)
              have GJ := Lib.hid ((bw2.block _ (heap_lt G0.out)).trans G0.out)
              clear e0 e2 e5 e6 e7 e8 e9 e10 e11 e12 e13 e14 e15 e16 e17
              go_loopw [10, 11] (fun ov iv wr => ov = .bool false ∧ iv = .int .i64 0 ∧ v2 = wr) (fun _ _ _ => 0)
              case atStart => exact ⟨rfl, rfl, rfl⟩
              case round =>
                obtain ⟨rfl, rfl, rfl⟩ := hrel
                have e9 : v2.cell? ⟨u1.heap.size, 9, none⟩ = some (.slice pa ps.length pb) := by rw [Lib.cell_of_heap GJ.out]; rfl
                go_wp2
                all_goals (go_ret; exact ⟨by rw [HF.out]; rfl, hz⟩)
            | true =>
              by_cases h6 : ¬ (ps.length : Int) ≤ 16
              · have HF : Hid (l.all (deB top b) = false) := Lib.hid (all_not HX.out (by simp only [deB]; show defB _ _ _ _ _ _ = false; unfold defB; rw [decide_eq_false h6]; simp))
                go_wp2_with fail
                refine (rdword_any n hn v0).mono ?_
                rw [h4]
                rintro e v1 ⟨rfl, hb1⟩
                have bw1 := bw0.trans (hb1.mono bw0.size)
                have e0 := bel_cell hb1 e0
                have e2 := bel_cell hb1 e2
                have e5 := bel_cell hb1 e5
                have e6 := bel_cell hb1 e6
                have e7 := bel_cell hb1 e7
                have e8 := bel_cell hb1 e8
                have e9 := bel_cell hb1 e9
                have e10 := bel_cell hb1 e10
                have e11 := bel_cell hb1 e11
                have e12 := bel_cell hb1 e12
                have e13 := bel_cell hb1 e13
                have e14 := bel_cell hb1 e14
                have e15 := bel_cell hb1 e15
                have e16 := bel_cell hb1 e16
                have e17 := bel_cell hb1 e17
                clear hb1
                go_wp2_with fail
                refine (rsameT_vs (.mk yk yp yn yl) ty0 P Any [.int .i64 yk, .int .i64 yp, .string yn, .slice ya yl.length yb] [_, _, _, _] v1 (IsVs.on bw1 _ _ HT.out) (ty0_vs v1)).mono ?_
                rw [h5]
                rintro e v2 ⟨rfl, hb2⟩
                have bw2 := bw1.trans (hb2.mono bw1.size)
                have e0 := bel_cell hb2 e0
                have e2 := bel_cell hb2 e2
                have e5 := bel_cell hb2 e5
                have e6 := bel_cell hb2 e6
                have e7 := bel_cell hb2 e7
                have e8 := bel_cell hb2 e8
                have e9 := bel_cell hb2 e9
                have e10 := bel_cell hb2 e10
                have e11 := bel_cell hb2 e11
                have e12 := bel_cell hb2 e12
                have e13 := bel_cell hb2 e13
                have e14 := bel_cell hb2 e14
                have e15 := bel_cell hb2 e15
                have e16 := bel_cell hb2 e16
                have e17 := bel_cell hb2 e17
                clear hb2
                clear h4 h5
                go_wp2
                have hz := HB0.out.trans (bw2.mono HB0.out.size)
                have GJ := Lib.hid ((bw2.block _ (heap_lt G0.out)).trans G0.out)
                clear e0 e2 e5 e6 e7 e8 e9 e10 e11 e12 e13 e14 e15 e16 e17
                go_loopw [10, 11] (fun ov iv wr => ov = .bool false ∧ iv = .int .i64 0 ∧ v2 = wr) (fun _ _ _ => 0)
                case atStart => exact ⟨rfl, rfl, rfl⟩
                case round =>
                  obtain ⟨rfl, rfl, rfl⟩ := hrel
                  have e9 : v2.cell? ⟨u1.heap.size, 9, none⟩ = some (.slice pa ps.length pb) := by rw [Lib.cell_of_heap GJ.out]; rfl
                  go_wp2
                  all_goals (go_ret; exact ⟨by rw [HF.out]; rfl, hz⟩)
              have h6 : (ps.length : Int) ≤ 16 := Classical.byContradiction h6
              cases h7 : b (.mk ek ep en em el eps eal eds) with
              | false =>
                have HF : Hid (l.all (deB top b) = false) := Lib.hid (all_not HX.out (by simp only [deB]; show defB _ _ _ _ _ _ = false; unfold defB; rw [h7]; simp))
                go_wp2_with fail
                refine (rdword_any n hn v0).mono ?_
                rw [h4]
                rintro e v1 ⟨rfl, hb1⟩
                have bw1 := bw0.trans (hb1.mono bw0.size)
                have e0 := bel_cell hb1 e0
                have e2 := bel_cell hb1 e2
                have e5 := bel_cell hb1 e5
                have e6 := bel_cell hb1 e6
                have e7 := bel_cell hb1 e7
                have e8 := bel_cell hb1 e8
                have e9 := bel_cell hb1 e9
                have e10 := bel_cell hb1 e10
                have e11 := bel_cell hb1 e11
                have e12 := bel_cell hb1 e12
                have e13 := bel_cell hb1 e13
                have e14 := bel_cell hb1 e14
                have e15 := bel_cell hb1 e15
                have e16 := bel_cell hb1 e16
                have e17 := bel_cell hb1 e17
                clear hb1
                go_wp2_with fail
                refine (rsameT_vs (.mk yk yp yn yl) ty0 P Any [.int .i64 yk, .int .i64 yp, .string yn, .slice ya yl.length yb] [_, _, _, _] v1 (IsVs.on bw1 _ _ HT.out) (ty0_vs v1)).mono ?_
                rw [h5]
                rintro e v2 ⟨rfl, hb2⟩
                have bw2 := bw1.trans (hb2.mono bw1.size)
                have e0 := bel_cell hb2 e0
                have e2 := bel_cell hb2 e2
                have e5 := bel_cell hb2 e5
                have e6 := bel_cell hb2 e6
                have e7 := bel_cell hb2 e7
                have e8 := bel_cell hb2 e8
                have e9 := bel_cell hb2 e9
                have e10 := bel_cell hb2 e10
                have e11 := bel_cell hb2 e11
                have e12 := bel_cell hb2 e12
                have e13 := bel_cell hb2 e13
                have e14 := bel_cell hb2 e14
                have e15 := bel_cell hb2 e15
                have e16 := bel_cell hb2 e16
                have e17 := bel_cell hb2 e17
                clear hb2
                go_wp2_with fail
                refine (HQ.out P [.int .i64 ek, .int .i64 ep, .string en, .int .i64 em, .slice a4 el.length b4, .slice a5 eps.length b5, .slice a6 eal.length b6, .slice a7 eds.length b7] v2 (IsVs.on bw2 _ _ HE.out)).mono ?_
                rw [h7]
                rintro e v3 ⟨rfl, hb3⟩
                have bw3 := bw2.trans (hb3.mono bw2.size)
                have e0 := bel_cell hb3 e0
                have e2 := bel_cell hb3 e2
                have e5 := bel_cell hb3 e5
                have e6 := bel_cell hb3 e6
                have e7 := bel_cell hb3 e7
                have e8 := bel_cell hb3 e8
                have e9 := bel_cell hb3 e9
                have e10 := bel_cell hb3 e10
                have e11 := bel_cell hb3 e11
                have e12 := bel_cell hb3 e12
                have e13 := bel_cell hb3 e13
                have e14 := bel_cell hb3 e14
                have e15 := bel_cell hb3 e15
                have e16 := bel_cell hb3 e16
                have e17 := bel_cell hb3 e17
                clear hb3
                clear h4 h5 h7
                go_wp2
                have hz := HB0.out.trans (bw3.mono HB0.out.size)
                have GJ := Lib.hid ((bw3.block _ (heap_lt G0.out)).trans G0.out)
                clear e0 e2 e5 e6 e7 e8 e9 e10 e11 e12 e13 e14 e15 e16 e17
                go_loopw [10, 11] (fun ov iv wr => ov = .bool false ∧ iv = .int .i64 0 ∧ v3 = wr) (fun _ _ _ => 0)
                case atStart => exact ⟨rfl, rfl, rfl⟩
                case round =>
                  obtain ⟨rfl, rfl, rfl⟩ := hrel
                  have e9 : v3.cell? ⟨u1.heap.size, 9, none⟩ = some (.slice pa ps.length pb) := by rw [Lib.cell_of_heap GJ.out]; rfl
                  go_wp2
                  all_goals (go_ret; exact ⟨by rw [HF.out]; rfl, hz⟩)
              | true =>
                have HEQ : Hid (deB top b (.mk 3 p n [] [] (.mk yk yp yn yl) ps (.mk ek ep en em el eps eal eds)) = patsB ps) := Lib.hid (by
                  simp only [deB]
                  show defB _ _ _ _ _ _ = patsB ps
                  unfold defB
                  rw [h4, h5, h7, decide_eq_true h6]
                  simp)
                go_wp2_with fail
                refine (rdword_any n hn v0).mono ?_
                rw [h4]
                rintro e v1 ⟨rfl, hb1⟩
                have bw1 := bw0.trans (hb1.mono bw0.size)
                have e0 := bel_cell hb1 e0
                have e2 := bel_cell hb1 e2
                have e5 := bel_cell hb1 e5
                have e6 := bel_cell hb1 e6
                have e7 := bel_cell hb1 e7
                have e8 := bel_cell hb1 e8
                have e9 := bel_cell hb1 e9
                have e10 := bel_cell hb1 e10
                have e11 := bel_cell hb1 e11
                have e12 := bel_cell hb1 e12
                have e13 := bel_cell hb1 e13
                have e14 := bel_cell hb1 e14
                have e15 := bel_cell hb1 e15
                have e16 := bel_cell hb1 e16
                have e17 := bel_cell hb1 e17
                clear hb1
                go_wp2_with fail
                refine (rsameT_vs (.mk yk yp yn yl) ty0 P Any [.int .i64 yk, .int .i64 yp, .string yn, .slice ya yl.length yb] [_, _, _, _] v1 (IsVs.on bw1 _ _ HT.out) (ty0_vs v1)).mono ?_
                rw [h5]
                rintro e v2 ⟨rfl, hb2⟩
                have bw2 := bw1.trans (hb2.mono bw1.size)
                have e0 := bel_cell hb2 e0
                have e2 := bel_cell hb2 e2
                have e5 := bel_cell hb2 e5
                have e6 := bel_cell hb2 e6
                have e7 := bel_cell hb2 e7
                have e8 := bel_cell hb2 e8
                have e9 := bel_cell hb2 e9
                have e10 := bel_cell hb2 e10
                have e11 := bel_cell hb2 e11
                have e12 := bel_cell hb2 e12
                have e13 := bel_cell hb2 e13
                have e14 := bel_cell hb2 e14
                have e15 := bel_cell hb2 e15
                have e16 := bel_cell hb2 e16
                have e17 := bel_cell hb2 e17
                clear hb2
                go_wp2_with fail
                refine (HQ.out P [.int .i64 ek, .int .i64 ep, .string en, .int .i64 em, .slice a4 el.length b4, .slice a5 eps.length b5, .slice a6 eal.length b6, .slice a7 eds.length b7] v2 (IsVs.on bw2 _ _ HE.out)).mono ?_
                rw [h7]
                rintro e v3 ⟨rfl, hb3⟩
                have bw3 := bw2.trans (hb3.mono bw2.size)
                have e0 := bel_cell hb3 e0
                have e2 := bel_cell hb3 e2
                have e5 := bel_cell hb3 e5
                have e6 := bel_cell hb3 e6
                have e7 := bel_cell hb3 e7
                have e8 := bel_cell hb3 e8
                have e9 := bel_cell hb3 e9
                have e10 := bel_cell hb3 e10
                have e11 := bel_cell hb3 e11
                have e12 := bel_cell hb3 e12
                have e13 := bel_cell hb3 e13
                have e14 := bel_cell hb3 e14
                have e15 := bel_cell hb3 e15
                have e16 := bel_cell hb3 e16
                have e17 := bel_cell hb3 e17
                clear hb3
                have hz := HB0.out.trans (bw3.mono HB0.out.size)
                have GJ := Lib.hid ((bw3.block _ (heap_lt G0.out)).trans G0.out)
                have BW3 := Lib.hid bw3
                clear h4 h5 h7 bw1 bw2 bw3
                clear e0 e2 e5 e6 e7 e8 e9 e10 e11 e12 e13 e14 e15 e16 e17
                go_wp2
                go_loopw [10, 11] (fun ov iv wr => ∃ (j : Nat) (ok : Bool), j ≤ ps.length ∧ iv = .int .i64 j ∧ ov = .bool ok ∧ Hid ((ok = true → ∀ (q : Nat) (t : Pa), q < j → ps[q]? = some t → t.rt 400 = true) ∧ (ok = false → patsB ps = false)) ∧ Below v3.heap.size v3 wr) (fun _ iv _ => ps.length - (intOf iv).toNat)
                case atStart => exact ⟨0, true, Nat.zero_le _, rfl, rfl, Lib.hid ⟨fun _ q t hq => by omega, fun h => by cases h⟩, Below.refl _ _⟩
                case round =>
                  obtain ⟨q, ok, hq, rfl, rfl, HK, hbq⟩ := hrel
                  obtain ⟨u2, ew⟩ : ∃ w0, w0 = wr := ⟨_, rfl⟩
                  rw [← ew] at hbq ⊢
                  clear ew
                  have gq := (hbq.block _ (heap_lt GJ.out)).trans GJ.out
                  have e9 : u2.cell? ⟨u1.heap.size, 9, none⟩ = some (.slice pa ps.length pb) := by rw [Lib.cell_of_heap gq]; rfl
                  have hz2 := hz.trans (hbq.mono hz.size)
                  cases ok with
                  | false =>
                    have HF : Hid (l.all (deB top b) = false) := Lib.hid (all_not HX.out (HEQ.out.trans (HK.out.2 (by first | rfl | trivial))))
                    clear gq
                    by_cases hlt2 : q < ps.length
                    · have j2 : (q : Int) < ps.length := by omega
                      go_wp2
                      go_ret
                      exact ⟨by rw [HF.out]; rfl, hz2⟩
                    · have j2 : ¬ (q : Int) < ps.length := by omega
                      go_wp2
                      go_ret
                      exact ⟨by rw [HF.out]; rfl, hz2⟩
                  | true =>
                    by_cases hlt2 : q < ps.length
                    · have j2 : (q : Int) < ps.length := by omega
                      obtain ⟨x, hx⟩ : ∃ x, ps[q]? = some x := ⟨ps[q], List.getElem?_eq_getElem hlt2⟩
                      obtain ⟨A3, rfl, _, hrow3⟩ := HP.out.at hx
                      obtain ⟨xs, hv1, hv2⟩ := row_load (hrow3.on (BW3.out.trans (hbq.mono BW3.out.size))).out 27 und_pa3 (by rw [Pa.row_len]; exact info_pa3)
                      have HV1 := Lib.hid hv1
                      have HV2 := Lib.hid (hv2 u2 (Below.refl _ _))
                      have HXq := Lib.hid hx
                      have HBQ := Lib.hid hbq
                      clear gq hrow3 hx hv1 hv2 hbq hz2
                      go_wp2_with (refine wpList_load_any rfl 27 _ rfl (A3.add (q * 5)) rfl xs.toArray HV2.out ?_)
                      refine (rdP_any x P xs u2 HV1.out).mono ?_
                      rintro e u5 ⟨rfl, hb5⟩
                      have hbq5 := HBQ.out.trans (hb5.mono HBQ.out.size)
                      clear hb5
                      have HK2 : Hid ((x.rt 400 = true → ∀ (j : Nat) (t : Pa), j < q + 1 → ps[j]? = some t → t.rt 400 = true) ∧ (x.rt 400 = false → patsB ps = false)) := Lib.hid ⟨fun h j t hj h1 => by
                          by_cases hji : j = q
                          · subst hji
                            rw [HXq.out] at h1
                            cases h1; exact h
                          · exact HK.out.1 (by first | rfl | trivial) j t (by omega) h1, fun h => all_not (ok := fun t : Pa => t.rt 400) HXq.out h⟩
                      generalize x.rt 400 = xb at HK2 ⊢
                      go_wp2
                      go_roundw
                      case rel => exact ⟨q + 1, xb, by omega, by go_num, rfl, HK2, hbq5⟩
                      case measure => simp [intOf]; omega
                    · have j2 : ¬ (q : Int) < ps.length := by omega
                      have hpt : patsB ps = true := all_step fun j t h1 => HK.out.1 (by first | rfl | trivial) j t (by have := (List.getElem?_eq_some_iff.1 h1).1; omega) h1
                      have HN : Hid (∀ (j : Nat) (t : De), j < i + 1 → l[j]? = some t → deB top b t = true) := Lib.hid (fun j t hj h1 => by
                        by_cases hji : j = i
                        · subst hji
                          rw [HX.out] at h1
                          cases h1
                          exact HEQ.out.trans hpt
                        · exact H.out j t (by omega) h1)
                      clear gq hpt
                      go_wp2
                      go_roundw
                      case rel => exact ⟨i + 1, by omega, by go_num, HN, hz2⟩
                      case measure => simp [intOf]; omega
        · have zb := sumz vs.length cs.length hbare
          have HZ := Lib.hid zb
          have zz : (((vs.length : Int) == 0) && ((cs.length : Int) == 0)) = false := by
            rw [Bool.and_eq_false_iff, beq_eq_false_iff_ne, beq_eq_false_iff_ne]; omega
          have HF : Hid (l.all (deB top b) = false) := Lib.hid (all_not HX.out (by
            simp only [deB]
            show defB _ _ _ _ _ _ = false
            unfold defB
            cases hq1 : ((vs.length : Int) == 0) with
            | false => simp
            | true =>
              have hq2 : ((cs.length : Int) == 0) = false := by simpa [hq1] using zz
              rw [hq2]; simp))
          clear zz
          go_wp2
          have hz := HB0.out.trans (bw0.mono HB0.out.size)
          have GJ := Lib.hid ((bw0.block _ (heap_lt G0.out)).trans G0.out)
          clear e0 e2 e5 e6 e7 e8 e9 e10 e11 e12 e13 e14 e15 e16 e17
          go_loopw [10, 11] (fun ov iv wr => ov = .bool false ∧ iv = .int .i64 0 ∧ v0 = wr) (fun _ _ _ => 0)
          case atStart => exact ⟨rfl, rfl, rfl⟩
          case round =>
            obtain ⟨rfl, rfl, rfl⟩ := hrel
            have e9 : v0.cell? ⟨u1.heap.size, 9, none⟩ = some (.slice pa ps.length pb) := by rw [Lib.cell_of_heap GJ.out]; rfl
            go_wp2
            all_goals (go_ret; exact ⟨by rw [HF.out]; rfl, hz⟩)
      have HF : Hid (l.all (deB top b) = false) := Lib.hid (all_not HX.out (by simp only [deB]; rw [show (k == 1) = false by simpa using h1, show (k == 2) = false by simpa using h2, show (k == 3) = false by simpa using h3]; rfl))
      have q1 : (k == 1) = false := by simpa using h1
      have q2 : (k == 2) = false := by simpa using h2
      have q3 : (k == 3) = false := by simpa using h3
      clear h1 h2 h3
      go_wp2
      go_ret
      exact ⟨by rw [HF.out]; rfl, HB0.out.trans (bw0.mono HB0.out.size)⟩
    · have i1 : ¬ (i : Int) < l.length := by omega
      have HF : Hid (l.all (deB top b) = true) := Lib.hid (all_step fun j t h1 => H.out j t (by have := (List.getElem?_eq_some_iff.1 h1).1; omega) h1)
      go_wp2
      go_ret
      exact ⟨by rw [HF.out]; rfl, hbw⟩
end Go.Proofs.YtdiffpiapdghoaaGreatDoor
