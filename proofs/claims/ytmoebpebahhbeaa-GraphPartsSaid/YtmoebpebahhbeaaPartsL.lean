/-
  Layer 7, the law's side: GraphParts.
-/
import Derived.Test.YtmoebpebahhbeaaPartsM
import Derived.Test.YtmoebpebahhbeaaSizes7
namespace Go.Proofs.Ytmoebpebahhbeaa
set_option linter.unusedVariables false
open Go.ChangeShapes Go.WideShapes Go.ChangeAt Go.RowKit

theorem node_more (n0 : Int) (k : Nat) (hk : 0 < k) (hk2 : k ≤ 1000) : ∃ m : Nat, 1 ≤ m ∧ m ≤ k ∧ wrap64 (1 + (wrap64 (n0.tmod k + k)).tmod k) = (m : Int) := by
  have h0 : (0 : Int) < (k : Int) := by omega
  rw [nodeM_wrap n0 k h0 (by omega)]
  have h1 := nodeM_in n0 k h0
  generalize nodeM k n0 = t at h1
  refine ⟨(1 + t).toNat, by omega, by omega, ?_⟩
  unfold RowKit.wrap64
  omega
set_option maxHeartbeats 2000000 in
set_option maxRecDepth 100000 in
theorem parts_law (n0 : Int) (v : Value) (es : List (Int × Int)) (w : World) (he : Edges w v es) :
    Calls Try.prog 5 #[.int .i64 n0, v] w fun e w' => e = .returned (.bool true) ∧ Below w.heap.size w w' := by
  have HE := Lib.hid he
  obtain ⟨ao, c, rfl, _, _⟩ := he
  obtain ⟨m, hm1, hm2, hm⟩ := node_more n0 200 (by decide) (by decide)
  have hm' : wrap64 (1 + (wrap64 (n0.tmod 200 + 200)).tmod 200) = (m : Int) := hm
  have HM := Lib.hid hm'
  clear hm hm'
  by_cases hlen : es.length ≤ 600
  · have h3 : decide ((600 : Int) < (es.length : Int)) = false := decide_eq_false (by omega)
    go_enter Try.func5, Try.ntmps5
    go_upto_region 2 with fail
    rw [HM.out]
    go_wp2_with fail
    refine (knows7_any w).mono ?_
    rintro e w1 ⟨rfl, hb1⟩
    have HE1 := Lib.hid (HE.out.below hb1)
    have HB1 := Lib.hid hb1
    clear hb1
    go_wp2_with fail
    refine (part_any m (by omega) (by omega) _ es (by omega) w1 HE1.out).mono ?_
    rintro e w2 ⟨x, rfl, hb2, hx⟩
    have hX : Edges w2 x (es.map (pairM m)) := edges_owns (B := w1.heap.size) (by rw [List.length_map]; exact hx) (by rw [List.length_map]; omega)
    have HX := Lib.hid hX
    have HB2 := Lib.hid (HB1.out.trans (hb2.mono HB1.out.size))
    obtain ⟨ax, cx, rfl⟩ := owns_form hx
    clear hb2 hx hX
    go_wp2_with fail
    refine (Groups_any m _ _ w2 HX.out).mono ?_
    rintro e w3 ⟨u, rfl, hb3, hg, -⟩
    have hok := part_ok m (by omega) (by omega) es (by omega)
    have hgo := hg hok
    rw [hok]
    have HB3 := Lib.hid (HB2.out.trans (hb3.mono HB2.out.size))
    have HX3 := Lib.hid (HX.out.below hb3)
    rw [Int.toNat_natCast] at hgo
    obtain ⟨out, vs, hig, hown, hrws⟩ := hgo
    have hpos : 0 < out.length := by
      obtain ⟨i, l, hi, _⟩ := hig.all 0 (by rw [adjM_len]; omega)
      have := (List.getElem?_eq_some_iff.1 hi).1
      omega
    obtain ⟨gu, cu, rfl, -⟩ := owns_some hown hpos
    have HIG := Lib.hid hig
    have HOW := Lib.hid hown
    have HRW := Lib.hid hrws
    clear hb3 hg hok HX hig hown hrws hpos HB1 HB2 HE HE1
    go_wp2_with (go_at_call 16; refine (num_any _ _).mono ?_; rintro e w' ⟨rfl, rfl⟩)
    rw [make_ints2 m (by omega)]
    go_wp2_with fail
    have hA := AtR.new w3 m (by omega)
    have hbA : Below w3.heap.size w3 (w3.alloc (.cells (madeCells #[.int .i64 0] m) 3)) := (Below.refl _ _).alloc (Nat.le_refl _) _
    have HA := Lib.hid hA
    have HBA := Lib.hid hbA
    clear hA hbA
    generalize w3.alloc _ = W0 at HA HBA ⊢
    go_loopw [9] (fun v wr => ∃ (k : Nat) (L : List Nat), k ≤ m ∧ v = .int .i64 (k : Int) ∧ Below w3.heap.size w3 wr ∧ AtR w3.heap.size m L wr ∧ Hid (∀ x, x < k → at0 L x = 0)) (fun v _ => m - (intOf v).toNat)
    case atStart => exact ⟨0, _, Nat.zero_le _, rfl, HBA.out, HA.out, Lib.hid fun x hx => by omega⟩
    case round =>
      obtain ⟨k, L, hk, rfl, hb, hL, HZ⟩ := hrel
      by_cases hlt : k < m
      · have hkI : (k : Int) < (m : Int) := by omega
        have gw := hL.cell hlt
        have zw := hL.2.frozenAt k
        have h1 := hL.set k 0
        rw [show (((0 : Nat) : Int) - 1) = -1 by decide] at h1
        have H1 := Lib.hid h1
        have HB := Lib.hid (at_below (A := w3.heap.size) (x := k) (v := .int .i64 (-1)) hb (Nat.le_refl _))
        have HZ1 : Hid (∀ x, x < k + 1 → at0 (L.set k 0) x = 0) := Lib.hid fun x hx => by
          rw [at0_put _ _ _ _ (by rw [hL.1]; exact hlt)]
          split
          · rfl
          · exact HZ.out x (by omega)
        clear hb hL h1
        go_wp2_with fail
        generalize wr.setCell _ _ = W1 at H1 HB ⊢
        go_roundw
        case rel => exact ⟨k + 1, _, by omega, by go_num, HB.out, H1.out, HZ1⟩
        case measure => simp [intOf]; omega
      · have HP : Hid (Placed out 0 0 L) := Lib.hid (placed_zeros fun x hx => HZ.out x (by rw [hL.1] at hx; omega))
        have HL := Lib.hid hL
        have HB := Lib.hid hb
        clear hb hL HZ
        go_wp2_with fail
        go_loopw [10, 11, 12] (fun v _ _ wr => ∃ (i : Nat) (L : List Nat), i ≤ out.length ∧ v = .int .i64 (i : Int) ∧ Below w3.heap.size w3 wr ∧ AtR w3.heap.size m L wr ∧ Hid (Placed out i 0 L)) (fun v _ _ _ => out.length - (intOf v).toNat)
        case atStart => exact ⟨0, _, Nat.zero_le _, rfl, HB.out, HL.out, HP⟩
        case round =>
          obtain ⟨i, L2, hi, rfl, hb, hL, HP2⟩ := hrel
          by_cases hlt2 : i < out.length
          · have hiI : (i : Int) < (out.length : Int) := by omega
            obtain ⟨vi, hvi, hri, -⟩ := HRW.out.at hlt2
            have hli : out[i]? = some (ats out i) := by simp [ats, List.getD, List.getElem?_eq_getElem hlt2]
            have hne := (HIG.out.inc i _ hli).2
            obtain ⟨gi, ci, rfl, -⟩ := owns_some hri (List.length_pos_iff.2 hne)
            have hcu := val_cell HOW.out hvi
            have HLI := Lib.hid hli
            have HRI := Lib.hid hri
            have HCU := Lib.hid hcu
            have HB2 := Lib.hid hb
            have HL2 := Lib.hid hL
            have HLO := Lib.hid (owns_max HOW.out)
            clear hvi hri hli hne hcu hb hL
            go_wp2_with fail
            go_loopw [11, 12] (fun v _ wr => ∃ (k : Nat) (L : List Nat), k ≤ (ats out i).length ∧ v = .int .i64 (k : Int) ∧ Below w3.heap.size w3 wr ∧ AtR w3.heap.size m L wr ∧ Hid (Placed out i k L)) (fun v _ _ => (ats out i).length - (intOf v).toNat)
            case atStart => exact ⟨0, _, Nat.zero_le _, rfl, HB2.out, HL2.out, HP2⟩
            case round =>
              obtain ⟨k2, L3, hk2, rfl, hb, hL, HP3⟩ := hrel
              have HB3' := Lib.hid hb
              have HL3 := Lib.hid hL
              have hcu : wr.cell? ⟨gu, i, none⟩ = some (.slice (some ⟨gi, 0, none⟩) (ats out i).length ci) := fx_cell (S := fun _ => False) HCU.out (Fx.of_below hb) id
              by_cases hlt3 : k2 < (ats out i).length
              · have hkI2 : (k2 : Int) < ((ats out i).length : Int) := by omega
                obtain ⟨y, hy⟩ : ∃ y, (ats out i)[k2]? = some y := ⟨_, List.getElem?_eq_getElem hlt3⟩
                have hym : y < m := by
                  have := HIG.out.mem i _ HLI.out y (List.mem_of_getElem? hy)
                  rwa [adjM_len] at this
                have hky := sorted_ge (HIG.out.inc i _ HLI.out).1 k2 y hy
                have hya : at0 (ats out i) k2 = y := by unfold at0; simp [List.getD, hy]
                have hfree := placed_free HIG.out HP3.out HLI.out hy
                have cy : wr.cell? ⟨gi, k2, none⟩ = some (.int .i64 (y : Int)) := by
                  have h := num_cell HRI.out hlt3
                  rw [hya] at h
                  exact fx_cell (S := fun _ => False) h (Fx.of_below hb) id
                have ca : wr.cell? ⟨w3.heap.size, y, none⟩ = some (.int .i64 (-1)) := by
                  have h := hL.cell hym
                  rwa [hfree] at h
                have zw := hL.2.frozenAt y
                have d1 : decide ((y : Int) < 0) = false := decide_eq_false (by omega)
                have d2 : decide ((m : Int) ≤ (y : Int)) = false := decide_eq_false (by omega)
                have hyI : (y : Int) < (m : Int) := by omega
                have hst := placed_step HIG.out HP3.out (by rw [hL.1, adjM_len]) HLI.out hy
                have h1 := hL.set y (i + 1)
                rw [show (((i + 1 : Nat) : Int) - 1) = (i : Int) by omega] at h1
                have H1 := Lib.hid h1
                have HST := Lib.hid hst
                have HB4 := Lib.hid (at_below (A := w3.heap.size) (x := y) (v := .int .i64 (i : Int)) hb (Nat.le_refl _))
                have HYY := Lib.hid hy
                clear hy hya hfree hst h1 hL
                by_cases hk0 : k2 = 0
                · subst hk0
                  clear hb
                  go_wp2_with fail
                  generalize wr.setCell _ _ = W1 at H1 HB4 ⊢
                  go_roundw
                  case rel => exact ⟨0 + 1, _, by omega, by go_num, HB4.out, H1.out, HST⟩
                  case measure => simp [intOf]; omega
                · obtain ⟨k3, rfl⟩ : ∃ k3, k2 = k3 + 1 := ⟨k2 - 1, by omega⟩
                  obtain ⟨y3, hy3⟩ : ∃ y, (ats out i)[k3]? = some y := ⟨_, List.getElem?_eq_getElem (by omega)⟩
                  have hya3 : at0 (ats out i) k3 = y3 := by unfold at0; simp [List.getD, hy3]
                  have cy3 : wr.cell? ⟨gi, k3, none⟩ = some (.int .i64 (y3 : Int)) := by
                    have h := num_cell HRI.out (show k3 < (ats out i).length by omega)
                    rw [hya3] at h
                    exact fx_cell (S := fun _ => False) h (Fx.of_below hb) id
                  have d3 : decide (0 < ((k3 + 1 : Nat) : Int)) = true := decide_eq_true (by omega)
                  have h43 : y3 < y := by
                    obtain ⟨q1, q2⟩ := List.getElem?_eq_some_iff.1 hy3
                    obtain ⟨q3, q4⟩ := List.getElem?_eq_some_iff.1 HYY.out
                    have := (List.pairwise_iff_getElem.1 (HIG.out.inc i _ HLI.out).1) k3 (k3 + 1) q1 q3 (by omega)
                    omega
                  have hkI3 : (k3 : Int) < ((ats out i).length : Int) := by omega
                  clear hy3 hya3 hb hk0
                  go_wp2_with fail
                  generalize wr.setCell _ _ = W1 at H1 HB4 ⊢
                  go_roundw
                  case rel => exact ⟨k3 + 1 + 1, _, by omega, by go_num, HB4.out, H1.out, HST⟩
                  case measure => simp [intOf]; omega
              · have hke : k2 = (ats out i).length := by omega
                have HPN := Lib.hid (placed_next (show Placed out i (ats out i).length L3 by rw [← hke]; exact HP3.out) HLI.out)
                have hlo := HLO.out
                clear hb hL hke
                go_wp2_with fail
                go_roundw
                case rel => exact ⟨i + 1, L3, by omega, by go_num, HB3'.out, HL3.out, HPN⟩
                case measure => simp [intOf]; omega
          · have HPF : Hid (Placed out out.length 0 L2) := Lib.hid (by rw [show out.length = i by omega]; exact HP2.out)
            have HL2 := Lib.hid hL
            have HB2 := Lib.hid hb
            clear hb hL
            go_wp2_with fail
            go_loopw [13] (fun v wr2 => ∃ k : Nat, k ≤ m ∧ v = .int .i64 (k : Int) ∧ Below w3.heap.size w3 wr2 ∧ AtR w3.heap.size m L2 wr2) (fun v _ => m - (intOf v).toNat)
            case atStart => exact ⟨0, Nat.zero_le _, rfl, HB2.out, HL2.out⟩
            case round =>
              obtain ⟨k4, hk4, rfl, hb4, hL4⟩ := hrel
              have HB5 := Lib.hid hb4
              have HL5 := Lib.hid hL4
              by_cases hlt4 : k4 < m
              · have hkI4 : (k4 : Int) < (m : Int) := by omega
                have hc4 := hL4.cell hlt4
                have hall := placed_all HIG.out HPF.out (x := k4) (by rw [adjM_len]; exact hlt4)
                clear hb4 hL4
                go_wp2_with fail
                go_roundw
                case rel => exact ⟨k4 + 1, by omega, by go_num, HB5.out, HL5.out⟩
                case measure => simp [intOf]; omega
              · clear hb4 hL4
                go_wp2_with fail
                go_loopw [14] (fun v wr2 => ∃ k : Nat, k ≤ es.length ∧ v = .int .i64 (k : Int) ∧ Below w3.heap.size w3 wr2 ∧ AtR w3.heap.size m L2 wr2) (fun v _ => es.length - (intOf v).toNat)
                case atStart => exact ⟨0, Nat.zero_le _, rfl, HB5.out, HL5.out⟩
                case round =>
                  obtain ⟨k5, hk5, rfl, hb6, hL6⟩ := hrel
                  have HB6 := Lib.hid hb6
                  have HL6 := Lib.hid hL6
                  by_cases hlt5 : k5 < es.length
                  · have hkI5 : (k5 : Int) < (es.length : Int) := by omega
                    have hx : (es.map (pairM m))[k5]? = some (pairM m es[k5]) := by rw [List.getElem?_map, List.getElem?_eq_getElem hlt5]; rfl
                    have hxe := HX3.out.below hb6
                    obtain ⟨ao2, c2, hq, _, hc⟩ := hxe
                    simp only [Value.slice.injEq] at hq
                    obtain ⟨rfl, -, rfl⟩ := hq
                    obtain ⟨a, rfl, e2, e3, e4⟩ := hc k5 _ hx
                    have hb1 := nodeM_in es[k5].1 m (by omega)
                    have hb2 := nodeM_in es[k5].2 m (by omega)
                    have hmem := List.mem_of_getElem? hx
                    obtain ⟨p, hp⟩ : ∃ p : Nat, nodeM m es[k5].1 = (p : Int) := ⟨_, (Int.toNat_of_nonneg hb1.1).symm⟩
                    obtain ⟨q, hq⟩ : ∃ q : Nat, nodeM m es[k5].2 = (q : Int) := ⟨_, (Int.toNat_of_nonneg hb2.1).symm⟩
                    unfold pairM at e3 e4 hmem
                    rw [hp] at e3 hb1 hmem
                    rw [hq] at e4 hb2 hmem
                    have hpm : p < m := by omega
                    have hqm : q < m := by omega
                    have hed : Ed (adjM m (es.map (pairM m))) p q := (adjM_mem _ (parts_good m (by omega) es) p q).2 hmem
                    have hle := placed_need HIG.out HPF.out (x := p) (y := q) (by rw [adjM_len]; exact hpm) hed
                    have c3 : wr.cell? ⟨(a.add (k5 * 2)).block, (a.add (k5 * 2)).off + 1, none⟩ = some (.int .i64 (q : Int)) := by
                      rw [← add_add1] at e4
                      exact e4
                    have cp := hL6.cell hpm
                    have cq := hL6.cell hqm
                    have hpI : (p : Int) < (m : Int) := by omega
                    have hqI : (q : Int) < (m : Int) := by omega
                    clear hb6 hL6 hx hc hmem hed hp hq hb1 hb2 e2
                    go_wp2_with fail
                    go_region
                    go_wp2_with fail
                    go_roundw
                    case rel => exact ⟨k5 + 1, by omega, by go_num, HB6.out.drew, HL6.out.1, HL6.out.2.drew⟩
                    case measure => simp [intOf]; omega
                  · clear hb6 hL6
                    go_wp2_with fail
                    go_ret
                    exact ⟨rfl, HB3.out.trans (HB6.out.mono HB3.out.size)⟩
  · have h3 : decide ((600 : Int) < (es.length : Int)) = true := decide_eq_true (by omega)
    go_enter Try.func5, Try.ntmps5
    go_wp2_with fail
    refine (knows7_any w).mono ?_
    rintro e w1 ⟨rfl, hb1⟩
    have HB1 := Lib.hid hb1
    clear hb1
    go_wp2_with fail
    go_ret
    exact ⟨rfl, HB1.out⟩
end Go.Proofs.Ytmoebpebahhbeaa
