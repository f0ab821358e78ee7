/- Texts of this proof, joined: RRtT. No condition. -/
import Derived.Test.YtdiffpiapdghoaaGreatDoorRa26
import Derived.Test.YtdiffpiapdghoaaGreatDoorRa27
/-
  Layer 3, the document's side: types and patterns that may be.
-/
namespace Go.Proofs.YtdiffpiapdghoaaGreatDoor
set_option linter.unusedVariables false
open Go.ChangeShapes Go.WideShapes Go.ChangeAt Go.RowKit

/-- a con's text is none of the lists' -/
theorem con_not_list {s : ByteArray} (h : conB s = true) : s.toList ≠ [91, 93] ∧ s.toList ≠ [58] := by
  have key : ∀ t : ByteArray, cls (atB t 0) ≠ 4 → s.toList ≠ t.toList := by
    intro t ht he
    unfold conB at h
    obtain ⟨_, _, h2, _⟩ := of_decide_eq_true h
    rw [ByteArray.toList_eq, ByteArray.toList_eq] at he
    apply ht
    unfold atB at h2 ⊢
    rw [← he]
    exact h2
  exact ⟨by rw [← show (⟨#[91, 93]⟩ : ByteArray).toList = [91, 93] by rw [ByteArray.toList_eq]]; exact key _ (by decide), by rw [← show (⟨#[58]⟩ : ByteArray).toList = [58] by rw [ByteArray.toList_eq]]; exact key _ (by decide)⟩
theorem paHd_lit {k x m : Int} {n : ByteArray} (h : (k == 3) = true ∨ (k == 4) = true ∨ (k == 5) = true) : paHd k n x m = (litB k n x && m == 0) := by
  rcases h with h | h | h
  · obtain rfl := eq_of_beq h
    show (n.toList == [] && (decide (0 ≤ x) && m == 0)) = ((n.toList == [] && decide (0 ≤ x)) && m == 0)
    rw [Bool.and_assoc]
  · obtain rfl := eq_of_beq h
    show (n.toList == [] && (byteB x && m == 0)) = ((n.toList == [] && byteB x) && m == 0)
    rw [Bool.and_assoc]
  · obtain rfl := eq_of_beq h
    show (decide ((n.size : Int) ≤ 256) && (x == 0 && m == 0)) = ((decide ((n.size : Int) ≤ 256) && x == 0) && m == 0)
    rw [Bool.and_assoc]
theorem und_ty3 : ∃ d, Tryz.prog.underlying 24 = some d ∧ d.isRow = true := ⟨_, Tryz.underlying24, by kernel_rfl⟩
theorem und_pa3 : ∃ d, Tryz.prog.underlying 27 = some d ∧ d.isRow = true := ⟨_, Tryz.underlying27, by kernel_rfl⟩
theorem und_ex3 : ∃ d, Tryz.prog.underlying 32 = some d ∧ d.isRow = true := ⟨_, Tryz.underlying32, by kernel_rfl⟩
theorem info_ty3 : (Tryz.prog.info? 24).map (·.size) = some 4 := by kernel_rfl
theorem info_pa3 : (Tryz.prog.info? 27).map (·.size) = some 5 := by kernel_rfl
theorem info_ex3 : (Tryz.prog.info? 32).map (·.size) = some 8 := by kernel_rfl
/-- whether the document says that it may be, so deep -/
def RrT (left : Int) (t : Ty) (b : Bool) : Prop := ∀ (P : Nat → Prop) (vs : List Value) (w : World), IsVs w P t.row vs →
  Calls Tryz.prog 35 #[.agg vs.toArray, .int .i64 left] w fun e w' => e = .returned (.bool b) ∧ Below w.heap.size w w'
set_option maxHeartbeats 1600000 in
theorem rrT_zero (left : Int) (h : left < 1) (t : Ty) : RrT left t false := by
  intro P vs w hv
  obtain ⟨tk, tp, tn, tl⟩ := t
  obtain ⟨a, b, rfl, _⟩ := ty_vs hv
  clear hv
  go_enter Tryz.func35, Tryz.ntmps35
  go_wp2
  go_ret
  exact ⟨rfl, bl_alloc _ (Below.refl _ _)⟩
theorem tyHd_wide {k : Int} {n : ByteArray} {m : Int} (h : 16 < m) : tyHd k n m = false := by
  have a0 : (m == 0) = false := by rw [beq_eq_false_iff_ne]; omega
  have a1 : (m == 1) = false := by rw [beq_eq_false_iff_ne]; omega
  have a2 : (m == 2) = false := by rw [beq_eq_false_iff_ne]; omega
  have a3 : decide (m ≤ 16) = false := decide_eq_false (by omega)
  unfold tyHd
  simp only [a0, a1, a2, a3, Bool.and_false, Bool.or_false]
  repeat' (first | rfl | (rw [Bool.cond_self]))
  all_goals simp
set_option maxHeartbeats 6400000 in
set_option maxRecDepth 100000 in
theorem rrT_succ (k p : Int) (n : ByteArray) (l : List Ty) (left : Int) (h1 : 1 ≤ left) (h2 : left ≤ 400) (ok : Ty → Bool) (hall : ∀ t : Ty, RrT (left - 1) t (ok t)) : RrT left (.mk k p n l) (tyHd k n l.length && l.all ok) := by
  intro P vs w hv
  obtain ⟨a, b, rfl, hn, hl⟩ := ty_vs hv
  obtain ⟨o1, ho1⟩ : ∃ o : Obj, o = .cells #[.int .i64 k, .int .i64 p, .string n, .slice a l.length b] 24 := ⟨_, rfl⟩
  have hb1 := bl_alloc o1 (Below.refl w.heap.size w)
  have g1 := heap_alloc_new w o1
  have k0 : ¬ left < 1 := by omega
  by_cases h16 : (16 : Int) < l.length
  · rw [tyHd_wide h16, Bool.false_and]
    subst ho1
    have c3 : (w.alloc (.cells #[.int .i64 k, .int .i64 p, .string n, .slice a l.length b] 24)).cell? ⟨w.heap.size, 3, none⟩ = some (.slice a l.length b) := by rw [Lib.cell_of_heap g1]; rfl
    clear hv hl hall g1
    go_enter Tryz.func35, Tryz.ntmps35
    go_wp2
    go_ret
    exact ⟨rfl, hb1⟩
  have h16' : (l.length : Int) ≤ 16 := by omega
  have HL := Lib.hid (hl.on hb1)
  have HA := Lib.hid hall
  have HB := Lib.hid hb1
  have hlm : (l.length : Int) ≤ 9223372036854775807 := by omega
  clear hv hl hall
  go_enter Tryz.func35, Tryz.ntmps35
  go_wp2
  rw [← ho1]
  generalize w.alloc o1 = W at hb1 g1 HL HB ⊢
  subst ho1
  have G1 := Lib.hid g1
  clear g1 hb1
  go_loopw [5] (fun iv wr => ∃ j : Nat, j ≤ l.length ∧ iv = .int .i64 j ∧ Hid (∀ (i : Nat) (t : Ty), i < j → l[i]? = some t → ok t = true) ∧ Below W.heap.size W wr) (fun iv _ => l.length - (intOf iv).toNat)
  case atStart => exact ⟨0, Nat.zero_le _, rfl, Lib.hid (fun i t hi => by omega), Below.refl _ _⟩
  case round =>
    obtain ⟨i, hi, rfl, H, hbw⟩ := hrel
    have gr := (hbw.block _ (heap_lt G1.out)).trans G1.out
    have hbz := HB.out.trans (hbw.mono HB.out.size)
    by_cases hlt : i < l.length
    · have i1 : (i : Int) < l.length := by omega
      have e3 : wr.cell? ⟨w.heap.size, 3, none⟩ = some (.slice a l.length b) := by rw [Lib.cell_of_heap gr]; rfl
      obtain ⟨x, hx⟩ : ∃ x, l[i]? = some x := ⟨l[i], List.getElem?_eq_getElem hlt⟩
      obtain ⟨A1, rfl, _, hrow⟩ := HL.out.at hx
      obtain ⟨xs, hv1, hv2⟩ := row_load (hrow.on hbw).out 24 und_ty3 (by rw [Ty.row_len]; exact info_ty3)
      have HV1 := Lib.hid hv1
      have HV2 := Lib.hid (hv2 wr (Below.refl _ _))
      have HX := Lib.hid hx
      have HBZ := Lib.hid hbz
      have HBW := Lib.hid hbw
      clear gr hrow hx hv1 hv2 hbz hbw
      go_wp2_with (refine wpList_load_any rfl 24 _ rfl (A1.add (i * 4)) rfl xs.toArray HV2.out ?_)
      refine (HA.out x P xs wr HV1.out).mono ?_
      rintro e w3 ⟨rfl, hb3⟩
      have hbw3 := HBW.out.trans (hb3.mono HBW.out.size)
      have hbz3 := HBZ.out.trans (hb3.mono HBZ.out.size)
      clear hb3
      cases hr : ok x with
      | true =>
        have HN : Hid (∀ (j : Nat) (t : Ty), j < i + 1 → l[j]? = some t → ok t = true) := Lib.hid (fun j t hj h1 => by
          by_cases hji : j = i
          · subst hji
            rw [HX.out] at h1
            cases h1; exact hr
          · exact H.out j t (by omega) h1)
        clear hr hbz3
        go_wp2
        go_roundw
        case rel => exact ⟨i + 1, by omega, by go_num, HN, hbw3⟩
        case measure => simp [intOf]; omega
      | false =>
        have HF := Lib.hid (all_not HX.out hr)
        clear hr hbw3
        go_wp2
        go_ret
        exact ⟨by rw [HF.out, Bool.and_false]; rfl, hbz3⟩
    · have i1 : ¬ (i : Int) < l.length := by omega
      have HF : Hid (l.all ok = true) := Lib.hid (all_step fun j t h1 => H.out j t (by have := (List.getElem?_eq_some_iff.1 h1).1; omega) h1)
      have e0 : wr.cell? ⟨w.heap.size, 0, none⟩ = some (.int .i64 k) := by rw [Lib.cell_of_heap gr]; rfl
      have e2 : wr.cell? ⟨w.heap.size, 2, none⟩ = some (.string n) := by rw [Lib.cell_of_heap gr]; rfl
      have e3 : wr.cell? ⟨w.heap.size, 3, none⟩ = some (.slice a l.length b) := by rw [Lib.cell_of_heap gr]; rfl
      clear gr
      have hacc := Below.refl wr.heap.size wr
      go_wp2_with (first
        | (go_at_call 58; refine (rdword_any n hn _).mono ?_; rintro e w' ⟨rfl, hb⟩; replace hacc := hacc.trans (hb.mono hacc.size); replace e2 := bel_cell hb e2; replace e3 := bel_cell hb e3)
        | (go_at_call 59; refine (high_any n hn _).mono ?_; rintro e w' ⟨rfl, hb⟩; replace hacc := hacc.trans (hb.mono hacc.size); replace e2 := bel_cell hb e2; replace e3 := bel_cell hb e3))
      all_goals (go_ret; refine ⟨ret_bool ?_, hbz.trans (hacc.mono hbz.size)⟩)
      all_goals (rw [HF.out, Bool.and_true]; clear HF hacc)
      all_goals first | (unfold tyHd; (try (unfold litB)); (try (unfold byteB)); first | (simp [*]; done) | (simp_all; done) | (simp [*]; omega) | (simp_all; omega))
theorem rrT_all : ∀ (left : Nat) (t : Ty), left ≤ 400 → RrT (left : Int) t (t.rt left)
  | 0, t, _ => by
    have e : t.rt 0 = false := by cases t; unfold Ty.rt; rfl
    rw [e]
    exact rrT_zero _ (by omega) t
  | left + 1, .mk k p n l, h => by
    have e : (Ty.mk k p n l).rt (left + 1) = (tyHd k n l.length && l.all fun t => t.rt left) := by
      rw [Ty.rt, Ty.rts_all, decide_eq_true (by omega : 1 ≤ left + 1), Bool.true_and, Nat.add_sub_cancel]
    rw [e]
    refine rrT_succ k p n l _ (by omega) (by omega) (fun t => t.rt left) fun t => ?_
    rw [show ((left + 1 : Nat) : Int) - 1 = (left : Int) by omega]
    exact rrT_all left t (by omega)
set_option maxHeartbeats 800000 in
set_option maxRecDepth 100000 in
theorem rdT_any (t : Ty) (P : Nat → Prop) (vs : List Value) (w : World) (hv : IsVs w P t.row vs) :
    Calls Tryz.prog 11 #[.agg vs.toArray] w fun e w' => e = .returned (.bool (t.rt 400)) ∧ Below w.heap.size w w' := by
  have HK := Lib.hid (rrT_all 400 t (Nat.le_refl _))
  obtain ⟨o1, ho1⟩ : ∃ o : Obj, o = .cells vs.toArray 24 := ⟨_, rfl⟩
  have hb1 := bl_alloc o1 (Below.refl w.heap.size w)
  have hv1 := IsVs.on hb1 _ _ hv
  have g1 := heap_alloc_new w o1
  obtain ⟨tk, tp, tn, tl⟩ := t
  obtain ⟨a, b, rfl, _⟩ := ty_vs hv
  clear hv
  go_enter Tryz.func11, Tryz.ntmps11
  go_upto_region 1 with fail
  rw [← ho1]
  generalize w.alloc o1 = W at hb1 hv1 g1 ⊢
  subst ho1
  have HH := Lib.hid (HK.out P _ W hv1)
  have c0 : W.cell? ⟨w.heap.size, 0, none⟩ = some (.int .i64 tk) := by rw [Lib.cell_of_heap g1]; rfl
  have c1 : W.cell? ⟨w.heap.size, 1, none⟩ = some (.int .i64 tp) := by rw [Lib.cell_of_heap g1]; rfl
  have c2 : W.cell? ⟨w.heap.size, 2, none⟩ = some (.string tn) := by rw [Lib.cell_of_heap g1]; rfl
  have c3 : W.cell? ⟨w.heap.size, 3, none⟩ = some (.slice a tl.length b) := by rw [Lib.cell_of_heap g1]; rfl
  clear g1 hv1
  go_wp2_with fail
  refine HH.out.mono ?_
  rintro e w' ⟨rfl, hb2⟩
  go_wp2
  go_ret
  exact ⟨rfl, hb1.trans (hb2.mono hb1.size)⟩
/-- whether the document says that it may be, so deep -/
def RrP (left : Int) (t : Pa) (b : Bool) : Prop := ∀ (P : Nat → Prop) (vs : List Value) (w : World), IsVs w P t.row vs →
  Calls Tryz.prog 38 #[.agg vs.toArray, .int .i64 left] w fun e w' => e = .returned (.bool b) ∧ Below w.heap.size w w'
set_option maxHeartbeats 1600000 in
theorem rrP_zero (left : Int) (h : left < 1) (t : Pa) : RrP left t false := by
  intro P vs w hv
  obtain ⟨tk, tp, tn, tm, tl⟩ := t
  obtain ⟨a, b, rfl, _⟩ := pa_vs hv
  clear hv
  go_enter Tryz.func38, Tryz.ntmps38
  go_wp2
  go_ret
  exact ⟨rfl, bl_alloc _ (Below.refl _ _)⟩
theorem paHd_wide {k x : Int} {n : ByteArray} {m : Int} (h : 16 < m) : paHd k n x m = false := by
  have a0 : (m == 0) = false := by rw [beq_eq_false_iff_ne]; omega
  have a1 : (m == 1) = false := by rw [beq_eq_false_iff_ne]; omega
  have a2 : (m == 2) = false := by rw [beq_eq_false_iff_ne]; omega
  have a3 : decide (m ≤ 16) = false := decide_eq_false (by omega)
  unfold paHd partsB anyConB
  simp only [a0, a2, a3, Bool.and_false]
  repeat' (first | rfl | (rw [Bool.cond_self]))
  all_goals simp
set_option maxHeartbeats 6400000 in
set_option maxRecDepth 100000 in
theorem rrP_succ (k p : Int) (n : ByteArray) (m : Int) (l : List Pa) (left : Int) (h1 : 1 ≤ left) (h2 : left ≤ 400) (ok : Pa → Bool) (hall : ∀ t : Pa, RrP (left - 1) t (ok t)) : RrP left (.mk k p n m l) (paHd k n m l.length && l.all ok) := by
  intro P vs w hv
  obtain ⟨a, b, rfl, hn, hl⟩ := pa_vs hv
  obtain ⟨o1, ho1⟩ : ∃ o : Obj, o = .cells #[.int .i64 k, .int .i64 p, .string n, .int .i64 m, .slice a l.length b] 27 := ⟨_, rfl⟩
  have hb1 := bl_alloc o1 (Below.refl w.heap.size w)
  have g1 := heap_alloc_new w o1
  have k0 : ¬ left < 1 := by omega
  by_cases h16 : (16 : Int) < l.length
  · rw [paHd_wide h16, Bool.false_and]
    subst ho1
    have c3 : (w.alloc (.cells #[.int .i64 k, .int .i64 p, .string n, .int .i64 m, .slice a l.length b] 27)).cell? ⟨w.heap.size, 4, none⟩ = some (.slice a l.length b) := by rw [Lib.cell_of_heap g1]; rfl
    clear hv hl hall g1
    go_enter Tryz.func38, Tryz.ntmps38
    go_wp2
    go_ret
    exact ⟨rfl, hb1⟩
  have h16' : (l.length : Int) ≤ 16 := by omega
  have HL := Lib.hid (hl.on hb1)
  have HA := Lib.hid hall
  have HB := Lib.hid hb1
  have hlm : (l.length : Int) ≤ 9223372036854775807 := by omega
  clear hv hl hall
  go_enter Tryz.func38, Tryz.ntmps38
  go_wp2
  rw [← ho1]
  generalize w.alloc o1 = W at hb1 g1 HL HB ⊢
  subst ho1
  have G1 := Lib.hid g1
  clear g1 hb1
  go_loopw [5] (fun iv wr => ∃ j : Nat, j ≤ l.length ∧ iv = .int .i64 j ∧ Hid (∀ (i : Nat) (t : Pa), i < j → l[i]? = some t → ok t = true) ∧ Below W.heap.size W wr) (fun iv _ => l.length - (intOf iv).toNat)
  case atStart => exact ⟨0, Nat.zero_le _, rfl, Lib.hid (fun i t hi => by omega), Below.refl _ _⟩
  case round =>
    obtain ⟨i, hi, rfl, H, hbw⟩ := hrel
    have gr := (hbw.block _ (heap_lt G1.out)).trans G1.out
    have hbz := HB.out.trans (hbw.mono HB.out.size)
    by_cases hlt : i < l.length
    · have i1 : (i : Int) < l.length := by omega
      have e3 : wr.cell? ⟨w.heap.size, 4, none⟩ = some (.slice a l.length b) := by rw [Lib.cell_of_heap gr]; rfl
      obtain ⟨x, hx⟩ : ∃ x, l[i]? = some x := ⟨l[i], List.getElem?_eq_getElem hlt⟩
      obtain ⟨A1, rfl, _, hrow⟩ := HL.out.at hx
      obtain ⟨xs, hv1, hv2⟩ := row_load (hrow.on hbw).out 27 und_pa3 (by rw [Pa.row_len]; exact info_pa3)
      have HV1 := Lib.hid hv1
      have HV2 := Lib.hid (hv2 wr (Below.refl _ _))
      have HX := Lib.hid hx
      have HBZ := Lib.hid hbz
      have HBW := Lib.hid hbw
      clear gr hrow hx hv1 hv2 hbz hbw
      go_wp2_with (refine wpList_load_any rfl 27 _ rfl (A1.add (i * 5)) rfl xs.toArray HV2.out ?_)
      refine (HA.out x P xs wr HV1.out).mono ?_
      rintro e w3 ⟨rfl, hb3⟩
      have hbw3 := HBW.out.trans (hb3.mono HBW.out.size)
      have hbz3 := HBZ.out.trans (hb3.mono HBZ.out.size)
      clear hb3
      cases hr : ok x with
      | true =>
        have HN : Hid (∀ (j : Nat) (t : Pa), j < i + 1 → l[j]? = some t → ok t = true) := Lib.hid (fun j t hj h1 => by
          by_cases hji : j = i
          · subst hji
            rw [HX.out] at h1
            cases h1; exact hr
          · exact H.out j t (by omega) h1)
        clear hr hbz3
        go_wp2
        go_roundw
        case rel => exact ⟨i + 1, by omega, by go_num, HN, hbw3⟩
        case measure => simp [intOf]; omega
      | false =>
        have HF := Lib.hid (all_not HX.out hr)
        clear hr hbw3
        go_wp2
        go_ret
        exact ⟨by rw [HF.out, Bool.and_false]; rfl, hbz3⟩
    · have i1 : ¬ (i : Int) < l.length := by omega
      have HF : Hid (l.all ok = true) := Lib.hid (all_step fun j t h1 => H.out j t (by have := (List.getElem?_eq_some_iff.1 h1).1; omega) h1)
      have e0 : wr.cell? ⟨w.heap.size, 0, none⟩ = some (.int .i64 k) := by rw [Lib.cell_of_heap gr]; rfl
      have e2 : wr.cell? ⟨w.heap.size, 2, none⟩ = some (.string n) := by rw [Lib.cell_of_heap gr]; rfl
      have e3 : wr.cell? ⟨w.heap.size, 3, none⟩ = some (.int .i64 m) := by rw [Lib.cell_of_heap gr]; rfl
      have e4 : wr.cell? ⟨w.heap.size, 4, none⟩ = some (.slice a l.length b) := by rw [Lib.cell_of_heap gr]; rfl
      clear gr
      have hacc := Below.refl wr.heap.size wr
      go_wp2_with (first
        | (go_at_call 58; refine (rdword_any n hn _).mono ?_; rintro e w' ⟨rfl, hb⟩; replace hacc := hacc.trans (hb.mono hacc.size); replace e2 := bel_cell hb e2; replace e3 := bel_cell hb e3)
        | (go_at_call 59; refine (high_any n hn _).mono ?_; rintro e w' ⟨rfl, hb⟩; replace hacc := hacc.trans (hb.mono hacc.size); replace e2 := bel_cell hb e2; replace e3 := bel_cell hb e3)
        | (go_at_call 63; refine (lit_any _ _ n hn _).mono ?_; rintro e w' ⟨rfl, rfl⟩))
      all_goals (go_ret; refine ⟨ret_bool ?_, hbz.trans (hacc.mono hbz.size)⟩)
      all_goals (rw [HF.out, Bool.and_true]; clear HF hacc)
      all_goals first | (refine Eq.trans ?_ (paHd_lit ?_).symm; rotate_left; (first | exact .inl (by assumption) | exact .inr (.inl (by assumption)) | exact .inr (.inr (by assumption))); simp [*]; done) | (refine Eq.trans ?_ (paHd_lit ?_).symm; rotate_left; (first | exact .inl (by assumption) | exact .inr (.inl (by assumption)) | exact .inr (.inr (by assumption))); simp_all; done) | (unfold paHd partsB anyConB; (try (unfold litB)); (try (unfold byteB)); first | (simp [*]; done) | (simp_all; done) | (simp [*]; omega) | (simp_all; omega) | (obtain ⟨y1, y2⟩ := con_not_list (s := n) (by assumption); simp_all; done))
theorem rrP_all : ∀ (left : Nat) (t : Pa), left ≤ 400 → RrP (left : Int) t (t.rt left)
  | 0, t, _ => by
    have e : t.rt 0 = false := by cases t; unfold Pa.rt; rfl
    rw [e]
    exact rrP_zero _ (by omega) t
  | left + 1, .mk k p n m l, h => by
    have e : (Pa.mk k p n m l).rt (left + 1) = (paHd k n m l.length && l.all fun t => t.rt left) := by
      rw [Pa.rt, Pa.rts_all, decide_eq_true (by omega : 1 ≤ left + 1), Bool.true_and, Nat.add_sub_cancel]
    rw [e]
    refine rrP_succ k p n m l _ (by omega) (by omega) (fun t => t.rt left) fun t => ?_
    rw [show ((left + 1 : Nat) : Int) - 1 = (left : Int) by omega]
    exact rrP_all left t (by omega)
set_option maxHeartbeats 800000 in
set_option maxRecDepth 100000 in
theorem rdP_any (t : Pa) (P : Nat → Prop) (vs : List Value) (w : World) (hv : IsVs w P t.row vs) :
    Calls Tryz.prog 14 #[.agg vs.toArray] w fun e w' => e = .returned (.bool (t.rt 400)) ∧ Below w.heap.size w w' := by
  have HK := Lib.hid (rrP_all 400 t (Nat.le_refl _))
  obtain ⟨o1, ho1⟩ : ∃ o : Obj, o = .cells vs.toArray 27 := ⟨_, rfl⟩
  have hb1 := bl_alloc o1 (Below.refl w.heap.size w)
  have hv1 := IsVs.on hb1 _ _ hv
  have g1 := heap_alloc_new w o1
  obtain ⟨tk, tp, tn, tm, tl⟩ := t
  obtain ⟨a, b, rfl, _⟩ := pa_vs hv
  clear hv
  go_enter Tryz.func14, Tryz.ntmps14
  go_upto_region 1 with fail
  rw [← ho1]
  generalize w.alloc o1 = W at hb1 hv1 g1 ⊢
  subst ho1
  have HH := Lib.hid (HK.out P _ W hv1)
  have c0 : W.cell? ⟨w.heap.size, 0, none⟩ = some (.int .i64 tk) := by rw [Lib.cell_of_heap g1]; rfl
  have c1 : W.cell? ⟨w.heap.size, 1, none⟩ = some (.int .i64 tp) := by rw [Lib.cell_of_heap g1]; rfl
  have c2 : W.cell? ⟨w.heap.size, 2, none⟩ = some (.string tn) := by rw [Lib.cell_of_heap g1]; rfl
  have c3 : W.cell? ⟨w.heap.size, 3, none⟩ = some (.int .i64 tm) := by rw [Lib.cell_of_heap g1]; rfl
  have c4 : W.cell? ⟨w.heap.size, 4, none⟩ = some (.slice a tl.length b) := by rw [Lib.cell_of_heap g1]; rfl
  clear g1 hv1
  go_wp2_with fail
  refine HH.out.mono ?_
  rintro e w' ⟨rfl, hb2⟩
  go_wp2
  go_ret
  exact ⟨rfl, hb1.trans (hb2.mono hb1.size)⟩
end Go.Proofs.YtdiffpiapdghoaaGreatDoor
