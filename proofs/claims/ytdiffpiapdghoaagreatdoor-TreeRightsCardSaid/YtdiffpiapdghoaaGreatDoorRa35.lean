/- Texts of this proof, joined: RRtE, RRtX. No condition. -/
import Derived.Test.YtdiffpiapdghoaaGreatDoorRa28
import Derived.Test.YtdiffpiapdghoaaGreatDoorRa34
/-
  Layer 3, the document's side: an expression that may be, given its parts.
-/
namespace Go.Proofs.YtdiffpiapdghoaaGreatDoor
set_option linter.unusedVariables false
open Go.ChangeShapes Go.WideShapes Go.ChangeAt Go.RowKit

/-- whether the document says that an expression may be, so deep -/
def RrE (left : Int) (t : Ex) (b : Bool) : Prop := ∀ (P : Nat → Prop) (vs : List Value) (w : World), IsVs w P t.row vs →
  Calls Tryz.prog 40 #[.agg vs.toArray, .int .i64 left] w fun e w' => e = .returned (.bool b) ∧ Below w.heap.size w w'
/-- that its parts may be -/
def RrX (left : Int) (t : Ex) (b : Bool) : Prop := ∀ (P : Nat → Prop) (vs : List Value) (w : World), IsVs w P t.row vs →
  Calls Tryz.prog 70 #[.agg vs.toArray, .int .i64 left] w fun e w' => e = .returned (.bool b) ∧ Below w.heap.size w w'
set_option maxHeartbeats 1600000 in
set_option maxRecDepth 100000 in
theorem rrE_zero (left : Int) (h : left < 1) (t : Ex) : RrE left t false := by
  intro P vs w hv
  obtain ⟨xk, xp, xn, xm, xl, xps, xal, xds⟩ := t
  obtain ⟨_, a4, a5, a6, a7, b4, b5, b6, b7, rfl, _⟩ := ex_vs hv
  clear hv
  go_enter Tryz.func40, Tryz.ntmps40
  go_wp2
  go_ret
  exact ⟨rfl, bl_alloc _ (Below.refl _ _)⟩
theorem exHd_lit {k x a p q d : Int} {n : ByteArray} (h : (k == 3) = true ∨ (k == 4) = true ∨ (k == 5) = true) : exHd k n x a p q d = (litB k n x && (a == 0 && (p == 0 && (q == 0 && d == 0)))) := by
  rcases h with h | h | h
  · obtain rfl := eq_of_beq h
    show (n.toList == [] && (decide (0 ≤ x) && (a == 0 && (p == 0 && (q == 0 && d == 0))))) = ((n.toList == [] && decide (0 ≤ x)) && (a == 0 && (p == 0 && (q == 0 && d == 0))))
    rw [Bool.and_assoc]
  · obtain rfl := eq_of_beq h
    show (n.toList == [] && (byteB x && (a == 0 && (p == 0 && (q == 0 && d == 0))))) = ((n.toList == [] && byteB x) && (a == 0 && (p == 0 && (q == 0 && d == 0))))
    rw [Bool.and_assoc]
  · obtain rfl := eq_of_beq h
    show (decide ((n.size : Int) ≤ 256) && (x == 0 && (a == 0 && (p == 0 && (q == 0 && d == 0))))) = ((decide ((n.size : Int) ≤ 256) && x == 0) && (a == 0 && (p == 0 && (q == 0 && d == 0))))
    rw [Bool.and_assoc]
theorem sum4 (a p q d : Nat) : (((a : Int) + ((p : Int) + q + d)) == 0) = (((a : Int) == 0) && (((p : Int) == 0) && (((q : Int) == 0) && ((d : Int) == 0)))) := by
  rw [Bool.eq_iff_iff]
  simp only [Bool.and_eq_true, beq_iff_eq]
  omega
theorem sum3 (p q d : Nat) : (((p : Int) + q + d) == 0) = (((p : Int) == 0) && (((q : Int) == 0) && ((d : Int) == 0))) := by
  rw [Bool.eq_iff_iff]
  simp only [Bool.and_eq_true, beq_iff_eq]
  omega
theorem sum2 (q d : Nat) : (((q : Int) + d) == 0) = (((q : Int) == 0) && ((d : Int) == 0)) := by
  rw [Bool.eq_iff_iff]
  simp only [Bool.and_eq_true, beq_iff_eq]
  omega
set_option maxHeartbeats 16000000 in
set_option maxRecDepth 100000 in
theorem rrE_succ (k p m : Int) (n : ByteArray) (l : List Ex) (ps : List Pa) (al : List Al) (ds : List De) (left : Int) (h1 : 1 ≤ left) (h2 : left ≤ 400) (s4 : l.length ≤ 1000000) (s5 : ps.length ≤ 1000000) (s6 : al.length ≤ 1000000) (s7 : ds.length ≤ 1000000) (pb : Bool) (hparts : RrX left (.mk k p n m l ps al ds) pb) :
    RrE left (.mk k p n m l ps al ds) (exHd k n m l.length ps.length al.length ds.length && pb) := by
  intro P vs w hv
  obtain ⟨hn, a4, a5, a6, a7, b4, b5, b6, b7, rfl, _⟩ := ex_vs hv
  obtain ⟨o1, ho1⟩ : ∃ o : Obj, o = .cells #[.int .i64 k, .int .i64 p, .string n, .int .i64 m, .slice a4 l.length b4, .slice a5 ps.length b5, .slice a6 al.length b6, .slice a7 ds.length b7] 32 := ⟨_, rfl⟩
  have hb1 := bl_alloc o1 (Below.refl w.heap.size w)
  have g1 := heap_alloc_new w o1
  have k0 : ¬ left < 1 := by omega
  have HV := Lib.hid (IsVs.on hb1 _ _ hv)
  have HX := Lib.hid hparts
  clear hv hparts
  go_enter Tryz.func40, Tryz.ntmps40
  go_upto_region 1 with fail
  rw [← ho1]
  generalize w.alloc o1 = W at hb1 g1 HV ⊢
  subst ho1
  have c0 : W.cell? ⟨w.heap.size, 0, none⟩ = some (.int .i64 k) := by rw [Lib.cell_of_heap g1]; rfl
  have c1 : W.cell? ⟨w.heap.size, 1, none⟩ = some (.int .i64 p) := by rw [Lib.cell_of_heap g1]; rfl
  have c2 : W.cell? ⟨w.heap.size, 2, none⟩ = some (.string n) := by rw [Lib.cell_of_heap g1]; rfl
  have c3 : W.cell? ⟨w.heap.size, 3, none⟩ = some (.int .i64 m) := by rw [Lib.cell_of_heap g1]; rfl
  have c4 : W.cell? ⟨w.heap.size, 4, none⟩ = some (.slice a4 l.length b4) := by rw [Lib.cell_of_heap g1]; rfl
  have c5 : W.cell? ⟨w.heap.size, 5, none⟩ = some (.slice a5 ps.length b5) := by rw [Lib.cell_of_heap g1]; rfl
  have c6 : W.cell? ⟨w.heap.size, 6, none⟩ = some (.slice a6 al.length b6) := by rw [Lib.cell_of_heap g1]; rfl
  have c7 : W.cell? ⟨w.heap.size, 7, none⟩ = some (.slice a7 ds.length b7) := by rw [Lib.cell_of_heap g1]; rfl
  have HB := Lib.hid hb1
  clear g1 hb1
  go_wp2_with fail
  refine (HX.out P _ W HV.out).mono ?_
  rintro e w1 ⟨rfl, hb2⟩
  have e0 := bel_cell hb2 c0
  have e2 := bel_cell hb2 c2
  have e3 := bel_cell hb2 c3
  have e4 := bel_cell hb2 c4
  have e5 := bel_cell hb2 c5
  have e6 := bel_cell hb2 c6
  have e7 := bel_cell hb2 c7
  have hbz := HB.out.trans (hb2.mono HB.out.size)
  clear c0 c1 c2 c3 c4 c5 c6 c7 hb2
  cases hpb : pb with
  | false =>
    have HP := Lib.hid hpb
    clear hpb
    go_wp2
    go_ret
    exact ⟨by rw [HP.out, Bool.and_false]; rfl, hbz⟩
  | true =>
    have HP := Lib.hid hpb
    clear hpb
    obtain ⟨la, hla⟩ : ∃ x : Int, x = l.length := ⟨_, rfl⟩
    obtain ⟨lp, hlp⟩ : ∃ x : Int, x = ps.length := ⟨_, rfl⟩
    obtain ⟨lq, hlq⟩ : ∃ x : Int, x = al.length := ⟨_, rfl⟩
    obtain ⟨ld, hld⟩ : ∃ x : Int, x = ds.length := ⟨_, rfl⟩
    have hacc := Below.refl w1.heap.size w1
    go_wp2_with (first
      | (go_at_call 58; refine (rdword_any n hn _).mono ?_; rintro e w' ⟨rfl, hb⟩; replace hacc := hacc.trans (hb.mono hacc.size); replace e2 := bel_cell hb e2; replace e3 := bel_cell hb e3; replace e4 := bel_cell hb e4; replace e5 := bel_cell hb e5; replace e6 := bel_cell hb e6; replace e7 := bel_cell hb e7)
      | (go_at_call 71; refine (op_any n _).mono ?_; rintro e w' ⟨rfl, hb⟩; replace hacc := hacc.trans (hb.mono hacc.size); replace e2 := bel_cell hb e2; replace e3 := bel_cell hb e3; replace e4 := bel_cell hb e4; replace e5 := bel_cell hb e5; replace e6 := bel_cell hb e6; replace e7 := bel_cell hb e7)
      | (go_at_call 72; refine (con_any n hn _).mono ?_; rintro e w' ⟨rfl, hb⟩; replace hacc := hacc.trans (hb.mono hacc.size); replace e2 := bel_cell hb e2; replace e3 := bel_cell hb e3; replace e4 := bel_cell hb e4; replace e5 := bel_cell hb e5; replace e6 := bel_cell hb e6; replace e7 := bel_cell hb e7)
      | (go_at_call 63; refine (lit_any _ _ n hn _).mono ?_; rintro e w' ⟨rfl, rfl⟩))
    all_goals (go_ret; refine ⟨ret_bool ?_, hbz.trans (hacc.mono hbz.size)⟩)
    all_goals (rw [HP.out, Bool.and_true]; clear HP hacc hla hlp hlq hld)
    all_goals (first | rw [sum4] | rw [sum3] | rw [sum2] | skip)
    all_goals first
      | (refine Eq.trans ?_ (exHd_lit ?_).symm; rotate_left; (first | exact .inl (by assumption) | exact .inr (.inl (by assumption)) | exact .inr (.inr (by assumption))); simp [*]; done)
      | (refine Eq.trans ?_ (exHd_lit ?_).symm; rotate_left; (first | exact .inl (by assumption) | exact .inr (.inl (by assumption)) | exact .inr (.inr (by assumption))); simp [*]; omega)
      | (refine Eq.trans ?_ (exHd_lit ?_).symm; rotate_left; (first | exact .inl (by assumption) | exact .inr (.inl (by assumption)) | exact .inr (.inr (by assumption))); rw [Bool.eq_iff_iff]; simp [*]; omega)
      | (unfold exHd; (try (unfold someB)); first | (simp [*]; done) | (rw [Bool.eq_iff_iff]; simp [*]; omega) | (simp_all; done) | (simp_all; omega))
end Go.Proofs.YtdiffpiapdghoaaGreatDoor
/-
  Layer 3, the document's side: the parts of an expression.
-/
namespace Go.Proofs.YtdiffpiapdghoaaGreatDoor
set_option linter.unusedVariables false
open Go.ChangeShapes Go.WideShapes Go.ChangeAt Go.RowKit

/-- a way's cells, all of them -/
theorem al_flat {P : Nat → Prop} {w : World} {E : Addr} {pk pp pm : Int} {pn : ByteArray} {pl : List Pa} {ek ep em : Int} {en : ByteArray} {el : List Ex} {eps : List Pa} {eal : List Al} {eds : List De}
    (h : IsAl w P E (.mk (.mk pk pp pn pm pl) (.mk ek ep en em el eps eal eds))) :
    ∃ (qa x4 x5 x6 x7 : Option Addr) (qb y4 y5 y6 y7 : Nat), IsVs w P (Pa.row (.mk pk pp pn pm pl)) [.int .i64 pk, .int .i64 pp, .string pn, .int .i64 pm, .slice qa pl.length qb] ∧ IsVs w P (Ex.row (.mk ek ep en em el eps eal eds)) [.int .i64 ek, .int .i64 ep, .string en, .int .i64 em, .slice x4 el.length y4, .slice x5 eps.length y5, .slice x6 eal.length y6, .slice x7 eds.length y7] ∧
      w.cell? E = some (.int .i64 pk) ∧ w.cell? ⟨E.block, E.off + 1, none⟩ = some (.int .i64 pp) ∧ w.cell? ⟨E.block, E.off + 2, none⟩ = some (.string pn) ∧ w.cell? ⟨E.block, E.off + 3, none⟩ = some (.int .i64 pm) ∧ w.cell? ⟨E.block, E.off + 4, none⟩ = some (.slice qa pl.length qb) ∧ w.cell? ⟨E.block, E.off + 5, none⟩ = some (.int .i64 ek) ∧ w.cell? ⟨E.block, E.off + 6, none⟩ = some (.int .i64 ep) ∧ w.cell? ⟨E.block, E.off + 7, none⟩ = some (.string en) ∧ w.cell? ⟨E.block, E.off + 8, none⟩ = some (.int .i64 em) ∧ w.cell? ⟨E.block, E.off + 9, none⟩ = some (.slice x4 el.length y4) ∧ w.cell? ⟨E.block, E.off + 10, none⟩ = some (.slice x5 eps.length y5) ∧ w.cell? ⟨E.block, E.off + 11, none⟩ = some (.slice x6 eal.length y6) ∧ w.cell? ⟨E.block, E.off + 12, none⟩ = some (.slice x7 eds.length y7) := by
  obtain ⟨hp, he⟩ := h.parts
  obtain ⟨pvs, t1, _, t3⟩ := IsRow.vals _ _ hp.out
  obtain ⟨evs, e1, _, e3⟩ := IsRow.vals _ _ he.out
  obtain ⟨qa, qb, rfl, _⟩ := pa_vs t1
  obtain ⟨_, x4, x5, x6, x7, y4, y5, y6, y7, rfl, _⟩ := ex_vs e1
  have k0 : w.cell? E = some (.int .i64 pk) := by
    have := t3 0 _ rfl
    rwa [add_zero2] at this
  have kt : ∀ j v, j ≠ 0 → [.int .i64 pk, .int .i64 pp, .string pn, .int .i64 pm, .slice qa pl.length qb][j]? = some v → w.cell? ⟨E.block, E.off + j, none⟩ = some v := fun j v h0 hj => by
    have := t3 j v hj
    rwa [add_off _ _ h0] at this
  have ke : ∀ j v, [.int .i64 ek, .int .i64 ep, .string en, .int .i64 em, .slice x4 el.length y4, .slice x5 eps.length y5, .slice x6 eal.length y6, .slice x7 eds.length y7][j]? = some v → w.cell? ⟨E.block, E.off + (5 + j), none⟩ = some v := fun j v hj => by
    have := e3 j v hj
    rwa [add_add2, add_off _ _ (by omega)] at this
  exact ⟨qa, x4, x5, x6, x7, qb, y4, y5, y6, y7, t1, e1, k0, kt 1 _ (by decide) rfl, kt 2 _ (by decide) rfl, kt 3 _ (by decide) rfl, kt 4 _ (by decide) rfl, ke 0 _ rfl, ke 1 _ rfl, ke 2 _ rfl, ke 3 _ rfl, ke 4 _ rfl, ke 5 _ rfl, ke 6 _ rfl, ke 7 _ rfl⟩
/-- that declarations may be, so deep -/
def RrD (left : Int) (ds : List De) (top : Bool) (b : Bool) : Prop := ∀ (P : Nat → Prop) (v : Value) (w : World), IsDes w P v ds →
  Calls Tryz.prog 42 #[v, .bool top, .int .i64 left] w fun e w' => e = .returned (.bool b) ∧ Below w.heap.size w w'
set_option maxHeartbeats 16000000 in
set_option maxRecDepth 100000 in
theorem rrX_succ (k p m : Int) (n : ByteArray) (l : List Ex) (ps : List Pa) (al : List Al) (ds : List De) (left : Int) (h1 : 1 ≤ left) (h2 : left ≤ 400) (b : Ex → Bool) (hall : ∀ (j : Nat) (t : Ex), l[j]? = some t → RrE (left - 1) t (b t)) (halt : ∀ (j : Nat) (t : Al), al[j]? = some t → RrE (left - 1) t.body' (b t.body')) (db : Bool) (hdes : RrD (left - 1) ds false db) :
    RrX left (.mk k p n m l ps al ds) (l.all b && (patsB ps && (al.all (alB b) && db))) := by
  intro P vs w hv
  obtain ⟨hn, a4, a5, a6, a7, b4, b5, b6, b7, rfl, h4, h5, h6, h7⟩ := ex_vs hv
  obtain ⟨o1, ho1⟩ : ∃ o : Obj, o = .cells #[.int .i64 k, .int .i64 p, .string n, .int .i64 m, .slice a4 l.length b4, .slice a5 ps.length b5, .slice a6 al.length b6, .slice a7 ds.length b7] 32 := ⟨_, rfl⟩
  have hb1 := bl_alloc o1 (Below.refl w.heap.size w)
  have g1 := heap_alloc_new w o1
  have H4 := Lib.hid (h4.on hb1)
  have H5 := Lib.hid (h5.on hb1)
  have H6 := Lib.hid (h6.on hb1)
  have H7 := Lib.hid (h7.on hb1)
  obtain ⟨_, _, _, _, m4⟩ := h4.form
  obtain ⟨_, _, _, _, m5⟩ := h5.form
  obtain ⟨_, _, _, _, m6⟩ := h6.form
  have l4 : (l.length : Int) ≤ 9223372036854775807 := by unfold maxLen at m4; omega
  have l5 : (ps.length : Int) ≤ 9223372036854775807 := by unfold maxLen at m5; omega
  have l6 : (al.length : Int) ≤ 9223372036854775807 := by unfold maxLen at m6; omega
  have HA := Lib.hid hall
  have HT := Lib.hid halt
  have HD := Lib.hid hdes
  clear hv h4 h5 h6 h7 m4 m5 m6 hall halt hdes
  go_enter Tryz.func70, Tryz.ntmps70
  go_wp2
  rw [← ho1]
  generalize w.alloc o1 = W at hb1 g1 H4 H5 H6 H7 ⊢
  subst ho1
  have G1 := Lib.hid g1
  have HB := Lib.hid hb1
  clear g1 hb1
  go_loopw [5] (fun iv wr => ∃ j : Nat, j ≤ l.length ∧ iv = .int .i64 j ∧ Hid (∀ (i : Nat) (t : Ex), i < j → l[i]? = some t → b t = true) ∧ Below W.heap.size W wr) (fun iv _ => l.length - (intOf iv).toNat)
  case atStart => exact ⟨0, Nat.zero_le _, rfl, Lib.hid (fun i t hi => by omega), Below.refl _ _⟩
  case round =>
    obtain ⟨i, hi, rfl, H, hbw⟩ := hrel
    obtain ⟨u1, ew⟩ : ∃ w0, w0 = wr := ⟨_, rfl⟩
    rw [← ew] at hbw ⊢
    clear ew
    have gr := (hbw.block _ (heap_lt G1.out)).trans G1.out
    by_cases hlt : i < l.length
    · have i1 : (i : Int) < l.length := by omega
      have e3 : u1.cell? ⟨w.heap.size, 4, none⟩ = some (.slice a4 l.length b4) := by rw [Lib.cell_of_heap gr]; rfl
      obtain ⟨x, hx⟩ : ∃ x, l[i]? = some x := ⟨l[i], List.getElem?_eq_getElem hlt⟩
      obtain ⟨A1, rfl, _, hrow⟩ := H4.out.at hx
      obtain ⟨xs, hv1, hv2⟩ := row_load (hrow.on hbw).out 32 und_ex3 (by rw [Ex.row_len]; exact info_ex3)
      have HV1 := Lib.hid hv1
      have HV2 := Lib.hid (hv2 u1 (Below.refl _ _))
      have HX := Lib.hid hx
      have HQ := Lib.hid (HA.out i x hx)
      have HBW := Lib.hid hbw
      clear gr hrow hx hv1 hv2 hbw
      go_wp2_with (refine wpList_load_any rfl 32 _ rfl (A1.add (i * 8)) rfl xs.toArray HV2.out ?_)
      refine (HQ.out P xs u1 HV1.out).mono ?_
      rintro e w3 ⟨rfl, hb3⟩
      have hbw3 := HBW.out.trans (hb3.mono HBW.out.size)
      clear hb3
      cases hr : b x with
      | true =>
        have HN : Hid (∀ (j : Nat) (t : Ex), j < i + 1 → l[j]? = some t → b t = true) := Lib.hid (fun j t hj h1 => by
          by_cases hji : j = i
          · subst hji
            rw [HX.out] at h1
            cases h1; exact hr
          · exact H.out j t (by omega) h1)
        clear hr
        go_wp2
        go_roundw
        case rel => exact ⟨i + 1, by omega, by go_num, HN, hbw3⟩
        case measure => simp [intOf]; omega
      | false =>
        have HF : Hid (l.all b = false) := Lib.hid (all_not HX.out hr)
        clear hr
        go_wp2
        go_ret
        exact ⟨by rw [HF.out, Bool.false_and]; rfl, HB.out.trans (hbw3.mono HB.out.size)⟩
    · have i1 : ¬ (i : Int) < l.length := by omega
      have e3 : u1.cell? ⟨w.heap.size, 4, none⟩ = some (.slice a4 l.length b4) := by rw [Lib.cell_of_heap gr]; rfl
      have F1 : Hid (l.all b = true) := Lib.hid (all_step fun j t h1 => H.out j t (by have := (List.getElem?_eq_some_iff.1 h1).1; omega) h1)
      clear gr H
      go_wp2
      clear e3
      go_loopw [6] (fun iv wr => ∃ j : Nat, j ≤ ps.length ∧ iv = .int .i64 j ∧ Hid (∀ (i : Nat) (t : Pa), i < j → ps[i]? = some t → t.rt 400 = true) ∧ Below W.heap.size W wr) (fun iv _ => ps.length - (intOf iv).toNat)
      case atStart => exact ⟨0, Nat.zero_le _, rfl, Lib.hid (fun i t hi => by omega), hbw⟩
      case round =>
        obtain ⟨i, hi, rfl, H, hbw⟩ := hrel
        obtain ⟨u2, ew⟩ : ∃ w0, w0 = wr := ⟨_, rfl⟩
        rw [← ew] at hbw ⊢
        clear ew
        have gr := (hbw.block _ (heap_lt G1.out)).trans G1.out
        by_cases hlt : i < ps.length
        · have i1 : (i : Int) < ps.length := by omega
          have e3 : u2.cell? ⟨w.heap.size, 5, none⟩ = some (.slice a5 ps.length b5) := by rw [Lib.cell_of_heap gr]; rfl
          obtain ⟨x, hx⟩ : ∃ x, ps[i]? = some x := ⟨ps[i], List.getElem?_eq_getElem hlt⟩
          obtain ⟨A1, rfl, _, hrow⟩ := H5.out.at hx
          obtain ⟨xs, hv1, hv2⟩ := row_load (hrow.on hbw).out 27 und_pa3 (by rw [Pa.row_len]; exact info_pa3)
          have HV1 := Lib.hid hv1
          have HV2 := Lib.hid (hv2 u2 (Below.refl _ _))
          have HX := Lib.hid hx
          have HBW := Lib.hid hbw
          clear gr hrow hx hv1 hv2 hbw
          go_wp2_with (refine wpList_load_any rfl 27 _ rfl (A1.add (i * 5)) rfl xs.toArray HV2.out ?_)
          refine (rdP_any x P xs u2 HV1.out).mono ?_
          rintro e w3 ⟨rfl, hb3⟩
          have hbw3 := HBW.out.trans (hb3.mono HBW.out.size)
          clear hb3
          cases hr : x.rt 400 with
          | true =>
            have HN : Hid (∀ (j : Nat) (t : Pa), j < i + 1 → ps[j]? = some t → t.rt 400 = true) := Lib.hid (fun j t hj h1 => by
              by_cases hji : j = i
              · subst hji
                rw [HX.out] at h1
                cases h1; exact hr
              · exact H.out j t (by omega) h1)
            clear hr
            go_wp2
            go_roundw
            case rel => exact ⟨i + 1, by omega, by go_num, HN, hbw3⟩
            case measure => simp [intOf]; omega
          | false =>
            have HF : Hid (patsB ps = false) := Lib.hid (all_not (ok := fun t : Pa => t.rt 400) HX.out hr)
            clear hr
            go_wp2
            go_ret
            exact ⟨by rw [F1.out, HF.out, Bool.false_and, Bool.and_false]; rfl, HB.out.trans (hbw3.mono HB.out.size)⟩
        · have i1 : ¬ (i : Int) < ps.length := by omega
          have e3 : u2.cell? ⟨w.heap.size, 5, none⟩ = some (.slice a5 ps.length b5) := by rw [Lib.cell_of_heap gr]; rfl
          have F2 : Hid (patsB ps = true) := Lib.hid (all_step fun j t h1 => H.out j t (by have := (List.getElem?_eq_some_iff.1 h1).1; omega) h1)
          clear gr H
          go_wp2
          clear e3
          go_loopw [7] (fun iv wr => ∃ j : Nat, j ≤ al.length ∧ iv = .int .i64 j ∧ Hid (∀ (i : Nat) (t : Al), i < j → al[i]? = some t → alB b t = true) ∧ Below W.heap.size W wr) (fun iv _ => al.length - (intOf iv).toNat)
          case atStart => exact ⟨0, Nat.zero_le _, rfl, Lib.hid (fun i t hi => by omega), hbw⟩
          case round =>
            obtain ⟨i, hi, rfl, H, hbw⟩ := hrel
            obtain ⟨u3, ew⟩ : ∃ w0, w0 = wr := ⟨_, rfl⟩
            rw [← ew] at hbw ⊢
            clear ew
            have gr := (hbw.block _ (heap_lt G1.out)).trans G1.out
            by_cases hlt : i < al.length
            · have i1 : (i : Int) < al.length := by omega
              have e3 : u3.cell? ⟨w.heap.size, 6, none⟩ = some (.slice a6 al.length b6) := by rw [Lib.cell_of_heap gr]; rfl
              obtain ⟨x, hx⟩ : ∃ x, al[i]? = some x := ⟨al[i], List.getElem?_eq_getElem hlt⟩
              obtain ⟨A1, rfl, _, hrow⟩ := H6.out.at hx
              have HX := Lib.hid hx
              have HQ : Hid (RrE (left - 1) x.body' (b x.body')) := Lib.hid (HT.out i x hx)
              obtain ⟨⟨pk, pp, pn, pm, pl⟩, ⟨ek, ep, en, em, el, eps, eal, eds⟩⟩ := x
              replace HQ : Hid (RrE (left - 1) (.mk ek ep en em el eps eal eds) (b (.mk ek ep en em el eps eal eds))) := HQ
              obtain ⟨qa, x4, x5, x6, x7, qb, y4, y5, y6, y7, vp, ve, d0, d1, d2, d3, d4, d5, d6, d7, d8, d9, d10, d11, d12⟩ := al_flat (hrow.on hbw)
              have VP := Lib.hid vp
              have VE := Lib.hid ve
              have HBW := Lib.hid hbw
              clear gr hrow hx vp ve hbw
              cases hp : (Pa.mk pk pp pn pm pl).rt 400 with
              | false =>
                have HF : Hid (al.all (alB b) = false) := Lib.hid (all_not HX.out (by show ((Pa.mk pk pp pn pm pl).rt 400 && _) = false; rw [hp]; rfl))
                go_wp2_with fail
                refine (rdP_any (.mk pk pp pn pm pl) P [.int .i64 pk, .int .i64 pp, .string pn, .int .i64 pm, .slice qa pl.length qb] u3 VP.out).mono ?_
                rw [hp]
                rintro e w3 ⟨rfl, hb3⟩
                have hbw3 := HBW.out.trans (hb3.mono HBW.out.size)
                clear hb3 hp
                go_wp2
                go_ret
                exact ⟨by rw [F1.out, F2.out, HF.out, Bool.false_and]; rfl, HB.out.trans (hbw3.mono HB.out.size)⟩
              | true =>
                have HP := Lib.hid hp
                go_wp2_with fail
                refine (rdP_any (.mk pk pp pn pm pl) P [.int .i64 pk, .int .i64 pp, .string pn, .int .i64 pm, .slice qa pl.length qb] u3 VP.out).mono ?_
                rw [hp]
                rintro e w3 ⟨rfl, hb2⟩
                have hbw2 := HBW.out.trans (hb2.mono HBW.out.size)
                have VE2 := Lib.hid (IsVs.on hb2 _ _ VE.out)
                have e3 := bel_cell hb2 e3
                have d5 := bel_cell hb2 d5
                have d6 := bel_cell hb2 d6
                have d7 := bel_cell hb2 d7
                have d8 := bel_cell hb2 d8
                have d9 := bel_cell hb2 d9
                have d10 := bel_cell hb2 d10
                have d11 := bel_cell hb2 d11
                have d12 := bel_cell hb2 d12
                clear hb2 hp
                go_wp2_with fail
                refine (HQ.out P [.int .i64 ek, .int .i64 ep, .string en, .int .i64 em, .slice x4 el.length y4, .slice x5 eps.length y5, .slice x6 eal.length y6, .slice x7 eds.length y7] w3 VE2.out).mono ?_
                rintro e w4 ⟨rfl, hb4⟩
                have hbw3 := hbw2.trans (hb4.mono hbw2.size)
                clear hb4
                cases hr : b (.mk ek ep en em el eps eal eds) with
                | true =>
                  have HN : Hid (∀ (j : Nat) (t : Al), j < i + 1 → al[j]? = some t → alB b t = true) := Lib.hid (fun j t hj h1 => by
                    by_cases hji : j = i
                    · subst hji
                      rw [HX.out] at h1
                      cases h1; show ((Pa.mk pk pp pn pm pl).rt 400 && b _) = true; rw [HP.out, hr]; rfl
                    · exact H.out j t (by omega) h1)
                  clear hr
                  go_wp2
                  go_roundw
                  case rel => exact ⟨i + 1, by omega, by go_num, HN, hbw3⟩
                  case measure => simp [intOf]; omega
                | false =>
                  have HF : Hid (al.all (alB b) = false) := Lib.hid (all_not HX.out (by show ((Pa.mk pk pp pn pm pl).rt 400 && b _) = false; rw [hr, Bool.and_false]))
                  clear hr
                  go_wp2
                  go_ret
                  exact ⟨by rw [F1.out, F2.out, HF.out, Bool.false_and]; rfl, HB.out.trans (hbw3.mono HB.out.size)⟩
            · have i1 : ¬ (i : Int) < al.length := by omega
              have e3 : u3.cell? ⟨w.heap.size, 6, none⟩ = some (.slice a6 al.length b6) := by rw [Lib.cell_of_heap gr]; rfl
              have F3 : Hid (al.all (alB b) = true) := Lib.hid (all_step fun j t h1 => H.out j t (by have := (List.getElem?_eq_some_iff.1 h1).1; omega) h1)
              have e7 : u3.cell? ⟨w.heap.size, 7, none⟩ = some (.slice a7 ds.length b7) := by rw [Lib.cell_of_heap gr]; rfl
              have HQ := Lib.hid (HD.out P _ u3 (H7.out.on hbw))
              have HBW := Lib.hid hbw
              clear gr hbw
              go_wp2_with fail
              refine HQ.out.mono ?_
              rintro e w3 ⟨rfl, hb3⟩
              have hbw3 := HBW.out.trans (hb3.mono HBW.out.size)
              clear hb3
              go_wp2
              go_ret
              exact ⟨by rw [F1.out, F2.out, F3.out]; rfl, HB.out.trans (hbw3.mono HB.out.size)⟩
end Go.Proofs.YtdiffpiapdghoaaGreatDoor
