/- Texts of this proof, joined: KListT, KTypes, KListP, KPats. No condition. -/
import Derived.Test.YtkdhoelabomgkaaGreatDoorMa28
/-
  Layer 3, the program's side: sameList at one of its kinds, of lists that are the same, where parts are put off.
-/
namespace Go.Proofs.YtkdhoelabomgkaaGreatDoor
set_option linter.unusedVariables false
open Go.ChangeShapes Go.WideShapes Go.ChangeAt Go.RowKit

theorem Ty.nds_upto : ∀ (l : List Ty) (k : Nat) (t : Ty), l[k]? = some t → Ty.nds (l.take (k + 1)) = Ty.nds (l.take k) + t.nd ∧ Ty.nds (l.take (k + 1)) ≤ Ty.nds l
  | [], k, t, h => by simp at h
  | x :: r, 0, t, h => by
    simp at h
    subst h
    rw [List.take_succ_cons, List.take_zero, List.take_zero]
    show x.nd + Ty.nds [] = Ty.nds [] + x.nd ∧ x.nd + Ty.nds [] ≤ x.nd + Ty.nds r
    have h0 : Ty.nds [] = 0 := rfl
    omega
  | x :: r, k + 1, t, h => by
    have h1 := Ty.nds_upto r k t (by simpa using h)
    rw [List.take_succ_cons, List.take_succ_cons]
    show x.nd + Ty.nds (r.take (k + 1)) = x.nd + Ty.nds (r.take k) + t.nd ∧ x.nd + Ty.nds (r.take (k + 1)) ≤ x.nd + Ty.nds r
    omega
set_option maxHeartbeats 800000 in
set_option maxRecDepth 100000 in
theorem listTK (h : Nat) (lev : Int) (sl tl : List Ty) (hs0 : Ty.sames sl tl = true) (hall : ∀ (k : Nat) (t u : Ty), sl[k]? = some t → tl[k]? = some u → HoldsTK h lev t u) (v v' : Value) (w : World) (n : Nat) (ho : HoldOk h n w) (hn : n + Ty.nds sl ≤ 1000000) (hs : IsTys w (fun b => b < h) v sl) (ht : IsTys w (fun b => b < h) v' tl) :
    Calls Tryz.prog 83 #[v, v', .int .i64 lev, .func (.func 46) #[.pointer (some ⟨h, 0, none⟩)] #[]] w fun e w' => e = .returned (.bool true) ∧ Kp h w w' ∧ HoldOk h (n + Ty.nds sl) w' := by
  obtain ⟨ao, cap, rfl, v1, v2⟩ := hs.form
  obtain ⟨bo, cap2, rfl, u1, u2⟩ := ht.form
  have hl := Ty.sames_len sl tl hs0
  have HI := Lib.hid hall
  have HS1 := Lib.hid hs
  have HT1 := Lib.hid ht
  have HO := Lib.hid ho
  have HLo := Lib.hid ho.hi
  have hlm : (sl.length : Int) ≤ 9223372036854775807 := by unfold maxLen at v2; omega
  have q3 : ((sl.length : Int) != tl.length) = false := by rw [bne_eq_false_iff_eq]; omega
  have HLn := Lib.hid hl
  have HNn := Lib.hid hn
  clear hall hs ht ho hl hs0 hn
  go_enter Tryz.func83, Tryz.ntmps83
  go_wp2
  go_loopw [17] (fun iv wr => ∃ k : Nat, k ≤ sl.length ∧ iv = .int .i64 k ∧ Hid (Kp h w wr ∧ HoldOk h (n + Ty.nds (sl.take k)) wr)) (fun iv _ => sl.length - (intOf iv).toNat)
  case atStart => exact ⟨0, Nat.zero_le _, rfl, Lib.hid ⟨Kp.refl _ _, HO.out.mono (by omega)⟩⟩
  case round =>
    obtain ⟨i, hi, rfl, H⟩ := hrel
    by_cases hlt : i < sl.length
    · have i1 : (i : Int) < sl.length := by omega
      have i2 : (i : Int) < tl.length := by have := HLn.out; omega
      obtain ⟨x, hx⟩ : ∃ x, sl[i]? = some x := ⟨sl[i], List.getElem?_eq_getElem hlt⟩
      obtain ⟨y, hy⟩ : ∃ y, tl[i]? = some y := ⟨tl[i]'(by have := HLn.out; omega), List.getElem?_eq_getElem (by have := HLn.out; omega)⟩
      obtain ⟨a, rfl, _, hrow⟩ := HS1.out.at hx
      obtain ⟨b, rfl, _, hrow'⟩ := HT1.out.at hy
      have hpa : (a.add (i * 4)).block < h := by
        rw [add_block2]
        exact isC_blk HS1.out.out (by intro e; have h1 := congrArg List.length e; simp only [Ty.rows_map, List.length_map, List.length_nil] at h1; omega)
      have hpb : (b.add (i * 4)).block < h := by
        rw [add_block2]
        exact isC_blk HT1.out.out (by intro e; have h1 := congrArg List.length e; simp only [Ty.rows_map, List.length_map, List.length_nil] at h1; have := HLn.out; omega)
      have hst := H.out.1.low HLo.out.1
      have hR : IsTy wr (fun b => b < h) (a.add (i * 4)) x := ⟨IsRow.stay hst _ _ hpa hrow.out⟩
      have hR' : IsTy wr (fun b => b < h) (b.add (i * 4)) y := ⟨IsRow.stay hst _ _ hpb hrow'.out⟩
      have HNd := Lib.hid (Ty.nds_upto sl i x hx)
      have HXY := Lib.hid (And.intro hpa (And.intro hpb (HI.out i x y hx hy)))
      have HR := Lib.hid (And.intro hR hR')
      clear hrow hrow' hx hy hpa hpb hst hR hR'
      go_wp2
      go_still_tail 8, (by kernel_rfl)
      change wpList _ _ _ _ _ wr.drew
      have hbd : Below wr.heap.size wr wr.drew := (Below.refl _ _).drew
      have HR2 := Lib.hid (And.intro (HR.out.1.on hbd) (HR.out.2.on hbd))
      have HK2 := Lib.hid (And.intro (H.out.1.trans (Kp.of_below H.out.2.hi.2 hbd)) (H.out.2.on hbd))
      clear hbd
      generalize wr.drew = w2 at HR2 HK2 ⊢
      go_wp2_with fail
      refine (HXY.out.2.2 _ _ w2 _ HK2.out.2 (by have := HNd.out; have := HNn.out; omega) HXY.out.1 HXY.out.2.1 HR2.out.1 HR2.out.2).mono ?_
      rintro e w3 ⟨rfl, hk3, ho3⟩
      have HN : Hid (Kp h w w3 ∧ HoldOk h (n + Ty.nds (sl.take (i + 1))) w3) := Lib.hid ⟨HK2.out.1.trans hk3, ho3.mono (by have := HNd.out; omega)⟩
      clear hk3 ho3 HK2
      go_wp2
      go_roundw
      case rel => exact ⟨i + 1, by omega, by go_num, HN⟩
      case measure => simp [intOf]; omega
    · have i1 : ¬ (i : Int) < sl.length := by omega
      have HF : Hid (HoldOk h (n + Ty.nds sl) wr) := Lib.hid (by
        have h1 := H.out.2
        rwa [show i = sl.length by omega, List.take_length] at h1)
      go_wp2
      go_ret
      exact ⟨rfl, H.out.1, HF.out⟩
end Go.Proofs.YtkdhoelabomgkaaGreatDoor
/-
  Layer 3, the program's side: types, held against each other, where parts are put off: those that are the same.
-/
namespace Go.Proofs.YtkdhoelabomgkaaGreatDoor
set_option linter.unusedVariables false
open Go.ChangeShapes Go.WideShapes Go.ChangeAt Go.RowKit

set_option maxHeartbeats 800000 in
set_option maxRecDepth 100000 in
theorem types_stepK (h : Nat) (lev : Int) (h0 : 0 ≤ lev) (h4 : lev ≤ 400) (t u : Ty) (hsm : t.same u = true) (hl : ∀ (k : Nat) (x y : Ty), t.args[k]? = some x → u.args[k]? = some y → HoldsTK h (lev + 1) x y) : HoldsTK h lev t u := by
  intro a b w n ho hn hba hbb ha hb
  obtain ⟨xk, xp, xn, xl⟩ := t
  obtain ⟨yk, yp, yn, yl⟩ := u
  have hsame : (xk == yk && (xn.data.toList == yn.data.toList && Ty.sames xl yl)) = true := by unfold Ty.same at hsm; exact hsm
  simp only [Bool.and_eq_true, beq_iff_eq] at hsame
  obtain ⟨e1, e2, e4⟩ := hsame
  have e2 : xn = yn := by
    by_cases hq : xn = yn
    · exact hq
    · have h1 := text_ne hq
      rw [text_eq] at h1
      simp [e2] at h1
  subst e1 e2
  obtain ⟨o4, ho4⟩ : ∃ o : Obj, o = .cells #[.pointer (some ⟨h, 0, none⟩)] 135 := ⟨_, rfl⟩
  obtain ⟨o5, ho5⟩ : ∃ o : Obj, o = .cells #[.pointer (some a)] 74 := ⟨_, rfl⟩
  obtain ⟨o6, ho6⟩ : ∃ o : Obj, o = .cells #[.pointer (some b)] 74 := ⟨_, rfl⟩
  obtain ⟨hbW, g4, g5, g6⟩ := three_boxes w o4 o5 o6
  have HW := Lib.hid (And.intro g4 (And.intro g5 g6))
  have HA := Lib.hid ha
  have HB := Lib.hid hb
  have HO := Lib.hid ho
  have HL := Lib.hid hl
  have HE4 := Lib.hid e4
  have HNn : Hid (n + (Ty.nds xl + 1) ≤ 1000000) := Lib.hid hn
  clear g4 g5 g6 ha hb hl e4 hsm ho hn
  go_enter Tryz.func46, Tryz.ntmps46
  go_wp2
  rw [← ho4, ← ho5, ← ho6]
  generalize ((w.alloc o4).alloc o5).alloc o6 = W at hbW HW ⊢
  obtain ⟨g4, g5, g6⟩ := HW.out
  subst ho4 ho5 ho6
  have e4 : W.cell? ⟨w.heap.size, 0, none⟩ = some (.pointer (some ⟨h, 0, none⟩)) := by rw [Lib.cell_of_heap g4]; rfl
  have e5 : W.cell? ⟨w.heap.size + 1, 0, none⟩ = some (.pointer (some a)) := by rw [Lib.cell_of_heap g5]; rfl
  have e6 : W.cell? ⟨w.heap.size + 1 + 1, 0, none⟩ = some (.pointer (some b)) := by rw [Lib.cell_of_heap g6]; rfl
  clear g4 g5 g6 HW
  obtain ⟨c0, _, c2, c2', ca, cb, c3, _, _, hxa⟩ := (HA.out.on hbW).cells
  obtain ⟨d0, _, d2, d2', da, db, d3, _, _, hya⟩ := (HB.out.on hbW).cells
  have HXA := Lib.hid hxa
  have HYA := Lib.hid hya
  have HOW := Lib.hid (HO.out.on hbW)
  have HKW := Lib.hid (Kp.of_below HO.out.hi.2 hbW)
  clear hxa hya
  have s1 : IntKind.i64.wrap (lev + 1) = lev + 1 := IntWalk.i64_in _ (by omega)
  go_still_tail 33, (by kernel_rfl)
  change wpList _ _ _ _ _ W.drew
  have hbd : Below W.heap.size W W.drew := (Below.refl _ _).drew
  have HXA2 := Lib.hid (HXA.out.on hbd)
  have HYA2 := Lib.hid (HYA.out.on hbd)
  have HO2 := Lib.hid (HOW.out.on hbd)
  have HK2 := Lib.hid (HKW.out.trans (Kp.of_below HOW.out.hi.2 hbd))
  clear hbd
  generalize W.drew = w2 at HXA2 HYA2 HO2 HK2 ⊢
  go_wp2_with fail
  refine (listTK h (lev + 1) xl yl HE4.out HL.out _ _ w2 n HO2.out (by have := HNn.out; omega) HXA2.out HYA2.out).mono ?_
  rintro e w3 ⟨rfl, hk3, ho3⟩
  have HF := Lib.hid (And.intro (HK2.out.trans hk3) ho3)
  clear hk3 ho3
  go_wp2
  go_ret
  exact ⟨rfl, HF.out.1, HF.out.2.mono (by show n + Ty.nds xl ≤ n + (Ty.nds xl + 1); omega)⟩
set_option maxHeartbeats 800000 in
set_option maxRecDepth 100000 in
theorem types_offK (h : Nat) (t u : Ty) (hsm : t.same u = true) (hnd : t.nd ≤ 200) : HoldsTK h 401 t u := by
  intro a b w n ho hn hba hbb ha hb
  have h1 : 1 ≤ t.nd := by cases t; unfold Ty.nd; omega
  obtain ⟨o4, ho4⟩ : ∃ o : Obj, o = .cells #[.pointer (some ⟨h, 0, none⟩)] 135 := ⟨_, rfl⟩
  obtain ⟨o5, ho5⟩ : ∃ o : Obj, o = .cells #[.pointer (some a)] 74 := ⟨_, rfl⟩
  obtain ⟨o6, ho6⟩ : ∃ o : Obj, o = .cells #[.pointer (some b)] 74 := ⟨_, rfl⟩
  obtain ⟨hbW, g4, g5, g6⟩ := three_boxes w o4 o5 o6
  have HW := Lib.hid (And.intro g4 (And.intro g5 g6))
  have HA := Lib.hid ha
  have HB := Lib.hid hb
  have HO := Lib.hid ho
  have HS := Lib.hid (And.intro hsm hnd)
  have HP := Lib.hid (And.intro hba hbb)
  have HNn := Lib.hid hn
  clear g4 g5 g6 ha hb hsm ho hn hnd hba hbb
  go_enter Tryz.func46, Tryz.ntmps46
  go_upto_region 3 with fail
  rw [← ho4, ← ho5, ← ho6]
  generalize ((w.alloc o4).alloc o5).alloc o6 = W at hbW HW ⊢
  obtain ⟨g4, g5, g6⟩ := HW.out
  subst ho4 ho5 ho6
  have e4 : W.cell? ⟨w.heap.size, 0, none⟩ = some (.pointer (some ⟨h, 0, none⟩)) := by rw [Lib.cell_of_heap g4]; rfl
  have e5 : W.cell? ⟨w.heap.size + 1, 0, none⟩ = some (.pointer (some a)) := by rw [Lib.cell_of_heap g5]; rfl
  have e6 : W.cell? ⟨w.heap.size + 1 + 1, 0, none⟩ = some (.pointer (some b)) := by rw [Lib.cell_of_heap g6]; rfl
  clear g4 g5 g6 HW
  have HOW := HO.out.on hbW
  have HKW := Kp.of_below HO.out.hi.2 hbW
  have hhi := HO.out.hi
  have hY : YesV h W (.func (.func 82) #[] #[.pointer (some ⟨w.heap.size, 0, none⟩), .pointer (some ⟨w.heap.size + 1, 0, none⟩), .pointer (some ⟨w.heap.size + 1 + 1, 0, none⟩)]) := by
    have hbx : ∀ c : Nat, w.heap.size ≤ c → arr h W ≠ some c := fun c hc e => by
      rcases HKW.own with h4 | ⟨k, h4, h5⟩
      · rw [h4] at e
        have := (hhi.1 c e).2
        omega
      · have h6 : arr h W = arr h w := by unfold arr; rw [World.cell?_of_block (hbW.block h hhi.2)]
        rw [h6] at e
        have := (hhi.1 c e).2
        omega
    refine ⟨_, _, _, _, a, b, rfl, ⟨by have := hhi.2; omega, hbx _ (by omega), e4⟩, ⟨by have := hhi.2; omega, hbx _ (by omega), e5⟩, ⟨by have := hhi.2; omega, hbx _ (by omega), e6⟩, HP.out.1, HP.out.2, ?_⟩
    exact .inl ⟨rfl, t, u, HS.out.1, HS.out.2, HA.out.on hbW, HB.out.on hbW⟩
  have HY := Lib.hid (And.intro hY (And.intro HOW HKW))
  clear hY HOW HKW hhi e4 e5 e6
  go_wp2_with (
    go_at_call 79
    refine (putOff_any h n _ W HY.out.2.1 (by have := HNn.out; omega) HY.out.1).mono ?_
    rintro e w3 ⟨rfl, hk3, ho3⟩
    have HF := Lib.hid (And.intro (HY.out.2.2.trans hk3) (ho3.mono (m := n + t.nd) (by omega)))
    clear hk3 ho3)
  go_ret
  exact ⟨rfl, HF.out.1, HF.out.2⟩
end Go.Proofs.YtkdhoelabomgkaaGreatDoor
/-
  Layer 3, the program's side: sameList at one of its kinds, of lists that are the same, where parts are put off.
-/
namespace Go.Proofs.YtkdhoelabomgkaaGreatDoor
set_option linter.unusedVariables false
open Go.ChangeShapes Go.WideShapes Go.ChangeAt Go.RowKit

theorem Pa.nds_upto : ∀ (l : List Pa) (k : Nat) (t : Pa), l[k]? = some t → Pa.nds (l.take (k + 1)) = Pa.nds (l.take k) + t.nd ∧ Pa.nds (l.take (k + 1)) ≤ Pa.nds l
  | [], k, t, h => by simp at h
  | x :: r, 0, t, h => by
    simp at h
    subst h
    rw [List.take_succ_cons, List.take_zero, List.take_zero]
    show x.nd + Pa.nds [] = Pa.nds [] + x.nd ∧ x.nd + Pa.nds [] ≤ x.nd + Pa.nds r
    have h0 : Pa.nds [] = 0 := rfl
    omega
  | x :: r, k + 1, t, h => by
    have h1 := Pa.nds_upto r k t (by simpa using h)
    rw [List.take_succ_cons, List.take_succ_cons]
    show x.nd + Pa.nds (r.take (k + 1)) = x.nd + Pa.nds (r.take k) + t.nd ∧ x.nd + Pa.nds (r.take (k + 1)) ≤ x.nd + Pa.nds r
    omega
set_option maxHeartbeats 800000 in
set_option maxRecDepth 100000 in
theorem listPK (h : Nat) (lev : Int) (sl tl : List Pa) (hs0 : Pa.sames sl tl = true) (hall : ∀ (k : Nat) (t u : Pa), sl[k]? = some t → tl[k]? = some u → HoldsPK h lev t u) (v v' : Value) (w : World) (n : Nat) (ho : HoldOk h n w) (hn : n + Pa.nds sl ≤ 1000000) (hs : IsPas w (fun b => b < h) v sl) (ht : IsPas w (fun b => b < h) v' tl) :
    Calls Tryz.prog 81 #[v, v', .int .i64 lev, .func (.func 43) #[.pointer (some ⟨h, 0, none⟩)] #[]] w fun e w' => e = .returned (.bool true) ∧ Kp h w w' ∧ HoldOk h (n + Pa.nds sl) w' := by
  obtain ⟨ao, cap, rfl, v1, v2⟩ := hs.form
  obtain ⟨bo, cap2, rfl, u1, u2⟩ := ht.form
  have hl := Pa.sames_len sl tl hs0
  have HI := Lib.hid hall
  have HS1 := Lib.hid hs
  have HT1 := Lib.hid ht
  have HO := Lib.hid ho
  have HLo := Lib.hid ho.hi
  have hlm : (sl.length : Int) ≤ 9223372036854775807 := by unfold maxLen at v2; omega
  have q3 : ((sl.length : Int) != tl.length) = false := by rw [bne_eq_false_iff_eq]; omega
  have HLn := Lib.hid hl
  have HNn := Lib.hid hn
  clear hall hs ht ho hl hs0 hn
  go_enter Tryz.func81, Tryz.ntmps81
  go_wp2
  go_loopw [17] (fun iv wr => ∃ k : Nat, k ≤ sl.length ∧ iv = .int .i64 k ∧ Hid (Kp h w wr ∧ HoldOk h (n + Pa.nds (sl.take k)) wr)) (fun iv _ => sl.length - (intOf iv).toNat)
  case atStart => exact ⟨0, Nat.zero_le _, rfl, Lib.hid ⟨Kp.refl _ _, HO.out.mono (by omega)⟩⟩
  case round =>
    obtain ⟨i, hi, rfl, H⟩ := hrel
    by_cases hlt : i < sl.length
    · have i1 : (i : Int) < sl.length := by omega
      have i2 : (i : Int) < tl.length := by have := HLn.out; omega
      obtain ⟨x, hx⟩ : ∃ x, sl[i]? = some x := ⟨sl[i], List.getElem?_eq_getElem hlt⟩
      obtain ⟨y, hy⟩ : ∃ y, tl[i]? = some y := ⟨tl[i]'(by have := HLn.out; omega), List.getElem?_eq_getElem (by have := HLn.out; omega)⟩
      obtain ⟨a, rfl, _, hrow⟩ := HS1.out.at hx
      obtain ⟨b, rfl, _, hrow'⟩ := HT1.out.at hy
      have hpa : (a.add (i * 5)).block < h := by
        rw [add_block2]
        exact isC_blk HS1.out.out (by intro e; have h1 := congrArg List.length e; simp only [List.length_map, List.length_nil] at h1; omega)
      have hpb : (b.add (i * 5)).block < h := by
        rw [add_block2]
        exact isC_blk HT1.out.out (by intro e; have h1 := congrArg List.length e; simp only [List.length_map, List.length_nil] at h1; have := HLn.out; omega)
      have hst := H.out.1.low HLo.out.1
      have hR : IsPa wr (fun b => b < h) (a.add (i * 5)) x := ⟨IsRow.stay hst _ _ hpa hrow.out⟩
      have hR' : IsPa wr (fun b => b < h) (b.add (i * 5)) y := ⟨IsRow.stay hst _ _ hpb hrow'.out⟩
      have HNd := Lib.hid (Pa.nds_upto sl i x hx)
      have HXY := Lib.hid (And.intro hpa (And.intro hpb (HI.out i x y hx hy)))
      have HR := Lib.hid (And.intro hR hR')
      clear hrow hrow' hx hy hpa hpb hst hR hR'
      go_wp2
      go_still_tail 8, (by kernel_rfl)
      change wpList _ _ _ _ _ wr.drew
      have hbd : Below wr.heap.size wr wr.drew := (Below.refl _ _).drew
      have HR2 := Lib.hid (And.intro (HR.out.1.on hbd) (HR.out.2.on hbd))
      have HK2 := Lib.hid (And.intro (H.out.1.trans (Kp.of_below H.out.2.hi.2 hbd)) (H.out.2.on hbd))
      clear hbd
      generalize wr.drew = w2 at HR2 HK2 ⊢
      go_wp2_with fail
      refine (HXY.out.2.2 _ _ w2 _ HK2.out.2 (by have := HNd.out; have := HNn.out; omega) HXY.out.1 HXY.out.2.1 HR2.out.1 HR2.out.2).mono ?_
      rintro e w3 ⟨rfl, hk3, ho3⟩
      have HN : Hid (Kp h w w3 ∧ HoldOk h (n + Pa.nds (sl.take (i + 1))) w3) := Lib.hid ⟨HK2.out.1.trans hk3, ho3.mono (by have := HNd.out; omega)⟩
      clear hk3 ho3 HK2
      go_wp2
      go_roundw
      case rel => exact ⟨i + 1, by omega, by go_num, HN⟩
      case measure => simp [intOf]; omega
    · have i1 : ¬ (i : Int) < sl.length := by omega
      have HF : Hid (HoldOk h (n + Pa.nds sl) wr) := Lib.hid (by
        have h1 := H.out.2
        rwa [show i = sl.length by omega, List.take_length] at h1)
      go_wp2
      go_ret
      exact ⟨rfl, H.out.1, HF.out⟩
end Go.Proofs.YtkdhoelabomgkaaGreatDoor
/-
  Layer 3, the program's side: patterns, held against each other, where parts are put off: those that are the same.
-/
namespace Go.Proofs.YtkdhoelabomgkaaGreatDoor
set_option linter.unusedVariables false
open Go.ChangeShapes Go.WideShapes Go.ChangeAt Go.RowKit

set_option maxHeartbeats 800000 in
set_option maxRecDepth 100000 in
theorem pats_stepK (h : Nat) (lev : Int) (h0 : 0 ≤ lev) (h4 : lev ≤ 400) (t u : Pa) (hsm : t.same u = true) (hl : ∀ (k : Nat) (x y : Pa), t.args[k]? = some x → u.args[k]? = some y → HoldsPK h (lev + 1) x y) : HoldsPK h lev t u := by
  intro a b w n ho hn hba hbb ha hb
  obtain ⟨xk, xp, xn, xm, xl⟩ := t
  obtain ⟨yk, yp, yn, ym, yl⟩ := u
  have hsame : (xk == yk && (xn.data.toList == yn.data.toList && (xm == ym && Pa.sames xl yl))) = true := by unfold Pa.same at hsm; exact hsm
  simp only [Bool.and_eq_true, beq_iff_eq] at hsame
  obtain ⟨e1, e2, e3, e4⟩ := hsame
  have e2 : xn = yn := by
    by_cases hq : xn = yn
    · exact hq
    · have h1 := text_ne hq
      rw [text_eq] at h1
      simp [e2] at h1
  subst e1 e2
  subst e3
  obtain ⟨o4, ho4⟩ : ∃ o : Obj, o = .cells #[.pointer (some ⟨h, 0, none⟩)] 135 := ⟨_, rfl⟩
  obtain ⟨o5, ho5⟩ : ∃ o : Obj, o = .cells #[.pointer (some a)] 78 := ⟨_, rfl⟩
  obtain ⟨o6, ho6⟩ : ∃ o : Obj, o = .cells #[.pointer (some b)] 78 := ⟨_, rfl⟩
  obtain ⟨hbW, g4, g5, g6⟩ := three_boxes w o4 o5 o6
  have HW := Lib.hid (And.intro g4 (And.intro g5 g6))
  have HA := Lib.hid ha
  have HB := Lib.hid hb
  have HO := Lib.hid ho
  have HL := Lib.hid hl
  have HE4 := Lib.hid e4
  have HNn : Hid (n + (Pa.nds xl + 1) ≤ 1000000) := Lib.hid hn
  clear g4 g5 g6 ha hb hl e4 hsm ho hn
  go_enter Tryz.func43, Tryz.ntmps43
  go_wp2
  rw [← ho4, ← ho5, ← ho6]
  generalize ((w.alloc o4).alloc o5).alloc o6 = W at hbW HW ⊢
  obtain ⟨g4, g5, g6⟩ := HW.out
  subst ho4 ho5 ho6
  have e4 : W.cell? ⟨w.heap.size, 0, none⟩ = some (.pointer (some ⟨h, 0, none⟩)) := by rw [Lib.cell_of_heap g4]; rfl
  have e5 : W.cell? ⟨w.heap.size + 1, 0, none⟩ = some (.pointer (some a)) := by rw [Lib.cell_of_heap g5]; rfl
  have e6 : W.cell? ⟨w.heap.size + 1 + 1, 0, none⟩ = some (.pointer (some b)) := by rw [Lib.cell_of_heap g6]; rfl
  clear g4 g5 g6 HW
  obtain ⟨c0, _, c2, c2', c3, ca, cb, c4, _, _, hxa⟩ := (HA.out.on hbW).cells
  obtain ⟨d0, _, d2, d2', d3, da, db, d4, _, _, hya⟩ := (HB.out.on hbW).cells
  have HXA := Lib.hid hxa
  have HYA := Lib.hid hya
  have HOW := Lib.hid (HO.out.on hbW)
  have HKW := Lib.hid (Kp.of_below HO.out.hi.2 hbW)
  clear hxa hya
  have s1 : IntKind.i64.wrap (lev + 1) = lev + 1 := IntWalk.i64_in _ (by omega)
  go_still_tail 44, (by kernel_rfl)
  change wpList _ _ _ _ _ W.drew
  have hbd : Below W.heap.size W W.drew := (Below.refl _ _).drew
  have HXA2 := Lib.hid (HXA.out.on hbd)
  have HYA2 := Lib.hid (HYA.out.on hbd)
  have HO2 := Lib.hid (HOW.out.on hbd)
  have HK2 := Lib.hid (HKW.out.trans (Kp.of_below HOW.out.hi.2 hbd))
  clear hbd
  generalize W.drew = w2 at HXA2 HYA2 HO2 HK2 ⊢
  go_wp2_with fail
  refine (listPK h (lev + 1) xl yl HE4.out HL.out _ _ w2 n HO2.out (by have := HNn.out; omega) HXA2.out HYA2.out).mono ?_
  rintro e w3 ⟨rfl, hk3, ho3⟩
  have HF := Lib.hid (And.intro (HK2.out.trans hk3) ho3)
  clear hk3 ho3
  go_wp2
  go_ret
  exact ⟨rfl, HF.out.1, HF.out.2.mono (by show n + Pa.nds xl ≤ n + (Pa.nds xl + 1); omega)⟩
set_option maxHeartbeats 800000 in
set_option maxRecDepth 100000 in
theorem pats_offK (h : Nat) (t u : Pa) (hsm : t.same u = true) (hnd : t.nd ≤ 200) : HoldsPK h 401 t u := by
  intro a b w n ho hn hba hbb ha hb
  have h1 : 1 ≤ t.nd := by cases t; unfold Pa.nd; omega
  obtain ⟨o4, ho4⟩ : ∃ o : Obj, o = .cells #[.pointer (some ⟨h, 0, none⟩)] 135 := ⟨_, rfl⟩
  obtain ⟨o5, ho5⟩ : ∃ o : Obj, o = .cells #[.pointer (some a)] 78 := ⟨_, rfl⟩
  obtain ⟨o6, ho6⟩ : ∃ o : Obj, o = .cells #[.pointer (some b)] 78 := ⟨_, rfl⟩
  obtain ⟨hbW, g4, g5, g6⟩ := three_boxes w o4 o5 o6
  have HW := Lib.hid (And.intro g4 (And.intro g5 g6))
  have HA := Lib.hid ha
  have HB := Lib.hid hb
  have HO := Lib.hid ho
  have HS := Lib.hid (And.intro hsm hnd)
  have HP := Lib.hid (And.intro hba hbb)
  have HNn := Lib.hid hn
  clear g4 g5 g6 ha hb hsm ho hn hnd hba hbb
  go_enter Tryz.func43, Tryz.ntmps43
  go_upto_region 3 with fail
  rw [← ho4, ← ho5, ← ho6]
  generalize ((w.alloc o4).alloc o5).alloc o6 = W at hbW HW ⊢
  obtain ⟨g4, g5, g6⟩ := HW.out
  subst ho4 ho5 ho6
  have e4 : W.cell? ⟨w.heap.size, 0, none⟩ = some (.pointer (some ⟨h, 0, none⟩)) := by rw [Lib.cell_of_heap g4]; rfl
  have e5 : W.cell? ⟨w.heap.size + 1, 0, none⟩ = some (.pointer (some a)) := by rw [Lib.cell_of_heap g5]; rfl
  have e6 : W.cell? ⟨w.heap.size + 1 + 1, 0, none⟩ = some (.pointer (some b)) := by rw [Lib.cell_of_heap g6]; rfl
  clear g4 g5 g6 HW
  have HOW := HO.out.on hbW
  have HKW := Kp.of_below HO.out.hi.2 hbW
  have hhi := HO.out.hi
  have hY : YesV h W (.func (.func 80) #[] #[.pointer (some ⟨w.heap.size, 0, none⟩), .pointer (some ⟨w.heap.size + 1, 0, none⟩), .pointer (some ⟨w.heap.size + 1 + 1, 0, none⟩)]) := by
    have hbx : ∀ c : Nat, w.heap.size ≤ c → arr h W ≠ some c := fun c hc e => by
      rcases HKW.own with h4 | ⟨k, h4, h5⟩
      · rw [h4] at e
        have := (hhi.1 c e).2
        omega
      · have h6 : arr h W = arr h w := by unfold arr; rw [World.cell?_of_block (hbW.block h hhi.2)]
        rw [h6] at e
        have := (hhi.1 c e).2
        omega
    refine ⟨_, _, _, _, a, b, rfl, ⟨by have := hhi.2; omega, hbx _ (by omega), e4⟩, ⟨by have := hhi.2; omega, hbx _ (by omega), e5⟩, ⟨by have := hhi.2; omega, hbx _ (by omega), e6⟩, HP.out.1, HP.out.2, ?_⟩
    exact .inr (.inl ⟨rfl, t, u, HS.out.1, HS.out.2, HA.out.on hbW, HB.out.on hbW⟩)
  have HY := Lib.hid (And.intro hY (And.intro HOW HKW))
  clear hY HOW HKW hhi e4 e5 e6
  go_wp2_with (
    go_at_call 79
    refine (putOff_any h n _ W HY.out.2.1 (by have := HNn.out; omega) HY.out.1).mono ?_
    rintro e w3 ⟨rfl, hk3, ho3⟩
    have HF := Lib.hid (And.intro (HY.out.2.2.trans hk3) (ho3.mono (m := n + t.nd) (by omega)))
    clear hk3 ho3)
  go_ret
  exact ⟨rfl, HF.out.1, HF.out.2⟩
end Go.Proofs.YtkdhoelabomgkaaGreatDoor
