/- Texts of this proof, joined: PListE, PListA, PListD, PListP, PListT, PTypes. No condition. -/
import Derived.Test.YtdiffpiapdghoaaGreatDoorRa15
import Derived.StillTailTactics
import Derived.Deep.RegionHeld3
/-
  Layer 3, the program's side: sameList, at one of its kinds of list, given what holds two of its parts.
-/
namespace Go.Proofs.YtdiffpiapdghoaaGreatDoor
set_option linter.unusedVariables false
open Go.ChangeShapes Go.WideShapes Go.ChangeAt Go.RowKit


/-- two parts are held against each other at this level -/
def HoldsE (h : Addr) (lev : Int) (t u : Ex) : Prop := ∀ (P Q : Nat → Prop) (a b : Addr) (w : World), IsEx w P a t → IsEx w Q b u →
  Calls Tryz.prog 47 #[.pointer (some h), .pointer (some a), .pointer (some b), .int .i64 lev] w fun e w' => e = .returned (.bool (t.same u)) ∧ Below w.heap.size w w'
set_option maxHeartbeats 800000 in
set_option maxRecDepth 100000 in
theorem listE (h : Addr) (lev : Int) (sl tl : List Ex) (hall : ∀ (k : Nat) (t u : Ex), sl[k]? = some t → tl[k]? = some u → HoldsE h lev t u) (P Q : Nat → Prop) (v v' : Value) (w : World) (hs : IsExs w P v sl) (ht : IsExs w Q v' tl) :
    Calls Tryz.prog 85 #[v, v', .int .i64 lev, .func (.func 47) #[.pointer (some h)] #[]] w fun e w' => e = .returned (.bool (Ex.sames sl tl)) ∧ Below w.heap.size w w' := by
  obtain ⟨ao, cap, rfl, v1, v2⟩ := hs.form
  obtain ⟨bo, cap2, rfl, u1, u2⟩ := ht.form
  have HI := Lib.hid hall
  have HS1 := Lib.hid hs
  have HT1 := Lib.hid ht
  have hlm : (sl.length : Int) ≤ 9223372036854775807 := by unfold maxLen at v2; omega
  clear hall hs ht
  by_cases hl : sl.length = tl.length
  · have q3 : ((sl.length : Int) != tl.length) = false := by rw [bne_eq_false_iff_eq]; omega
    have HLn := Lib.hid hl
    clear hl
    go_enter Tryz.func85, Tryz.ntmps85
    go_wp2
    go_loopw [17] (fun iv wr => ∃ k : Nat, k ≤ sl.length ∧ iv = .int .i64 k ∧ Hid (∀ (j : Nat) (s t : Ex), j < k → sl[j]? = some s → tl[j]? = some t → (s.same t) = true) ∧ Below w.heap.size w wr) (fun iv _ => sl.length - (intOf iv).toNat)
    case atStart => exact ⟨0, Nat.zero_le _, rfl, Lib.hid (fun j s t hj => by omega), Below.refl _ _⟩
    case round =>
      obtain ⟨i, hi, rfl, H, hbw⟩ := hrel
      by_cases hlt : i < sl.length
      · have i1 : (i : Int) < sl.length := by omega
        have i2 : (i : Int) < tl.length := by have := HLn.out; omega
        obtain ⟨x, hx⟩ : ∃ x, sl[i]? = some x := ⟨sl[i], List.getElem?_eq_getElem hlt⟩
        obtain ⟨y, hy⟩ : ∃ y, tl[i]? = some y := ⟨tl[i]'(by have := HLn.out; omega), List.getElem?_eq_getElem (by have := HLn.out; omega)⟩
        obtain ⟨a, rfl, _, hrow⟩ := HS1.out.at hx
        obtain ⟨b, rfl, _, hrow'⟩ := HT1.out.at hy
        have HR := Lib.hid (hrow.on hbw)
        have HR' := Lib.hid (hrow'.on hbw)
        have HX := Lib.hid hx
        have HY := Lib.hid hy
        have HXY := Lib.hid (HI.out i x y hx hy)
        clear hrow hrow' hx hy
        go_wp2
        go_still_tail 8, (by kernel_rfl)
        change wpList _ _ _ _ _ wr.drew
        have hbd : Below wr.heap.size wr wr.drew := (Below.refl _ _).drew
        have HXA2 := Lib.hid (HR.out.on hbd)
        have HYA2 := Lib.hid (HR'.out.on hbd)
        have hbw2 := hbw.trans (hbd.mono hbw.size)
        generalize wr.drew = w2 at HXA2 HYA2 hbw2 ⊢
        go_wp2_with fail
        refine (HXY.out P Q _ _ w2 HXA2.out HYA2.out).mono ?_
        rintro e w3 ⟨rfl, hb3⟩
        have hbw3 := hbw2.trans (hb3.mono hbw2.size)
        by_cases hr : (x.same y) = true
        · rw [hr]
          have HN : Hid (∀ (j : Nat) (s t : Ex), j < i + 1 → sl[j]? = some s → tl[j]? = some t → (s.same t) = true) := Lib.hid (fun j s t hj h1 h2 => by
            by_cases hji : j = i
            · subst hji
              rw [HX.out] at h1
              rw [HY.out] at h2
              cases h1; cases h2; exact hr
            · exact H.out j s t (by omega) h1 h2)
          clear hr
          go_wp2
          go_roundw
          case rel => exact ⟨i + 1, by omega, by go_num, HN, hbw3⟩
          case measure => simp [intOf]; omega
        · have hr : (x.same y) = false := by simpa using hr
          have HF : Hid (Ex.sames sl tl = false) := Lib.hid (Ex.sames_not sl tl i _ _ HX.out HY.out hr)
          rw [hr]
          clear hr
          go_wp2
          go_ret
          exact ⟨by rw [HF.out]; rfl, hbw3⟩
      · have i1 : ¬ (i : Int) < sl.length := by omega
        have HF : Hid (Ex.sames sl tl = true) := Lib.hid (Ex.sames_all sl tl HLn.out (fun j s t h1 h2 => H.out j s t (by have := (List.getElem?_eq_some_iff.1 h1).1; omega) h1 h2))
        go_wp2
        go_ret
        exact ⟨by rw [HF.out]; rfl, hbw⟩
  · have q3 : ((sl.length : Int) != tl.length) = true := by rw [bne_iff_ne]; omega
    have HE : Hid (Ex.sames sl tl = false) := Lib.hid (by
      cases hq : Ex.sames sl tl with
      | false => rfl
      | true => exact absurd (Ex.sames_len sl tl hq) hl)
    clear hl
    go_enter Tryz.func85, Tryz.ntmps85
    go_wp2
    go_ret
    exact ⟨by rw [HE.out]; rfl, Below.refl _ _⟩

end Go.Proofs.YtdiffpiapdghoaaGreatDoor
/-
  Layer 3, the program's side: sameList, at one of its kinds of list, given what holds two of its parts.
-/
namespace Go.Proofs.YtdiffpiapdghoaaGreatDoor
set_option linter.unusedVariables false
open Go.ChangeShapes Go.WideShapes Go.ChangeAt Go.RowKit


/-- two parts are held against each other at this level -/
def HoldsA (h : Addr) (lev : Int) (t u : Al) : Prop := ∀ (P Q : Nat → Prop) (a b : Addr) (w : World), IsAl w P a t → IsAl w Q b u →
  Calls Tryz.prog 87 #[.pointer (some h), .pointer (some a), .pointer (some b), .int .i64 lev] w fun e w' => e = .returned (.bool (t.same u)) ∧ Below w.heap.size w w'
set_option maxHeartbeats 800000 in
set_option maxRecDepth 100000 in
theorem listA (h : Addr) (lev : Int) (sl tl : List Al) (hall : ∀ (k : Nat) (t u : Al), sl[k]? = some t → tl[k]? = some u → HoldsA h lev t u) (P Q : Nat → Prop) (v v' : Value) (w : World) (hs : IsAls w P v sl) (ht : IsAls w Q v' tl) :
    Calls Tryz.prog 86 #[v, v', .int .i64 lev, .func (.func 87) #[.pointer (some h)] #[]] w fun e w' => e = .returned (.bool (Al.sames sl tl)) ∧ Below w.heap.size w w' := by
  obtain ⟨ao, cap, rfl, v1, v2⟩ := hs.form
  obtain ⟨bo, cap2, rfl, u1, u2⟩ := ht.form
  have HI := Lib.hid hall
  have HS1 := Lib.hid hs
  have HT1 := Lib.hid ht
  have hlm : (sl.length : Int) ≤ 9223372036854775807 := by unfold maxLen at v2; omega
  clear hall hs ht
  by_cases hl : sl.length = tl.length
  · have q3 : ((sl.length : Int) != tl.length) = false := by rw [bne_eq_false_iff_eq]; omega
    have HLn := Lib.hid hl
    clear hl
    go_enter Tryz.func86, Tryz.ntmps86
    go_wp2
    go_loopw [17] (fun iv wr => ∃ k : Nat, k ≤ sl.length ∧ iv = .int .i64 k ∧ Hid (∀ (j : Nat) (s t : Al), j < k → sl[j]? = some s → tl[j]? = some t → (s.same t) = true) ∧ Below w.heap.size w wr) (fun iv _ => sl.length - (intOf iv).toNat)
    case atStart => exact ⟨0, Nat.zero_le _, rfl, Lib.hid (fun j s t hj => by omega), Below.refl _ _⟩
    case round =>
      obtain ⟨i, hi, rfl, H, hbw⟩ := hrel
      by_cases hlt : i < sl.length
      · have i1 : (i : Int) < sl.length := by omega
        have i2 : (i : Int) < tl.length := by have := HLn.out; omega
        obtain ⟨x, hx⟩ : ∃ x, sl[i]? = some x := ⟨sl[i], List.getElem?_eq_getElem hlt⟩
        obtain ⟨y, hy⟩ : ∃ y, tl[i]? = some y := ⟨tl[i]'(by have := HLn.out; omega), List.getElem?_eq_getElem (by have := HLn.out; omega)⟩
        obtain ⟨a, rfl, _, hrow⟩ := HS1.out.at hx
        obtain ⟨b, rfl, _, hrow'⟩ := HT1.out.at hy
        have HR := Lib.hid (hrow.on hbw)
        have HR' := Lib.hid (hrow'.on hbw)
        have HX := Lib.hid hx
        have HY := Lib.hid hy
        have HXY := Lib.hid (HI.out i x y hx hy)
        clear hrow hrow' hx hy
        go_wp2
        go_still_tail 8, (by kernel_rfl)
        change wpList _ _ _ _ _ wr.drew
        have hbd : Below wr.heap.size wr wr.drew := (Below.refl _ _).drew
        have HXA2 := Lib.hid (HR.out.on hbd)
        have HYA2 := Lib.hid (HR'.out.on hbd)
        have hbw2 := hbw.trans (hbd.mono hbw.size)
        generalize wr.drew = w2 at HXA2 HYA2 hbw2 ⊢
        go_wp2_with fail
        refine (HXY.out P Q _ _ w2 HXA2.out HYA2.out).mono ?_
        rintro e w3 ⟨rfl, hb3⟩
        have hbw3 := hbw2.trans (hb3.mono hbw2.size)
        by_cases hr : (x.same y) = true
        · rw [hr]
          have HN : Hid (∀ (j : Nat) (s t : Al), j < i + 1 → sl[j]? = some s → tl[j]? = some t → (s.same t) = true) := Lib.hid (fun j s t hj h1 h2 => by
            by_cases hji : j = i
            · subst hji
              rw [HX.out] at h1
              rw [HY.out] at h2
              cases h1; cases h2; exact hr
            · exact H.out j s t (by omega) h1 h2)
          clear hr
          go_wp2
          go_roundw
          case rel => exact ⟨i + 1, by omega, by go_num, HN, hbw3⟩
          case measure => simp [intOf]; omega
        · have hr : (x.same y) = false := by simpa using hr
          have HF : Hid (Al.sames sl tl = false) := Lib.hid (Al.sames_not sl tl i _ _ HX.out HY.out hr)
          rw [hr]
          clear hr
          go_wp2
          go_ret
          exact ⟨by rw [HF.out]; rfl, hbw3⟩
      · have i1 : ¬ (i : Int) < sl.length := by omega
        have HF : Hid (Al.sames sl tl = true) := Lib.hid (Al.sames_all sl tl HLn.out (fun j s t h1 h2 => H.out j s t (by have := (List.getElem?_eq_some_iff.1 h1).1; omega) h1 h2))
        go_wp2
        go_ret
        exact ⟨by rw [HF.out]; rfl, hbw⟩
  · have q3 : ((sl.length : Int) != tl.length) = true := by rw [bne_iff_ne]; omega
    have HE : Hid (Al.sames sl tl = false) := Lib.hid (by
      cases hq : Al.sames sl tl with
      | false => rfl
      | true => exact absurd (Al.sames_len sl tl hq) hl)
    clear hl
    go_enter Tryz.func86, Tryz.ntmps86
    go_wp2
    go_ret
    exact ⟨by rw [HE.out]; rfl, Below.refl _ _⟩

end Go.Proofs.YtdiffpiapdghoaaGreatDoor
/-
  Layer 3, the program's side: sameList, at one of its kinds of list, given what holds two of its parts.
-/
namespace Go.Proofs.YtdiffpiapdghoaaGreatDoor
set_option linter.unusedVariables false
open Go.ChangeShapes Go.WideShapes Go.ChangeAt Go.RowKit


/-- two parts are held against each other at this level -/
def HoldsD (h : Addr) (lev : Int) (t u : De) : Prop := ∀ (P Q : Nat → Prop) (a b : Addr) (w : World), IsDe w P a t → IsDe w Q b u →
  Calls Tryz.prog 49 #[.pointer (some h), .pointer (some a), .pointer (some b), .int .i64 lev] w fun e w' => e = .returned (.bool (t.same u)) ∧ Below w.heap.size w w'
set_option maxHeartbeats 800000 in
set_option maxRecDepth 100000 in
theorem listD (h : Addr) (lev : Int) (sl tl : List De) (hall : ∀ (k : Nat) (t u : De), sl[k]? = some t → tl[k]? = some u → HoldsD h lev t u) (P Q : Nat → Prop) (v v' : Value) (w : World) (hs : IsDes w P v sl) (ht : IsDes w Q v' tl) :
    Calls Tryz.prog 48 #[v, v', .int .i64 lev, .func (.func 49) #[.pointer (some h)] #[]] w fun e w' => e = .returned (.bool (De.sames sl tl)) ∧ Below w.heap.size w w' := by
  obtain ⟨ao, cap, rfl, v1, v2⟩ := hs.form
  obtain ⟨bo, cap2, rfl, u1, u2⟩ := ht.form
  have HI := Lib.hid hall
  have HS1 := Lib.hid hs
  have HT1 := Lib.hid ht
  have hlm : (sl.length : Int) ≤ 9223372036854775807 := by unfold maxLen at v2; omega
  clear hall hs ht
  by_cases hl : sl.length = tl.length
  · have q3 : ((sl.length : Int) != tl.length) = false := by rw [bne_eq_false_iff_eq]; omega
    have HLn := Lib.hid hl
    clear hl
    go_enter Tryz.func48, Tryz.ntmps48
    go_wp2
    go_loopw [17] (fun iv wr => ∃ k : Nat, k ≤ sl.length ∧ iv = .int .i64 k ∧ Hid (∀ (j : Nat) (s t : De), j < k → sl[j]? = some s → tl[j]? = some t → (s.same t) = true) ∧ Below w.heap.size w wr) (fun iv _ => sl.length - (intOf iv).toNat)
    case atStart => exact ⟨0, Nat.zero_le _, rfl, Lib.hid (fun j s t hj => by omega), Below.refl _ _⟩
    case round =>
      obtain ⟨i, hi, rfl, H, hbw⟩ := hrel
      by_cases hlt : i < sl.length
      · have i1 : (i : Int) < sl.length := by omega
        have i2 : (i : Int) < tl.length := by have := HLn.out; omega
        obtain ⟨x, hx⟩ : ∃ x, sl[i]? = some x := ⟨sl[i], List.getElem?_eq_getElem hlt⟩
        obtain ⟨y, hy⟩ : ∃ y, tl[i]? = some y := ⟨tl[i]'(by have := HLn.out; omega), List.getElem?_eq_getElem (by have := HLn.out; omega)⟩
        obtain ⟨a, rfl, _, hrow⟩ := HS1.out.at hx
        obtain ⟨b, rfl, _, hrow'⟩ := HT1.out.at hy
        have HR := Lib.hid (hrow.on hbw)
        have HR' := Lib.hid (hrow'.on hbw)
        have HX := Lib.hid hx
        have HY := Lib.hid hy
        have HXY := Lib.hid (HI.out i x y hx hy)
        clear hrow hrow' hx hy
        go_wp2
        go_still_tail 8, (by kernel_rfl)
        change wpList _ _ _ _ _ wr.drew
        have hbd : Below wr.heap.size wr wr.drew := (Below.refl _ _).drew
        have HXA2 := Lib.hid (HR.out.on hbd)
        have HYA2 := Lib.hid (HR'.out.on hbd)
        have hbw2 := hbw.trans (hbd.mono hbw.size)
        generalize wr.drew = w2 at HXA2 HYA2 hbw2 ⊢
        go_wp2_with fail
        refine (HXY.out P Q _ _ w2 HXA2.out HYA2.out).mono ?_
        rintro e w3 ⟨rfl, hb3⟩
        have hbw3 := hbw2.trans (hb3.mono hbw2.size)
        by_cases hr : (x.same y) = true
        · rw [hr]
          have HN : Hid (∀ (j : Nat) (s t : De), j < i + 1 → sl[j]? = some s → tl[j]? = some t → (s.same t) = true) := Lib.hid (fun j s t hj h1 h2 => by
            by_cases hji : j = i
            · subst hji
              rw [HX.out] at h1
              rw [HY.out] at h2
              cases h1; cases h2; exact hr
            · exact H.out j s t (by omega) h1 h2)
          clear hr
          go_wp2
          go_roundw
          case rel => exact ⟨i + 1, by omega, by go_num, HN, hbw3⟩
          case measure => simp [intOf]; omega
        · have hr : (x.same y) = false := by simpa using hr
          have HF : Hid (De.sames sl tl = false) := Lib.hid (De.sames_not sl tl i _ _ HX.out HY.out hr)
          rw [hr]
          clear hr
          go_wp2
          go_ret
          exact ⟨by rw [HF.out]; rfl, hbw3⟩
      · have i1 : ¬ (i : Int) < sl.length := by omega
        have HF : Hid (De.sames sl tl = true) := Lib.hid (De.sames_all sl tl HLn.out (fun j s t h1 h2 => H.out j s t (by have := (List.getElem?_eq_some_iff.1 h1).1; omega) h1 h2))
        go_wp2
        go_ret
        exact ⟨by rw [HF.out]; rfl, hbw⟩
  · have q3 : ((sl.length : Int) != tl.length) = true := by rw [bne_iff_ne]; omega
    have HE : Hid (De.sames sl tl = false) := Lib.hid (by
      cases hq : De.sames sl tl with
      | false => rfl
      | true => exact absurd (De.sames_len sl tl hq) hl)
    clear hl
    go_enter Tryz.func48, Tryz.ntmps48
    go_wp2
    go_ret
    exact ⟨by rw [HE.out]; rfl, Below.refl _ _⟩

end Go.Proofs.YtdiffpiapdghoaaGreatDoor
/-
  Layer 3, the program's side: sameList, at one of its kinds of list, given what holds two of its parts.
-/
namespace Go.Proofs.YtdiffpiapdghoaaGreatDoor
set_option linter.unusedVariables false
open Go.ChangeShapes Go.WideShapes Go.ChangeAt Go.RowKit


/-- two parts are held against each other at this level -/
def HoldsP (h : Addr) (lev : Int) (t u : Pa) : Prop := ∀ (P Q : Nat → Prop) (a b : Addr) (w : World), IsPa w P a t → IsPa w Q b u →
  Calls Tryz.prog 43 #[.pointer (some h), .pointer (some a), .pointer (some b), .int .i64 lev] w fun e w' => e = .returned (.bool (t.same u)) ∧ Below w.heap.size w w'
set_option maxHeartbeats 800000 in
set_option maxRecDepth 100000 in
theorem listP (h : Addr) (lev : Int) (sl tl : List Pa) (hall : ∀ (k : Nat) (t u : Pa), sl[k]? = some t → tl[k]? = some u → HoldsP h lev t u) (P Q : Nat → Prop) (v v' : Value) (w : World) (hs : IsPas w P v sl) (ht : IsPas w Q v' tl) :
    Calls Tryz.prog 81 #[v, v', .int .i64 lev, .func (.func 43) #[.pointer (some h)] #[]] w fun e w' => e = .returned (.bool (Pa.sames sl tl)) ∧ Below w.heap.size w w' := by
  obtain ⟨ao, cap, rfl, v1, v2⟩ := hs.form
  obtain ⟨bo, cap2, rfl, u1, u2⟩ := ht.form
  have HI := Lib.hid hall
  have HS1 := Lib.hid hs
  have HT1 := Lib.hid ht
  have hlm : (sl.length : Int) ≤ 9223372036854775807 := by unfold maxLen at v2; omega
  clear hall hs ht
  by_cases hl : sl.length = tl.length
  · have q3 : ((sl.length : Int) != tl.length) = false := by rw [bne_eq_false_iff_eq]; omega
    have HLn := Lib.hid hl
    clear hl
    go_enter Tryz.func81, Tryz.ntmps81
    go_wp2
    go_loopw [17] (fun iv wr => ∃ k : Nat, k ≤ sl.length ∧ iv = .int .i64 k ∧ Hid (∀ (j : Nat) (s t : Pa), j < k → sl[j]? = some s → tl[j]? = some t → (s.same t) = true) ∧ Below w.heap.size w wr) (fun iv _ => sl.length - (intOf iv).toNat)
    case atStart => exact ⟨0, Nat.zero_le _, rfl, Lib.hid (fun j s t hj => by omega), Below.refl _ _⟩
    case round =>
      obtain ⟨i, hi, rfl, H, hbw⟩ := hrel
      by_cases hlt : i < sl.length
      · have i1 : (i : Int) < sl.length := by omega
        have i2 : (i : Int) < tl.length := by have := HLn.out; omega
        obtain ⟨x, hx⟩ : ∃ x, sl[i]? = some x := ⟨sl[i], List.getElem?_eq_getElem hlt⟩
        obtain ⟨y, hy⟩ : ∃ y, tl[i]? = some y := ⟨tl[i]'(by have := HLn.out; omega), List.getElem?_eq_getElem (by have := HLn.out; omega)⟩
        obtain ⟨a, rfl, _, hrow⟩ := HS1.out.at hx
        obtain ⟨b, rfl, _, hrow'⟩ := HT1.out.at hy
        have HR := Lib.hid (hrow.on hbw)
        have HR' := Lib.hid (hrow'.on hbw)
        have HX := Lib.hid hx
        have HY := Lib.hid hy
        have HXY := Lib.hid (HI.out i x y hx hy)
        clear hrow hrow' hx hy
        go_wp2
        go_still_tail 8, (by kernel_rfl)
        change wpList _ _ _ _ _ wr.drew
        have hbd : Below wr.heap.size wr wr.drew := (Below.refl _ _).drew
        have HXA2 := Lib.hid (HR.out.on hbd)
        have HYA2 := Lib.hid (HR'.out.on hbd)
        have hbw2 := hbw.trans (hbd.mono hbw.size)
        generalize wr.drew = w2 at HXA2 HYA2 hbw2 ⊢
        go_wp2_with fail
        refine (HXY.out P Q _ _ w2 HXA2.out HYA2.out).mono ?_
        rintro e w3 ⟨rfl, hb3⟩
        have hbw3 := hbw2.trans (hb3.mono hbw2.size)
        by_cases hr : (x.same y) = true
        · rw [hr]
          have HN : Hid (∀ (j : Nat) (s t : Pa), j < i + 1 → sl[j]? = some s → tl[j]? = some t → (s.same t) = true) := Lib.hid (fun j s t hj h1 h2 => by
            by_cases hji : j = i
            · subst hji
              rw [HX.out] at h1
              rw [HY.out] at h2
              cases h1; cases h2; exact hr
            · exact H.out j s t (by omega) h1 h2)
          clear hr
          go_wp2
          go_roundw
          case rel => exact ⟨i + 1, by omega, by go_num, HN, hbw3⟩
          case measure => simp [intOf]; omega
        · have hr : (x.same y) = false := by simpa using hr
          have HF : Hid (Pa.sames sl tl = false) := Lib.hid (Pa.sames_not sl tl i _ _ HX.out HY.out hr)
          rw [hr]
          clear hr
          go_wp2
          go_ret
          exact ⟨by rw [HF.out]; rfl, hbw3⟩
      · have i1 : ¬ (i : Int) < sl.length := by omega
        have HF : Hid (Pa.sames sl tl = true) := Lib.hid (Pa.sames_all sl tl HLn.out (fun j s t h1 h2 => H.out j s t (by have := (List.getElem?_eq_some_iff.1 h1).1; omega) h1 h2))
        go_wp2
        go_ret
        exact ⟨by rw [HF.out]; rfl, hbw⟩
  · have q3 : ((sl.length : Int) != tl.length) = true := by rw [bne_iff_ne]; omega
    have HE : Hid (Pa.sames sl tl = false) := Lib.hid (by
      cases hq : Pa.sames sl tl with
      | false => rfl
      | true => exact absurd (Pa.sames_len sl tl hq) hl)
    clear hl
    go_enter Tryz.func81, Tryz.ntmps81
    go_wp2
    go_ret
    exact ⟨by rw [HE.out]; rfl, Below.refl _ _⟩

end Go.Proofs.YtdiffpiapdghoaaGreatDoor
/-
  Layer 3, the program's side: sameList, at one of its kinds of list, given what holds two of its parts.
-/
namespace Go.Proofs.YtdiffpiapdghoaaGreatDoor
set_option linter.unusedVariables false
open Go.ChangeShapes Go.WideShapes Go.ChangeAt Go.RowKit

theorem bool_ret {a b : Bool} (h : a = b) : Ending.returned (.bool a) = .returned (.bool b) := by rw [h]

/-- two parts are held against each other at this level -/
def HoldsT (h : Addr) (lev : Int) (t u : Ty) : Prop := ∀ (P Q : Nat → Prop) (a b : Addr) (w : World), IsTy w P a t → IsTy w Q b u →
  Calls Tryz.prog 46 #[.pointer (some h), .pointer (some a), .pointer (some b), .int .i64 lev] w fun e w' => e = .returned (.bool (t.same u)) ∧ Below w.heap.size w w'
set_option maxHeartbeats 800000 in
set_option maxRecDepth 100000 in
theorem listT (h : Addr) (lev : Int) (sl tl : List Ty) (hall : ∀ (k : Nat) (t u : Ty), sl[k]? = some t → tl[k]? = some u → HoldsT h lev t u) (P Q : Nat → Prop) (v v' : Value) (w : World) (hs : IsTys w P v sl) (ht : IsTys w Q v' tl) :
    Calls Tryz.prog 83 #[v, v', .int .i64 lev, .func (.func 46) #[.pointer (some h)] #[]] w fun e w' => e = .returned (.bool (Ty.sames sl tl)) ∧ Below w.heap.size w w' := by
  obtain ⟨ao, cap, rfl, v1, v2⟩ := hs.form
  obtain ⟨bo, cap2, rfl, u1, u2⟩ := ht.form
  have HI := Lib.hid hall
  have HS1 := Lib.hid hs
  have HT1 := Lib.hid ht
  have hlm : (sl.length : Int) ≤ 9223372036854775807 := by unfold maxLen at v2; omega
  clear hall hs ht
  by_cases hl : sl.length = tl.length
  · have q3 : ((sl.length : Int) != tl.length) = false := by rw [bne_eq_false_iff_eq]; omega
    have HLn := Lib.hid hl
    clear hl
    go_enter Tryz.func83, Tryz.ntmps83
    go_wp2
    go_loopw [17] (fun iv wr => ∃ k : Nat, k ≤ sl.length ∧ iv = .int .i64 k ∧ Hid (∀ (j : Nat) (s t : Ty), j < k → sl[j]? = some s → tl[j]? = some t → (s.same t) = true) ∧ Below w.heap.size w wr) (fun iv _ => sl.length - (intOf iv).toNat)
    case atStart => exact ⟨0, Nat.zero_le _, rfl, Lib.hid (fun j s t hj => by omega), Below.refl _ _⟩
    case round =>
      obtain ⟨i, hi, rfl, H, hbw⟩ := hrel
      by_cases hlt : i < sl.length
      · have i1 : (i : Int) < sl.length := by omega
        have i2 : (i : Int) < tl.length := by have := HLn.out; omega
        obtain ⟨x, hx⟩ : ∃ x, sl[i]? = some x := ⟨sl[i], List.getElem?_eq_getElem hlt⟩
        obtain ⟨y, hy⟩ : ∃ y, tl[i]? = some y := ⟨tl[i]'(by have := HLn.out; omega), List.getElem?_eq_getElem (by have := HLn.out; omega)⟩
        obtain ⟨a, rfl, _, hrow⟩ := HS1.out.at hx
        obtain ⟨b, rfl, _, hrow'⟩ := HT1.out.at hy
        have HR := Lib.hid (hrow.on hbw)
        have HR' := Lib.hid (hrow'.on hbw)
        have HX := Lib.hid hx
        have HY := Lib.hid hy
        have HXY := Lib.hid (HI.out i x y hx hy)
        clear hrow hrow' hx hy
        go_wp2
        go_still_tail 8, (by kernel_rfl)
        change wpList _ _ _ _ _ wr.drew
        have hbd : Below wr.heap.size wr wr.drew := (Below.refl _ _).drew
        have HXA2 := Lib.hid (HR.out.on hbd)
        have HYA2 := Lib.hid (HR'.out.on hbd)
        have hbw2 := hbw.trans (hbd.mono hbw.size)
        generalize wr.drew = w2 at HXA2 HYA2 hbw2 ⊢
        go_wp2_with fail
        refine (HXY.out P Q _ _ w2 HXA2.out HYA2.out).mono ?_
        rintro e w3 ⟨rfl, hb3⟩
        have hbw3 := hbw2.trans (hb3.mono hbw2.size)
        by_cases hr : (x.same y) = true
        · rw [hr]
          have HN : Hid (∀ (j : Nat) (s t : Ty), j < i + 1 → sl[j]? = some s → tl[j]? = some t → (s.same t) = true) := Lib.hid (fun j s t hj h1 h2 => by
            by_cases hji : j = i
            · subst hji
              rw [HX.out] at h1
              rw [HY.out] at h2
              cases h1; cases h2; exact hr
            · exact H.out j s t (by omega) h1 h2)
          clear hr
          go_wp2
          go_roundw
          case rel => exact ⟨i + 1, by omega, by go_num, HN, hbw3⟩
          case measure => simp [intOf]; omega
        · have hr : (x.same y) = false := by simpa using hr
          have HF : Hid (Ty.sames sl tl = false) := Lib.hid (Ty.sames_not sl tl i _ _ HX.out HY.out hr)
          rw [hr]
          clear hr
          go_wp2
          go_ret
          exact ⟨by rw [HF.out]; rfl, hbw3⟩
      · have i1 : ¬ (i : Int) < sl.length := by omega
        have HF : Hid (Ty.sames sl tl = true) := Lib.hid (Ty.sames_all sl tl HLn.out (fun j s t h1 h2 => H.out j s t (by have := (List.getElem?_eq_some_iff.1 h1).1; omega) h1 h2))
        go_wp2
        go_ret
        exact ⟨by rw [HF.out]; rfl, hbw⟩
  · have q3 : ((sl.length : Int) != tl.length) = true := by rw [bne_iff_ne]; omega
    have HE : Hid (Ty.sames sl tl = false) := Lib.hid (by
      cases hq : Ty.sames sl tl with
      | false => rfl
      | true => exact absurd (Ty.sames_len sl tl hq) hl)
    clear hl
    go_enter Tryz.func83, Tryz.ntmps83
    go_wp2
    go_ret
    exact ⟨by rw [HE.out]; rfl, Below.refl _ _⟩

end Go.Proofs.YtdiffpiapdghoaaGreatDoor
/-
  Layer 3, the program's side: types, held against each other, where the level stays within what the walk goes down to.
-/
namespace Go.Proofs.YtdiffpiapdghoaaGreatDoor
set_option linter.unusedVariables false
open Go.ChangeShapes Go.WideShapes Go.ChangeAt Go.RowKit

theorem Ty.nds_get : ∀ (l : List Ty) (k : Nat) (t : Ty), l[k]? = some t → t.nd ≤ Ty.nds l
  | [], k, t, h => by simp at h
  | x :: r, 0, t, h => by simp at h; subst h; unfold Ty.nds; omega
  | x :: r, k + 1, t, h => by have := Ty.nds_get r k t (by simpa using h); unfold Ty.nds; omega
theorem three_boxes (w : World) (o4 o5 o6 : Obj) : Below w.heap.size w (((w.alloc o4).alloc o5).alloc o6) ∧ (((w.alloc o4).alloc o5).alloc o6).heap[w.heap.size]? = some o4 ∧ (((w.alloc o4).alloc o5).alloc o6).heap[w.heap.size + 1]? = some o5 ∧ (((w.alloc o4).alloc o5).alloc o6).heap[w.heap.size + 1 + 1]? = some o6 := by
  have h5 := heap_alloc_new (w.alloc o4) o5
  have h6 := heap_alloc_new ((w.alloc o4).alloc o5) o6
  rw [show (w.alloc o4).heap.size = w.heap.size + 1 by simp] at h5
  rw [show ((w.alloc o4).alloc o5).heap.size = w.heap.size + 1 + 1 by simp] at h6
  exact ⟨(((Below.refl _ _).alloc (Nat.le_refl _) _).alloc (by simp) _).alloc (by simp; omega) _, (Below.heap_alloc _ _ _ (by simp; omega)).trans ((Below.heap_alloc _ _ _ (by simp)).trans (heap_alloc_new w o4)), (Below.heap_alloc _ _ _ (by simp)).trans h5, h6⟩

set_option maxHeartbeats 800000 in
set_option maxRecDepth 100000 in
theorem types_step (h : Addr) (lev : Int) (h0 : 0 ≤ lev) (h4 : lev ≤ 400) (t u : Ty) (hl : ∀ (k : Nat) (x y : Ty), t.args[k]? = some x → u.args[k]? = some y → HoldsT h (lev + 1) x y) : HoldsT h lev t u := by
  intro P Q a b w ha hb
  obtain ⟨xk, xp, xn, xl⟩ := t
  obtain ⟨yk, yp, yn, yl⟩ := u
  obtain ⟨o4, ho4⟩ : ∃ o : Obj, o = .cells #[.pointer (some h)] 135 := ⟨_, rfl⟩
  obtain ⟨o5, ho5⟩ : ∃ o : Obj, o = .cells #[.pointer (some a)] 74 := ⟨_, rfl⟩
  obtain ⟨o6, ho6⟩ : ∃ o : Obj, o = .cells #[.pointer (some b)] 74 := ⟨_, rfl⟩
  obtain ⟨hbW, g4, g5, g6⟩ := three_boxes w o4 o5 o6
  have HW := Lib.hid (And.intro g4 (And.intro g5 g6))
  have HA := Lib.hid ha
  have HB := Lib.hid hb
  have HL := Lib.hid hl
  clear g4 g5 g6 ha hb hl
  have hsame : Ty.same (.mk xk xp xn xl) (.mk yk yp yn yl) = (xk == yk && (xn.data.toList == yn.data.toList && Ty.sames xl yl)) := by unfold Ty.same; rfl
  have HS := Lib.hid hsame
  clear hsame
  go_enter Tryz.func46, Tryz.ntmps46
  go_wp2
  rw [← ho4, ← ho5, ← ho6]
  generalize ((w.alloc o4).alloc o5).alloc o6 = W at hbW HW ⊢
  obtain ⟨g4, g5, g6⟩ := HW.out
  subst ho4 ho5 ho6
  have e4 : W.cell? ⟨w.heap.size, 0, none⟩ = some (.pointer (some h)) := by rw [Lib.cell_of_heap g4]; rfl
  have e5 : W.cell? ⟨w.heap.size + 1, 0, none⟩ = some (.pointer (some a)) := by rw [Lib.cell_of_heap g5]; rfl
  have e6 : W.cell? ⟨w.heap.size + 1 + 1, 0, none⟩ = some (.pointer (some b)) := by rw [Lib.cell_of_heap g6]; rfl
  clear g4 g5 g6 HW
  obtain ⟨c0, _, c2, c2', ca, cb, c3, _, _, hxa⟩ := (HA.out.on hbW).cells
  obtain ⟨d0, _, d2, d2', da, db, d3, _, _, hya⟩ := (HB.out.on hbW).cells
  have HXA := Lib.hid hxa
  have HYA := Lib.hid hya
  clear hxa hya
  by_cases hk : xk = yk
  · subst hk
    by_cases hn : xn = yn
    · subst hn
      have HE : Hid (Ty.same (.mk xk xp xn xl) (.mk xk yp xn yl) = Ty.sames xl yl) := Lib.hid (by rw [HS.out]; simp)
      have s1 : IntKind.i64.wrap (lev + 1) = lev + 1 := IntWalk.i64_in _ (by omega)
      go_still_tail 33, (by kernel_rfl)
      change wpList _ _ _ _ _ W.drew
      have hbd : Below W.heap.size W W.drew := (Below.refl _ _).drew
      have HXA2 := Lib.hid (HXA.out.on hbd)
      have HYA2 := Lib.hid (HYA.out.on hbd)
      have hbw2 := hbW.trans (hbd.mono hbW.size)
      generalize W.drew = w2 at HXA2 HYA2 hbw2 ⊢
      go_wp2_with fail
      refine (listT h (lev + 1) xl yl HL.out P Q _ _ w2 HXA2.out HYA2.out).mono ?_
      rintro e w3 ⟨rfl, hb3⟩
      have hbw3 := hbw2.trans (hb3.mono hbw2.size)
      go_wp2
      go_ret
      exact ⟨by rw [HE.out]; rfl, hbw3⟩
    · have q2 := text_ne hn
      have HE : Hid (Ty.same (.mk xk xp xn xl) (.mk xk yp yn yl) = false) := Lib.hid (by rw [HS.out, ← text_eq, q2]; simp)
      clear hn
      go_quiet (fail)
      go_wp2
      go_ret
      exact ⟨by rw [HE.out]; rfl, hbW.trans ((drew_below W _).mono hbW.size)⟩
  · have q1 : (xk == yk) = false := by rw [beq_eq_false_iff_ne]; exact hk
    have HE : Hid (Ty.same (.mk xk xp xn xl) (.mk yk yp yn yl) = false) := Lib.hid (by rw [HS.out, q1]; rfl)
    clear hk
    go_quiet (fail)
    go_wp2
    go_ret
    exact ⟨by rw [HE.out]; rfl, hbW.trans ((drew_below W _).mono hbW.size)⟩
end Go.Proofs.YtdiffpiapdghoaaGreatDoor
