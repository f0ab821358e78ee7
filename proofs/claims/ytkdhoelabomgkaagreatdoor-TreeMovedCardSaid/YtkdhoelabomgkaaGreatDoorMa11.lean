/- Texts of this proof, joined: SameM, PListE, PListA, PListD, PListP, PListT. No condition. -/
import Derived.Test.YtkdhoelabomgkaaGreatDoorMa10
import Derived.Test.YtkdhoelabomgkaaGreatDoorMa02
import Derived.StillTailTactics
import Derived.Deep.RegionHeld3
/-
  Layer 3: when expressions, ways, declarations are the same but for places; how many parts they have. No walk.
-/
namespace Go.Proofs.YtkdhoelabomgkaaGreatDoor
set_option linter.unusedVariables false
open Go.RowKit

def Tx.sames : List ByteArray → List ByteArray → Bool
  | [], [] => true
  | t :: r, t' :: r' => t.data.toList == t'.data.toList && Tx.sames r r'
  | _, _ => false
def Co.same (c d : Co) : Bool := c.name.data.toList == d.name.data.toList && Ty.sames c.args d.args
def Co.sames : List Co → List Co → Bool
  | [], [] => true
  | t :: r, t' :: r' => t.same t' && Co.sames r r'
  | _, _ => false
mutual
def Ex.same : Ex → Ex → Bool
  | .mk k _ n m l ps al ds, .mk k' _ n' m' l' ps' al' ds' => k == k' && (n.data.toList == n'.data.toList && (m == m' && (Ex.sames l l' && (Pa.sames ps ps' && (Al.sames al al' && De.sames ds ds')))))
def Ex.sames : List Ex → List Ex → Bool
  | [], [] => true
  | t :: r, t' :: r' => t.same t' && Ex.sames r r'
  | _, _ => false
def Al.same : Al → Al → Bool
  | .mk p e, .mk p' e' => p.same p' && e.same e'
def Al.sames : List Al → List Al → Bool
  | [], [] => true
  | t :: r, t' :: r' => t.same t' && Al.sames r r'
  | _, _ => false
def De.same : De → De → Bool
  | .mk k _ n vs cs t ps e, .mk k' _ n' vs' cs' t' ps' e' => k == k' && (n.data.toList == n'.data.toList && (Tx.sames vs vs' && (Co.sames cs cs' && (t.same t' && (Pa.sames ps ps' && e.same e')))))
def De.sames : List De → List De → Bool
  | [], [] => true
  | t :: r, t' :: r' => t.same t' && De.sames r r'
  | _, _ => false
end

theorem Co.sames_len : ∀ (l m : List Co), Co.sames l m = true → l.length = m.length
  | [], [], _ => rfl
  | [], _ :: _, h => by unfold Co.sames at h; cases h
  | _ :: _, [], h => by unfold Co.sames at h; cases h
  | t :: r, t' :: r', h => by
    unfold Co.sames at h
    rw [Bool.and_eq_true] at h
    simp [Co.sames_len r r' h.2]
theorem Co.sames_all : ∀ (l m : List Co), l.length = m.length → (∀ (k : Nat) (s t : Co), l[k]? = some s → m[k]? = some t → s.same t = true) → Co.sames l m = true
  | [], [], _, _ => by unfold Co.sames; rfl
  | [], _ :: _, h, _ => by cases h
  | _ :: _, [], h, _ => by cases h
  | t :: r, t' :: r', h, ha => by
    unfold Co.sames
    rw [ha 0 t t' rfl rfl, Co.sames_all r r' (by simpa using h) (fun k s u h1 h2 => ha (k + 1) s u (by simpa using h1) (by simpa using h2))]
    rfl
theorem Co.sames_not : ∀ (l m : List Co) (k : Nat) (s t : Co), l[k]? = some s → m[k]? = some t → s.same t = false → Co.sames l m = false
  | [], _, k, s, t, h, _, _ => by simp at h
  | _ :: _, [], k, s, t, _, h, _ => by simp at h
  | x :: r, y :: r', 0, s, t, h1, h2, h => by
    simp at h1 h2
    subst h1 h2
    unfold Co.sames
    rw [h]; rfl
  | x :: r, y :: r', k + 1, s, t, h1, h2, h => by
    unfold Co.sames
    rw [Co.sames_not r r' k s t (by simpa using h1) (by simpa using h2) h, Bool.and_false]

theorem Ex.sames_len : ∀ (l m : List Ex), Ex.sames l m = true → l.length = m.length
  | [], [], _ => rfl
  | [], _ :: _, h => by unfold Ex.sames at h; cases h
  | _ :: _, [], h => by unfold Ex.sames at h; cases h
  | t :: r, t' :: r', h => by
    unfold Ex.sames at h
    rw [Bool.and_eq_true] at h
    simp [Ex.sames_len r r' h.2]
theorem Ex.sames_all : ∀ (l m : List Ex), l.length = m.length → (∀ (k : Nat) (s t : Ex), l[k]? = some s → m[k]? = some t → s.same t = true) → Ex.sames l m = true
  | [], [], _, _ => by unfold Ex.sames; rfl
  | [], _ :: _, h, _ => by cases h
  | _ :: _, [], h, _ => by cases h
  | t :: r, t' :: r', h, ha => by
    unfold Ex.sames
    rw [ha 0 t t' rfl rfl, Ex.sames_all r r' (by simpa using h) (fun k s u h1 h2 => ha (k + 1) s u (by simpa using h1) (by simpa using h2))]
    rfl
theorem Ex.sames_not : ∀ (l m : List Ex) (k : Nat) (s t : Ex), l[k]? = some s → m[k]? = some t → s.same t = false → Ex.sames l m = false
  | [], _, k, s, t, h, _, _ => by simp at h
  | _ :: _, [], k, s, t, _, h, _ => by simp at h
  | x :: r, y :: r', 0, s, t, h1, h2, h => by
    simp at h1 h2
    subst h1 h2
    unfold Ex.sames
    rw [h]; rfl
  | x :: r, y :: r', k + 1, s, t, h1, h2, h => by
    unfold Ex.sames
    rw [Ex.sames_not r r' k s t (by simpa using h1) (by simpa using h2) h, Bool.and_false]

theorem Al.sames_len : ∀ (l m : List Al), Al.sames l m = true → l.length = m.length
  | [], [], _ => rfl
  | [], _ :: _, h => by unfold Al.sames at h; cases h
  | _ :: _, [], h => by unfold Al.sames at h; cases h
  | t :: r, t' :: r', h => by
    unfold Al.sames at h
    rw [Bool.and_eq_true] at h
    simp [Al.sames_len r r' h.2]
theorem Al.sames_all : ∀ (l m : List Al), l.length = m.length → (∀ (k : Nat) (s t : Al), l[k]? = some s → m[k]? = some t → s.same t = true) → Al.sames l m = true
  | [], [], _, _ => by unfold Al.sames; rfl
  | [], _ :: _, h, _ => by cases h
  | _ :: _, [], h, _ => by cases h
  | t :: r, t' :: r', h, ha => by
    unfold Al.sames
    rw [ha 0 t t' rfl rfl, Al.sames_all r r' (by simpa using h) (fun k s u h1 h2 => ha (k + 1) s u (by simpa using h1) (by simpa using h2))]
    rfl
theorem Al.sames_not : ∀ (l m : List Al) (k : Nat) (s t : Al), l[k]? = some s → m[k]? = some t → s.same t = false → Al.sames l m = false
  | [], _, k, s, t, h, _, _ => by simp at h
  | _ :: _, [], k, s, t, _, h, _ => by simp at h
  | x :: r, y :: r', 0, s, t, h1, h2, h => by
    simp at h1 h2
    subst h1 h2
    unfold Al.sames
    rw [h]; rfl
  | x :: r, y :: r', k + 1, s, t, h1, h2, h => by
    unfold Al.sames
    rw [Al.sames_not r r' k s t (by simpa using h1) (by simpa using h2) h, Bool.and_false]

theorem De.sames_len : ∀ (l m : List De), De.sames l m = true → l.length = m.length
  | [], [], _ => rfl
  | [], _ :: _, h => by unfold De.sames at h; cases h
  | _ :: _, [], h => by unfold De.sames at h; cases h
  | t :: r, t' :: r', h => by
    unfold De.sames at h
    rw [Bool.and_eq_true] at h
    simp [De.sames_len r r' h.2]
theorem De.sames_all : ∀ (l m : List De), l.length = m.length → (∀ (k : Nat) (s t : De), l[k]? = some s → m[k]? = some t → s.same t = true) → De.sames l m = true
  | [], [], _, _ => by unfold De.sames; rfl
  | [], _ :: _, h, _ => by cases h
  | _ :: _, [], h, _ => by cases h
  | t :: r, t' :: r', h, ha => by
    unfold De.sames
    rw [ha 0 t t' rfl rfl, De.sames_all r r' (by simpa using h) (fun k s u h1 h2 => ha (k + 1) s u (by simpa using h1) (by simpa using h2))]
    rfl
theorem De.sames_not : ∀ (l m : List De) (k : Nat) (s t : De), l[k]? = some s → m[k]? = some t → s.same t = false → De.sames l m = false
  | [], _, k, s, t, h, _, _ => by simp at h
  | _ :: _, [], k, s, t, _, h, _ => by simp at h
  | x :: r, y :: r', 0, s, t, h1, h2, h => by
    simp at h1 h2
    subst h1 h2
    unfold De.sames
    rw [h]; rfl
  | x :: r, y :: r', k + 1, s, t, h1, h2, h => by
    unfold De.sames
    rw [De.sames_not r r' k s t (by simpa using h1) (by simpa using h2) h, Bool.and_false]

theorem Tx.sames_len : ∀ (l m : List ByteArray), Tx.sames l m = true → l.length = m.length
  | [], [], _ => rfl
  | [], _ :: _, h => by unfold Tx.sames at h; cases h
  | _ :: _, [], h => by unfold Tx.sames at h; cases h
  | t :: r, t' :: r', h => by
    unfold Tx.sames at h
    rw [Bool.and_eq_true] at h
    simp [Tx.sames_len r r' h.2]
theorem Tx.sames_all : ∀ (l m : List ByteArray), l.length = m.length → (∀ (k : Nat) (s t : ByteArray), l[k]? = some s → m[k]? = some t → (s.data.toList == t.data.toList) = true) → Tx.sames l m = true
  | [], [], _, _ => by unfold Tx.sames; rfl
  | [], _ :: _, h, _ => by cases h
  | _ :: _, [], h, _ => by cases h
  | t :: r, t' :: r', h, ha => by
    unfold Tx.sames
    rw [ha 0 t t' rfl rfl, Tx.sames_all r r' (by simpa using h) (fun k s u h1 h2 => ha (k + 1) s u (by simpa using h1) (by simpa using h2))]
    rfl
theorem Tx.sames_not : ∀ (l m : List ByteArray) (k : Nat) (s t : ByteArray), l[k]? = some s → m[k]? = some t → (s.data.toList == t.data.toList) = false → Tx.sames l m = false
  | [], _, k, s, t, h, _, _ => by simp at h
  | _ :: _, [], k, s, t, _, h, _ => by simp at h
  | x :: r, y :: r', 0, s, t, h1, h2, h => by
    simp at h1 h2
    subst h1 h2
    unfold Tx.sames
    rw [h]; rfl
  | x :: r, y :: r', k + 1, s, t, h1, h2, h => by
    unfold Tx.sames
    rw [Tx.sames_not r r' k s t (by simpa using h1) (by simpa using h2) h, Bool.and_false]
end Go.Proofs.YtkdhoelabomgkaaGreatDoor
/-
  Layer 3, the program's side: sameList, at one of its kinds of list, given what holds two of its parts.
-/
namespace Go.Proofs.YtkdhoelabomgkaaGreatDoor
set_option linter.unusedVariables false
open Go.ChangeShapes Go.WideShapes Go.ChangeAt Go.RowKit


/-- two parts are held against each other at this level -/
def HoldsE (h : Addr) (lev : Int) (t u : Ex) : Prop := ∀ (P Q : Nat → Prop) (a b : Addr) (w : World), IsEx w P a t → IsEx w Q b u →
  Calls Tryz.prog 47 #[.pointer (some h), .pointer (some a), .pointer (some b), .int .i64 lev] w fun e w' => e = .returned (.bool (t.same u)) ∧ Below w.heap.size w w'
set_option maxHeartbeats 800000 in
set_option maxRecDepth 100000 in
theorem listE (h : Addr) (lev : Int) (sl tl : List Ex) (hall : ∀ (k : Nat) (t u : Ex), sl[k]? = some t → tl[k]? = some u → HoldsE h lev t u) (P Q : Nat → Prop) (v v' : Value) (w : World) (hs : IsExs w P v sl) (ht : IsExs w Q v' tl) :
    Calls Tryz.prog 85 #[v, v', .int .i64 lev, .func (.func 47) #[.pointer (some h)] #[]] w fun e w' => e = .returned (.bool (Ex.sames sl tl)) ∧ Below w.heap.size w w' := by
  obtain ⟨ao, cap, rfl, v1, v2⟩ := hs.form
  obtain ⟨bo, cap2, rfl, u1, u2⟩ := ht.form
  have HI := Lib.hid hall
  have HS1 := Lib.hid hs
  have HT1 := Lib.hid ht
  have hlm : (sl.length : Int) ≤ 9223372036854775807 := by unfold maxLen at v2; omega
  clear hall hs ht
  by_cases hl : sl.length = tl.length
  · have q3 : ((sl.length : Int) != tl.length) = false := by rw [bne_eq_false_iff_eq]; omega
    have HLn := Lib.hid hl
    clear hl
    go_enter Tryz.func85, Tryz.ntmps85
    go_wp2
    go_loopw [17] (fun iv wr => ∃ k : Nat, k ≤ sl.length ∧ iv = .int .i64 k ∧ Hid (∀ (j : Nat) (s t : Ex), j < k → sl[j]? = some s → tl[j]? = some t → (s.same t) = true) ∧ Below w.heap.size w wr) (fun iv _ => sl.length - (intOf iv).toNat)
    case atStart => exact ⟨0, Nat.zero_le _, rfl, Lib.hid (fun j s t hj => by omega), Below.refl _ _⟩
    case round =>
      obtain ⟨i, hi, rfl, H, hbw⟩ := hrel
      by_cases hlt : i < sl.length
      · have i1 : (i : Int) < sl.length := by omega
        have i2 : (i : Int) < tl.length := by have := HLn.out; omega
        obtain ⟨x, hx⟩ : ∃ x, sl[i]? = some x := ⟨sl[i], List.getElem?_eq_getElem hlt⟩
        obtain ⟨y, hy⟩ : ∃ y, tl[i]? = some y := ⟨tl[i]'(by have := HLn.out; omega), List.getElem?_eq_getElem (by have := HLn.out; omega)⟩
        obtain ⟨a, rfl, _, hrow⟩ := HS1.out.at hx
        obtain ⟨b, rfl, _, hrow'⟩ := HT1.out.at hy
        have HR := Lib.hid (hrow.on hbw)
        have HR' := Lib.hid (hrow'.on hbw)
        have HX := Lib.hid hx
        have HY := Lib.hid hy
        have HXY := Lib.hid (HI.out i x y hx hy)
        clear hrow hrow' hx hy
        go_wp2
        go_still_tail 8, (by kernel_rfl)
        change wpList _ _ _ _ _ wr.drew
        have hbd : Below wr.heap.size wr wr.drew := (Below.refl _ _).drew
        have HXA2 := Lib.hid (HR.out.on hbd)
        have HYA2 := Lib.hid (HR'.out.on hbd)
        have hbw2 := hbw.trans (hbd.mono hbw.size)
        generalize wr.drew = w2 at HXA2 HYA2 hbw2 ⊢
        go_wp2_with fail
        refine (HXY.out P Q _ _ w2 HXA2.out HYA2.out).mono ?_
        rintro e w3 ⟨rfl, hb3⟩
        have hbw3 := hbw2.trans (hb3.mono hbw2.size)
        by_cases hr : (x.same y) = true
        · rw [hr]
          have HN : Hid (∀ (j : Nat) (s t : Ex), j < i + 1 → sl[j]? = some s → tl[j]? = some t → (s.same t) = true) := Lib.hid (fun j s t hj h1 h2 => by
            by_cases hji : j = i
            · subst hji
              rw [HX.out] at h1
              rw [HY.out] at h2
              cases h1; cases h2; exact hr
            · exact H.out j s t (by omega) h1 h2)
          clear hr
          go_wp2
          go_roundw
          case rel => exact ⟨i + 1, by omega, by go_num, HN, hbw3⟩
          case measure => simp [intOf]; omega
        · have hr : (x.same y) = false := by simpa using hr
          have HF : Hid (Ex.sames sl tl = false) := Lib.hid (Ex.sames_not sl tl i _ _ HX.out HY.out hr)
          rw [hr]
          clear hr
          go_wp2
          go_ret
          exact ⟨by rw [HF.out]; rfl, hbw3⟩
      · have i1 : ¬ (i : Int) < sl.length := by omega
        have HF : Hid (Ex.sames sl tl = true) := Lib.hid (Ex.sames_all sl tl HLn.out (fun j s t h1 h2 => H.out j s t (by have := (List.getElem?_eq_some_iff.1 h1).1; omega) h1 h2))
        go_wp2
        go_ret
        exact ⟨by rw [HF.out]; rfl, hbw⟩
  · have q3 : ((sl.length : Int) != tl.length) = true := by rw [bne_iff_ne]; omega
    have HE : Hid (Ex.sames sl tl = false) := Lib.hid (by
      cases hq : Ex.sames sl tl with
      | false => rfl
      | true => exact absurd (Ex.sames_len sl tl hq) hl)
    clear hl
    go_enter Tryz.func85, Tryz.ntmps85
    go_wp2
    go_ret
    exact ⟨by rw [HE.out]; rfl, Below.refl _ _⟩

end Go.Proofs.YtkdhoelabomgkaaGreatDoor
/-
  Layer 3, the program's side: sameList, at one of its kinds of list, given what holds two of its parts.
-/
namespace Go.Proofs.YtkdhoelabomgkaaGreatDoor
set_option linter.unusedVariables false
open Go.ChangeShapes Go.WideShapes Go.ChangeAt Go.RowKit


/-- two parts are held against each other at this level -/
def HoldsA (h : Addr) (lev : Int) (t u : Al) : Prop := ∀ (P Q : Nat → Prop) (a b : Addr) (w : World), IsAl w P a t → IsAl w Q b u →
  Calls Tryz.prog 87 #[.pointer (some h), .pointer (some a), .pointer (some b), .int .i64 lev] w fun e w' => e = .returned (.bool (t.same u)) ∧ Below w.heap.size w w'
set_option maxHeartbeats 800000 in
set_option maxRecDepth 100000 in
theorem listA (h : Addr) (lev : Int) (sl tl : List Al) (hall : ∀ (k : Nat) (t u : Al), sl[k]? = some t → tl[k]? = some u → HoldsA h lev t u) (P Q : Nat → Prop) (v v' : Value) (w : World) (hs : IsAls w P v sl) (ht : IsAls w Q v' tl) :
    Calls Tryz.prog 86 #[v, v', .int .i64 lev, .func (.func 87) #[.pointer (some h)] #[]] w fun e w' => e = .returned (.bool (Al.sames sl tl)) ∧ Below w.heap.size w w' := by
  obtain ⟨ao, cap, rfl, v1, v2⟩ := hs.form
  obtain ⟨bo, cap2, rfl, u1, u2⟩ := ht.form
  have HI := Lib.hid hall
  have HS1 := Lib.hid hs
  have HT1 := Lib.hid ht
  have hlm : (sl.length : Int) ≤ 9223372036854775807 := by unfold maxLen at v2; omega
  clear hall hs ht
  by_cases hl : sl.length = tl.length
  · have q3 : ((sl.length : Int) != tl.length) = false := by rw [bne_eq_false_iff_eq]; omega
    have HLn := Lib.hid hl
    clear hl
    go_enter Tryz.func86, Tryz.ntmps86
    go_wp2
    go_loopw [17] (fun iv wr => ∃ k : Nat, k ≤ sl.length ∧ iv = .int .i64 k ∧ Hid (∀ (j : Nat) (s t : Al), j < k → sl[j]? = some s → tl[j]? = some t → (s.same t) = true) ∧ Below w.heap.size w wr) (fun iv _ => sl.length - (intOf iv).toNat)
    case atStart => exact ⟨0, Nat.zero_le _, rfl, Lib.hid (fun j s t hj => by omega), Below.refl _ _⟩
    case round =>
      obtain ⟨i, hi, rfl, H, hbw⟩ := hrel
      by_cases hlt : i < sl.length
      · have i1 : (i : Int) < sl.length := by omega
        have i2 : (i : Int) < tl.length := by have := HLn.out; omega
        obtain ⟨x, hx⟩ : ∃ x, sl[i]? = some x := ⟨sl[i], List.getElem?_eq_getElem hlt⟩
        obtain ⟨y, hy⟩ : ∃ y, tl[i]? = some y := ⟨tl[i]'(by have := HLn.out; omega), List.getElem?_eq_getElem (by have := HLn.out; omega)⟩
        obtain ⟨a, rfl, _, hrow⟩ := HS1.out.at hx
        obtain ⟨b, rfl, _, hrow'⟩ := HT1.out.at hy
        have HR := Lib.hid (hrow.on hbw)
        have HR' := Lib.hid (hrow'.on hbw)
        have HX := Lib.hid hx
        have HY := Lib.hid hy
        have HXY := Lib.hid (HI.out i x y hx hy)
        clear hrow hrow' hx hy
        go_wp2
        go_still_tail 8, (by kernel_rfl)
        change wpList _ _ _ _ _ wr.drew
        have hbd : Below wr.heap.size wr wr.drew := (Below.refl _ _).drew
        have HXA2 := Lib.hid (HR.out.on hbd)
        have HYA2 := Lib.hid (HR'.out.on hbd)
        have hbw2 := hbw.trans (hbd.mono hbw.size)
        generalize wr.drew = w2 at HXA2 HYA2 hbw2 ⊢
        go_wp2_with fail
        refine (HXY.out P Q _ _ w2 HXA2.out HYA2.out).mono ?_
        rintro e w3 ⟨rfl, hb3⟩
        have hbw3 := hbw2.trans (hb3.mono hbw2.size)
        by_cases hr : (x.same y) = true
        · rw [hr]
          have HN : Hid (∀ (j : Nat) (s t : Al), j < i + 1 → sl[j]? = some s → tl[j]? = some t → (s.same t) = true) := Lib.hid (fun j s t hj h1 h2 => by
            by_cases hji : j = i
            · subst hji
              rw [HX.out] at h1
              rw [HY.out] at h2
              cases h1; cases h2; exact hr
            · exact H.out j s t (by omega) h1 h2)
          clear hr
          go_wp2
          go_roundw
          case rel => exact ⟨i + 1, by omega, by go_num, HN, hbw3⟩
          case measure => simp [intOf]; omega
        · have hr : (x.same y) = false := by simpa using hr
          have HF : Hid (Al.sames sl tl = false) := Lib.hid (Al.sames_not sl tl i _ _ HX.out HY.out hr)
          rw [hr]
          clear hr
          go_wp2
          go_ret
          exact ⟨by rw [HF.out]; rfl, hbw3⟩
      · have i1 : ¬ (i : Int) < sl.length := by omega
        have HF : Hid (Al.sames sl tl = true) := Lib.hid (Al.sames_all sl tl HLn.out (fun j s t h1 h2 => H.out j s t (by have := (List.getElem?_eq_some_iff.1 h1).1; omega) h1 h2))
        go_wp2
        go_ret
        exact ⟨by rw [HF.out]; rfl, hbw⟩
  · have q3 : ((sl.length : Int) != tl.length) = true := by rw [bne_iff_ne]; omega
    have HE : Hid (Al.sames sl tl = false) := Lib.hid (by
      cases hq : Al.sames sl tl with
      | false => rfl
      | true => exact absurd (Al.sames_len sl tl hq) hl)
    clear hl
    go_enter Tryz.func86, Tryz.ntmps86
    go_wp2
    go_ret
    exact ⟨by rw [HE.out]; rfl, Below.refl _ _⟩

end Go.Proofs.YtkdhoelabomgkaaGreatDoor
/-
  Layer 3, the program's side: sameList, at one of its kinds of list, given what holds two of its parts.
-/
namespace Go.Proofs.YtkdhoelabomgkaaGreatDoor
set_option linter.unusedVariables false
open Go.ChangeShapes Go.WideShapes Go.ChangeAt Go.RowKit


/-- two parts are held against each other at this level -/
def HoldsD (h : Addr) (lev : Int) (t u : De) : Prop := ∀ (P Q : Nat → Prop) (a b : Addr) (w : World), IsDe w P a t → IsDe w Q b u →
  Calls Tryz.prog 49 #[.pointer (some h), .pointer (some a), .pointer (some b), .int .i64 lev] w fun e w' => e = .returned (.bool (t.same u)) ∧ Below w.heap.size w w'
set_option maxHeartbeats 800000 in
set_option maxRecDepth 100000 in
theorem listD (h : Addr) (lev : Int) (sl tl : List De) (hall : ∀ (k : Nat) (t u : De), sl[k]? = some t → tl[k]? = some u → HoldsD h lev t u) (P Q : Nat → Prop) (v v' : Value) (w : World) (hs : IsDes w P v sl) (ht : IsDes w Q v' tl) :
    Calls Tryz.prog 48 #[v, v', .int .i64 lev, .func (.func 49) #[.pointer (some h)] #[]] w fun e w' => e = .returned (.bool (De.sames sl tl)) ∧ Below w.heap.size w w' := by
  obtain ⟨ao, cap, rfl, v1, v2⟩ := hs.form
  obtain ⟨bo, cap2, rfl, u1, u2⟩ := ht.form
  have HI := Lib.hid hall
  have HS1 := Lib.hid hs
  have HT1 := Lib.hid ht
  have hlm : (sl.length : Int) ≤ 9223372036854775807 := by unfold maxLen at v2; omega
  clear hall hs ht
  by_cases hl : sl.length = tl.length
  · have q3 : ((sl.length : Int) != tl.length) = false := by rw [bne_eq_false_iff_eq]; omega
    have HLn := Lib.hid hl
    clear hl
    go_enter Tryz.func48, Tryz.ntmps48
    go_wp2
    go_loopw [17] (fun iv wr => ∃ k : Nat, k ≤ sl.length ∧ iv = .int .i64 k ∧ Hid (∀ (j : Nat) (s t : De), j < k → sl[j]? = some s → tl[j]? = some t → (s.same t) = true) ∧ Below w.heap.size w wr) (fun iv _ => sl.length - (intOf iv).toNat)
    case atStart => exact ⟨0, Nat.zero_le _, rfl, Lib.hid (fun j s t hj => by omega), Below.refl _ _⟩
    case round =>
      obtain ⟨i, hi, rfl, H, hbw⟩ := hrel
      by_cases hlt : i < sl.length
      · have i1 : (i : Int) < sl.length := by omega
        have i2 : (i : Int) < tl.length := by have := HLn.out; omega
        obtain ⟨x, hx⟩ : ∃ x, sl[i]? = some x := ⟨sl[i], List.getElem?_eq_getElem hlt⟩
        obtain ⟨y, hy⟩ : ∃ y, tl[i]? = some y := ⟨tl[i]'(by have := HLn.out; omega), List.getElem?_eq_getElem (by have := HLn.out; omega)⟩
        obtain ⟨a, rfl, _, hrow⟩ := HS1.out.at hx
        obtain ⟨b, rfl, _, hrow'⟩ := HT1.out.at hy
        have HR := Lib.hid (hrow.on hbw)
        have HR' := Lib.hid (hrow'.on hbw)
        have HX := Lib.hid hx
        have HY := Lib.hid hy
        have HXY := Lib.hid (HI.out i x y hx hy)
        clear hrow hrow' hx hy
        go_wp2
        go_still_tail 8, (by kernel_rfl)
        change wpList _ _ _ _ _ wr.drew
        have hbd : Below wr.heap.size wr wr.drew := (Below.refl _ _).drew
        have HXA2 := Lib.hid (HR.out.on hbd)
        have HYA2 := Lib.hid (HR'.out.on hbd)
        have hbw2 := hbw.trans (hbd.mono hbw.size)
        generalize wr.drew = w2 at HXA2 HYA2 hbw2 ⊢
        go_wp2_with fail
        refine (HXY.out P Q _ _ w2 HXA2.out HYA2.out).mono ?_
        rintro e w3 ⟨rfl, hb3⟩
        have hbw3 := hbw2.trans (hb3.mono hbw2.size)
        by_cases hr : (x.same y) = true
        · rw [hr]
          have HN : Hid (∀ (j : Nat) (s t : De), j < i + 1 → sl[j]? = some s → tl[j]? = some t → (s.same t) = true) := Lib.hid (fun j s t hj h1 h2 => by
            by_cases hji : j = i
            · subst hji
              rw [HX.out] at h1
              rw [HY.out] at h2
              cases h1; cases h2; exact hr
            · exact H.out j s t (by omega) h1 h2)
          clear hr
          go_wp2
          go_roundw
          case rel => exact ⟨i + 1, by omega, by go_num, HN, hbw3⟩
          case measure => simp [intOf]; omega
        · have hr : (x.same y) = false := by simpa using hr
          have HF : Hid (De.sames sl tl = false) := Lib.hid (De.sames_not sl tl i _ _ HX.out HY.out hr)
          rw [hr]
          clear hr
          go_wp2
          go_ret
          exact ⟨by rw [HF.out]; rfl, hbw3⟩
      · have i1 : ¬ (i : Int) < sl.length := by omega
        have HF : Hid (De.sames sl tl = true) := Lib.hid (De.sames_all sl tl HLn.out (fun j s t h1 h2 => H.out j s t (by have := (List.getElem?_eq_some_iff.1 h1).1; omega) h1 h2))
        go_wp2
        go_ret
        exact ⟨by rw [HF.out]; rfl, hbw⟩
  · have q3 : ((sl.length : Int) != tl.length) = true := by rw [bne_iff_ne]; omega
    have HE : Hid (De.sames sl tl = false) := Lib.hid (by
      cases hq : De.sames sl tl with
      | false => rfl
      | true => exact absurd (De.sames_len sl tl hq) hl)
    clear hl
    go_enter Tryz.func48, Tryz.ntmps48
    go_wp2
    go_ret
    exact ⟨by rw [HE.out]; rfl, Below.refl _ _⟩

end Go.Proofs.YtkdhoelabomgkaaGreatDoor
/-
  Layer 3, the program's side: sameList, at one of its kinds of list, given what holds two of its parts.
-/
namespace Go.Proofs.YtkdhoelabomgkaaGreatDoor
set_option linter.unusedVariables false
open Go.ChangeShapes Go.WideShapes Go.ChangeAt Go.RowKit


/-- two parts are held against each other at this level -/
def HoldsP (h : Addr) (lev : Int) (t u : Pa) : Prop := ∀ (P Q : Nat → Prop) (a b : Addr) (w : World), IsPa w P a t → IsPa w Q b u →
  Calls Tryz.prog 43 #[.pointer (some h), .pointer (some a), .pointer (some b), .int .i64 lev] w fun e w' => e = .returned (.bool (t.same u)) ∧ Below w.heap.size w w'
set_option maxHeartbeats 800000 in
set_option maxRecDepth 100000 in
theorem listP (h : Addr) (lev : Int) (sl tl : List Pa) (hall : ∀ (k : Nat) (t u : Pa), sl[k]? = some t → tl[k]? = some u → HoldsP h lev t u) (P Q : Nat → Prop) (v v' : Value) (w : World) (hs : IsPas w P v sl) (ht : IsPas w Q v' tl) :
    Calls Tryz.prog 81 #[v, v', .int .i64 lev, .func (.func 43) #[.pointer (some h)] #[]] w fun e w' => e = .returned (.bool (Pa.sames sl tl)) ∧ Below w.heap.size w w' := by
  obtain ⟨ao, cap, rfl, v1, v2⟩ := hs.form
  obtain ⟨bo, cap2, rfl, u1, u2⟩ := ht.form
  have HI := Lib.hid hall
  have HS1 := Lib.hid hs
  have HT1 := Lib.hid ht
  have hlm : (sl.length : Int) ≤ 9223372036854775807 := by unfold maxLen at v2; omega
  clear hall hs ht
  by_cases hl : sl.length = tl.length
  · have q3 : ((sl.length : Int) != tl.length) = false := by rw [bne_eq_false_iff_eq]; omega
    have HLn := Lib.hid hl
    clear hl
    go_enter Tryz.func81, Tryz.ntmps81
    go_wp2
    go_loopw [17] (fun iv wr => ∃ k : Nat, k ≤ sl.length ∧ iv = .int .i64 k ∧ Hid (∀ (j : Nat) (s t : Pa), j < k → sl[j]? = some s → tl[j]? = some t → (s.same t) = true) ∧ Below w.heap.size w wr) (fun iv _ => sl.length - (intOf iv).toNat)
    case atStart => exact ⟨0, Nat.zero_le _, rfl, Lib.hid (fun j s t hj => by omega), Below.refl _ _⟩
    case round =>
      obtain ⟨i, hi, rfl, H, hbw⟩ := hrel
      by_cases hlt : i < sl.length
      · have i1 : (i : Int) < sl.length := by omega
        have i2 : (i : Int) < tl.length := by have := HLn.out; omega
        obtain ⟨x, hx⟩ : ∃ x, sl[i]? = some x := ⟨sl[i], List.getElem?_eq_getElem hlt⟩
        obtain ⟨y, hy⟩ : ∃ y, tl[i]? = some y := ⟨tl[i]'(by have := HLn.out; omega), List.getElem?_eq_getElem (by have := HLn.out; omega)⟩
        obtain ⟨a, rfl, _, hrow⟩ := HS1.out.at hx
        obtain ⟨b, rfl, _, hrow'⟩ := HT1.out.at hy
        have HR := Lib.hid (hrow.on hbw)
        have HR' := Lib.hid (hrow'.on hbw)
        have HX := Lib.hid hx
        have HY := Lib.hid hy
        have HXY := Lib.hid (HI.out i x y hx hy)
        clear hrow hrow' hx hy
        go_wp2
        go_still_tail 8, (by kernel_rfl)
        change wpList _ _ _ _ _ wr.drew
        have hbd : Below wr.heap.size wr wr.drew := (Below.refl _ _).drew
        have HXA2 := Lib.hid (HR.out.on hbd)
        have HYA2 := Lib.hid (HR'.out.on hbd)
        have hbw2 := hbw.trans (hbd.mono hbw.size)
        generalize wr.drew = w2 at HXA2 HYA2 hbw2 ⊢
        go_wp2_with fail
        refine (HXY.out P Q _ _ w2 HXA2.out HYA2.out).mono ?_
        rintro e w3 ⟨rfl, hb3⟩
        have hbw3 := hbw2.trans (hb3.mono hbw2.size)
        by_cases hr : (x.same y) = true
        · rw [hr]
          have HN : Hid (∀ (j : Nat) (s t : Pa), j < i + 1 → sl[j]? = some s → tl[j]? = some t → (s.same t) = true) := Lib.hid (fun j s t hj h1 h2 => by
            by_cases hji : j = i
            · subst hji
              rw [HX.out] at h1
              rw [HY.out] at h2
              cases h1; cases h2; exact hr
            · exact H.out j s t (by omega) h1 h2)
          clear hr
          go_wp2
          go_roundw
          case rel => exact ⟨i + 1, by omega, by go_num, HN, hbw3⟩
          case measure => simp [intOf]; omega
        · have hr : (x.same y) = false := by simpa using hr
          have HF : Hid (Pa.sames sl tl = false) := Lib.hid (Pa.sames_not sl tl i _ _ HX.out HY.out hr)
          rw [hr]
          clear hr
          go_wp2
          go_ret
          exact ⟨by rw [HF.out]; rfl, hbw3⟩
      · have i1 : ¬ (i : Int) < sl.length := by omega
        have HF : Hid (Pa.sames sl tl = true) := Lib.hid (Pa.sames_all sl tl HLn.out (fun j s t h1 h2 => H.out j s t (by have := (List.getElem?_eq_some_iff.1 h1).1; omega) h1 h2))
        go_wp2
        go_ret
        exact ⟨by rw [HF.out]; rfl, hbw⟩
  · have q3 : ((sl.length : Int) != tl.length) = true := by rw [bne_iff_ne]; omega
    have HE : Hid (Pa.sames sl tl = false) := Lib.hid (by
      cases hq : Pa.sames sl tl with
      | false => rfl
      | true => exact absurd (Pa.sames_len sl tl hq) hl)
    clear hl
    go_enter Tryz.func81, Tryz.ntmps81
    go_wp2
    go_ret
    exact ⟨by rw [HE.out]; rfl, Below.refl _ _⟩

end Go.Proofs.YtkdhoelabomgkaaGreatDoor
/-
  Layer 3, the program's side: sameList, at one of its kinds of list, given what holds two of its parts.
-/
namespace Go.Proofs.YtkdhoelabomgkaaGreatDoor
set_option linter.unusedVariables false
open Go.ChangeShapes Go.WideShapes Go.ChangeAt Go.RowKit

theorem bool_ret {a b : Bool} (h : a = b) : Ending.returned (.bool a) = .returned (.bool b) := by rw [h]

/-- two parts are held against each other at this level -/
def HoldsT (h : Addr) (lev : Int) (t u : Ty) : Prop := ∀ (P Q : Nat → Prop) (a b : Addr) (w : World), IsTy w P a t → IsTy w Q b u →
  Calls Tryz.prog 46 #[.pointer (some h), .pointer (some a), .pointer (some b), .int .i64 lev] w fun e w' => e = .returned (.bool (t.same u)) ∧ Below w.heap.size w w'
set_option maxHeartbeats 800000 in
set_option maxRecDepth 100000 in
theorem listT (h : Addr) (lev : Int) (sl tl : List Ty) (hall : ∀ (k : Nat) (t u : Ty), sl[k]? = some t → tl[k]? = some u → HoldsT h lev t u) (P Q : Nat → Prop) (v v' : Value) (w : World) (hs : IsTys w P v sl) (ht : IsTys w Q v' tl) :
    Calls Tryz.prog 83 #[v, v', .int .i64 lev, .func (.func 46) #[.pointer (some h)] #[]] w fun e w' => e = .returned (.bool (Ty.sames sl tl)) ∧ Below w.heap.size w w' := by
  obtain ⟨ao, cap, rfl, v1, v2⟩ := hs.form
  obtain ⟨bo, cap2, rfl, u1, u2⟩ := ht.form
  have HI := Lib.hid hall
  have HS1 := Lib.hid hs
  have HT1 := Lib.hid ht
  have hlm : (sl.length : Int) ≤ 9223372036854775807 := by unfold maxLen at v2; omega
  clear hall hs ht
  by_cases hl : sl.length = tl.length
  · have q3 : ((sl.length : Int) != tl.length) = false := by rw [bne_eq_false_iff_eq]; omega
    have HLn := Lib.hid hl
    clear hl
    go_enter Tryz.func83, Tryz.ntmps83
    go_wp2
    go_loopw [17] (fun iv wr => ∃ k : Nat, k ≤ sl.length ∧ iv = .int .i64 k ∧ Hid (∀ (j : Nat) (s t : Ty), j < k → sl[j]? = some s → tl[j]? = some t → (s.same t) = true) ∧ Below w.heap.size w wr) (fun iv _ => sl.length - (intOf iv).toNat)
    case atStart => exact ⟨0, Nat.zero_le _, rfl, Lib.hid (fun j s t hj => by omega), Below.refl _ _⟩
    case round =>
      obtain ⟨i, hi, rfl, H, hbw⟩ := hrel
      by_cases hlt : i < sl.length
      · have i1 : (i : Int) < sl.length := by omega
        have i2 : (i : Int) < tl.length := by have := HLn.out; omega
        obtain ⟨x, hx⟩ : ∃ x, sl[i]? = some x := ⟨sl[i], List.getElem?_eq_getElem hlt⟩
        obtain ⟨y, hy⟩ : ∃ y, tl[i]? = some y := ⟨tl[i]'(by have := HLn.out; omega), List.getElem?_eq_getElem (by have := HLn.out; omega)⟩
        obtain ⟨a, rfl, _, hrow⟩ := HS1.out.at hx
        obtain ⟨b, rfl, _, hrow'⟩ := HT1.out.at hy
        have HR := Lib.hid (hrow.on hbw)
        have HR' := Lib.hid (hrow'.on hbw)
        have HX := Lib.hid hx
        have HY := Lib.hid hy
        have HXY := Lib.hid (HI.out i x y hx hy)
        clear hrow hrow' hx hy
        go_wp2
        go_still_tail 8, (by kernel_rfl)
        change wpList _ _ _ _ _ wr.drew
        have hbd : Below wr.heap.size wr wr.drew := (Below.refl _ _).drew
        have HXA2 := Lib.hid (HR.out.on hbd)
        have HYA2 := Lib.hid (HR'.out.on hbd)
        have hbw2 := hbw.trans (hbd.mono hbw.size)
        generalize wr.drew = w2 at HXA2 HYA2 hbw2 ⊢
        go_wp2_with fail
        refine (HXY.out P Q _ _ w2 HXA2.out HYA2.out).mono ?_
        rintro e w3 ⟨rfl, hb3⟩
        have hbw3 := hbw2.trans (hb3.mono hbw2.size)
        by_cases hr : (x.same y) = true
        · rw [hr]
          have HN : Hid (∀ (j : Nat) (s t : Ty), j < i + 1 → sl[j]? = some s → tl[j]? = some t → (s.same t) = true) := Lib.hid (fun j s t hj h1 h2 => by
            by_cases hji : j = i
            · subst hji
              rw [HX.out] at h1
              rw [HY.out] at h2
              cases h1; cases h2; exact hr
            · exact H.out j s t (by omega) h1 h2)
          clear hr
          go_wp2
          go_roundw
          case rel => exact ⟨i + 1, by omega, by go_num, HN, hbw3⟩
          case measure => simp [intOf]; omega
        · have hr : (x.same y) = false := by simpa using hr
          have HF : Hid (Ty.sames sl tl = false) := Lib.hid (Ty.sames_not sl tl i _ _ HX.out HY.out hr)
          rw [hr]
          clear hr
          go_wp2
          go_ret
          exact ⟨by rw [HF.out]; rfl, hbw3⟩
      · have i1 : ¬ (i : Int) < sl.length := by omega
        have HF : Hid (Ty.sames sl tl = true) := Lib.hid (Ty.sames_all sl tl HLn.out (fun j s t h1 h2 => H.out j s t (by have := (List.getElem?_eq_some_iff.1 h1).1; omega) h1 h2))
        go_wp2
        go_ret
        exact ⟨by rw [HF.out]; rfl, hbw⟩
  · have q3 : ((sl.length : Int) != tl.length) = true := by rw [bne_iff_ne]; omega
    have HE : Hid (Ty.sames sl tl = false) := Lib.hid (by
      cases hq : Ty.sames sl tl with
      | false => rfl
      | true => exact absurd (Ty.sames_len sl tl hq) hl)
    clear hl
    go_enter Tryz.func83, Tryz.ntmps83
    go_wp2
    go_ret
    exact ⟨by rw [HE.out]; rfl, Below.refl _ _⟩

end Go.Proofs.YtkdhoelabomgkaaGreatDoor
