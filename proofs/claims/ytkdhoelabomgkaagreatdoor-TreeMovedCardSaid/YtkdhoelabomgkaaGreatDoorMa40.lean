/- Texts of this proof, joined: RAlls, PRtT, RConst. No condition. -/
import Derived.Test.YtkdhoelabomgkaaGreatDoorMa39
import Derived.Test.YtkdhoelabomgkaaGreatDoorMa26
/-
  Layer 3, the program's side: all, at its six kinds of list, by whatever closure.
-/
namespace Go.Proofs.YtkdhoelabomgkaaGreatDoor
set_option linter.unusedVariables false
open Go.ChangeShapes Go.WideShapes Go.ChangeAt Go.RowKit

/-- what a closure says of one -/
def SaysT (c0 : Addr) (t : Ty) (b : Bool) (w0 : World) : Prop := ∀ (P : Nat → Prop) (a : Addr) (w : World), Below w0.heap.size w0 w → IsTy w P a t →
  Calls Tryz.prog 57 #[.pointer (some a), .pointer (some c0)] w fun e w' => e = .returned (.bool b) ∧ Below w.heap.size w w'
set_option maxHeartbeats 800000 in
set_option maxRecDepth 100000 in
theorem allT (c0 : Addr) (ok : Ty → Bool) (l : List Ty) (w : World) (hall : ∀ (k : Nat) (t : Ty), l[k]? = some t → SaysT c0 t (ok t) w) (P : Nat → Prop) (v : Value) (hs : IsTys w P v l) :
    Calls Tryz.prog 56 #[v, .func (.func 57) #[] #[.pointer (some c0)]] w fun e w' => e = .returned (.bool (l.all ok)) ∧ Below w.heap.size w w' := by
  obtain ⟨ao, cap, rfl, v1, v2⟩ := hs.form
  have HI := Lib.hid hall
  have HS1 := Lib.hid hs
  have hlm : (l.length : Int) ≤ 9223372036854775807 := by unfold maxLen at v2; omega
  clear hall hs
  go_enter Tryz.func56, Tryz.ntmps56
  go_wp2
  go_loopw [8] (fun iv wr => ∃ k : Nat, k ≤ l.length ∧ iv = .int .i64 k ∧ Hid (∀ (j : Nat) (t : Ty), j < k → l[j]? = some t → ok t = true) ∧ Below w.heap.size w wr) (fun iv _ => l.length - (intOf iv).toNat)
  case atStart => exact ⟨0, Nat.zero_le _, rfl, Lib.hid (fun j t hj => by omega), Below.refl _ _⟩
  case round =>
    obtain ⟨i, hi, rfl, H, hbw⟩ := hrel
    by_cases hlt : i < l.length
    · have i1 : (i : Int) < l.length := by omega
      obtain ⟨x, hx⟩ : ∃ x, l[i]? = some x := ⟨l[i], List.getElem?_eq_getElem hlt⟩
      obtain ⟨a, rfl, _, hrow⟩ := HS1.out.at hx
      have HX := Lib.hid hx
      have HQ := Lib.hid (HI.out i x hx P _ wr hbw (hrow.on hbw))
      clear hrow hx
      go_wp2_with fail
      refine HQ.out.mono ?_
      rintro e w3 ⟨rfl, hb3⟩
      have hbw3 := hbw.trans (hb3.mono hbw.size)
      by_cases hr : ok x = true
      · rw [hr]
        have HN : Hid (∀ (j : Nat) (t : Ty), j < i + 1 → l[j]? = some t → ok t = true) := Lib.hid (fun j t hj h1 => by
          by_cases hji : j = i
          · subst hji
            rw [HX.out] at h1
            cases h1; exact hr
          · exact H.out j t (by omega) h1)
        clear hr
        go_wp2
        go_roundw
        case rel => exact ⟨i + 1, by omega, by go_num, HN, hbw3⟩
        case measure => simp [intOf]; omega
      · have hr : ok x = false := by simpa using hr
        rw [hr]
        have HF := Lib.hid (all_not HX.out hr)
        clear hr
        go_wp2
        go_ret
        exact ⟨by rw [HF.out]; rfl, hbw3⟩
    · have i1 : ¬ (i : Int) < l.length := by omega
      have HF : Hid (l.all ok = true) := Lib.hid (all_step fun j t h1 => H.out j t (by have := (List.getElem?_eq_some_iff.1 h1).1; omega) h1)
      go_wp2
      go_ret
      exact ⟨by rw [HF.out]; rfl, hbw⟩
/-- what a closure says of one -/
def SaysP (c0 : Addr) (t : Pa) (b : Bool) (w0 : World) : Prop := ∀ (P : Nat → Prop) (a : Addr) (w : World), Below w0.heap.size w0 w → IsPa w P a t →
  Calls Tryz.prog 62 #[.pointer (some a), .pointer (some c0)] w fun e w' => e = .returned (.bool b) ∧ Below w.heap.size w w'
set_option maxHeartbeats 800000 in
set_option maxRecDepth 100000 in
theorem allP (c0 : Addr) (ok : Pa → Bool) (l : List Pa) (w : World) (hall : ∀ (k : Nat) (t : Pa), l[k]? = some t → SaysP c0 t (ok t) w) (P : Nat → Prop) (v : Value) (hs : IsPas w P v l) :
    Calls Tryz.prog 61 #[v, .func (.func 62) #[] #[.pointer (some c0)]] w fun e w' => e = .returned (.bool (l.all ok)) ∧ Below w.heap.size w w' := by
  obtain ⟨ao, cap, rfl, v1, v2⟩ := hs.form
  have HI := Lib.hid hall
  have HS1 := Lib.hid hs
  have hlm : (l.length : Int) ≤ 9223372036854775807 := by unfold maxLen at v2; omega
  clear hall hs
  go_enter Tryz.func61, Tryz.ntmps61
  go_wp2
  go_loopw [8] (fun iv wr => ∃ k : Nat, k ≤ l.length ∧ iv = .int .i64 k ∧ Hid (∀ (j : Nat) (t : Pa), j < k → l[j]? = some t → ok t = true) ∧ Below w.heap.size w wr) (fun iv _ => l.length - (intOf iv).toNat)
  case atStart => exact ⟨0, Nat.zero_le _, rfl, Lib.hid (fun j t hj => by omega), Below.refl _ _⟩
  case round =>
    obtain ⟨i, hi, rfl, H, hbw⟩ := hrel
    by_cases hlt : i < l.length
    · have i1 : (i : Int) < l.length := by omega
      obtain ⟨x, hx⟩ : ∃ x, l[i]? = some x := ⟨l[i], List.getElem?_eq_getElem hlt⟩
      obtain ⟨a, rfl, _, hrow⟩ := HS1.out.at hx
      have HX := Lib.hid hx
      have HQ := Lib.hid (HI.out i x hx P _ wr hbw (hrow.on hbw))
      clear hrow hx
      go_wp2_with fail
      refine HQ.out.mono ?_
      rintro e w3 ⟨rfl, hb3⟩
      have hbw3 := hbw.trans (hb3.mono hbw.size)
      by_cases hr : ok x = true
      · rw [hr]
        have HN : Hid (∀ (j : Nat) (t : Pa), j < i + 1 → l[j]? = some t → ok t = true) := Lib.hid (fun j t hj h1 => by
          by_cases hji : j = i
          · subst hji
            rw [HX.out] at h1
            cases h1; exact hr
          · exact H.out j t (by omega) h1)
        clear hr
        go_wp2
        go_roundw
        case rel => exact ⟨i + 1, by omega, by go_num, HN, hbw3⟩
        case measure => simp [intOf]; omega
      · have hr : ok x = false := by simpa using hr
        rw [hr]
        have HF := Lib.hid (all_not HX.out hr)
        clear hr
        go_wp2
        go_ret
        exact ⟨by rw [HF.out]; rfl, hbw3⟩
    · have i1 : ¬ (i : Int) < l.length := by omega
      have HF : Hid (l.all ok = true) := Lib.hid (all_step fun j t h1 => H.out j t (by have := (List.getElem?_eq_some_iff.1 h1).1; omega) h1)
      go_wp2
      go_ret
      exact ⟨by rw [HF.out]; rfl, hbw⟩
/-- what a closure says of one -/
def SaysPs (t : Pa) (b : Bool) (w0 : World) : Prop := ∀ (P : Nat → Prop) (a : Addr) (w : World), Below w0.heap.size w0 w → IsPa w P a t →
  Calls Tryz.prog 103 #[.pointer (some a)] w fun e w' => e = .returned (.bool b) ∧ Below w.heap.size w w'
set_option maxHeartbeats 800000 in
set_option maxRecDepth 100000 in
theorem allPs (ok : Pa → Bool) (l : List Pa) (w : World) (hall : ∀ (k : Nat) (t : Pa), l[k]? = some t → SaysPs t (ok t) w) (P : Nat → Prop) (v : Value) (hs : IsPas w P v l) :
    Calls Tryz.prog 61 #[v, .func (.func 103) #[] #[]] w fun e w' => e = .returned (.bool (l.all ok)) ∧ Below w.heap.size w w' := by
  obtain ⟨ao, cap, rfl, v1, v2⟩ := hs.form
  have HI := Lib.hid hall
  have HS1 := Lib.hid hs
  have hlm : (l.length : Int) ≤ 9223372036854775807 := by unfold maxLen at v2; omega
  clear hall hs
  go_enter Tryz.func61, Tryz.ntmps61
  go_wp2
  go_loopw [8] (fun iv wr => ∃ k : Nat, k ≤ l.length ∧ iv = .int .i64 k ∧ Hid (∀ (j : Nat) (t : Pa), j < k → l[j]? = some t → ok t = true) ∧ Below w.heap.size w wr) (fun iv _ => l.length - (intOf iv).toNat)
  case atStart => exact ⟨0, Nat.zero_le _, rfl, Lib.hid (fun j t hj => by omega), Below.refl _ _⟩
  case round =>
    obtain ⟨i, hi, rfl, H, hbw⟩ := hrel
    by_cases hlt : i < l.length
    · have i1 : (i : Int) < l.length := by omega
      obtain ⟨x, hx⟩ : ∃ x, l[i]? = some x := ⟨l[i], List.getElem?_eq_getElem hlt⟩
      obtain ⟨a, rfl, _, hrow⟩ := HS1.out.at hx
      have HX := Lib.hid hx
      have HQ := Lib.hid (HI.out i x hx P _ wr hbw (hrow.on hbw))
      clear hrow hx
      go_wp2_with fail
      refine HQ.out.mono ?_
      rintro e w3 ⟨rfl, hb3⟩
      have hbw3 := hbw.trans (hb3.mono hbw.size)
      by_cases hr : ok x = true
      · rw [hr]
        have HN : Hid (∀ (j : Nat) (t : Pa), j < i + 1 → l[j]? = some t → ok t = true) := Lib.hid (fun j t hj h1 => by
          by_cases hji : j = i
          · subst hji
            rw [HX.out] at h1
            cases h1; exact hr
          · exact H.out j t (by omega) h1)
        clear hr
        go_wp2
        go_roundw
        case rel => exact ⟨i + 1, by omega, by go_num, HN, hbw3⟩
        case measure => simp [intOf]; omega
      · have hr : ok x = false := by simpa using hr
        rw [hr]
        have HF := Lib.hid (all_not HX.out hr)
        clear hr
        go_wp2
        go_ret
        exact ⟨by rw [HF.out]; rfl, hbw3⟩
    · have i1 : ¬ (i : Int) < l.length := by omega
      have HF : Hid (l.all ok = true) := Lib.hid (all_step fun j t h1 => H.out j t (by have := (List.getElem?_eq_some_iff.1 h1).1; omega) h1)
      go_wp2
      go_ret
      exact ⟨by rw [HF.out]; rfl, hbw⟩
/-- what a closure says of one -/
def SaysX (c0 : Addr) (t : Ex) (b : Bool) (w0 : World) : Prop := ∀ (P : Nat → Prop) (a : Addr) (w : World), Below w0.heap.size w0 w → IsEx w P a t →
  Calls Tryz.prog 66 #[.pointer (some a), .pointer (some c0)] w fun e w' => e = .returned (.bool b) ∧ Below w.heap.size w w'
set_option maxHeartbeats 800000 in
set_option maxRecDepth 100000 in
theorem allX (c0 : Addr) (ok : Ex → Bool) (l : List Ex) (w : World) (hall : ∀ (k : Nat) (t : Ex), l[k]? = some t → SaysX c0 t (ok t) w) (P : Nat → Prop) (v : Value) (hs : IsExs w P v l) :
    Calls Tryz.prog 65 #[v, .func (.func 66) #[] #[.pointer (some c0)]] w fun e w' => e = .returned (.bool (l.all ok)) ∧ Below w.heap.size w w' := by
  obtain ⟨ao, cap, rfl, v1, v2⟩ := hs.form
  have HI := Lib.hid hall
  have HS1 := Lib.hid hs
  have hlm : (l.length : Int) ≤ 9223372036854775807 := by unfold maxLen at v2; omega
  clear hall hs
  go_enter Tryz.func65, Tryz.ntmps65
  go_wp2
  go_loopw [8] (fun iv wr => ∃ k : Nat, k ≤ l.length ∧ iv = .int .i64 k ∧ Hid (∀ (j : Nat) (t : Ex), j < k → l[j]? = some t → ok t = true) ∧ Below w.heap.size w wr) (fun iv _ => l.length - (intOf iv).toNat)
  case atStart => exact ⟨0, Nat.zero_le _, rfl, Lib.hid (fun j t hj => by omega), Below.refl _ _⟩
  case round =>
    obtain ⟨i, hi, rfl, H, hbw⟩ := hrel
    by_cases hlt : i < l.length
    · have i1 : (i : Int) < l.length := by omega
      obtain ⟨x, hx⟩ : ∃ x, l[i]? = some x := ⟨l[i], List.getElem?_eq_getElem hlt⟩
      obtain ⟨a, rfl, _, hrow⟩ := HS1.out.at hx
      have HX := Lib.hid hx
      have HQ := Lib.hid (HI.out i x hx P _ wr hbw (hrow.on hbw))
      clear hrow hx
      go_wp2_with fail
      refine HQ.out.mono ?_
      rintro e w3 ⟨rfl, hb3⟩
      have hbw3 := hbw.trans (hb3.mono hbw.size)
      by_cases hr : ok x = true
      · rw [hr]
        have HN : Hid (∀ (j : Nat) (t : Ex), j < i + 1 → l[j]? = some t → ok t = true) := Lib.hid (fun j t hj h1 => by
          by_cases hji : j = i
          · subst hji
            rw [HX.out] at h1
            cases h1; exact hr
          · exact H.out j t (by omega) h1)
        clear hr
        go_wp2
        go_roundw
        case rel => exact ⟨i + 1, by omega, by go_num, HN, hbw3⟩
        case measure => simp [intOf]; omega
      · have hr : ok x = false := by simpa using hr
        rw [hr]
        have HF := Lib.hid (all_not HX.out hr)
        clear hr
        go_wp2
        go_ret
        exact ⟨by rw [HF.out]; rfl, hbw3⟩
    · have i1 : ¬ (i : Int) < l.length := by omega
      have HF : Hid (l.all ok = true) := Lib.hid (all_step fun j t h1 => H.out j t (by have := (List.getElem?_eq_some_iff.1 h1).1; omega) h1)
      go_wp2
      go_ret
      exact ⟨by rw [HF.out]; rfl, hbw⟩
/-- what a closure says of one -/
def SaysA (c0 : Addr) (t : Al) (b : Bool) (w0 : World) : Prop := ∀ (P : Nat → Prop) (a : Addr) (w : World), Below w0.heap.size w0 w → IsAl w P a t →
  Calls Tryz.prog 69 #[.pointer (some a), .pointer (some c0)] w fun e w' => e = .returned (.bool b) ∧ Below w.heap.size w w'
set_option maxHeartbeats 800000 in
set_option maxRecDepth 100000 in
theorem allA (c0 : Addr) (ok : Al → Bool) (l : List Al) (w : World) (hall : ∀ (k : Nat) (t : Al), l[k]? = some t → SaysA c0 t (ok t) w) (P : Nat → Prop) (v : Value) (hs : IsAls w P v l) :
    Calls Tryz.prog 68 #[v, .func (.func 69) #[] #[.pointer (some c0)]] w fun e w' => e = .returned (.bool (l.all ok)) ∧ Below w.heap.size w w' := by
  obtain ⟨ao, cap, rfl, v1, v2⟩ := hs.form
  have HI := Lib.hid hall
  have HS1 := Lib.hid hs
  have hlm : (l.length : Int) ≤ 9223372036854775807 := by unfold maxLen at v2; omega
  clear hall hs
  go_enter Tryz.func68, Tryz.ntmps68
  go_wp2
  go_loopw [8] (fun iv wr => ∃ k : Nat, k ≤ l.length ∧ iv = .int .i64 k ∧ Hid (∀ (j : Nat) (t : Al), j < k → l[j]? = some t → ok t = true) ∧ Below w.heap.size w wr) (fun iv _ => l.length - (intOf iv).toNat)
  case atStart => exact ⟨0, Nat.zero_le _, rfl, Lib.hid (fun j t hj => by omega), Below.refl _ _⟩
  case round =>
    obtain ⟨i, hi, rfl, H, hbw⟩ := hrel
    by_cases hlt : i < l.length
    · have i1 : (i : Int) < l.length := by omega
      obtain ⟨x, hx⟩ : ∃ x, l[i]? = some x := ⟨l[i], List.getElem?_eq_getElem hlt⟩
      obtain ⟨a, rfl, _, hrow⟩ := HS1.out.at hx
      have HX := Lib.hid hx
      have HQ := Lib.hid (HI.out i x hx P _ wr hbw (hrow.on hbw))
      clear hrow hx
      go_wp2_with fail
      refine HQ.out.mono ?_
      rintro e w3 ⟨rfl, hb3⟩
      have hbw3 := hbw.trans (hb3.mono hbw.size)
      by_cases hr : ok x = true
      · rw [hr]
        have HN : Hid (∀ (j : Nat) (t : Al), j < i + 1 → l[j]? = some t → ok t = true) := Lib.hid (fun j t hj h1 => by
          by_cases hji : j = i
          · subst hji
            rw [HX.out] at h1
            cases h1; exact hr
          · exact H.out j t (by omega) h1)
        clear hr
        go_wp2
        go_roundw
        case rel => exact ⟨i + 1, by omega, by go_num, HN, hbw3⟩
        case measure => simp [intOf]; omega
      · have hr : ok x = false := by simpa using hr
        rw [hr]
        have HF := Lib.hid (all_not HX.out hr)
        clear hr
        go_wp2
        go_ret
        exact ⟨by rw [HF.out]; rfl, hbw3⟩
    · have i1 : ¬ (i : Int) < l.length := by omega
      have HF : Hid (l.all ok = true) := Lib.hid (all_step fun j t h1 => H.out j t (by have := (List.getElem?_eq_some_iff.1 h1).1; omega) h1)
      go_wp2
      go_ret
      exact ⟨by rw [HF.out]; rfl, hbw⟩
/-- what a closure says of one -/
def SaysD (c0 : Addr) (c1 : Addr) (t : De) (b : Bool) (w0 : World) : Prop := ∀ (P : Nat → Prop) (a : Addr) (w : World), Below w0.heap.size w0 w → IsDe w P a t →
  Calls Tryz.prog 74 #[.pointer (some a), .pointer (some c0), .pointer (some c1)] w fun e w' => e = .returned (.bool b) ∧ Below w.heap.size w w'
set_option maxHeartbeats 800000 in
set_option maxRecDepth 100000 in
theorem allD (c0 : Addr) (c1 : Addr) (ok : De → Bool) (l : List De) (w : World) (hall : ∀ (k : Nat) (t : De), l[k]? = some t → SaysD c0 c1 t (ok t) w) (P : Nat → Prop) (v : Value) (hs : IsDes w P v l) :
    Calls Tryz.prog 73 #[v, .func (.func 74) #[] #[.pointer (some c0), .pointer (some c1)]] w fun e w' => e = .returned (.bool (l.all ok)) ∧ Below w.heap.size w w' := by
  obtain ⟨ao, cap, rfl, v1, v2⟩ := hs.form
  have HI := Lib.hid hall
  have HS1 := Lib.hid hs
  have hlm : (l.length : Int) ≤ 9223372036854775807 := by unfold maxLen at v2; omega
  clear hall hs
  go_enter Tryz.func73, Tryz.ntmps73
  go_wp2
  go_loopw [8] (fun iv wr => ∃ k : Nat, k ≤ l.length ∧ iv = .int .i64 k ∧ Hid (∀ (j : Nat) (t : De), j < k → l[j]? = some t → ok t = true) ∧ Below w.heap.size w wr) (fun iv _ => l.length - (intOf iv).toNat)
  case atStart => exact ⟨0, Nat.zero_le _, rfl, Lib.hid (fun j t hj => by omega), Below.refl _ _⟩
  case round =>
    obtain ⟨i, hi, rfl, H, hbw⟩ := hrel
    by_cases hlt : i < l.length
    · have i1 : (i : Int) < l.length := by omega
      obtain ⟨x, hx⟩ : ∃ x, l[i]? = some x := ⟨l[i], List.getElem?_eq_getElem hlt⟩
      obtain ⟨a, rfl, _, hrow⟩ := HS1.out.at hx
      have HX := Lib.hid hx
      have HQ := Lib.hid (HI.out i x hx P _ wr hbw (hrow.on hbw))
      clear hrow hx
      go_wp2_with fail
      refine HQ.out.mono ?_
      rintro e w3 ⟨rfl, hb3⟩
      have hbw3 := hbw.trans (hb3.mono hbw.size)
      by_cases hr : ok x = true
      · rw [hr]
        have HN : Hid (∀ (j : Nat) (t : De), j < i + 1 → l[j]? = some t → ok t = true) := Lib.hid (fun j t hj h1 => by
          by_cases hji : j = i
          · subst hji
            rw [HX.out] at h1
            cases h1; exact hr
          · exact H.out j t (by omega) h1)
        clear hr
        go_wp2
        go_roundw
        case rel => exact ⟨i + 1, by omega, by go_num, HN, hbw3⟩
        case measure => simp [intOf]; omega
      · have hr : ok x = false := by simpa using hr
        rw [hr]
        have HF := Lib.hid (all_not HX.out hr)
        clear hr
        go_wp2
        go_ret
        exact ⟨by rw [HF.out]; rfl, hbw3⟩
    · have i1 : ¬ (i : Int) < l.length := by omega
      have HF : Hid (l.all ok = true) := Lib.hid (all_step fun j t h1 => H.out j t (by have := (List.getElem?_eq_some_iff.1 h1).1; omega) h1)
      go_wp2
      go_ret
      exact ⟨by rw [HF.out]; rfl, hbw⟩
/-- what a closure says of one -/
def SaysC (t : Co) (b : Bool) (w0 : World) : Prop := ∀ (P : Nat → Prop) (a : Addr) (w : World), Below w0.heap.size w0 w → IsCo w P a t →
  Calls Tryz.prog 118 #[.pointer (some a)] w fun e w' => e = .returned (.bool b) ∧ Below w.heap.size w w'
set_option maxHeartbeats 800000 in
set_option maxRecDepth 100000 in
theorem allC (ok : Co → Bool) (l : List Co) (w : World) (hall : ∀ (k : Nat) (t : Co), l[k]? = some t → SaysC t (ok t) w) (P : Nat → Prop) (v : Value) (hs : IsCos w P v l) :
    Calls Tryz.prog 117 #[v, .func (.func 118) #[] #[]] w fun e w' => e = .returned (.bool (l.all ok)) ∧ Below w.heap.size w w' := by
  obtain ⟨ao, cap, rfl, v1, v2⟩ := hs.form
  have HI := Lib.hid hall
  have HS1 := Lib.hid hs
  have hlm : (l.length : Int) ≤ 9223372036854775807 := by unfold maxLen at v2; omega
  clear hall hs
  go_enter Tryz.func117, Tryz.ntmps117
  go_wp2
  go_loopw [8] (fun iv wr => ∃ k : Nat, k ≤ l.length ∧ iv = .int .i64 k ∧ Hid (∀ (j : Nat) (t : Co), j < k → l[j]? = some t → ok t = true) ∧ Below w.heap.size w wr) (fun iv _ => l.length - (intOf iv).toNat)
  case atStart => exact ⟨0, Nat.zero_le _, rfl, Lib.hid (fun j t hj => by omega), Below.refl _ _⟩
  case round =>
    obtain ⟨i, hi, rfl, H, hbw⟩ := hrel
    by_cases hlt : i < l.length
    · have i1 : (i : Int) < l.length := by omega
      obtain ⟨x, hx⟩ : ∃ x, l[i]? = some x := ⟨l[i], List.getElem?_eq_getElem hlt⟩
      obtain ⟨a, rfl, _, hrow⟩ := HS1.out.at hx
      have HX := Lib.hid hx
      have HQ := Lib.hid (HI.out i x hx P _ wr hbw (hrow.on hbw))
      clear hrow hx
      go_wp2_with fail
      refine HQ.out.mono ?_
      rintro e w3 ⟨rfl, hb3⟩
      have hbw3 := hbw.trans (hb3.mono hbw.size)
      by_cases hr : ok x = true
      · rw [hr]
        have HN : Hid (∀ (j : Nat) (t : Co), j < i + 1 → l[j]? = some t → ok t = true) := Lib.hid (fun j t hj h1 => by
          by_cases hji : j = i
          · subst hji
            rw [HX.out] at h1
            cases h1; exact hr
          · exact H.out j t (by omega) h1)
        clear hr
        go_wp2
        go_roundw
        case rel => exact ⟨i + 1, by omega, by go_num, HN, hbw3⟩
        case measure => simp [intOf]; omega
      · have hr : ok x = false := by simpa using hr
        rw [hr]
        have HF := Lib.hid (all_not HX.out hr)
        clear hr
        go_wp2
        go_ret
        exact ⟨by rw [HF.out]; rfl, hbw3⟩
    · have i1 : ¬ (i : Int) < l.length := by omega
      have HF : Hid (l.all ok = true) := Lib.hid (all_step fun j t h1 => H.out j t (by have := (List.getElem?_eq_some_iff.1 h1).1; omega) h1)
      go_wp2
      go_ret
      exact ⟨by rw [HF.out]; rfl, hbw⟩
/-- what a closure says of one -/
def SaysCt (t : Ty) (b : Bool) (w0 : World) : Prop := ∀ (P : Nat → Prop) (a : Addr) (w : World), Below w0.heap.size w0 w → IsTy w P a t →
  Calls Tryz.prog 119 #[.pointer (some a)] w fun e w' => e = .returned (.bool b) ∧ Below w.heap.size w w'
set_option maxHeartbeats 800000 in
set_option maxRecDepth 100000 in
theorem allCt (ok : Ty → Bool) (l : List Ty) (w : World) (hall : ∀ (k : Nat) (t : Ty), l[k]? = some t → SaysCt t (ok t) w) (P : Nat → Prop) (v : Value) (hs : IsTys w P v l) :
    Calls Tryz.prog 56 #[v, .func (.func 119) #[] #[]] w fun e w' => e = .returned (.bool (l.all ok)) ∧ Below w.heap.size w w' := by
  obtain ⟨ao, cap, rfl, v1, v2⟩ := hs.form
  have HI := Lib.hid hall
  have HS1 := Lib.hid hs
  have hlm : (l.length : Int) ≤ 9223372036854775807 := by unfold maxLen at v2; omega
  clear hall hs
  go_enter Tryz.func56, Tryz.ntmps56
  go_wp2
  go_loopw [8] (fun iv wr => ∃ k : Nat, k ≤ l.length ∧ iv = .int .i64 k ∧ Hid (∀ (j : Nat) (t : Ty), j < k → l[j]? = some t → ok t = true) ∧ Below w.heap.size w wr) (fun iv _ => l.length - (intOf iv).toNat)
  case atStart => exact ⟨0, Nat.zero_le _, rfl, Lib.hid (fun j t hj => by omega), Below.refl _ _⟩
  case round =>
    obtain ⟨i, hi, rfl, H, hbw⟩ := hrel
    by_cases hlt : i < l.length
    · have i1 : (i : Int) < l.length := by omega
      obtain ⟨x, hx⟩ : ∃ x, l[i]? = some x := ⟨l[i], List.getElem?_eq_getElem hlt⟩
      obtain ⟨a, rfl, _, hrow⟩ := HS1.out.at hx
      have HX := Lib.hid hx
      have HQ := Lib.hid (HI.out i x hx P _ wr hbw (hrow.on hbw))
      clear hrow hx
      go_wp2_with fail
      refine HQ.out.mono ?_
      rintro e w3 ⟨rfl, hb3⟩
      have hbw3 := hbw.trans (hb3.mono hbw.size)
      by_cases hr : ok x = true
      · rw [hr]
        have HN : Hid (∀ (j : Nat) (t : Ty), j < i + 1 → l[j]? = some t → ok t = true) := Lib.hid (fun j t hj h1 => by
          by_cases hji : j = i
          · subst hji
            rw [HX.out] at h1
            cases h1; exact hr
          · exact H.out j t (by omega) h1)
        clear hr
        go_wp2
        go_roundw
        case rel => exact ⟨i + 1, by omega, by go_num, HN, hbw3⟩
        case measure => simp [intOf]; omega
      · have hr : ok x = false := by simpa using hr
        rw [hr]
        have HF := Lib.hid (all_not HX.out hr)
        clear hr
        go_wp2
        go_ret
        exact ⟨by rw [HF.out]; rfl, hbw3⟩
    · have i1 : ¬ (i : Int) < l.length := by omega
      have HF : Hid (l.all ok = true) := Lib.hid (all_step fun j t h1 => H.out j t (by have := (List.getElem?_eq_some_iff.1 h1).1; omega) h1)
      go_wp2
      go_ret
      exact ⟨by rw [HF.out]; rfl, hbw⟩
end Go.Proofs.YtkdhoelabomgkaaGreatDoor
/-
  Layer 3, the program's side: types and patterns that may be.
-/
namespace Go.Proofs.YtkdhoelabomgkaaGreatDoor
set_option linter.unusedVariables false
open Go.ChangeShapes Go.WideShapes Go.ChangeAt Go.RowKit

/-- whether it may be on this level -/
def RtT (lev : Int) (t : Ty) (b : Bool) : Prop := ∀ (P : Nat → Prop) (a : Addr) (w : World), RangeOk w → IsTy w P a t →
  Calls Tryz.prog 33 #[.pointer (some a), .int .i64 lev] w fun e w' => e = .returned (.bool b) ∧ Below w.heap.size w w'
set_option maxHeartbeats 800000 in
theorem sayT (c : Addr) (lev : Int) (h0 : 0 ≤ lev) (h1 : lev ≤ 1000) (t : Ty) (b : Bool) (w0 : World) (hR : RtT (lev + 1) t b) (hr : RangeOk w0) (hc : w0.cell? c = some (.int .i64 lev)) : SaysT c t b w0 := by
  intro P a w hb ha
  have H := Lib.hid (hR P a w (hr.on hb) ha)
  have hc := bel_cell hb hc
  clear ha hr hR hb
  go_enter Tryz.func57, Tryz.ntmps57
  go_wp2_with fail
  refine H.out.mono ?_
  rintro e w' ⟨rfl, hb⟩
  go_wp2
  go_ret
  exact ⟨rfl, hb⟩
set_option maxHeartbeats 800000 in
theorem rtT_zero (lev : Int) (h : 400 < lev) (t : Ty) : RtT lev t false := by
  intro P a w hr ha
  clear hr ha
  go_enter Tryz.func33, Tryz.ntmps33
  go_wp2
  go_ret
  exact ⟨rfl, bl_alloc _ (Below.refl _ _)⟩
set_option maxHeartbeats 1600000 in
set_option maxRecDepth 100000 in
theorem rtT_succ (k p : Int) (n : ByteArray) (l : List Ty) (lev : Int) (h1 : 1 ≤ lev) (h2 : lev ≤ 400) (ok : Ty → Bool) (hall : ∀ (j : Nat) (t : Ty), l[j]? = some t → RtT (lev + 1) t (ok t)) : RtT lev (.mk k p n l) (tyHd k n l.length && l.all ok) := by
  intro P a w hr h
  have hb1 : Below w.heap.size w (w.alloc (.cells #[.int .i64 lev] 3)) := bl_alloc _ (Below.refl _ _)
  have hI := h.on hb1
  have hr1 := hr.on hb1
  have hc : (w.alloc (.cells #[.int .i64 lev] 3)).cell? ⟨w.heap.size, 0, none⟩ = some (.int .i64 lev) := by rw [Lib.cell_of_heap (heap_alloc_new _ _)]; rfl
  go_enter Tryz.func33, Tryz.ntmps33
  go_upto_region 1 with fail
  generalize (w.alloc (.cells #[.int .i64 lev] 3)) = w1 at hb1 hI hr1 hc ⊢
  have q1 : ¬ (400 : Int) < lev := by omega
  have HI := Lib.hid hI
  have HA := Lib.hid hall
  have HR := Lib.hid hr1
  have HB := Lib.hid hb1
  clear h hr hI hall hr1 hb1
  go_wp2_with fail
  refine (tyhd_any _ _ n l P a w1 HR.out HI.out).mono ?_
  rintro e w2 ⟨rfl, hw2⟩
  have hbz := HB.out.trans (hw2.mono HB.out.size)
  cases hhd : tyHd k n l.length with
  | false =>
    go_wp2
    go_ret
    exact ⟨by rw [hhd]; rfl, hbz⟩
  | true =>
    obtain ⟨c0, _, c2, hn, ao, cap, c3, hm, hM, hl⟩ := (HI.out.on hw2).cells
    have d1 := bel_cell hw2 hc
    have HD := Lib.hid d1
    have HX := Lib.hid hl
    have HH := Lib.hid hhd
    clear hc hl hhd
    go_wp2_with fail
    refine (allT _ ok l _ (fun j t hj => sayT _ lev (by omega) (by omega) t (ok t) _ (HA.out j t hj) (HR.out.on hw2) HD.out) P _ HX.out).mono ?_
    rintro e w3 ⟨rfl, hw3⟩
    go_wp2
    go_ret
    exact ⟨by rw [HH.out]; rfl, hbz.trans (hw3.mono hbz.size)⟩
theorem rtT_all : ∀ (left : Nat) (t : Ty), left ≤ 400 → RtT (401 - (left : Int)) t (t.rt left)
  | 0, t, _ => by
    have e : t.rt 0 = false := by cases t; unfold Ty.rt; rfl
    rw [e]
    exact rtT_zero _ (by omega) t
  | left + 1, .mk k p n l, h => by
    have e : (Ty.mk k p n l).rt (left + 1) = (tyHd k n l.length && l.all fun t => t.rt left) := by
      rw [Ty.rt, Ty.rts_all, decide_eq_true (by omega : 1 ≤ left + 1), Bool.true_and, Nat.add_sub_cancel]
    rw [e]
    refine rtT_succ k p n l _ (by omega) (by omega) (fun t => t.rt left) fun j t _ => ?_
    rw [show (401 - ((left + 1 : Nat) : Int)) + 1 = 401 - (left : Int) by omega]
    exact rtT_all left t (by omega)
/-- whether it may be on this level -/
def RtP (lev : Int) (t : Pa) (b : Bool) : Prop := ∀ (P : Nat → Prop) (a : Addr) (w : World), RangeOk w → IsPa w P a t →
  Calls Tryz.prog 36 #[.pointer (some a), .int .i64 lev] w fun e w' => e = .returned (.bool b) ∧ Below w.heap.size w w'
set_option maxHeartbeats 800000 in
theorem sayP (c : Addr) (lev : Int) (h0 : 0 ≤ lev) (h1 : lev ≤ 1000) (t : Pa) (b : Bool) (w0 : World) (hR : RtP (lev + 1) t b) (hr : RangeOk w0) (hc : w0.cell? c = some (.int .i64 lev)) : SaysP c t b w0 := by
  intro P a w hb ha
  have H := Lib.hid (hR P a w (hr.on hb) ha)
  have hc := bel_cell hb hc
  clear ha hr hR hb
  go_enter Tryz.func62, Tryz.ntmps62
  go_wp2_with fail
  refine H.out.mono ?_
  rintro e w' ⟨rfl, hb⟩
  go_wp2
  go_ret
  exact ⟨rfl, hb⟩
set_option maxHeartbeats 800000 in
theorem rtP_zero (lev : Int) (h : 400 < lev) (t : Pa) : RtP lev t false := by
  intro P a w hr ha
  clear hr ha
  go_enter Tryz.func36, Tryz.ntmps36
  go_wp2
  go_ret
  exact ⟨rfl, bl_alloc _ (Below.refl _ _)⟩
set_option maxHeartbeats 1600000 in
set_option maxRecDepth 100000 in
theorem rtP_succ (k p : Int) (n : ByteArray) (m : Int) (l : List Pa) (lev : Int) (h1 : 1 ≤ lev) (h2 : lev ≤ 400) (ok : Pa → Bool) (hall : ∀ (j : Nat) (t : Pa), l[j]? = some t → RtP (lev + 1) t (ok t)) : RtP lev (.mk k p n m l) (paHd k n m l.length && l.all ok) := by
  intro P a w hr h
  have hb1 : Below w.heap.size w (w.alloc (.cells #[.int .i64 lev] 3)) := bl_alloc _ (Below.refl _ _)
  have hI := h.on hb1
  have hr1 := hr.on hb1
  have hc : (w.alloc (.cells #[.int .i64 lev] 3)).cell? ⟨w.heap.size, 0, none⟩ = some (.int .i64 lev) := by rw [Lib.cell_of_heap (heap_alloc_new _ _)]; rfl
  go_enter Tryz.func36, Tryz.ntmps36
  go_upto_region 1 with fail
  generalize (w.alloc (.cells #[.int .i64 lev] 3)) = w1 at hb1 hI hr1 hc ⊢
  have q1 : ¬ (400 : Int) < lev := by omega
  have HI := Lib.hid hI
  have HA := Lib.hid hall
  have HR := Lib.hid hr1
  have HB := Lib.hid hb1
  clear h hr hI hall hr1 hb1
  go_wp2_with fail
  refine (pahd_any _ _ m n l P a w1 HR.out HI.out).mono ?_
  rintro e w2 ⟨rfl, hw2⟩
  have hbz := HB.out.trans (hw2.mono HB.out.size)
  cases hhd : paHd k n m l.length with
  | false =>
    go_wp2
    go_ret
    exact ⟨by rw [hhd]; rfl, hbz⟩
  | true =>
    obtain ⟨c0, _, c2, hn, c3, ao, cap, c4, hm, hM, hl⟩ := (HI.out.on hw2).cells
    have d1 := bel_cell hw2 hc
    have HD := Lib.hid d1
    have HX := Lib.hid hl
    have HH := Lib.hid hhd
    clear hc hl hhd
    go_wp2_with fail
    refine (allP _ ok l _ (fun j t hj => sayP _ lev (by omega) (by omega) t (ok t) _ (HA.out j t hj) (HR.out.on hw2) HD.out) P _ HX.out).mono ?_
    rintro e w3 ⟨rfl, hw3⟩
    go_wp2
    go_ret
    exact ⟨by rw [HH.out]; rfl, hbz.trans (hw3.mono hbz.size)⟩
theorem rtP_all : ∀ (left : Nat) (t : Pa), left ≤ 400 → RtP (401 - (left : Int)) t (t.rt left)
  | 0, t, _ => by
    have e : t.rt 0 = false := by cases t; unfold Pa.rt; rfl
    rw [e]
    exact rtP_zero _ (by omega) t
  | left + 1, .mk k p n m l, h => by
    have e : (Pa.mk k p n m l).rt (left + 1) = (paHd k n m l.length && l.all fun t => t.rt left) := by
      rw [Pa.rt, Pa.rts_all, decide_eq_true (by omega : 1 ≤ left + 1), Bool.true_and, Nat.add_sub_cancel]
    rw [e]
    refine rtP_succ k p n m l _ (by omega) (by omega) (fun t => t.rt left) fun j t _ => ?_
    rw [show (401 - ((left + 1 : Nat) : Int)) + 1 = 401 - (left : Int) by omega]
    exact rtP_all left t (by omega)
set_option maxHeartbeats 800000 in
theorem pats_any (l : List Pa) (P : Nat → Prop) (v : Value) (w : World) (hr : RangeOk w) (hs : IsPas w P v l) :
    Calls Tryz.prog 67 #[v] w fun e w' => e = .returned (.bool (patsB l)) ∧ Below w.heap.size w w' := by
  obtain ⟨ao, cap, rfl, v1, v2⟩ := hs.form
  have hsay : ∀ (j : Nat) (t : Pa), l[j]? = some t → SaysPs t (t.rt 400) w := by
    intro j t _ P a W hb ha
    have H := Lib.hid (rtP_all 400 t (Nat.le_refl _) P a W (hr.on hb) ha)
    clear ha hb hs
    go_enter Tryz.func103, Tryz.ntmps103
    go_wp2_with fail
    refine H.out.mono ?_
    rintro e w' ⟨rfl, hb⟩
    go_wp2
    go_ret
    exact ⟨rfl, hb⟩
  have HQ := Lib.hid (allPs (fun t : Pa => t.rt 400) l w hsay P _ hs)
  clear hs hsay
  go_enter Tryz.func67, Tryz.ntmps67
  go_wp2_with fail
  refine HQ.out.mono ?_
  rintro e w' ⟨rfl, hb⟩
  go_wp2
  go_ret
  exact ⟨rfl, hb⟩
end Go.Proofs.YtkdhoelabomgkaaGreatDoor
/-
  Layer 3, the program's side: RightExpr of the constants' call, and of any tree by rightExpr.
-/
namespace Go.Proofs.YtkdhoelabomgkaaGreatDoor
set_option linter.unusedVariables false
open Go.ChangeShapes Go.WideShapes Go.ChangeAt Go.RowKit

set_option maxHeartbeats 1600000 in
set_option maxRecDepth 100000 in
theorem rightE_of (e : Ex) (b : Bool) (hr : RightE 1 e b) (P : Nat → Prop) (vs : List Value) (w : World) (hv : IsVs w P e.row vs) :
    Calls Tryz.prog 15 #[.agg vs.toArray] w fun e' w' => e' = .returned (.bool b) ∧ Below w.heap.size w w' := by
  obtain ⟨o1, ho1⟩ : ∃ o : Obj, o = .cells vs.toArray 53 := ⟨_, rfl⟩
  have hb1 := bl_alloc o1 (Below.refl w.heap.size w)
  have hv1 := IsVs.on hb1 _ _ hv
  have g1 := heap_alloc_new w o1
  obtain ⟨xk, xp, xn, xm, xl, xps, xal, xds⟩ := e
  obtain ⟨_, a4, a5, a6, a7, b4, b5, b6, b7, rfl, _⟩ := ex_vs hv
  clear hv
  go_enter Tryz.func15, Tryz.ntmps15
  go_upto_region 1 with fail
  rw [← ho1]
  generalize w.alloc o1 = W at hb1 hv1 g1 ⊢
  subst ho1
  have HH := Lib.hid (hr P ⟨w.heap.size, 0, none⟩ W ⟨row_at hv1 g1⟩)
  clear g1 hv1 hr
  go_wp2_with fail
  refine HH.out.mono ?_
  rintro e' w' ⟨rfl, hb2⟩
  go_wp2
  go_ret
  exact ⟨rfl, hb1.trans (hb2.mono hb1.size)⟩
/-- the constants -/
def nameC (n : ByteArray) : Ex := .mk 1 0 n 0 [] [] [] []
def numC (m p : Int) : Ex := .mk 3 p ⟨#[]⟩ m [] [] [] []
def callC (p q : Int) (n : ByteArray) (m : Int) : Ex := .mk 6 p ⟨#[]⟩ 0 [nameC n, numC m q] [] [] []
theorem name_f : nameB ⟨#[102]⟩ = true := by kernel_rfl
theorem right_call (p q m : Int) (hm : 0 ≤ m) (n : ByteArray) (hn : nameB n = true) : RightE 1 (callC p q n m) true := by
  unfold callC
  refine right_plain _ _ _ _ _ 1 (by omega) (by omega) (fun P E w h => rhead_call p _ _ P E w h) ?_
  intro k t ht
  match k with
  | 0 =>
    simp at ht
    subst ht
    exact right_plain _ _ _ _ _ 2 (by omega) (by omega) (fun P E w h => rhead_name _ n hn P E w h) (fun k t ht => by simp at ht)
  | 1 =>
    simp at ht
    subst ht
    exact right_plain _ _ _ _ _ 2 (by omega) (by omega) (fun P E w h => rhead_int _ m hm P E w h) (fun k t ht => by simp at ht)
  | k + 2 => simp at ht
end Go.Proofs.YtkdhoelabomgkaaGreatDoor
