/-
  Layer 2: Word, both sides.
-/
import Derived.Test.YtifmbhcajlnhbaaDoorPWords
import Derived.Test.YtifmbhcajlnhbaaDoorTok0
namespace Go.Proofs.YtifmbhcajlnhbaaDoor
set_option linter.unusedVariables false
open Go.ChangeShapes Go.WideShapes Go.ChangeAt Go.RowKit

/-- is it a Name's text? -/
def wordB (s : ByteArray) : Bool := decide (0 < s.size ∧ s.size ≤ 32 ∧ cls (atB s 0) = 3 ∧ wordEnd s 0 = s.size) && !inL keysL s
theorem wordB_no {s : ByteArray} (h : ¬ (0 < s.size ∧ s.size ≤ 32 ∧ cls (atB s 0) = 3 ∧ wordEnd s 0 = s.size)) : wordB s = false := by
  unfold wordB; rw [decide_eq_false h]; rfl
theorem wordB_yes {s : ByteArray} (h : 0 < s.size ∧ s.size ≤ 32 ∧ cls (atB s 0) = 3 ∧ wordEnd s 0 = s.size) : wordB s = !inL keysL s := by
  unfold wordB; rw [decide_eq_true h]; rfl
theorem empty_text {s : ByteArray} (h : s.size = 0) : s = ⟨#[]⟩ := by
  have e : s.data.toList.length = s.size := Array.length_toList
  have h0 : s.data.toList = [] := List.length_eq_zero_iff.1 (by omega)
  cases s
  exact congrArg ByteArray.mk (Array.toList_inj.1 h0)
theorem not_empty {s : ByteArray} (h : 0 < s.size) : s.toList.isEmpty = false := by
  rw [ByteArray.toList_eq]
  have e1 : s.data.toList.length = s.size := Array.length_toList
  cases hm : s.data.toList with
  | nil => rw [hm] at e1; simp at e1; omega
  | cons a b => rfl

set_option maxHeartbeats 4000000 in
set_option maxRecDepth 100000 in
theorem pword_any (s : ByteArray) (hs : s.size ≤ 1000000) (w : World) :
    Calls Tryd.prog 13 #[.string s] w fun e w' => e = .returned (.bool (wordB s)) ∧ w = w' := by
  by_cases h0 : s.size = 0
  · rw [wordB_no (by omega)]
    obtain rfl := empty_text h0
    go_enter Tryd.func13, Tryd.ntmps13
    go_wp2
    go_ret
    exact ⟨rfl, rfl⟩
  have hne := not_empty (s := s) (by omega)
  by_cases h32 : 32 < s.size
  · rw [wordB_no (by omega)]
    have q : (32 : Int) < s.size := by omega
    go_enter Tryd.func13, Tryd.ntmps13
    go_wp2
    go_ret
    exact ⟨rfl, rfl⟩
  have q : ¬ (32 : Int) < s.size := by omega
  have ea := atB_eq s 0 (by omega)
  have hb := s[0].toNat_lt
  by_cases hc : cls (atB s 0) = 3
  · rw [ea] at hc
    by_cases he : wordEnd s 0 = s.size
    · rw [wordB_yes ⟨by omega, by omega, by rw [ea]; exact hc, he⟩]
      have q2 : ((wordEnd s 0 : Int) == s.size) = true := by rw [beq_iff_eq]; omega
      have q3 : (cls s[0].toNat != 3) = false := by rw [bne_eq_false_iff_eq]; exact hc
      clear ea
      go_enter Tryd.func13, Tryd.ntmps13
      go_wp2_with fail
      refine (class_any (s[0].toNat : Int) (by omega) (by omega) _).mono ?_
      rintro e w' ⟨rfl, rfl⟩
      go_wp2_with fail
      refine (pend_any s hs 0 (Nat.zero_le _) _).mono ?_
      rintro e w' ⟨rfl, rfl⟩
      go_wp2_with fail
      refine (pkey_any s _).mono ?_
      rintro e w' ⟨rfl, rfl⟩
      go_wp2
      go_ret
      exact ⟨rfl, rfl⟩
    · rw [wordB_no (fun h => he h.2.2.2)]
      have q2 : ((wordEnd s 0 : Int) == s.size) = false := by rw [beq_eq_false_iff_ne]; omega
      have q3 : (cls s[0].toNat != 3) = false := by rw [bne_eq_false_iff_eq]; exact hc
      clear ea
      go_enter Tryd.func13, Tryd.ntmps13
      go_wp2_with fail
      refine (class_any (s[0].toNat : Int) (by omega) (by omega) _).mono ?_
      rintro e w' ⟨rfl, rfl⟩
      go_wp2_with fail
      refine (pend_any s hs 0 (Nat.zero_le _) _).mono ?_
      rintro e w' ⟨rfl, rfl⟩
      go_wp2
      go_ret
      exact ⟨rfl, rfl⟩
  · rw [wordB_no (fun h => hc h.2.2.1)]
    rw [ea] at hc
    have q3 : (cls s[0].toNat != 3) = true := by rw [bne_iff_ne]; exact hc
    clear ea
    go_enter Tryd.func13, Tryd.ntmps13
    go_wp2_with fail
    refine (class_any (s[0].toNat : Int) (by omega) (by omega) _).mono ?_
    rintro e w' ⟨rfl, rfl⟩
    go_wp2
    go_ret
    exact ⟨rfl, rfl⟩

set_option maxHeartbeats 4000000 in
set_option maxRecDepth 100000 in
theorem rword_any (s : ByteArray) (hs : s.size ≤ 1000000) (w : World) :
    Calls Tryd.prog 14 #[.string s] w fun e w' => e = .returned (.bool (wordB s)) ∧ Below w.heap.size w w' := by
  by_cases h0 : s.size = 0
  · rw [wordB_no (by omega)]
    have q0 : ¬ (0 : Int) < s.size := by omega
    go_enter Tryd.func14, Tryd.ntmps14
    go_wp2
    go_ret
    exact ⟨rfl, Below.refl _ _⟩
  have q0 : (0 : Int) < s.size := by omega
  by_cases h32 : 32 < s.size
  · rw [wordB_no (by omega)]
    have q : ¬ (s.size : Int) ≤ 32 := by omega
    go_enter Tryd.func14, Tryd.ntmps14
    go_wp2
    go_ret
    exact ⟨rfl, Below.refl _ _⟩
  have q : (s.size : Int) ≤ 32 := by omega
  have ea := atB_eq s 0 (by omega)
  have hb := s[0].toNat_lt
  by_cases hc : cls (atB s 0) = 3
  · rw [ea] at hc
    have HW := Lib.hid (runEnd_ok s (s.size - 0) 0 (Nat.zero_le _) (Nat.le_refl _))
    by_cases he : wordEnd s 0 = s.size
    · rw [wordB_yes ⟨by omega, by omega, by rw [ea]; exact hc, he⟩]
      have q2 : ((wordEnd s 0 : Int) == s.size) = true := by rw [beq_iff_eq]; omega
      have q3 : (cls s[0].toNat == 3) = true := by rw [beq_iff_eq]; exact hc
      clear ea
      go_enter Tryd.func14, Tryd.ntmps14
      go_wp2_with fail
      refine (rclass_any (s[0].toNat : Int) (by omega) (by omega) _).mono ?_
      rintro e w' ⟨rfl, rfl⟩
      go_wp2_with fail
      refine (run_any s hs 0 (Nat.zero_le _) _).mono ?_
      rintro e w' ⟨m, rfl, hm, rfl⟩
      obtain rfl : m = wordEnd s 0 := RunTo.unique hm HW.out
      go_wp2_with fail
      refine (key_any s _).mono ?_
      rintro e w' ⟨rfl, hb⟩
      go_wp2
      go_ret
      exact ⟨rfl, hb⟩
    · rw [wordB_no (fun h => he h.2.2.2)]
      have q2 : ((wordEnd s 0 : Int) == s.size) = false := by rw [beq_eq_false_iff_ne]; omega
      have q3 : (cls s[0].toNat == 3) = true := by rw [beq_iff_eq]; exact hc
      clear ea
      go_enter Tryd.func14, Tryd.ntmps14
      go_wp2_with fail
      refine (rclass_any (s[0].toNat : Int) (by omega) (by omega) _).mono ?_
      rintro e w' ⟨rfl, rfl⟩
      go_wp2_with fail
      refine (run_any s hs 0 (Nat.zero_le _) _).mono ?_
      rintro e w' ⟨m, rfl, hm, rfl⟩
      obtain rfl : m = wordEnd s 0 := RunTo.unique hm HW.out
      go_wp2
      go_ret
      exact ⟨rfl, Below.refl _ _⟩
  · rw [wordB_no (fun h => hc h.2.2.1)]
    rw [ea] at hc
    have q3 : (cls s[0].toNat == 3) = false := by rw [beq_eq_false_iff_ne]; exact hc
    clear ea
    go_enter Tryd.func14, Tryd.ntmps14
    go_wp2_with fail
    refine (rclass_any (s[0].toNat : Int) (by omega) (by omega) _).mono ?_
    rintro e w' ⟨rfl, rfl⟩
    go_wp2
    go_ret
    exact ⟨rfl, Below.refl _ _⟩
end Go.Proofs.YtifmbhcajlnhbaaDoor
