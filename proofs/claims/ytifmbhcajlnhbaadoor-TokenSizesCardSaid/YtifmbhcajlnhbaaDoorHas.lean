/-
  The document's own has (is a byte in a text?) and Class: each answers what is said in plain words, for every text and byte.
-/
import Derived.Test.YtifmbhcajlnhbaaDoorClass
import Derived.Lib.Hide
namespace Go.Proofs.YtifmbhcajlnhbaaDoor
open Go.ChangeShapes Go.WideShapes Go.ChangeAt Go.RowKit

def hasB (l : List UInt8) (c : Int) : Bool := l.any fun b => (b.toNat : Int) == c

theorem hasB_none (s : ByteArray) (c : Int) (k : Nat) (hk : k = s.size) (h : ∀ j, j < k → ∀ hj : j < s.size, (s[j].toNat : Int) ≠ c) : hasB s.data.toList c = false := by
  unfold hasB
  rw [List.any_eq_false]
  intro b hb
  obtain ⟨j, hj, rfl⟩ := List.mem_iff_getElem.1 hb
  have hj' : j < s.size := by simpa using hj
  have := h j (by omega) hj'
  simpa [ByteArray.getElem_eq_getElem_data] using this

theorem hasB_some (s : ByteArray) (c : Int) (k : Nat) (hk : k < s.size) (h : (s[k].toNat : Int) = c) : hasB s.data.toList c = true := by
  unfold hasB
  rw [List.any_eq_true]
  exact ⟨s[k], by simp [ByteArray.getElem_eq_getElem_data], by simpa using h⟩

theorem hasB_step (s : ByteArray) (c : Int) (k : Nat) (h : ∀ j, j < k → ∀ hj : j < s.size, (s[j].toNat : Int) ≠ c) (hk : k < s.size) (e : (s[k].toNat : Int) ≠ c) :
    ∀ j, j < k + 1 → ∀ hj : j < s.size, (s[j].toNat : Int) ≠ c := by
  intro j hj hjs
  by_cases hjk : j = k
  · subst hjk; exact e
  · exact h j (by omega) hjs

theorem ret_bool {a b : Bool} (h : a = b) : Ending.returned (.bool a) = .returned (.bool b) := by rw [h]

set_option maxHeartbeats 1000000 in
theorem has_any (s : ByteArray) (c : Int) (hs : s.size ≤ maxLen) (w : World) :
    Calls Tryd.prog 46 #[.string s, .int .u8 c] w fun e w' => e = .returned (.bool (hasB s.data.toList c)) ∧ w = w' := by
  unfold maxLen at hs
  go_enter Tryd.func46, Tryd.ntmps46
  go_wp2
  go_loop [5] (fun i => ∃ k : Nat, k ≤ s.size ∧ i = .int .i64 k ∧ Hid (∀ j, j < k → ∀ hj : j < s.size, (s[j].toNat : Int) ≠ c)) (fun i => s.size - (intOf i).toNat)
  case atStart => exact ⟨0, Nat.zero_le _, rfl, Lib.hid fun j hj => by omega⟩
  case round =>
    obtain ⟨k, hk, rfl, H⟩ := hrel
    by_cases hlt : k < s.size
    · go_wp2
      · go_ret
        have e : ((s[k].toNat : Int) == c) = true := by assumption
        exact ⟨ret_bool (hasB_some s c k hlt (by simpa using e)).symm, rfl⟩
      · have e : ((s[k].toNat : Int) == c) = false := by assumption
        go_round
        case rel => exact ⟨k + 1, by omega, by go_num, Lib.hid (hasB_step s c k H.out hlt (by simpa using e))⟩
        case measure => simp [intOf]; omega
    · go_wp2
      go_ret
      exact ⟨ret_bool (hasB_none s c k (by omega) H.out).symm, rfl⟩

theorem has1 (c : Int) : hasB [32, 9, 10, 13] c = true ↔ (c = 32 ∨ c = 9 ∨ c = 10 ∨ c = 13) := by simp [hasB]; omega
theorem has1n (c : Int) : hasB [32, 9, 10, 13] c = false ↔ ¬ (c = 32 ∨ c = 9 ∨ c = 10 ∨ c = 13) := by rw [← has1]; simp
theorem has2 (c : Int) : hasB [43, 45, 42, 47, 37, 61, 60, 62, 124, 38, 58, 46, 92, 33] c = true ↔ (c = 43 ∨ c = 45 ∨ c = 42 ∨ c = 47 ∨ c = 37 ∨ c = 61 ∨ c = 60 ∨ c = 62 ∨ c = 124 ∨ c = 38 ∨ c = 58 ∨ c = 46 ∨ c = 92 ∨ c = 33) := by simp [hasB]; omega
theorem has2n (c : Int) : hasB [43, 45, 42, 47, 37, 61, 60, 62, 124, 38, 58, 46, 92, 33] c = false ↔ ¬ (c = 43 ∨ c = 45 ∨ c = 42 ∨ c = 47 ∨ c = 37 ∨ c = 61 ∨ c = 60 ∨ c = 62 ∨ c = 124 ∨ c = 38 ∨ c = 58 ∨ c = 46 ∨ c = 92 ∨ c = 33) := by rw [← has2]; simp
theorem has3 (c : Int) : hasB [40, 41, 91, 93, 123, 125, 44, 59] c = true ↔ (c = 40 ∨ c = 41 ∨ c = 91 ∨ c = 93 ∨ c = 123 ∨ c = 125 ∨ c = 44 ∨ c = 59) := by simp [hasB]; omega
theorem has3n (c : Int) : hasB [40, 41, 91, 93, 123, 125, 44, 59] c = false ↔ ¬ (c = 40 ∨ c = 41 ∨ c = 91 ∨ c = 93 ∨ c = 123 ∨ c = 125 ∨ c = 44 ∨ c = 59) := by rw [← has3]; simp
theorem has4 (c : Int) : hasB [39, 34] c = true ↔ (c = 39 ∨ c = 34) := by simp [hasB]; omega
theorem has4n (c : Int) : hasB [39, 34] c = false ↔ ¬ (c = 39 ∨ c = 34) := by rw [← has4]; simp

set_option maxHeartbeats 2000000 in
theorem rclass_any (c : Int) (h0 : 0 ≤ c) (h1 : c ≤ 255) (w : World) :
    Calls Tryd.prog 30 #[.int .u8 c] w fun e w' => e = .returned (.int .i64 (cls c)) ∧ w = w' := by
  go_enter Tryd.func30, Tryd.ntmps30
  go_wp2_with (go_at_call 46; refine (has_any _ _ (by decide) _).mono ?_; rintro e w' ⟨rfl, rfl⟩)
  all_goals (go_ret; refine ⟨ret_int ?_, rfl⟩)
  all_goals ((try simp only [beq_iff_eq, beq_eq_false_iff_ne, has1, has1n, has2, has2n, has3, has3n, has4, has4n] at *); first | (exfalso; omega) | (unfold cls; repeat (first | rw [if_pos (by omega)] | rw [if_neg (by omega)])))
end Go.Proofs.YtifmbhcajlnhbaaDoor
