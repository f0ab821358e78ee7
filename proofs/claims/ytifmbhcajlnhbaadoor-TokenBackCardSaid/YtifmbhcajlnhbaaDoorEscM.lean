/-
  Layer 2: escapes there and back, in plain words (layer 1's text, for seats that have no Unquote). No walk.
-/
import Derived.Test.YtifmbhcajlnhbaaDoorRQuote
namespace Go.Proofs.YtifmbhcajlnhbaaDoor
set_option linter.unusedVariables false

def Bytes (ns : List Int) : Prop := ∀ n ∈ ns, 0 ≤ n ∧ n ≤ 255
theorem Bytes.app {a b : List Int} (h : Bytes a) (h' : Bytes b) : Bytes (a ++ b) := by
  intro n hn
  rcases List.mem_append.1 hn with h1 | h1
  · exact h n h1
  · exact h' n h1
theorem escAll_bytes (l : List UInt8) : Bytes (escAll l) := by
  intro n hn
  unfold escAll at hn
  obtain ⟨b, _, hb⟩ := List.mem_flatMap.1 hn
  have := b.toNat_lt
  exact esc_bytes b.toNat 34 (by omega) (by omega) n hb
theorem atB_nums (ns : List Int) (h : Bytes ns) (j : Nat) : atB (strOfNums ns) j = ns.getD j 0 := by
  unfold atB
  rw [strOfNums_data, List.getD_eq_getElem?_getD, List.getD_eq_getElem?_getD, List.getElem?_map]
  cases hj : ns[j]? with
  | none => rfl
  | some n =>
    obtain ⟨a1, a2⟩ := h n (List.mem_of_getElem? hj)
    show (((UInt8.ofNat n.toNat).toNat : Nat) : Int) = n
    have : (UInt8.ofNat n.toNat).toNat = n.toNat := by rw [UInt8.toNat_ofNat']; omega
    rw [this]; omega
theorem dig_hexd (n : Int) (h0 : 0 ≤ n) (h1 : n ≤ 15) : dig (hexd n) = n := by
  unfold hexd
  by_cases h : n < 10
  · rw [if_pos h]; unfold dig; rw [if_pos (by omega)]; omega
  · rw [if_neg h]; unfold dig; rw [if_neg (by omega), if_pos (by omega)]; omega

/-- what stands where an escape stands: the byte, and all of it -/
theorem un_esc (t : ByteArray) (k : Nat) (c q : Int) (h0 : 0 ≤ c) (h1 : c ≤ 255) (hat : ∀ j, j < (esc c q).length → atB t (k + j) = (esc c q).getD j 0) (hsz : k + (esc c q).length ≤ t.size) :
    un t k = some (c, ((k + (esc c q).length : Nat) : Int)) ∧ (atB t k = quo q → False) := by
  have hq : quo q = 39 ∨ quo q = 34 := by unfold quo; by_cases h : q = 39; · rw [if_pos h]; omega
                                          · rw [if_neg h]; omega
  unfold esc at hat hsz ⊢
  by_cases q1 : c = 10
  · rw [if_pos q1] at hat hsz ⊢
    have a0 := hat 0 (by simp)
    have a1 := hat 1 (by simp)
    simp at a0 a1 hsz
    refine ⟨?_, by omega⟩
    unfold un
    rw [if_neg (by omega), if_neg (by omega), if_neg (by omega), if_pos (by rw [a1]; decide), a1]
    simp only [show byteL 110 = 10 from by decide, q1]
    rfl
  by_cases q2 : c = 9
  · rw [if_neg q1, if_pos q2] at hat hsz ⊢
    have a0 := hat 0 (by simp)
    have a1 := hat 1 (by simp)
    simp at a0 a1 hsz
    refine ⟨?_, by omega⟩
    unfold un
    rw [if_neg (by omega), if_neg (by omega), if_neg (by omega), if_pos (by rw [a1]; decide), a1]
    simp only [show byteL 116 = 9 from by decide, q2]
    rfl
  by_cases q3 : c = 92 ∨ c = quo q
  · rw [if_neg q1, if_neg q2, if_pos q3] at hat hsz ⊢
    have a0 := hat 0 (by simp)
    have a1 := hat 1 (by simp)
    simp at a0 a1 hsz
    refine ⟨?_, by omega⟩
    have hb : isByteL c = true := (isByteL_iff c).2 (by omega)
    have hv : byteL c = c := by
      unfold byteL
      rw [if_neg (by omega), if_neg (by omega)]
      by_cases r1 : c = 92
      · rw [if_pos r1, r1]
      by_cases r2 : c = 39
      · rw [if_neg r1, if_pos r2, r2]
      · rw [if_neg r1, if_neg r2, if_pos (by omega)]; omega
    unfold un
    rw [if_neg (by omega), if_neg (by omega), if_neg (by omega), a1, if_pos hb, hv]
    rfl
  by_cases q4 : c < 32 ∨ 126 < c
  · rw [if_neg q1, if_neg q2, if_neg q3, if_pos q4] at hat hsz ⊢
    have a0 := hat 0 (by simp)
    have a1 := hat 1 (by simp)
    have a2 := hat 2 (by simp)
    have a3 := hat 3 (by simp)
    simp at a0 a1 a2 a3 hsz
    refine ⟨?_, by omega⟩
    have d2 := dig_hexd (c / 16) (by omega) (by omega)
    have d3 := dig_hexd (c % 16) (by omega) (by omega)
    unfold un
    rw [if_neg (by omega), if_neg (by omega), if_neg (by omega), a1, if_neg (by decide), a2, a3, d2, d3, if_pos ⟨by omega, rfl, by omega, by omega⟩]
    simp only [show 16 * (c / 16) + c % 16 = c from by omega]
    rfl
  · rw [if_neg q1, if_neg q2, if_neg q3, if_neg q4] at hat hsz ⊢
    have a0 := hat 0 (by simp)
    simp at a0 hsz
    refine ⟨?_, by omega⟩
    unfold un
    rw [if_neg (by omega), if_pos (by omega), a0]
    rfl

theorem ba_ext {a b : ByteArray} (h : a.data.toList = b.data.toList) : a = b := by
  cases a; cases b
  exact congrArg ByteArray.mk (Array.toList_inj.1 h)
theorem quoAll_bytes (l : List UInt8) : Bytes (quoAll l) := by
  intro n hn
  unfold quoAll at hn
  rcases List.mem_cons.1 hn with h | h
  · omega
  rcases List.mem_append.1 h with h | h
  · exact escAll_bytes l n h
  · simp at h; omega
theorem nums_self (s : ByteArray) : strOfNums (s.data.toList.map fun b => (b.toNat : Int)) = s := by
  refine ba_ext ?_
  rw [strOfNums_data, List.map_map]
  have : ∀ b : UInt8, ((fun n : Int => UInt8.ofNat n.toNat) ∘ fun b : UInt8 => (b.toNat : Int)) b = b := by
    intro b
    simp
  rw [List.map_congr_left (fun b _ => this b)]
  simp
end Go.Proofs.YtifmbhcajlnhbaaDoor
