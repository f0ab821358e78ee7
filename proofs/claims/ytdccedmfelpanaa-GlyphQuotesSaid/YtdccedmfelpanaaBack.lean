/-
  There and back, in plain words: what is escaped is unescaped as it was; what is quoted is unquoted as it was. No walk.
-/
import Derived.Test.YtdccedmfelpanaaRUnq
namespace Go.Proofs.Ytdccedmfelpanaa
set_option linter.unusedVariables false

def Bytes (ns : List Int) : Prop := ∀ n ∈ ns, 0 ≤ n ∧ n ≤ 255
theorem Bytes.app {a b : List Int} (h : Bytes a) (h' : Bytes b) : Bytes (a ++ b) := by
  intro n hn
  rcases List.mem_append.1 hn with h1 | h1
  · exact h n h1
  · exact h' n h1
theorem escAll_bytes (l : List UInt8) : Bytes (escAll l) := by
  intro n hn
  unfold escAll at hn
  obtain ⟨b, _, hb⟩ := List.mem_flatMap.1 hn
  have := b.toNat_lt
  exact esc_bytes b.toNat 34 (by omega) (by omega) n hb
theorem atB_nums (ns : List Int) (h : Bytes ns) (j : Nat) : atB (strOfNums ns) j = ns.getD j 0 := by
  unfold atB
  rw [strOfNums_data, List.getD_eq_getElem?_getD, List.getD_eq_getElem?_getD, List.getElem?_map]
  cases hj : ns[j]? with
  | none => rfl
  | some n =>
    obtain ⟨a1, a2⟩ := h n (List.mem_of_getElem? hj)
    show (((UInt8.ofNat n.toNat).toNat : Nat) : Int) = n
    have : (UInt8.ofNat n.toNat).toNat = n.toNat := by rw [UInt8.toNat_ofNat']; omega
    rw [this]; omega
theorem dig_hexd (n : Int) (h0 : 0 ≤ n) (h1 : n ≤ 15) : dig (hexd n) = n := by
  unfold hexd
  by_cases h : n < 10
  · rw [if_pos h]; unfold dig; rw [if_pos (by omega)]; omega
  · rw [if_neg h]; unfold dig; rw [if_neg (by omega), if_pos (by omega)]; omega

/-- what stands where an escape stands: the byte, and all of it -/
theorem un_esc (t : ByteArray) (k : Nat) (c q : Int) (h0 : 0 ≤ c) (h1 : c ≤ 255) (hat : ∀ j, j < (esc c q).length → atB t (k + j) = (esc c q).getD j 0) (hsz : k + (esc c q).length ≤ t.size) :
    un t k = some (c, ((k + (esc c q).length : Nat) : Int)) ∧ (atB t k = quo q → False) := by
  have hq : quo q = 39 ∨ quo q = 34 := by unfold quo; by_cases h : q = 39; · rw [if_pos h]; omega
                                          · rw [if_neg h]; omega
  unfold esc at hat hsz ⊢
  by_cases q1 : c = 10
  · rw [if_pos q1] at hat hsz ⊢
    have a0 := hat 0 (by simp)
    have a1 := hat 1 (by simp)
    simp at a0 a1 hsz
    refine ⟨?_, by omega⟩
    unfold un
    rw [if_neg (by omega), if_neg (by omega), if_neg (by omega), if_pos (by rw [a1]; decide), a1]
    simp only [show byteL 110 = 10 from by decide, q1]
    rfl
  by_cases q2 : c = 9
  · rw [if_neg q1, if_pos q2] at hat hsz ⊢
    have a0 := hat 0 (by simp)
    have a1 := hat 1 (by simp)
    simp at a0 a1 hsz
    refine ⟨?_, by omega⟩
    unfold un
    rw [if_neg (by omega), if_neg (by omega), if_neg (by omega), if_pos (by rw [a1]; decide), a1]
    simp only [show byteL 116 = 9 from by decide, q2]
    rfl
  by_cases q3 : c = 92 ∨ c = quo q
  · rw [if_neg q1, if_neg q2, if_pos q3] at hat hsz ⊢
    have a0 := hat 0 (by simp)
    have a1 := hat 1 (by simp)
    simp at a0 a1 hsz
    refine ⟨?_, by omega⟩
    have hb : isByteL c = true := (isByteL_iff c).2 (by omega)
    have hv : byteL c = c := by
      unfold byteL
      rw [if_neg (by omega), if_neg (by omega)]
      by_cases r1 : c = 92
      · rw [if_pos r1, r1]
      by_cases r2 : c = 39
      · rw [if_neg r1, if_pos r2, r2]
      · rw [if_neg r1, if_neg r2, if_pos (by omega)]; omega
    unfold un
    rw [if_neg (by omega), if_neg (by omega), if_neg (by omega), a1, if_pos hb, hv]
    rfl
  by_cases q4 : c < 32 ∨ 126 < c
  · rw [if_neg q1, if_neg q2, if_neg q3, if_pos q4] at hat hsz ⊢
    have a0 := hat 0 (by simp)
    have a1 := hat 1 (by simp)
    have a2 := hat 2 (by simp)
    have a3 := hat 3 (by simp)
    simp at a0 a1 a2 a3 hsz
    refine ⟨?_, by omega⟩
    have d2 := dig_hexd (c / 16) (by omega) (by omega)
    have d3 := dig_hexd (c % 16) (by omega) (by omega)
    unfold un
    rw [if_neg (by omega), if_neg (by omega), if_neg (by omega), a1, if_neg (by decide), a2, a3, d2, d3, if_pos ⟨by omega, rfl, by omega, by omega⟩]
    simp only [show 16 * (c / 16) + c % 16 = c from by omega]
    rfl
  · rw [if_neg q1, if_neg q2, if_neg q3, if_neg q4] at hat hsz ⊢
    have a0 := hat 0 (by simp)
    simp at a0 hsz
    refine ⟨?_, by omega⟩
    unfold un
    rw [if_neg (by omega), if_pos (by omega), a0]
    rfl

theorem unqAll_esc : ∀ (l : List UInt8) (P : List Int), Bytes P → unqAll (strOfNums (P ++ escAll l)) P.length = some (l.map fun b => (b.toNat : Int)) := by
  intro l
  induction l with
  | nil =>
    intro P _
    rw [unqAll_done _ _ (by rw [strOfNums_size]; simp [escAll])]
    rfl
  | cons b l ih =>
    intro P hP
    have hb := b.toNat_lt
    have he := esc_bytes b.toNat 34 (by omega) (by omega)
    have hall : Bytes (P ++ escAll (b :: l)) := hP.app (escAll_bytes _)
    have hsp : escAll (b :: l) = esc b.toNat 34 ++ escAll l := by simp [escAll]
    have hat : ∀ j, j < (esc b.toNat 34).length → atB (strOfNums (P ++ escAll (b :: l))) (P.length + j) = (esc b.toNat 34).getD j 0 := by
      intro j hj
      rw [atB_nums _ hall, hsp, List.getD_eq_getElem?_getD, List.getD_eq_getElem?_getD, List.getElem?_append_right (by omega), show P.length + j - P.length = j from by omega, List.getElem?_append_left hj]
    have hsz : P.length + (esc b.toNat 34).length ≤ (strOfNums (P ++ escAll (b :: l))).size := by rw [strOfNums_size, hsp]; simp only [List.length_append]; omega
    obtain ⟨hu, hq⟩ := un_esc _ P.length b.toNat 34 (by omega) (by omega) hat hsz
    have hpos : 0 < (esc b.toNat 34).length := by
      unfold esc
      by_cases q1 : (b.toNat : Int) = 10
      · rw [if_pos q1]; simp
      by_cases q2 : (b.toNat : Int) = 9
      · rw [if_neg q1, if_pos q2]; simp
      by_cases q3 : (b.toNat : Int) = 92 ∨ (b.toNat : Int) = quo 34
      · rw [if_neg q1, if_neg q2, if_pos q3]; simp
      by_cases q4 : (b.toNat : Int) < 32 ∨ 126 < (b.toNat : Int)
      · rw [if_neg q1, if_neg q2, if_neg q3, if_pos q4]; simp
      · rw [if_neg q1, if_neg q2, if_neg q3, if_neg q4]; simp
    rw [unqAll_step _ P.length (P.length + (esc b.toNat 34).length) b.toNat (by omega) hq hu (by omega)]
    have hi := ih (P ++ esc b.toNat 34) (hP.app he)
    rw [List.length_append, List.append_assoc, ← hsp] at hi
    rw [hi]
    rfl

theorem ba_ext {a b : ByteArray} (h : a.data.toList = b.data.toList) : a = b := by
  cases a; cases b
  exact congrArg ByteArray.mk (Array.toList_inj.1 h)
theorem quo_inner (l : List UInt8) : (strOfNums (quoAll l)).extract 1 ((strOfNums (quoAll l)).size - 1) = strOfNums (escAll l) := by
  refine ba_ext ?_
  rw [Lib.extract_data, strOfNums_size, strOfNums_data, strOfNums_data]
  unfold quoAll
  simp
theorem quoAll_bytes (l : List UInt8) : Bytes (quoAll l) := by
  intro n hn
  unfold quoAll at hn
  rcases List.mem_cons.1 hn with h | h
  · omega
  rcases List.mem_append.1 h with h | h
  · exact escAll_bytes l n h
  · simp at h; omega
/-- a quoted text is unquoted as it was -/
theorem unquote_quote (l : List UInt8) : unquote (strOfNums (quoAll l)) = some (l.map fun b => (b.toNat : Int)) := by
  have hb := quoAll_bytes l
  have hsz : (strOfNums (quoAll l)).size = (escAll l).length + 2 := by rw [strOfNums_size]; simp [quoAll]
  rw [unquote_yes ⟨by omega, ?_, ?_⟩, quo_inner]
  · have := unqAll_esc l [] (fun n hn => by cases hn)
    simpa using this
  · rw [atB_nums _ hb]; rfl
  · rw [atB_nums _ hb, hsz]
    unfold quoAll
    rw [List.getD_eq_getElem?_getD, show (escAll l).length + 2 - 1 = (escAll l).length + 1 from by omega, List.getElem?_cons_succ, List.getElem?_append_right (Nat.le_refl _)]
    simp
theorem nums_self (s : ByteArray) : strOfNums (s.data.toList.map fun b => (b.toNat : Int)) = s := by
  refine ba_ext ?_
  rw [strOfNums_data, List.map_map]
  have : ∀ b : UInt8, ((fun n : Int => UInt8.ofNat n.toNat) ∘ fun b : UInt8 => (b.toNat : Int)) b = b := by
    intro b
    simp
  rw [List.map_congr_left (fun b _ => this b)]
  simp
/-- a byte's escape is it, and all of it -/
theorem un_escape (c q : Int) (h0 : 0 ≤ c) (h1 : c ≤ 255) : un (strOfNums (esc c q)) 0 = some (c, (((strOfNums (esc c q)).size : Nat) : Int)) := by
  have hb : Bytes (esc c q) := esc_bytes c q h0 h1
  have h := (un_esc (strOfNums (esc c q)) 0 c q h0 h1 (fun j _ => by rw [Nat.zero_add, atB_nums _ hb]) (by rw [strOfNums_size]; omega)).1
  rw [h, strOfNums_size, Nat.zero_add]
end Go.Proofs.Ytdccedmfelpanaa
