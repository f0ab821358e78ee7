/-
  What a text in quotes stands for, in plain words: no walk.
-/
import Derived.Test.YtifmbhcajlnhbaaDoorUn
namespace Go.Proofs.YtifmbhcajlnhbaaDoor
set_option linter.unusedVariables false

theorem un_next {t : ByteArray} {k : Nat} {c n : Int} (h : un t k = some (c, n)) (hk : k < t.size) : ∃ m : Nat, n = m ∧ k < m ∧ m ≤ t.size ∧ 0 ≤ c ∧ c ≤ 255 := by
  unfold un at h
  have b0 := atB_bounds t k
  have b1 := atB_bounds t (k + 1)
  have d2 := dig_bounds (atB t (k + 2))
  have d3 := dig_bounds (atB t (k + 3))
  by_cases h1 : atB t k < 32 ∨ 126 < atB t k
  · rw [if_pos h1] at h; cases h
  rw [if_neg h1] at h
  by_cases h2 : atB t k ≠ 92
  · rw [if_pos h2] at h
    have e := Option.some.inj h
    exact ⟨k + 1, by have := congrArg Prod.snd e; simp at this; omega, by omega, by omega, by have := congrArg Prod.fst e; simp at this; omega, by have := congrArg Prod.fst e; simp at this; omega⟩
  rw [if_neg h2] at h
  by_cases h3 : t.size ≤ k + 1
  · rw [if_pos h3] at h; cases h
  rw [if_neg h3] at h
  by_cases h4 : isByteL (atB t (k + 1)) = true
  · rw [if_pos h4] at h
    have e := Option.some.inj h
    have hb : 0 ≤ byteL (atB t (k + 1)) ∧ byteL (atB t (k + 1)) ≤ 255 := by
      unfold byteL
      generalize atB t (k + 1) = c
      by_cases q1 : c = 110
      · rw [if_pos q1]; omega
      by_cases q2 : c = 116
      · rw [if_neg q1, if_pos q2]; omega
      by_cases q3 : c = 92
      · rw [if_neg q1, if_neg q2, if_pos q3]; omega
      by_cases q4 : c = 39
      · rw [if_neg q1, if_neg q2, if_neg q3, if_pos q4]; omega
      by_cases q5 : c = 34
      · rw [if_neg q1, if_neg q2, if_neg q3, if_neg q4, if_pos q5]; omega
      · rw [if_neg q1, if_neg q2, if_neg q3, if_neg q4, if_neg q5]; omega
    exact ⟨k + 2, by have := congrArg Prod.snd e; simp at this; omega, by omega, by omega, by have := congrArg Prod.fst e; simp at this; omega, by have := congrArg Prod.fst e; simp at this; omega⟩
  rw [if_neg h4] at h
  by_cases h5 : k + 3 < t.size ∧ atB t (k + 1) = 120 ∧ 0 ≤ dig (atB t (k + 2)) ∧ 0 ≤ dig (atB t (k + 3))
  · rw [if_pos h5] at h
    have e := Option.some.inj h
    obtain ⟨q1, q2, q3, q4⟩ := h5
    exact ⟨k + 4, by have := congrArg Prod.snd e; simp at this; omega, by omega, by omega, by have := congrArg Prod.fst e; simp at this; omega, by have := congrArg Prod.fst e; simp at this; omega⟩
  · rw [if_neg h5] at h; cases h

/-- the bytes from place k on, at most f of them -/
def unq (t : ByteArray) : Nat → Nat → Option (List Int)
  | 0, k => if t.size ≤ k then some [] else none
  | f + 1, k => if t.size ≤ k then some [] else if atB t k = 34 then none else (un t k).bind fun p => (unq t f p.2.toNat).map (p.1 :: ·)
theorem unq_zero (t : ByteArray) (k : Nat) : unq t 0 k = if t.size ≤ k then some [] else none := rfl
theorem unq_succ (t : ByteArray) (f k : Nat) : unq t (f + 1) k = if t.size ≤ k then some [] else if atB t k = 34 then none else (un t k).bind fun p => (unq t f p.2.toNat).map (p.1 :: ·) := rfl
def unqAll (t : ByteArray) (k : Nat) : Option (List Int) := unq t (t.size - k) k

theorem unq_done (t : ByteArray) (f k : Nat) (h : t.size ≤ k) : unq t f k = some [] := by
  cases f with
  | zero => rw [unq_zero, if_pos h]
  | succ f => rw [unq_succ, if_pos h]
theorem unq_more (t : ByteArray) (f k : Nat) (h : k < t.size) : unq t (f + 1) k = if atB t k = 34 then none else (un t k).bind fun p => (unq t f p.2.toNat).map (p.1 :: ·) := by
  rw [unq_succ, if_neg (by omega)]
theorem unq_fuel (t : ByteArray) : ∀ f g k, t.size - k ≤ f → t.size - k ≤ g → unq t f k = unq t g k := by
  intro f
  induction f with
  | zero => intro g k h _; rw [unq_done t 0 k (by omega), unq_done t g k (by omega)]
  | succ f ih =>
    intro g k h h'
    by_cases hk : t.size ≤ k
    · rw [unq_done t _ k hk, unq_done t _ k hk]
    · obtain ⟨g, rfl⟩ : ∃ g', g = g' + 1 := ⟨g - 1, by omega⟩
      rw [unq_more t f k (by omega), unq_more t g k (by omega)]
      cases hu : un t k with
      | none => rfl
      | some p =>
        obtain ⟨c, n⟩ := p
        obtain ⟨m, rfl, hm, _⟩ := un_next hu (by omega)
        simp only [Option.bind_some, Int.toNat_natCast]
        rw [ih g m (by omega) (by omega)]
theorem unqAll_done (t : ByteArray) (k : Nat) (h : t.size ≤ k) : unqAll t k = some [] := unq_done t _ k h
theorem unqAll_quote (t : ByteArray) (k : Nat) (h : k < t.size) (hq : atB t k = 34) : unqAll t k = none := by
  unfold unqAll
  rw [show t.size - k = (t.size - k - 1) + 1 from by omega, unq_more t _ k h, if_pos hq]
theorem unqAll_none (t : ByteArray) (k : Nat) (h : k < t.size) (hu : un t k = none) : unqAll t k = none := by
  unfold unqAll
  rw [show t.size - k = (t.size - k - 1) + 1 from by omega, unq_more t _ k h, hu]
  by_cases hq : atB t k = 34
  · rw [if_pos hq]
  · rw [if_neg hq]; rfl
theorem unqAll_step (t : ByteArray) (k m : Nat) (c : Int) (h : k < t.size) (hq : atB t k ≠ 34) (hu : un t k = some (c, (m : Int))) (hm : k < m) : unqAll t k = (unqAll t m).map (c :: ·) := by
  unfold unqAll
  rw [show t.size - k = (t.size - k - 1) + 1 from by omega, unq_more t _ k h, hu, if_neg hq]
  simp only [Option.bind_some, Int.toNat_natCast]
  rw [unq_fuel t (t.size - k - 1) (t.size - m) m (by omega) (by omega)]

/-- behind k bytes: what was told, ahead of what is still to come, is all -/
def UqRel (t : ByteArray) (k0 k : Nat) (xs : List Int) : Prop := k ≤ t.size ∧ k0 ≤ k ∧ xs.length ≤ k ∧ unqAll t k0 = (unqAll t k).map (xs ++ ·)
theorem UqRel.start (t : ByteArray) (k : Nat) (h : k ≤ t.size) : UqRel t k k [] := by
  refine ⟨h, Nat.le_refl _, by simp, ?_⟩
  cases unqAll t k <;> simp
theorem UqRel.next {t : ByteArray} {k0 k m : Nat} {xs : List Int} {c : Int} (h : UqRel t k0 k xs) (hk : k < t.size) (hq : atB t k ≠ 34) (hu : un t k = some (c, (m : Int))) (hm : k < m) (hm2 : m ≤ t.size) : UqRel t k0 m (xs ++ [c]) := by
  obtain ⟨a, b, d, e⟩ := h
  refine ⟨hm2, by omega, by simp; omega, ?_⟩
  rw [e, unqAll_step t k m c hk hq hu hm]
  cases unqAll t m <;> simp
theorem UqRel.fail {t : ByteArray} {k0 k : Nat} {xs : List Int} (h : UqRel t k0 k xs) (hn : unqAll t k = none) : unqAll t k0 = none := by
  rw [h.2.2.2, hn]; rfl
theorem UqRel.fin {t : ByteArray} {k0 k : Nat} {xs : List Int} (h : UqRel t k0 k xs) (hk : t.size ≤ k) : unqAll t k0 = some xs := by
  rw [h.2.2.2, unqAll_done t k hk]; simp

/-- is a text put in quotes? -/
def quoted (s : ByteArray) : Bool := decide (2 ≤ s.size ∧ atB s 0 = 34 ∧ atB s (s.size - 1) = 34)
/-- the text that stands in quotes -/
def unquote (s : ByteArray) : Option (List Int) := if quoted s = true then unqAll (s.extract 1 (s.size - 1)) 0 else none
def uqV (o : Option (List Int)) : Value := match o with
  | .some xs => .tuple #[.string (strOfNums xs), .bool true]
  | .none => .tuple #[.string ⟨#[]⟩, .bool false]

/-- the document keeps the quote ahead -/
theorem atB_cut (s : ByteArray) (j : Nat) (h : 2 ≤ s.size) : atB (s.extract 0 (s.size - 1)) (j + 1) = atB (s.extract 1 (s.size - 1)) j := by
  unfold atB
  rw [Lib.extract_data, Lib.extract_data, List.getD_eq_getElem?_getD, List.getD_eq_getElem?_getD]
  congr 3
  rw [List.getElem?_take, List.getElem?_take, List.getElem?_drop, List.getElem?_drop, show 0 + (j + 1) = 1 + j from by omega]
  by_cases hj : j < s.size - 1 - 1
  · rw [if_pos (by omega), if_pos hj]
  · rw [if_neg (by omega), if_neg hj]
theorem un_cut (s : ByteArray) (k : Nat) (h : 2 ≤ s.size) : un (s.extract 0 (s.size - 1)) (k + 1) = (un (s.extract 1 (s.size - 1)) k).map fun p => (p.1, p.2 + 1) := by
  have z0 : (s.extract 0 (s.size - 1)).size = s.size - 1 := by simp
  have z1 : (s.extract 1 (s.size - 1)).size = s.size - 1 - 1 := by simp
  unfold un
  rw [show k + 1 + 1 = (k + 1) + 1 from rfl, show k + 1 + 2 = (k + 2) + 1 from by omega, show k + 1 + 3 = (k + 3) + 1 from by omega, atB_cut s k h, atB_cut s (k + 1) h, atB_cut s (k + 2) h, atB_cut s (k + 3) h, z0, z1]
  generalize atB (s.extract 1 (s.size - 1)) k = b0
  generalize atB (s.extract 1 (s.size - 1)) (k + 1) = b1
  generalize dig (atB (s.extract 1 (s.size - 1)) (k + 2)) = d2
  generalize dig (atB (s.extract 1 (s.size - 1)) (k + 3)) = d3
  by_cases h1 : b0 < 32 ∨ 126 < b0
  · rw [if_pos h1, if_pos h1]; rfl
  rw [if_neg h1, if_neg h1]
  by_cases h2 : b0 ≠ 92
  · rw [if_pos h2, if_pos h2]; simp
  rw [if_neg h2, if_neg h2]
  by_cases h3 : s.size - 1 - 1 ≤ k + 1
  · rw [if_pos h3, if_pos (by omega)]; rfl
  rw [if_neg h3, if_neg (by omega)]
  by_cases h4 : isByteL b1 = true
  · rw [if_pos h4, if_pos h4]; simp; omega
  rw [if_neg h4, if_neg h4]
  by_cases h5 : k + 3 < s.size - 1 - 1 ∧ b1 = 120 ∧ 0 ≤ d2 ∧ 0 ≤ d3
  · rw [if_pos h5, if_pos ⟨by omega, h5.2⟩]; simp; omega
  · rw [if_neg h5, if_neg (fun h => h5 ⟨by omega, h.2⟩)]; rfl
theorem unq_cut (s : ByteArray) (h : 2 ≤ s.size) : ∀ f k, unq (s.extract 0 (s.size - 1)) f (k + 1) = unq (s.extract 1 (s.size - 1)) f k := by
  have z0 : (s.extract 0 (s.size - 1)).size = s.size - 1 := by simp
  have z1 : (s.extract 1 (s.size - 1)).size = s.size - 1 - 1 := by simp
  intro f
  induction f with
  | zero =>
    intro k
    rw [unq_zero, unq_zero, z0, z1]
    by_cases hk : s.size - 1 - 1 ≤ k
    · rw [if_pos hk, if_pos (by omega)]
    · rw [if_neg hk, if_neg (by omega)]
  | succ f ih =>
    intro k
    by_cases hk : s.size - 1 - 1 ≤ k
    · rw [unq_done _ _ _ (by omega), unq_done _ _ _ (by omega)]
    · rw [unq_more _ _ _ (by omega), unq_more _ _ _ (by omega), atB_cut s k h, un_cut s k h]
      cases hu : un (s.extract 1 (s.size - 1)) k with
      | none => rfl
      | some p =>
        obtain ⟨c, n⟩ := p
        obtain ⟨m, rfl, hm, _⟩ := un_next hu (by omega)
        simp only [Option.map_some, Option.bind_some, show ((m : Int) + 1).toNat = m + 1 from by omega, Int.toNat_natCast]
        rw [ih m]
theorem unqAll_cut (s : ByteArray) (h : 2 ≤ s.size) : unqAll (s.extract 0 (s.size - 1)) 1 = unqAll (s.extract 1 (s.size - 1)) 0 := by
  unfold unqAll
  rw [unq_cut s h]
  have z0 : (s.extract 0 (s.size - 1)).size = s.size - 1 := by simp
  have z1 : (s.extract 1 (s.size - 1)).size = s.size - 1 - 1 := by simp
  rw [z0, z1, Nat.sub_zero]
end Go.Proofs.YtifmbhcajlnhbaaDoor
