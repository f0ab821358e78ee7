/-
  Layer 7, the law's side: which group each node was laid into (GraphParts).
-/
import Derived.Test.YtmoebpebahhbeaaKnows7
import Derived.Test.YtmoebpebahhbeaaPart7
namespace Go.Proofs.Ytmoebpebahhbeaa
set_option linter.unusedVariables false
open Go.ChangeShapes Go.WideShapes Go.ChangeAt Go.RowKit

theorem at0_put (L : List Nat) (y v x : Nat) (hy : y < L.length) : at0 (L.set y v) x = if x = y then v else at0 L x := by
  unfold at0
  by_cases h : x = y
  · subst h
    simp [List.getD, hy]
  · rw [if_neg h]
    simp only [List.getD]
    rw [List.getElem?_set_ne (Ne.symm h)]
def Placed (out : List (List Nat)) (i k : Nat) (L : List Nat) : Prop := ∀ x j, at0 L x = j + 1 ↔ ∃ l, out[j]? = some l ∧ (j < i ∧ x ∈ l ∨ j = i ∧ x ∈ l.take k)
theorem placed_zero (out : List (List Nat)) (m : Nat) : Placed out 0 0 (List.replicate m 0) := fun x j => by
  have : at0 (List.replicate m 0) x = 0 := by
    unfold at0
    simp only [List.getD, List.getElem?_replicate]
    split <;> rfl
  rw [this]
  constructor
  · intro h; omega
  · rintro ⟨l, _, ⟨h, _⟩ | ⟨_, h⟩⟩
    · omega
    · simp at h
theorem placed_zeros {out : List (List Nat)} {L : List Nat} (h : ∀ x, x < L.length → at0 L x = 0) : Placed out 0 0 L := fun x j => by
  have : at0 L x = 0 := by
    by_cases hx : x < L.length
    · exact h x hx
    · unfold at0
      simp only [List.getD]
      rw [List.getElem?_eq_none (by omega)]
      rfl
  rw [this]
  constructor
  · intro h; omega
  · rintro ⟨l, _, ⟨h, _⟩ | ⟨_, h⟩⟩
    · omega
    · simp at h
theorem placed_free {adj out : List (List Nat)} (hg : IsG adj out) {i k y : Nat} {L l : List Nat} (h : Placed out i k L) (hl : out[i]? = some l) (hy : l[k]? = some y) : at0 L y = 0 := by
  obtain ⟨hk, rfl⟩ := List.getElem?_eq_some_iff.1 hy
  cases e : at0 L l[k] with
  | zero => rfl
  | succ j =>
    obtain ⟨q, hq, ⟨h1, h2⟩ | ⟨h1, h2⟩⟩ := (h _ _).1 e
    · have := hg.one j i q l _ hq hl h2 (List.getElem_mem hk)
      omega
    · subst h1
      rw [hl] at hq
      obtain rfl := Option.some.inj hq
      obtain ⟨t, ht, e2⟩ := List.mem_take_iff_getElem.1 h2
      have hp := (List.pairwise_iff_getElem.1 (hg.inc j l hl).1) t k (by omega) hk (by omega)
      omega
theorem placed_step {adj out : List (List Nat)} (hg : IsG adj out) {i k y : Nat} {L l : List Nat} (h : Placed out i k L) (hn : L.length = adj.length) (hl : out[i]? = some l) (hy : l[k]? = some y) : Placed out i (k + 1) (L.set y (i + 1)) := fun x j => by
  have hf := placed_free hg h hl hy
  have hym : y < L.length := by rw [hn]; exact hg.mem i l hl y (List.mem_of_getElem? hy)
  obtain ⟨hk, hye⟩ := List.getElem?_eq_some_iff.1 hy
  have ht : l.take (k + 1) = l.take k ++ [y] := by rw [List.take_succ_eq_append_getElem hk, hye]
  rw [at0_put _ _ _ _ hym]
  by_cases hx : x = y
  · subst hx
    rw [if_pos rfl]
    constructor
    · intro e
      obtain rfl : i = j := by omega
      exact ⟨l, hl, .inr ⟨rfl, by rw [ht]; simp⟩⟩
    · rintro ⟨q, hq, ⟨h1, h2⟩ | ⟨h1, h2⟩⟩
      · have := hg.one j i q l _ hq hl h2 (List.mem_of_getElem? hy)
        omega
      · omega
  · rw [if_neg hx, h x j]
    constructor
    · rintro ⟨q, hq, ⟨h1, h2⟩ | ⟨h1, h2⟩⟩
      · exact ⟨q, hq, .inl ⟨h1, h2⟩⟩
      · refine ⟨q, hq, .inr ⟨h1, ?_⟩⟩
        subst h1
        rw [hl] at hq
        obtain rfl := Option.some.inj hq
        rw [ht]
        exact List.mem_append_left _ h2
    · rintro ⟨q, hq, ⟨h1, h2⟩ | ⟨h1, h2⟩⟩
      · exact ⟨q, hq, .inl ⟨h1, h2⟩⟩
      · refine ⟨q, hq, .inr ⟨h1, ?_⟩⟩
        subst h1
        rw [hl] at hq
        obtain rfl := Option.some.inj hq
        rw [ht] at h2
        rcases List.mem_append.1 h2 with h3 | h3
        · exact h3
        · exact absurd (by simpa using h3) hx
theorem placed_next {out : List (List Nat)} {i : Nat} {L l : List Nat} (h : Placed out i l.length L) (hl : out[i]? = some l) : Placed out (i + 1) 0 L := fun x j => by
  rw [h x j]
  constructor
  · rintro ⟨q, hq, ⟨h1, h2⟩ | ⟨h1, h2⟩⟩
    · exact ⟨q, hq, .inl ⟨by omega, h2⟩⟩
    · exact ⟨q, hq, .inl ⟨by omega, List.mem_of_mem_take h2⟩⟩
  · rintro ⟨q, hq, ⟨h1, h2⟩ | ⟨h1, h2⟩⟩
    · by_cases e : j = i
      · subst e
        rw [hl] at hq
        obtain rfl := Option.some.inj hq
        exact ⟨l, hl, .inr ⟨rfl, by rw [List.take_length]; exact h2⟩⟩
      · exact ⟨q, hq, .inl ⟨by omega, h2⟩⟩
    · simp at h2
theorem placed_at {adj out : List (List Nat)} {L : List Nat} (h : Placed out out.length 0 L) {i x : Nat} {l : List Nat} (hi : out[i]? = some l) (hx : x ∈ l) : at0 L x = i + 1 :=
  (h x i).2 ⟨l, hi, .inl ⟨(List.getElem?_eq_some_iff.1 hi).1, hx⟩⟩
theorem placed_all {adj out : List (List Nat)} (hg : IsG adj out) {L : List Nat} (h : Placed out out.length 0 L) {x : Nat} (hx : x < adj.length) : 1 ≤ at0 L x := by
  obtain ⟨i, l, hi, hm⟩ := hg.all x hx
  have := placed_at (adj := adj) h hi hm
  omega
theorem placed_need {adj out : List (List Nat)} (hg : IsG adj out) {L : List Nat} (h : Placed out out.length 0 L) {x y : Nat} (hx : x < adj.length) (he : Ed adj x y) : at0 L y ≤ at0 L x := by
  obtain ⟨i, l, hi, hm⟩ := hg.all x hx
  obtain ⟨j, q, hj, hq, hyq⟩ := hg.need i l x y hi hm he
  have h1 := placed_at (adj := adj) h hi hm
  have h2 := placed_at (adj := adj) h hq hyq
  omega
/-- a row of the law's own: each node's group -/
def AtR (A m : Nat) (L : List Nat) (w : World) : Prop := L.length = m ∧ w.ownsRow A 3 1 (.slice (some ⟨A, 0, none⟩) m m) m (gv L)
theorem AtR.set {A m : Nat} {L : List Nat} {w : World} (h : AtR A m L w) (j x : Nat) : AtR A m (L.set j x) (w.setCell ⟨A, j, none⟩ (.int .i64 ((x : Int) - 1))) := by
  refine ⟨by rw [List.length_set]; exact h.1, ?_⟩
  rw [gv_set]
  exact (h.2.stored j (.int .i64 ((x : Int) - 1))).1
theorem AtR.cell {A m : Nat} {L : List Nat} {w : World} (h : AtR A m L w) {j : Nat} (hj : j < m) : w.cell? ⟨A, j, none⟩ = some (.int .i64 ((at0 L j : Nat) - 1)) := grp_cell h.2 (by rw [h.1]; exact hj)
theorem at_below {A x : Nat} {w w1 : World} {v : Value} (h : Below w.heap.size w w1) (hB : w.heap.size ≤ A) : Below w.heap.size w (w1.setCell ⟨A, x, none⟩ v) :=
  h.trans ((Fx.set (S := fun b => b = A) w1 A x v rfl).below h.size fun b hb e => by omega)
theorem AtR.new (w : World) (m : Nat) (hm : m ≤ 100000) : AtR w.heap.size m (List.replicate m 1) (w.alloc (.cells (madeCells #[.int .i64 0] m) 3)) := by
  refine ⟨by simp, by simp [gv], .inr ⟨w.heap.size, m, _, rfl, Nat.le_refl _, heap_alloc_new w _, Nat.le_refl _, by unfold maxLen; omega, by simp [madeCells], ?_⟩⟩
  rw [Nat.mul_one, toList_madeCells_one]
  simp [gv]
theorem wrap_small (k : Nat) (h : k ≤ 9223372036854775807) : wrap64 (k : Int) = (k : Int) := by
  unfold RowKit.wrap64
  omega
theorem wrap_lt {k n : Nat} (h : k + 1 < n) (h2 : n ≤ 9223372036854775807) : wrap64 (k : Int) = (k : Int) := wrap_small k (by omega)
theorem sorted_ge {l : List Nat} (h : l.Pairwise (· < ·)) : ∀ (k y : Nat), l[k]? = some y → k ≤ y := by
  intro k
  induction k with
  | zero => intro y _; omega
  | succ k ih =>
    intro y hy
    obtain ⟨h1, h2⟩ := List.getElem?_eq_some_iff.1 hy
    have h3 := ih _ (List.getElem?_eq_getElem (show k < l.length by omega))
    have h4 := (List.pairwise_iff_getElem.1 h) k (k + 1) (by omega) h1 (by omega)
    omega
theorem owns_max {w : World} {B : Nat} {e : TypeId} {s : Nat} {v : Value} {n : Nat} {xs : List Value} (h : w.ownsRow B e s v n xs) : n ≤ 9223372036854775807 := by
  rcases h.2 with ⟨_, h1⟩ | ⟨g, cap, cur, _, _, _, h1, h2, _⟩
  · omega
  · unfold maxLen at h2
    omega
theorem parts_good (n : Nat) (hn : 0 < n) (es : List (Int × Int)) : ∀ x ∈ es.map (pairM n), badE n x = false := fun x hx => by
  obtain ⟨y, _, rfl⟩ := List.mem_map.1 hx
  have h1 := nodeM_in y.1 n (by omega)
  have h2 := nodeM_in y.2 n (by omega)
  unfold badE pairM
  simp [h1.1, h1.2, h2.1, h2.2]
theorem part_ok (n : Int) (hn : 0 < n) (hn2 : n ≤ 1024) (es : List (Int × Int)) (hl : es.length ≤ 16384) : faultM n (es.map (pairM n)) = 0 := by
  unfold faultM
  rw [if_neg (by omega), if_neg (by rw [List.length_map]; omega), if_neg]
  rw [Bool.not_eq_true, List.any_eq_false]
  intro x hx
  obtain ⟨y, _, rfl⟩ := List.mem_map.1 hx
  have h1 := nodeM_in y.1 n hn
  have h2 := nodeM_in y.2 n hn
  unfold badE pairM
  simp [h1.1, h1.2, h2.1, h2.2]
end Go.Proofs.Ytmoebpebahhbeaa
