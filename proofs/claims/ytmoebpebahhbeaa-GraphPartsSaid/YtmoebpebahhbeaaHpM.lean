/-
  Layer 7, mathematics: a heap in a list: up and down. No program.
-/
import Derived.Test.YtmoebpebahhbeaaGK
import Derived.Test.YtmoebpebahhbeaaHp1
namespace Go.Proofs.Ytmoebpebahhbeaa
set_option linter.unusedVariables false

/-- the first n items are a heap -/
def HeapOk (key : Nat → Nat) (Z : List Nat) (n : Nat) : Prop := ∀ x, 0 < x → x < n → key (at0 Z ((x - 1) / 2)) ≤ key (at0 Z x)
/-- but for the one at j, which may be less than the one above it -/
structure UpOk (key : Nat → Nat) (Z : List Nat) (n j : Nat) : Prop where
  one : ∀ x, 0 < x → x < n → x ≠ j → key (at0 Z ((x - 1) / 2)) ≤ key (at0 Z x)
  two : ∀ x, 0 < x → x < n → (x - 1) / 2 = j → 0 < j → key (at0 Z ((j - 1) / 2)) ≤ key (at0 Z x)
/-- but for the one at i, which may be greater than those below it -/
structure DownOk (key : Nat → Nat) (Z : List Nat) (n i : Nat) : Prop where
  one : ∀ x, 0 < x → x < n → (x - 1) / 2 ≠ i → key (at0 Z ((x - 1) / 2)) ≤ key (at0 Z x)
  two : ∀ x, 0 < x → x < n → (x - 1) / 2 = i → 0 < i → key (at0 Z ((i - 1) / 2)) ≤ key (at0 Z x)
theorem swp_len (Z : List Nat) (i j : Nat) : (swp Z i j).length = Z.length := by simp [swp]
theorem swp_at {Z : List Nat} {i j : Nat} (hi : i < Z.length) (hj : j < Z.length) (x : Nat) : at0 (swp Z i j) x = if x = j then at0 Z i else if x = i then at0 Z j else at0 Z x := by
  unfold swp
  rw [at0_set (by simpa using hj), at0_set hi]
  unfold upd
  rfl
theorem swp_perm {Z : List Nat} {i j : Nat} (hi : i < Z.length) (hj : j < Z.length) : (swp Z i j).Perm Z := by
  have h : ((Z.set i Z[j]).set j Z[i]).Perm Z := List.set_set_perm hi hj
  unfold swp
  rw [show at0 Z j = Z[j] by simp [at0, List.getD, List.getElem?_eq_getElem hj], show at0 Z i = Z[i] by simp [at0, List.getD, List.getElem?_eq_getElem hi]]
  exact h
section
variable {key : Nat → Nat} {Z : List Nat} {n i j : Nat}
theorem UpOk.done (h : UpOk key Z n j) (hd : j = 0 ∨ ¬ key (at0 Z j) < key (at0 Z ((j - 1) / 2))) : HeapOk key Z n := fun x hx hn => by
  by_cases e : x = j
  · subst e
    rcases hd with hd | hd
    · omega
    · omega
  · exact h.one x hx hn e
theorem UpOk.next (h : UpOk key Z n j) (hn : n ≤ Z.length) (hj : j < n) (h0 : 0 < j) (hl : key (at0 Z j) < key (at0 Z ((j - 1) / 2))) : UpOk key (swp Z ((j - 1) / 2) j) n ((j - 1) / 2) := by
  have hi : (j - 1) / 2 < j := by omega
  have hs := swp_at (Z := Z) (i := (j - 1) / 2) (j := j) (by omega) (by omega)
  generalize hi0 : (j - 1) / 2 = i at *
  refine ⟨fun x hx hxn hxi => ?_, fun x hx hxn hxp hi1 => ?_⟩
  · rw [hs, hs]
    by_cases e1 : x = j
    · subst e1
      rw [if_neg (by omega), if_pos (by omega), if_pos rfl]
      omega
    · rw [if_neg e1, if_neg hxi]
      by_cases e2 : (x - 1) / 2 = j
      · rw [if_pos e2, ← hi0]
        exact h.two x hx hxn e2 h0
      · rw [if_neg e2]
        have h1 := h.one x hx hxn e1
        by_cases e3 : (x - 1) / 2 = i
        · rw [if_pos e3]
          rw [e3] at h1
          omega
        · rw [if_neg e3]
          exact h1
  · rw [hs, hs, if_neg (show (i - 1) / 2 ≠ j by omega), if_neg (show (i - 1) / 2 ≠ i by omega)]
    have h1 := h.one i hi1 (by omega) (by omega)
    by_cases e1 : x = j
    · rw [if_pos e1]
      exact h1
    · rw [if_neg e1, if_neg (by omega)]
      have h2 := h.one x hx hxn e1
      rw [hxp] at h2
      omega
theorem DownOk.done (h : DownOk key Z n i) (hd : ∀ x, 0 < x → x < n → (x - 1) / 2 = i → key (at0 Z i) ≤ key (at0 Z x)) : HeapOk key Z n := fun x hx hn => by
  by_cases e : (x - 1) / 2 = i
  · rw [e]; exact hd x hx hn e
  · exact h.one x hx hn e
theorem DownOk.next (h : DownOk key Z n i) (hn : n ≤ Z.length) (hj : j < n) (h0 : 0 < j) (hp : (j - 1) / 2 = i) (hm : ∀ x, 0 < x → x < n → (x - 1) / 2 = i → key (at0 Z j) ≤ key (at0 Z x)) (hl : key (at0 Z j) < key (at0 Z i)) : DownOk key (swp Z i j) n j := by
  have hs := swp_at (Z := Z) (i := i) (j := j) (by omega) (by omega)
  refine ⟨fun x hx hxn hxp => ?_, fun x hx hxn hxp _ => ?_⟩
  · rw [hs, hs, if_neg hxp]
    by_cases e1 : (x - 1) / 2 = i
    · rw [if_pos e1]
      by_cases e2 : x = j
      · rw [if_pos e2]; omega
      · rw [if_neg e2, if_neg (by omega)]
        exact hm x hx hxn e1
    · rw [if_neg e1]
      by_cases e2 : x = j
      · subst e2; exact absurd hp e1
      · rw [if_neg e2]
        by_cases e3 : x = i
        · rw [if_pos e3, e3]
          exact h.two j h0 hj hp (by omega)
        · rw [if_neg e3]
          exact h.one x hx hxn e1
  · rw [hs, hs, hp, if_neg (by omega), if_pos rfl, if_neg (by omega), if_neg (by omega)]
    have h1 := h.one x hx hxn (by omega)
    rw [hxp] at h1
    exact h1
theorem at0_append_left {l r : List Nat} {x : Nat} (h : x < l.length) : at0 (l ++ r) x = at0 l x := by
  unfold at0
  rw [List.getD_eq_getElem?_getD, List.getElem?_append_left h, List.getD_eq_getElem?_getD]
theorem HeapOk.snoc (h : HeapOk key Z Z.length) (i : Nat) : UpOk key (Z ++ [i]) (Z.length + 1) Z.length := by
  refine ⟨fun x hx hn hne => ?_, fun x hx hn hp _ => by omega⟩
  rw [at0_append_left (by omega), at0_append_left (by omega)]
  exact h x hx (by omega)
/-- the first one is the least -/
theorem HeapOk.least (h : HeapOk key Z n) : ∀ m x, x ≤ m → x < n → key (at0 Z 0) ≤ key (at0 Z x) := by
  intro m
  induction m with
  | zero => intro x hx _; rw [Nat.le_zero.1 hx]; exact Nat.le_refl _
  | succ m ih =>
    intro x hx hn
    by_cases e : x = 0
    · rw [e]; exact Nat.le_refl _
    · exact Nat.le_trans (ih ((x - 1) / 2) (by omega) (by omega)) (h x (by omega) hn)
theorem HeapOk.swp (h : HeapOk key Z (n + 1)) (hn : n + 1 ≤ Z.length) : DownOk key (swp Z 0 n) n 0 := by
  have hs := swp_at (Z := Z) (i := 0) (j := n) (by omega) (by omega)
  refine ⟨fun x hx hxn hp => ?_, fun x hx hxn hp h0 => absurd h0 (Nat.lt_irrefl _)⟩
  rw [hs, hs, if_neg (by omega), if_neg hp, if_neg (by omega), if_neg (by omega)]
  exact h x hx (by omega)
end
end Go.Proofs.Ytmoebpebahhbeaa
