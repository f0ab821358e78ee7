/-
  Layer 2 in plain words: Spaces and notes, quotes, numbers, one token, all tokens. No walk.
-/
import Derived.Test.YtifmbhcajlnhbaaDoorWords
namespace Go.Proofs.YtifmbhcajlnhbaaDoor

/-- where the line ends (the feed's place, or the text's end), from i on -/
def LineTo (s : ByteArray) (i m : Nat) : Prop := i ≤ m ∧ m ≤ s.size ∧ (∀ j, i ≤ j → j < m → atB s j ≠ 10) ∧ (m = s.size ∨ atB s m = 10)
def lineTo (s : ByteArray) : Nat → Nat → Nat
  | 0, i => i
  | f + 1, i => if s.size ≤ i then i else if atB s i = 10 then i else lineTo s f (i + 1)
theorem lineTo_ok (s : ByteArray) : ∀ f i, i ≤ s.size → s.size - i ≤ f → LineTo s i (lineTo s f i) := by
  intro f
  induction f with
  | zero => intro i h1 h2; exact ⟨Nat.le_refl _, h1, fun j a b => by simp only [lineTo] at b; omega, .inl (by simp only [lineTo]; omega)⟩
  | succ f ih =>
    intro i h1 h2
    show LineTo s i (if s.size ≤ i then i else if atB s i = 10 then i else lineTo s f (i + 1))
    by_cases a : s.size ≤ i
    · rw [if_pos a]; exact ⟨Nat.le_refl _, h1, fun j a b => by omega, .inl (by omega)⟩
    by_cases b : atB s i = 10
    · rw [if_neg a, if_pos b]; exact ⟨Nat.le_refl _, h1, fun j a b => by omega, .inr b⟩
    · rw [if_neg a, if_neg b]
      obtain ⟨c, d, e, g⟩ := ih (i + 1) (by omega) (by omega)
      refine ⟨by omega, d, fun j h3 h4 => ?_, g⟩
      by_cases hj : j = i
      · rw [hj]; exact b
      · exact e j (by omega) h4
theorem LineTo.unique {s : ByteArray} {i m m' : Nat} (h : LineTo s i m) (h' : LineTo s i m') : m = m' := by
  obtain ⟨a, b, c, d⟩ := h
  obtain ⟨a', b', c', d'⟩ := h'
  rcases Nat.lt_trichotomy m m' with hl | he | hl
  · rcases d with e | e
    · omega
    · exact absurd e (c' m a hl)
  · exact he
  · rcases d' with e | e
    · omega
    · exact absurd e (c m' a' hl)

/-- from within notes d deep at i on: behind the last of them; none: it has no end, or is too deep -/
def note (s : ByteArray) : Nat → Nat → Nat → Option Nat
  | 0, _, _ => none
  | f + 1, d, i => if s.size ≤ i then none else if twoAt s i 123 45 = true then (if 100 ≤ d then none else note s f (d + 1) (i + 2))
    else if twoAt s i 45 125 = true then (if d ≤ 1 then some (i + 2) else note s f (d - 1) (i + 2)) else note s f d (i + 1)
theorem note_succ (s : ByteArray) (f d i : Nat) : note s (f + 1) d i = if s.size ≤ i then none else if twoAt s i 123 45 = true then (if 100 ≤ d then none else note s f (d + 1) (i + 2))
    else if twoAt s i 45 125 = true then (if d ≤ 1 then some (i + 2) else note s f (d - 1) (i + 2)) else note s f d (i + 1) := rfl
theorem note_end (s : ByteArray) (f d i : Nat) (h : s.size ≤ i) : note s f d i = none := by
  cases f with
  | zero => rfl
  | succ f => rw [note_succ, if_pos h]
theorem two_fits {s : ByteArray} {i : Nat} {a b : Int} (h : twoAt s i a b = true) : i + 2 ≤ s.size ∧ atB s i = a ∧ atB s (i + 1) = b := of_decide_eq_true h
theorem note_fuel (s : ByteArray) : ∀ f g d i, s.size - i ≤ f → s.size - i ≤ g → note s f d i = note s g d i := by
  intro f
  induction f with
  | zero => intro g d i h _; rw [note_end s 0 d i (by omega), note_end s g d i (by omega)]
  | succ f ih =>
    intro g d i h h'
    by_cases hi : s.size ≤ i
    · rw [note_end _ _ _ _ hi, note_end _ _ _ _ hi]
    · obtain ⟨g, rfl⟩ : ∃ g', g = g' + 1 := ⟨g - 1, by omega⟩
      rw [note_succ, note_succ, ih g (d + 1) (i + 2) (by omega) (by omega), ih g (d - 1) (i + 2) (by omega) (by omega), ih g d (i + 1) (by omega) (by omega)]
theorem note_bound (s : ByteArray) : ∀ f d i m, note s f d i = some m → i < m ∧ m ≤ s.size := by
  intro f
  induction f with
  | zero => intro d i m h; cases h
  | succ f ih =>
    intro d i m h
    rw [note_succ] at h
    by_cases a : s.size ≤ i
    · rw [if_pos a] at h; cases h
    rw [if_neg a] at h
    by_cases b : twoAt s i 123 45 = true
    · rw [if_pos b] at h
      by_cases c : 100 ≤ d
      · rw [if_pos c] at h; cases h
      · rw [if_neg c] at h
        have := ih _ _ _ h
        omega
    rw [if_neg b] at h
    by_cases c : twoAt s i 45 125 = true
    · rw [if_pos c] at h
      by_cases e : d ≤ 1
      · rw [if_pos e] at h
        have := two_fits c
        have := Option.some.inj h
        omega
      · rw [if_neg e] at h
        have := ih _ _ _ h
        omega
    · rw [if_neg c] at h
      have := ih _ _ _ h
      omega
/-- behind a note that begins at i -/
def noteAt (s : ByteArray) (i : Nat) : Option Nat := note s (s.size - i) 0 i

/-- behind Spaces and notes (left), or where the first note stands that is none (right) -/
def skp (s : ByteArray) : Nat → Nat → Nat ⊕ Nat
  | 0, i => .inl i
  | f + 1, i => if s.size ≤ i then .inl i else if cls (atB s i) = 1 then skp s f (i + 1) else if twoAt s i 45 45 = true then skp s f (lineTo s (s.size - i) i)
    else if twoAt s i 123 45 = true then (noteAt s i).elim (.inr i) (fun m => skp s f m) else .inl i
theorem skp_succ (s : ByteArray) (f i : Nat) : skp s (f + 1) i = if s.size ≤ i then .inl i else if cls (atB s i) = 1 then skp s f (i + 1) else if twoAt s i 45 45 = true then skp s f (lineTo s (s.size - i) i)
    else if twoAt s i 123 45 = true then (noteAt s i).elim (.inr i) (fun m => skp s f m) else .inl i := rfl
theorem skp_end (s : ByteArray) (f i : Nat) (h : s.size ≤ i) : skp s f i = .inl i := by
  cases f with
  | zero => rfl
  | succ f => rw [skp_succ, if_pos h]
theorem line_more {s : ByteArray} {i : Nat} (h : twoAt s i 45 45 = true) : i + 2 ≤ lineTo s (s.size - i) i ∧ lineTo s (s.size - i) i ≤ s.size := by
  obtain ⟨h1, h2, h3⟩ := two_fits h
  obtain ⟨a, b, c, d⟩ := lineTo_ok s (s.size - i) i (by omega) (Nat.le_refl _)
  refine ⟨?_, b⟩
  rcases Nat.lt_or_ge (lineTo s (s.size - i) i) (i + 2) with hlt | hge
  · rcases d with e | e
    · omega
    · have : lineTo s (s.size - i) i = i ∨ lineTo s (s.size - i) i = i + 1 := by omega
      rcases this with q | q
      · rw [q] at e; omega
      · rw [q] at e; omega
  · exact hge
theorem skp_fuel (s : ByteArray) : ∀ f g i, s.size - i ≤ f → s.size - i ≤ g → skp s f i = skp s g i := by
  intro f
  induction f with
  | zero => intro g i h _; rw [skp_end s 0 i (by omega), skp_end s g i (by omega)]
  | succ f ih =>
    intro g i h h'
    by_cases hi : s.size ≤ i
    · rw [skp_end _ _ _ hi, skp_end _ _ _ hi]
    · obtain ⟨g, rfl⟩ : ∃ g', g = g' + 1 := ⟨g - 1, by omega⟩
      rw [skp_succ, skp_succ, ih g (i + 1) (by omega) (by omega)]
      have e1 : twoAt s i 45 45 = true → skp s f (lineTo s (s.size - i) i) = skp s g (lineTo s (s.size - i) i) := fun ht => by
        have := line_more ht
        exact ih g _ (by omega) (by omega)
      have e2 : (noteAt s i).elim (Sum.inr i) (fun m => skp s f m) = (noteAt s i).elim (Sum.inr i) (fun m => skp s g m) := by
        cases hn : noteAt s i with
        | none => rfl
        | some m =>
          have := note_bound _ _ _ _ _ hn
          exact ih g m (by omega) (by omega)
      rw [e2]
      by_cases a : cls (atB s i) = 1
      · simp only [a, if_true]
      · by_cases b : twoAt s i 45 45 = true
        · rw [e1 b]
        · simp only [if_neg b]
def skip (s : ByteArray) (i : Nat) : Nat ⊕ Nat := skp s (s.size - i) i
theorem skip_end (s : ByteArray) (i : Nat) (h : s.size ≤ i) : skip s i = .inl i := skp_end s _ i h
theorem skip_step (s : ByteArray) (i : Nat) (h : i < s.size) : skip s i = if cls (atB s i) = 1 then skip s (i + 1) else if twoAt s i 45 45 = true then skip s (lineTo s (s.size - i) i)
    else if twoAt s i 123 45 = true then (noteAt s i).elim (.inr i) (fun m => skip s m) else .inl i := by
  unfold skip
  obtain ⟨f, hf⟩ : ∃ f, s.size - i = f + 1 := ⟨s.size - i - 1, by omega⟩
  rw [hf, skp_succ, if_neg (by omega), ← hf]
  have e0 : skp s f (i + 1) = skp s (s.size - (i + 1)) (i + 1) := skp_fuel s _ _ _ (by omega) (by omega)
  have e1 : twoAt s i 45 45 = true → skp s f (lineTo s (s.size - i) i) = skp s (s.size - lineTo s (s.size - i) i) (lineTo s (s.size - i) i) := fun ht => by
    have := line_more ht
    exact skp_fuel s _ _ _ (by omega) (by omega)
  have e2 : (noteAt s i).elim (Sum.inr i) (fun m => skp s f m) = (noteAt s i).elim (Sum.inr i) (fun m => skp s (s.size - m) m) := by
    cases hn : noteAt s i with
    | none => rfl
    | some m =>
      have := note_bound _ _ _ _ _ hn
      exact skp_fuel s _ _ _ (by omega) (by omega)
  rw [e0, e2]
  by_cases a : cls (atB s i) = 1
  · simp only [a, if_true]
  · by_cases b : twoAt s i 45 45 = true
    · rw [e1 b]
    · simp only [if_neg b]
end Go.Proofs.YtifmbhcajlnhbaaDoor
