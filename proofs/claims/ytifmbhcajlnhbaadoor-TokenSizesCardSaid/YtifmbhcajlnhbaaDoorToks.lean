/-
  Layer 2 in plain words, as the program has it: one token, and all of them. No walk.
-/
import Derived.Test.YtifmbhcajlnhbaaDoorTok0
namespace Go.Proofs.YtifmbhcajlnhbaaDoor
set_option linter.unusedVariables false
open Go.RowKit

/-- a Number, whatever stands behind it -/
def numP (s : ByteArray) (i : Nat) : Tk ⊕ (Nat × Int) := (dgsAt s i 0).elim (.inr (i, 21)) fun r => .inl ⟨3, i, r.1, s.extract i r.1, r.2⟩
/-- a Name, unless a Digit stands right ahead of it -/
def nameP (s : ByteArray) (i : Nat) : Tk ⊕ (Nat × Int) := if 0 < i ∧ cls (atB s (i - 1)) = 2 then .inr (i, 20) else nameAt s i
/-- the end -/
def endT (s : ByteArray) : Tk := ⟨9, s.size, s.size, ⟨#[]⟩, 0⟩
/-- the token at i (the End at the text's), or what is wrong -/
def readAt (s : ByteArray) (i : Nat) : Tk ⊕ (Nat × Int) :=
  if s.size ≤ i then .inl (endT s)
  else if cls (atB s i) = 3 ∨ cls (atB s i) = 4 then nameP s i
  else if cls (atB s i) = 2 then numP s i
  else if cls (atB s i) = 7 then textAt s i
  else if cls (atB s i) = 5 then opAt s i
  else if cls (atB s i) = 6 then .inl ⟨7, i, i + 1, s.extract i (i + 1), 0⟩
  else .inr (i, 20)
/-- what is told of it: the token, or a place; and what is wrong -/
def tkOf (r : Tk ⊕ (Nat × Int)) : Tk := match r with
  | .inl t => t
  | .inr p => ⟨0, p.1, 0, ⟨#[]⟩, 0⟩
def tkV (t : Tk) : Value := .agg #[.int .i64 t.kind, .int .i64 t.at_, .int .i64 t.fin, .string t.text, .int .i64 t.n]
def erOf (r : Tk ⊕ (Nat × Int)) : Int := match r with
  | .inl _ => 0
  | .inr p => p.2

theorem dgs_le (s : ByteArray) : ∀ f k n r, dgs s f k n = some r → k ≤ s.size → k ≤ r.1 ∧ r.1 ≤ s.size := by
  intro f
  induction f with
  | zero => intro k n r h hk; have := Option.some.inj h; subst this; exact ⟨Nat.le_refl _, hk⟩
  | succ f ih =>
    intro k n r h hk
    rw [dgs_succ] at h
    by_cases a : s.size ≤ k
    · rw [if_pos a] at h; have := Option.some.inj h; subst this; exact ⟨Nat.le_refl _, hk⟩
    rw [if_neg a] at h
    by_cases b : cls (atB s k) = 2
    · rw [if_pos b] at h
      by_cases c : tooGreat n (atB s k - 48) = true
      · rw [if_pos c] at h; cases h
      · rw [if_neg c] at h
        have := ih _ _ _ h (by omega)
        omega
    · rw [if_neg b] at h; have := Option.some.inj h; subst this; exact ⟨Nat.le_refl _, hk⟩
theorem dgsAt_more {s : ByteArray} {i : Nat} {r : Nat × Int} (h : dgsAt s i 0 = some r) (hi : i < s.size) (hc : cls (atB s i) = 2) : i < r.1 ∧ r.1 ≤ s.size := by
  rw [dgsAt_step s i 0 hi, if_pos hc] at h
  by_cases c : tooGreat 0 (atB s i - 48) = true
  · rw [if_pos c] at h; cases h
  · rw [if_neg c] at h
    have := dgs_le s _ _ _ _ h (by omega)
    omega
theorem qut_le (s : ByteArray) (q : Int) : ∀ f k l r, qut s q f k l = some r → k ≤ r.2 ∧ r.2 < s.size := by
  intro f
  induction f with
  | zero => intro k l r h; cases h
  | succ f ih =>
    intro k l r h
    rw [qut_succ] at h
    by_cases a : s.size ≤ k
    · rw [if_pos a] at h; cases h
    rw [if_neg a] at h
    by_cases b : atB s k = q
    · rw [if_pos b] at h; have := Option.some.inj h; subst this; exact ⟨Nat.le_refl _, by omega⟩
    rw [if_neg b] at h
    cases hu : un s k with
    | none => rw [hu] at h; cases h
    | some p =>
      obtain ⟨c, n⟩ := p
      obtain ⟨m, rfl, hm, _⟩ := un_next2 hu (by omega)
      rw [hu] at h
      simp only [Option.bind_some, Int.toNat_natCast] at h
      by_cases d : 256 ≤ l
      · rw [if_pos d] at h; cases h
      rw [if_neg d] at h
      obtain ⟨r', hr', rfl⟩ := Option.map_eq_some_iff.1 h
      have := ih _ _ _ hr'
      exact ⟨by show k ≤ r'.2; omega, this.2⟩
theorem quotedAt_le {s : ByteArray} {i : Nat} {r : List Int × Nat} (h : quotedAt s i = some r) : i < r.2 ∧ r.2 ≤ s.size := by
  unfold quotedAt at h
  obtain ⟨x, hx, hr⟩ := Option.bind_eq_some_iff.1 h
  have := qut_le s _ _ _ _ _ hx
  by_cases c : atB s i = 39 ∧ x.1.length ≠ 1
  · rw [if_pos c] at hr; cases hr
  · rw [if_neg c] at hr
    have := Option.some.inj hr
    subst this
    show i < x.2 + 1 ∧ x.2 + 1 ≤ s.size
    omega
theorem cls34 {c : Int} (h : cls c = 3 ∨ cls c = 4) : letB c = true := by
  unfold letB
  rcases h with h | h <;> simp [h]
theorem wordEnd_ok (s : ByteArray) (i : Nat) (h : i ≤ s.size) : RunTo s i (wordEnd s i) := runEnd_ok s (s.size - i) i h (Nat.le_refl _)
theorem wordEnd_more {s : ByteArray} {i : Nat} (h : i < s.size) (hc : letB (atB s i) = true) : i < wordEnd s i ∧ wordEnd s i ≤ s.size := by
  obtain ⟨a, b, c, d⟩ := wordEnd_ok s i (by omega)
  refine ⟨?_, b⟩
  rcases Nat.lt_or_ge i (wordEnd s i) with h1 | h1
  · exact h1
  · have e : wordEnd s i = i := by omega
    rw [e] at d
    rcases d with d | d
    · omega
    · rw [hc] at d; cases d

/-- a token begins where it is read, and has at least a byte; it is no End -/
theorem readAt_lt {s : ByteArray} {i : Nat} {t : Tk} (hi : i < s.size) (h : readAt s i = .inl t) : t.at_ = i ∧ i < t.fin ∧ t.fin ≤ s.size ∧ t.kind ≠ 9 := by
  unfold readAt at h
  rw [if_neg (by omega)] at h
  by_cases c1 : cls (atB s i) = 3 ∨ cls (atB s i) = 4
  · rw [if_pos c1] at h
    unfold nameP at h
    by_cases d : 0 < i ∧ cls (atB s (i - 1)) = 2
    · rw [if_pos d] at h; cases h
    rw [if_neg d] at h
    unfold nameAt at h
    have hw := wordEnd_more hi (cls34 c1)
    by_cases e : 32 < wordEnd s i - i
    · rw [if_pos e] at h; cases h
    rw [if_neg e] at h
    cases h
    refine ⟨rfl, hw.1, hw.2, ?_⟩
    show (if _ then (8 : Int) else if _ then 1 else 2) ≠ 9
    split
    · decide
    · split <;> decide
  rw [if_neg c1] at h
  by_cases c2 : cls (atB s i) = 2
  · rw [if_pos c2] at h
    unfold numP at h
    cases hd : dgsAt s i 0 with
    | none => rw [hd] at h; cases h
    | some r =>
      rw [hd] at h
      have := dgsAt_more hd hi c2
      cases h
      exact ⟨rfl, this.1, this.2, (show (3 : Int) ≠ 9 by decide)⟩
  rw [if_neg c2] at h
  by_cases c3 : cls (atB s i) = 7
  · rw [if_pos c3] at h
    unfold textAt at h
    cases hd : quotedAt s i with
    | none => rw [hd] at h; cases h
    | some r =>
      rw [hd] at h
      have := quotedAt_le hd
      cases h
      refine ⟨rfl, this.1, this.2, ?_⟩
      show (if _ then (4 : Int) else 5) ≠ 9
      split <;> decide
  rw [if_neg c3] at h
  by_cases c5 : cls (atB s i) = 5
  · rw [if_pos c5] at h
    unfold opAt at h
    by_cases d : i + 2 ≤ s.size ∧ inL opsL (s.extract i (i + 2)) = true
    · rw [if_pos d] at h; cases h; exact ⟨rfl, by show i < i + 2; omega, d.1, (show (6 : Int) ≠ 9 by decide)⟩
    rw [if_neg d] at h
    by_cases e : inL opsL (s.extract i (i + 1)) = true
    · rw [if_pos e] at h; cases h; exact ⟨rfl, by show i < i + 1; omega, by show i + 1 ≤ s.size; omega, (show (6 : Int) ≠ 9 by decide)⟩
    · rw [if_neg e] at h; cases h
  rw [if_neg c5] at h
  by_cases c6 : cls (atB s i) = 6
  · rw [if_pos c6] at h; cases h; exact ⟨rfl, by show i < i + 1; omega, by show i + 1 ≤ s.size; omega, (show (7 : Int) ≠ 9 by decide)⟩
  · rw [if_neg c6] at h; cases h

theorem skp_le (s : ByteArray) : ∀ f i j, skp s f i = .inl j → i ≤ s.size → i ≤ j ∧ j ≤ s.size := by
  intro f
  induction f with
  | zero => intro i j h hi; cases h; exact ⟨Nat.le_refl _, hi⟩
  | succ f ih =>
    intro i j h hi
    rw [skp_succ] at h
    by_cases a : s.size ≤ i
    · rw [if_pos a] at h; cases h; exact ⟨Nat.le_refl _, hi⟩
    rw [if_neg a] at h
    by_cases b : cls (atB s i) = 1
    · rw [if_pos b] at h; have := ih _ _ h (by omega); omega
    rw [if_neg b] at h
    by_cases c : twoAt s i 45 45 = true
    · rw [if_pos c] at h; have h1 := line_more c; have := ih _ _ h h1.2; omega
    rw [if_neg c] at h
    by_cases d : twoAt s i 123 45 = true
    · rw [if_pos d] at h
      cases hn : noteAt s i with
      | none => rw [hn] at h; cases h
      | some m =>
        rw [hn] at h
        have h1 := note_bound _ _ _ _ _ hn
        have := ih m j h h1.2
        omega
    · rw [if_neg d] at h; cases h; exact ⟨Nat.le_refl _, hi⟩
theorem skip_le {s : ByteArray} {i j : Nat} (h : skip s i = .inl j) (hi : i ≤ s.size) : i ≤ j ∧ j ≤ s.size := skp_le s _ i j h hi
theorem skp_bad (s : ByteArray) : ∀ f i j, skp s f i = .inr j → i ≤ s.size → i ≤ j ∧ j ≤ s.size := by
  intro f
  induction f with
  | zero => intro i j h hi; cases h
  | succ f ih =>
    intro i j h hi
    rw [skp_succ] at h
    by_cases a : s.size ≤ i
    · rw [if_pos a] at h; cases h
    rw [if_neg a] at h
    by_cases b : cls (atB s i) = 1
    · rw [if_pos b] at h; have := ih _ _ h (by omega); omega
    rw [if_neg b] at h
    by_cases c : twoAt s i 45 45 = true
    · rw [if_pos c] at h; have h1 := line_more c; have := ih _ _ h h1.2; omega
    rw [if_neg c] at h
    by_cases d : twoAt s i 123 45 = true
    · rw [if_pos d] at h
      cases hn : noteAt s i with
      | none => rw [hn] at h; cases h; exact ⟨Nat.le_refl _, hi⟩
      | some m =>
        rw [hn] at h
        have h1 := note_bound _ _ _ _ _ hn
        have := ih m j h h1.2
        omega
    · rw [if_neg d] at h; cases h
theorem skip_bad {s : ByteArray} {i j : Nat} (h : skip s i = .inr j) (hi : i ≤ s.size) : i ≤ j ∧ j ≤ s.size := skp_bad s _ i j h hi

theorem note_step (s : ByteArray) (d m : Nat) (h : m < s.size) : note s (s.size - m) d m = if twoAt s m 123 45 = true then (if 100 ≤ d then none else note s (s.size - (m + 2)) (d + 1) (m + 2))
    else if twoAt s m 45 125 = true then (if d ≤ 1 then some (m + 2) else note s (s.size - (m + 2)) (d - 1) (m + 2)) else note s (s.size - (m + 1)) d (m + 1) := by
  obtain ⟨f, hf⟩ : ∃ f, s.size - m = f + 1 := ⟨s.size - m - 1, by omega⟩
  rw [hf, note_succ, if_neg (by omega), note_fuel s f (s.size - (m + 2)) (d + 1) (m + 2) (by omega) (by omega), note_fuel s f (s.size - (m + 2)) (d - 1) (m + 2) (by omega) (by omega), note_fuel s f (s.size - (m + 1)) d (m + 1) (by omega) (by omega)]

/-- all tokens from i on, or the first fault -/
def toks (s : ByteArray) : Nat → Nat → List Tk ⊕ (Nat × Int)
  | 0, i => .inl []
  | f + 1, i => (skip s i).elim (fun j => (readAt s j).elim (fun t => if t.kind = 9 then .inl [t] else (toks s f t.fin).elim (fun l => .inl (t :: l)) .inr) .inr) fun m => .inr (m, 23)
theorem toks_succ (s : ByteArray) (f i : Nat) : toks s (f + 1) i = (skip s i).elim (fun j => (readAt s j).elim (fun t => if t.kind = 9 then .inl [t] else (toks s f t.fin).elim (fun l => .inl (t :: l)) .inr) .inr) fun m => .inr (m, 23) := rfl
theorem readAt_end (s : ByteArray) (j : Nat) (h : s.size ≤ j) : readAt s j = .inl (endT s) := by unfold readAt; rw [if_pos h]
theorem toks_fuel (s : ByteArray) : ∀ f g i, i ≤ s.size → s.size - i < f → s.size - i < g → toks s f i = toks s g i := by
  intro f
  induction f with
  | zero => intro g i _ h; omega
  | succ f ih =>
    intro g i hi h h'
    obtain ⟨g, rfl⟩ : ∃ g', g = g' + 1 := ⟨g - 1, by omega⟩
    rw [toks_succ, toks_succ]
    cases hs : skip s i with
    | inr m => rfl
    | inl j =>
      have hj := skip_le hs hi
      simp only [Sum.elim_inl]
      cases hr : readAt s j with
      | inr x => rfl
      | inl t =>
        simp only [Sum.elim_inl]
        by_cases h9 : t.kind = 9
        · rw [if_pos h9, if_pos h9]
        · rw [if_neg h9, if_neg h9]
          rcases Nat.lt_or_ge j s.size with hlt | hge
          · obtain ⟨_, h2, h3, _⟩ := readAt_lt hlt hr
            rw [ih g t.fin h3 (by omega) (by omega)]
          · rw [readAt_end s j hge] at hr
            cases hr
            exact absurd rfl h9
/-- all tokens, or the first fault -/
def scanAt (s : ByteArray) (i : Nat) : List Tk ⊕ (Nat × Int) := toks s (s.size + 1) i
theorem scanAt_step {s : ByteArray} {i : Nat} (hi : i ≤ s.size) : scanAt s i = (skip s i).elim (fun j => (readAt s j).elim (fun t => if t.kind = 9 then .inl [t] else (scanAt s t.fin).elim (fun l => .inl (t :: l)) .inr) .inr) fun m => .inr (m, 23) := by
  show toks s (s.size + 1) i = _
  rw [toks_succ]
  cases hs : skip s i with
  | inr m => rfl
  | inl j =>
    have hj := skip_le hs hi
    simp only [Sum.elim_inl]
    cases hr : readAt s j with
    | inr x => rfl
    | inl t =>
      simp only [Sum.elim_inl]
      by_cases h9 : t.kind = 9
      · rw [if_pos h9, if_pos h9]
      · rw [if_neg h9, if_neg h9]
        rcases Nat.lt_or_ge j s.size with hlt | hge
        · obtain ⟨_, h2, h3, _⟩ := readAt_lt hlt hr
          rw [show scanAt s t.fin = toks s s.size t.fin from toks_fuel s _ _ _ h3 (by omega) (by omega)]
        · rw [readAt_end s j hge] at hr
          cases hr
          exact absurd rfl h9

/-- these are the tokens from i on -/
inductive Sc (s : ByteArray) : Nat → List Tk → Prop
  | fin {i : Nat} : i ≤ s.size → skip s i = .inl s.size → Sc s i [endT s]
  | tok {i j : Nat} {t : Tk} {l : List Tk} : i ≤ s.size → skip s i = .inl j → j < s.size → readAt s j = .inl t → Sc s t.fin l → Sc s i (t :: l)
theorem sc_of_scan {s : ByteArray} : ∀ (n i : Nat) (l : List Tk), i ≤ s.size → s.size - i ≤ n → scanAt s i = .inl l → Sc s i l := by
  intro n
  induction n with
  | zero =>
    intro i l hi hn h
    rw [scanAt_step hi] at h
    have e : i = s.size := by omega
    subst e
    rw [skip_end s _ (Nat.le_refl _)] at h
    simp only [Sum.elim_inl] at h
    rw [readAt_end s _ (Nat.le_refl _)] at h
    simp only [Sum.elim_inl] at h
    rw [if_pos (show (endT s).kind = 9 from rfl)] at h
    cases h
    exact .fin (Nat.le_refl _) (skip_end s _ (Nat.le_refl _))
  | succ n ih =>
    intro i l hi hn h
    rw [scanAt_step hi] at h
    cases hs : skip s i with
    | inr m => rw [hs] at h; cases h
    | inl j =>
      have hj := skip_le hs hi
      rw [hs] at h
      simp only [Sum.elim_inl] at h
      rcases Nat.lt_or_ge j s.size with hlt | hge
      · cases hr : readAt s j with
        | inr x => rw [hr] at h; cases h
        | inl t =>
          obtain ⟨_, h2, h3, h9⟩ := readAt_lt hlt hr
          rw [hr] at h
          simp only [Sum.elim_inl] at h
          rw [if_neg h9] at h
          cases hq : scanAt s t.fin with
          | inr x => rw [hq] at h; cases h
          | inl l' =>
            rw [hq] at h
            cases h
            exact .tok hi hs hlt hr (ih _ _ h3 (by omega) hq)
      · rw [readAt_end s _ hge] at h
        simp only [Sum.elim_inl] at h
        rw [if_pos (show (endT s).kind = 9 from rfl)] at h
        cases h
        obtain rfl : j = s.size := by omega
        exact .fin hi hs
theorem scan_of_sc {s : ByteArray} {i : Nat} {l : List Tk} (h : Sc s i l) : scanAt s i = .inl l := by
  induction h with
  | fin hi hs =>
    rw [scanAt_step hi, hs]
    simp only [Sum.elim_inl]
    rw [readAt_end s _ (Nat.le_refl _)]
    simp only [Sum.elim_inl]
    rw [if_pos (show (endT s).kind = 9 from rfl)]
  | tok hi hs hj hr _ ih =>
    obtain ⟨_, _, _, h9⟩ := readAt_lt hj hr
    rw [scanAt_step hi, hs]
    simp only [Sum.elim_inl]
    rw [hr]
    simp only [Sum.elim_inl]
    rw [if_neg h9, ih]
    rfl
end Go.Proofs.YtifmbhcajlnhbaaDoor
