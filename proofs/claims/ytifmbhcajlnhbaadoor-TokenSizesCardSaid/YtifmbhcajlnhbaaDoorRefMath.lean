/-
  Layer 2 in plain words: the document's Scan, that looks behind a Number, tells what the program's tells, that looks ahead of a Name. No walk.
-/
import Derived.Test.YtifmbhcajlnhbaaDoorPlaceMath
namespace Go.Proofs.YtifmbhcajlnhbaaDoor
set_option linter.unusedVariables false
open Go.RowKit

/-- the document's Scan from i on, j tokens ahead of it -/
def rsc (s : ByteArray) : Nat → Nat → Nat → List Tk ⊕ (Nat × Int)
  | 0, _, _ => .inl []
  | f + 1, j, i => (skip s i).elim (fun k => if s.size ≤ k then .inl [endT s] else (oneAt s k).elim (fun t => if 16384 ≤ j then .inr (k, 6) else (rsc s f (j + 1) t.fin).elim (fun l => .inl (t :: l)) .inr) .inr) fun m => .inr (m, 23)
theorem rsc_succ (s : ByteArray) (f j i : Nat) : rsc s (f + 1) j i = (skip s i).elim (fun k => if s.size ≤ k then .inl [endT s] else (oneAt s k).elim (fun t => if 16384 ≤ j then .inr (k, 6) else (rsc s f (j + 1) t.fin).elim (fun l => .inl (t :: l)) .inr) .inr) fun m => .inr (m, 23) := rfl

/-- a token of the document's is the program's, but for what is looked ahead and behind -/
theorem oneAt_cases {s : ByteArray} {k : Nat} (hk : k < s.size) (hp : (cls (atB s k) = 3 ∨ cls (atB s k) = 4) → k = 0 ∨ cls (atB s (k - 1)) ≠ 2) :
    (oneAt s k = readAt s k ∧ ∀ t, readAt s k = .inl t → cls (atB s k) = 2 → ¬ (t.fin < s.size ∧ letB (atB s t.fin) = true ∧ atB s t.fin ≠ 39)) ∨
    ∃ (m : Nat) (t : Tk), readAt s k = .inl t ∧ t.fin = m ∧ oneAt s k = .inr (m, 20) ∧ m < s.size ∧ (cls (atB s m) = 3 ∨ cls (atB s m) = 4) ∧ cls (atB s (m - 1)) = 2 ∧ 0 < m := by
  unfold oneAt readAt
  rw [if_neg (show ¬ s.size ≤ k by omega)]
  by_cases c1 : cls (atB s k) = 3 ∨ cls (atB s k) = 4
  · rw [if_pos c1, if_pos c1]
    left
    unfold nameP
    rw [if_neg (by rintro ⟨h1, h2⟩; rcases hp c1 with q | q; omega; exact q h2)]
    exact ⟨rfl, fun t _ h2 => by omega⟩
  rw [if_neg c1, if_neg c1]
  by_cases c2 : cls (atB s k) = 2
  · rw [if_pos c2, if_pos c2]
    unfold numAt numP
    cases hd : dgsAt s k 0 with
    | none => exact .inl ⟨rfl, fun t h => by cases h⟩
    | some r =>
      obtain ⟨m, v⟩ := r
      simp only [Option.elim_some]
      have hm := dgsAt_more hd hk c2
      simp only at hm
      by_cases hl : m < s.size ∧ letB (atB s m) = true ∧ atB s m ≠ 39
      · rw [if_pos hl]
        right
        -- all from k up to m are digits, m is none
        have key : ∀ f x n, dgs s f x n = some (m, v) → s.size - x ≤ f → (x < m → cls (atB s (m - 1)) = 2) ∧ cls (atB s m) ≠ 2 := by
          intro f
          induction f with
          | zero => intro x n h hf; have := congrArg Prod.fst (Option.some.inj h); simp only at this; exact ⟨fun h => by omega, fun _ => by omega⟩
          | succ f ih =>
            intro x n h hf
            rw [dgs_succ] at h
            by_cases a : s.size ≤ x
            · rw [if_pos a] at h; have := congrArg Prod.fst (Option.some.inj h); simp only at this; omega
            rw [if_neg a] at h
            by_cases b : cls (atB s x) = 2
            · rw [if_pos b] at h
              by_cases c : tooGreat n (atB s x - 48) = true
              · rw [if_pos c] at h; cases h
              rw [if_neg c] at h
              have := ih _ _ h (by omega)
              refine ⟨fun hx => ?_, this.2⟩
              by_cases hx1 : x + 1 < m
              · exact this.1 hx1
              · rw [show m - 1 = x from by omega]; exact b
            · rw [if_neg b] at h
              have := congrArg Prod.fst (Option.some.inj h)
              simp only at this
              subst this
              exact ⟨fun h => by omega, b⟩
        have hk2 := key _ k 0 hd (Nat.le_refl _)
        refine ⟨m, _, rfl, rfl, rfl, hl.1, ?_, hk2.1 hm.1, by omega⟩
        have h3 := hl.2.1
        unfold letB at h3
        simp only [Bool.or_eq_true, beq_iff_eq] at h3
        rcases h3 with ((h3 | h3) | h3) | h3
        · exact .inl h3
        · exact .inr h3
        · exact absurd h3 hk2.2
        · exact absurd h3 hl.2.2
      · rw [if_neg hl]
        exact .inl ⟨rfl, fun t h _ => by cases h; exact hl⟩
  rw [if_neg c2, if_neg c2]
  left
  refine ⟨?_, fun t _ h => absurd h c2⟩
  by_cases c3 : cls (atB s k) = 7
  · rw [if_pos c3, if_pos c3]
  rw [if_neg c3, if_neg c3]
  by_cases c5 : cls (atB s k) = 5
  · rw [if_neg (by omega), if_pos c5, if_pos c5]
  · rw [if_neg c5, if_neg c5]

/-- behind what is skipped stands no Digit, unless nothing is skipped -/
theorem skp_prev (s : ByteArray) : ∀ f i k, skp s f i = .inl k → s.size - i ≤ f → k < s.size → k = i ∨ (i < k ∧ cls (atB s (k - 1)) ≠ 2) := by
  intro f
  induction f with
  | zero => intro i k e hf hk; cases e; exact .inl rfl
  | succ f ih =>
    intro i k e hf hk
    rw [skp_succ] at e
    by_cases a : s.size ≤ i
    · rw [if_pos a] at e; cases e; exact .inl rfl
    rw [if_neg a] at e
    by_cases b : cls (atB s i) = 1
    · rw [if_pos b] at e
      rcases ih _ _ e (by omega) hk with h | h
      · exact .inr ⟨by omega, by rw [h, show i + 1 - 1 = i from rfl, b]; decide⟩
      · exact .inr ⟨by omega, h.2⟩
    rw [if_neg b] at e
    by_cases c : twoAt s i 45 45 = true
    · rw [if_pos c] at e
      have hl := line_more c
      have hle := skp_le s _ _ _ e hl.2
      rcases ih _ _ e (by omega) hk with h | h
      · -- the line's end is a Space: nothing stops there
        obtain ⟨_, _, _, l4⟩ := lineTo_ok s (s.size - i) i (by omega) (Nat.le_refl _)
        have hst := (skp_stop s f _ k e (by omega) hk).1
        rcases l4 with q | q
        · omega
        · rw [h, q] at hst; exact absurd (by decide) hst
      · exact .inr ⟨by omega, h.2⟩
    rw [if_neg c] at e
    by_cases d : twoAt s i 123 45 = true
    · rw [if_pos d] at e
      cases hn : noteAt s i with
      | none => rw [hn] at e; cases e
      | some m =>
        rw [hn] at e
        have hm := note_bound _ _ _ _ _ hn
        have e : skp s f m = .inl k := e
        rcases ih _ _ e (by omega) hk with h | h
        · refine .inr ⟨by omega, ?_⟩
          have key : ∀ f d x m, note s f d x = some m → atB s (m - 1) = 125 := by
            intro f
            induction f with
            | zero => intro d x m h; cases h
            | succ f ih =>
              intro d x m h
              rw [note_succ] at h
              by_cases a : s.size ≤ x
              · rw [if_pos a] at h; cases h
              rw [if_neg a] at h
              by_cases b : twoAt s x 123 45 = true
              · rw [if_pos b] at h
                by_cases c : 100 ≤ d
                · rw [if_pos c] at h; cases h
                · rw [if_neg c] at h; exact ih _ _ _ h
              rw [if_neg b] at h
              by_cases c : twoAt s x 45 125 = true
              · rw [if_pos c] at h
                by_cases d1 : d ≤ 1
                · rw [if_pos d1] at h
                  have := Option.some.inj h
                  subst this
                  exact (two_fits c).2.2
                · rw [if_neg d1] at h; exact ih _ _ _ h
              · rw [if_neg c] at h; exact ih _ _ _ h
          rw [h, key _ _ _ _ hn]
          decide
        · exact .inr ⟨by omega, h.2⟩
    · rw [if_neg d] at e; cases e; exact .inl rfl

theorem op_digit {u : ByteArray} {j : Nat} (hj : j + 2 ≤ u.size) (h : cls (atB u (j + 1)) = 2) : inL opsL (u.extract j (j + 2)) = false := by
  have hl : u.data.toList.length = u.size := Array.length_toList
  have e : (u.extract j (j + 2)).toList = [u.data.toList.getD j 0, u.data.toList.getD (j + 1) 0] := by
    rw [ByteArray.toList_eq, Lib.extract_data, show j + 2 - j = 1 + 1 from by omega]
    rw [List.drop_eq_getElem_cons (by omega), List.drop_eq_getElem_cons (by omega)]
    simp [List.getD, hl, show j < u.size from by omega, show j + 1 < u.size from by omega]
  have hb := (cls2 _).1 h
  unfold atB at hb
  unfold inL
  rw [e]
  generalize u.data.toList.getD j 0 = x at hb ⊢
  generalize u.data.toList.getD (j + 1) 0 = y at hb ⊢
  have key : ∀ n : Nat, n ≠ 61 → n ≠ 38 → n ≠ 124 → n ≠ 43 → n ≠ 62 → n ≠ 58 → y = UInt8.ofNat n → True := fun _ _ _ _ _ _ _ _ => trivial
  have n1 : y ≠ 61 := by rintro rfl; simp at hb
  have n2 : y ≠ 38 := by rintro rfl; simp at hb
  have n3 : y ≠ 124 := by rintro rfl; simp at hb
  have n4 : y ≠ 43 := by rintro rfl; simp at hb
  have n5 : y ≠ 62 := by rintro rfl; simp at hb
  have n6 : y ≠ 58 := by rintro rfl; simp at hb
  simp [opsL, ByteArray.toList_eq, Ne.symm n1, Ne.symm n2, Ne.symm n3, Ne.symm n4, Ne.symm n5, Ne.symm n6]

/-- behind a token no Name follows a Digit, but where a Number is looked behind -/
theorem tok_prev {s : ByteArray} {k : Nat} {t : Tk} (hk : k < s.size) (hr : readAt s k = .inl t) (hno : cls (atB s k) = 2 → ¬ (t.fin < s.size ∧ letB (atB s t.fin) = true ∧ atB s t.fin ≠ 39))
    (ht : t.fin < s.size) (hc : cls (atB s t.fin) = 3 ∨ cls (atB s t.fin) = 4) : cls (atB s (t.fin - 1)) ≠ 2 := by
  have hlet := cls34 hc
  unfold readAt at hr
  rw [if_neg (by omega)] at hr
  by_cases c1 : cls (atB s k) = 3 ∨ cls (atB s k) = 4
  · rw [if_pos c1] at hr
    unfold nameP at hr
    by_cases d : 0 < k ∧ cls (atB s (k - 1)) = 2
    · rw [if_pos d] at hr; cases hr
    rw [if_neg d] at hr
    unfold nameAt at hr
    by_cases e : 32 < wordEnd s k - k
    · rw [if_pos e] at hr; cases hr
    rw [if_neg e] at hr
    cases hr
    obtain ⟨_, _, _, w4⟩ := wordEnd_ok s k (by omega)
    rcases w4 with q | q
    · have : wordEnd s k < s.size := ht
      omega
    · have : letB (atB s (wordEnd s k)) = true := hlet
      rw [this] at q; cases q
  rw [if_neg c1] at hr
  by_cases c2 : cls (atB s k) = 2
  · exfalso
    refine hno c2 ⟨ht, hlet, ?_⟩
    intro h39
    rw [h39] at hc
    exact absurd hc (by decide)
  rw [if_neg c2] at hr
  by_cases c3 : cls (atB s k) = 7
  · rw [if_pos c3] at hr
    unfold textAt at hr
    cases hd : quotedAt s k with
    | none => rw [hd] at hr; cases hr
    | some r =>
      rw [hd] at hr
      cases hr
      unfold quotedAt at hd
      obtain ⟨x, hx, hxr⟩ := Option.bind_eq_some_iff.1 hd
      have key : ∀ f y l xs m, qut s (atB s k) f y l = some (xs, m) → atB s m = atB s k := by
        intro f
        induction f with
        | zero => intro y l xs m h; cases h
        | succ f ih =>
          intro y l xs m h
          rw [qut_succ] at h
          by_cases a : s.size ≤ y
          · rw [if_pos a] at h; cases h
          rw [if_neg a] at h
          by_cases b : atB s y = atB s k
          · rw [if_pos b] at h; have := congrArg Prod.snd (Option.some.inj h); simp only at this; rw [← this]; exact b
          rw [if_neg b] at h
          cases hu : un s y with
          | none => rw [hu] at h; cases h
          | some p =>
            rw [hu] at h
            simp only [Option.bind_some] at h
            by_cases d : 256 ≤ l
            · rw [if_pos d] at h; cases h
            rw [if_neg d] at h
            obtain ⟨r', hr', hre⟩ := Option.map_eq_some_iff.1 h
            have := congrArg Prod.snd hre
            simp only at this
            rw [← this]
            exact ih _ _ r'.1 r'.2 hr'
      have hq := key _ _ _ x.1 x.2 hx
      by_cases c : atB s k = 39 ∧ x.1.length ≠ 1
      · rw [if_pos c] at hxr; cases hxr
      rw [if_neg c] at hxr
      have := congrArg Prod.snd (Option.some.inj hxr)
      simp only at this
      show cls (atB s (r.2 - 1)) ≠ 2
      rw [← this, show x.2 + 1 - 1 = x.2 from rfl, hq, c3]
      decide
  rw [if_neg c3] at hr
  by_cases c5 : cls (atB s k) = 5
  · rw [if_pos c5] at hr
    unfold opAt at hr
    by_cases d : k + 2 ≤ s.size ∧ inL opsL (s.extract k (k + 2)) = true
    · rw [if_pos d] at hr
      cases hr
      show cls (atB s (k + 2 - 1)) ≠ 2
      intro h
      have := op_digit d.1 h
      rw [d.2] at this
      cases this
    rw [if_neg d] at hr
    by_cases e : inL opsL (s.extract k (k + 1)) = true
    · rw [if_pos e] at hr
      cases hr
      show cls (atB s (k + 1 - 1)) ≠ 2
      rw [show k + 1 - 1 = k from rfl, c5]
      decide
    · rw [if_neg e] at hr; cases hr
  rw [if_neg c5] at hr
  by_cases c6 : cls (atB s k) = 6
  · rw [if_pos c6] at hr
    cases hr
    show cls (atB s (k + 1 - 1)) ≠ 2
    rw [show k + 1 - 1 = k from rfl, c6]
    decide
  · rw [if_neg c6] at hr; cases hr

/-- **both tell the same** -/
theorem rsc_scan (s : ByteArray) : ∀ (f i j : Nat), i ≤ s.size → s.size - i < f → j + (s.size - i) < 16384 →
    (i < s.size → (cls (atB s i) = 3 ∨ cls (atB s i) = 4) → i = 0 ∨ cls (atB s (i - 1)) ≠ 2) → rsc s f j i = scanAt s i := by
  intro f
  induction f with
  | zero => intro i j _ h; omega
  | succ f ih =>
    intro i j hi hf hj hp
    rw [rsc_succ, scanAt_step hi]
    cases hs : skip s i with
    | inr m => rfl
    | inl k =>
      have hk := skip_le hs hi
      simp only [Sum.elim_inl]
      by_cases hke : s.size ≤ k
      · rw [if_pos hke, readAt_end s k hke]
        simp only [Sum.elim_inl]
        rw [if_pos (show (endT s).kind = 9 from rfl)]
      rw [if_neg hke]
      have hpk : (cls (atB s k) = 3 ∨ cls (atB s k) = 4) → k = 0 ∨ cls (atB s (k - 1)) ≠ 2 := fun hc => by
        rcases skp_prev s _ i k hs (Nat.le_refl _) (by omega) with h | h
        · subst h; exact hp (by omega) hc
        · exact .inr h.2
      rcases oneAt_cases (by omega) hpk with ⟨he, hno⟩ | ⟨m, t, hr, hm, ho, hms, hmc, hmp, hm0⟩
      · rw [he]
        cases hr : readAt s k with
        | inr p => rfl
        | inl t =>
          obtain ⟨r1, r2, r3, r4⟩ := readAt_lt (by omega) hr
          simp only [Sum.elim_inl]
          rw [if_neg (by omega), if_neg r4]
          rw [ih t.fin (j + 1) r3 (by omega) (by omega) (fun ht hc => .inr (tok_prev (by omega) hr (hno t hr) ht hc))]
      · rw [ho, hr]
        simp only [Sum.elim_inl, Sum.elim_inr]
        obtain ⟨r1, r2, r3, r4⟩ := readAt_lt (by omega) hr
        rw [if_neg r4, hm, scanAt_step (by omega : m ≤ s.size)]
        have hst : Stops s m := by
          refine ⟨by rcases hmc with q | q <;> rw [q] <;> decide, ?_, ?_⟩
          · unfold twoAt; rw [decide_eq_false_iff_not]; rintro ⟨_, q, _⟩; rw [q] at hmc; exact absurd hmc (by decide)
          · unfold twoAt; rw [decide_eq_false_iff_not]; rintro ⟨_, q, _⟩; rw [q] at hmc; exact absurd hmc (by decide)
        rw [skip_here hst hms]
        simp only [Sum.elim_inl]
        have hrm : readAt s m = .inr (m, 20) := by
          unfold readAt
          rw [if_neg (by omega), if_pos hmc]
          unfold nameP
          rw [if_pos ⟨hm0, hmp⟩]
        rw [hrm]
        rfl
end Go.Proofs.YtifmbhcajlnhbaaDoor
