/- Texts of this proof, joined: Agree, Builder. No condition. -/
import Derived.Test.YtkdhoelabomgkaaGreatDoorMa07
import Derived.Test.YtkdhoelabomgkaaGreatDoorMa05
import Derived.Test.YtkdhoelabomgkaaGreatDoorMa04
import Derived.Lib.Builder
import Derived.Lib.AppendStr
import Derived.Shelf.Strings.Builder1
/-
  Layer 2 in plain words: what is read hangs on the bytes that it takes in, and on the one behind them. No walk.
-/
namespace Go.Proofs.YtkdhoelabomgkaaGreatDoor
set_option linter.unusedVariables false
open Go.RowKit

/-- n bytes of s, from i on, are n bytes of u, from i' on -/
structure Agr (s u : ByteArray) (i i' n : Nat) : Prop where
  hs : i + n ≤ s.size
  hu : i' + n ≤ u.size
  same : ∀ k, k < n → atB u (i' + k) = atB s (i + k)
theorem Agr.sub {s u : ByteArray} {i i' n : Nat} (h : Agr s u i i' n) (k m : Nat) (hk : k + m ≤ n) : Agr s u (i + k) (i' + k) m :=
  ⟨by have := h.hs; omega, by have := h.hu; omega, fun j hj => by rw [Nat.add_assoc, Nat.add_assoc]; exact h.same (k + j) (by omega)⟩
theorem Agr.two {s u : ByteArray} {i i' n : Nat} (h : Agr s u i i' n) (k : Nat) (hk : k + 2 ≤ n) (a b : Int) : twoAt u (i' + k) a b = twoAt s (i + k) a b := by
  have h1 := h.same k (by omega)
  have h2 := h.same (k + 1) (by omega)
  have := h.hs
  have := h.hu
  unfold twoAt
  rw [show i' + k + 1 = i' + (k + 1) from by omega, show i + k + 1 = i + (k + 1) from by omega, h1, h2]
  rw [decide_eq_decide]
  constructor
  · rintro ⟨_, h3, h4⟩; exact ⟨by omega, h3, h4⟩
  · rintro ⟨_, h3, h4⟩; exact ⟨by omega, h3, h4⟩

theorem note_agr {s u : ByteArray} {i i' n : Nat} (h : Agr s u i i' n) : ∀ f d k m, note s f d (i + k) = some m → m ≤ i + n → ∀ g, u.size - (i' + k) ≤ g → note u g d (i' + k) = some (i' + (m - i)) := by
  intro f
  have hs := h.hs
  have hu := h.hu
  induction f with
  | zero => intro d k m e; cases e
  | succ f ih =>
    intro d k m e hm g hg
    have hb := note_bound _ _ _ _ _ e
    rw [note_succ] at e
    by_cases a : s.size ≤ i + k
    · rw [if_pos a] at e; cases e
    rw [if_neg a] at e
    have hk2 : k + 2 ≤ n := by
      by_cases b : twoAt s (i + k) 123 45 = true
      · rw [if_pos b] at e
        by_cases c : 100 ≤ d
        · rw [if_pos c] at e; cases e
        · rw [if_neg c] at e; have := note_bound _ _ _ _ _ e; omega
      rw [if_neg b] at e
      by_cases c : twoAt s (i + k) 45 125 = true
      · rw [if_pos c] at e
        by_cases d1 : d ≤ 1
        · rw [if_pos d1] at e; have := Option.some.inj e; omega
        · rw [if_neg d1] at e; have := note_bound _ _ _ _ _ e; omega
      · rw [if_neg c] at e; have := note_bound _ _ _ _ _ e; omega
    obtain ⟨g, rfl⟩ : ∃ g', g = g' + 1 := ⟨g - 1, by omega⟩
    rw [note_succ, if_neg (by omega), h.two k hk2, h.two k hk2]
    by_cases b : twoAt s (i + k) 123 45 = true
    · rw [if_pos b] at e ⊢
      by_cases c : 100 ≤ d
      · rw [if_pos c] at e; cases e
      · rw [if_neg c] at e ⊢
        exact ih (d + 1) (k + 2) m e hm g (by omega)
    rw [if_neg b] at e ⊢
    by_cases c : twoAt s (i + k) 45 125 = true
    · rw [if_pos c] at e ⊢
      by_cases d1 : d ≤ 1
      · rw [if_pos d1] at e ⊢
        have := Option.some.inj e
        exact congrArg some (by omega)
      · rw [if_neg d1] at e ⊢
        exact ih (d - 1) (k + 2) m e hm g (by omega)
    · rw [if_neg c] at e ⊢
      exact ih d (k + 1) m e hm g (by omega)

theorem skp_agr {s u : ByteArray} {i i' n : Nat} (h : Agr s u i i' n) : ∀ f k j, skp s f (i + k) = .inl j → i + k ≤ s.size → j ≤ i + n → (j < i + n ∨ u.size = i' + n) → skip u (i' + k) = skip u (i' + (j - i)) := by
  intro f
  have hs := h.hs
  have hu := h.hu
  induction f with
  | zero => intro k j e hk hj hend; cases e; rw [show i' + (i + k - i) = i' + k from by omega]
  | succ f ih =>
    intro k j e hk hj hend
    have hle := skp_le s _ _ _ e hk
    rw [skp_succ] at e
    by_cases a : s.size ≤ i + k
    · rw [if_pos a] at e; cases e; rw [show i' + (i + k - i) = i' + k from by omega]
    rw [if_neg a] at e
    by_cases b : cls (atB s (i + k)) = 1
    · rw [if_pos b] at e
      have := skp_le s f (i + k + 1) j e (by omega)
      rw [skip_step u (i' + k) (by omega), h.same k (by omega), if_pos b]
      exact ih (k + 1) j e (by omega) hj hend
    rw [if_neg b] at e
    by_cases c : twoAt s (i + k) 45 45 = true
    · rw [if_pos c] at e
      have hl := line_more c
      obtain ⟨l1, l2, l3, l4⟩ := lineTo_ok s (s.size - (i + k)) (i + k) (by omega) (Nat.le_refl _)
      generalize lineTo s (s.size - (i + k)) (i + k) = m at e hl l1 l2 l3 l4
      have hmj := skp_le s f m j e hl.2
      have hu2 : lineTo u (u.size - (i' + k)) (i' + k) = i' + (m - i) := by
        refine (lineTo_ok u (u.size - (i' + k)) (i' + k) (by omega) (Nat.le_refl _)).unique ⟨by omega, by omega, fun x hx hx2 => ?_, ?_⟩
        · have := l3 (i + (x - i')) (by omega) (by omega)
          rw [show x = i' + (x - i') from by omega, h.same (x - i') (by omega)]
          exact this
        · rcases Nat.lt_or_ge m (i + n) with hlt | hge
          · refine .inr ?_
            rw [h.same (m - i) (by omega), show i + (m - i) = m from by omega]
            rcases l4 with q | q
            · omega
            · exact q
          · rcases hend with q | q
            · omega
            · exact .inl (by omega)
      rw [skip_step u (i' + k) (by omega), h.same k (by omega), if_neg b, h.two k (by omega), if_pos c, hu2]
      have e2 : skp s f (i + (m - i)) = .inl j := by rw [show i + (m - i) = m from by omega]; exact e
      exact ih (m - i) j e2 (by omega) hj hend
    rw [if_neg c] at e
    by_cases d : twoAt s (i + k) 123 45 = true
    · rw [if_pos d] at e
      cases hn : noteAt s (i + k) with
      | none => rw [hn] at e; cases e
      | some m =>
        rw [hn] at e
        have hm := note_bound _ _ _ _ _ hn
        have e : skp s f m = .inl j := e
        have hmj := skp_le s f m j e hm.2
        have hfit := (two_fits d).1
        have hk2 : k + 2 ≤ n := by
          have hn' := hn
          unfold noteAt at hn'
          obtain ⟨f', hf'⟩ : ∃ f', s.size - (i + k) = f' + 1 := ⟨s.size - (i + k) - 1, by omega⟩
          rw [hf', note_succ, if_neg a, if_pos d, if_neg (by omega)] at hn'
          have := note_bound _ _ _ _ _ hn'
          omega
        have hnu : noteAt u (i' + k) = some (i' + (m - i)) := note_agr h _ 0 k m hn (by omega) _ (Nat.le_refl _)
        rw [skip_step u (i' + k) (by omega), h.same k (by omega), if_neg b, h.two k hk2, if_neg c, h.two k hk2, if_pos d, hnu]
        have e2 : skp s f (i + (m - i)) = .inl j := by rw [show i + (m - i) = m from by omega]; exact e
        exact ih (m - i) j e2 (by omega) hj hend
    · rw [if_neg d] at e; cases e; rw [show i' + (i + k - i) = i' + k from by omega]
theorem skip_agr {s u : ByteArray} {i i' n : Nat} (h : Agr s u i i' n) {j : Nat} (e : skip s i = .inl j) (hj : j ≤ i + n) (hend : j < i + n ∨ u.size = i' + n) : skip u i' = skip u (i' + (j - i)) :=
  skp_agr h _ 0 j e (by have := h.hs; omega) hj hend

/-- where a gap ends, none begins -/
def Stops (s : ByteArray) (j : Nat) : Prop := cls (atB s j) ≠ 1 ∧ twoAt s j 45 45 = false ∧ twoAt s j 123 45 = false
theorem skp_stop (s : ByteArray) : ∀ f i j, skp s f i = .inl j → s.size - i ≤ f → j < s.size → Stops s j := by
  intro f
  induction f with
  | zero => intro i j e hf hj; cases e; omega
  | succ f ih =>
    intro i j e hf hj
    rw [skp_succ] at e
    by_cases a : s.size ≤ i
    · rw [if_pos a] at e; cases e; omega
    rw [if_neg a] at e
    by_cases b : cls (atB s i) = 1
    · rw [if_pos b] at e; exact ih _ _ e (by omega) hj
    rw [if_neg b] at e
    by_cases c : twoAt s i 45 45 = true
    · rw [if_pos c] at e
      have := line_more c
      exact ih _ _ e (by omega) hj
    rw [if_neg c] at e
    by_cases d : twoAt s i 123 45 = true
    · rw [if_pos d] at e
      cases hn : noteAt s i with
      | none => rw [hn] at e; cases e
      | some m =>
        rw [hn] at e
        have hm := note_bound _ _ _ _ _ hn
        exact ih m j e (by omega) hj
    · rw [if_neg d] at e; cases e
      exact ⟨b, by simpa using c, by simpa using d⟩
theorem skip_stop {s : ByteArray} {i j : Nat} (e : skip s i = .inl j) (hj : j < s.size) : Stops s j := skp_stop s _ i j e (Nat.le_refl _) hj
theorem skip_here {s : ByteArray} {j : Nat} (h : Stops s j) (hj : j < s.size) : skip s j = .inl j := by
  obtain ⟨h1, h2, h3⟩ := h
  rw [skip_step s j hj, if_neg h1, if_neg (by rw [h2]; decide), if_neg (by rw [h3]; decide)]

theorem ext_toList (s : ByteArray) (i n : Nat) (h : i + n ≤ s.size) : (s.extract i (i + n)).data.toList.map (fun b => (b.toNat : Int)) = (List.range n).map fun k => atB s (i + k) := by
  have hl : s.data.toList.length = s.size := Array.length_toList
  rw [Lib.extract_data, show i + n - i = n from by omega]
  refine List.ext_getElem (by simp; have : s.data.size = s.size := rfl; omega) (fun k h1 h2 => ?_)
  have hk : k < n := by simpa using h2
  rw [List.getElem_map, List.getElem_map, List.getElem_range, List.getElem_take, List.getElem_drop]
  unfold atB
  rw [List.getD_eq_getElem?_getD, List.getElem?_eq_getElem (by omega)]
  rfl
theorem bytes_inj {a b : List UInt8} (h : a.map (fun b => (b.toNat : Int)) = b.map fun b => (b.toNat : Int)) : a = b := by
  induction a generalizing b with
  | nil => cases b with
    | nil => rfl
    | cons y b => cases h
  | cons x a ih => cases b with
    | nil => cases h
    | cons y b =>
      simp only [List.map_cons, List.cons.injEq] at h
      rw [ih h.2, UInt8.toNat_inj.1 (by omega : x.toNat = y.toNat)]
theorem Agr.ext {s u : ByteArray} {i i' n : Nat} (h : Agr s u i i' n) : u.extract i' (i' + n) = s.extract i (i + n) := by
  apply ByteArray.ext
  apply Array.toList_inj.1
  apply bytes_inj
  rw [ext_toList u i' n h.hu, ext_toList s i n h.hs]
  refine List.map_congr_left fun k hk => ?_
  exact h.same k (List.mem_range.1 hk)

/-- what stands behind a token's bytes: nothing; a Space; the byte that stood there -/
def Next (s u : ByteArray) (e e' : Nat) : Prop := u.size = e' ∨ (e' < u.size ∧ cls (atB u e') = 1) ∨ (e' < u.size ∧ e < s.size ∧ atB u e' = atB s e)
theorem space_let {c : Int} (h : cls c = 1) : letB c = false := by
  have h39 : c ≠ 39 := by
    rintro rfl
    exact absurd h (by decide)
  unfold letB
  rw [h]
  simp [h39]
theorem Next.letter {s u : ByteArray} {e e' : Nat} (h : Next s u e e') (hs : e = s.size ∨ letB (atB s e) = false) : e' = u.size ∨ letB (atB u e') = false := by
  rcases h with h | ⟨_, h⟩ | ⟨_, h1, h2⟩
  · exact .inl h.symm
  · exact .inr (space_let h)
  · rcases hs with q | q
    · omega
    · exact .inr (by rw [h2]; exact q)

theorem dgs_agr {s u : ByteArray} {i i' n : Nat} (h : Agr s u i i' n) (hn : Next s u (i + n) (i' + n)) : ∀ f k acc v, s.size - (i + k) ≤ f → dgs s f (i + k) acc = some (i + n, v) → k ≤ n → ∀ g, u.size - (i' + k) ≤ g → dgs u g (i' + k) acc = some (i' + n, v) := by
  have hs := h.hs
  have hu := h.hu
  intro f
  have fin : ∀ k acc v f, s.size - (i + k) ≤ f → dgs s f (i + k) acc = some (i + n, v) → k = n → ∀ g, u.size - (i' + k) ≤ g → dgs u g (i' + k) acc = some (i' + n, v) := by
    rintro k acc v f hf e rfl g hg
    have hv : acc = v ∧ (i + k = s.size ∨ cls (atB s (i + k)) ≠ 2) := by
      cases f with
      | zero =>
        have := Option.some.inj e
        exact ⟨by simpa using congrArg Prod.snd this, .inl (by omega)⟩
      | succ f =>
        rw [dgs_succ] at e
        by_cases a : s.size ≤ i + k
        · rw [if_pos a] at e; have := Option.some.inj e; exact ⟨by simpa using congrArg Prod.snd this, .inl (by omega)⟩
        rw [if_neg a] at e
        by_cases b : cls (atB s (i + k)) = 2
        · rw [if_pos b] at e
          by_cases c : tooGreat acc (atB s (i + k) - 48) = true
          · rw [if_pos c] at e; cases e
          · rw [if_neg c] at e
            have := dgs_le s _ _ _ _ e (by omega)
            simp only at this
            omega
        · rw [if_neg b] at e; have := Option.some.inj e; exact ⟨by simpa using congrArg Prod.snd this, .inr b⟩
    obtain ⟨rfl, hst⟩ := hv
    cases g with
    | zero => rfl
    | succ g =>
      rw [dgs_succ]
      rcases hn with q | ⟨q1, q2⟩ | ⟨q1, q2, q3⟩
      · rw [if_pos (by omega)]
      · rw [if_neg (by omega), if_neg (by rw [q2]; decide)]
      · have hst2 : cls (atB s (i + k)) ≠ 2 := by
          rcases hst with r | r
          · omega
          · exact r
        rw [if_neg (by omega), if_neg (by rw [q3]; exact hst2)]
  induction f with
  | zero =>
    intro k acc v hf e hk g hg
    have h2 := Option.some.inj e
    have h3 : i + k = i + n := congrArg Prod.fst h2
    exact fin k acc v 0 hf e (by omega) g hg
  | succ f ih =>
    intro k acc v hf e hk g hg
    by_cases hkn : k = n
    · exact fin k acc v (f + 1) hf e hkn g hg
    · rw [dgs_succ] at e
      by_cases a : s.size ≤ i + k
      · rw [if_pos a] at e; have := congrArg Prod.fst (Option.some.inj e); simp only at this; omega
      rw [if_neg a] at e
      by_cases b : cls (atB s (i + k)) = 2
      · rw [if_pos b] at e
        by_cases c : tooGreat acc (atB s (i + k) - 48) = true
        · rw [if_pos c] at e; cases e
        rw [if_neg c] at e
        obtain ⟨g, rfl⟩ : ∃ g', g = g' + 1 := ⟨g - 1, by omega⟩
        rw [dgs_succ, if_neg (by omega), h.same k (by omega), if_pos b, if_neg c]
        exact ih (k + 1) _ v (by omega) e (by omega) g (by omega)
      · rw [if_neg b] at e; have := congrArg Prod.fst (Option.some.inj e); simp only at this; omega

theorem un_agr {s u : ByteArray} {i i' n : Nat} (h : Agr s u i i' n) {k m : Nat} {c : Int} (e : un s (i + k) = some (c, (m : Int))) (hk : i + k < s.size) (hm : m ≤ i + n) : un u (i' + k) = some (c, ((i' + (m - i) : Nat) : Int)) := by
  have hs := h.hs
  have hu := h.hu
  obtain ⟨m', hm', hlt, _⟩ := un_next2 e hk
  have hmm : m = m' := by omega
  subst hmm
  unfold un at e ⊢
  have s0 := h.same k (by omega)
  rw [s0]
  by_cases a : atB s (i + k) < 32 ∨ 126 < atB s (i + k)
  · rw [if_pos a] at e; cases e
  rw [if_neg a] at e ⊢
  by_cases b : atB s (i + k) ≠ 92
  · rw [if_pos b] at e ⊢
    have h1 := congrArg Prod.fst (Option.some.inj e)
    have h2 := congrArg Prod.snd (Option.some.inj e)
    simp only at h1 h2
    rw [h1]
    congr 2
    omega
  rw [if_neg b] at e ⊢
  by_cases d : s.size ≤ i + k + 1
  · rw [if_pos d] at e; cases e
  rw [if_neg d] at e
  by_cases f : isByteL (atB s (i + k + 1)) = true
  · rw [if_pos f] at e
    have h1 := congrArg Prod.fst (Option.some.inj e)
    have h2 := congrArg Prod.snd (Option.some.inj e)
    simp only at h1 h2
    have s1 := h.same (k + 1) (by omega)
    rw [show i' + k + 1 = i' + (k + 1) from by omega, if_neg (by omega), s1, show i + (k + 1) = i + k + 1 from by omega, if_pos f, h1]
    congr 2
    omega
  rw [if_neg f] at e
  by_cases g : i + k + 3 < s.size ∧ atB s (i + k + 1) = 120 ∧ 0 ≤ dig (atB s (i + k + 2)) ∧ 0 ≤ dig (atB s (i + k + 3))
  · rw [if_pos g] at e
    have h1 := congrArg Prod.fst (Option.some.inj e)
    have h2 := congrArg Prod.snd (Option.some.inj e)
    simp only at h1 h2
    have s1 := h.same (k + 1) (by omega)
    have s2 := h.same (k + 2) (by omega)
    have s3 := h.same (k + 3) (by omega)
    rw [show i + (k + 1) = i + k + 1 from by omega, show i' + (k + 1) = i' + k + 1 from by omega] at s1
    rw [show i + (k + 2) = i + k + 2 from by omega, show i' + (k + 2) = i' + k + 2 from by omega] at s2
    rw [show i + (k + 3) = i + k + 3 from by omega, show i' + (k + 3) = i' + k + 3 from by omega] at s3
    rw [if_neg (by omega), s1, if_neg f, s2, s3, if_pos ⟨by omega, g.2⟩, h1]
    congr 2
    omega
  · rw [if_neg g] at e; cases e

theorem qut_agr {s u : ByteArray} {i i' n : Nat} (h : Agr s u i i' n) (q : Int) : ∀ f k l xs m, qut s q f (i + k) l = some (xs, m) → m < i + n → ∀ g, u.size - (i' + k) ≤ g → qut u q g (i' + k) l = some (xs, i' + (m - i)) := by
  have hs := h.hs
  have hu := h.hu
  intro f
  induction f with
  | zero => intro k l xs m e; cases e
  | succ f ih =>
    intro k l xs m e hm g hg
    have hb := qut_le s q _ _ _ _ e
    rw [qut_succ] at e
    by_cases a : s.size ≤ i + k
    · rw [if_pos a] at e; cases e
    rw [if_neg a] at e
    simp only at hb
    obtain ⟨g, rfl⟩ : ∃ g', g = g' + 1 := ⟨g - 1, by omega⟩
    rw [qut_succ, if_neg (by omega), h.same k (by omega)]
    by_cases b : atB s (i + k) = q
    · rw [if_pos b] at e ⊢
      have h1 := congrArg Prod.fst (Option.some.inj e)
      have h2 := congrArg Prod.snd (Option.some.inj e)
      simp only at h1 h2
      rw [h1]
      congr 2
      omega
    rw [if_neg b] at e ⊢
    cases hun : un s (i + k) with
    | none => rw [hun] at e; cases e
    | some p =>
      obtain ⟨c, nn⟩ := p
      obtain ⟨m1, rfl, hm1, hm1s, _⟩ := un_next2 hun (by omega)
      rw [hun] at e
      simp only [Option.bind_some, Int.toNat_natCast] at e
      by_cases d : 256 ≤ l
      · rw [if_pos d] at e; cases e
      rw [if_neg d] at e
      obtain ⟨r, hr, hre⟩ := Option.map_eq_some_iff.1 e
      obtain ⟨ys, m'⟩ := r
      have h1 := congrArg Prod.fst hre
      have h2 := congrArg Prod.snd hre
      simp only at h1 h2
      subst h2
      have hb2 := qut_le s q _ _ _ _ hr
      simp only at hb2
      rw [un_agr h hun (by omega) (by omega)]
      simp only [Option.bind_some, Int.toNat_natCast]
      rw [if_neg d]
      have hr2 : qut s q f (i + (m1 - i)) (l + 1) = some (ys, m') := by rw [show i + (m1 - i) = m1 from by omega]; exact hr
      rw [ih (m1 - i) (l + 1) ys m' hr2 hm g (by omega)]
      simp [← h1]

theorem op_space {u : ByteArray} {j : Nat} (hj : j + 2 ≤ u.size) (h : cls (atB u (j + 1)) = 1) : inL opsL (u.extract j (j + 2)) = false := by
  have hl : u.data.toList.length = u.size := Array.length_toList
  have e : (u.extract j (j + 2)).toList = [u.data.toList.getD j 0, u.data.toList.getD (j + 1) 0] := by
    rw [ByteArray.toList_eq, Lib.extract_data, show j + 2 - j = 1 + 1 from by omega]
    rw [List.drop_eq_getElem_cons (by omega), List.drop_eq_getElem_cons (by omega)]
    simp [List.getD, hl, show j < u.size from by omega, show j + 1 < u.size from by omega]
  have hy : ∀ y : UInt8, cls (y.toNat : Int) = 1 → y = 32 ∨ y = 9 ∨ y = 10 ∨ y = 13 := by
    intro y hy
    unfold cls at hy
    by_cases a : (y.toNat : Int) = 32 ∨ (y.toNat : Int) = 9 ∨ (y.toNat : Int) = 10 ∨ (y.toNat : Int) = 13
    · rcases a with a | a | a | a
      · exact .inl (UInt8.toNat_inj.1 (by show _ = 32; omega))
      · exact .inr (.inl (UInt8.toNat_inj.1 (by show _ = 9; omega)))
      · exact .inr (.inr (.inl (UInt8.toNat_inj.1 (by show _ = 10; omega))))
      · exact .inr (.inr (.inr (UInt8.toNat_inj.1 (by show _ = 13; omega))))
    · rw [if_neg a] at hy
      repeat' (split at hy)
      all_goals omega
  have hb := hy (u.data.toList.getD (j + 1) 0) h
  unfold inL
  rw [e]
  generalize u.data.toList.getD j 0 = x
  generalize u.data.toList.getD (j + 1) 0 = y at hb
  rcases hb with rfl | rfl | rfl | rfl <;> simp [opsL, ByteArray.toList_eq]

/-- **a token's bytes, elsewhere, are that token** -/
theorem readAt_agr {s u : ByteArray} {j j' n : Nat} {t : Tk} (hr : readAt s j = .inl t) (hj : j < s.size) (hf : t.fin = j + n) (h : Agr s u j j' n) (hn : Next s u (j + n) (j' + n))
    (hp : (cls (atB s j) = 3 ∨ cls (atB s j) = 4) → j' = 0 ∨ cls (atB u (j' - 1)) ≠ 2) : readAt u j' = .inl ⟨t.kind, j', j' + n, t.text, t.n⟩ := by
  obtain ⟨r1, r2, r3, r4⟩ := readAt_lt hj hr
  have hn1 : 0 < n := by omega
  have hs := h.hs
  have hu := h.hu
  have s0 := h.same 0 hn1
  simp only [Nat.add_zero] at s0
  unfold readAt at hr ⊢
  rw [if_neg (by omega)] at hr ⊢
  rw [s0]
  by_cases c1 : cls (atB s j) = 3 ∨ cls (atB s j) = 4
  · rw [if_pos c1] at hr ⊢
    unfold nameP at hr ⊢
    have hp2 : ¬ (0 < j' ∧ cls (atB u (j' - 1)) = 2) := by
      rcases hp c1 with q | q
      · omega
      · exact fun q' => q q'.2
    rw [if_neg hp2]
    by_cases d : 0 < j ∧ cls (atB s (j - 1)) = 2
    · rw [if_pos d] at hr; cases hr
    rw [if_neg d] at hr
    unfold nameAt at hr ⊢
    by_cases e : 32 < wordEnd s j - j
    · rw [if_pos e] at hr; cases hr
    rw [if_neg e] at hr
    cases hr
    have hw : wordEnd s j = j + n := hf
    obtain ⟨w1, w2, w3, w4⟩ := wordEnd_ok s j (by omega)
    rw [hw] at w1 w2 w3 w4
    have hwu : wordEnd u j' = j' + n := by
      refine (wordEnd_ok u j' (by omega)).unique ⟨by omega, hu, fun x hx hx2 => ?_, hn.letter w4⟩
      rw [show x = j' + (x - j') from by omega, h.same (x - j') (by omega)]
      exact w3 _ (by omega) (by omega)
    rw [hwu, if_neg (by omega), h.ext, hw, s0]
  rw [if_neg c1] at hr ⊢
  by_cases c2 : cls (atB s j) = 2
  · rw [if_pos c2] at hr ⊢
    unfold numP at hr ⊢
    cases hd : dgsAt s j 0 with
    | none => rw [hd] at hr; cases hr
    | some r =>
      rw [hd] at hr
      obtain ⟨m, v⟩ := r
      cases hr
      have hm : m = j + n := hf
      subst hm
      have := dgs_agr h hn _ 0 0 v (Nat.le_refl _) hd (by omega) _ (Nat.le_refl _)
      rw [show dgsAt u j' 0 = some (j' + n, v) from this]
      simp only [Option.elim_some]
      rw [h.ext]
  rw [if_neg c2] at hr ⊢
  by_cases c3 : cls (atB s j) = 7
  · rw [if_pos c3] at hr ⊢
    unfold textAt at hr ⊢
    cases hd : quotedAt s j with
    | none => rw [hd] at hr; cases hr
    | some r =>
      rw [hd] at hr
      obtain ⟨xs, m⟩ := r
      cases hr
      have hm : m = j + n := hf
      subst hm
      have hdu : quotedAt u j' = some (xs, j' + n) := by
        unfold quotedAt at hd ⊢
        obtain ⟨x, hx, hxr⟩ := Option.bind_eq_some_iff.1 hd
        obtain ⟨ys, mm⟩ := x
        by_cases c : atB s j = 39 ∧ ys.length ≠ 1
        · rw [if_pos c] at hxr; cases hxr
        rw [if_neg c] at hxr
        have e1 := congrArg Prod.fst (Option.some.inj hxr)
        have e2 := congrArg Prod.snd (Option.some.inj hxr)
        simp only at e1 e2
        have := qut_agr h (atB s j) _ 1 0 ys mm hx (by omega) _ (Nat.le_refl _)
        rw [s0, show qutAt u (atB s j) (j' + 1) 0 = some (ys, j' + (mm - j)) from this]
        simp only [Option.bind_some]
        rw [if_neg c, e1]
        congr 2
        omega
      rw [hdu]
      simp only [Option.elim_some]
      rw [s0]
  rw [if_neg c3] at hr ⊢
  by_cases c5 : cls (atB s j) = 5
  · rw [if_pos c5] at hr ⊢
    unfold opAt at hr ⊢
    by_cases d : j + 2 ≤ s.size ∧ inL opsL (s.extract j (j + 2)) = true
    · rw [if_pos d] at hr
      cases hr
      have hm : j + 2 = j + n := hf
      obtain rfl : n = 2 := by omega
      rw [h.ext, if_pos ⟨hu, d.2⟩]
    rw [if_neg d] at hr
    by_cases e : inL opsL (s.extract j (j + 1)) = true
    · rw [if_pos e] at hr
      cases hr
      have hm : j + 1 = j + n := hf
      obtain rfl : n = 1 := by omega
      have hno : ¬ (j' + 2 ≤ u.size ∧ inL opsL (u.extract j' (j' + 2)) = true) := by
        rintro ⟨q1, q2⟩
        rcases hn with q | ⟨q3, q4⟩ | ⟨q3, q4, q5⟩
        · omega
        · rw [op_space q1 q4] at q2; cases q2
        · have h2 : Agr s u j j' 2 := ⟨by omega, q1, fun k hk => by
            match k, hk with
            | 0, _ => exact s0
            | 1, _ => exact q5⟩
          rw [h2.ext] at q2
          exact d ⟨by omega, q2⟩
      rw [if_neg hno, h.ext, if_pos e]
    · rw [if_neg e] at hr; cases hr
  rw [if_neg c5] at hr ⊢
  by_cases c6 : cls (atB s j) = 6
  · rw [if_pos c6] at hr ⊢
    cases hr
    have hm : j + 1 = j + n := hf
    obtain rfl : n = 1 := by omega
    rw [h.ext]
  · rw [if_neg c6] at hr; cases hr
end Go.Proofs.YtkdhoelabomgkaaGreatDoor
/-
  strings.Builder at this dump: what checks a copy, what writes a byte, what writes a text.
-/
namespace Go.Proofs.YtkdhoelabomgkaaGreatDoor
set_option linter.unusedVariables false
open Go.ChangeShapes Go.WideShapes Go.ChangeAt Go.RowKit

theorem bld_size : (Tryz.prog.info? 198).map (·.size) = some 2 := by kernel_rfl
theorem bld_ptr : Tryz.prog.underlying 195 = some (.pointer 198) := by kernel_rfl
theorem bld_unsafe : Tryz.prog.underlying 226 = some .unsafePointer := by kernel_rfl
/-- a builder that holds these bytes -/
abbrev Bld (B b : Nat) (bs : List Value) (w : World) : Prop := Lib.IsBuilder 198 5 B b bs w
abbrev BldAt (B b : Nat) (bs : List Value) (w : World) : Prop := Lib.BuilderAt 198 5 B b (.pointer (some ⟨b, 0, none⟩)) bs w

set_option maxHeartbeats 2000000 in
set_option maxRecDepth 100000 in
theorem check_used (b : Nat) (w : World) (h0 : w.cell? ⟨b, 0, none⟩ = some (.pointer (some ⟨b, 0, none⟩))) :
    Calls Tryz.prog 160 #[.pointer (some ⟨b, 0, none⟩)] w fun e w' => e = .returned (.tuple #[]) ∧ w' = w := by
  obtain ⟨j, hj, _⟩ := Option.map_eq_some_iff.1 bld_size
  go_enter Tryz.func160, Tryz.ntmps160
  go_wp2
  rw [Lib.run_neq_ptr_same w _ bld_ptr hj]
  go_wp2
  go_end0
  exact ⟨rfl, rfl⟩

set_option maxHeartbeats 2000000 in
set_option maxRecDepth 100000 in
theorem check_fresh (b : Nat) (w : World) (h0 : w.cell? ⟨b, 0, none⟩ = some (.pointer none)) (hsh : w.shape? b = some (198, 2)) (hfz : w.frozen? ⟨b, 0, none⟩ = false) :
    Calls Tryz.prog 160 #[.pointer (some ⟨b, 0, none⟩)] w fun e w' => e = .returned (.tuple #[]) ∧ w' = w.setCell ⟨b, 0, none⟩ (.pointer (some ⟨b, 0, none⟩)) := by
  obtain ⟨j, hj, hjs⟩ := Option.map_eq_some_iff.1 bld_size
  go_enter Tryz.func160, Tryz.ntmps160
  go_wp2
  rw [Lib.run_to_unsafe w ⟨b, 0, none⟩ bld_ptr bld_unsafe hj (by rw [hjs]; decide) hsh (Nat.zero_lt_succ 1)]
  simp only [Result.andThen]
  rw [Oper.upon_value]
  go_wp2
  rw [run_callFunc_extern Tryz.func165 (by kernel_rfl) (by kernel_rfl) (by kernel_rfl) (e := Extern.AbiNoEscape.same) (by kernel_rfl)]
  rw [Lib.run_noEscape]
  simp only [Result.andThen]
  rw [Oper.upon_value]
  go_wp2
  rw [Lib.run_from_unsafe w ⟨b, 0, none⟩ bld_unsafe bld_ptr hj hsh (by kernel_rfl)]
  simp only [Result.andThen]
  rw [Oper.upon_value]
  go_wp2
  go_end0
  exact ⟨rfl, rfl⟩

theorem check_any (B b : Nat) (bs : List Value) (w : World) (h : Bld B b bs w) :
    Calls Tryz.prog 160 #[.pointer (some ⟨b, 0, none⟩)] w fun e w' => e = .returned (.tuple #[]) ∧ (BldAt B b bs w' ∧ Below B w w') := by
  rcases h with h | h
  · refine (check_fresh b w h.cell0 h.shape h.frozen0).mono ?_
    rintro e w' ⟨rfl, rfl⟩
    exact ⟨rfl, h.used _, (Below.refl B w).setCell (p := ⟨b, 0, none⟩) h.1 _⟩
  · refine (check_used b w h.cell0).mono ?_
    rintro e w' ⟨rfl, rfl⟩
    exact ⟨rfl, h, Below.refl B _⟩

theorem bld_ne : 198 ≠ 5 := by decide
theorem bld_lt {b : Nat} {w : World} {o : Obj} (h : w.heap[b]? = some o) : b < w.heap.size := by
  rcases Nat.lt_or_ge b w.heap.size with h' | h'
  · exact h'
  · simp [Array.getElem?_eq_none h'] at h

set_option maxHeartbeats 4000000 in
set_option maxRecDepth 100000 in
/-- a byte is written behind the others -/
theorem wbyte_any (B b : Nat) (bs : List Value) (c : Int) (w : World) (h : Bld B b bs w) (hlen : bs.length + 1 ≤ 1000000) (hBw : B ≤ w.heap.size) :
    Calls Tryz.prog 150 #[.pointer (some ⟨b, 0, none⟩), .int .u8 c] w fun e w' => e = .returned .nilIface ∧ (BldAt B b (bs ++ [.int .u8 c]) w' ∧ Below B w w') := by
  obtain ⟨i0, hi, hz0, hz1, hz2⟩ := info_parts info_u8
  go_enter Tryz.func150, Tryz.ntmps150
  go_wp2_with fail
  refine (check_any B b bs _ h).mono ?_
  rintro e w1 ⟨rfl, h1, hb1⟩
  obtain ⟨hB, v, hbk, hown, hne⟩ := h1
  have c0 : w1.cell? ⟨b, 0, none⟩ = some (.pointer (some ⟨b, 0, none⟩)) := by rw [Lib.cell_of_heap hbk]; rfl
  have c1 : w1.cell? ⟨b, 1, none⟩ = some v := by rw [Lib.cell_of_heap hbk]; rfl
  go_wp2_with (at_builtin; refine wpList_append_own _ rfl _ _ 196 rfl B 5 i0 (.int .u8 0) 1 1 Tryz.underlying196 hi hz0 hz1 hz2 rfl (by decide) _ _ _ rfl (hown.alloc _) ⟨w1.heap.size, 0, none⟩ 1 1 [.int .u8 c] rfl rfl ?c1 ?c2 ?c3 ?c4 ?c5 ?_)
  case c1 =>
    intro j u hj
    match j, hj with
    | 0, hj => simp at hj; subst hj; simp [Addr.add]
  case c2 => intro u hu; simp at hu; subst hu; rfl
  case c3 => unfold maxLen; omega
  case c4 => omega
  case c5 => have := hb1.size; simp; omega
  intro v' w2 hown' hgrow _
  have hlt : b < w1.heap.size := bld_lt hbk
  have hb2 : w2.heap[b]? = some (.cells #[.pointer (some ⟨b, 0, none⟩), v] 198 (0, 0)) := by
    rw [hgrow.block b (by simp; omega) (fun e => hne e.symm), Lib.alloc_old w1 _ b hlt]
    exact hbk
  have d0 : w2.cell? ⟨b, 0, none⟩ = some (.pointer (some ⟨b, 0, none⟩)) := by rw [Lib.cell_of_heap hb2]; rfl
  have d1 : w2.cell? ⟨b, 1, none⟩ = some v := by rw [Lib.cell_of_heap hb2]; rfl
  have f1 : w2.frozen? ⟨b, 1, none⟩ = false := Lib.frozen_of_heap hb2 1
  obtain ⟨g, cap, rfl⟩ : ∃ g cap, v' = .slice (some ⟨g, 0, none⟩) (bs.length + 1) cap := by
    rcases hown'.2 with ⟨_, h0⟩ | ⟨g, cap, cur, hv, _⟩
    · omega
    · exact ⟨g, cap, hv⟩
  go_wp2
  go_ret
  refine ⟨rfl, ?_, ?_⟩
  · exact Lib.BuilderAt.put (T := 198) (e := 5) hB hb2 (bs' := bs ++ [.int .u8 c]) (by simpa using hown') bld_ne
  · exact ((hb1.alloc (by have := hb1.size; omega) _).grown hgrow (by have := hb1.size; simp; omega) (fun k hk => (hown.lt k hk).1)).setCell (p := ⟨b, 1, none⟩) hB _
end Go.Proofs.YtkdhoelabomgkaaGreatDoor
