/-
  Layer 2 in plain words: Scan's answer; a token's bytes alone; what lies between tokens; what is scanned up to a token's end. No walk.
-/
import Derived.Test.YtifmbhcajlnhbaaDoorAgree
import Derived.Test.YtifmbhcajlnhbaaDoorPScan0
namespace Go.Proofs.YtifmbhcajlnhbaaDoor
set_option linter.unusedVariables false
open Go.RowKit

theorem coll_items (s : ByteArray) : ∀ (n i j : Nat), s.size - i ≤ n → i ≤ s.size → j + (s.size - i) < 16384 → coll j (items s i) = scanAt s i := by
  intro n
  induction n with
  | zero =>
    intro i j hn hi hj
    obtain rfl : i = s.size := by omega
    rw [items_step (Nat.le_refl _), scanAt_step (Nat.le_refl _), skip_end s _ (Nat.le_refl _)]
    simp only [Sum.elim_inl]
    rw [readAt_end s _ (Nat.le_refl _)]
    simp only [Sum.elim_inl]
    rw [if_pos (show (endT s).kind = 9 from rfl), if_pos (show (endT s).kind = 9 from rfl)]
    unfold coll
    rw [if_neg (by unfold verd; rw [if_neg (by omega)]; simp)]
    rfl
  | succ n ih =>
    intro i j hn hi hj
    rw [items_step hi, scanAt_step hi]
    cases hs : skip s i with
    | inr m =>
      simp only [Sum.elim_inr]
      unfold coll
      rw [if_pos (by unfold verd; rw [if_neg (by simp)]; simp)]
      unfold verd
      rw [if_neg (by simp)]
    | inl k =>
      have hk := skip_le hs hi
      simp only [Sum.elim_inl]
      cases hr : readAt s k with
      | inr p =>
        have hp := readAt_err hr
        simp only [Sum.elim_inr]
        unfold coll
        rw [if_pos (by unfold verd; rw [if_neg (fun h => hp h.1)]; exact hp)]
        unfold verd
        rw [if_neg (fun h => hp h.1)]
      | inl t =>
        simp only [Sum.elim_inl]
        have hv : verd j (t, 0) = 0 := by
          unfold verd
          split
          · next h => omega
          · rfl
        unfold coll
        rw [if_neg (by rw [hv]; simp)]
        by_cases h9 : t.kind = 9
        · rw [if_pos h9, if_pos h9]; rfl
        · rw [if_neg h9, if_neg h9]
          obtain ⟨f1, f2⟩ := readAt_fin hk.2 hr
          rcases f2 with f2 | f2
          · exact absurd f2 h9
          · rw [ih t.fin (j + 1) (by omega) f1 (by omega)]
theorem scanP_small (s : ByteArray) (h : s.size ≤ 10000) : scanP s = scanAt s 0 := by
  unfold scanP
  rw [if_neg (by omega)]
  exact coll_items s s.size 0 0 (by omega) (Nat.zero_le _) (by omega)

/-- **what lies between two tokens has none** -/
theorem gap_scan {s : ByteArray} {i j : Nat} (e : skip s i = .inl j) (hi : i ≤ s.size) : scanAt (s.extract i j) 0 = .inl [endT (s.extract i j)] := by
  have hle := skip_le e hi
  have hsz : (s.extract i j).size = j - i := by simp; omega
  have hA : Agr s (s.extract i j) i 0 (j - i) := ⟨by omega, by omega, fun k hk => by
    unfold atB
    rw [Lib.extract_data, List.getD_eq_getElem?_getD, List.getD_eq_getElem?_getD, List.getElem?_take_of_lt (by omega), List.getElem?_drop, Nat.zero_add]⟩
  have h1 := skip_agr hA e (by omega) (.inr (by omega))
  rw [show 0 + (j - i) = (s.extract i j).size from by omega, skip_end _ _ (Nat.le_refl _)] at h1
  exact scan_of_sc (.fin (Nat.zero_le _) h1)
/-- **a token's bytes alone are it** -/
theorem one_scan {s : ByteArray} {i j : Nat} {t : Tk} (e : skip s i = .inl j) (hj : j < s.size) (hr : readAt s j = .inl t) :
    scanAt (s.extract j t.fin) 0 = .inl [⟨t.kind, 0, t.fin - j, t.text, t.n⟩, endT (s.extract j t.fin)] := by
  obtain ⟨r1, r2, r3, r4⟩ := readAt_lt hj hr
  obtain ⟨n, hn⟩ : ∃ n, t.fin = j + n := ⟨t.fin - j, by omega⟩
  rw [hn]
  have hsz : (s.extract j (j + n)).size = n := by simp; omega
  have hA : Agr s (s.extract j (j + n)) j 0 n := ⟨by omega, by omega, fun k hk => by
    unfold atB
    rw [Lib.extract_data, List.getD_eq_getElem?_getD, List.getD_eq_getElem?_getD, List.getElem?_take_of_lt (by omega), List.getElem?_drop, Nat.zero_add]⟩
  have hst := skip_stop e hj
  have hst2 : Stops (s.extract j (j + n)) 0 := by
    obtain ⟨a, b, c⟩ := hst
    have h0 := hA.same 0 (by omega)
    simp only [Nat.add_zero] at h0
    have two : ∀ x y, twoAt s j x y = false → twoAt (s.extract j (j + n)) 0 x y = false := fun x y h => by
      rcases Nat.lt_or_ge n 2 with hlt | hge
      · unfold twoAt
        rw [decide_eq_false_iff_not]
        omega
      · have := hA.two 0 hge x y
        simp only [Nat.add_zero] at this
        rw [this]; exact h
    exact ⟨by rw [h0]; exact a, two _ _ b, two _ _ c⟩
  have hread := readAt_agr hr hj hn hA (.inl (by omega)) (fun _ => .inl rfl)
  rw [Nat.zero_add] at hread
  rw [show j + n - j = n from by omega]
  refine scan_of_sc (.tok (Nat.zero_le _) (skip_here hst2 (by omega)) (by omega) hread (.fin (by show n ≤ _; omega) ?_))
  show skip _ n = _
  rw [skip_end _ _ (by omega)]
  rw [hsz]

/-- tokens stand one behind the other -/
theorem sc_begin {s : ByteArray} {i : Nat} {l : List Tk} (h : Sc s i l) : i ≤ s.size ∧ l ≠ [] := by
  cases h with
  | fin hi _ => exact ⟨hi, by simp⟩
  | tok hi _ _ _ _ => exact ⟨hi, by simp⟩

/-- what each token is -/
structure At (s : ByteArray) (i : Nat) (t : Tk) (last : Bool) : Prop where
  lo : i ≤ t.at_
  hi : t.at_ ≤ t.fin
  top : t.fin ≤ s.size
  kind : (t.kind = 9) ↔ last = true
  gap : ∃ t', scanAt (s.extract i t.at_) 0 = .inl [t']
  one : if last = true then (t.at_ = s.size ∧ t.fin = s.size) else ∃ t1 t2, scanAt (s.extract t.at_ t.fin) 0 = .inl [t1, t2] ∧ t1.kind = t.kind ∧ t1.text = t.text ∧ t1.n = t.n
/-- the place behind what came ahead of the k-th -/
def ahead (i : Nat) (l : List Tk) (k : Nat) : Nat := match k with
  | 0 => i
  | k + 1 => (l[k]?.map (·.fin)).getD 0
theorem sc_at {s : ByteArray} {i : Nat} {l : List Tk} (h : Sc s i l) : ∀ (k : Nat) (t : Tk), l[k]? = some t → At s (ahead i l k) t (decide (k + 1 = l.length)) := by
  induction h with
  | fin hi hs =>
    intro k t ht
    match k, ht with
    | 0, ht =>
      simp at ht
      subst ht
      exact ⟨hi, Nat.le_refl _, Nat.le_refl _, by simp [endT], ⟨_, gap_scan hs hi⟩, by simp [endT]⟩
    | (k + 1), ht => simp at ht
  | @tok i j t0 l hi hs hj hr hl ih =>
    intro k t ht
    obtain ⟨r1, r2, r3, r4⟩ := readAt_lt hj hr
    have hne := (sc_begin hl).2
    match k, ht with
    | 0, ht =>
      simp at ht
      subst ht
      have hlen : 0 < l.length := List.length_pos_iff.2 hne
      have hd : decide (0 + 1 = (t0 :: l).length) = false := by rw [decide_eq_false_iff_not]; simp; omega
      rw [hd]
      refine ⟨by show i ≤ t0.at_; rw [r1]; exact (skip_le hs hi).1, by omega, r3, by simp [r4], ⟨_, by rw [r1]; exact gap_scan hs hi⟩, ?_⟩
      rw [if_neg (by decide), r1]
      exact ⟨_, _, one_scan hs hj hr, rfl, rfl, rfl⟩
    | (k + 1), ht =>
      have ht' : l[k]? = some t := by simpa using ht
      have := ih k t ht'
      have e1 : decide (k + 1 + 1 = (t0 :: l).length) = decide (k + 1 = l.length) := by simp
      have e2 : ahead i (t0 :: l) (k + 1) = ahead t0.fin l k := by
        cases k with
        | zero => simp [ahead]
        | succ k => simp [ahead]
      rw [e1, e2]
      exact this
theorem sc_last {s : ByteArray} {i : Nat} {l : List Tk} (h : Sc s i l) : ahead i l l.length = s.size := by
  induction h with
  | fin hi hs => simp [ahead, endT]
  | @tok i j t0 l hi hs hj hr hl ih =>
    have hne := (sc_begin hl).2
    obtain ⟨n, hn⟩ : ∃ n, l.length = n + 1 := ⟨l.length - 1, by have := List.length_pos_iff.2 hne; omega⟩
    rw [hn] at ih
    rw [List.length_cons, hn]
    simpa [ahead] using ih

/-- **what is scanned up to where a token ends, a feed behind it: the tokens up to there** -/
theorem sc_upto {s u : ByteArray} {e : Nat} (he : e ≤ s.size) (hu : u.size = e + 1) (h10 : atB u e = 10) (hA : ∀ k, k < e → atB u k = atB s k) :
    ∀ {i : Nat} {l : List Tk}, Sc s i l → ∀ (k : Nat) (t : Tk), l[k]? = some t → t.fin = e → k + 1 < l.length → Sc u i (l.take (k + 1) ++ [endT u]) := by
  intro i l h
  induction h with
  | fin hi hs => intro k t ht hte hk; simp at hk
  | @tok i j t0 l hi hs hj hr hl ih =>
    intro k t ht hte hk
    obtain ⟨r1, r2, r3, r4⟩ := readAt_lt hj hr
    have hle := skip_le hs hi
    have hlast : t0.fin ≤ e := by
      match k, ht with
      | 0, ht => simp at ht; subst ht; omega
      | (k + 1), ht =>
        have ht' : l[k]? = some t := by simpa using ht
        have hat := sc_at hl k t ht'
        have hmono : ∀ {i : Nat} {l : List Tk}, Sc s i l → ∀ (k : Nat) (t : Tk), l[k]? = some t → i ≤ t.fin := by
          intro i l h
          induction h with
          | fin hi hs =>
            intro k t ht
            match k, ht with
            | 0, ht => simp at ht; subst ht; exact hi
            | (k + 1), ht => simp at ht
          | tok hi hs hj hr _ ih =>
            intro k t ht
            obtain ⟨q1, q2, q3, q4⟩ := readAt_lt hj hr
            have q5 := skip_le hs hi
            match k, ht with
            | 0, ht => simp at ht; subst ht; omega
            | (k + 1), ht => have := ih k t (by simpa using ht); omega
        have := hmono hl k t ht'
        omega
    have hAg : ∀ (a n : Nat), a + n ≤ e → Agr s u a a n := fun a n h => ⟨by omega, by omega, fun k hk => hA _ (by omega)⟩
    have hst := skip_stop hs hj
    have hst2 : Stops u j := by
      obtain ⟨a, b, c⟩ := hst
      have two : ∀ x, twoAt s j x 45 = false → twoAt u j x 45 = false := fun x h => by
        rcases Nat.lt_or_ge (j + 1) e with hlt | hge
        · have := (hAg j 2 (by omega)).two 0 (Nat.le_refl _) x 45
          simp only [Nat.add_zero] at this
          rw [this]; exact h
        · unfold twoAt
          rw [decide_eq_false_iff_not]
          rintro ⟨_, _, h3⟩
          rw [show j + 1 = e from by omega, h10] at h3
          omega
      exact ⟨by rw [hA j (by omega)]; exact a, two _ b, two _ c⟩
    have hskip : skip u i = .inl j := by
      rw [skip_agr (hAg i (e - i) (by omega)) hs (by omega) (.inl (by omega)), show i + (j - i) = j from by omega]
      exact skip_here hst2 (by omega)
    obtain ⟨n, hn⟩ : ∃ n, t0.fin = j + n := ⟨t0.fin - j, by omega⟩
    have hnext : Next s u (j + n) (j + n) := by
      rcases Nat.lt_or_ge (j + n) e with hlt | hge
      · exact .inr (.inr ⟨by omega, by omega, hA _ hlt⟩)
      · refine .inr (.inl ⟨by omega, ?_⟩)
        rw [show j + n = e from by omega, h10]
        decide
    have hread := readAt_agr hr hj hn (hAg j n (by omega)) hnext (fun hc => by
      rcases Nat.eq_zero_or_pos j with h0 | h0
      · exact .inl h0
      · refine .inr ?_
        rw [hA _ (by omega)]
        intro h2
        unfold readAt at hr
        rw [if_neg (by omega), if_pos hc] at hr
        unfold nameP at hr
        rw [if_pos ⟨h0, h2⟩] at hr
        cases hr)
    have hread2 : readAt u j = .inl t0 := by
      rw [hread]
      rw [← hn]
      obtain ⟨a, b, c, d, f⟩ := t0
      simp only at r1
      subst r1
      rfl
    match k, ht with
    | 0, ht =>
      simp at ht
      subst ht
      rw [show (t0 :: l).take (0 + 1) ++ [endT u] = [t0, endT u] by simp]
      refine .tok (by omega) hskip (by omega) hread2 (.fin (by omega) ?_)
      rw [hte, skip_step u e (by omega), h10, if_pos (by decide), skip_end u _ (by omega), hu]
    | (k + 1), ht =>
      rw [show (t0 :: l).take (k + 1 + 1) ++ [endT u] = t0 :: (l.take (k + 1) ++ [endT u]) by simp]
      exact .tok (by omega) hskip (by omega) hread2 (ih k t (by simpa using ht) hte (by simpa using hk))
end Go.Proofs.YtifmbhcajlnhbaaDoor
