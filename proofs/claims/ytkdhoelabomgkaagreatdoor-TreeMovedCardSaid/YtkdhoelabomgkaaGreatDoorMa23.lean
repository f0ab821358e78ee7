/- Texts of this proof, joined: PScan0, PlaceMath, Word, ConM, TWord. No condition. -/
import Derived.Test.YtkdhoelabomgkaaGreatDoorMa22
import Derived.Test.YtkdhoelabomgkaaGreatDoorMa20
import Derived.Test.YtkdhoelabomgkaaGreatDoorMa07
/-
  Layer 2: what Scan tells, in plain words. No walk.
-/
namespace Go.Proofs.YtkdhoelabomgkaaGreatDoor
set_option linter.unusedVariables false
open Go.RowKit

/-- what is wrong with the j-th that is yielded; 0: nothing -/
def verd (j : Nat) (x : Tk × Int) : Int := if x.2 = 0 ∧ j = 16384 ∧ x.1.kind ≠ 9 then 6 else x.2
/-- the tokens, or the first fault, of what is yielded, j ahead of it -/
def coll : Nat → List (Tk × Int) → List Tk ⊕ (Nat × Int)
  | _, [] => .inl []
  | j, x :: r => if verd j x ≠ 0 then .inr (x.1.at_, verd j x) else (coll (j + 1) r).elim (fun l => .inl (x.1 :: l)) .inr
/-- nothing is wrong with any of these -/
def AllOk (j : Nat) (l : List (Tk × Int)) : Prop := ∀ (i : Nat) (h : i < l.length), verd (j + i) l[i] = 0
theorem coll_ok : ∀ (l : List (Tk × Int)) (j : Nat), AllOk j l → coll j l = .inl (l.map (·.1))
  | [], _, _ => rfl
  | x :: r, j, h => by
    have h0 := h 0 (by simp)
    simp only [Nat.add_zero, List.getElem_cons_zero] at h0
    have ih := coll_ok r (j + 1) (fun i hi => by have := h (i + 1) (by simpa using hi); rw [show j + 1 + i = j + (i + 1) from by omega]; simpa using this)
    unfold coll
    rw [if_neg (by rw [h0]; simp), ih]
    rfl
theorem coll_bad : ∀ (l : List (Tk × Int)) (j : Nat) (x : Tk × Int) (r : List (Tk × Int)), AllOk j l → verd (j + l.length) x ≠ 0 → coll j (l ++ x :: r) = .inr (x.1.at_, verd (j + l.length) x)
  | [], j, x, r, _, hx => by
    show coll j (x :: r) = _
    unfold coll
    rw [if_pos (show verd j x ≠ 0 from hx)]
    rfl
  | y :: l, j, x, r, h, hx => by
    have h0 := h 0 (by simp)
    simp only [Nat.add_zero, List.getElem_cons_zero] at h0
    have e : j + (y :: l).length = j + 1 + l.length := by simp; omega
    rw [e] at hx ⊢
    have ih := coll_bad l (j + 1) x r (fun i hi => by have := h (i + 1) (by simpa using hi); rw [show j + 1 + i = j + (i + 1) from by omega]; simpa using this) hx
    show coll j (y :: (l ++ x :: r)) = _
    unfold coll
    rw [if_neg (by rw [h0]; simp), ih]
    rfl
theorem AllOk.snoc {j : Nat} {l : List (Tk × Int)} {x : Tk × Int} (h : AllOk j l) (hx : verd (j + l.length) x = 0) : AllOk j (l ++ [x]) := by
  intro i hi
  rcases Nat.lt_or_ge i l.length with hlt | hge
  · rw [List.getElem_append_left hlt]; exact h i hlt
  · have e : i = l.length := by simp at hi; omega
    subst e
    rw [List.getElem_append_right (Nat.le_refl _)]
    simpa using hx
/-- Scan's answer -/
def scanP (s : ByteArray) : List Tk ⊕ (Nat × Int) := if 65536 < s.size then .inr (0, 6) else coll 0 (items s 0)
/-- tokens' cells, one behind the other -/
def rowL (l : List Tk) : List Value := l.flatMap fun t => [.int .i64 t.kind, .int .i64 t.at_, .int .i64 t.fin, .string t.text, .int .i64 t.n]
theorem rowL_snoc (l : List Tk) (t : Tk) : rowL (l ++ [t]) = rowL l ++ [.int .i64 t.kind, .int .i64 t.at_, .int .i64 t.fin, .string t.text, .int .i64 t.n] := by simp [rowL]
theorem rowL_len (l : List Tk) : (rowL l).length = l.length * 5 := by
  induction l with
  | nil => rfl
  | cons t l ih => simp [rowL] at ih ⊢; omega
theorem items_len (s : ByteArray) : ∀ f i, i ≤ s.size → (itemsF s f i).length ≤ s.size - i + 1 := by
  intro f
  induction f with
  | zero => intro i _; show 0 ≤ _; omega
  | succ f ih =>
    intro i hi
    rw [itemsF_succ]
    cases hs : skip s i with
    | inr m => simp only [Sum.elim_inr]; show 1 ≤ _; omega
    | inl j =>
      have hj := skip_le hs hi
      simp only [Sum.elim_inl]
      cases hr : readAt s j with
      | inr x => simp only [Sum.elim_inr]; show 1 ≤ _; omega
      | inl t =>
        simp only [Sum.elim_inl, List.length_cons]
        by_cases h9 : t.kind = 9
        · rw [if_pos h9]; show 0 + 1 ≤ _; omega
        · rw [if_neg h9]
          obtain ⟨h1, h2⟩ := readAt_fin hj.2 hr
          rcases h2 with h2 | h2
          · exact absurd h2 h9
          · have := ih t.fin h1
            omega

/-- what Scan tells: a slice of the call's own, and a fault -/
def ScanOut (r : List Tk ⊕ (Nat × Int)) (w : World) (e : Ending) (w' : World) : Prop :=
  ∃ v, e = .returned (.tuple #[v, .agg #[.int .i64 (r.elim (fun _ => 0) fun p => (p.1 : Int)), .int .i64 (r.elim (fun _ => 0) fun p => p.2)]]) ∧
    w'.ownsRow w.heap.size 166 5 v (r.elim (·.length) fun _ => 0) (r.elim rowL fun _ => []) ∧ Below w.heap.size w w'

end Go.Proofs.YtkdhoelabomgkaaGreatDoor
/-
  Layer 2 in plain words: Scan's answer; a token's bytes alone; what lies between tokens; what is scanned up to a token's end. No walk.
-/
namespace Go.Proofs.YtkdhoelabomgkaaGreatDoor
set_option linter.unusedVariables false
open Go.RowKit

theorem coll_items (s : ByteArray) : ∀ (n i j : Nat), s.size - i ≤ n → i ≤ s.size → j + (s.size - i) < 16384 → coll j (items s i) = scanAt s i := by
  intro n
  induction n with
  | zero =>
    intro i j hn hi hj
    obtain rfl : i = s.size := by omega
    rw [items_step (Nat.le_refl _), scanAt_step (Nat.le_refl _), skip_end s _ (Nat.le_refl _)]
    simp only [Sum.elim_inl]
    rw [readAt_end s _ (Nat.le_refl _)]
    simp only [Sum.elim_inl]
    rw [if_pos (show (endT s).kind = 9 from rfl), if_pos (show (endT s).kind = 9 from rfl)]
    unfold coll
    rw [if_neg (by unfold verd; rw [if_neg (by omega)]; simp)]
    rfl
  | succ n ih =>
    intro i j hn hi hj
    rw [items_step hi, scanAt_step hi]
    cases hs : skip s i with
    | inr m =>
      simp only [Sum.elim_inr]
      unfold coll
      rw [if_pos (by unfold verd; rw [if_neg (by simp)]; simp)]
      unfold verd
      rw [if_neg (by simp)]
    | inl k =>
      have hk := skip_le hs hi
      simp only [Sum.elim_inl]
      cases hr : readAt s k with
      | inr p =>
        have hp := readAt_err hr
        simp only [Sum.elim_inr]
        unfold coll
        rw [if_pos (by unfold verd; rw [if_neg (fun h => hp h.1)]; exact hp)]
        unfold verd
        rw [if_neg (fun h => hp h.1)]
      | inl t =>
        simp only [Sum.elim_inl]
        have hv : verd j (t, 0) = 0 := by
          unfold verd
          split
          · next h => omega
          · rfl
        unfold coll
        rw [if_neg (by rw [hv]; simp)]
        by_cases h9 : t.kind = 9
        · rw [if_pos h9, if_pos h9]; rfl
        · rw [if_neg h9, if_neg h9]
          obtain ⟨f1, f2⟩ := readAt_fin hk.2 hr
          rcases f2 with f2 | f2
          · exact absurd f2 h9
          · rw [ih t.fin (j + 1) (by omega) f1 (by omega)]
theorem scanP_small (s : ByteArray) (h : s.size ≤ 10000) : scanP s = scanAt s 0 := by
  unfold scanP
  rw [if_neg (by omega)]
  exact coll_items s s.size 0 0 (by omega) (Nat.zero_le _) (by omega)

/-- **what lies between two tokens has none** -/
theorem gap_scan {s : ByteArray} {i j : Nat} (e : skip s i = .inl j) (hi : i ≤ s.size) : scanAt (s.extract i j) 0 = .inl [endT (s.extract i j)] := by
  have hle := skip_le e hi
  have hsz : (s.extract i j).size = j - i := by simp; omega
  have hA : Agr s (s.extract i j) i 0 (j - i) := ⟨by omega, by omega, fun k hk => by
    unfold atB
    rw [Lib.extract_data, List.getD_eq_getElem?_getD, List.getD_eq_getElem?_getD, List.getElem?_take_of_lt (by omega), List.getElem?_drop, Nat.zero_add]⟩
  have h1 := skip_agr hA e (by omega) (.inr (by omega))
  rw [show 0 + (j - i) = (s.extract i j).size from by omega, skip_end _ _ (Nat.le_refl _)] at h1
  exact scan_of_sc (.fin (Nat.zero_le _) h1)
/-- **a token's bytes alone are it** -/
theorem one_scan {s : ByteArray} {i j : Nat} {t : Tk} (e : skip s i = .inl j) (hj : j < s.size) (hr : readAt s j = .inl t) :
    scanAt (s.extract j t.fin) 0 = .inl [⟨t.kind, 0, t.fin - j, t.text, t.n⟩, endT (s.extract j t.fin)] := by
  obtain ⟨r1, r2, r3, r4⟩ := readAt_lt hj hr
  obtain ⟨n, hn⟩ : ∃ n, t.fin = j + n := ⟨t.fin - j, by omega⟩
  rw [hn]
  have hsz : (s.extract j (j + n)).size = n := by simp; omega
  have hA : Agr s (s.extract j (j + n)) j 0 n := ⟨by omega, by omega, fun k hk => by
    unfold atB
    rw [Lib.extract_data, List.getD_eq_getElem?_getD, List.getD_eq_getElem?_getD, List.getElem?_take_of_lt (by omega), List.getElem?_drop, Nat.zero_add]⟩
  have hst := skip_stop e hj
  have hst2 : Stops (s.extract j (j + n)) 0 := by
    obtain ⟨a, b, c⟩ := hst
    have h0 := hA.same 0 (by omega)
    simp only [Nat.add_zero] at h0
    have two : ∀ x y, twoAt s j x y = false → twoAt (s.extract j (j + n)) 0 x y = false := fun x y h => by
      rcases Nat.lt_or_ge n 2 with hlt | hge
      · unfold twoAt
        rw [decide_eq_false_iff_not]
        omega
      · have := hA.two 0 hge x y
        simp only [Nat.add_zero] at this
        rw [this]; exact h
    exact ⟨by rw [h0]; exact a, two _ _ b, two _ _ c⟩
  have hread := readAt_agr hr hj hn hA (.inl (by omega)) (fun _ => .inl rfl)
  rw [Nat.zero_add] at hread
  rw [show j + n - j = n from by omega]
  refine scan_of_sc (.tok (Nat.zero_le _) (skip_here hst2 (by omega)) (by omega) hread (.fin (by show n ≤ _; omega) ?_))
  show skip _ n = _
  rw [skip_end _ _ (by omega)]
  rw [hsz]

/-- tokens stand one behind the other -/
theorem sc_begin {s : ByteArray} {i : Nat} {l : List Tk} (h : Sc s i l) : i ≤ s.size ∧ l ≠ [] := by
  cases h with
  | fin hi _ => exact ⟨hi, by simp⟩
  | tok hi _ _ _ _ => exact ⟨hi, by simp⟩

/-- what each token is -/
structure At (s : ByteArray) (i : Nat) (t : Tk) (last : Bool) : Prop where
  lo : i ≤ t.at_
  hi : t.at_ ≤ t.fin
  top : t.fin ≤ s.size
  kind : (t.kind = 9) ↔ last = true
  gap : ∃ t', scanAt (s.extract i t.at_) 0 = .inl [t']
  one : if last = true then (t.at_ = s.size ∧ t.fin = s.size) else ∃ t1 t2, scanAt (s.extract t.at_ t.fin) 0 = .inl [t1, t2] ∧ t1.kind = t.kind ∧ t1.text = t.text ∧ t1.n = t.n
/-- the place behind what came ahead of the k-th -/
def ahead (i : Nat) (l : List Tk) (k : Nat) : Nat := match k with
  | 0 => i
  | k + 1 => (l[k]?.map (·.fin)).getD 0
theorem sc_at {s : ByteArray} {i : Nat} {l : List Tk} (h : Sc s i l) : ∀ (k : Nat) (t : Tk), l[k]? = some t → At s (ahead i l k) t (decide (k + 1 = l.length)) := by
  induction h with
  | fin hi hs =>
    intro k t ht
    match k, ht with
    | 0, ht =>
      simp at ht
      subst ht
      exact ⟨hi, Nat.le_refl _, Nat.le_refl _, by simp [endT], ⟨_, gap_scan hs hi⟩, by simp [endT]⟩
    | (k + 1), ht => simp at ht
  | @tok i j t0 l hi hs hj hr hl ih =>
    intro k t ht
    obtain ⟨r1, r2, r3, r4⟩ := readAt_lt hj hr
    have hne := (sc_begin hl).2
    match k, ht with
    | 0, ht =>
      simp at ht
      subst ht
      have hlen : 0 < l.length := List.length_pos_iff.2 hne
      have hd : decide (0 + 1 = (t0 :: l).length) = false := by rw [decide_eq_false_iff_not]; simp; omega
      rw [hd]
      refine ⟨by show i ≤ t0.at_; rw [r1]; exact (skip_le hs hi).1, by omega, r3, by simp [r4], ⟨_, by rw [r1]; exact gap_scan hs hi⟩, ?_⟩
      rw [if_neg (by decide), r1]
      exact ⟨_, _, one_scan hs hj hr, rfl, rfl, rfl⟩
    | (k + 1), ht =>
      have ht' : l[k]? = some t := by simpa using ht
      have := ih k t ht'
      have e1 : decide (k + 1 + 1 = (t0 :: l).length) = decide (k + 1 = l.length) := by simp
      have e2 : ahead i (t0 :: l) (k + 1) = ahead t0.fin l k := by
        cases k with
        | zero => simp [ahead]
        | succ k => simp [ahead]
      rw [e1, e2]
      exact this
theorem sc_last {s : ByteArray} {i : Nat} {l : List Tk} (h : Sc s i l) : ahead i l l.length = s.size := by
  induction h with
  | fin hi hs => simp [ahead, endT]
  | @tok i j t0 l hi hs hj hr hl ih =>
    have hne := (sc_begin hl).2
    obtain ⟨n, hn⟩ : ∃ n, l.length = n + 1 := ⟨l.length - 1, by have := List.length_pos_iff.2 hne; omega⟩
    rw [hn] at ih
    rw [List.length_cons, hn]
    simpa [ahead] using ih

/-- **what is scanned up to where a token ends, a feed behind it: the tokens up to there** -/
theorem sc_upto {s u : ByteArray} {e : Nat} (he : e ≤ s.size) (hu : u.size = e + 1) (h10 : atB u e = 10) (hA : ∀ k, k < e → atB u k = atB s k) :
    ∀ {i : Nat} {l : List Tk}, Sc s i l → ∀ (k : Nat) (t : Tk), l[k]? = some t → t.fin = e → k + 1 < l.length → Sc u i (l.take (k + 1) ++ [endT u]) := by
  intro i l h
  induction h with
  | fin hi hs => intro k t ht hte hk; simp at hk
  | @tok i j t0 l hi hs hj hr hl ih =>
    intro k t ht hte hk
    obtain ⟨r1, r2, r3, r4⟩ := readAt_lt hj hr
    have hle := skip_le hs hi
    have hlast : t0.fin ≤ e := by
      match k, ht with
      | 0, ht => simp at ht; subst ht; omega
      | (k + 1), ht =>
        have ht' : l[k]? = some t := by simpa using ht
        have hat := sc_at hl k t ht'
        have hmono : ∀ {i : Nat} {l : List Tk}, Sc s i l → ∀ (k : Nat) (t : Tk), l[k]? = some t → i ≤ t.fin := by
          intro i l h
          induction h with
          | fin hi hs =>
            intro k t ht
            match k, ht with
            | 0, ht => simp at ht; subst ht; exact hi
            | (k + 1), ht => simp at ht
          | tok hi hs hj hr _ ih =>
            intro k t ht
            obtain ⟨q1, q2, q3, q4⟩ := readAt_lt hj hr
            have q5 := skip_le hs hi
            match k, ht with
            | 0, ht => simp at ht; subst ht; omega
            | (k + 1), ht => have := ih k t (by simpa using ht); omega
        have := hmono hl k t ht'
        omega
    have hAg : ∀ (a n : Nat), a + n ≤ e → Agr s u a a n := fun a n h => ⟨by omega, by omega, fun k hk => hA _ (by omega)⟩
    have hst := skip_stop hs hj
    have hst2 : Stops u j := by
      obtain ⟨a, b, c⟩ := hst
      have two : ∀ x, twoAt s j x 45 = false → twoAt u j x 45 = false := fun x h => by
        rcases Nat.lt_or_ge (j + 1) e with hlt | hge
        · have := (hAg j 2 (by omega)).two 0 (Nat.le_refl _) x 45
          simp only [Nat.add_zero] at this
          rw [this]; exact h
        · unfold twoAt
          rw [decide_eq_false_iff_not]
          rintro ⟨_, _, h3⟩
          rw [show j + 1 = e from by omega, h10] at h3
          omega
      exact ⟨by rw [hA j (by omega)]; exact a, two _ b, two _ c⟩
    have hskip : skip u i = .inl j := by
      rw [skip_agr (hAg i (e - i) (by omega)) hs (by omega) (.inl (by omega)), show i + (j - i) = j from by omega]
      exact skip_here hst2 (by omega)
    obtain ⟨n, hn⟩ : ∃ n, t0.fin = j + n := ⟨t0.fin - j, by omega⟩
    have hnext : Next s u (j + n) (j + n) := by
      rcases Nat.lt_or_ge (j + n) e with hlt | hge
      · exact .inr (.inr ⟨by omega, by omega, hA _ hlt⟩)
      · refine .inr (.inl ⟨by omega, ?_⟩)
        rw [show j + n = e from by omega, h10]
        decide
    have hread := readAt_agr hr hj hn (hAg j n (by omega)) hnext (fun hc => by
      rcases Nat.eq_zero_or_pos j with h0 | h0
      · exact .inl h0
      · refine .inr ?_
        rw [hA _ (by omega)]
        intro h2
        unfold readAt at hr
        rw [if_neg (by omega), if_pos hc] at hr
        unfold nameP at hr
        rw [if_pos ⟨h0, h2⟩] at hr
        cases hr)
    have hread2 : readAt u j = .inl t0 := by
      rw [hread]
      rw [← hn]
      obtain ⟨a, b, c, d, f⟩ := t0
      simp only at r1
      subst r1
      rfl
    match k, ht with
    | 0, ht =>
      simp at ht
      subst ht
      rw [show (t0 :: l).take (0 + 1) ++ [endT u] = [t0, endT u] by simp]
      refine .tok (by omega) hskip (by omega) hread2 (.fin (by omega) ?_)
      rw [hte, skip_step u e (by omega), h10, if_pos (by decide), skip_end u _ (by omega), hu]
    | (k + 1), ht =>
      rw [show (t0 :: l).take (k + 1 + 1) ++ [endT u] = t0 :: (l.take (k + 1) ++ [endT u]) by simp]
      exact .tok (by omega) hskip (by omega) hread2 (ih k t (by simpa using ht) hte (by simpa using hk))
end Go.Proofs.YtkdhoelabomgkaaGreatDoor
/-
  Layer 2: Word, both sides.
-/
namespace Go.Proofs.YtkdhoelabomgkaaGreatDoor
set_option linter.unusedVariables false
open Go.ChangeShapes Go.WideShapes Go.ChangeAt Go.RowKit

/-- is it a Name's text? -/
def wordB (s : ByteArray) : Bool := decide (0 < s.size ∧ s.size ≤ 32 ∧ cls (atB s 0) = 3 ∧ wordEnd s 0 = s.size) && !inL keysL s
theorem wordB_no {s : ByteArray} (h : ¬ (0 < s.size ∧ s.size ≤ 32 ∧ cls (atB s 0) = 3 ∧ wordEnd s 0 = s.size)) : wordB s = false := by
  unfold wordB; rw [decide_eq_false h]; rfl
theorem wordB_yes {s : ByteArray} (h : 0 < s.size ∧ s.size ≤ 32 ∧ cls (atB s 0) = 3 ∧ wordEnd s 0 = s.size) : wordB s = !inL keysL s := by
  unfold wordB; rw [decide_eq_true h]; rfl
theorem empty_text {s : ByteArray} (h : s.size = 0) : s = ⟨#[]⟩ := by
  have e : s.data.toList.length = s.size := Array.length_toList
  have h0 : s.data.toList = [] := List.length_eq_zero_iff.1 (by omega)
  cases s
  exact congrArg ByteArray.mk (Array.toList_inj.1 h0)
theorem not_empty {s : ByteArray} (h : 0 < s.size) : s.toList.isEmpty = false := by
  rw [ByteArray.toList_eq]
  have e1 : s.data.toList.length = s.size := Array.length_toList
  cases hm : s.data.toList with
  | nil => rw [hm] at e1; simp at e1; omega
  | cons a b => rfl

set_option maxHeartbeats 4000000 in
set_option maxRecDepth 100000 in
theorem pword_any (s : ByteArray) (hs : s.size ≤ maxLen) (w : World) :
    Calls Tryz.prog 110 #[.string s] w fun e w' => e = .returned (.bool (wordB s)) ∧ w = w' := by
  by_cases h0 : s.size = 0
  · rw [wordB_no (by omega)]
    obtain rfl := empty_text h0
    go_enter Tryz.func110, Tryz.ntmps110
    go_wp2
    go_ret
    exact ⟨rfl, rfl⟩
  have hne := not_empty (s := s) (by omega)
  by_cases h32 : 32 < s.size
  · rw [wordB_no (by omega)]
    have q : (32 : Int) < s.size := by omega
    go_enter Tryz.func110, Tryz.ntmps110
    go_wp2
    go_ret
    exact ⟨rfl, rfl⟩
  have q : ¬ (32 : Int) < s.size := by omega
  have ea := atB_eq s 0 (by omega)
  have hb := s[0].toNat_lt
  by_cases hc : cls (atB s 0) = 3
  · rw [ea] at hc
    by_cases he : wordEnd s 0 = s.size
    · rw [wordB_yes ⟨by omega, by omega, by rw [ea]; exact hc, he⟩]
      have q2 : ((wordEnd s 0 : Int) == s.size) = true := by rw [beq_iff_eq]; omega
      have q3 : (cls s[0].toNat != 3) = false := by rw [bne_eq_false_iff_eq]; exact hc
      clear ea
      go_enter Tryz.func110, Tryz.ntmps110
      go_wp2_with fail
      refine (class_any (s[0].toNat : Int) (by omega) (by omega) _).mono ?_
      rintro e w' ⟨rfl, rfl⟩
      go_wp2_with fail
      refine (pend_any s (by omega) 0 (Nat.zero_le _) _).mono ?_
      rintro e w' ⟨rfl, rfl⟩
      go_wp2_with fail
      refine (pkey_any s _).mono ?_
      rintro e w' ⟨rfl, rfl⟩
      go_wp2
      go_ret
      exact ⟨rfl, rfl⟩
    · rw [wordB_no (fun h => he h.2.2.2)]
      have q2 : ((wordEnd s 0 : Int) == s.size) = false := by rw [beq_eq_false_iff_ne]; omega
      have q3 : (cls s[0].toNat != 3) = false := by rw [bne_eq_false_iff_eq]; exact hc
      clear ea
      go_enter Tryz.func110, Tryz.ntmps110
      go_wp2_with fail
      refine (class_any (s[0].toNat : Int) (by omega) (by omega) _).mono ?_
      rintro e w' ⟨rfl, rfl⟩
      go_wp2_with fail
      refine (pend_any s (by omega) 0 (Nat.zero_le _) _).mono ?_
      rintro e w' ⟨rfl, rfl⟩
      go_wp2
      go_ret
      exact ⟨rfl, rfl⟩
  · rw [wordB_no (fun h => hc h.2.2.1)]
    rw [ea] at hc
    have q3 : (cls s[0].toNat != 3) = true := by rw [bne_iff_ne]; exact hc
    clear ea
    go_enter Tryz.func110, Tryz.ntmps110
    go_wp2_with fail
    refine (class_any (s[0].toNat : Int) (by omega) (by omega) _).mono ?_
    rintro e w' ⟨rfl, rfl⟩
    go_wp2
    go_ret
    exact ⟨rfl, rfl⟩

set_option maxHeartbeats 4000000 in
set_option maxRecDepth 100000 in
theorem rword_any (s : ByteArray) (hs : s.size ≤ maxLen) (w : World) :
    Calls Tryz.prog 96 #[.string s] w fun e w' => e = .returned (.bool (wordB s)) ∧ Below w.heap.size w w' := by
  by_cases h0 : s.size = 0
  · rw [wordB_no (by omega)]
    have q0 : ¬ (0 : Int) < s.size := by omega
    go_enter Tryz.func96, Tryz.ntmps96
    go_wp2
    go_ret
    exact ⟨rfl, Below.refl _ _⟩
  have q0 : (0 : Int) < s.size := by omega
  by_cases h32 : 32 < s.size
  · rw [wordB_no (by omega)]
    have q : ¬ (s.size : Int) ≤ 32 := by omega
    go_enter Tryz.func96, Tryz.ntmps96
    go_wp2
    go_ret
    exact ⟨rfl, Below.refl _ _⟩
  have q : (s.size : Int) ≤ 32 := by omega
  have ea := atB_eq s 0 (by omega)
  have hb := s[0].toNat_lt
  by_cases hc : cls (atB s 0) = 3
  · rw [ea] at hc
    have HW := Lib.hid (runEnd_ok s (s.size - 0) 0 (Nat.zero_le _) (Nat.le_refl _))
    by_cases he : wordEnd s 0 = s.size
    · rw [wordB_yes ⟨by omega, by omega, by rw [ea]; exact hc, he⟩]
      have q2 : ((wordEnd s 0 : Int) == s.size) = true := by rw [beq_iff_eq]; omega
      have q3 : (cls s[0].toNat == 3) = true := by rw [beq_iff_eq]; exact hc
      clear ea
      go_enter Tryz.func96, Tryz.ntmps96
      go_wp2_with fail
      refine (rclass_any (s[0].toNat : Int) (by omega) (by omega) _).mono ?_
      rintro e w' ⟨rfl, rfl⟩
      go_wp2_with fail
      refine (run_any s (by omega) 0 (Nat.zero_le _) _).mono ?_
      rintro e w' ⟨m, rfl, hm, rfl⟩
      obtain rfl : m = wordEnd s 0 := RunTo.unique hm HW.out
      go_wp2_with fail
      refine (key_any s _).mono ?_
      rintro e w' ⟨rfl, hb⟩
      go_wp2
      go_ret
      exact ⟨rfl, hb⟩
    · rw [wordB_no (fun h => he h.2.2.2)]
      have q2 : ((wordEnd s 0 : Int) == s.size) = false := by rw [beq_eq_false_iff_ne]; omega
      have q3 : (cls s[0].toNat == 3) = true := by rw [beq_iff_eq]; exact hc
      clear ea
      go_enter Tryz.func96, Tryz.ntmps96
      go_wp2_with fail
      refine (rclass_any (s[0].toNat : Int) (by omega) (by omega) _).mono ?_
      rintro e w' ⟨rfl, rfl⟩
      go_wp2_with fail
      refine (run_any s (by omega) 0 (Nat.zero_le _) _).mono ?_
      rintro e w' ⟨m, rfl, hm, rfl⟩
      obtain rfl : m = wordEnd s 0 := RunTo.unique hm HW.out
      go_wp2
      go_ret
      exact ⟨rfl, Below.refl _ _⟩
  · rw [wordB_no (fun h => hc h.2.2.1)]
    rw [ea] at hc
    have q3 : (cls s[0].toNat == 3) = false := by rw [beq_eq_false_iff_ne]; exact hc
    clear ea
    go_enter Tryz.func96, Tryz.ntmps96
    go_wp2_with fail
    refine (rclass_any (s[0].toNat : Int) (by omega) (by omega) _).mono ?_
    rintro e w' ⟨rfl, rfl⟩
    go_wp2
    go_ret
    exact ⟨rfl, Below.refl _ _⟩
end Go.Proofs.YtkdhoelabomgkaaGreatDoor
/-
  Layer 3: a con's text, and what scanning it tells. No walk.
-/
namespace Go.Proofs.YtkdhoelabomgkaaGreatDoor
set_option linter.unusedVariables false
open Go.RowKit

/-- a con's text -/
def conB (s : ByteArray) : Bool := decide (0 < s.size ∧ s.size ≤ 32 ∧ cls (atB s 0) = 4 ∧ wordEnd s 0 = s.size)
theorem toList_size {s t : ByteArray} (h : (s.toList == t.toList) = true) : s.size = t.size := by
  have e := eq_of_beq h
  rw [ByteArray.toList_eq, ByteArray.toList_eq] at e
  have e1 : s.data.toList.length = s.size := Array.length_toList
  have e2 : t.data.toList.length = t.size := Array.length_toList
  rw [← e1, ← e2, e]
theorem key_small {s : ByteArray} (h : inL keysL s = true) (h0 : 0 < s.size) : cls (atB s 0) = 3 := by
  unfold inL keysL at h
  have hl : s.data.toList.length = s.size := Array.length_toList
  simp only [List.any_cons, List.any_nil, Bool.or_false, Bool.or_eq_true, beq_iff_eq] at h
  have key : ∀ (t : ByteArray), t.toList = s.toList → cls (atB t 0) = 3 → cls (atB s 0) = 3 := by
    intro t ht hc
    rw [ByteArray.toList_eq, ByteArray.toList_eq] at ht
    unfold atB at hc ⊢
    rw [← ht]
    exact hc
  rcases h with h | h | h | h | h | h | h | h <;> exact key _ h (by decide +kernel)
theorem con_skip {s : ByteArray} (h0 : 0 < s.size) (hc : cls (atB s 0) = 4) : skip s 0 = .inl 0 := by
  have h2 : ∀ a b : Int, cls a ≠ 4 → twoAt s 0 a b = false := by
    intro a b ha
    unfold twoAt
    refine decide_eq_false ?_
    rintro ⟨_, h1, _⟩
    rw [h1] at hc
    exact ha hc
  rw [skip_step s 0 h0, if_neg (by rw [hc]; decide), h2 45 45 (by decide), h2 123 45 (by decide)]
  rfl
theorem con_read {s : ByteArray} (h : conB s = true) : readAt s 0 = .inl ⟨2, 0, s.size, s.extract 0 s.size, 0⟩ := by
  unfold conB at h
  obtain ⟨h0, h1, h2, h3⟩ := of_decide_eq_true h
  unfold readAt
  rw [if_neg (by omega), if_pos (.inr h2)]
  unfold nameP
  rw [if_neg (by omega)]
  unfold nameAt
  rw [if_neg (by omega), h3]
  have hk : inL keysL (s.extract 0 s.size) = false := by
    cases hk : inL keysL (s.extract 0 s.size) with
    | false => rfl
    | true =>
      have e : s.extract 0 s.size = s := by simp
      rw [e] at hk
      have := key_small hk h0
      rw [h2] at this
      exact absurd this (by decide)
  rw [hk, if_neg (by decide), if_neg (by rw [h2]; decide)]
theorem con_yes {s : ByteArray} (h : conB s = true) : scanP s = .inl [⟨2, 0, s.size, s.extract 0 s.size, 0⟩, endT s] := by
  have hr := con_read h
  unfold conB at h
  obtain ⟨h0, h1, h2, h3⟩ := of_decide_eq_true h
  rw [scanP_small s (by omega), scanAt_step (Nat.zero_le _), con_skip h0 h2]
  simp only [Sum.elim_inl]
  rw [hr]
  simp only [Sum.elim_inl]
  rw [if_neg (by decide)]
  have e : scanAt s s.size = .inl [endT s] := by
    rw [scanAt_step (Nat.le_refl _), skip_end s _ (Nat.le_refl _)]
    simp only [Sum.elim_inl]
    rw [readAt_end s _ (Nat.le_refl _)]
    simp only [Sum.elim_inl]
    rw [if_pos (show (endT s).kind = 9 from rfl)]
  rw [e]
  rfl
theorem con_no {s : ByteArray} (hs : s.size ≤ 32) (h : conB s = false) {t : Tk} {r : List Tk} (hsc : scanP s = .inl (t :: r)) (hk : t.kind = 2) : (t.text.toList == s.toList) = false := by
  cases hq : (t.text.toList == s.toList) with
  | false => rfl
  | true =>
    exfalso
    have hz := toList_size hq
    rw [scanP_small s (by omega)] at hsc
    have hS := sc_of_scan s.size 0 _ (Nat.zero_le _) (by omega) hsc
    cases hS with
    | fin _ _ => cases hk
    | tok hi hsk hj hr hl2 =>
      rename_i j
      unfold readAt at hr
      rw [if_neg (by omega)] at hr
      by_cases c1 : cls (atB s j) = 3 ∨ cls (atB s j) = 4
      · rw [if_pos c1] at hr
        unfold nameP at hr
        by_cases d : 0 < j ∧ cls (atB s (j - 1)) = 2
        · rw [if_pos d] at hr; cases hr
        rw [if_neg d] at hr
        unfold nameAt at hr
        by_cases e : 32 < wordEnd s j - j
        · rw [if_pos e] at hr; cases hr
        rw [if_neg e] at hr
        have hw := wordEnd_more hj (cls34 c1)
        cases hr
        simp only [ByteArray.size_extract] at hz
        have hj0 : j = 0 := by omega
        subst hj0
        have hk : (if inL keysL (s.extract 0 (wordEnd s 0)) = true then (8 : Int) else if cls (atB s 0) = 3 then 1 else 2) = 2 := hk
        have h4 : cls (atB s 0) = 4 := by
          rcases c1 with c | c
          · rw [if_pos c] at hk
            split at hk <;> exact absurd hk (by decide)
          · exact c
        have : conB s = true := decide_eq_true ⟨by omega, by omega, h4, by omega⟩
        rw [h] at this
        cases this
      · rw [if_neg c1] at hr
        by_cases c2 : cls (atB s j) = 2
        · rw [if_pos c2] at hr
          unfold numP at hr
          cases hd : dgsAt s j 0 with
          | none => rw [hd] at hr; cases hr
          | some q => rw [hd] at hr; cases hr; cases hk
        rw [if_neg c2] at hr
        by_cases c3 : cls (atB s j) = 7
        · rw [if_pos c3] at hr
          unfold textAt at hr
          cases hd : quotedAt s j with
          | none => rw [hd] at hr; cases hr
          | some q =>
            rw [hd] at hr
            cases hr
            have hk : (if atB s j = 39 then (4 : Int) else 5) = 2 := hk
            split at hk <;> exact absurd hk (by decide)
        rw [if_neg c3] at hr
        by_cases c5 : cls (atB s j) = 5
        · rw [if_pos c5] at hr
          unfold opAt at hr
          by_cases d : j + 2 ≤ s.size ∧ inL opsL (s.extract j (j + 2)) = true
          · rw [if_pos d] at hr; cases hr; cases hk
          rw [if_neg d] at hr
          by_cases e : inL opsL (s.extract j (j + 1)) = true
          · rw [if_pos e] at hr; cases hr; cases hk
          · rw [if_neg e] at hr; cases hr
        rw [if_neg c5] at hr
        by_cases c6 : cls (atB s j) = 6
        · rw [if_pos c6] at hr; cases hr; cases hk
        · rw [if_neg c6] at hr; cases hr
end Go.Proofs.YtkdhoelabomgkaaGreatDoor
/-
  Layer 3, the program's side: tree.isName (over layer 2's texts).
-/
namespace Go.Proofs.YtkdhoelabomgkaaGreatDoor
set_option linter.unusedVariables false
open Go.ChangeShapes Go.WideShapes Go.ChangeAt Go.RowKit

/-- is it a Name that may stand in a tree? -/
def nameB (s : ByteArray) : Bool := !(s.toList == [95]) && wordB s
set_option maxHeartbeats 2000000 in
theorem pisname_any (s : ByteArray) (hs : s.size ≤ maxLen) (w : World) :
    Calls Tryz.prog 94 #[.string s] w fun e w' => e = .returned (.bool (nameB s)) ∧ w = w' := by
  unfold nameB
  by_cases h : (s.toList == [95]) = true
  · rw [h]
    go_enter Tryz.func94, Tryz.ntmps94
    go_wp2
    go_ret
    exact ⟨rfl, rfl⟩
  · have h' : (s.toList == [95]) = false := by simpa using h
    rw [h']
    go_enter Tryz.func94, Tryz.ntmps94
    go_wp2_with (go_at_call 110; refine (pword_any s hs _).mono ?_; rintro e w' ⟨rfl, rfl⟩)
    go_ret
    exact ⟨rfl, rfl⟩
end Go.Proofs.YtkdhoelabomgkaaGreatDoor
