/-
  Layer 2 in plain words: what tokens are joined to is scanned as them. No walk.
-/
import Derived.Test.YtifmbhcajlnhbaaDoorPlaceMath
import Derived.Test.YtifmbhcajlnhbaaDoorShowP
import Derived.Test.YtifmbhcajlnhbaaDoorEscM
import Derived.Test.YtifmbhcajlnhbaaDoorPut
namespace Go.Proofs.YtifmbhcajlnhbaaDoor
set_option linter.unusedVariables false
open Go.RowKit

/-- from p on the text is these bytes -/
def Beg (u : ByteArray) (p : Nat) (xs : List UInt8) : Prop := p ≤ u.size ∧ u.data.toList.drop p = xs
theorem Beg.size {u : ByteArray} {p : Nat} {xs : List UInt8} (h : Beg u p xs) : u.size = p + xs.length := by
  have e : u.data.toList.length = u.size := Array.length_toList
  have := congrArg List.length h.2
  rw [List.length_drop, e] at this
  have := h.1
  omega
theorem Beg.at {u : ByteArray} {p : Nat} {xs : List UInt8} (h : Beg u p xs) (k : Nat) : atB u (p + k) = ((xs.getD k 0).toNat : Int) := by
  unfold atB
  rw [← h.2, List.getD_eq_getElem?_getD, List.getD_eq_getElem?_getD, List.getElem?_drop]
theorem Beg.rest {u : ByteArray} {p : Nat} {xs ys : List UInt8} (h : Beg u p (xs ++ ys)) : Beg u (p + xs.length) ys := by
  have := h.size
  refine ⟨by rw [List.length_append] at this; omega, ?_⟩
  rw [← List.drop_drop, h.2]
  simp
theorem Beg.head {u : ByteArray} {p : Nat} {x : UInt8} {ys : List UInt8} (h : Beg u p (x :: ys)) : atB u p = (x.toNat : Int) := h.at 0
theorem Beg.tail {u : ByteArray} {p : Nat} {x : UInt8} {ys : List UInt8} (h : Beg u p (x :: ys)) : Beg u (p + 1) ys := Beg.rest (xs := [x]) h

theorem dgs_bound (s : ByteArray) : ∀ f k n r, 0 ≤ n → n ≤ 9223372036854775807 → dgs s f k n = some r → 0 ≤ r.2 ∧ r.2 ≤ 9223372036854775807 := by
  intro f
  induction f with
  | zero => intro k n r h0 h1 h; have := Option.some.inj h; subst this; exact ⟨h0, h1⟩
  | succ f ih =>
    intro k n r h0 h1 h
    rw [dgs_succ] at h
    by_cases a : s.size ≤ k
    · rw [if_pos a] at h; have := Option.some.inj h; subst this; exact ⟨h0, h1⟩
    rw [if_neg a] at h
    by_cases b : cls (atB s k) = 2
    · rw [if_pos b] at h
      have hb := (cls2 _).1 b
      by_cases c : tooGreat n (atB s k - 48) = true
      · rw [if_pos c] at h; cases h
      · rw [if_neg c] at h
        unfold tooGreat at c
        rw [decide_eq_true_iff] at c
        exact ih _ _ _ (by omega) (by omega) h
    · rw [if_neg b] at h; have := Option.some.inj h; subst this; exact ⟨h0, h1⟩
theorem dec_digit (v : Nat) : (∀ x ∈ Lib.decDigits v, 48 ≤ x.toNat ∧ x.toNat ≤ 57) ∧ Lib.decDigits v ≠ [] := by
  induction v using Nat.strongRecOn with
  | _ v ih =>
    rw [Lib.decDigits]
    by_cases h : v < 10
    · rw [dif_pos h]
      refine ⟨fun x hx => ?_, by simp⟩
      simp only [List.mem_singleton] at hx
      subst hx
      simp
      omega
    · rw [dif_neg h]
      refine ⟨fun x hx => ?_, by simp⟩
      rcases List.mem_append.1 hx with hx | hx
      · exact (ih (v / 10) (by omega)).1 x hx
      · simp only [List.mem_singleton] at hx
        subst hx
        simp
        omega
theorem dgs_dec (u : ByteArray) (v : Nat) : v ≤ 9223372036854775807 → ∀ p r, Beg u p (Lib.decDigits v ++ r) → dgsAt u p 0 = dgsAt u (p + (Lib.decDigits v).length) v := by
  induction v using Nat.strongRecOn with
  | _ v ih =>
    intro hv p r h
    rw [Lib.decDigits] at h ⊢
    by_cases hc : v < 10
    · rw [dif_pos hc] at h ⊢
      have hs := h.size
      have ha := Beg.head h
      have e : (UInt8.ofNat (48 + v)).toNat = 48 + v := by simp; omega
      rw [e] at ha
      rw [dgsAt_step u p 0 (by simp at hs; omega), if_pos ((cls2 _).2 (by omega)), if_neg (by unfold tooGreat; rw [decide_eq_true_iff]; omega), ha]
      simp only [List.length_singleton]
      congr 1
      omega
    · rw [dif_neg hc] at h ⊢
      rw [List.append_assoc] at h
      have h1 := ih (v / 10) (by omega) (by omega) p _ h
      have h2 := h.rest
      have hs := h2.size
      have ha := Beg.head h2
      have e : (UInt8.ofNat (48 + v % 10)).toNat = 48 + v % 10 := by simp; omega
      rw [e] at ha
      rw [h1, dgsAt_step u _ _ (by simp at hs; omega), if_pos ((cls2 _).2 (by omega)), if_neg (by unfold tooGreat; rw [decide_eq_true_iff]; omega), ha]
      simp only [List.length_append, List.length_singleton]
      rw [Nat.add_assoc]
      congr 1
      omega

theorem qut_bound (s : ByteArray) (q : Int) : ∀ f k l r, l ≤ 256 → k ≤ s.size → qut s q f k l = some r → l + r.1.length ≤ 256 ∧ Bytes r.1 := by
  intro f
  induction f with
  | zero => intro k l r _ _ h; cases h
  | succ f ih =>
    intro k l r hl hk h
    rw [qut_succ] at h
    by_cases a : s.size ≤ k
    · rw [if_pos a] at h; cases h
    rw [if_neg a] at h
    by_cases b : atB s k = q
    · rw [if_pos b] at h; have := Option.some.inj h; subst this; exact ⟨by simpa using hl, fun n hn => by cases hn⟩
    rw [if_neg b] at h
    cases hu : un s k with
    | none => rw [hu] at h; cases h
    | some p =>
      obtain ⟨c, n⟩ := p
      obtain ⟨m, rfl, hm, hm2, hc0, hc1⟩ := un_next2 hu (by omega)
      rw [hu] at h
      simp only [Option.bind_some, Int.toNat_natCast] at h
      by_cases d : 256 ≤ l
      · rw [if_pos d] at h; cases h
      rw [if_neg d] at h
      obtain ⟨r', hr', rfl⟩ := Option.map_eq_some_iff.1 h
      obtain ⟨i1, i2⟩ := ih m (l + 1) r' (by omega) hm2 hr'
      refine ⟨by show l + (c :: r'.1).length ≤ 256; simp; omega, fun n hn => ?_⟩
      rcases List.mem_cons.1 hn with e | e
      · subst e; exact ⟨hc0, hc1⟩
      · exact i2 n e
/-- bytes of numbers -/
def bl (l : List Int) : List UInt8 := (strOfNums l).data.toList
theorem bl_len (l : List Int) : (bl l).length = l.length := by unfold bl; rw [strOfNums_data]; simp
theorem bl_app (a b : List Int) : bl (a ++ b) = bl a ++ bl b := by unfold bl; rw [strOfNums_data, strOfNums_data, strOfNums_data]; simp
theorem bl_at (l : List Int) (h : Bytes l) (j : Nat) : (((bl l).getD j 0).toNat : Int) = l.getD j 0 := atB_nums l h j
theorem bl_nums (l : List Int) (h : Bytes l) : (bl l).map (fun b => (b.toNat : Int)) = l := by
  unfold bl
  rw [strOfNums_data, List.map_map]
  conv => rhs; rw [← List.map_id l]
  refine List.map_congr_left fun n hn => ?_
  have := h n hn
  simp
  omega
theorem esc_pos (c q : Int) : 0 < (esc c q).length := by
  unfold esc
  by_cases q1 : c = 10
  · rw [if_pos q1]; simp
  by_cases q2 : c = 9
  · rw [if_neg q1, if_pos q2]; simp
  by_cases q3 : c = 92 ∨ c = quo q
  · rw [if_neg q1, if_neg q2, if_pos q3]; simp
  by_cases q4 : c < 32 ∨ 126 < c
  · rw [if_neg q1, if_neg q2, if_neg q3, if_pos q4]; simp
  · rw [if_neg q1, if_neg q2, if_neg q3, if_neg q4]; simp
def escQ (q : Int) (xs : List UInt8) : List Int := xs.flatMap fun b => esc b.toNat q
theorem qut_esc (u : ByteArray) (q : Int) (hq : q = 39 ∨ q = 34) (r : List UInt8) : ∀ (xs : List UInt8) (p l : Nat), l + xs.length ≤ 256 → Beg u p (bl (escQ q xs) ++ (UInt8.ofNat q.toNat :: r)) → qutAt u q p l = some (xs.map (fun b => (b.toNat : Int)), p + (escQ q xs).length) := by
  have hqq : quo q = q := by rcases hq with rfl | rfl <;> rfl
  intro xs
  induction xs with
  | nil =>
    intro p l hl h
    have h' : Beg u p (UInt8.ofNat q.toNat :: r) := h
    have hs := h'.size
    have ha := Beg.head h'
    have e : ((UInt8.ofNat q.toNat).toNat : Int) = q := by rcases hq with rfl | rfl <;> rfl
    rw [e] at ha
    rw [qutAt_step u q p l (by simp at hs; omega), if_pos ha]
    simp [escQ]
  | cons b xs ih =>
    intro p l hl h
    have hb := b.toNat_lt
    have he : Bytes (esc b.toNat q) := esc_bytes b.toNat q (by omega) (by omega)
    have hsp : escQ q (b :: xs) = esc b.toNat q ++ escQ q xs := by simp [escQ]
    rw [hsp, bl_app, List.append_assoc] at h
    have hs := h.size
    have hpos := esc_pos b.toNat q
    have hat : ∀ j, j < (esc b.toNat q).length → atB u (p + j) = (esc b.toNat q).getD j 0 := fun j hj => by
      rw [h.at j, ← bl_at _ he j, List.getD_eq_getElem?_getD, List.getD_eq_getElem?_getD, List.getElem?_append_left (by rw [bl_len]; exact hj)]
    simp only [List.length_append, List.length_cons, bl_len] at hs
    obtain ⟨hu, hne⟩ := un_esc u p b.toNat q (by omega) (by omega) hat (by omega)
    rw [hqq] at hne
    have h2 := h.rest
    rw [bl_len] at h2
    rw [List.length_cons] at hl
    rw [qutAt_step u q p l (by omega), if_neg hne, hu]
    simp only [Option.bind_some, Int.toNat_natCast]
    rw [if_neg (by omega), ih _ (l + 1) (by omega) h2, hsp]
    simp only [Option.map_some, List.map_cons, List.length_append]
    rw [Nat.add_assoc]

/-- the three ways a token is told -/
theorem readAt_three {s : ByteArray} {j : Nat} {t : Tk} (hr : readAt s j = .inl t) (hj : j < s.size) :
    (t.kind ≠ 3 ∧ t.kind ≠ 4 ∧ t.kind ≠ 5 ∧ t.kind ≠ 9 ∧ t.text = s.extract j t.fin) ∨ (t.kind = 3 ∧ dgsAt s j 0 = some (t.fin, t.n)) ∨
    (∃ r, quotedAt s j = some r ∧ t.text = strOfNums r.1 ∧ ((atB s j = 39 ∧ t.kind = 4 ∧ t.n = r.1.headD 0) ∨ (atB s j = 34 ∧ t.kind = 5 ∧ t.n = 0))) := by
  unfold readAt at hr
  rw [if_neg (by omega)] at hr
  by_cases c1 : cls (atB s j) = 3 ∨ cls (atB s j) = 4
  · rw [if_pos c1] at hr
    unfold nameP at hr
    by_cases d : 0 < j ∧ cls (atB s (j - 1)) = 2
    · rw [if_pos d] at hr; cases hr
    rw [if_neg d] at hr
    unfold nameAt at hr
    by_cases e : 32 < wordEnd s j - j
    · rw [if_pos e] at hr; cases hr
    rw [if_neg e] at hr
    cases hr
    refine .inl ⟨?_, ?_, ?_, ?_, rfl⟩
    all_goals (show (if _ then (8 : Int) else if _ then 1 else 2) ≠ _; split; decide; split <;> decide)
  rw [if_neg c1] at hr
  by_cases c2 : cls (atB s j) = 2
  · rw [if_pos c2] at hr
    unfold numP at hr
    cases hd : dgsAt s j 0 with
    | none => rw [hd] at hr; cases hr
    | some r =>
      rw [hd] at hr
      cases hr
      exact .inr (.inl ⟨rfl, rfl⟩)
  rw [if_neg c2] at hr
  by_cases c3 : cls (atB s j) = 7
  · rw [if_pos c3] at hr
    unfold textAt at hr
    cases hd : quotedAt s j with
    | none => rw [hd] at hr; cases hr
    | some r =>
      rw [hd] at hr
      cases hr
      refine .inr (.inr ⟨r, rfl, rfl, ?_⟩)
      rcases (cls7 _).1 c3 with q | q
      · exact .inl ⟨q, by show (if _ then (4 : Int) else 5) = 4; rw [if_pos q], by show (if _ then _ else (0 : Int)) = _; rw [if_pos q]⟩
      · have q' : ¬ atB s j = 39 := by omega
        exact .inr ⟨q, by show (if _ then (4 : Int) else 5) = 5; rw [if_neg q'], by show (if _ then _ else (0 : Int)) = _; rw [if_neg q']⟩
  rw [if_neg c3] at hr
  by_cases c5 : cls (atB s j) = 5
  · rw [if_pos c5] at hr
    unfold opAt at hr
    by_cases d : j + 2 ≤ s.size ∧ inL opsL (s.extract j (j + 2)) = true
    · rw [if_pos d] at hr; cases hr; exact .inl ⟨(show (6 : Int) ≠ 3 by decide), (show (6 : Int) ≠ 4 by decide), (show (6 : Int) ≠ 5 by decide), (show (6 : Int) ≠ 9 by decide), rfl⟩
    rw [if_neg d] at hr
    by_cases e : inL opsL (s.extract j (j + 1)) = true
    · rw [if_pos e] at hr; cases hr; exact .inl ⟨(show (6 : Int) ≠ 3 by decide), (show (6 : Int) ≠ 4 by decide), (show (6 : Int) ≠ 5 by decide), (show (6 : Int) ≠ 9 by decide), rfl⟩
    · rw [if_neg e] at hr; cases hr
  rw [if_neg c5] at hr
  by_cases c6 : cls (atB s j) = 6
  · rw [if_pos c6] at hr; cases hr; exact .inl ⟨(show (7 : Int) ≠ 3 by decide), (show (7 : Int) ≠ 4 by decide), (show (7 : Int) ≠ 5 by decide), (show (7 : Int) ≠ 9 by decide), rfl⟩
  · rw [if_neg c6] at hr; cases hr
theorem quoted_bound {s : ByteArray} {j : Nat} {r : List Int × Nat} (h : quotedAt s j = some r) (hj : j < s.size) : r.1.length ≤ 256 ∧ Bytes r.1 ∧ (atB s j = 39 → r.1.length = 1) := by
  unfold quotedAt at h
  obtain ⟨x, hx, hr⟩ := Option.bind_eq_some_iff.1 h
  have hqb := qut_bound s _ _ _ 0 _ (by omega) (by omega) hx
  by_cases c : atB s j = 39 ∧ x.1.length ≠ 1
  · rw [if_pos c] at hr; cases hr
  rw [if_neg c] at hr
  have := Option.some.inj hr
  subst this
  exact ⟨by have := hqb.1; show x.1.length ≤ 256; omega, hqb.2, fun h39 => by
    rcases Nat.decEq x.1.length 1 with q | q
    · exact absurd ⟨h39, q⟩ c
    · exact q⟩
theorem stops_of {u : ByteArray} {p : Nat} (h1 : cls (atB u p) ≠ 1) (h2 : atB u p ≠ 45) (h3 : atB u p ≠ 123) : Stops u p := by
  refine ⟨h1, ?_, ?_⟩
  · unfold twoAt; rw [decide_eq_false_iff_not]; rintro ⟨_, h, _⟩; exact h2 h
  · unfold twoAt; rw [decide_eq_false_iff_not]; rintro ⟨_, h, _⟩; exact h3 h

/-- as it was, its place apart -/
def Mt (t t' : Tk) : Prop := t'.kind = t.kind ∧ (t.kind ≠ 3 → t'.text = t.text) ∧ t'.n = t.n
theorem ext_len (s : ByteArray) (i n : Nat) (h : i + n ≤ s.size) : (s.extract i (i + n)).data.toList.length = n := by
  rw [Lib.extract_data]
  have e : s.data.toList.length = s.size := Array.length_toList
  simp [e]
  omega
/-- **what is shown is read as it was** -/
theorem reread {s : ByteArray} {j : Nat} {t : Tk} (hr : readAt s j = .inl t) (hj : j < s.size) (hst : Stops s j) {u : ByteArray} {p : Nat} {r : List UInt8} (h : Beg u p (t.tw.shw ++ (32 :: r))) (hp : p = 0 ∨ atB u (p - 1) = 32) :
    ∃ t', readAt u p = .inl t' ∧ t'.fin = p + t.tw.shw.length ∧ Mt t t' ∧ Stops u p ∧ p < u.size := by
  obtain ⟨r1, r2, r3, r4⟩ := readAt_lt hj hr
  have hrest := h.rest
  have hsz := h.size
  have hbl := Beg.head hrest
  simp only [List.length_append, List.length_cons] at hsz
  rcases readAt_three hr hj with ⟨k3, k4, k5, k9, htx⟩ | ⟨k3, hd⟩ | ⟨q, hq, htx, hk⟩
  · obtain ⟨n, hn⟩ : ∃ n, t.fin = j + n := ⟨t.fin - j, by omega⟩
    have hshw : t.tw.shw = (s.extract j (j + n)).data.toList := by
      unfold Tw.shw showS Tk.tw
      simp only
      rw [if_neg k4, if_neg k5, if_neg k3, if_neg k9, htx, hn]
    have hlen : t.tw.shw.length = n := by rw [hshw]; exact ext_len s j n (by omega)
    have hA : Agr s u j p n := ⟨by omega, by omega, fun k hk => by
      rw [h.at k, List.getD_eq_getElem?_getD, List.getElem?_append_left (by omega), hshw, ← List.getD_eq_getElem?_getD]
      show atB (s.extract j (j + n)) k = atB s (j + k)
      unfold atB
      rw [Lib.extract_data, List.getD_eq_getElem?_getD, List.getD_eq_getElem?_getD, List.getElem?_take_of_lt (by omega), List.getElem?_drop]⟩
    rw [hlen] at hbl hsz
    have hN : Next s u (j + n) (p + n) := .inr (.inl ⟨by omega, by rw [hbl]; decide⟩)
    have hread := readAt_agr hr hj hn hA hN (fun _ => by
      rcases hp with q | q
      · exact .inl q
      · exact .inr (by rw [q]; decide))
    refine ⟨_, hread, by rw [hlen], ⟨rfl, fun _ => rfl, rfl⟩, ?_, by omega⟩
    obtain ⟨a, b, c⟩ := hst
    have h0 := hA.same 0 (by omega)
    simp only [Nat.add_zero] at h0
    have two : ∀ x, twoAt s j x 45 = false → twoAt u p x 45 = false := fun x hx => by
      rcases Nat.lt_or_ge n 2 with hlt | hge
      · unfold twoAt
        rw [decide_eq_false_iff_not]
        rintro ⟨_, _, e⟩
        rw [show p + 1 = p + n from by omega, hbl] at e
        exact absurd e (by decide)
      · have := hA.two 0 hge x 45
        simp only [Nat.add_zero] at this
        rw [this]; exact hx
    exact ⟨by rw [h0]; exact a, two _ b, two _ c⟩
  · have hb := dgs_bound s _ j 0 _ (by omega) (by omega) hd
    obtain ⟨v, hv⟩ := Int.eq_ofNat_of_zero_le hb.1
    simp only at hv hb
    have hshw : t.tw.shw = Lib.decDigits v := by
      unfold Tw.shw showS Tk.tw
      simp only
      rw [if_neg (by omega), if_neg (by omega), if_pos k3, hv, show max (v : Int) 0 = v from by omega, Lib.itoa_nonneg]
    rw [hshw] at h hrest hbl hsz
    obtain ⟨hdig, hne⟩ := dec_digit v
    have hpos : 0 < (Lib.decDigits v).length := List.length_pos_iff.2 hne
    have hfirst : 48 ≤ atB u p ∧ atB u p ≤ 57 := by
      have := h.at 0
      simp only [Nat.add_zero] at this
      rw [this, List.getD_eq_getElem?_getD, List.getElem?_append_left hpos, List.getElem?_eq_getElem hpos]
      have := hdig _ (List.getElem_mem hpos)
      simp only [Option.getD_some]
      omega
    have hdd := dgs_dec u v (by omega) p _ h
    rw [dgsAt_step u (p + (Lib.decDigits v).length) _ (by omega), if_neg (by rw [hbl]; decide)] at hdd
    have hc2 : cls (atB u p) = 2 := (cls2 _).2 hfirst
    refine ⟨⟨3, p, p + (Lib.decDigits v).length, u.extract p (p + (Lib.decDigits v).length), v⟩, ?_, by rw [hshw], ⟨k3.symm, fun hk => absurd k3 hk, hv.symm⟩, stops_of (by rw [hc2]; decide) (by omega) (by omega), by omega⟩
    unfold readAt
    rw [if_neg (by omega), if_neg (by rw [hc2]; decide), if_pos hc2]
    unfold numP
    rw [hdd]
    rfl
  · obtain ⟨hb1, hb2, hb3⟩ := quoted_bound hq hj
    have hback := bl_nums q.1 hb2
    have hxs : t.text.data.toList = bl q.1 := by rw [htx]; rfl
    rcases hk with ⟨h39, k4, hn⟩ | ⟨h34, k5, hn⟩
    · have hl1 := hb3 h39
      obtain ⟨b, hbb⟩ : ∃ b, bl q.1 = [b] := by
        have hl := bl_len q.1
        rw [hl1] at hl
        match hm : bl q.1, hl with
        | [b], _ => exact ⟨b, rfl⟩
      rw [hbb] at hxs hback
      have hat : atB t.text 0 = (b.toNat : Int) := by unfold atB; rw [hxs]; rfl
      have hsz1 : t.text.size = 1 := by rw [show t.text.size = t.text.data.toList.length from Array.length_toList.symm, hxs]; rfl
      have hshw : t.tw.shw = bl (39 :: (escQ 39 [b] ++ [39])) := by
        unfold Tw.shw showS Tk.tw letS
        simp only
        rw [if_pos k4, if_pos hsz1, hat]
        simp [escQ, bl]
      rw [hshw] at h hrest hbl hsz
      have hform : bl (39 :: (escQ 39 [b] ++ [39])) = 39 :: (bl (escQ 39 [b]) ++ [39]) := by
        rw [show (39 : Int) :: (escQ 39 [b] ++ [39]) = [39] ++ (escQ 39 [b] ++ [39]) from rfl, bl_app, bl_app]
        rfl
      rw [hform] at h hsz hrest hbl
      have ha : atB u p = 39 := Beg.head h
      have h1 : Beg u (p + 1) (bl (escQ 39 [b]) ++ (39 :: (32 :: r))) := by
        have := Beg.tail (x := 39) (ys := bl (escQ 39 [b]) ++ (39 :: (32 :: r))) (by simpa using h)
        exact this
      have hqu := qut_esc u 39 (.inl rfl) (32 :: r) [b] (p + 1) 0 (by simp) h1
      have hc7 : cls (atB u p) = 7 := by rw [ha]; decide
      have hqa : quotedAt u p = some ([(b.toNat : Int)], p + 1 + (escQ 39 [b]).length + 1) := by
        unfold quotedAt
        rw [ha, hqu]
        rfl
      have hln : t.tw.shw.length = (escQ 39 [b]).length + 2 := by rw [hshw, bl_len]; simp
      refine ⟨⟨4, p, p + 1 + (escQ 39 [b]).length + 1, strOfNums [(b.toNat : Int)], b.toNat⟩, ?_, by rw [hln]; show p + 1 + (escQ 39 [b]).length + 1 = _; omega, ⟨k4.symm, fun _ => ?_, ?_⟩, stops_of (by rw [ha]; decide) (by omega) (by omega), by omega⟩
      · unfold readAt
        rw [if_neg (by omega), if_neg (by rw [hc7]; decide), if_neg (by rw [hc7]; decide), if_pos hc7]
        unfold textAt
        rw [hqa]
        simp only [Option.elim_some]
        rw [if_pos ha, if_pos ha]
        rfl
      · show strOfNums [(b.toNat : Int)] = t.text
        rw [htx, ← hback]
        rfl
      · show (b.toNat : Int) = t.n
        rw [hn, ← hback]
        rfl
    · have hshw : t.tw.shw = bl (34 :: (escQ 34 (bl q.1) ++ [34])) := by
        unfold Tw.shw showS Tk.tw
        simp only
        rw [if_neg (by omega), if_pos k5, hxs]
        rfl
      rw [hshw] at h hrest hbl hsz
      have hform : bl (34 :: (escQ 34 (bl q.1) ++ [34])) = 34 :: (bl (escQ 34 (bl q.1)) ++ [34]) := by
        rw [show (34 : Int) :: (escQ 34 (bl q.1) ++ [34]) = [34] ++ (escQ 34 (bl q.1) ++ [34]) from rfl, bl_app, bl_app]
        rfl
      rw [hform] at h hsz hrest hbl
      have ha : atB u p = 34 := Beg.head h
      have h1 : Beg u (p + 1) (bl (escQ 34 (bl q.1)) ++ (34 :: (32 :: r))) := by
        have := Beg.tail (x := 34) (ys := bl (escQ 34 (bl q.1)) ++ (34 :: (32 :: r))) (by simpa using h)
        exact this
      have hqu := qut_esc u 34 (.inr rfl) (32 :: r) (bl q.1) (p + 1) 0 (by rw [bl_len]; omega) h1
      rw [hback] at hqu
      have hc7 : cls (atB u p) = 7 := by rw [ha]; decide
      have hqa : quotedAt u p = some (q.1, p + 1 + (escQ 34 (bl q.1)).length + 1) := by
        unfold quotedAt
        rw [ha, hqu]
        rfl
      have hln : t.tw.shw.length = (escQ 34 (bl q.1)).length + 2 := by rw [hshw, bl_len]; simp
      refine ⟨⟨5, p, p + 1 + (escQ 34 (bl q.1)).length + 1, strOfNums q.1, 0⟩, ?_, by rw [hln]; show p + 1 + (escQ 34 (bl q.1)).length + 1 = _; omega, ⟨k5.symm, fun _ => htx.symm, hn.symm⟩, stops_of (by rw [ha]; decide) (by omega) (by omega), by omega⟩
      unfold readAt
      rw [if_neg (by omega), if_neg (by rw [hc7]; decide), if_neg (by rw [hc7]; decide), if_pos hc7]
      unfold textAt
      rw [hqa]
      simp only [Option.elim_some]
      rw [if_neg (by omega), if_neg (by omega)]

/-- tokens, a blank ahead of each -/
def blanks (l : List Tk) : List UInt8 := l.flatMap fun t => 32 :: t.tw.shw
def words (l : List Tk) : List UInt8 := match l with
  | [] => []
  | t :: r => t.tw.shw ++ blanks r
theorem words_join (l : List Tk) : joinB (l.map fun t => t.tw.shw) = words l := by
  cases l with
  | nil => rfl
  | cons t r => simp [joinB, words, blanks, List.flatMap_map]
/-- **tokens that are joined are scanned as they were** -/
theorem back_sc {s : ByteArray} {i : Nat} {l : List Tk} (h : Sc s i l) : ∀ (u : ByteArray) (p : Nat) (pre : List UInt8), ((pre = [] ∧ p = 0) ∨ pre = [32]) → Beg u p (pre ++ words l) →
    ∃ m, Sc u p m ∧ m.length = l.length ∧ ∀ (k : Nat) (t t' : Tk), l[k]? = some t → m[k]? = some t' → Mt t t' := by
  induction h with
  | @fin i hi hs =>
    intro u p pre hpre hB
    have hw : words [endT s] = [] := by simp [words, blanks, endT, Tw.shw, showS, Tk.tw]
    rw [hw, List.append_nil] at hB
    have hsz := hB.size
    refine ⟨[endT u], .fin (by omega) ?_, rfl, fun k t t' ht ht' => ?_⟩
    · rcases hpre with ⟨rfl, rfl⟩ | rfl
      · have hsz0 : u.size = 0 := hsz
        rw [skip_end u 0 (by rw [hsz0]; exact Nat.le_refl _), hsz0]
      · have ha : atB u p = 32 := Beg.head hB
        simp only [List.length_singleton] at hsz
        rw [skip_step u p (by omega), ha, if_pos (by decide), skip_end u _ (by omega), hsz]
    · match k, ht, ht' with
      | 0, ht, ht' => simp at ht ht'; subst ht; subst ht'; exact ⟨rfl, fun _ => rfl, rfl⟩
      | (k + 1), ht, ht' => simp at ht
  | @tok i j t0 l hi hs hj hr hl ih =>
    intro u p pre hpre hB
    have hne := (sc_begin hl).2
    obtain ⟨t1, l1, rfl⟩ : ∃ t1 l1, l = t1 :: l1 := by
      cases l with
      | nil => exact absurd rfl hne
      | cons a b => exact ⟨a, b, rfl⟩
    have hw : words (t0 :: t1 :: l1) = t0.tw.shw ++ (32 :: words (t1 :: l1)) := by simp [words, blanks]
    rw [hw] at hB
    have hB1 := hB.rest
    have hq0 : p + pre.length = 0 ∨ atB u (p + pre.length - 1) = 32 := by
      rcases hpre with ⟨rfl, rfl⟩ | rfl
      · exact .inl rfl
      · exact .inr (by have ha : atB u p = 32 := Beg.head hB
                       simpa using ha)
    obtain ⟨t', hr', hfin, hm, hst, hlt⟩ := reread hr hj (skip_stop hs hj) hB1 hq0
    have hB2 := hB1.rest
    rw [← hfin] at hB2
    obtain ⟨m, hm1, hm2, hm3⟩ := ih u t'.fin [32] (.inr rfl) hB2
    have hskip : skip u p = .inl (p + pre.length) := by
      rcases hpre with ⟨rfl, rfl⟩ | rfl
      · exact skip_here hst hlt
      · have ha : atB u p = 32 := Beg.head hB
        have := hB.size
        simp only [List.length_append, List.length_singleton] at this
        rw [skip_step u p (by omega), ha, if_pos (by decide)]
        exact skip_here hst hlt
    refine ⟨t' :: m, .tok hB.1 hskip hlt hr' hm1, by simp [hm2], fun k t t'' ht ht' => ?_⟩
    match k, ht, ht' with
    | 0, ht, ht' => simp at ht ht'; subst ht; subst ht'; exact hm
    | (k + 1), ht, ht' => exact hm3 k t t'' (by simpa using ht) (by simpa using ht')

theorem coll_sc {s : ByteArray} {i : Nat} {l : List Tk} (h : Sc s i l) : ∀ j, j + l.length ≤ 16384 → coll j (items s i) = .inl l := by
  induction h with
  | @fin i hi hs =>
    intro j hj
    rw [items_step hi, hs]
    simp only [Sum.elim_inl]
    rw [readAt_end s _ (Nat.le_refl _)]
    simp only [Sum.elim_inl]
    rw [if_pos (show (endT s).kind = 9 from rfl)]
    unfold coll
    rw [if_neg (by unfold verd; rw [if_neg (fun h => h.2.2 rfl)]; simp)]
    rfl
  | @tok i j' t0 l hi hs hlt hr hl ih =>
    intro j hj
    obtain ⟨_, _, _, h9⟩ := readAt_lt hlt hr
    rw [items_step hi, hs]
    simp only [Sum.elim_inl]
    rw [hr]
    simp only [Sum.elim_inl]
    rw [if_neg h9]
    rw [List.length_cons] at hj
    have hv : verd j (t0, 0) = 0 := by
      unfold verd
      split
      · next h => omega
      · rfl
    unfold coll
    rw [if_neg (by rw [hv]; simp), ih (j + 1) (by omega)]
    rfl
/-- the scan of what is joined -/
theorem scan_words {s u : ByteArray} {l : List Tk} (h : Sc s 0 l) (hu : u.data.toList = words l) (hsz : u.size ≤ 65536) (hl : l.length ≤ 16384) :
    ∃ m, scanP u = .inl m ∧ m.length = l.length ∧ ∀ (k : Nat) (t t' : Tk), l[k]? = some t → m[k]? = some t' → Mt t t' := by
  obtain ⟨m, h1, h2, h3⟩ := back_sc h u 0 [] (.inl ⟨rfl, rfl⟩) ⟨Nat.zero_le _, by simpa using hu⟩
  refine ⟨m, ?_, h2, h3⟩
  unfold scanP
  rw [if_neg (by omega)]
  exact coll_sc h1 0 (by omega)

/-- a fault's place is in the text -/
theorem readAt_place {s : ByteArray} {j : Nat} {p : Nat × Int} (h : readAt s j = .inr p) : p.1 = j := by
  unfold readAt nameP numP nameAt textAt opAt at h
  cases hd : dgsAt s j 0 <;> cases hq : quotedAt s j <;> rw [hd, hq] at h <;> simp only [Option.elim_none, Option.elim_some] at h
  all_goals
    repeat' (split at h)
    all_goals first | (cases h; done) | (cases h; rfl)
theorem toks_place (s : ByteArray) : ∀ f i p, i ≤ s.size → toks s f i = .inr p → p.1 ≤ s.size := by
  intro f
  induction f with
  | zero => intro i p _ h; cases h
  | succ f ih =>
    intro i p hi h
    rw [toks_succ] at h
    cases hs : skip s i with
    | inr m =>
      rw [hs] at h
      cases h
      exact (skip_bad hs hi).2
    | inl j =>
      have hj := skip_le hs hi
      rw [hs] at h
      simp only [Sum.elim_inl] at h
      cases hr : readAt s j with
      | inr x =>
        rw [hr] at h
        cases h
        rw [readAt_place hr]
        exact hj.2
      | inl t =>
        rw [hr] at h
        simp only [Sum.elim_inl] at h
        by_cases h9 : t.kind = 9
        · rw [if_pos h9] at h; cases h
        rw [if_neg h9] at h
        rcases Nat.lt_or_ge j s.size with hlt | hge
        · obtain ⟨_, _, h3, _⟩ := readAt_lt hlt hr
          cases hq : toks s f t.fin with
          | inl l => rw [hq] at h; cases h
          | inr x =>
            rw [hq] at h
            cases h
            exact ih _ _ h3 hq
        · rw [readAt_end s j hge] at hr
          cases hr
          exact absurd rfl h9
theorem scan_place {s : ByteArray} {p : Nat × Int} (hs : s.size ≤ 10000) (h : scanP s = .inr p) : p.1 ≤ s.size := by
  rw [scanP_small s hs] at h
  exact toks_place s _ _ p (Nat.zero_le _) h
end Go.Proofs.YtifmbhcajlnhbaaDoor
