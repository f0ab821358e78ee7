/- Texts of this proof, joined: Tok0, PWords, Toks. No condition. -/
import Derived.Test.YtkdhoelabomgkaaGreatDoorMa06
/-
  Layer 2 in plain words: numbers, quotes, one token. No walk.
-/
namespace Go.Proofs.YtkdhoelabomgkaaGreatDoor
set_option linter.unusedVariables false
open Go.RowKit

/-- is a number so great that it can't take the digit d more? -/
def tooGreat (n d : Int) : Bool := decide ((9223372036854775807 - d) / 10 < n)

/-- a Number's digits from k on, n told ahead: where they end, and the number -/
def dgs (s : ByteArray) : Nat → Nat → Int → Option (Nat × Int)
  | 0, k, n => some (k, n)
  | f + 1, k, n => if s.size ≤ k then some (k, n) else if cls (atB s k) = 2 then (if tooGreat n (atB s k - 48) = true then none else dgs s f (k + 1) (10 * n + (atB s k - 48))) else some (k, n)
theorem dgs_succ (s : ByteArray) (f k : Nat) (n : Int) : dgs s (f + 1) k n = if s.size ≤ k then some (k, n) else if cls (atB s k) = 2 then (if tooGreat n (atB s k - 48) = true then none else dgs s f (k + 1) (10 * n + (atB s k - 48))) else some (k, n) := rfl
def dgsAt (s : ByteArray) (k : Nat) (n : Int) : Option (Nat × Int) := dgs s (s.size - k) k n
theorem dgsAt_end (s : ByteArray) (k : Nat) (n : Int) (h : s.size ≤ k) : dgsAt s k n = some (k, n) := by
  unfold dgsAt
  rw [show s.size - k = 0 from by omega]; rfl
theorem dgsAt_step (s : ByteArray) (k : Nat) (n : Int) (h : k < s.size) : dgsAt s k n = if cls (atB s k) = 2 then (if tooGreat n (atB s k - 48) = true then none else dgsAt s (k + 1) (10 * n + (atB s k - 48))) else some (k, n) := by
  unfold dgsAt
  rw [show s.size - k = (s.size - (k + 1)) + 1 from by omega, dgs_succ, if_neg (by omega)]

/-- a token: its kind, its place, the place behind it, its text, its number -/
structure Tk where
  kind : Int
  at_ : Nat
  fin : Nat
  text : ByteArray
  n : Int
/-- the token, or where and what is wrong -/
def numAt (s : ByteArray) (i : Nat) : Tk ⊕ (Nat × Int) := (dgsAt s i 0).elim (.inr (i, 21)) fun r =>
  if r.1 < s.size ∧ letB (atB s r.1) = true ∧ atB s r.1 ≠ 39 then .inr (r.1, 20) else .inl ⟨3, i, r.1, s.extract i r.1, r.2⟩
theorem cls2 (c : Int) : cls c = 2 ↔ 48 ≤ c ∧ c ≤ 57 := by
  constructor
  · intro h
    unfold cls at h
    by_cases a1 : c = 32 ∨ c = 9 ∨ c = 10 ∨ c = 13
    · rw [if_pos a1] at h; omega
    by_cases a2 : 48 ≤ c ∧ c ≤ 57
    · exact a2
    rw [if_neg a1, if_neg a2] at h
    repeat' (split at h)
    all_goals omega
  · intro h; unfold cls; rw [if_neg (by omega), if_pos h]
theorem un_next2 {t : ByteArray} {k : Nat} {c n : Int} (h : un t k = some (c, n)) (hk : k < t.size) : ∃ m : Nat, n = m ∧ k < m ∧ m ≤ t.size ∧ 0 ≤ c ∧ c ≤ 255 := un_next h hk

/-- from k on up to a bare quote q: the bytes, and the quote's place; l of them have been told -/
def qut (s : ByteArray) (q : Int) : Nat → Nat → Nat → Option (List Int × Nat)
  | 0, _, _ => none
  | f + 1, k, l => if s.size ≤ k then none else if atB s k = q then some ([], k) else (un s k).bind fun p => if 256 ≤ l then none else (qut s q f p.2.toNat (l + 1)).map fun r => (p.1 :: r.1, r.2)
theorem qut_succ (s : ByteArray) (q : Int) (f k l : Nat) : qut s q (f + 1) k l = if s.size ≤ k then none else if atB s k = q then some ([], k) else (un s k).bind fun p => if 256 ≤ l then none else (qut s q f p.2.toNat (l + 1)).map fun r => (p.1 :: r.1, r.2) := rfl
theorem qut_end (s : ByteArray) (q : Int) (f k l : Nat) (h : s.size ≤ k) : qut s q f k l = none := by
  cases f with
  | zero => rfl
  | succ f => rw [qut_succ, if_pos h]
theorem qut_fuel (s : ByteArray) (q : Int) : ∀ f g k l, s.size - k ≤ f → s.size - k ≤ g → qut s q f k l = qut s q g k l := by
  intro f
  induction f with
  | zero => intro g k l h _; rw [qut_end s q 0 k l (by omega), qut_end s q g k l (by omega)]
  | succ f ih =>
    intro g k l h h'
    by_cases hk : s.size ≤ k
    · rw [qut_end _ _ _ _ _ hk, qut_end _ _ _ _ _ hk]
    · obtain ⟨g, rfl⟩ : ∃ g', g = g' + 1 := ⟨g - 1, by omega⟩
      rw [qut_succ, qut_succ]
      cases hu : un s k with
      | none => rfl
      | some p =>
        obtain ⟨c, n⟩ := p
        obtain ⟨m, rfl, hm, _⟩ := un_next hu (by omega)
        simp only [Option.bind_some, Int.toNat_natCast]
        rw [ih g m (l + 1) (by omega) (by omega)]
/-- what is quoted at k, l told ahead -/
def qutAt (s : ByteArray) (q : Int) (k l : Nat) : Option (List Int × Nat) := qut s q (s.size - k) k l
theorem qutAt_end (s : ByteArray) (q : Int) (k l : Nat) (h : s.size ≤ k) : qutAt s q k l = none := qut_end s q _ k l h
theorem qutAt_step (s : ByteArray) (q : Int) (k l : Nat) (h : k < s.size) : qutAt s q k l = if atB s k = q then some ([], k) else (un s k).bind fun p => if 256 ≤ l then none else (qutAt s q p.2.toNat (l + 1)).map fun r => (p.1 :: r.1, r.2) := by
  unfold qutAt
  obtain ⟨f, hf⟩ : ∃ f, s.size - k = f + 1 := ⟨s.size - k - 1, by omega⟩
  rw [hf, qut_succ, if_neg (by omega)]
  cases hu : un s k with
  | none => rfl
  | some p =>
    obtain ⟨c, n⟩ := p
    obtain ⟨m, rfl, hm, _⟩ := un_next hu (by omega)
    simp only [Option.bind_some, Int.toNat_natCast]
    rw [qut_fuel s q f (s.size - m) m (l + 1) (by omega) (by omega)]
/-- the Letter or Text at i: its bytes, and the place behind it -/
def quotedAt (s : ByteArray) (i : Nat) : Option (List Int × Nat) := (qutAt s (atB s i) (i + 1) 0).bind fun r => if atB s i = 39 ∧ r.1.length ≠ 1 then none else some (r.1, r.2 + 1)
/-- where the letters from i on end -/
def runEnd (s : ByteArray) : Nat → Nat → Nat
  | 0, i => i
  | f + 1, i => if s.size ≤ i then i else if letB (atB s i) = true then runEnd s f (i + 1) else i
theorem runEnd_ok (s : ByteArray) : ∀ f i, i ≤ s.size → s.size - i ≤ f → RunTo s i (runEnd s f i) := by
  intro f
  induction f with
  | zero => intro i h1 h2; exact ⟨Nat.le_refl _, h1, fun j a b => by simp only [runEnd] at b; omega, .inl (by simp only [runEnd]; omega)⟩
  | succ f ih =>
    intro i h1 h2
    show RunTo s i (if s.size ≤ i then i else if letB (atB s i) = true then runEnd s f (i + 1) else i)
    by_cases a : s.size ≤ i
    · rw [if_pos a]; exact ⟨Nat.le_refl _, h1, fun j a b => by omega, .inl (by omega)⟩
    by_cases b : letB (atB s i) = true
    · rw [if_neg a, if_pos b]
      obtain ⟨c, d, e, g⟩ := ih (i + 1) (by omega) (by omega)
      refine ⟨by omega, d, fun j h3 h4 => ?_, g⟩
      by_cases hj : j = i
      · rw [hj]; exact b
      · exact e j (by omega) h4
    · rw [if_neg a, if_neg b]; exact ⟨Nat.le_refl _, h1, fun j a b => by omega, .inr (by simpa using b)⟩
/-- the place behind the letters from i on -/
def wordEnd (s : ByteArray) (i : Nat) : Nat := runEnd s (s.size - i) i

def nameAt (s : ByteArray) (i : Nat) : Tk ⊕ (Nat × Int) :=
  if 32 < wordEnd s i - i then .inr (i, 6)
  else .inl ⟨if inL keysL (s.extract i (wordEnd s i)) = true then 8 else if cls (atB s i) = 3 then 1 else 2, i, wordEnd s i, s.extract i (wordEnd s i), 0⟩
def textAt (s : ByteArray) (i : Nat) : Tk ⊕ (Nat × Int) := (quotedAt s i).elim (.inr (i, 22)) fun r =>
  .inl ⟨if atB s i = 39 then 4 else 5, i, r.2, strOfNums r.1, if atB s i = 39 then r.1.headD 0 else 0⟩
def opAt (s : ByteArray) (i : Nat) : Tk ⊕ (Nat × Int) :=
  if i + 2 ≤ s.size ∧ inL opsL (s.extract i (i + 2)) = true then .inl ⟨6, i, i + 2, s.extract i (i + 2), 0⟩
  else if inL opsL (s.extract i (i + 1)) = true then .inl ⟨6, i, i + 1, s.extract i (i + 1), 0⟩
  else .inr (i, 20)
/-- the token at i, or what is wrong -/
def oneAt (s : ByteArray) (i : Nat) : Tk ⊕ (Nat × Int) :=
  if cls (atB s i) = 3 ∨ cls (atB s i) = 4 then nameAt s i
  else if cls (atB s i) = 2 then numAt s i
  else if cls (atB s i) = 7 then textAt s i
  else if cls (atB s i) = 6 then .inl ⟨7, i, i + 1, s.extract i (i + 1), 0⟩
  else if cls (atB s i) = 5 then opAt s i
  else .inr (i, 20)

end Go.Proofs.YtkdhoelabomgkaaGreatDoor
/-
  Layer 2, the program's side: keys, ops, letters, words.
-/
namespace Go.Proofs.YtkdhoelabomgkaaGreatDoor
set_option linter.unusedVariables false
open Go.ChangeShapes Go.WideShapes Go.ChangeAt Go.RowKit

theorem inL_cons (t s : ByteArray) (l : List ByteArray) : inL (t :: l) s = (s.toList == t.toList || inL l s) := by
  unfold inL
  rw [List.any_cons]
  congr 1
  rw [Bool.eq_iff_iff, beq_iff_eq, beq_iff_eq]
  exact eq_comm
theorem inL_nil (s : ByteArray) : inL [] s = false := rfl

set_option maxHeartbeats 1000000 in
theorem pkey_any (s : ByteArray) (w : World) :
    Calls Tryz.prog 122 #[.string s] w fun e w' => e = .returned (.bool (inL keysL s)) ∧ w = w' := by
  go_enter Tryz.func122, Tryz.ntmps122
  go_wp2
  all_goals (go_ret; refine ⟨ret_bool ?_, rfl⟩)
  all_goals (unfold keysL; simp only [inL_cons, inL_nil, Bool.or_false])
  all_goals (first | (simp [*]; done) | (simp_all; done))

set_option maxHeartbeats 4000000 in
theorem psign_any (s : ByteArray) (w : World) :
    Calls Tryz.prog 115 #[.string s] w fun e w' => e = .returned (.bool (inL opsL s)) ∧ w = w' := by
  go_enter Tryz.func115, Tryz.ntmps115
  go_wp2
  all_goals (go_ret; refine ⟨ret_bool ?_, rfl⟩)
  all_goals (unfold opsL; simp only [inL_cons, inL_nil, Bool.or_false])
  all_goals (first | (simp [*]; done) | (simp_all; done))

set_option maxHeartbeats 2000000 in
theorem pin_any (c : Int) (h0 : 0 ≤ c) (h1 : c ≤ 255) (w : World) :
    Calls Tryz.prog 126 #[.int .u8 c] w fun e w' => e = .returned (.bool (letB c)) ∧ w = w' := by
  go_enter Tryz.func126, Tryz.ntmps126
  go_wp2_with (go_at_call 120; refine (class_any _ h0 h1 _).mono ?_; rintro e w' ⟨rfl, rfl⟩)
  all_goals (go_ret; refine ⟨ret_bool ?_, rfl⟩)
  all_goals (unfold letB; first | rfl | simp [*])

set_option maxHeartbeats 2000000 in
theorem pend_any (s : ByteArray) (hs : s.size ≤ 1000000) (k : Nat) (hk : k ≤ s.size) (w : World) :
    Calls Tryz.prog 121 #[.string s, .int .i64 k] w fun e w' => e = .returned (.int .i64 (wordEnd s k)) ∧ w = w' := by
  have HW := Lib.hid (runEnd_ok s (s.size - k) k hk (Nat.le_refl _))
  go_enter Tryz.func121, Tryz.ntmps121
  go_wp2
  go_loop [1] (fun i => ∃ m : Nat, k ≤ m ∧ m ≤ s.size ∧ i = .int .i64 m ∧ Hid (∀ i, k ≤ i → i < m → letB (atB s i) = true)) (fun i => s.size - (intOf i).toNat)
  case atStart => exact ⟨k, Nat.le_refl _, hk, rfl, Lib.hid fun i h1 h2 => by omega⟩
  case round =>
    obtain ⟨m, m1, m2, rfl, H⟩ := hrel
    by_cases hlt : m < s.size
    · have ea := Lib.hid (atB_eq s m hlt)
      have hb := s[m].toNat_lt
      by_cases hl : letB s[m].toNat = true
      · go_wp2_with (go_at_call 126; refine (pin_any _ (by omega) (by omega) _).mono ?_; rintro e w' ⟨rfl, rfl⟩)
        go_round
        case rel =>
          refine ⟨m + 1, by omega, by omega, by go_num, Lib.hid fun i h1 h2 => ?_⟩
          by_cases him : i = m
          · rw [him, ea.out]; exact hl
          · exact H.out i h1 (by omega)
        case measure => simp [intOf]; omega
      · have hl2 : letB s[m].toNat = false := by simpa using hl
        go_wp2_with (go_at_call 126; refine (pin_any _ (by omega) (by omega) _).mono ?_; rintro e w' ⟨rfl, rfl⟩)
        go_ret
        have hu : m = wordEnd s k := RunTo.unique ⟨m1, m2, H.out, .inr (by rw [ea.out]; exact hl2)⟩ HW.out
        exact ⟨ret_int (by rw [← hu]), rfl⟩
    · go_wp2
      go_ret
      have hu : m = wordEnd s k := RunTo.unique ⟨m1, m2, H.out, .inl (by omega)⟩ HW.out
      exact ⟨ret_int (by rw [← hu]), rfl⟩

/-- the kind of a name -/
def kindN (s : ByteArray) : Int := if inL keysL s = true then 8 else if cls (atB s 0) = 4 then 2 else 1
set_option maxHeartbeats 2000000 in
theorem pkind_any (s : ByteArray) (hs : 0 < s.size) (w : World) :
    Calls Tryz.prog 141 #[.string s] w fun e w' => e = .returned (.int .i64 (kindN s)) ∧ w = w' := by
  have ea := atB_eq s 0 hs
  have hb := s[0].toNat_lt
  unfold kindN
  rw [ea]
  clear ea
  go_enter Tryz.func141, Tryz.ntmps141
  go_wp2_with fail
  refine (pkey_any _ _).mono ?_
  rintro e w' ⟨rfl, rfl⟩
  go_wp2_with (go_at_call 120; refine (class_any _ (by omega) (by omega) _).mono ?_; rintro e w' ⟨rfl, rfl⟩)
  all_goals (go_ret; refine ⟨ret_int ?_, rfl⟩)
  all_goals (simp_all)
end Go.Proofs.YtkdhoelabomgkaaGreatDoor
/-
  Layer 2 in plain words, as the program has it: one token, and all of them. No walk.
-/
namespace Go.Proofs.YtkdhoelabomgkaaGreatDoor
set_option linter.unusedVariables false
open Go.RowKit

/-- a Number, whatever stands behind it -/
def numP (s : ByteArray) (i : Nat) : Tk ⊕ (Nat × Int) := (dgsAt s i 0).elim (.inr (i, 21)) fun r => .inl ⟨3, i, r.1, s.extract i r.1, r.2⟩
/-- a Name, unless a Digit stands right ahead of it -/
def nameP (s : ByteArray) (i : Nat) : Tk ⊕ (Nat × Int) := if 0 < i ∧ cls (atB s (i - 1)) = 2 then .inr (i, 20) else nameAt s i
/-- the end -/
def endT (s : ByteArray) : Tk := ⟨9, s.size, s.size, ⟨#[]⟩, 0⟩
/-- the token at i (the End at the text's), or what is wrong -/
def readAt (s : ByteArray) (i : Nat) : Tk ⊕ (Nat × Int) :=
  if s.size ≤ i then .inl (endT s)
  else if cls (atB s i) = 3 ∨ cls (atB s i) = 4 then nameP s i
  else if cls (atB s i) = 2 then numP s i
  else if cls (atB s i) = 7 then textAt s i
  else if cls (atB s i) = 5 then opAt s i
  else if cls (atB s i) = 6 then .inl ⟨7, i, i + 1, s.extract i (i + 1), 0⟩
  else .inr (i, 20)
/-- what is told of it: the token, or a place; and what is wrong -/
def tkOf (r : Tk ⊕ (Nat × Int)) : Tk := match r with
  | .inl t => t
  | .inr p => ⟨0, p.1, 0, ⟨#[]⟩, 0⟩
def tkV (t : Tk) : Value := .agg #[.int .i64 t.kind, .int .i64 t.at_, .int .i64 t.fin, .string t.text, .int .i64 t.n]
def erOf (r : Tk ⊕ (Nat × Int)) : Int := match r with
  | .inl _ => 0
  | .inr p => p.2

theorem dgs_le (s : ByteArray) : ∀ f k n r, dgs s f k n = some r → k ≤ s.size → k ≤ r.1 ∧ r.1 ≤ s.size := by
  intro f
  induction f with
  | zero => intro k n r h hk; have := Option.some.inj h; subst this; exact ⟨Nat.le_refl _, hk⟩
  | succ f ih =>
    intro k n r h hk
    rw [dgs_succ] at h
    by_cases a : s.size ≤ k
    · rw [if_pos a] at h; have := Option.some.inj h; subst this; exact ⟨Nat.le_refl _, hk⟩
    rw [if_neg a] at h
    by_cases b : cls (atB s k) = 2
    · rw [if_pos b] at h
      by_cases c : tooGreat n (atB s k - 48) = true
      · rw [if_pos c] at h; cases h
      · rw [if_neg c] at h
        have := ih _ _ _ h (by omega)
        omega
    · rw [if_neg b] at h; have := Option.some.inj h; subst this; exact ⟨Nat.le_refl _, hk⟩
theorem dgsAt_more {s : ByteArray} {i : Nat} {r : Nat × Int} (h : dgsAt s i 0 = some r) (hi : i < s.size) (hc : cls (atB s i) = 2) : i < r.1 ∧ r.1 ≤ s.size := by
  rw [dgsAt_step s i 0 hi, if_pos hc] at h
  by_cases c : tooGreat 0 (atB s i - 48) = true
  · rw [if_pos c] at h; cases h
  · rw [if_neg c] at h
    have := dgs_le s _ _ _ _ h (by omega)
    omega
theorem qut_le (s : ByteArray) (q : Int) : ∀ f k l r, qut s q f k l = some r → k ≤ r.2 ∧ r.2 < s.size := by
  intro f
  induction f with
  | zero => intro k l r h; cases h
  | succ f ih =>
    intro k l r h
    rw [qut_succ] at h
    by_cases a : s.size ≤ k
    · rw [if_pos a] at h; cases h
    rw [if_neg a] at h
    by_cases b : atB s k = q
    · rw [if_pos b] at h; have := Option.some.inj h; subst this; exact ⟨Nat.le_refl _, by omega⟩
    rw [if_neg b] at h
    cases hu : un s k with
    | none => rw [hu] at h; cases h
    | some p =>
      obtain ⟨c, n⟩ := p
      obtain ⟨m, rfl, hm, _⟩ := un_next2 hu (by omega)
      rw [hu] at h
      simp only [Option.bind_some, Int.toNat_natCast] at h
      by_cases d : 256 ≤ l
      · rw [if_pos d] at h; cases h
      rw [if_neg d] at h
      obtain ⟨r', hr', rfl⟩ := Option.map_eq_some_iff.1 h
      have := ih _ _ _ hr'
      exact ⟨by show k ≤ r'.2; omega, this.2⟩
theorem quotedAt_le {s : ByteArray} {i : Nat} {r : List Int × Nat} (h : quotedAt s i = some r) : i < r.2 ∧ r.2 ≤ s.size := by
  unfold quotedAt at h
  obtain ⟨x, hx, hr⟩ := Option.bind_eq_some_iff.1 h
  have := qut_le s _ _ _ _ _ hx
  by_cases c : atB s i = 39 ∧ x.1.length ≠ 1
  · rw [if_pos c] at hr; cases hr
  · rw [if_neg c] at hr
    have := Option.some.inj hr
    subst this
    show i < x.2 + 1 ∧ x.2 + 1 ≤ s.size
    omega
theorem cls34 {c : Int} (h : cls c = 3 ∨ cls c = 4) : letB c = true := by
  unfold letB
  rcases h with h | h <;> simp [h]
theorem wordEnd_ok (s : ByteArray) (i : Nat) (h : i ≤ s.size) : RunTo s i (wordEnd s i) := runEnd_ok s (s.size - i) i h (Nat.le_refl _)
theorem wordEnd_more {s : ByteArray} {i : Nat} (h : i < s.size) (hc : letB (atB s i) = true) : i < wordEnd s i ∧ wordEnd s i ≤ s.size := by
  obtain ⟨a, b, c, d⟩ := wordEnd_ok s i (by omega)
  refine ⟨?_, b⟩
  rcases Nat.lt_or_ge i (wordEnd s i) with h1 | h1
  · exact h1
  · have e : wordEnd s i = i := by omega
    rw [e] at d
    rcases d with d | d
    · omega
    · rw [hc] at d; cases d

/-- a token begins where it is read, and has at least a byte; it is no End -/
theorem readAt_lt {s : ByteArray} {i : Nat} {t : Tk} (hi : i < s.size) (h : readAt s i = .inl t) : t.at_ = i ∧ i < t.fin ∧ t.fin ≤ s.size ∧ t.kind ≠ 9 := by
  unfold readAt at h
  rw [if_neg (by omega)] at h
  by_cases c1 : cls (atB s i) = 3 ∨ cls (atB s i) = 4
  · rw [if_pos c1] at h
    unfold nameP at h
    by_cases d : 0 < i ∧ cls (atB s (i - 1)) = 2
    · rw [if_pos d] at h; cases h
    rw [if_neg d] at h
    unfold nameAt at h
    have hw := wordEnd_more hi (cls34 c1)
    by_cases e : 32 < wordEnd s i - i
    · rw [if_pos e] at h; cases h
    rw [if_neg e] at h
    cases h
    refine ⟨rfl, hw.1, hw.2, ?_⟩
    show (if _ then (8 : Int) else if _ then 1 else 2) ≠ 9
    split
    · decide
    · split <;> decide
  rw [if_neg c1] at h
  by_cases c2 : cls (atB s i) = 2
  · rw [if_pos c2] at h
    unfold numP at h
    cases hd : dgsAt s i 0 with
    | none => rw [hd] at h; cases h
    | some r =>
      rw [hd] at h
      have := dgsAt_more hd hi c2
      cases h
      exact ⟨rfl, this.1, this.2, (show (3 : Int) ≠ 9 by decide)⟩
  rw [if_neg c2] at h
  by_cases c3 : cls (atB s i) = 7
  · rw [if_pos c3] at h
    unfold textAt at h
    cases hd : quotedAt s i with
    | none => rw [hd] at h; cases h
    | some r =>
      rw [hd] at h
      have := quotedAt_le hd
      cases h
      refine ⟨rfl, this.1, this.2, ?_⟩
      show (if _ then (4 : Int) else 5) ≠ 9
      split <;> decide
  rw [if_neg c3] at h
  by_cases c5 : cls (atB s i) = 5
  · rw [if_pos c5] at h
    unfold opAt at h
    by_cases d : i + 2 ≤ s.size ∧ inL opsL (s.extract i (i + 2)) = true
    · rw [if_pos d] at h; cases h; exact ⟨rfl, by show i < i + 2; omega, d.1, (show (6 : Int) ≠ 9 by decide)⟩
    rw [if_neg d] at h
    by_cases e : inL opsL (s.extract i (i + 1)) = true
    · rw [if_pos e] at h; cases h; exact ⟨rfl, by show i < i + 1; omega, by show i + 1 ≤ s.size; omega, (show (6 : Int) ≠ 9 by decide)⟩
    · rw [if_neg e] at h; cases h
  rw [if_neg c5] at h
  by_cases c6 : cls (atB s i) = 6
  · rw [if_pos c6] at h; cases h; exact ⟨rfl, by show i < i + 1; omega, by show i + 1 ≤ s.size; omega, (show (7 : Int) ≠ 9 by decide)⟩
  · rw [if_neg c6] at h; cases h

theorem skp_le (s : ByteArray) : ∀ f i j, skp s f i = .inl j → i ≤ s.size → i ≤ j ∧ j ≤ s.size := by
  intro f
  induction f with
  | zero => intro i j h hi; cases h; exact ⟨Nat.le_refl _, hi⟩
  | succ f ih =>
    intro i j h hi
    rw [skp_succ] at h
    by_cases a : s.size ≤ i
    · rw [if_pos a] at h; cases h; exact ⟨Nat.le_refl _, hi⟩
    rw [if_neg a] at h
    by_cases b : cls (atB s i) = 1
    · rw [if_pos b] at h; have := ih _ _ h (by omega); omega
    rw [if_neg b] at h
    by_cases c : twoAt s i 45 45 = true
    · rw [if_pos c] at h; have h1 := line_more c; have := ih _ _ h h1.2; omega
    rw [if_neg c] at h
    by_cases d : twoAt s i 123 45 = true
    · rw [if_pos d] at h
      cases hn : noteAt s i with
      | none => rw [hn] at h; cases h
      | some m =>
        rw [hn] at h
        have h1 := note_bound _ _ _ _ _ hn
        have := ih m j h h1.2
        omega
    · rw [if_neg d] at h; cases h; exact ⟨Nat.le_refl _, hi⟩
theorem skip_le {s : ByteArray} {i j : Nat} (h : skip s i = .inl j) (hi : i ≤ s.size) : i ≤ j ∧ j ≤ s.size := skp_le s _ i j h hi
theorem skp_bad (s : ByteArray) : ∀ f i j, skp s f i = .inr j → i ≤ s.size → i ≤ j ∧ j ≤ s.size := by
  intro f
  induction f with
  | zero => intro i j h hi; cases h
  | succ f ih =>
    intro i j h hi
    rw [skp_succ] at h
    by_cases a : s.size ≤ i
    · rw [if_pos a] at h; cases h
    rw [if_neg a] at h
    by_cases b : cls (atB s i) = 1
    · rw [if_pos b] at h; have := ih _ _ h (by omega); omega
    rw [if_neg b] at h
    by_cases c : twoAt s i 45 45 = true
    · rw [if_pos c] at h; have h1 := line_more c; have := ih _ _ h h1.2; omega
    rw [if_neg c] at h
    by_cases d : twoAt s i 123 45 = true
    · rw [if_pos d] at h
      cases hn : noteAt s i with
      | none => rw [hn] at h; cases h; exact ⟨Nat.le_refl _, hi⟩
      | some m =>
        rw [hn] at h
        have h1 := note_bound _ _ _ _ _ hn
        have := ih m j h h1.2
        omega
    · rw [if_neg d] at h; cases h
theorem skip_bad {s : ByteArray} {i j : Nat} (h : skip s i = .inr j) (hi : i ≤ s.size) : i ≤ j ∧ j ≤ s.size := skp_bad s _ i j h hi

theorem note_step (s : ByteArray) (d m : Nat) (h : m < s.size) : note s (s.size - m) d m = if twoAt s m 123 45 = true then (if 100 ≤ d then none else note s (s.size - (m + 2)) (d + 1) (m + 2))
    else if twoAt s m 45 125 = true then (if d ≤ 1 then some (m + 2) else note s (s.size - (m + 2)) (d - 1) (m + 2)) else note s (s.size - (m + 1)) d (m + 1) := by
  obtain ⟨f, hf⟩ : ∃ f, s.size - m = f + 1 := ⟨s.size - m - 1, by omega⟩
  rw [hf, note_succ, if_neg (by omega), note_fuel s f (s.size - (m + 2)) (d + 1) (m + 2) (by omega) (by omega), note_fuel s f (s.size - (m + 2)) (d - 1) (m + 2) (by omega) (by omega), note_fuel s f (s.size - (m + 1)) d (m + 1) (by omega) (by omega)]

/-- all tokens from i on, or the first fault -/
def toks (s : ByteArray) : Nat → Nat → List Tk ⊕ (Nat × Int)
  | 0, i => .inl []
  | f + 1, i => (skip s i).elim (fun j => (readAt s j).elim (fun t => if t.kind = 9 then .inl [t] else (toks s f t.fin).elim (fun l => .inl (t :: l)) .inr) .inr) fun m => .inr (m, 23)
theorem toks_succ (s : ByteArray) (f i : Nat) : toks s (f + 1) i = (skip s i).elim (fun j => (readAt s j).elim (fun t => if t.kind = 9 then .inl [t] else (toks s f t.fin).elim (fun l => .inl (t :: l)) .inr) .inr) fun m => .inr (m, 23) := rfl
theorem readAt_end (s : ByteArray) (j : Nat) (h : s.size ≤ j) : readAt s j = .inl (endT s) := by unfold readAt; rw [if_pos h]
theorem toks_fuel (s : ByteArray) : ∀ f g i, i ≤ s.size → s.size - i < f → s.size - i < g → toks s f i = toks s g i := by
  intro f
  induction f with
  | zero => intro g i _ h; omega
  | succ f ih =>
    intro g i hi h h'
    obtain ⟨g, rfl⟩ : ∃ g', g = g' + 1 := ⟨g - 1, by omega⟩
    rw [toks_succ, toks_succ]
    cases hs : skip s i with
    | inr m => rfl
    | inl j =>
      have hj := skip_le hs hi
      simp only [Sum.elim_inl]
      cases hr : readAt s j with
      | inr x => rfl
      | inl t =>
        simp only [Sum.elim_inl]
        by_cases h9 : t.kind = 9
        · rw [if_pos h9, if_pos h9]
        · rw [if_neg h9, if_neg h9]
          rcases Nat.lt_or_ge j s.size with hlt | hge
          · obtain ⟨_, h2, h3, _⟩ := readAt_lt hlt hr
            rw [ih g t.fin h3 (by omega) (by omega)]
          · rw [readAt_end s j hge] at hr
            cases hr
            exact absurd rfl h9
/-- all tokens, or the first fault -/
def scanAt (s : ByteArray) (i : Nat) : List Tk ⊕ (Nat × Int) := toks s (s.size + 1) i
theorem scanAt_step {s : ByteArray} {i : Nat} (hi : i ≤ s.size) : scanAt s i = (skip s i).elim (fun j => (readAt s j).elim (fun t => if t.kind = 9 then .inl [t] else (scanAt s t.fin).elim (fun l => .inl (t :: l)) .inr) .inr) fun m => .inr (m, 23) := by
  show toks s (s.size + 1) i = _
  rw [toks_succ]
  cases hs : skip s i with
  | inr m => rfl
  | inl j =>
    have hj := skip_le hs hi
    simp only [Sum.elim_inl]
    cases hr : readAt s j with
    | inr x => rfl
    | inl t =>
      simp only [Sum.elim_inl]
      by_cases h9 : t.kind = 9
      · rw [if_pos h9, if_pos h9]
      · rw [if_neg h9, if_neg h9]
        rcases Nat.lt_or_ge j s.size with hlt | hge
        · obtain ⟨_, h2, h3, _⟩ := readAt_lt hlt hr
          rw [show scanAt s t.fin = toks s s.size t.fin from toks_fuel s _ _ _ h3 (by omega) (by omega)]
        · rw [readAt_end s j hge] at hr
          cases hr
          exact absurd rfl h9

/-- these are the tokens from i on -/
inductive Sc (s : ByteArray) : Nat → List Tk → Prop
  | fin {i : Nat} : i ≤ s.size → skip s i = .inl s.size → Sc s i [endT s]
  | tok {i j : Nat} {t : Tk} {l : List Tk} : i ≤ s.size → skip s i = .inl j → j < s.size → readAt s j = .inl t → Sc s t.fin l → Sc s i (t :: l)
theorem sc_of_scan {s : ByteArray} : ∀ (n i : Nat) (l : List Tk), i ≤ s.size → s.size - i ≤ n → scanAt s i = .inl l → Sc s i l := by
  intro n
  induction n with
  | zero =>
    intro i l hi hn h
    rw [scanAt_step hi] at h
    have e : i = s.size := by omega
    subst e
    rw [skip_end s _ (Nat.le_refl _)] at h
    simp only [Sum.elim_inl] at h
    rw [readAt_end s _ (Nat.le_refl _)] at h
    simp only [Sum.elim_inl] at h
    rw [if_pos (show (endT s).kind = 9 from rfl)] at h
    cases h
    exact .fin (Nat.le_refl _) (skip_end s _ (Nat.le_refl _))
  | succ n ih =>
    intro i l hi hn h
    rw [scanAt_step hi] at h
    cases hs : skip s i with
    | inr m => rw [hs] at h; cases h
    | inl j =>
      have hj := skip_le hs hi
      rw [hs] at h
      simp only [Sum.elim_inl] at h
      rcases Nat.lt_or_ge j s.size with hlt | hge
      · cases hr : readAt s j with
        | inr x => rw [hr] at h; cases h
        | inl t =>
          obtain ⟨_, h2, h3, h9⟩ := readAt_lt hlt hr
          rw [hr] at h
          simp only [Sum.elim_inl] at h
          rw [if_neg h9] at h
          cases hq : scanAt s t.fin with
          | inr x => rw [hq] at h; cases h
          | inl l' =>
            rw [hq] at h
            cases h
            exact .tok hi hs hlt hr (ih _ _ h3 (by omega) hq)
      · rw [readAt_end s _ hge] at h
        simp only [Sum.elim_inl] at h
        rw [if_pos (show (endT s).kind = 9 from rfl)] at h
        cases h
        obtain rfl : j = s.size := by omega
        exact .fin hi hs
theorem scan_of_sc {s : ByteArray} {i : Nat} {l : List Tk} (h : Sc s i l) : scanAt s i = .inl l := by
  induction h with
  | fin hi hs =>
    rw [scanAt_step hi, hs]
    simp only [Sum.elim_inl]
    rw [readAt_end s _ (Nat.le_refl _)]
    simp only [Sum.elim_inl]
    rw [if_pos (show (endT s).kind = 9 from rfl)]
  | tok hi hs hj hr _ ih =>
    obtain ⟨_, _, _, h9⟩ := readAt_lt hj hr
    rw [scanAt_step hi, hs]
    simp only [Sum.elim_inl]
    rw [hr]
    simp only [Sum.elim_inl]
    rw [if_neg h9, ih]
    rfl
end Go.Proofs.YtkdhoelabomgkaaGreatDoor
