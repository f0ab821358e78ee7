/-
  Layer 2 in plain words: numbers, quotes, one token. No walk.
-/
import Derived.Test.YtifmbhcajlnhbaaDoorScanSpec
import Derived.Test.YtifmbhcajlnhbaaDoorUq
namespace Go.Proofs.YtifmbhcajlnhbaaDoor
set_option linter.unusedVariables false
open Go.RowKit

/-- is a number so great that it can't take the digit d more? -/
def tooGreat (n d : Int) : Bool := decide ((9223372036854775807 - d) / 10 < n)

/-- a Number's digits from k on, n told ahead: where they end, and the number -/
def dgs (s : ByteArray) : Nat → Nat → Int → Option (Nat × Int)
  | 0, k, n => some (k, n)
  | f + 1, k, n => if s.size ≤ k then some (k, n) else if cls (atB s k) = 2 then (if tooGreat n (atB s k - 48) = true then none else dgs s f (k + 1) (10 * n + (atB s k - 48))) else some (k, n)
theorem dgs_succ (s : ByteArray) (f k : Nat) (n : Int) : dgs s (f + 1) k n = if s.size ≤ k then some (k, n) else if cls (atB s k) = 2 then (if tooGreat n (atB s k - 48) = true then none else dgs s f (k + 1) (10 * n + (atB s k - 48))) else some (k, n) := rfl
def dgsAt (s : ByteArray) (k : Nat) (n : Int) : Option (Nat × Int) := dgs s (s.size - k) k n
theorem dgsAt_end (s : ByteArray) (k : Nat) (n : Int) (h : s.size ≤ k) : dgsAt s k n = some (k, n) := by
  unfold dgsAt
  rw [show s.size - k = 0 from by omega]; rfl
theorem dgsAt_step (s : ByteArray) (k : Nat) (n : Int) (h : k < s.size) : dgsAt s k n = if cls (atB s k) = 2 then (if tooGreat n (atB s k - 48) = true then none else dgsAt s (k + 1) (10 * n + (atB s k - 48))) else some (k, n) := by
  unfold dgsAt
  rw [show s.size - k = (s.size - (k + 1)) + 1 from by omega, dgs_succ, if_neg (by omega)]

/-- a token: its kind, its place, the place behind it, its text, its number -/
structure Tk where
  kind : Int
  at_ : Nat
  fin : Nat
  text : ByteArray
  n : Int
/-- the token, or where and what is wrong -/
def numAt (s : ByteArray) (i : Nat) : Tk ⊕ (Nat × Int) := (dgsAt s i 0).elim (.inr (i, 21)) fun r =>
  if r.1 < s.size ∧ letB (atB s r.1) = true ∧ atB s r.1 ≠ 39 then .inr (r.1, 20) else .inl ⟨3, i, r.1, s.extract i r.1, r.2⟩
theorem cls2 (c : Int) : cls c = 2 ↔ 48 ≤ c ∧ c ≤ 57 := by
  constructor
  · intro h
    unfold cls at h
    by_cases a1 : c = 32 ∨ c = 9 ∨ c = 10 ∨ c = 13
    · rw [if_pos a1] at h; omega
    by_cases a2 : 48 ≤ c ∧ c ≤ 57
    · exact a2
    rw [if_neg a1, if_neg a2] at h
    repeat' (split at h)
    all_goals omega
  · intro h; unfold cls; rw [if_neg (by omega), if_pos h]
theorem un_next2 {t : ByteArray} {k : Nat} {c n : Int} (h : un t k = some (c, n)) (hk : k < t.size) : ∃ m : Nat, n = m ∧ k < m ∧ m ≤ t.size ∧ 0 ≤ c ∧ c ≤ 255 := un_next h hk

/-- from k on up to a bare quote q: the bytes, and the quote's place; l of them have been told -/
def qut (s : ByteArray) (q : Int) : Nat → Nat → Nat → Option (List Int × Nat)
  | 0, _, _ => none
  | f + 1, k, l => if s.size ≤ k then none else if atB s k = q then some ([], k) else (un s k).bind fun p => if 256 ≤ l then none else (qut s q f p.2.toNat (l + 1)).map fun r => (p.1 :: r.1, r.2)
theorem qut_succ (s : ByteArray) (q : Int) (f k l : Nat) : qut s q (f + 1) k l = if s.size ≤ k then none else if atB s k = q then some ([], k) else (un s k).bind fun p => if 256 ≤ l then none else (qut s q f p.2.toNat (l + 1)).map fun r => (p.1 :: r.1, r.2) := rfl
theorem qut_end (s : ByteArray) (q : Int) (f k l : Nat) (h : s.size ≤ k) : qut s q f k l = none := by
  cases f with
  | zero => rfl
  | succ f => rw [qut_succ, if_pos h]
theorem qut_fuel (s : ByteArray) (q : Int) : ∀ f g k l, s.size - k ≤ f → s.size - k ≤ g → qut s q f k l = qut s q g k l := by
  intro f
  induction f with
  | zero => intro g k l h _; rw [qut_end s q 0 k l (by omega), qut_end s q g k l (by omega)]
  | succ f ih =>
    intro g k l h h'
    by_cases hk : s.size ≤ k
    · rw [qut_end _ _ _ _ _ hk, qut_end _ _ _ _ _ hk]
    · obtain ⟨g, rfl⟩ : ∃ g', g = g' + 1 := ⟨g - 1, by omega⟩
      rw [qut_succ, qut_succ]
      cases hu : un s k with
      | none => rfl
      | some p =>
        obtain ⟨c, n⟩ := p
        obtain ⟨m, rfl, hm, _⟩ := un_next hu (by omega)
        simp only [Option.bind_some, Int.toNat_natCast]
        rw [ih g m (l + 1) (by omega) (by omega)]
/-- what is quoted at k, l told ahead -/
def qutAt (s : ByteArray) (q : Int) (k l : Nat) : Option (List Int × Nat) := qut s q (s.size - k) k l
theorem qutAt_end (s : ByteArray) (q : Int) (k l : Nat) (h : s.size ≤ k) : qutAt s q k l = none := qut_end s q _ k l h
theorem qutAt_step (s : ByteArray) (q : Int) (k l : Nat) (h : k < s.size) : qutAt s q k l = if atB s k = q then some ([], k) else (un s k).bind fun p => if 256 ≤ l then none else (qutAt s q p.2.toNat (l + 1)).map fun r => (p.1 :: r.1, r.2) := by
  unfold qutAt
  obtain ⟨f, hf⟩ : ∃ f, s.size - k = f + 1 := ⟨s.size - k - 1, by omega⟩
  rw [hf, qut_succ, if_neg (by omega)]
  cases hu : un s k with
  | none => rfl
  | some p =>
    obtain ⟨c, n⟩ := p
    obtain ⟨m, rfl, hm, _⟩ := un_next hu (by omega)
    simp only [Option.bind_some, Int.toNat_natCast]
    rw [qut_fuel s q f (s.size - m) m (l + 1) (by omega) (by omega)]
/-- the Letter or Text at i: its bytes, and the place behind it -/
def quotedAt (s : ByteArray) (i : Nat) : Option (List Int × Nat) := (qutAt s (atB s i) (i + 1) 0).bind fun r => if atB s i = 39 ∧ r.1.length ≠ 1 then none else some (r.1, r.2 + 1)
/-- where the letters from i on end -/
def runEnd (s : ByteArray) : Nat → Nat → Nat
  | 0, i => i
  | f + 1, i => if s.size ≤ i then i else if letB (atB s i) = true then runEnd s f (i + 1) else i
theorem runEnd_ok (s : ByteArray) : ∀ f i, i ≤ s.size → s.size - i ≤ f → RunTo s i (runEnd s f i) := by
  intro f
  induction f with
  | zero => intro i h1 h2; exact ⟨Nat.le_refl _, h1, fun j a b => by simp only [runEnd] at b; omega, .inl (by simp only [runEnd]; omega)⟩
  | succ f ih =>
    intro i h1 h2
    show RunTo s i (if s.size ≤ i then i else if letB (atB s i) = true then runEnd s f (i + 1) else i)
    by_cases a : s.size ≤ i
    · rw [if_pos a]; exact ⟨Nat.le_refl _, h1, fun j a b => by omega, .inl (by omega)⟩
    by_cases b : letB (atB s i) = true
    · rw [if_neg a, if_pos b]
      obtain ⟨c, d, e, g⟩ := ih (i + 1) (by omega) (by omega)
      refine ⟨by omega, d, fun j h3 h4 => ?_, g⟩
      by_cases hj : j = i
      · rw [hj]; exact b
      · exact e j (by omega) h4
    · rw [if_neg a, if_neg b]; exact ⟨Nat.le_refl _, h1, fun j a b => by omega, .inr (by simpa using b)⟩
/-- the place behind the letters from i on -/
def wordEnd (s : ByteArray) (i : Nat) : Nat := runEnd s (s.size - i) i

def nameAt (s : ByteArray) (i : Nat) : Tk ⊕ (Nat × Int) :=
  if 32 < wordEnd s i - i then .inr (i, 6)
  else .inl ⟨if inL keysL (s.extract i (wordEnd s i)) = true then 8 else if cls (atB s i) = 3 then 1 else 2, i, wordEnd s i, s.extract i (wordEnd s i), 0⟩
def textAt (s : ByteArray) (i : Nat) : Tk ⊕ (Nat × Int) := (quotedAt s i).elim (.inr (i, 22)) fun r =>
  .inl ⟨if atB s i = 39 then 4 else 5, i, r.2, strOfNums r.1, if atB s i = 39 then r.1.headD 0 else 0⟩
def opAt (s : ByteArray) (i : Nat) : Tk ⊕ (Nat × Int) :=
  if i + 2 ≤ s.size ∧ inL opsL (s.extract i (i + 2)) = true then .inl ⟨6, i, i + 2, s.extract i (i + 2), 0⟩
  else if inL opsL (s.extract i (i + 1)) = true then .inl ⟨6, i, i + 1, s.extract i (i + 1), 0⟩
  else .inr (i, 20)
/-- the token at i, or what is wrong -/
def oneAt (s : ByteArray) (i : Nat) : Tk ⊕ (Nat × Int) :=
  if cls (atB s i) = 3 ∨ cls (atB s i) = 4 then nameAt s i
  else if cls (atB s i) = 2 then numAt s i
  else if cls (atB s i) = 7 then textAt s i
  else if cls (atB s i) = 6 then .inl ⟨7, i, i + 1, s.extract i (i + 1), 0⟩
  else if cls (atB s i) = 5 then opAt s i
  else .inr (i, 20)

end Go.Proofs.YtifmbhcajlnhbaaDoor
