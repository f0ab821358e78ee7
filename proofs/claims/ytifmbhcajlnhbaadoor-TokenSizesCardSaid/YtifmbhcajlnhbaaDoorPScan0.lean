/-
  Layer 2: what Scan tells, in plain words. No walk.
-/
import Derived.Test.YtifmbhcajlnhbaaDoorIter
namespace Go.Proofs.YtifmbhcajlnhbaaDoor
set_option linter.unusedVariables false
open Go.RowKit

/-- what is wrong with the j-th that is yielded; 0: nothing -/
def verd (j : Nat) (x : Tk × Int) : Int := if x.2 = 0 ∧ j = 16384 ∧ x.1.kind ≠ 9 then 6 else x.2
/-- the tokens, or the first fault, of what is yielded, j ahead of it -/
def coll : Nat → List (Tk × Int) → List Tk ⊕ (Nat × Int)
  | _, [] => .inl []
  | j, x :: r => if verd j x ≠ 0 then .inr (x.1.at_, verd j x) else (coll (j + 1) r).elim (fun l => .inl (x.1 :: l)) .inr
/-- nothing is wrong with any of these -/
def AllOk (j : Nat) (l : List (Tk × Int)) : Prop := ∀ (i : Nat) (h : i < l.length), verd (j + i) l[i] = 0
theorem coll_ok : ∀ (l : List (Tk × Int)) (j : Nat), AllOk j l → coll j l = .inl (l.map (·.1))
  | [], _, _ => rfl
  | x :: r, j, h => by
    have h0 := h 0 (by simp)
    simp only [Nat.add_zero, List.getElem_cons_zero] at h0
    have ih := coll_ok r (j + 1) (fun i hi => by have := h (i + 1) (by simpa using hi); rw [show j + 1 + i = j + (i + 1) from by omega]; simpa using this)
    unfold coll
    rw [if_neg (by rw [h0]; simp), ih]
    rfl
theorem coll_bad : ∀ (l : List (Tk × Int)) (j : Nat) (x : Tk × Int) (r : List (Tk × Int)), AllOk j l → verd (j + l.length) x ≠ 0 → coll j (l ++ x :: r) = .inr (x.1.at_, verd (j + l.length) x)
  | [], j, x, r, _, hx => by
    show coll j (x :: r) = _
    unfold coll
    rw [if_pos (show verd j x ≠ 0 from hx)]
    rfl
  | y :: l, j, x, r, h, hx => by
    have h0 := h 0 (by simp)
    simp only [Nat.add_zero, List.getElem_cons_zero] at h0
    have e : j + (y :: l).length = j + 1 + l.length := by simp; omega
    rw [e] at hx ⊢
    have ih := coll_bad l (j + 1) x r (fun i hi => by have := h (i + 1) (by simpa using hi); rw [show j + 1 + i = j + (i + 1) from by omega]; simpa using this) hx
    show coll j (y :: (l ++ x :: r)) = _
    unfold coll
    rw [if_neg (by rw [h0]; simp), ih]
    rfl
theorem AllOk.snoc {j : Nat} {l : List (Tk × Int)} {x : Tk × Int} (h : AllOk j l) (hx : verd (j + l.length) x = 0) : AllOk j (l ++ [x]) := by
  intro i hi
  rcases Nat.lt_or_ge i l.length with hlt | hge
  · rw [List.getElem_append_left hlt]; exact h i hlt
  · have e : i = l.length := by simp at hi; omega
    subst e
    rw [List.getElem_append_right (Nat.le_refl _)]
    simpa using hx
/-- Scan's answer -/
def scanP (s : ByteArray) : List Tk ⊕ (Nat × Int) := if 65536 < s.size then .inr (0, 6) else coll 0 (items s 0)
/-- tokens' cells, one behind the other -/
def rowL (l : List Tk) : List Value := l.flatMap fun t => [.int .i64 t.kind, .int .i64 t.at_, .int .i64 t.fin, .string t.text, .int .i64 t.n]
theorem rowL_snoc (l : List Tk) (t : Tk) : rowL (l ++ [t]) = rowL l ++ [.int .i64 t.kind, .int .i64 t.at_, .int .i64 t.fin, .string t.text, .int .i64 t.n] := by simp [rowL]
theorem rowL_len (l : List Tk) : (rowL l).length = l.length * 5 := by
  induction l with
  | nil => rfl
  | cons t l ih => simp [rowL] at ih ⊢; omega
theorem items_len (s : ByteArray) : ∀ f i, i ≤ s.size → (itemsF s f i).length ≤ s.size - i + 1 := by
  intro f
  induction f with
  | zero => intro i _; show 0 ≤ _; omega
  | succ f ih =>
    intro i hi
    rw [itemsF_succ]
    cases hs : skip s i with
    | inr m => simp only [Sum.elim_inr]; show 1 ≤ _; omega
    | inl j =>
      have hj := skip_le hs hi
      simp only [Sum.elim_inl]
      cases hr : readAt s j with
      | inr x => simp only [Sum.elim_inr]; show 1 ≤ _; omega
      | inl t =>
        simp only [Sum.elim_inl, List.length_cons]
        by_cases h9 : t.kind = 9
        · rw [if_pos h9]; show 0 + 1 ≤ _; omega
        · rw [if_neg h9]
          obtain ⟨h1, h2⟩ := readAt_fin hj.2 hr
          rcases h2 with h2 | h2
          · exact absurd h2 h9
          · have := ih t.fin h1
            omega

/-- what Scan tells: a slice of the call's own, and a fault -/
def ScanOut (r : List Tk ⊕ (Nat × Int)) (w : World) (e : Ending) (w' : World) : Prop :=
  ∃ v, e = .returned (.tuple #[v, .agg #[.int .i64 (r.elim (fun _ => 0) fun p => (p.1 : Int)), .int .i64 (r.elim (fun _ => 0) fun p => p.2)]]) ∧
    w'.ownsRow w.heap.size 40 5 v (r.elim (·.length) fun _ => 0) (r.elim rowL fun _ => []) ∧ Below w.heap.size w w'

end Go.Proofs.YtifmbhcajlnhbaaDoor
