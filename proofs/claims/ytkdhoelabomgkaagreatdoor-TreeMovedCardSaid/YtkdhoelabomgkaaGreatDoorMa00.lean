/- Texts of this proof, joined: LaidT, Trees, Typed. No condition. -/
import Derived.Test.YtkdhoelabomgkaaGreatDoorCards
import Derived.Test.YtkdhoelabomgkaaGreatDoorTie
import Derived.WalkKit
import Derived.ProofKit
import Derived.OpenShut
import Derived.ChangeOld
import Derived.Below
import Derived.Deep.DeepHandedRow
import Derived.Lib.LaidTab
import Derived.LaidMore
import Derived.Test.YtkdhoelabomgkaaGreatDoorProg
import Derived.Carry
import Derived.Lib.AtoiErrMem
/-
  The trees' rows: the witness's world, and the plain conditions. No walk.
-/
namespace Go.Proofs.YtkdhoelabomgkaaGreatDoor
set_option linter.unusedVariables false
open Go.ChangeShapes Go.WideShapes Go.ChangeAt Go.RowKit

theorem own : ownKnob Tryz.prog.godebug = none := by kernel_rfl
theorem laidOut : laidOutB Tryz.prog = true := by kernel_rfl
/-- the witness's world: what the door lays -/
noncomputable def laidWorld (os : Os) : World := World.doorLaid Tryz.prog 400 os
theorem laid_met (os : Os) (args : Array Value) : laidMetH Tryz.prog Rows.treeSamesRow.laid ((laidWorld os).forCall (fun _ _ => 0) ⟨#[], args, []⟩).memory := by
  rw [MakeChecks.laidMetH_plain _ _ _ (by kernel_rfl)]
  exact laidMet_of_run' 8 (by kernel_rfl) (by kernel_rfl)
end Go.Proofs.YtkdhoelabomgkaaGreatDoor
/-
  Layer 3: what lies in memory as cells, rows and slices of rows, as plain data. No walk.
-/
namespace Go.Proofs.YtkdhoelabomgkaaGreatDoor
set_option linter.unusedVariables false
open Go.RowKit

/-- a cell: a number, a text, a slice of rows of so many cells each -/
inductive Dt where
  | i (n : Int)
  | s (b : ByteArray)
  | l (sz : Nat) (rows : List (List Dt))

theorem add_add2 (a : Addr) (i j : Nat) : (a.add i).add j = a.add (i + j) := by
  unfold Addr.add
  by_cases hj : j = 0
  · subst hj; simp
  · rw [if_neg hj, if_neg (show i + j ≠ 0 by omega)]
    by_cases hi : i = 0
    · rw [if_pos hi, hi, Nat.zero_add]
    · rw [if_neg hi]; simp [Nat.add_assoc]
theorem add_block2 (a : Addr) (j : Nat) : (a.add j).block = a.block := by unfold Addr.add; split <;> rfl
theorem add_zero2 (a : Addr) : a.add 0 = a := by unfold Addr.add; rw [if_pos rfl]
theorem add_off (a : Addr) (j : Nat) (hj : j ≠ 0) : a.add j = ⟨a.block, a.off + j, none⟩ := by unfold Addr.add; rw [if_neg hj]

mutual
def IsC (w : World) (P : Nat → Prop) : Dt → Value → Prop
  | .i n, v => v = .int .i64 n
  | .s b, v => v = .string b ∧ b.size ≤ maxLen
  | .l sz rows, v => (v = .slice none 0 0 ∧ rows = []) ∨ ∃ a cap, v = .slice (some a) rows.length cap ∧ rows.length ≤ cap ∧ cap ≤ maxLen ∧ (rows ≠ [] → P a.block) ∧ IsRows w P sz rows a
def IsRow (w : World) (P : Nat → Prop) : List Dt → Addr → Prop
  | [], _ => True
  | d :: r, a => (∃ v, w.cell? a = some v ∧ IsC w P d v) ∧ IsRow w P r (a.add 1)
def IsRows (w : World) (P : Nat → Prop) (sz : Nat) : List (List Dt) → Addr → Prop
  | [], _ => True
  | r :: rs, a => IsRow w P r a ∧ IsRows w P sz rs (a.add sz)
end
/-- values, one for each cell -/
def IsVs (w : World) (P : Nat → Prop) : List Dt → List Value → Prop
  | [], vs => vs = []
  | d :: r, vs => ∃ v t, vs = v :: t ∧ IsC w P d v ∧ IsVs w P r t

/-- what lies in blocks that stay stays -/
def Stay (P : Nat → Prop) (w w' : World) : Prop := ∀ b, P b → b < w.heap.size → w'.heap[b]? = w.heap[b]?
mutual
theorem IsC.stay {P : Nat → Prop} {w w' : World} (hb : Stay P w w') : ∀ (d : Dt) (v : Value), IsC w P d v → IsC w' P d v
  | .i n, v, h => by unfold IsC at h ⊢; exact h
  | .s b, v, h => by unfold IsC at h ⊢; exact h
  | .l sz rows, v, h => by
    unfold IsC at h ⊢
    rcases h with h | ⟨a, cap, h1, h2, h3, hp, h4⟩
    · exact .inl h
    · refine .inr ⟨a, cap, h1, h2, h3, hp, ?_⟩
      cases rows with
      | nil => unfold IsRows; trivial
      | cons r rs =>
        have hp := hp (by simp)
        unfold IsRows at h4 ⊢
        exact ⟨IsRow.stay hb r a hp h4.1, IsRows.stay hb sz rs _ (by rw [add_block2]; exact hp) h4.2⟩
theorem IsRow.stay {P : Nat → Prop} {w w' : World} (hb : Stay P w w') : ∀ (r : List Dt) (a : Addr), P a.block → IsRow w P r a → IsRow w' P r a
  | [], a, hp, h => by unfold IsRow; trivial
  | d :: r, a, hp, h => by
    unfold IsRow at h ⊢
    obtain ⟨⟨v, hv, hc⟩, hr⟩ := h
    refine ⟨⟨v, ?_, IsC.stay hb d v hc⟩, IsRow.stay hb r _ (by rw [add_block2]; exact hp) hr⟩
    exact (World.cell?_of_block (hb a.block hp (Lib.lt_of_cell hv))).trans hv
theorem IsRows.stay {P : Nat → Prop} {w w' : World} (hb : Stay P w w') (sz : Nat) : ∀ (rs : List (List Dt)) (a : Addr), P a.block → IsRows w P sz rs a → IsRows w' P sz rs a
  | [], a, hp, h => by unfold IsRows; trivial
  | r :: rs, a, hp, h => by
    unfold IsRows at h ⊢
    exact ⟨IsRow.stay hb r a hp h.1, IsRows.stay hb sz rs _ (by rw [add_block2]; exact hp) h.2⟩
end
mutual
theorem IsC.on {P : Nat → Prop} {w w' : World} (hb : Below w.heap.size w w') : ∀ (d : Dt) (v : Value), IsC w P d v → IsC w' P d v
  | .i n, v, h => by unfold IsC at h ⊢; exact h
  | .s b, v, h => by unfold IsC at h ⊢; exact h
  | .l sz rows, v, h => by
    unfold IsC at h ⊢
    rcases h with h | ⟨a, cap, h1, h2, h3, hp, h4⟩
    · exact .inl h
    · exact .inr ⟨a, cap, h1, h2, h3, hp, IsRows.on hb sz rows a h4⟩
theorem IsRow.on {P : Nat → Prop} {w w' : World} (hb : Below w.heap.size w w') : ∀ (r : List Dt) (a : Addr), IsRow w P r a → IsRow w' P r a
  | [], a, h => by unfold IsRow; trivial
  | d :: r, a, h => by
    unfold IsRow at h ⊢
    obtain ⟨⟨v, hv, hc⟩, hr⟩ := h
    exact ⟨⟨v, (hb.cell (Lib.lt_of_cell hv)).trans hv, IsC.on hb d v hc⟩, IsRow.on hb r _ hr⟩
theorem IsRows.on {P : Nat → Prop} {w w' : World} (hb : Below w.heap.size w w') (sz : Nat) : ∀ (rs : List (List Dt)) (a : Addr), IsRows w P sz rs a → IsRows w' P sz rs a
  | [], a, h => by unfold IsRows; trivial
  | r :: rs, a, h => by
    unfold IsRows at h ⊢
    exact ⟨IsRow.on hb r a h.1, IsRows.on hb sz rs _ h.2⟩
end
mutual
theorem IsC.mono {P Q : Nat → Prop} {w : World} (hp : ∀ b, P b → Q b) : ∀ (d : Dt) (v : Value), IsC w P d v → IsC w Q d v
  | .i n, v, h => by unfold IsC at h ⊢; exact h
  | .s b, v, h => by unfold IsC at h ⊢; exact h
  | .l sz rows, v, h => by
    unfold IsC at h ⊢
    rcases h with h | ⟨a, cap, h1, h2, h3, hq, h4⟩
    · exact .inl h
    · exact .inr ⟨a, cap, h1, h2, h3, fun hr => hp _ (hq hr), IsRows.mono hp sz rows a h4⟩
theorem IsRow.mono {P Q : Nat → Prop} {w : World} (hp : ∀ b, P b → Q b) : ∀ (r : List Dt) (a : Addr), IsRow w P r a → IsRow w Q r a
  | [], a, h => by unfold IsRow; trivial
  | d :: r, a, h => by
    unfold IsRow at h ⊢
    obtain ⟨⟨v, hv, hc⟩, hr⟩ := h
    exact ⟨⟨v, hv, IsC.mono hp d v hc⟩, IsRow.mono hp r _ hr⟩
theorem IsRows.mono {P Q : Nat → Prop} {w : World} (hp : ∀ b, P b → Q b) (sz : Nat) : ∀ (rs : List (List Dt)) (a : Addr), IsRows w P sz rs a → IsRows w Q sz rs a
  | [], a, h => by unfold IsRows; trivial
  | r :: rs, a, h => by
    unfold IsRows at h ⊢
    exact ⟨IsRow.mono hp r a h.1, IsRows.mono hp sz rs _ h.2⟩
end
theorem IsVs.on {P : Nat → Prop} {w w' : World} (hb : Below w.heap.size w w') : ∀ (r : List Dt) (vs : List Value), IsVs w P r vs → IsVs w' P r vs
  | [], vs, h => h
  | d :: r, vs, h => by
    obtain ⟨v, t, h1, h2, h3⟩ := h
    exact ⟨v, t, h1, IsC.on hb d v h2, IsVs.on hb r t h3⟩
theorem IsVs.stay {P : Nat → Prop} {w w' : World} (hb : Stay P w w') : ∀ (r : List Dt) (vs : List Value), IsVs w P r vs → IsVs w' P r vs
  | [], vs, h => h
  | d :: r, vs, h => by
    obtain ⟨v, t, h1, h2, h3⟩ := h
    exact ⟨v, t, h1, IsC.stay hb d v h2, IsVs.stay hb r t h3⟩
theorem IsVs.mono {P Q : Nat → Prop} {w : World} (hp : ∀ b, P b → Q b) : ∀ (r : List Dt) (vs : List Value), IsVs w P r vs → IsVs w Q r vs
  | [], vs, h => h
  | d :: r, vs, h => by
    obtain ⟨v, t, h1, h2, h3⟩ := h
    exact ⟨v, t, h1, IsC.mono hp d v h2, IsVs.mono hp r t h3⟩

/-- the k-th row -/
theorem IsRows.get {P : Nat → Prop} {w : World} {sz : Nat} : ∀ (rs : List (List Dt)) (a : Addr) (k : Nat) (r : List Dt), IsRows w P sz rs a → rs[k]? = some r → IsRow w P r (a.add (k * sz))
  | [], a, k, r, h, hk => by simp at hk
  | x :: rs, a, 0, r, h, hk => by
    simp at hk
    subst hk
    unfold IsRows at h
    rw [Nat.zero_mul, add_zero2]
    exact h.1
  | x :: rs, a, k + 1, r, h, hk => by
    unfold IsRows at h
    have := IsRows.get rs (a.add sz) k r h.2 (by simpa using hk)
    rw [add_add2] at this
    rwa [show (k + 1) * sz = sz + k * sz from by rw [Nat.add_mul]; omega]
/-- a row's cells as values -/
theorem IsRow.vals {P : Nat → Prop} {w : World} : ∀ (r : List Dt) (a : Addr), IsRow w P r a → ∃ vs : List Value, IsVs w P r vs ∧ vs.length = r.length ∧ ∀ j v, vs[j]? = some v → w.cell? (a.add j) = some v
  | [], a, h => ⟨[], rfl, rfl, fun j v hj => by simp at hj⟩
  | d :: r, a, h => by
    unfold IsRow at h
    obtain ⟨⟨v, hv, hc⟩, hr⟩ := h
    obtain ⟨vs, h1, h2, h3⟩ := IsRow.vals r (a.add 1) hr
    refine ⟨v :: vs, ⟨v, vs, rfl, hc, h1⟩, by simp [h2], fun j u hj => ?_⟩
    match j, hj with
    | 0, hj => simp at hj; subst hj; rw [add_zero2]; exact hv
    | j + 1, hj =>
      have := h3 j u (by simpa using hj)
      rwa [add_add2, Nat.add_comm] at this
/-- .. and back -/
theorem IsRow.of_vals {P : Nat → Prop} {w : World} : ∀ (r : List Dt) (a : Addr) (vs : List Value), IsVs w P r vs → (∀ j v, vs[j]? = some v → w.cell? (a.add j) = some v) → IsRow w P r a
  | [], a, vs, _, _ => by unfold IsRow; trivial
  | d :: r, a, vs, h, hc => by
    obtain ⟨v, t, rfl, h2, h3⟩ := h
    unfold IsRow
    refine ⟨⟨v, by have := hc 0 v rfl; rwa [add_zero2] at this, h2⟩, IsRow.of_vals r _ t h3 fun j u hj => ?_⟩
    have := hc (j + 1) u (by simpa using hj)
    rwa [add_add2, Nat.add_comm]
theorem IsRows.of_get {P : Nat → Prop} {w : World} {sz : Nat} : ∀ (rs : List (List Dt)) (a : Addr), (∀ k r, rs[k]? = some r → IsRow w P r (a.add (k * sz))) → IsRows w P sz rs a
  | [], a, _ => by unfold IsRows; trivial
  | x :: rs, a, h => by
    unfold IsRows
    refine ⟨by have := h 0 x rfl; rwa [Nat.zero_mul, add_zero2] at this, IsRows.of_get rs _ fun k r hk => ?_⟩
    have := h (k + 1) r (by simpa using hk)
    rw [add_add2]
    rwa [show (k + 1) * sz = sz + k * sz from by rw [Nat.add_mul]; omega] at this
end Go.Proofs.YtkdhoelabomgkaaGreatDoor
/-
  Layer 3: types, patterns, expressions and declarations as plain trees; as rows of cells. No walk.
-/
namespace Go.Proofs.YtkdhoelabomgkaaGreatDoor
set_option linter.unusedVariables false
open Go.RowKit

/-- a type; a pattern -/
inductive Ty where
  | mk (kind at_ : Int) (name : ByteArray) (args : List Ty)
inductive Pa where
  | mk (kind at_ : Int) (name : ByteArray) (n : Int) (args : List Pa)
/-- a con as a declaration makes it -/
structure Co where
  at_ : Int
  name : ByteArray
  args : List Ty
mutual
inductive Ex where
  | mk (kind at_ : Int) (name : ByteArray) (n : Int) (args : List Ex) (pats : List Pa) (alts : List Al) (decls : List De)
inductive Al where
  | mk (pat : Pa) (body : Ex)
inductive De where
  | mk (kind at_ : Int) (name : ByteArray) (vars : List ByteArray) (cons : List Co) (type : Ty) (pats : List Pa) (body : Ex)
end

mutual
def Ty.row : Ty → List Dt
  | .mk k p n l => [.i k, .i p, .s n, .l 4 (Ty.rows l)]
def Ty.rows : List Ty → List (List Dt)
  | [] => []
  | t :: r => t.row :: Ty.rows r
end
mutual
def Pa.row : Pa → List Dt
  | .mk k p n m l => [.i k, .i p, .s n, .i m, .l 5 (Pa.rows l)]
def Pa.rows : List Pa → List (List Dt)
  | [] => []
  | t :: r => t.row :: Pa.rows r
end
def Co.row (c : Co) : List Dt := [.i c.at_, .s c.name, .l 4 (Ty.rows c.args)]
mutual
def Ex.row : Ex → List Dt
  | .mk k p n m l ps al ds => [.i k, .i p, .s n, .i m, .l 8 (Ex.rows l), .l 5 (Pa.rows ps), .l 13 (Al.rows al), .l 18 (De.rows ds)]
def Ex.rows : List Ex → List (List Dt)
  | [] => []
  | t :: r => t.row :: Ex.rows r
def Al.row : Al → List Dt
  | .mk p e => p.row ++ e.row
def Al.rows : List Al → List (List Dt)
  | [] => []
  | t :: r => t.row :: Al.rows r
def De.row : De → List Dt
  | .mk k p n vs cs t ps e => [.i k, .i p, .s n, .l 1 (vs.map fun v => [.s v]), .l 3 (cs.map Co.row)] ++ (t.row ++ (.l 5 (Pa.rows ps) :: e.row))
def De.rows : List De → List (List Dt)
  | [] => []
  | t :: r => t.row :: De.rows r
end
theorem Ty.rows_map : ∀ l : List Ty, Ty.rows l = l.map Ty.row
  | [] => by unfold Ty.rows; rfl
  | t :: r => by unfold Ty.rows; rw [Ty.rows_map r]; rfl
theorem Pa.rows_map : ∀ l : List Pa, Pa.rows l = l.map Pa.row
  | [] => by unfold Pa.rows; rfl
  | t :: r => by unfold Pa.rows; rw [Pa.rows_map r]; rfl
theorem Ex.rows_map : ∀ l : List Ex, Ex.rows l = l.map Ex.row
  | [] => by unfold Ex.rows; rfl
  | t :: r => by unfold Ex.rows; rw [Ex.rows_map r]; rfl
theorem Al.rows_map : ∀ l : List Al, Al.rows l = l.map Al.row
  | [] => by unfold Al.rows; rfl
  | t :: r => by unfold Al.rows; rw [Al.rows_map r]; rfl
theorem De.rows_map : ∀ l : List De, De.rows l = l.map De.row
  | [] => by unfold De.rows; rfl
  | t :: r => by unfold De.rows; rw [De.rows_map r]; rfl

/-- any block -/
def Any : Nat → Prop := fun _ => True
-- lists that are no longer than a million
mutual
def Ty.ok : Ty → Prop
  | .mk _ _ _ l => l.length ≤ 1000000 ∧ Ty.oks l
def Ty.oks : List Ty → Prop
  | [] => True
  | t :: r => t.ok ∧ Ty.oks r
end
mutual
def Pa.ok : Pa → Prop
  | .mk _ _ _ _ l => l.length ≤ 1000000 ∧ Pa.oks l
def Pa.oks : List Pa → Prop
  | [] => True
  | t :: r => t.ok ∧ Pa.oks r
end
theorem Ty.oks_get : ∀ (l : List Ty) (k : Nat) (t : Ty), Ty.oks l → l[k]? = some t → t.ok
  | [], k, t, _, h => by simp at h
  | x :: r, 0, t, ho, h => by simp at h; subst h; unfold Ty.oks at ho; exact ho.1
  | x :: r, k + 1, t, ho, h => by unfold Ty.oks at ho; exact Ty.oks_get r k t ho.2 (by simpa using h)
theorem Pa.oks_get : ∀ (l : List Pa) (k : Nat) (t : Pa), Pa.oks l → l[k]? = some t → t.ok
  | [], k, t, _, h => by simp at h
  | x :: r, 0, t, ho, h => by simp at h; subst h; unfold Pa.oks at ho; exact ho.1
  | x :: r, k + 1, t, ho, h => by unfold Pa.oks at ho; exact Pa.oks_get r k t ho.2 (by simpa using h)
-- weights
mutual
def Ty.wt : Ty → Nat
  | .mk _ _ _ l => Ty.wts l + 1
def Ty.wts : List Ty → Nat
  | [] => 1
  | t :: r => t.wt + Ty.wts r + 1
end
mutual
def Pa.wt : Pa → Nat
  | .mk _ _ _ _ l => Pa.wts l + 1
def Pa.wts : List Pa → Nat
  | [] => 1
  | t :: r => t.wt + Pa.wts r + 1
end
mutual
def Ex.wt : Ex → Nat
  | .mk _ _ _ _ l _ al ds => Ex.wts l + Al.wts al + De.wts ds + 1
def Ex.wts : List Ex → Nat
  | [] => 1
  | t :: r => t.wt + Ex.wts r + 1
def Al.wt : Al → Nat
  | .mk _ e => e.wt + 3
def Al.wts : List Al → Nat
  | [] => 1
  | t :: r => t.wt + Al.wts r + 1
def De.wt : De → Nat
  | .mk _ _ _ _ _ _ _ e => e.wt + 3
def De.wts : List De → Nat
  | [] => 1
  | t :: r => t.wt + De.wts r + 1
end
theorem Ty.wts_get : ∀ (l : List Ty) (k : Nat) (t : Ty), l[k]? = some t → t.wt < Ty.wts l
  | [], k, t, h => by simp at h
  | x :: r, 0, t, h => by simp at h; subst h; unfold Ty.wts; omega
  | x :: r, k + 1, t, h => by have := Ty.wts_get r k t (by simpa using h); unfold Ty.wts; omega
theorem Pa.wts_get : ∀ (l : List Pa) (k : Nat) (t : Pa), l[k]? = some t → t.wt < Pa.wts l
  | [], k, t, h => by simp at h
  | x :: r, 0, t, h => by simp at h; subst h; unfold Pa.wts; omega
  | x :: r, k + 1, t, h => by have := Pa.wts_get r k t (by simpa using h); unfold Pa.wts; omega
theorem Ex.wts_get : ∀ (l : List Ex) (k : Nat) (t : Ex), l[k]? = some t → t.wt < Ex.wts l
  | [], k, t, h => by simp at h
  | x :: r, 0, t, h => by simp at h; subst h; unfold Ex.wts; omega
  | x :: r, k + 1, t, h => by have := Ex.wts_get r k t (by simpa using h); unfold Ex.wts; omega
theorem Al.wts_get : ∀ (l : List Al) (k : Nat) (t : Al), l[k]? = some t → t.wt < Al.wts l
  | [], k, t, h => by simp at h
  | x :: r, 0, t, h => by simp at h; subst h; unfold Al.wts; omega
  | x :: r, k + 1, t, h => by have := Al.wts_get r k t (by simpa using h); unfold Al.wts; omega
theorem De.wts_get : ∀ (l : List De) (k : Nat) (t : De), l[k]? = some t → t.wt < De.wts l
  | [], k, t, h => by simp at h
  | x :: r, 0, t, h => by simp at h; subst h; unfold De.wts; omega
  | x :: r, k + 1, t, h => by have := De.wts_get r k t (by simpa using h); unfold De.wts; omega

-- how many parts are left of so many behind some types; below 0: too many
mutual
def Ty.few : Ty → Int → Int
  | .mk k p n l, left => Ty.fews l (wrap64 (wrap64 (left - 1) - (n.size : Int) / 100))
def Ty.fews : List Ty → Int → Int
  | [], left => left
  | t :: r, left => if left < 0 then left else Ty.fews r (t.few left)
end
mutual
def Pa.few : Pa → Int → Int
  | .mk k p n m l, left => Pa.fews l (wrap64 (wrap64 (left - 1) - (n.size : Int) / 100))
def Pa.fews : List Pa → Int → Int
  | [], left => left
  | t :: r, left => if left < 0 then left else Pa.fews r (t.few left)
end
-- the same but for places
mutual
def Ty.same : Ty → Ty → Bool
  | .mk k _ n l, .mk k' _ n' l' => k == k' && (n.data.toList == n'.data.toList && Ty.sames l l')
def Ty.sames : List Ty → List Ty → Bool
  | [], [] => true
  | t :: r, t' :: r' => t.same t' && Ty.sames r r'
  | _, _ => false
end
def Ty.args : Ty → List Ty
  | .mk _ _ _ l => l

mutual
def Pa.same : Pa → Pa → Bool
  | .mk k _ n m l, .mk k' _ n' m' l' => k == k' && (n.data.toList == n'.data.toList && (m == m' && Pa.sames l l'))
def Pa.sames : List Pa → List Pa → Bool
  | [], [] => true
  | t :: r, t' :: r' => t.same t' && Pa.sames r r'
  | _, _ => false
end
/-- a slice of types -/
structure IsTys (w : World) (P : Nat → Prop) (v : Value) (l : List Ty) : Prop where
  out : IsC w P (.l 4 (Ty.rows l)) v
/-- a type's cells -/
structure IsTy (w : World) (P : Nat → Prop) (a : Addr) (t : Ty) : Prop where
  out : IsRow w P t.row a
theorem IsTys.on {P : Nat → Prop} {w w' : World} {v : Value} {l : List Ty} (h : IsTys w P v l) (hb : Below w.heap.size w w') : IsTys w' P v l := ⟨IsC.on hb _ _ h.out⟩
theorem IsTy.on {P : Nat → Prop} {w w' : World} {a : Addr} {t : Ty} (h : IsTy w P a t) (hb : Below w.heap.size w w') : IsTy w' P a t := ⟨IsRow.on hb _ _ h.out⟩
theorem IsTys.form {P : Nat → Prop} {w : World} {v : Value} {l : List Ty} (h : IsTys w P v l) : ∃ ao cap, v = .slice ao l.length cap ∧ l.length ≤ cap ∧ cap ≤ maxLen := by
  have h' := h.out
  unfold IsC at h'
  rw [Ty.rows_map, List.length_map] at h'
  rcases h' with ⟨rfl, h1⟩ | ⟨a, cap, rfl, h2, h3, _, _⟩
  · have : l = [] := List.map_eq_nil_iff.1 h1
    subst this
    exact ⟨none, 0, rfl, Nat.le_refl _, Nat.zero_le _⟩
  · exact ⟨some a, cap, rfl, h2, h3⟩
/-- the k-th type's cells -/
theorem IsTys.at {P : Nat → Prop} {w : World} {ao : Option Addr} {n cap : Nat} {l : List Ty} (h : IsTys w P (.slice ao n cap) l) {k : Nat} {t : Ty} (hk : l[k]? = some t) :
    ∃ a, ao = some a ∧ n = l.length ∧ IsTy w P (a.add (k * 4)) t := by
  have h' := h.out
  unfold IsC at h'
  rw [Ty.rows_map, List.length_map] at h'
  rcases h' with ⟨h1, h0⟩ | ⟨a, cap', h1, h2, h3, hpp, h4⟩
  · have : l = [] := List.map_eq_nil_iff.1 h0
    subst this
    simp at hk
  · injection h1 with e1 e2 _
    exact ⟨a, e1, e2, ⟨h4.get _ a k _ (by rw [List.getElem?_map, hk]; rfl)⟩⟩
/-- a type's cells, one by one -/
theorem IsTy.cells {P : Nat → Prop} {w : World} {E : Addr} {k p : Int} {n : ByteArray} {l : List Ty} (h : IsTy w P E (.mk k p n l)) :
    w.cell? E = some (.int .i64 k) ∧ w.cell? ⟨E.block, E.off + 1, none⟩ = some (.int .i64 p) ∧ w.cell? ⟨E.block, E.off + 2, none⟩ = some (.string n) ∧ n.size ≤ maxLen ∧
      ∃ ao cap, w.cell? ⟨E.block, E.off + 3, none⟩ = some (.slice ao l.length cap) ∧ l.length ≤ cap ∧ cap ≤ maxLen ∧ IsTys w P (.slice ao l.length cap) l := by
  have h := h.out
  unfold Ty.row at h
  unfold IsRow at h
  obtain ⟨⟨v0, c0, h0⟩, h⟩ := h
  unfold IsRow at h
  obtain ⟨⟨v1, c1, h1⟩, h⟩ := h
  unfold IsRow at h
  obtain ⟨⟨v2, c2, h2⟩, h⟩ := h
  unfold IsRow at h
  obtain ⟨⟨v3, c3, h3⟩, h⟩ := h
  rw [add_add2] at c2 c3
  rw [add_add2] at c3
  rw [add_off _ _ (by decide)] at c1 c2 c3
  unfold IsC at h0 h1 h2
  obtain ⟨h2, h2'⟩ := h2
  subst h0 h1 h2
  obtain ⟨ao, cap, rfl, x1, x2⟩ := IsTys.form ⟨h3⟩
  exact ⟨c0, c1, c2, h2', ao, cap, c3, x1, x2, ⟨h3⟩⟩
end Go.Proofs.YtkdhoelabomgkaaGreatDoor
