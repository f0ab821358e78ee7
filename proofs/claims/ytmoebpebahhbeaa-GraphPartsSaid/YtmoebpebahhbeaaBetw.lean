/-
  Layer 7, the program's side: between: of each group how many edges lead out of it, and from which groups edges lead to it.
-/
import Derived.Test.YtmoebpebahhbeaaNeeds
namespace Go.Proofs.Ytmoebpebahhbeaa
set_option linter.unusedVariables false
open Go.ChangeShapes Go.WideShapes Go.ChangeAt Go.RowKit

/-- of each group: how many edges lead out of it, from which groups edges lead to it -/
structure Bt where
  waits : List Nat
  users : List (List Nat)
/-- an edge between the groups g and t -/
def Bt.add (b : Bt) (g t : Nat) : Bt := if t = g then b else ⟨b.waits.set g (at0 b.waits g + 1), b.users.set t (ats b.users t ++ [g])⟩
/-- one node's edges: so many of them -/
def Bt.node (grp : List Nat) (b : Bt) (a : Nat) (l : List Nat) : Bt := l.foldl (fun b x => b.add (at0 grp a - 1) (at0 grp x - 1)) b
def Bt.nodes (grp : List Nat) (adj : List (List Nat)) (b : Bt) (k : Nat) : Bt := (List.range k).foldl (fun b a => Bt.node grp b a (ats adj a)) b
theorem Bt.node_snoc (grp : List Nat) (b : Bt) (a : Nat) (l : List Nat) (x : Nat) : Bt.node grp b a (l ++ [x]) = (Bt.node grp b a l).add (at0 grp a - 1) (at0 grp x - 1) := by simp [Bt.node]
theorem Bt.nodes_succ (grp : List Nat) (adj : List (List Nat)) (b : Bt) (k : Nat) : Bt.nodes grp adj b (k + 1) = Bt.node grp (Bt.nodes grp adj b k) k (ats adj k) := by simp [Bt.nodes, List.range_succ]
theorem Bt.add_len (b : Bt) (g t : Nat) : (b.add g t).waits.length = b.waits.length ∧ (b.add g t).users.length = b.users.length := by unfold Bt.add; split <;> simp
theorem Bt.node_len (grp : List Nat) (a : Nat) : ∀ (l : List Nat) (b : Bt), (Bt.node grp b a l).waits.length = b.waits.length ∧ (Bt.node grp b a l).users.length = b.users.length := by
  intro l
  induction l with
  | nil => intro b; exact ⟨rfl, rfl⟩
  | cons x l ih =>
    intro b
    have h1 := ih (b.add (at0 grp a - 1) (at0 grp x - 1))
    have h2 := b.add_len (at0 grp a - 1) (at0 grp x - 1)
    exact ⟨h1.1.trans h2.1, h1.2.trans h2.2⟩
theorem Bt.nodes_len (grp : List Nat) (adj : List (List Nat)) (b : Bt) : ∀ k, (Bt.nodes grp adj b k).waits.length = b.waits.length ∧ (Bt.nodes grp adj b k).users.length = b.users.length := by
  intro k
  induction k with
  | zero => exact ⟨rfl, rfl⟩
  | succ k ih =>
    rw [Bt.nodes_succ]
    have h := Bt.node_len grp k (ats adj k) (Bt.nodes grp adj b k)
    exact ⟨h.1.trans ih.1, h.2.trans ih.2⟩
/-- all told is no longer than so -/
def Bt.Sm (b : Bt) (k : Nat) : Prop := (∀ i, at0 b.waits i ≤ k) ∧ ∀ i, (ats b.users i).length ≤ k
theorem Bt.Sm.add {b : Bt} {k g t : Nat} (h : b.Sm k) (hg : g < b.waits.length) (ht : t < b.users.length) : (b.add g t).Sm (k + 1) := by
  unfold Bt.add
  by_cases e : t = g
  · rw [if_pos e]
    exact ⟨fun i => Nat.le_succ_of_le (h.1 i), fun i => Nat.le_succ_of_le (h.2 i)⟩
  · rw [if_neg e]
    refine ⟨fun i => ?_, fun i => ?_⟩
    · show at0 (b.waits.set g (at0 b.waits g + 1)) i ≤ k + 1
      rw [at0_set hg]
      by_cases e2 : i = g
      · rw [e2, upd_eq]; have := h.1 g; omega
      · rw [upd_ne e2]; have := h.1 i; omega
    · show (ats (b.users.set t (ats b.users t ++ [g])) i).length ≤ k + 1
      rw [ats_set ht]
      by_cases e2 : i = t
      · rw [if_pos e2, List.length_append]; have := h.2 t; simp; omega
      · rw [if_neg e2]; have := h.2 i; omega
/-- both in memory: the waits in a block tagged 12, the users' rows each in a block of its own -/
structure BRep (B : Nat) (O : Nat → Nat) (vw vu : Value) (us : List Value) (b : Bt) (w : World) : Prop where
  wt : w.ownsRow B 3 1 vw b.waits.length (nv b.waits)
  ut : w.ownsRow B 30 1 vu b.users.length us
  row : ∀ (i : Nat) (u : Value) (l : List Nat), us[i]? = some u → b.users[i]? = some l → w.ownsRow B 3 1 u l.length (nv l)
  tw : ∀ k, vw.ownBlock = some k → O k = 12
  tu : ∀ k, vu.ownBlock = some k → O k = 13
  tr : ∀ (i : Nat) (u : Value), us[i]? = some u → ∀ k, u.ownBlock = some k → O k = 100 + i
  low : ∀ k, O k = 12 ∨ O k = 13 ∨ 100 ≤ O k → B ≤ k
/-- what between may write -/
def BMine (O : Nat → Nat) (k : Nat) : Prop := O k = 12 ∨ O k = 13 ∨ 100 ≤ O k
section
variable {B : Nat} {O : Nat → Nat} {vw vu : Value} {us : List Value} {b : Bt} {w w1 : World}
theorem BRep.fx {S : Nat → Prop} (h : BRep B O vw vu us b w) (hf : Fx S w w1) (hn : ∀ k, BMine O k → ¬ S k) : BRep B O vw vu us b w1 :=
  ⟨fx_row h.wt hf fun k hk => hn k (.inl (h.tw k hk)), fx_row h.ut hf fun k hk => hn k (.inr (.inl (h.tu k hk))), fun i u l h1 h2 => fx_row (h.row i u l h1 h2) hf fun k hk => hn k (.inr (.inr (by rw [h.tr i u h1 k hk]; omega))), h.tw, h.tu, h.tr, h.low⟩
theorem BRep.ulen (h : BRep B O vw vu us b w) : us.length = b.users.length := by have := h.ut.1; omega
/-- one more leads out of g -/
theorem BRep.wait (h : BRep B O vw vu us b w) {gw cap g : Nat} (hv : vw = .slice (some ⟨gw, 0, none⟩) b.waits.length cap) (x : Nat) : BRep B O vw vu us ⟨b.waits.set g x, b.users⟩ (w.setCell ⟨gw, g, none⟩ (.int .i64 (x : Int))) ∧ Fx (BMine O) w (w.setCell ⟨gw, g, none⟩ (.int .i64 (x : Int))) := by
  have hg : O gw = 12 := h.tw gw (by rw [hv]; rfl)
  have hx : Fx (fun k => O k = 12) w (w.setCell ⟨gw, g, none⟩ (.int .i64 (x : Int))) := Fx.set w gw g _ hg
  refine ⟨⟨?_, fx_row h.ut hx fun k hk => by rw [h.tu k hk]; omega, fun i u l h1 h2 => fx_row (h.row i u l h1 h2) hx fun k hk => by rw [h.tr i u h1 k hk]; omega, h.tw, h.tu, h.tr, h.low⟩, hx.mono fun k _ hk => .inl hk⟩
  have hw := h.wt
  rw [hv] at hw ⊢
  have := (hw.stored g (.int .i64 (x : Int))).1
  show (w.setCell _ _).ownsRow B _ 1 _ (b.waits.set g x).length (nv (b.waits.set g x))
  rw [nv_set, List.length_set]
  exact this
/-- one more leads to t -/
theorem BRep.user (h : BRep B O vw vu us b w) {gu cap t g : Nat} {u u' : Value} (hv : vu = .slice (some ⟨gu, 0, none⟩) b.users.length cap) (ha : us[t]? = some u)
    (o5 : w1.ownsRow B 3 1 u' ((ats b.users t).length + 1) (nv (ats b.users t) ++ [.int .i64 (g : Int)])) (x5 : Fx (fun k => u.ownBlock = some k) w w1) (a5 : ∀ k, u'.ownBlock = some k → u.ownBlock = some k ∨ w.heap.size ≤ k) (hB : B ≤ w.heap.size) :
    BRep B (retag O w.heap.size (100 + t)) vw vu (us.set t u') ⟨b.waits, b.users.set t (ats b.users t ++ [g])⟩ (w1.setCell ⟨gu, t, none⟩ u') ∧ Fx (BMine O) w (w1.setCell ⟨gu, t, none⟩ u') := by
  have hg : O gu = 13 := h.tu gu (by rw [hv]; rfl)
  have hgw : gu < w.heap.size := (h.ut.lt gu (by rw [hv]; rfl)).2
  have hal : t < us.length := (List.getElem?_eq_some_iff.1 ha).1
  have hbl : t < b.users.length := by rw [← h.ulen]; exact hal
  have hl : b.users[t]? = some (ats b.users t) := by unfold ats; simp [List.getD, List.getElem?_eq_getElem hbl]
  have hua := h.tr t u ha
  have hrow := h.row t u _ ha hl
  have tu : ∀ k, u'.ownBlock = some k → retag O w.heap.size (100 + t) k = 100 + t := retag_own hua (fun k hk => (hrow.lt k hk).2) a5
  have hx1 : Fx (fun k => O k = 100 + t) w w1 := x5.mono fun k _ hk => hua k hk
  have hs1 : Fx (fun k => k = gu) w1 (w1.setCell ⟨gu, t, none⟩ u') := Fx.set w1 gu t u' rfl
  have old : ∀ (i : Nat) (u2 : Value), us[i]? = some u2 → ∀ k, u2.ownBlock = some k → k < w.heap.size := fun i u2 h1 k hk => by
    have hi := (List.getElem?_eq_some_iff.1 h1).1
    exact ((h.row i u2 _ h1 (List.getElem?_eq_getElem (by rw [← h.ulen]; exact hi))).lt k hk).2
  refine ⟨⟨?_, ?_, fun i u2 l2 h1 h2 => ?_, fun k hk => ?_, fun k hk => ?_, fun i u2 h1 k hk => ?_, fun k hk => ?_⟩, ?_⟩
  · exact fx_row (fx_row h.wt hx1 fun k hk => by rw [h.tw k hk]; omega) hs1 fun k hk e => by have := h.tw k hk; rw [e] at this; omega
  · have h1 := fx_row h.ut hx1 fun k hk => by rw [h.tu k hk]; omega
    rw [hv] at h1 ⊢
    have := (h1.stored t u').1
    show (w1.setCell _ _).ownsRow B _ 1 _ (b.users.set t (ats b.users t ++ [g])).length _
    rw [List.length_set]
    exact this
  · by_cases e : i = t
    · subst e
      have e1 : u2 = u' := by
        rw [List.getElem?_set_self hal] at h1
        exact (Option.some.inj h1).symm
      have e2 : l2 = ats b.users i ++ [g] := by
        have h2' : (b.users.set i (ats b.users i ++ [g]))[i]? = some l2 := h2
        rw [List.getElem?_set_self hbl] at h2'
        exact (Option.some.inj h2').symm
      subst e1 e2
      refine fx_row (by rw [nv_append, List.length_append]; exact o5) hs1 fun k hk e => ?_
      have := tu k hk
      rw [e, retag_old hgw] at this
      omega
    · have h2' : (b.users.set t (ats b.users t ++ [g]))[i]? = some l2 := h2
      rw [List.getElem?_set_ne (Ne.symm e)] at h1 h2'
      refine fx_row (fx_row (h.row i u2 l2 h1 h2') hx1 fun k hk => by rw [h.tr i u2 h1 k hk]; omega) hs1 fun k hk e2 => ?_
      have := h.tr i u2 h1 k hk
      rw [e2] at this
      omega
  · rw [retag_old (h.wt.lt k hk).2]; exact h.tw k hk
  · rw [retag_old (h.ut.lt k hk).2]; exact h.tu k hk
  · by_cases e : i = t
    · subst e
      have e1 : u2 = u' := by
        rw [List.getElem?_set_self hal] at h1
        exact (Option.some.inj h1).symm
      subst e1
      exact tu k hk
    · rw [List.getElem?_set_ne (Ne.symm e)] at h1
      rw [retag_old (old i u2 h1 k hk)]
      exact h.tr i u2 h1 k hk
  · by_cases hkw : k < w.heap.size
    · rw [retag_old hkw] at hk; exact h.low k hk
    · omega
  · exact (hx1.mono (T := BMine O) fun k _ hk => .inr (.inr (by omega))).trans (hs1.mono (T := BMine O) fun k _ hk => .inr (.inl (by rw [hk, hg]))) fun _ _ h => h
end
end Go.Proofs.Ytmoebpebahhbeaa
