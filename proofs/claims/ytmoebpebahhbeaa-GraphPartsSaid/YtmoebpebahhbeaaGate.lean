/-
  A region that draws its order and ends in a store into what it reads: reads may be taken first while what they read stands as it was (S), that is until the operation that waits for them all (the gate) comes up. No walk of the program's; over any program.
-/
import Derived.Test.YtmoebpebahhbeaaPlan
import Derived.OrdersHeld
namespace Go.Proofs.Ytmoebpebahhbeaa
set_option linter.unusedVariables false

section
variable {P : Program} {ops : Array Oper} {md : Region.Mode} {S : World → Prop} {n : Nat} {Q : Exit → Act → World → Prop}

def wpAnyG (P : Program) (md : Region.Mode) (ops : Array Oper) (Q : Exit → Act → World → Prop) (S : World → Prop) (n : Nat) : Nat → Array Bool → Act → World → Prop
  | 0, listed, a, w => Region.ready md ops listed = [] ∧ Q .normal a w
  | fuel + 1, listed, a, w =>
    (Region.ready md ops listed = [] → Q .normal a w) ∧
    ∀ i ∈ Region.ready md ops listed, wpOp P ops Q i (fun a' w' => ((listed.setIfInBounds i true).getD n false = false → S w') ∧ wpAnyG P md ops Q S n fuel (listed.setIfInBounds i true) a' w') a w
theorem wpAny_of_G : ∀ (fuel : Nat) (listed : Array Bool) (a : Act) (w : World), wpAnyG P md ops Q S n fuel listed a w → wpAny P md ops Q fuel listed a w
  | 0, _, _, _, h => h
  | fuel + 1, _, _, _, h => ⟨h.1, fun i hi => wpOp_mono (fun a' w' h' => wpAny_of_G fuel _ a' w' h'.2) (h.2 i hi)⟩

/-- what has come up: closed under what it waits for -/
structure Shut (md : Region.Mode) (ops : Array Oper) (listed : Array Bool) : Prop where
  size : listed.size = ops.size
  closed : ∀ j oj, ops[j]? = some oj → listed.getD j false = true → ∀ e ∈ oj.after, Region.binds md e = true → listed.getD e.on false = true
theorem Shut.set {i : Nat} {listed : Array Bool} (inv : Shut md ops listed) (hi : i ∈ Region.ready md ops listed) : Shut md ops (listed.setIfInBounds i true) := by
  obtain ⟨_, oi, hoi, hall⟩ := mem_ready.1 hi
  refine ⟨by simp [inv.size], fun j oj hj hl e he hb => ?_⟩
  by_cases hij : i = j
  · subst hij
    have : oj = oi := Option.some.inj (hj.symm.trans hoi)
    subst this
    exact getD_set_true (hall e he hb)
  · rw [getD_set_ne false hij] at hl
    exact getD_set_true (inv.closed j oj hj hl e he hb)
def reachB (md : Region.Mode) (ops : Array Oper) (i : Nat) : Nat → Nat → Bool
  | 0, _ => false
  | f + 1, j => match ops[j]? with
    | none => false
    | some o => o.after.any fun e => Region.binds md e && (e.on == i || reachB md ops i f e.on)
theorem reachB_spec {i : Nat} {listed : Array Bool} (inv : Shut md ops listed) : ∀ (f j : Nat), reachB md ops i f j = true → listed.getD j false = true → listed.getD i false = true
  | 0, _, h, _ => by cases h
  | f + 1, j, h, hl => by
    unfold reachB at h
    split at h
    · cases h
    · rename_i o ho
      obtain ⟨e, he, hb⟩ := Array.any_eq_true'.1 h
      simp only [Bool.and_eq_true, Bool.or_eq_true, beq_iff_eq] at hb
      have h1 := inv.closed j o ho hl e he hb.1
      rcases hb.2 with h2 | h2
      · rw [← h2]; exact h1
      · exact reachB_spec inv f e.on h2 h1

theorem G_first {T : World → Prop} {i : Nat} {oi : Oper} {v : Value} (hin : i ≠ n) (hi : ops[i]? = some oi) (hsel : ∀ (j : Nat) (o : Oper) cs b, ops[j]? = some o → o.op ≠ .select cs b)
    (hQ : ∀ c a w, Q (.panic c) (a.put oi.dst v) w → Q (.panic c) a w)
    (hT : ∀ (listed : Array Bool) (w : World), Shut md ops listed → listed.getD i true = false → (listed.getD n false = false → S w) → T w) :
    ∀ (fuel : Nat) (listed : Array Bool) (a : Act) (w : World), Shut md ops listed →
      (∀ j oj, ops[j]? = some oj → j ≠ i → listed.getD j true = false → (∀ e ∈ oj.after, Region.binds md e = true → e.on ≠ i) → oi.apart ops oj = true) →
      i ∈ Region.ready md ops listed → YieldsIf P ops T oi v a → (listed.getD n false = false → S w) →
      wpAnyG P md ops Q S n fuel (listed.setIfInBounds i true) (a.put oi.dst v) w → wpAnyG P md ops Q S n (fuel + 1) listed a w := by
  intro fuel
  induction fuel with
  | zero =>
    intro listed a w inv _ hr hy hS H
    refine ⟨fun h => (by rw [h] at hr; cases hr), fun j hj => ?_⟩
    by_cases hji : j = i
    · subst hji; exact hy.wpOp hi (hT _ _ inv (mem_ready.1 hr).1 hS) ⟨fun h => hS (by rwa [getD_set_ne false hin] at h), H⟩
    · have := ready_mono hj hji
      rw [H.1] at this
      cases this
  | succ fuel ih =>
    intro listed a w inv hfree hr hy hS H
    refine ⟨fun h => (by rw [h] at hr; cases hr), fun j hj => ?_⟩
    by_cases hji : j = i
    · subst hji; exact hy.wpOp hi (hT _ _ inv (mem_ready.1 hr).1 hS) ⟨fun h => hS (by rwa [getD_set_ne false hin] at h), H⟩
    · have h1 := H.2 j (ready_mono hj hji)
      obtain ⟨hjun, oj, hoj, hall⟩ := mem_ready.1 hj
      have hnot : ∀ e ∈ oj.after, Region.binds md e = true → e.on ≠ i := fun e he hb heq => by
        have h1 := hall e he hb
        have h0 := (mem_ready.1 hr).1
        rw [heq, getD_both h0] at h1
        cases h1
      have h2 := wpOp_putIf hoj (hfree j oj hoj hji hjun hnot) (fun cs b => hsel i oi cs b hi) (fun cs b => hsel j oj cs b hoj) hQ hy h1
      have hfree' : ∀ k ok, ops[k]? = some ok → k ≠ i → (listed.setIfInBounds j true).getD k true = false →
          (∀ e ∈ ok.after, Region.binds md e = true → e.on ≠ i) → oi.apart ops ok = true := fun k ok hk hki hun hno => by
        refine hfree k ok hk hki ?_ hno
        by_cases hjk : j = k
        · subst hjk; exact hjun
        · rw [getD_set_ne true hjk] at hun; exact hun
      refine wpOp_mono (fun a' w' h3 => ?_) h2
      obtain ⟨hy', hS', h4⟩ := h3
      have hS2 : (listed.setIfInBounds j true).getD n false = false → S w' := fun hlow => hS' (by
        rw [Array.setIfInBounds_comm _ _ (Ne.symm hji), getD_set_ne false hin]
        exact hlow)
      exact ⟨hS2, ih (listed.setIfInBounds j true) a' w' (inv.set hj) hfree' (ready_mono hr (Ne.symm hji)) hy' hS2 (by rw [Array.setIfInBounds_comm _ _ hji]; exact h4)⟩

/-- the state of a walk: what has come up, and that S holds while the gate has not -/
structure AtG (P : Program) (md : Region.Mode) (ops : Array Oper) (Q : Exit → Act → World → Prop) (S : World → Prop) (n fuel : Nat) (listed : Array Bool) (a : Act) (w : World) : Prop where
  out : Shut md ops listed → (listed.getD n false = false → S w) → wpAnyG P md ops Q S n fuel listed a w
theorem at_of_drop {i : Nat} {oi : Oper} {rest : List Oper} (hi : ops.toList.drop i = oi :: rest) : ops[i]? = some oi := by
  have := congrArg (fun l : List Oper => l[0]?) hi
  simpa [List.getElem?_drop] using this
/-- a read (of what S says, ahead of the gate) is taken first -/
theorem G_take {i : Nat} {oi : Oper} {v : Value} {fuel : Nat} {listed : Array Bool} {a : Act} {w : World} {rest : List Oper} (hd : ops.toList.drop i = oi :: rest)
    (hB : (Region.noSelect ops && (Region.free md ops listed i && ((Region.ready md ops listed).contains i && (i != n && reachB md ops i ops.size n)))) = true)
    (hQ : ∀ c a w, Q (.panic c) (a.put oi.dst v) w → Q (.panic c) a w) (hy : YieldsIf P ops S oi v a)
    (h : AtG P md ops Q S n fuel (listed.setIfInBounds i true) (a.put oi.dst v) w) : AtG P md ops Q S n (fuel + 1) listed a w := by
  have hi := at_of_drop hd
  simp only [Bool.and_eq_true, bne_iff_ne] at hB
  obtain ⟨hs, hf, hr, hin, hreach⟩ := hB
  have hr' : i ∈ Region.ready md ops listed := by simpa using hr
  refine ⟨fun inv hS => G_first (T := S) hin hi (Region.noSelect_spec hs) hQ (fun l' w' inv' hun hS' => hS' ?_) fuel listed a w inv (Region.free_spec hi hf) hr' hy hS (h.out (inv.set hr') fun h => hS (by rwa [getD_set_ne false hin] at h))⟩
  cases hl : l'.getD n false with
  | false => rfl
  | true =>
    have := reachB_spec inv' _ n hreach hl
    rw [getD_both hun] at this
    cases this
/-- a read of what S says, where S stands from the first operation to the last one (the gate n stands behind all): taken first -/
theorem G_hold {i : Nat} {oi : Oper} {v : Value} {fuel : Nat} {listed : Array Bool} {a : Act} {w : World} {rest : List Oper} (hd : ops.toList.drop i = oi :: rest)
    (hB : (Region.noSelect ops && (Region.free md ops listed i && ((Region.ready md ops listed).contains i && (i != n && decide (ops.size ≤ n))))) = true)
    (hQ : ∀ c a w, Q (.panic c) (a.put oi.dst v) w → Q (.panic c) a w) (hy : YieldsIf P ops S oi v a)
    (h : AtG P md ops Q S n fuel (listed.setIfInBounds i true) (a.put oi.dst v) w) : AtG P md ops Q S n (fuel + 1) listed a w := by
  have hi := at_of_drop hd
  simp only [Bool.and_eq_true, bne_iff_ne, decide_eq_true_eq] at hB
  obtain ⟨hs, hf, hr, hin, hsz⟩ := hB
  have hr' : i ∈ Region.ready md ops listed := by simpa using hr
  refine ⟨fun inv hS => G_first (T := S) hin hi (Region.noSelect_spec hs) hQ (fun l' w' inv' hun hS' => hS' ?_) fuel listed a w inv (Region.free_spec hi hf) hr' hy hS (h.out (inv.set hr') fun h => hS (by rwa [getD_set_ne false hin] at h))⟩
  have := inv'.size
  simp [Array.getD, show ¬ n < l'.size by omega]
/-- what looks at no memory is taken first -/
theorem G_pure {i : Nat} {oi : Oper} {v : Value} {fuel : Nat} {listed : Array Bool} {a : Act} {w : World} {rest : List Oper} (hd : ops.toList.drop i = oi :: rest)
    (hB : (Region.noSelect ops && (Region.free md ops listed i && ((Region.ready md ops listed).contains i && i != n))) = true)
    (hQ : ∀ c a w, Q (.panic c) (a.put oi.dst v) w → Q (.panic c) a w) (hy : YieldsIf P ops (fun _ => True) oi v a)
    (h : AtG P md ops Q S n fuel (listed.setIfInBounds i true) (a.put oi.dst v) w) : AtG P md ops Q S n (fuel + 1) listed a w := by
  have hi := at_of_drop hd
  simp only [Bool.and_eq_true, bne_iff_ne] at hB
  obtain ⟨hs, hf, hr, hin⟩ := hB
  have hr' : i ∈ Region.ready md ops listed := by simpa using hr
  exact ⟨fun inv hS => G_first (T := fun _ => True) hin hi (Region.noSelect_spec hs) hQ (fun _ _ _ _ _ => trivial) fuel listed a w inv (Region.free_spec hi hf) hr' hy hS (h.out (inv.set hr') fun h => hS (by rwa [getD_set_ne false hin] at h))⟩
/-- one alone may come up -/
theorem G_one {k : Nat} {o : Oper} {fuel : Nat} {listed : Array Bool} {a : Act} {w : World} {rest : List Oper} (hd : ops.toList.drop k = o :: rest) (hr : decide (Region.ready md ops listed = [k]) = true)
    (h : ∀ K : Act → World → Prop, (∀ a' w', ((listed.setIfInBounds k true).getD n false = false → S w') → AtG P md ops Q S n fuel (listed.setIfInBounds k true) a' w' → K a' w') → wpList P ops (Exit.then K Q) [o] a w) : AtG P md ops Q S n (fuel + 1) listed a w := by
  have hk := at_of_drop hd
  have hr := of_decide_eq_true hr
  refine ⟨fun inv hS => ⟨fun h0 => (by rw [hr] at h0; cases h0), fun i hi => ?_⟩⟩
  have hik : i = k := by rw [hr] at hi; simpa using hi
  subst hik
  have hw := h (fun a' w' => ((listed.setIfInBounds i true).getD n false = false → S w') ∧ wpAnyG P md ops Q S n fuel (listed.setIfInBounds i true) a' w') (fun a' w' h1 h2 => ⟨h1, h2.out (inv.set hi) h1⟩)
  unfold wpOp
  simp only [hk]
  exact hw
/-- one of two may come up -/
theorem G_two {k m : Nat} {o o' : Oper} {fuel : Nat} {listed : Array Bool} {a : Act} {w : World} {rest rest' : List Oper} (hd : ops.toList.drop k = o :: rest) (hd' : ops.toList.drop m = o' :: rest') (hr : decide (Region.ready md ops listed = [k, m]) = true)
    (h : ∀ K : Act → World → Prop, (∀ a' w', ((listed.setIfInBounds k true).getD n false = false → S w') → AtG P md ops Q S n fuel (listed.setIfInBounds k true) a' w' → K a' w') → wpList P ops (Exit.then K Q) [o] a w)
    (h' : ∀ K : Act → World → Prop, (∀ a' w', ((listed.setIfInBounds m true).getD n false = false → S w') → AtG P md ops Q S n fuel (listed.setIfInBounds m true) a' w' → K a' w') → wpList P ops (Exit.then K Q) [o'] a w) : AtG P md ops Q S n (fuel + 1) listed a w := by
  have hk := at_of_drop hd
  have hm := at_of_drop hd'
  have hr := of_decide_eq_true hr
  refine ⟨fun inv hS => ⟨fun h0 => (by rw [hr] at h0; cases h0), fun i hi => ?_⟩⟩
  have hik : i = k ∨ i = m := by rw [hr] at hi; simpa using hi
  rcases hik with e | e
  · subst e
    have hw := h (fun a' w' => ((listed.setIfInBounds i true).getD n false = false → S w') ∧ wpAnyG P md ops Q S n fuel (listed.setIfInBounds i true) a' w') (fun a' w' h1 h2 => ⟨h1, h2.out (inv.set hi) h1⟩)
    unfold wpOp
    simp only [hk]
    exact hw
  · subst e
    have hw := h' (fun a' w' => ((listed.setIfInBounds i true).getD n false = false → S w') ∧ wpAnyG P md ops Q S n fuel (listed.setIfInBounds i true) a' w') (fun a' w' h1 h2 => ⟨h1, h2.out (inv.set hi) h1⟩)
    unfold wpOp
    simp only [hm]
    exact hw
theorem G_done {listed : Array Bool} {a : Act} {w : World} (hr : decide (Region.ready md ops listed = []) = true) (h : wpList P ops Q [] a w) : AtG P md ops Q S n 0 listed a w :=
  ⟨fun _ _ => ⟨of_decide_eq_true hr, h⟩⟩
theorem wp_region_gate {id : Nat} {a : Act} {w : World} {l : List Oper} (S : World → Prop) (n : Nat) (hm : P.follows .mixedOrders = true) (hS : S { w with drawn := w.drawn + 1 })
    (h : AtG P .any l.toArray Q S n l.length (Array.replicate l.length false) a { w with drawn := w.drawn + 1 }) : (Code.region id l.toArray true).wp P Q a w := by
  refine wp_region_any hm ?_
  have := h.out ⟨by simp, fun j oj _ hl => (by rw [getD_replicate_false] at hl; cases hl)⟩ (fun _ => hS)
  simpa using wpAny_of_G _ _ _ _ this
end
end Go.Proofs.Ytmoebpebahhbeaa
