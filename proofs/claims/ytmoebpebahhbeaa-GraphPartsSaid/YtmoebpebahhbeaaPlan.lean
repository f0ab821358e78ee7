/-
  A region that draws its order, cut into waves: reads in whatever order, then a few operations one behind the other (a call, what takes its answer), then the next wave. No walk of the program's; over any program.
-/
import Derived.Test.YtmoebpebahhbeaaProg
import Derived.StillTail
import Derived.StillTailTactics
import Derived.Lib.Hide
namespace Go.Proofs.Ytmoebpebahhbeaa
set_option linter.unusedVariables false

/-- a statement that nothing lays open by itself -/
structure Wrapped (p : Prop) : Prop where
  out : p
section
variable {P : Program} {ops : Array Oper} {md : Region.Mode} {w : World}

/-- each of the wave (from k on) is waited for by one behind it; the list ends with what stands behind the wave -/
def sinkGo (md : Region.Mode) (k : Nat) : Nat → List Oper → Bool
  | _, [] => true
  | i, _ :: r => (r.isEmpty || decide (i < k) || r.any fun o => o.after.any fun e => Region.binds md e && e.on == i) && sinkGo md k (i + 1) r
/-- all behind n waits for something from n on -/
def gateGo (md : Region.Mode) (n : Nat) : Nat → List Oper → Bool
  | _, [] => true
  | t, o :: r => (decide (t ≤ n) || o.after.any fun e => Region.binds md e && decide (n ≤ e.on)) && gateGo md n (t + 1) r
/-- each waits for such as stand ahead of it alone -/
def lowGo (md : Region.Mode) : Nat → List Oper → Bool
  | _, [] => true
  | k, o :: r => (o.after.all fun e => !Region.binds md e || decide (e.on < k)) && lowGo md (k + 1) r
/-- the next h commute with whatever stands behind and does not wait for them -/
def freeGo (md : Region.Mode) (ops : Array Oper) : Nat → Nat → List Oper → Bool
  | 0, _, _ => true
  | _ + 1, _, [] => true
  | h + 1, i, o :: r => (r.all fun x => (x.after.any fun e => Region.binds md e && e.on == i) || o.apart ops x) && freeGo md ops h (i + 1) r
theorem sinkGo_spec {k : Nat} : ∀ (l : List Oper) (i : Nat), sinkGo md k i l = true → ∀ j, j + 1 < l.length → k ≤ i + j → ∃ t o e, l[t]? = some o ∧ j < t ∧ e ∈ o.after ∧ Region.binds md e = true ∧ e.on = i + j
  | [], i, h, j, hj, _ => by simp at hj
  | o :: r, i, h, j, hj, hk => by
    simp only [sinkGo, Bool.and_eq_true] at h
    cases j with
    | zero =>
      have h1 := h.1
      simp only [Bool.or_eq_true, decide_eq_true_eq, List.isEmpty_iff] at h1
      rcases h1 with (h1 | h1) | h1
      · subst h1; simp at hj
      · omega
      · obtain ⟨x, hx, hx2⟩ := List.any_eq_true.1 h1
        obtain ⟨e, he, hb⟩ := Array.any_eq_true'.1 hx2
        simp only [Bool.and_eq_true, beq_iff_eq] at hb
        obtain ⟨t, ht⟩ := List.getElem?_of_mem hx
        exact ⟨t + 1, x, e, by simpa using ht, by omega, he, hb.1, by omega⟩
    | succ j =>
      obtain ⟨t, x, e, h1, h2, h3, h4, h5⟩ := sinkGo_spec r (i + 1) h.2 j (by simp at hj ⊢; omega) (by omega)
      exact ⟨t + 1, x, e, by simpa using h1, by omega, h3, h4, by omega⟩
theorem gateGo_spec {n : Nat} : ∀ (l : List Oper) (i : Nat), gateGo md n i l = true → ∀ j o, l[j]? = some o → n < i + j → ∃ e ∈ o.after, Region.binds md e = true ∧ n ≤ e.on
  | [], i, h, j, o, hj, _ => by simp at hj
  | x :: r, i, h, j, o, hj, hk => by
    simp only [gateGo, Bool.and_eq_true] at h
    cases j with
    | zero =>
      simp at hj
      subst hj
      have h1 := h.1
      simp only [Bool.or_eq_true, decide_eq_true_eq] at h1
      rcases h1 with h1 | h1
      · omega
      · obtain ⟨e, he, hb⟩ := Array.any_eq_true'.1 h1
        simp only [Bool.and_eq_true, decide_eq_true_eq] at hb
        exact ⟨e, he, hb.1, hb.2⟩
    | succ j => exact gateGo_spec r (i + 1) h.2 j o (by simpa using hj) (by omega)
theorem lowGo_spec : ∀ (l : List Oper) (i : Nat), lowGo md i l = true → ∀ j o, l[j]? = some o → ∀ e ∈ o.after, Region.binds md e = true → e.on < i + j
  | [], i, h, j, o, hj => by simp at hj
  | x :: r, i, h, j, o, hj => by
    simp only [lowGo, Bool.and_eq_true] at h
    cases j with
    | zero =>
      simp at hj
      subst hj
      intro e he hb
      have h1 := Array.all_eq_true'.1 h.1 e he
      simp only [hb, Bool.not_true, Bool.false_or, decide_eq_true_eq] at h1
      omega
    | succ j => intro e he hb; have := lowGo_spec r (i + 1) h.2 j o (by simpa using hj) e he hb; omega
theorem freeGo_spec : ∀ (l : List Oper) (h i : Nat), freeGo md ops h i l = true → ∀ j o, j < h → l[j]? = some o → ∀ t x, j < t → l[t]? = some x → (∀ e ∈ x.after, Region.binds md e = true → e.on ≠ i + j) → o.apart ops x = true
  | [], h, i, hB, j, o, hj, ho => by simp at ho
  | y :: r, 0, i, hB, j, o, hj, ho => by omega
  | y :: r, h + 1, i, hB, j, o, hj, ho => by
    simp only [freeGo, Bool.and_eq_true] at hB
    intro t x htj hx hno
    cases t with
    | zero => omega
    | succ t =>
      cases j with
      | zero =>
        simp at ho
        subst ho
        have h1 := List.all_eq_true.1 hB.1 x (List.mem_of_getElem? (by simpa using hx))
        simp only [Bool.or_eq_true] at h1
        rcases h1 with h1 | h1
        · obtain ⟨e, he, hb⟩ := Array.any_eq_true'.1 h1
          simp only [Bool.and_eq_true, beq_iff_eq] at hb
          exact absurd hb.2 (by have := hno e he hb.1; simpa using this)
        · exact h1
      | succ j => exact freeGo_spec r h (i + 1) hB.2 j o (by omega) (by simpa using ho) t x (by omega) (by simpa using hx) (fun e he hb => by have := hno e he hb; omega)
def Sinks (md : Region.Mode) (ops : Array Oper) (k n : Nat) : Prop := ∀ i, k ≤ i → i < n → ∃ j o e, ops[j]? = some o ∧ i < j ∧ j ≤ n ∧ e ∈ o.after ∧ Region.binds md e = true ∧ e.on = i
def Gates (md : Region.Mode) (ops : Array Oper) (n : Nat) : Prop := ∀ t o, ops[t]? = some o → n < t → ∃ e ∈ o.after, Region.binds md e = true ∧ n ≤ e.on ∧ e.on < t
def Lows (md : Region.Mode) (ops : Array Oper) : Prop := ∀ k o, ops[k]? = some o → ∀ e ∈ o.after, Region.binds md e = true → e.on < k
def Frees (md : Region.Mode) (ops : Array Oper) (k n : Nat) : Prop := ∀ i o, k ≤ i → i < n → ops[i]? = some o → ∀ t x, i < t → ops[t]? = some x → (∀ e ∈ x.after, Region.binds md e = true → e.on ≠ i) → o.apart ops x = true
structure WaveInv (md : Region.Mode) (ops : Array Oper) (k n : Nat) (listed : Array Bool) : Prop where
  size : listed.size = ops.size
  closed : ∀ j oj, ops[j]? = some oj → listed.getD j false = true → ∀ e ∈ oj.after, Region.binds md e = true → listed.getD e.on false = true
  tail : ∀ t, n ≤ t → t < ops.size → listed.getD t true = false
  low : ∀ i, i < k → listed.getD i false = true
theorem WaveInv.set {k n m i : Nat} {listed : Array Bool} (inv : WaveInv md ops k n listed) (hi : i ∈ Region.ready md ops listed) (hin : i < m) (hnm : n ≤ m) : WaveInv md ops k m (listed.setIfInBounds i true) := by
  obtain ⟨_, oi, hoi, hall⟩ := mem_ready.1 hi
  refine ⟨by simp [inv.size], fun j oj hj hl e he hb => ?_, fun t ht ht' => by rw [getD_set_ne true (by omega)]; exact inv.tail t (by omega) ht', fun j hj => getD_set_true (inv.low j hj)⟩
  by_cases hij : i = j
  · subst hij
    have : oj = oi := Option.some.inj (hj.symm.trans hoi)
    subst this
    exact getD_set_true (hall e he hb)
  · rw [getD_set_ne false hij] at hl
    exact getD_set_true (inv.closed j oj hj hl e he hb)
theorem wave_waits {k n : Nat} {listed : Array Bool} (hs : Sinks md ops k n) (hc : Gates md ops n) (hn : n < ops.size) (inv : WaveInv md ops k n listed) :
    ∀ (d i : Nat), n - i = d → i < n → listed.getD i true = false → ∀ t, n ≤ t → t ∉ Region.ready md ops listed := by
  intro d
  induction d using Nat.strongRecOn with
  | _ d ih =>
    intro i hd hi hun t ht hr
    obtain ⟨_, ot, hot, hall⟩ := mem_ready.1 hr
    have htlt : t < ops.size := (Array.getElem?_eq_some_iff.1 hot).1
    by_cases htn : t = n
    · subst htn
      rcases Nat.lt_or_ge i k with h1 | h1
      · have := inv.low i h1
        rw [getD_both hun] at this
        cases this
      obtain ⟨j, oj, e, hoj, hij, hjle, he, hb, hon⟩ := hs i h1 hi
      by_cases hjt : j = t
      · subst hjt
        have : oj = ot := Option.some.inj (hoj.symm.trans hot)
        subst this
        have h2 := hall e he hb
        rw [hon, getD_both hun] at h2
        cases h2
      · cases hl : listed.getD j false with
        | true =>
          have h2 := inv.closed j oj hoj hl e he hb
          rw [hon, getD_both hun] at h2
          cases h2
        | false =>
          have hjs : j < listed.size := by rw [inv.size]; omega
          exact ih (t - j) (by omega) j rfl (by omega) (getD_in hjs hl) t (Nat.le_refl _) hr
    · obtain ⟨e, he, hb, h1, h2⟩ := hc t ot hot (by omega)
      have h3 := hall e he hb
      rw [getD_both (inv.tail e.on h1 (by omega))] at h3
      cases h3
theorem wave_first {k n i : Nat} {oi : Oper} {v : Value} {L : Array Bool → Act → Prop} (hi : ops[i]? = some oi) (hsel : ∀ (j : Nat) (o : Oper) cs b, ops[j]? = some o → o.op ≠ .select cs b)
    (hs : Sinks md ops k n) (hc : Gates md ops n) (hn : n < ops.size) (hin : i < n)
    (hdone : ∀ listed a, L listed a → ∀ j ∈ Region.ready md ops listed, n ≤ j) :
    ∀ (f : Nat) (listed : Array Bool) (a : Act), WaveInv md ops k n listed →
      (∀ j oj, ops[j]? = some oj → j ≠ i → listed.getD j true = false → (∀ e ∈ oj.after, Region.binds md e = true → e.on ≠ i) → oi.apart ops oj = true) →
      i ∈ Region.ready md ops listed → YieldsAt P ops w oi v a →
      wpAnyL P md ops w n L f (listed.setIfInBounds i true) (a.put oi.dst v) → wpAnyL P md ops w n L (f + 1) listed a := by
  intro f
  induction f with
  | zero =>
    intro listed a inv _ hr hy H
    have hun := (mem_ready.1 hr).1
    refine ⟨fun h => (by rw [h] at hr; cases hr), fun j hj => ?_⟩
    have hjn : j < n := by
      rcases Nat.lt_or_ge j n with h | h
      · exact h
      · exact absurd hj (wave_waits hs hc hn inv _ i rfl hin hun j h)
    refine ⟨hjn, ?_⟩
    by_cases hji : j = i
    · subst hji; exact hy.stOp hi H
    · have := hdone _ _ H j (ready_mono hj hji)
      omega
  | succ f ih =>
    intro listed a inv hfree hr hy H
    have hun := (mem_ready.1 hr).1
    refine ⟨fun h => (by rw [h] at hr; cases hr), fun j hj => ?_⟩
    have hjn : j < n := by
      rcases Nat.lt_or_ge j n with h | h
      · exact h
      · exact absurd hj (wave_waits hs hc hn inv _ i rfl hin hun j h)
    refine ⟨hjn, ?_⟩
    by_cases hji : j = i
    · subst hji; exact hy.stOp hi H
    · have h1 := (H.2 j (ready_mono hj hji)).2
      obtain ⟨hjun, oj, hoj, hall⟩ := mem_ready.1 hj
      have hnot : ∀ e ∈ oj.after, Region.binds md e = true → e.on ≠ i := fun e he hb heq => by
        have h1 := hall e he hb
        rw [heq, getD_both hun] at h1
        cases h1
      have h2 := stOp_put hoj (hfree j oj hoj hji hjun hnot) (fun cs b => hsel i oi cs b hi) (fun cs b => hsel j oj cs b hoj) hy h1
      have hfree' : ∀ k ok, ops[k]? = some ok → k ≠ i → (listed.setIfInBounds j true).getD k true = false →
          (∀ e ∈ ok.after, Region.binds md e = true → e.on ≠ i) → oi.apart ops ok = true := fun k ok hk hki hun hno => by
        refine hfree k ok hk hki ?_ hno
        by_cases hjk : j = k
        · subst hjk; exact hjun
        · rw [getD_set_ne true hjk] at hun; exact hun
      refine stOp_mono (fun a' h3 => ih (listed.setIfInBounds j true) a' (inv.set hj hjn (Nat.le_refl _)) hfree' (ready_mono hr (Ne.symm hji)) h3.1 ?_) h2
      rw [Array.setIfInBounds_comm _ _ hji]
      exact h3.2

/-- k and the next ones listed -/
def markN (listed : Array Bool) : Nat → Nat → Array Bool
  | _, 0 => listed
  | k, h + 1 => markN (listed.setIfInBounds k true) (k + 1) h
theorem ready_at {k : Nat} {listed : Array Bool} (hL : Lows md ops) (inv : WaveInv md ops k k listed) (hk : k < ops.size) : k ∈ Region.ready md ops listed :=
  mem_ready.2 ⟨inv.tail k (Nat.le_refl _) hk, _, Array.getElem?_eq_getElem hk, fun e he hb => inv.low _ (hL k _ (Array.getElem?_eq_getElem hk) e he hb)⟩
theorem ready_only {k : Nat} {listed : Array Bool} (hG : Gates md ops k) (inv : WaveInv md ops k k listed) : ∀ i ∈ Region.ready md ops listed, i = k := fun i hi => by
  obtain ⟨hun, o, ho, hall⟩ := mem_ready.1 hi
  have hil : k ≤ i := by
    rcases Nat.lt_or_ge i k with h | h
    · have := inv.low i h
      rw [getD_both hun] at this
      cases this
    · exact h
  rcases Nat.lt_or_ge k i with h | h
  · obtain ⟨e, he, hb, h1, h2⟩ := hG i o ho h
    have h3 := hall e he hb
    have := (Array.getElem?_eq_some_iff.1 ho).1
    rw [getD_both (inv.tail e.on h1 (by omega))] at h3
    cases h3
  · omega
theorem inv_step {k : Nat} {listed : Array Bool} (inv : WaveInv md ops k k listed) (hi : k ∈ Region.ready md ops listed) : WaveInv md ops (k + 1) (k + 1) (listed.setIfInBounds k true) := by
  obtain ⟨_, oi, hoi, hall⟩ := mem_ready.1 hi
  have h := inv.set hi (Nat.lt_succ_self k) (Nat.le_succ k)
  refine ⟨h.size, h.closed, h.tail, fun i hik => ?_⟩
  by_cases e : i = k
  · subst e
    have : i < listed.size := by rw [inv.size]; exact (Array.getElem?_eq_some_iff.1 hoi).1
    simp [this]
  · exact h.low i (by omega)
theorem inv_mark (hL : Lows md ops) : ∀ (h k : Nat) (listed : Array Bool), k + h ≤ ops.size → WaveInv md ops k k listed → WaveInv md ops (k + h) (k + h) (markN listed k h)
  | 0, k, listed, _, inv => inv
  | h + 1, k, listed, hk, inv => by
    have := inv_mark hL h (k + 1) _ (by omega) (inv_step inv (ready_at hL inv (by omega)))
    rwa [show k + 1 + h = k + (h + 1) by omega] at this

theorem wave_lex {k0 n : Nat} {T : Array Bool} {Lq : Act → Prop} (hsel : Region.noSelect ops = true) (hL : Lows md ops) (hs : Sinks md ops k0 n) (hc : Gates md ops n) (hF : Frees md ops k0 n) (hn : n < ops.size) (hT : ∀ j ∈ Region.ready md ops T, n ≤ j) :
    ∀ (l : List Oper) (k : Nat) (listed : Array Bool) (a : Act), (∀ j, j < l.length → l[j]? = ops[k + j]?) → k0 ≤ k → k + l.length = n → WaveInv md ops k k listed →
    markN listed k l.length = T → wpStill P ops w Lq l a →
    wpAnyL P md ops w n (fun listed' a' => listed' = T ∧ Lq a') l.length listed a
  | [], k, listed, a, _, _, hk, _, hm, h => ⟨hm, h⟩
  | o :: l, k, listed, a, hl, hk0, hk, inv, hm, h => by
    have h0 : ops[k]? = some o := by simpa using (hl 0 (by simp)).symm
    have hkn : k < n := by simp only [List.length_cons] at hk; omega
    have hr' : k ∈ Region.ready md ops listed := ready_at hL inv (by omega)
    have hst : stOp P ops w k (wpStill P ops w Lq l) a := by unfold stOp; simp only [h0]; exact h
    obtain ⟨v, hy, hK⟩ := yieldsAt_of_stOp h0 hst
    exact wave_first h0 (Region.noSelect_spec hsel) hs hc hn hkn (fun listed' a' hL => by rw [hL.1]; exact hT) l.length listed a ⟨inv.size, inv.closed, fun t ht h2 => inv.tail t (by omega) h2, fun i hi => inv.low i (by omega)⟩
      (fun j oj hj hne hun hno => by
        have hkj : k ≤ j := by
          rcases Nat.lt_or_ge j k with h | h
          · have := inv.low j h
            rw [getD_both hun] at this
            cases this
          · exact h
        exact hF k o hk0 hkn h0 j oj (by omega) hj hno) hr' hy
      (wave_lex hsel hL hs hc hF hn hT l (k + 1) _ _ (fun j hj => by have := hl (j + 1) (by simp; omega); simpa [Nat.add_assoc, Nat.add_comm 1 j] using this) (by omega) (by simp only [List.length_cons] at hk; omega) (inv_step inv hr') hm hK)

theorem seq_then {g : Nat} {T : Array Bool} {Q : Exit → Act → World → Prop} {R : Act → World → Prop} (hL : Lows md ops) (hR : ∀ a w, R a w → wpAny P md ops Q g T a w) : ∀ (l : List Oper) (k : Nat) (listed : Array Bool) (a : Act) (w : World), (∀ j, j < l.length → l[j]? = ops[k + j]?) →
    (∀ j, j < l.length → Gates md ops (k + j)) → k + l.length ≤ ops.size → WaveInv md ops k k listed → markN listed k l.length = T → wpList P ops (Exit.then R Q) l a w → wpAny P md ops Q (l.length + g) listed a w
  | [], k, listed, a, w, _, _, _, _, hm, h => by
    rw [List.length_nil, Nat.zero_add]
    have hm : listed = T := hm
    rw [hm]
    exact hR a w h
  | o :: l, k, listed, a, w, hl, hG, hk, inv, hm, h => by
    have h0 : ops[k]? = some o := by simpa using (hl 0 (by simp)).symm
    have hr := ready_at hL inv (by simp only [List.length_cons] at hk; omega)
    rw [show (o :: l).length + g = (l.length + g) + 1 by simp only [List.length_cons]; omega]
    refine ⟨fun h1 => (by rw [h1] at hr; cases hr), fun i hi => ?_⟩
    have hik : i = k := ready_only (hG 0 (by simp)) inv i hi
    subst hik
    have hw : wpOp P ops Q i (wpList P ops (Exit.then R Q) l) a w := by unfold wpOp; simp only [h0]; exact h
    exact wpOp_mono (fun a' w' h' => seq_then hL hR l (i + 1) _ a' w' (fun j hj => by have := hl (j + 1) (by simp; omega); simpa [Nat.add_assoc, Nat.add_comm 1 j] using this) (fun j hj => by have := hG (j + 1) (by simp; omega); rwa [show i + 1 + j = i + (j + 1) by omega]) (by simp only [List.length_cons] at hk; omega) (inv_step inv hr) hm h') hw

/-- the plan: so many reads, then so many one behind the other, and so on -/
def planK (md : Region.Mode) (l0 : List Oper) : List (Nat × Nat) → Nat → List Oper → Bool
  | [], _, l => l.isEmpty
  | (h, s) :: r, k, l => decide (0 < s) && decide (h + s ≤ l.length) && sinkGo md k 0 (l0.take (k + h + 1)) && freeGo md l0.toArray h k l && ((List.range s).all fun i => gateGo md (k + h + i) 0 l0) && planK md l0 r (k + h + s) (l.drop (h + s))
def wpPlan (P : Program) (ops : Array Oper) (Q : Exit → Act → World → Prop) : List (Nat × Nat) → List Oper → Act → World → Prop
  | [], _, a, w => wpList P ops Q [] a w
  | (h, s) :: r, l, a, w => wpStill P ops w (fun a' => ∀ K : Act → World → Prop, (∀ a w, Wrapped (wpPlan P ops Q r (l.drop (h + s)) a w) → K a w) → wpList P ops (Exit.then K Q) ((l.drop h).take s) a' w) (l.take h) a

theorem plan_any {l0 : List Oper} {Q : Exit → Act → World → Prop} (hsel : Region.noSelect l0.toArray = true) (hL : lowGo md 0 l0 = true) : ∀ (plan : List (Nat × Nat)) (l : List Oper) (k : Nat) (listed : Array Bool) (a : Act) (w : World), (∀ j, l[j]? = l0[k + j]?) → k + l.length = l0.length → WaveInv md l0.toArray k k listed →
    planK md l0 plan k l = true → wpPlan P l0.toArray Q plan l a w → wpAny P md l0.toArray Q (l0.length - k) listed a w
  | [], l, k, listed, a, w, hl, hlen, inv, hB, h => by
    simp only [planK, List.isEmpty_iff] at hB
    subst hB
    have hk : k = l0.length := by simpa using hlen
    rw [hk, Nat.sub_self]
    refine ⟨?_, h⟩
    cases hr : Region.ready md l0.toArray listed with
    | nil => rfl
    | cons x xs =>
      have hx : x ∈ Region.ready md l0.toArray listed := by rw [hr]; simp
      obtain ⟨hun, o, ho, _⟩ := mem_ready.1 hx
      have hxk : x < k := by have := (Array.getElem?_eq_some_iff.1 ho).1; simp at this; omega
      have := inv.low x hxk
      rw [getD_both hun] at this
      cases this
  | (hd, s) :: r, l, k, listed, a, w, hl, hlen, inv, hB, h => by
    simp only [planK, Bool.and_eq_true, decide_eq_true_eq] at hB
    obtain ⟨⟨⟨⟨⟨hs0, hsz⟩, hsink⟩, hfree⟩, hgate⟩, hrest⟩ := hB
    have hlows : Lows md l0.toArray := fun k o ho e he hb => by
      have := lowGo_spec l0 0 hL k o (by simpa using ho) e he hb
      omega
    have hgates : ∀ i, i < s → Gates md l0.toArray (k + hd + i) := fun i hi t o ho ht => by
      obtain ⟨e, he, hb, h1⟩ := gateGo_spec l0 0 (List.all_eq_true.1 hgate i (List.mem_range.2 hi)) t o (by simpa using ho) (by omega)
      exact ⟨e, he, hb, h1, hlows t o ho e he hb⟩
    have hsinks : Sinks md l0.toArray k (k + hd) := fun i h1 h2 => by
      obtain ⟨t, o, e, g1, g2, g3, g4, g5⟩ := sinkGo_spec _ 0 hsink i (by simp; omega) (by omega)
      have ht : t < k + hd + 1 := by have := (List.getElem?_eq_some_iff.1 g1).1; simp at this; omega
      rw [List.getElem?_take, if_pos ht] at g1
      exact ⟨t, o, e, by simpa using g1, g2, by omega, g3, g4, by omega⟩
    have hfrees : Frees md l0.toArray k (k + hd) := fun i o h1 h2 ho t x hit hx hno => by
      refine freeGo_spec l hd k hfree (i - k) o (by omega) (by rw [hl, show k + (i - k) = i by omega]; simpa using ho) (t - k) x (by omega) (by rw [hl, show k + (t - k) = t by omega]; simpa using hx) fun e he hb => ?_
      have := hno e he hb
      omega
    have htl : (l.take hd).length = hd := by simp; omega
    have htl2 : ((l.drop hd).take s).length = s := by simp; omega
    have hsize : l0.toArray.size = l0.length := by simp
    have inv1 := inv_mark hlows hd k listed (by omega) inv
    have inv2 := inv_mark hlows s (k + hd) _ (by omega) inv1
    have hT : ∀ j ∈ Region.ready md l0.toArray (markN listed k hd), k + hd ≤ j := fun j hj => by
      have := ready_only (hgates 0 hs0) inv1 j hj
      omega
    have H := wave_lex (P := P) (w := w) (k0 := k) (n := k + hd) (T := markN listed k hd) hsel hlows hsinks (hgates 0 hs0) hfrees (by omega) hT (l.take hd) k listed a
      (fun j hj => by rw [htl] at hj; rw [List.getElem?_take, if_pos hj, hl]; simp) (Nat.le_refl _) (by rw [htl]) inv (by rw [htl]) h
    have H2 := wpAny_of_head (Q' := Q) (g := l0.length - (k + hd)) (fun listed' a' hL' => by
      obtain ⟨e, hL'⟩ := hL'
      subst e
      have hK := hL' (wpPlan P l0.toArray Q r (l.drop (hd + s))) (fun _ _ h => h.out)
      have := seq_then (P := P) (md := md) (ops := l0.toArray) (g := l0.length - (k + hd + s)) (T := markN (markN listed k hd) (k + hd) s) (Q := Q) hlows (fun a w hh => plan_any hsel hL r _ (k + hd + s) _ a w (fun j => by rw [List.getElem?_drop, hl]; congr 1; omega) (by simp; omega) inv2 hrest hh)
        ((l.drop hd).take s) (k + hd) (markN listed k hd) a' w (fun j hj => by rw [htl2] at hj; rw [List.getElem?_take, if_pos hj, List.getElem?_drop, hl]; simp; congr 1; omega) (fun j hj => hgates j (by omega)) (by omega) inv1 (by rw [htl2]) hK
      rwa [htl2, show s + (l0.length - (k + hd + s)) = l0.length - (k + hd) by omega] at this) _ _ _ H
    rw [htl, show hd + (l0.length - (k + hd)) = l0.length - k by omega] at H2
    exact H2

/-- a region that draws its order, by a plan of waves -/
theorem wp_region_plan {id : Nat} {Q : Exit → Act → World → Prop} {a : Act} {w : World} {l : List Oper} (plan : List (Nat × Nat)) (hm : P.follows .mixedOrders = true) (hB : (Region.noSelect l.toArray && (lowGo .any 0 l && planK .any l plan 0 l)) = true)
    (h : Wrapped (wpPlan P l.toArray Q plan l a { w with drawn := w.drawn + 1 })) : (Code.region id l.toArray true).wp P Q a w := by
  rw [Bool.and_eq_true, Bool.and_eq_true] at hB
  refine wp_region_any hm ?_
  have := plan_any hB.1 hB.2.1 plan l 0 (Array.replicate l.toArray.size false) a { w with drawn := w.drawn + 1 } (fun j => by simp) (by simp) ⟨by simp, fun j oj _ hl => (by rw [getD_replicate_false] at hl; cases hl), fun t _ ht => getD_in (by simpa using ht) (getD_replicate_false _ _), fun i hi => by omega⟩ hB.2.2 h.out
  simpa using this
theorem plan_step {Q : Exit → Act → World → Prop} {a : Act} {w : World} {h s : Nat} {r : List (Nat × Nat)} {l : List Oper} (hh : Wrapped (wpStill P ops w (fun a' => ∀ K : Act → World → Prop, (∀ a w, Wrapped (wpPlan P ops Q r (l.drop (h + s)) a w) → K a w) → wpList P ops (Exit.then K Q) ((l.drop h).take s) a' w) (l.take h) a)) : Wrapped (wpPlan P ops Q ((h, s) :: r) l a w) := ⟨hh.out⟩
theorem plan_end {Q : Exit → Act → World → Prop} {a : Act} {w : World} {l : List Oper} (hh : wpList P ops Q [] a w) : Wrapped (wpPlan P ops Q [] l a w) := ⟨hh⟩
theorem wst_step {w : World} {Q : Act → Prop} {a : Act} {o : Oper} {rest : List Oper}
    (h : ∀ K : Act → Prop, (∀ a, Wrapped (wpStill P ops w Q rest a) → K a) → if Region.wanted o (yielded ops a.tmps) then o.still P a w K else K (a.put o.dst undef)) : Wrapped (wpStill P ops w Q (o :: rest) a) :=
  ⟨h _ (fun _ h => h.out)⟩
theorem wst_nil {w : World} {Q : Act → Prop} {a : Act} (h : Q a) : Wrapped (wpStill P ops w Q [] a) := ⟨h⟩
end
end Go.Proofs.Ytmoebpebahhbeaa
