/- Texts of this proof, joined: Range, Iter. No condition. -/
import Derived.RangeFuncNested
import Derived.RangeFuncBound
import Derived.RangeFuncLeaves
import Derived.Test.YtkdhoelabomgkaaGreatDoorMa21
import Derived.Shelf.Abstract
import Derived.WalkKit
import Derived.OwnWalkIn
import Derived.TacticsInMore
import Derived.LoopNIn
import Derived.LoopIn
import Derived.Scope
import Derived.WalkMore
/-
  A range over a function whose iterator has a block of its own that it writes between two rounds: its contract, and the caller's law. Of no program.
-/
namespace Go.Proofs.YtkdhoelabomgkaaGreatDoor
set_option linter.unusedVariables false
open Go.RowKit

/-- what lay below b, and the blocks ks, lie as they lay -/
structure KeptC (b : Nat) (ks : List Nat) (W W' : World) : Prop where
  below : Below b W W'
  same : ∀ k, k ∈ ks → W'.heap[k]? = W.heap[k]?
theorem KeptC.refl (b : Nat) (ks : List Nat) (W : World) : KeptC b ks W W := ⟨Below.refl _ _, fun _ _ => rfl⟩
theorem KeptC.trans {b : Nat} {ks : List Nat} {X Y Z : World} (h : KeptC b ks X Y) (h' : KeptC b ks Y Z) : KeptC b ks X Z := ⟨h.below.trans h'.below, fun k hk => (h'.same k hk).trans (h.same k hk)⟩
theorem KeptC.sub {b : Nat} {ks ls : List Nat} {X Y : World} (h : KeptC b ks X Y) (hs : ∀ k, k ∈ ls → k ∈ ks) : KeptC b ls X Y := ⟨h.below, fun k hk => h.same k (hs k hk)⟩
theorem KeptC.grown {b : Nat} {ks : List Nat} {X Y : World} {row : Option Nat} (hb : b ≤ X.heap.size) (hks : ∀ k, k ∈ ks → k < X.heap.size) (hg : X.grownBy Y row) (hr : ∀ r, row = some r → b ≤ r ∧ r ∉ ks) : KeptC b ks X Y :=
  ⟨(Below.refl b X).grown hg hb (fun k e => (hr k e).1), fun k hk => hg.block k (hks k hk) (fun e => (hr k e.symm).2 hk)⟩

/-- an invariant abides the turn of one block -/
def AbCell {β : Type} (N : Nat) (J : β → World → Prop) : Prop := ∀ s A B row, J s A → A.grownBy B row → (∀ r, row = some r → r = N) → J s B
/-- .. of three -/
def OwnCell {β : Type} (N : Nat) (I : β → World → Prop) : Prop := ∀ s A B row, I s A → A.grownBy B row → (∀ r, row = some r → N ≤ r ∧ r ≤ N + 2) → I s B

/-- THE ITERATOR's CONTRACT: the first block that it lays is its own; the body keeps that, the block Bs, and what lay below n₀ -/
def SeqCell {α : Type} (F : Fence) (n : Nat) (P : Program) (g : Nat) (lb : Array Value) (encs : α → Array Value) (n₀ Bs : Nat) (S Sp : List α → Prop) (M : Nat) (w : World) : Prop :=
  ∀ (l : Nat) (J Jx : List α → World → Prop) (W : World), Below w.heap.size w W → AbCell W.heap.size J → AbCell W.heap.size Jx →
    (∀ pre x W1, J pre W1 → W.heap.size < W1.heap.size → pre.length < M → YieldAt F (n - 1) P l (encs x) W1 fun e W' =>
      (e = .returned (.bool true) ∧ J (pre ++ [x]) W' ∧ KeptC n₀ [Bs, W.heap.size] W1 W') ∨ (e = .returned (.bool false) ∧ Jx (pre ++ [x]) W')) →
    J [] W →
    CallsIn F n P g (#[.func (.yield l) #[] #[]] ++ lb) W fun e W' => (∃ v, e = .returned v) ∧ ((∃ xs, S xs ∧ J xs W') ∨ (∃ pre, Sp pre ∧ Jx pre W'))

/-- how the body of a round may be left -/
def cellPost {α : Type} (B n₀ Bs : Nat) (I : List α → World → Prop) (Ix : Code → List α → World → Prop) (xs : List α) (W : World) : Exit → Act → World → Prop
  | .normal, _, W' => KeptC n₀ [Bs, B, B + 1, B + 2] W W' ∧ I xs W'
  | .ret, _, W' => KeptC n₀ [Bs, B, B + 1, B + 2] W W' ∧ Ix .ret xs W'
  | .exit id, _, W' => KeptC n₀ [Bs, B, B + 1, B + 2] W W' ∧ Ix (.exit id) xs W'
  | .goto t, _, W' => KeptC n₀ [Bs, B, B + 1, B + 2] W W' ∧ Ix (.goto t) xs W'
  | .panic _, _, _ => False
  | .outgrown, _, _ => False

theorem grown_putObj (W : World) (l : Nat) (o : Obj) : W.grownBy (W.putObj l o) (some l) :=
  ⟨rfl, rfl, rfl, by simp, fun k _ hk => World.putObj_heap_other (fun e => hk (by rw [e]))⟩
theorem OwnCell.put {β : Type} {N : Nat} {I : β → World → Prop} (h : OwnCell N I) {s : β} {W : World} {l : Nat} (o : Obj) (hs : I s W) (h1 : N ≤ l) (h2 : l ≤ N + 2) : I s (W.putObj l o) :=
  h s W _ (some l) hs (grown_putObj W l o) (fun r e => by cases e; exact ⟨h1, h2⟩)
theorem OwnCell.alloc {β : Type} {N : Nat} {I : β → World → Prop} (h : OwnCell N I) {s : β} {W : World} (o : Obj) (hs : I s W) : I s (W.alloc o) :=
  h s W _ none hs (World.grownBy_alloc W o none) (fun r e => by cases e)
theorem keptC_put {b Bs N : Nat} {W : World} (hb : b ≤ N) (hBs : Bs < N) (o : Obj) : KeptC b [Bs, N + 2] W (W.putObj (N + 1) o) :=
  ⟨⟨rfl, rfl, rfl, by simp, fun k hk => World.putObj_heap_other (by omega)⟩, fun k hk => by
    simp only [List.mem_cons, List.not_mem_nil, or_false] at hk
    exact World.putObj_heap_other (by omega)⟩

section
variable {F : Fence} {n : Nat} {P : Program}

/-- **THE CALLER's LAW.** -/
theorem range_cell {α : Type} {g : Operand} {ps : Array Tmp} {assign body : Code} {Q : Exit → Act → World → Prop} {a : Act} {w : World}
    (hro : F.round = none) (h1 : 1 ≤ n) {gf : Nat} {lb : Array Value} (hg : a.eval g = .func (.func gf) #[] lb) (hFg : F.fn gf) (eg : ∀ args w, (callFunc gf args).run P w = .ok (.enter gf args) w)
    {encs : α → Array Value} {n₀ Bs : Nat} (hn₀ : n₀ ≤ w.heap.size) (hBs : Bs < w.heap.size) {S Sp : List α → Prop} {M : Nat} (hseq : SeqCell F (n - 1) P gf lb encs n₀ Bs S Sp M w) (hps : ∀ x, (encs x).size = ps.size)
    (I : List α → World → Prop) (Ix : Code → List α → World → Prop) (hI : OwnCell w.heap.size I) (hIx : ∀ c, OwnCell w.heap.size (Ix c)) (h0 : I [] w) (Ax : α → Act → World → Prop) (hAx : ∀ x a', OwnCell w.heap.size (fun (_ : Unit) W => Ax x a' W))
    (hassign : ∀ (l : Nat) (pre : List α) (x : α) (W : World) (K : Act → World → Prop), I pre W → w.heap.size + 2 < W.heap.size → (∀ a' W', KeptC n₀ [Bs, w.heap.size, w.heap.size + 1, w.heap.size + 2] W W' → I pre W' → Ax x a' W' → K a' W') →
      assign.wpIn (F.inRound l) (n - 1 - 1) P (Exit.then K (fun _ _ _ => False)) { tmps := (ps.zip (encs x)).foldl (fun t (p, v) => t.setIfInBounds p v) a.tmps, defers := [] } W)
    (hbody : ∀ (l : Nat) (pre : List α) (x : α) (a' : Act) (W : World), w.heap.size + 2 < W.heap.size → I pre W → Ax x a' W → pre.length < M → body.wpIn (F.inRound l) (n - 1 - 1) P (cellPost w.heap.size n₀ Bs I Ix (pre ++ [x]) W) a' W)
    (hdone : ∀ (xs : List α) (W : World), S xs → I xs W → W.heap[w.heap.size]? = some (.deferred (some [])) → Q .normal { a with defers := { target := .collected w.heap.size, args := #[] } :: a.defers } W)
    (hstop : ∀ (c : Code) (pre : List α) (W : World), Sp pre → Ix c pre W → W.heap[w.heap.size]? = some (.deferred (some [])) → c.wpIn F n P Q { a with defers := { target := .collected w.heap.size, args := #[] } :: a.defers } W) :
    (Code.rangeFunc g ps assign body).wpIn F n P Q a w := by
  refine wpIn_rangeFunc ?_
  intro fn hfn
  rw [hro]
  obtain ⟨rec, hrec⟩ : ∃ rec : LoopState → Option Code → Loop, rec = fun st pe => { state := st, pending := pe, fn, tmps := a.tmps, params := ps, assign, body, defers := w.heap.size } := ⟨_, rfl⟩
  obtain ⟨W1, hW1⟩ : ∃ W1, (w.alloc (.deferred (some []))).alloc (.loop (rec .ready none)) = W1 := ⟨_, rfl⟩
  have hs1 : W1.heap.size = w.heap.size + 2 := by rw [← hW1]; simp
  have hL1 : W1.heap[w.heap.size + 1]? = some (.loop (rec .ready none)) := by
    rw [← hW1]; have := World.alloc_heap_new (w.alloc (.deferred (some []))) (.loop (rec .ready none)); rwa [World.size_alloc] at this
  have hK1 : W1.heap[w.heap.size]? = some (.deferred (some [])) := by
    rw [← hW1]; exact (Below.heap_alloc _ _ _ (by simp)).trans (World.alloc_heap_new w _)
  have hI1 : I [] W1 := by rw [← hW1]; exact hI.alloc _ (hI.alloc _ h0)
  have hb1 : Below w.heap.size w W1 := by rw [← hW1]; exact ((Below.refl _ w).alloc (Nat.le_refl _) _).alloc (by simp) _
  have hnr : ∀ {row : Option Nat}, (∀ r, row = some r → r = W1.heap.size) → ∀ r, row = some r → w.heap.size ≤ r ∧ r ≤ w.heap.size + 2 := fun h r e => by rw [h r e, hs1]; omega
  have hkeep : ∀ {A B : World} {row : Option Nat} {k : Nat} {o : Obj}, A.grownBy B row → (∀ r, row = some r → r = W1.heap.size) → k < w.heap.size + 2 → A.heap[k]? = some o → B.heap[k]? = some o := fun hg' hr hk ho =>
    (hg'.block _ (Array.getElem?_eq_some_iff.1 ho).1 (fun e => by have := hr _ e.symm; omega)).trans ho
  refine ⟨w.heap.size + 1, [{ target := .collected w.heap.size, args := #[] }], W1, { target := .fn (.func gf) lb, args := #[.func (.yield (w.heap.size + 1)) #[] #[]] }, W1, gf,
    #[.func (.yield (w.heap.size + 1)) #[] #[]] ++ lb, W1, ?_, ?_, ?_, ?_, fun _ => h1, ?_⟩
  · rw [← hW1, hrec]; exact run_enterLoop_outer _ _ _ _ _
  · simp only [resolve, hg]
    simp [go_sem]
  · intro f' hf'; simp [Target.leads] at hf'; subst hf'; exact hFg
  · simp [invoke, go_sem, eg]
  · refine (hseq (w.heap.size + 1)
      (fun pre W => I pre W ∧ W.heap[w.heap.size + 1]? = some (.loop (rec .ready none)) ∧ W.heap[w.heap.size]? = some (.deferred (some [])))
      (fun pre W => ∃ c, Ix c pre W ∧ W.heap[w.heap.size + 1]? = some (.loop (rec .done (some c))) ∧ W.heap[w.heap.size]? = some (.deferred (some [])))
      W1 hb1
      (fun s A B row hs hg' hr => ⟨hI s A B row hs.1 hg' (hnr hr), hkeep hg' hr (by omega) hs.2.1, hkeep hg' hr (by omega) hs.2.2⟩)
      (fun s A B row hs hg' hr => by
        obtain ⟨c, hc, hl, hk⟩ := hs
        exact ⟨c, hIx c s A B row hc hg' (hnr hr), hkeep hg' hr (by omega) hl, hkeep hg' hr (by omega) hk⟩)
      ?_ ⟨hI1, hL1, hK1⟩).mono ?_
    · rintro pre x W ⟨hi, hl, hk⟩ hsz hlen
      rw [hs1] at hsz ⊢
      have hy := run_yield (P := P) (args := encs x) hl (by rw [hrec]; exact hps x)
      rw [hrec] at hy
      refine ⟨fn, _, assign, body, hy, roundIn_of_wpIn hfn (hassign _ pre x W _ hi hsz ?_)⟩
      clear hy
      intro a' V hkv hiv hav
      have hlv := (hkv.same (w.heap.size + 1) (by simp)).trans hl
      have hkv0 := (hkv.same w.heap.size (by simp)).trans hk
      have hszv : w.heap.size + 2 < V.heap.size := Nat.lt_of_lt_of_le hsz hkv.below.size
      refine ⟨_, run_beginRound hlv (by rw [hrec]), ?_⟩
      have hl2 : (V.putObj (w.heap.size + 1) (.loop { rec .ready none with state := .busy })).heap[w.heap.size + 1]? = some (.loop { rec .ready none with state := .busy }) := World.putObj_heap_same (by omega)
      have hk2 : (V.putObj (w.heap.size + 1) (.loop { rec .ready none with state := .busy })).heap[w.heap.size]? = some (.deferred (some [])) := (World.putObj_heap_other (by omega)).trans hkv0
      have hkb : KeptC n₀ [Bs, w.heap.size + 2] W (V.putObj (w.heap.size + 1) (.loop { rec .ready none with state := .busy })) :=
        (hkv.sub (fun k h => by simp only [List.mem_cons, List.not_mem_nil, or_false] at h ⊢; omega)).trans (keptC_put hn₀ hBs _)
      refine wpIn_mono (hbody _ pre x a' _ (by simpa using hszv) (hI.put _ hiv (by omega) (by omega)) ((hAx x a').put (s := ()) _ hav (by omega) (by omega)) hlen) ?_
      have fin : ∀ (jump : Option Code) (W3 : World), KeptC n₀ [Bs, w.heap.size, w.heap.size + 1, w.heap.size + 2] (V.putObj (w.heap.size + 1) (.loop { rec .ready none with state := .busy })) W3 →
          (Instr.endRound (w.heap.size + 1) jump).run P W3 = .ok (.bool jump.isNone) (W3.putObj (w.heap.size + 1) (.loop (rec (if jump.isNone then .ready else .done) jump))) ∧
          (W3.putObj (w.heap.size + 1) (.loop (rec (if jump.isNone then .ready else .done) jump))).heap[w.heap.size + 1]? = some (.loop (rec (if jump.isNone then .ready else .done) jump)) ∧
          (W3.putObj (w.heap.size + 1) (.loop (rec (if jump.isNone then .ready else .done) jump))).heap[w.heap.size]? = some (.deferred (some [])) := fun jump W3 hk3 => by
        have hl3 := (hk3.same (w.heap.size + 1) (by simp)).trans hl2
        have := run_endRound (P := P) jump hl3
        rw [hrec] at this ⊢
        exact ⟨this, World.putObj_heap_same (Array.getElem?_eq_some_iff.1 hl3).1, (World.putObj_heap_other (by omega)).trans ((hk3.same w.heap.size (by simp)).trans hk2)⟩
      rintro e a3 W3 hp
      cases e with
      | normal =>
        obtain ⟨hk3, hi3⟩ := hp
        obtain ⟨hr, hl4, hk4⟩ := fin none W3 hk3
        exact ⟨_, _, hr, .inl ⟨rfl, ⟨hI.put _ hi3 (by omega) (by omega), hl4, hk4⟩, hkb.trans ((hk3.sub (fun k h => by simp only [List.mem_cons, List.not_mem_nil, or_false] at h ⊢; omega)).trans (keptC_put hn₀ hBs _))⟩⟩
      | ret =>
        obtain ⟨hk3, hi3⟩ := hp
        obtain ⟨hr, hl4, hk4⟩ := fin (some .ret) W3 hk3
        exact ⟨_, _, hr, .inr ⟨rfl, .ret, (hIx _).put _ hi3 (by omega) (by omega), hl4, hk4⟩⟩
      | exit id =>
        obtain ⟨hk3, hi3⟩ := hp
        obtain ⟨hr, hl4, hk4⟩ := fin (some (.exit id)) W3 hk3
        exact ⟨_, _, hr, .inr ⟨rfl, .exit id, (hIx _).put _ hi3 (by omega) (by omega), hl4, hk4⟩⟩
      | goto t =>
        obtain ⟨hk3, hi3⟩ := hp
        obtain ⟨hr, hl4, hk4⟩ := fin (some (.goto t)) W3 hk3
        exact ⟨_, _, hr, .inr ⟨rfl, .goto t, (hIx _).put _ hi3 (by omega) (by omega), hl4, hk4⟩⟩
      | panic ch => exact hp.elim
      | outgrown => exact hp.elim
    · rintro e W2 ⟨⟨v, rfl⟩, (⟨xs, hS, hi, hl, hk⟩ | ⟨pre, hSp, c, hi, hl, hk⟩)⟩
      · exact ⟨none, _, by have := run_endLoop (P := P) hl (by rw [hrec]; simp); rw [hrec] at this; exact this, hdone xs _ hS (hI.put _ hi (by omega) (by omega)) ((World.putObj_heap_other (by omega)).trans hk)⟩
      · exact ⟨some c, _, by have := run_endLoop (P := P) hl (by rw [hrec]; simp); rw [hrec] at this; exact this, hstop c pre _ hSp ((hIx c).put _ hi (by omega) (by omega)) ((World.putObj_heap_other (by omega)).trans hk)⟩
end
end Go.Proofs.YtkdhoelabomgkaaGreatDoor
/-
  Layer 2, the program's side: the iterator that yields the tokens.
-/
namespace Go.Proofs.YtkdhoelabomgkaaGreatDoor
set_option linter.unusedVariables false
open Go.ChangeShapes Go.WideShapes Go.ChangeAt Go.RowKit Go.Shelf
attribute [local go_sem] Oper.semAt_some

/-- what is yielded from i on -/
def itemsF (s : ByteArray) : Nat → Nat → List (Tk × Int)
  | 0, _ => []
  | f + 1, i => (skip s i).elim (fun j => (readAt s j).elim (fun t => (t, 0) :: if t.kind = 9 then [] else itemsF s f t.fin) (fun p => [(⟨0, p.1, 0, ⟨#[]⟩, 0⟩, p.2)])) (fun m => [(⟨0, m, 0, ⟨#[]⟩, 0⟩, 23)])
theorem itemsF_succ (s : ByteArray) (f i : Nat) : itemsF s (f + 1) i = (skip s i).elim (fun j => (readAt s j).elim (fun t => (t, 0) :: if t.kind = 9 then [] else itemsF s f t.fin) (fun p => [(⟨0, p.1, 0, ⟨#[]⟩, 0⟩, p.2)])) (fun m => [(⟨0, m, 0, ⟨#[]⟩, 0⟩, 23)]) := rfl
theorem itemsF_fuel (s : ByteArray) : ∀ f g i, i ≤ s.size → s.size - i < f → s.size - i < g → itemsF s f i = itemsF s g i := by
  intro f
  induction f with
  | zero => intro g i _ h; omega
  | succ f ih =>
    intro g i hi h h'
    obtain ⟨g, rfl⟩ : ∃ g', g = g' + 1 := ⟨g - 1, by omega⟩
    rw [itemsF_succ, itemsF_succ]
    cases hs : skip s i with
    | inr m => rfl
    | inl j =>
      have hj := skip_le hs hi
      simp only [Sum.elim_inl]
      cases hr : readAt s j with
      | inr x => rfl
      | inl t =>
        simp only [Sum.elim_inl]
        by_cases h9 : t.kind = 9
        · rw [if_pos h9, if_pos h9]
        · rw [if_neg h9, if_neg h9]
          rcases Nat.lt_or_ge j s.size with hlt | hge
          · obtain ⟨_, h2, h3, _⟩ := readAt_lt hlt hr
            rw [ih g t.fin h3 (by omega) (by omega)]
          · rw [readAt_end s j hge] at hr
            cases hr
            exact absurd rfl h9
def items (s : ByteArray) (i : Nat) : List (Tk × Int) := itemsF s (s.size + 1) i
theorem items_step {s : ByteArray} {i : Nat} (hi : i ≤ s.size) : items s i = (skip s i).elim (fun j => (readAt s j).elim (fun t => (t, 0) :: if t.kind = 9 then [] else items s t.fin) (fun p => [(⟨0, p.1, 0, ⟨#[]⟩, 0⟩, p.2)])) (fun m => [(⟨0, m, 0, ⟨#[]⟩, 0⟩, 23)]) := by
  show itemsF s (s.size + 1) i = _
  rw [itemsF_succ]
  cases hs : skip s i with
  | inr m => rfl
  | inl j =>
    have hj := skip_le hs hi
    simp only [Sum.elim_inl]
    cases hr : readAt s j with
    | inr x => rfl
    | inl t =>
      simp only [Sum.elim_inl]
      by_cases h9 : t.kind = 9
      · rw [if_pos h9, if_pos h9]
      · rw [if_neg h9, if_neg h9]
        rcases Nat.lt_or_ge j s.size with hlt | hge
        · obtain ⟨_, h2, h3, _⟩ := readAt_lt hlt hr
          rw [show items s t.fin = itemsF s s.size t.fin from itemsF_fuel s _ _ _ h3 (by omega) (by omega)]
        · rw [readAt_end s j hge] at hr
          cases hr
          exact absurd rfl h9
/-- the token that is read last tells its end -/
theorem readAt_fin {s : ByteArray} {i : Nat} {t : Tk} (hi : i ≤ s.size) (h : readAt s i = .inl t) : t.fin ≤ s.size ∧ (t.kind = 9 ∨ i < t.fin) := by
  rcases Nat.lt_or_ge i s.size with hlt | hge
  · obtain ⟨_, h2, h3, _⟩ := readAt_lt hlt h
    exact ⟨h3, .inr h2⟩
  · rw [readAt_end s i hge] at h
    cases h
    exact ⟨Nat.le_refl _, .inl rfl⟩
theorem readAt_nine {s : ByteArray} {i : Nat} {t : Tk} (hi : i ≤ s.size) (h : readAt s i = .inl t) (h9 : t.kind = 9) : t.fin = s.size := by
  rcases Nat.lt_or_ge i s.size with hlt | hge
  · exact absurd h9 (readAt_lt hlt h).2.2.2
  · rw [readAt_end s i hge] at h
    cases h
    rfl
/-- one step over a Space or a note -/
theorem skip_one (s : ByteArray) (k : Nat) (hk : k ≤ s.size) : skip s k = (stepAt s k).elim (.inr k) (fun m => if m = k then .inl k else skip s m) := by
  unfold stepAt
  rcases Nat.lt_or_ge k s.size with hlt | hge
  · rw [skip_step s k hlt, if_neg (show ¬ s.size ≤ k by omega)]
    by_cases a : cls (atB s k) = 1
    · rw [if_pos a, if_pos a]; simp only [Option.elim_some]; rw [if_neg (by omega)]
    rw [if_neg a, if_neg a]
    by_cases b : twoAt s k 45 45 = true
    · have := line_more b
      rw [if_pos b, if_pos b]; simp only [Option.elim_some]; rw [if_neg (by omega)]
    rw [if_neg b, if_neg b]
    by_cases c : twoAt s k 123 45 = true
    · rw [if_pos c, if_pos c]
      cases hn : noteAt s k with
      | none => rfl
      | some m =>
        have := note_bound _ _ _ _ _ hn
        simp only [Option.elim_some]; rw [if_neg (by omega)]
    · rw [if_neg c, if_neg c]; simp
  · rw [skip_end s k hge, if_pos hge]; simp
theorem step_le {s : ByteArray} {k m : Nat} (h : stepAt s k = some m) (hk : k ≤ s.size) : k ≤ m ∧ m ≤ s.size := by
  unfold stepAt at h
  by_cases a0 : s.size ≤ k
  · rw [if_pos a0] at h; cases h; omega
  rw [if_neg a0] at h
  by_cases a : cls (atB s k) = 1
  · rw [if_pos a] at h; cases h; omega
  rw [if_neg a] at h
  by_cases b : twoAt s k 45 45 = true
  · rw [if_pos b] at h; have := line_more b; cases h; omega
  rw [if_neg b] at h
  by_cases c : twoAt s k 123 45 = true
  · rw [if_pos c] at h; have := note_bound _ _ _ _ _ h; omega
  · rw [if_neg c] at h; cases h; omega

/-- a token and an error as yield is handed them -/
abbrev encT (x : Tk × Int) : Array Value := #[.agg #[.int .i64 x.1.kind, .int .i64 x.1.at_, .int .i64 x.1.fin, .string x.1.text, .int .i64 x.1.n], .int .i64 x.2]
/-- the iterator's own token -/
abbrev TkObj (t : Tk) : Obj := .cells #[.int .i64 t.kind, .int .i64 t.at_, .int .i64 t.fin, .string t.text, .int .i64 t.n] 166 (0, 0)

/-- a fence that shuts nothing out -/
structure Open (F : Fence) : Prop where
  round : F.round = none
  fn : ∀ f, F.fn f
  call : ∀ (n : Nat) (f : FuncId) (args : Array Value) (w : World) (R : Ending → World → Prop), Calls Tryz.prog f args w R → CallsIn F n Tryz.prog f args w R
  scope : ∀ (n : Nat) (c : Code) (Q : Exit → Act → World → Prop) (a : Act) (w : World), (∀ l a w, ¬ Q (.goto l) a w) → c.wpIn F n Tryz.prog Q a w → (Code.scope c).wpIn F n Tryz.prog Q a w
theorem open_wide : Open Fence.wide := ⟨rfl, fun _ => trivial, fun _ _ _ _ _ h => callsIn_wide.2 h, fun n c Q a w hq h => wpIn_wide.2 (wp_scope_straight (wpIn_wide.1 (wpIn_mono h (fun e a w hQ => by
  cases e with
  | goto l => exact (hq l a w hQ).elim
  | normal => exact hQ
  | ret => exact hQ
  | exit _ => exact hQ
  | panic _ => exact hQ
  | outgrown => exact hQ))))⟩

theorem grown_setRow (w : World) (g : Nat) (cs : Array Value) : w.grownBy (w.setRow g cs) (some g) :=
  ⟨rfl, rfl, rfl, by simp [World.setRow], fun k _ hk => setRow_other w g k cs (fun e => hk (by rw [e]))⟩
/-- a token is stored into a row of tokens, within a fence -/
theorem store_tkIn {F : Fence} {fu : Nat} {ops : Array Oper} {rest : List Oper} {o : Oper} {a : Act} {w : World} {Q : Exit → Act → World → Prop} (k i f : Int) (t : ByteArray) (n : Int) (N : Nat) (old : Array Value)
    (hN : w.heap[N]? = some (.cells old 166 (0, 0))) (hold : old.size = 5) (hgd : o.guard = none) (x y : Operand) (ho : o.op = .store 166 x y)
    (hx : a.eval x = .pointer (some ⟨N, 0, none⟩)) (hy : a.eval y = .agg (tkC k i f t n))
    (h : ∀ W2, W2.heap[N]? = some (.cells (tkC k i f t n) 166 (0, 0)) → w.grownBy W2 (some N) → wpListIn F fu Tryz.prog ops Q rest (a.put o.dst undef) W2) : wpListIn F fu Tryz.prog ops Q (o :: rest) a w := by
  have hinfo : (Tryz.prog.info? 166).map (·.size) = some (tkC k i f t n).size := by show _ = some 5; kernel_rfl
  refine wpListIn_plain hgd fun K hK => ?_
  unfold Oper.wpIn
  refine ⟨?_, ?_⟩
  · simp [Oper.about, ho]
  · rw [Oper.semAt_plain F _ _ (by rw [ho]; intro c hc'; cases hc')]
    simp only [execOp, ho, hx, hy, Instr.storeAt, Instr.sureAddr, Sem.run_bind, Sem.run_pure, Result.andThen_ok, run_storeVar_row w N 166 166 old (tkC k i f t n) hN hinfo hold (by simp [Value.oneCell'])]
    exact hK _ _ (h _ (row_store2 w N old _ _ hN) (grown_setRow w N _))
theorem readAt_err {s : ByteArray} {i : Nat} {p : Nat × Int} (h : readAt s i = .inr p) : p.2 ≠ 0 := by
  have hn : ∀ i p, nameAt s i = .inr p → p.2 ≠ 0 := by
    intro i p h
    unfold nameAt at h
    by_cases c : 32 < wordEnd s i - i
    · rw [if_pos c] at h; cases h; simp
    · rw [if_neg c] at h; cases h
  unfold readAt at h
  by_cases c0 : s.size ≤ i
  · rw [if_pos c0] at h; cases h
  rw [if_neg c0] at h
  by_cases c1 : cls (atB s i) = 3 ∨ cls (atB s i) = 4
  · rw [if_pos c1] at h
    unfold nameP at h
    by_cases d : 0 < i ∧ cls (atB s (i - 1)) = 2
    · rw [if_pos d] at h; cases h; simp
    · rw [if_neg d] at h; exact hn _ _ h
  rw [if_neg c1] at h
  by_cases c2 : cls (atB s i) = 2
  · rw [if_pos c2] at h
    unfold numP at h
    cases hd : dgsAt s i 0 with
    | none => rw [hd] at h; cases h; simp
    | some r => rw [hd] at h; cases h
  rw [if_neg c2] at h
  by_cases c3 : cls (atB s i) = 7
  · rw [if_pos c3] at h
    unfold textAt at h
    cases hd : quotedAt s i with
    | none => rw [hd] at h; cases h; simp
    | some r => rw [hd] at h; cases h
  rw [if_neg c3] at h
  by_cases c5 : cls (atB s i) = 5
  · rw [if_pos c5] at h
    unfold opAt at h
    by_cases d : i + 2 ≤ s.size ∧ inL opsL (s.extract i (i + 2)) = true
    · rw [if_pos d] at h; cases h
    rw [if_neg d] at h
    by_cases e : inL opsL (s.extract i (i + 1)) = true
    · rw [if_pos e] at h; cases h
    · rw [if_neg e] at h; cases h; simp
  rw [if_neg c5] at h
  by_cases c6 : cls (atB s i) = 6
  · rw [if_pos c6] at h; cases h
  · rw [if_neg c6] at h; cases h; simp
theorem RangeOk.same {w w' : World} (h : RangeOk w) (e : w'.heap[2]? = w.heap[2]?) : RangeOk w' := by
  obtain ⟨ev, h1, h2⟩ := h
  exact ⟨ev, (World.cell?_of_block (a := ⟨2, 0, none⟩) e).trans h1, h2⟩

/-- how much is to come, read off the iterator's token -/
def tkMu (s : ByteArray) (N : Nat) (w : World) : Nat := 2 * (s.size + 1 - (intOf ((w.cell? ⟨N, 2, none⟩).getD undef)).toNat) + (if intOf ((w.cell? ⟨N, 0, none⟩).getD undef) = 9 then 0 else 1)
theorem tkMu_eq (s : ByteArray) {N : Nat} {w : World} {k a f n : Int} {t : ByteArray} {ty : TypeId} {fr : Nat × Nat} (h : w.heap[N]? = some (.cells (tkC k a f t n) ty fr)) : tkMu s N w = 2 * (s.size + 1 - f.toNat) + (if k = 9 then 0 else 1) := by
  obtain ⟨c0, _, c2, _, _⟩ := cells5 h
  unfold tkMu
  rw [c0, c2]
  rfl

set_option maxHeartbeats 16000000 in
set_option maxRecDepth 100000 in
theorem iter_stops (F : Fence) (hF : Open F) (n : Nat) (hn : 1 ≤ n) (s : ByteArray) (hs : s.size ≤ 1000000) (n₀ Bs : Nat) (w : World) (hw : RangeOk w) (hg : 2 < n₀) (hn₀ : n₀ ≤ w.heap.size) (hBs : w.cell? ⟨Bs, 0, none⟩ = some (.string s)) (hBl : Bs < w.heap.size) :
    SeqCell F n Tryz.prog 127 #[.pointer (some ⟨Bs, 0, none⟩)] encT n₀ Bs (fun xs => xs = items s 0) (fun pre => pre <+: items s 0) (items s 0).length w := fun l J Jx W hW hJ hJx hY h0 => by
  have hro := hF.round
  refine callsIn_of_wp Tryz.func127 rfl (hF.fn _) ?_ hro
  simp only [Tryz.ntmps127, List.size_toArray, List.length_cons, List.length_nil, Nat.reduceAdd, Nat.reduceSub, Array.replicate_succ, Array.replicate_zero, List.push_toArray, List.append_toArray, List.nil_append, List.cons_append]
  refine hF.scope _ _ _ _ _ (fun l a w h => h) ?_
  gi_wp2
  refine wpIn_label ?_
  gi_wp2
  have hN : ∀ (o : Obj), (W.alloc o).heap[W.heap.size]? = some o := fun o => heap_alloc_new W o
  have hsz := hW.size
  gi_loopw [4, 5, 6, 7] (fun ev _ _ _ wr => ∃ (pre rest : List (Tk × Int)) (t : Tk), ev = .int .i64 0 ∧ wr.heap[W.heap.size]? = some (TkObj t) ∧ t.fin ≤ s.size ∧ Hid (items s 0 = pre ++ rest) ∧ Hid (if t.kind = 9 then rest = [] else rest = items s t.fin) ∧ J pre wr ∧ wr.cell? ⟨Bs, 0, none⟩ = some (.string s) ∧ RangeOk wr)
    (fun _ _ _ _ wr => tkMu s W.heap.size wr)
  case atStart =>
    refine ⟨[], items s 0, ⟨0, 0, 0, ⟨#[]⟩, 0⟩, rfl, hN _, Nat.zero_le _, Lib.hid rfl, Lib.hid (by rw [if_neg (by decide)]), hJ [] _ _ none h0 (World.grownBy_alloc W _ none) (fun r e => by cases e), ?_, ?_⟩
    · exact ((hW.alloc hsz _).cell (p := ⟨Bs, 0, none⟩) hBl).trans hBs
    · exact hw.below (hW.alloc hsz _) (Nat.le_refl _)
  case round =>
    obtain ⟨pre, rest, t, rfl, ht, hfin, H, HT, hj, hb, hr⟩ := hrel
    obtain ⟨a0, a1, a2, a3, a4⟩ := cells5 ht
    by_cases h9 : t.kind = 9
    · have hrest : rest = [] := by have := HT.out; rw [if_pos h9] at this; exact this
      rw [h9] at a0
      gi_wp2
      go_end0
      exact ⟨⟨_, rfl⟩, .inl ⟨pre, by rw [H.out, hrest]; simp, hj⟩⟩
    · have q : (t.kind != 9) = true := by rw [bne_iff_ne]; exact h9
      have hrest : rest = items s t.fin := by have := HT.out; rw [if_neg h9] at this; exact this
      rw [items_step hfin] at hrest
      have HR := Lib.hid hrest
      clear hrest h9
      gi_wp2
      gi_loop [5, 6, 7] (fun av _ _ => ∃ k : Nat, k ≤ s.size ∧ t.fin ≤ k ∧ av = .int .i64 k ∧ Hid (skip s t.fin = skip s k)) (fun av _ _ => s.size - (intOf av).toNat)
      case atStart => exact ⟨t.fin, hfin, Nat.le_refl _, rfl, Lib.hid rfl⟩
      case round =>
        obtain ⟨k, hk, hkf, rfl, HS⟩ := hrel
        have hone := skip_one s k hk
        gi_wp2_with fail
        refine ⟨hF.fn _, (hF.call _ _ _ _ _ (pskip_any s hs k hk _)).mono ?_⟩
        cases hst : stepAt s k with
        | none =>
          rw [hst] at hone
          have hrest : rest = [(⟨0, k, 0, ⟨#[]⟩, 0⟩, 23)] := by rw [HR.out, HS.out, hone]; rfl
          have Hrest := Lib.hid hrest
          have Hlen : pre.length < (items s 0).length := by rw [H.out, hrest]; simp
          clear hone hrest
          rintro e w' ⟨rfl, rfl⟩
          unfold stV
          gi_wp2_with (refine store_tkIn 0 k 0 ⟨#[]⟩ 0 W.heap.size _ ht rfl rfl _ _ rfl rfl rfl ?_; intro W2 k2 hg2; have hj2 := hJ _ _ _ _ hj hg2 (fun r e => by cases e; rfl); obtain ⟨b0, b1, b2, b3, b4⟩ := cells5 k2; obtain ⟨fn, tmps, assign, body, hy, hR⟩ := hY pre (⟨0, k, 0, ⟨#[]⟩, 0⟩, 23) W2 hj2 (lt_heap k2) Hlen; simp only [encT, show ((0 : Nat) : Int) = 0 from rfl] at hy)
          refine hR.mono ?_
          rintro e W3 (⟨rfl, hJ3, hk3⟩ | ⟨rfl, hJx3⟩)
          · gi_wp2
            go_end0
            exact ⟨⟨_, rfl⟩, .inl ⟨_, by rw [H.out, Hrest.out], hJ3⟩⟩
          · gi_wp2
            go_end0
            exact ⟨⟨_, rfl⟩, .inr ⟨_, ⟨[], by rw [H.out, Hrest.out]; simp⟩, hJx3⟩⟩
        | some m =>
          have hml := step_le hst hk
          rw [hst] at hone
          simp only [Option.elim_some] at hone
          by_cases hmk : m = k
          · subst hmk
            rw [if_pos rfl] at hone
            have HB := Lib.hid (HS.out.trans hone)
            have e1 : ((m : Int) == m) = true := by rw [beq_iff_eq]
            clear hone
            rintro e w' ⟨rfl, rfl⟩
            unfold stV
            gi_wp2_with fail
            refine ⟨hF.fn _, (hF.call _ _ _ _ _ (pread_any s hs m hk _ hr)).mono ?_⟩
            cases hrd : readAt s m with
            | inr p =>
              have hrest : rest = [(⟨0, p.1, 0, ⟨#[]⟩, 0⟩, p.2)] := by rw [HR.out, HB.out]; simp only [Sum.elim_inl]; rw [hrd]; rfl
              have Hrest := Lib.hid hrest
              have Hlen : pre.length < (items s 0).length := by rw [H.out, hrest]; simp
              have e2 : (p.2 != 0) = true := by rw [bne_iff_ne]; exact readAt_err hrd
              clear hrest
              rintro e w1 ⟨rfl, hb1⟩
              simp only [rdV, tkOf, erOf]
              have ht1 := (hb1.block _ (lt_heap ht)).trans ht
              have hj1 := hJ _ _ _ none hj (below_grownBy hb1 none) (fun r e => by cases e)
              gi_wp2_with (refine store_tkIn 0 p.1 0 ⟨#[]⟩ 0 W.heap.size _ ht1 rfl rfl _ _ rfl rfl rfl ?_; intro W2 k2 hg2; have hj2 := hJ _ _ _ _ hj1 hg2 (fun r e => by cases e; rfl); obtain ⟨b0, b1, b2, b3, b4⟩ := cells5 k2; obtain ⟨fn, tmps, assign, body, hy, hR⟩ := hY pre (⟨0, p.1, 0, ⟨#[]⟩, 0⟩, p.2) W2 hj2 (lt_heap k2) Hlen; simp only [encT, show ((0 : Nat) : Int) = 0 from rfl] at hy)
              refine hR.mono ?_
              rintro e W3 (⟨rfl, hJ3, hk3⟩ | ⟨rfl, hJx3⟩)
              · gi_wp2
                go_end0
                exact ⟨⟨_, rfl⟩, .inl ⟨_, by rw [H.out, Hrest.out], hJ3⟩⟩
              · gi_wp2
                go_end0
                exact ⟨⟨_, rfl⟩, .inr ⟨_, ⟨[], by rw [H.out, Hrest.out]; simp⟩, hJx3⟩⟩
            | inl t' =>
              have hrest : rest = (t', 0) :: if t'.kind = 9 then [] else items s t'.fin := by rw [HR.out, HB.out]; simp only [Sum.elim_inl]; rw [hrd]; rfl
              have Hrest := Lib.hid hrest
              have Hlen : pre.length < (items s 0).length := by rw [H.out, hrest]; simp
              have hfin' := readAt_fin hk hrd
              clear hrest
              rintro e w1 ⟨rfl, hb1⟩
              simp only [rdV, tkOf, erOf]
              have ht1 := (hb1.block _ (lt_heap ht)).trans ht
              have hj1 := hJ _ _ _ none hj (below_grownBy hb1 none) (fun r e => by cases e)
              have hB1 := (hb1.cell (p := ⟨Bs, 0, none⟩) (Lib.lt_of_cell hb)).trans hb
              have hR1 := hr.below hb1 (Nat.le_refl _)
              gi_wp2_with (refine store_tkIn t'.kind t'.at_ t'.fin t'.text t'.n W.heap.size _ ht1 rfl rfl _ _ rfl rfl rfl ?_; intro W2 k2 hg2; have hj2 := hJ _ _ _ _ hj1 hg2 (fun r e => by cases e; rfl); obtain ⟨b0, b1, b2, b3, b4⟩ := cells5 k2; obtain ⟨fn, tmps, assign, body, hy, hR⟩ := hY pre (t', 0) W2 hj2 (lt_heap k2) Hlen; simp only [encT] at hy)
              refine hR.mono ?_
              have hB2 : W2.heap[Bs]? = w1.heap[Bs]? := hg2.block Bs (Lib.lt_of_cell hB1) (fun e => by have := Option.some.inj e; omega)
              have hR2 := hR1.same (hg2.block _ (by obtain ⟨ev, h, _⟩ := hR1; exact Lib.lt_of_cell h) (fun e => by have := Option.some.inj e; omega))
              rintro e W3 (⟨rfl, hJ3, hk3⟩ | ⟨rfl, hJx3⟩)
              · have k3 := (hk3.same W.heap.size (by simp)).trans k2
                have hB3 : W3.cell? ⟨Bs, 0, none⟩ = some (.string s) := (World.cell?_of_block (a := ⟨Bs, 0, none⟩) ((hk3.same Bs (by simp)).trans hB2)).trans hB1
                have hR3 := hR2.same (hk3.below.block _ hg)
                obtain ⟨c0, c1, c2, c3, c4⟩ := cells5 k3
                gi_wp2
                go_roundw
                case rel =>
                  refine ⟨pre ++ [(t', 0)], if t'.kind = 9 then [] else items s t'.fin, t', rfl, k3, hfin'.1, Lib.hid (by rw [H.out, Hrest.out]; simp), Lib.hid ?_, hJ3, hB3, hR3⟩
                  by_cases h : t'.kind = 9
                  · rw [if_pos h, if_pos h]
                  · rw [if_neg h, if_neg h]
                case measure =>
                  rw [tkMu_eq s k3, tkMu_eq s ht]
                  rw [bne_iff_ne] at q
                  rw [if_neg q]
                  rcases hfin'.2 with h | h
                  · rw [if_pos h]
                    have := readAt_nine hk hrd h
                    omega
                  · by_cases h9 : t'.kind = 9
                    · rw [if_pos h9]; omega
                    · rw [if_neg h9]; omega
              · gi_wp2
                refine bodyPost_ret (results_none rfl _ _ _) rfl ?_
                exact ⟨⟨_, rfl⟩, .inr ⟨_, ⟨if t'.kind = 9 then [] else items s t'.fin, by rw [H.out, Hrest.out]; simp⟩, hJx3⟩⟩
          · rw [if_neg hmk] at hone
            have HB := Lib.hid (HS.out.trans hone)
            have e1 : ((m : Int) == k) = false := by rw [beq_eq_false_iff_ne]; omega
            clear hone
            rintro e w' ⟨rfl, rfl⟩
            unfold stV
            gi_wp2
            go_round
            case rel => exact ⟨m, hml.2, by omega, rfl, HB⟩
            case measure => simp [intOf]; omega
end Go.Proofs.YtkdhoelabomgkaaGreatDoor
