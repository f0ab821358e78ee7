/-
  A range over a function whose iterator has a block of its own that it writes between two rounds: its contract, and the caller's law. Of no program.
-/
import Derived.RangeFuncNested
import Derived.RangeFuncBound
import Derived.RangeFuncLeaves
import Derived.Test.YtifmbhcajlnhbaaDoorPReadAll
namespace Go.Proofs.YtifmbhcajlnhbaaDoor
set_option linter.unusedVariables false
open Go.RowKit

/-- what lay below b, and the blocks ks, lie as they lay -/
structure KeptC (b : Nat) (ks : List Nat) (W W' : World) : Prop where
  below : Below b W W'
  same : ∀ k, k ∈ ks → W'.heap[k]? = W.heap[k]?
theorem KeptC.refl (b : Nat) (ks : List Nat) (W : World) : KeptC b ks W W := ⟨Below.refl _ _, fun _ _ => rfl⟩
theorem KeptC.trans {b : Nat} {ks : List Nat} {X Y Z : World} (h : KeptC b ks X Y) (h' : KeptC b ks Y Z) : KeptC b ks X Z := ⟨h.below.trans h'.below, fun k hk => (h'.same k hk).trans (h.same k hk)⟩
theorem KeptC.sub {b : Nat} {ks ls : List Nat} {X Y : World} (h : KeptC b ks X Y) (hs : ∀ k, k ∈ ls → k ∈ ks) : KeptC b ls X Y := ⟨h.below, fun k hk => h.same k (hs k hk)⟩
theorem KeptC.grown {b : Nat} {ks : List Nat} {X Y : World} {row : Option Nat} (hb : b ≤ X.heap.size) (hks : ∀ k, k ∈ ks → k < X.heap.size) (hg : X.grownBy Y row) (hr : ∀ r, row = some r → b ≤ r ∧ r ∉ ks) : KeptC b ks X Y :=
  ⟨(Below.refl b X).grown hg hb (fun k e => (hr k e).1), fun k hk => hg.block k (hks k hk) (fun e => (hr k e.symm).2 hk)⟩

/-- an invariant abides the turn of one block -/
def AbCell {β : Type} (N : Nat) (J : β → World → Prop) : Prop := ∀ s A B row, J s A → A.grownBy B row → (∀ r, row = some r → r = N) → J s B
/-- .. of three -/
def OwnCell {β : Type} (N : Nat) (I : β → World → Prop) : Prop := ∀ s A B row, I s A → A.grownBy B row → (∀ r, row = some r → N ≤ r ∧ r ≤ N + 2) → I s B

/-- THE ITERATOR's CONTRACT: the first block that it lays is its own; the body keeps that, the block Bs, and what lay below n₀ -/
def SeqCell {α : Type} (F : Fence) (n : Nat) (P : Program) (g : Nat) (lb : Array Value) (encs : α → Array Value) (n₀ Bs : Nat) (S Sp : List α → Prop) (M : Nat) (w : World) : Prop :=
  ∀ (l : Nat) (J Jx : List α → World → Prop) (W : World), Below w.heap.size w W → AbCell W.heap.size J → AbCell W.heap.size Jx →
    (∀ pre x W1, J pre W1 → W.heap.size < W1.heap.size → pre.length < M → YieldAt F (n - 1) P l (encs x) W1 fun e W' =>
      (e = .returned (.bool true) ∧ J (pre ++ [x]) W' ∧ KeptC n₀ [Bs, W.heap.size] W1 W') ∨ (e = .returned (.bool false) ∧ Jx (pre ++ [x]) W')) →
    J [] W →
    CallsIn F n P g (#[.func (.yield l) #[] #[]] ++ lb) W fun e W' => (∃ v, e = .returned v) ∧ ((∃ xs, S xs ∧ J xs W') ∨ (∃ pre, Sp pre ∧ Jx pre W'))

/-- how the body of a round may be left -/
def cellPost {α : Type} (B n₀ Bs : Nat) (I : List α → World → Prop) (Ix : Code → List α → World → Prop) (xs : List α) (W : World) : Exit → Act → World → Prop
  | .normal, _, W' => KeptC n₀ [Bs, B, B + 1, B + 2] W W' ∧ I xs W'
  | .ret, _, W' => KeptC n₀ [Bs, B, B + 1, B + 2] W W' ∧ Ix .ret xs W'
  | .exit id, _, W' => KeptC n₀ [Bs, B, B + 1, B + 2] W W' ∧ Ix (.exit id) xs W'
  | .goto t, _, W' => KeptC n₀ [Bs, B, B + 1, B + 2] W W' ∧ Ix (.goto t) xs W'
  | .panic _, _, _ => False
  | .outgrown, _, _ => False

theorem grown_putObj (W : World) (l : Nat) (o : Obj) : W.grownBy (W.putObj l o) (some l) :=
  ⟨rfl, rfl, rfl, by simp, fun k _ hk => World.putObj_heap_other (fun e => hk (by rw [e]))⟩
theorem OwnCell.put {β : Type} {N : Nat} {I : β → World → Prop} (h : OwnCell N I) {s : β} {W : World} {l : Nat} (o : Obj) (hs : I s W) (h1 : N ≤ l) (h2 : l ≤ N + 2) : I s (W.putObj l o) :=
  h s W _ (some l) hs (grown_putObj W l o) (fun r e => by cases e; exact ⟨h1, h2⟩)
theorem OwnCell.alloc {β : Type} {N : Nat} {I : β → World → Prop} (h : OwnCell N I) {s : β} {W : World} (o : Obj) (hs : I s W) : I s (W.alloc o) :=
  h s W _ none hs (World.grownBy_alloc W o none) (fun r e => by cases e)
theorem keptC_put {b Bs N : Nat} {W : World} (hb : b ≤ N) (hBs : Bs < N) (o : Obj) : KeptC b [Bs, N + 2] W (W.putObj (N + 1) o) :=
  ⟨⟨rfl, rfl, rfl, by simp, fun k hk => World.putObj_heap_other (by omega)⟩, fun k hk => by
    simp only [List.mem_cons, List.not_mem_nil, or_false] at hk
    exact World.putObj_heap_other (by omega)⟩

section
variable {F : Fence} {n : Nat} {P : Program}

/-- **THE CALLER's LAW.** -/
theorem range_cell {α : Type} {g : Operand} {ps : Array Tmp} {assign body : Code} {Q : Exit → Act → World → Prop} {a : Act} {w : World}
    (hro : F.round = none) (h1 : 1 ≤ n) {gf : Nat} {lb : Array Value} (hg : a.eval g = .func (.func gf) #[] lb) (hFg : F.fn gf) (eg : ∀ args w, (callFunc gf args).run P w = .ok (.enter gf args) w)
    {encs : α → Array Value} {n₀ Bs : Nat} (hn₀ : n₀ ≤ w.heap.size) (hBs : Bs < w.heap.size) {S Sp : List α → Prop} {M : Nat} (hseq : SeqCell F (n - 1) P gf lb encs n₀ Bs S Sp M w) (hps : ∀ x, (encs x).size = ps.size)
    (I : List α → World → Prop) (Ix : Code → List α → World → Prop) (hI : OwnCell w.heap.size I) (hIx : ∀ c, OwnCell w.heap.size (Ix c)) (h0 : I [] w) (Ax : α → Act → World → Prop) (hAx : ∀ x a', OwnCell w.heap.size (fun (_ : Unit) W => Ax x a' W))
    (hassign : ∀ (l : Nat) (pre : List α) (x : α) (W : World) (K : Act → World → Prop), I pre W → w.heap.size + 2 < W.heap.size → (∀ a' W', KeptC n₀ [Bs, w.heap.size, w.heap.size + 1, w.heap.size + 2] W W' → I pre W' → Ax x a' W' → K a' W') →
      assign.wpIn (F.inRound l) (n - 1 - 1) P (Exit.then K (fun _ _ _ => False)) { tmps := (ps.zip (encs x)).foldl (fun t (p, v) => t.setIfInBounds p v) a.tmps, defers := [] } W)
    (hbody : ∀ (l : Nat) (pre : List α) (x : α) (a' : Act) (W : World), w.heap.size + 2 < W.heap.size → I pre W → Ax x a' W → pre.length < M → body.wpIn (F.inRound l) (n - 1 - 1) P (cellPost w.heap.size n₀ Bs I Ix (pre ++ [x]) W) a' W)
    (hdone : ∀ (xs : List α) (W : World), S xs → I xs W → W.heap[w.heap.size]? = some (.deferred (some [])) → Q .normal { a with defers := { target := .collected w.heap.size, args := #[] } :: a.defers } W)
    (hstop : ∀ (c : Code) (pre : List α) (W : World), Sp pre → Ix c pre W → W.heap[w.heap.size]? = some (.deferred (some [])) → c.wpIn F n P Q { a with defers := { target := .collected w.heap.size, args := #[] } :: a.defers } W) :
    (Code.rangeFunc g ps assign body).wpIn F n P Q a w := by
  refine wpIn_rangeFunc ?_
  intro fn hfn
  rw [hro]
  obtain ⟨rec, hrec⟩ : ∃ rec : LoopState → Option Code → Loop, rec = fun st pe => { state := st, pending := pe, fn, tmps := a.tmps, params := ps, assign, body, defers := w.heap.size } := ⟨_, rfl⟩
  obtain ⟨W1, hW1⟩ : ∃ W1, (w.alloc (.deferred (some []))).alloc (.loop (rec .ready none)) = W1 := ⟨_, rfl⟩
  have hs1 : W1.heap.size = w.heap.size + 2 := by rw [← hW1]; simp
  have hL1 : W1.heap[w.heap.size + 1]? = some (.loop (rec .ready none)) := by
    rw [← hW1]; have := World.alloc_heap_new (w.alloc (.deferred (some []))) (.loop (rec .ready none)); rwa [World.size_alloc] at this
  have hK1 : W1.heap[w.heap.size]? = some (.deferred (some [])) := by
    rw [← hW1]; exact (Below.heap_alloc _ _ _ (by simp)).trans (World.alloc_heap_new w _)
  have hI1 : I [] W1 := by rw [← hW1]; exact hI.alloc _ (hI.alloc _ h0)
  have hb1 : Below w.heap.size w W1 := by rw [← hW1]; exact ((Below.refl _ w).alloc (Nat.le_refl _) _).alloc (by simp) _
  have hnr : ∀ {row : Option Nat}, (∀ r, row = some r → r = W1.heap.size) → ∀ r, row = some r → w.heap.size ≤ r ∧ r ≤ w.heap.size + 2 := fun h r e => by rw [h r e, hs1]; omega
  have hkeep : ∀ {A B : World} {row : Option Nat} {k : Nat} {o : Obj}, A.grownBy B row → (∀ r, row = some r → r = W1.heap.size) → k < w.heap.size + 2 → A.heap[k]? = some o → B.heap[k]? = some o := fun hg' hr hk ho =>
    (hg'.block _ (Array.getElem?_eq_some_iff.1 ho).1 (fun e => by have := hr _ e.symm; omega)).trans ho
  refine ⟨w.heap.size + 1, [{ target := .collected w.heap.size, args := #[] }], W1, { target := .fn (.func gf) lb, args := #[.func (.yield (w.heap.size + 1)) #[] #[]] }, W1, gf,
    #[.func (.yield (w.heap.size + 1)) #[] #[]] ++ lb, W1, ?_, ?_, ?_, ?_, fun _ => h1, ?_⟩
  · rw [← hW1, hrec]; exact run_enterLoop_outer _ _ _ _ _
  · simp only [resolve, hg]
    simp [go_sem]
  · intro f' hf'; simp [Target.leads] at hf'; subst hf'; exact hFg
  · simp [invoke, go_sem, eg]
  · refine (hseq (w.heap.size + 1)
      (fun pre W => I pre W ∧ W.heap[w.heap.size + 1]? = some (.loop (rec .ready none)) ∧ W.heap[w.heap.size]? = some (.deferred (some [])))
      (fun pre W => ∃ c, Ix c pre W ∧ W.heap[w.heap.size + 1]? = some (.loop (rec .done (some c))) ∧ W.heap[w.heap.size]? = some (.deferred (some [])))
      W1 hb1
      (fun s A B row hs hg' hr => ⟨hI s A B row hs.1 hg' (hnr hr), hkeep hg' hr (by omega) hs.2.1, hkeep hg' hr (by omega) hs.2.2⟩)
      (fun s A B row hs hg' hr => by
        obtain ⟨c, hc, hl, hk⟩ := hs
        exact ⟨c, hIx c s A B row hc hg' (hnr hr), hkeep hg' hr (by omega) hl, hkeep hg' hr (by omega) hk⟩)
      ?_ ⟨hI1, hL1, hK1⟩).mono ?_
    · rintro pre x W ⟨hi, hl, hk⟩ hsz hlen
      rw [hs1] at hsz ⊢
      have hy := run_yield (P := P) (args := encs x) hl (by rw [hrec]; exact hps x)
      rw [hrec] at hy
      refine ⟨fn, _, assign, body, hy, roundIn_of_wpIn hfn (hassign _ pre x W _ hi hsz ?_)⟩
      clear hy
      intro a' V hkv hiv hav
      have hlv := (hkv.same (w.heap.size + 1) (by simp)).trans hl
      have hkv0 := (hkv.same w.heap.size (by simp)).trans hk
      have hszv : w.heap.size + 2 < V.heap.size := Nat.lt_of_lt_of_le hsz hkv.below.size
      refine ⟨_, run_beginRound hlv (by rw [hrec]), ?_⟩
      have hl2 : (V.putObj (w.heap.size + 1) (.loop { rec .ready none with state := .busy })).heap[w.heap.size + 1]? = some (.loop { rec .ready none with state := .busy }) := World.putObj_heap_same (by omega)
      have hk2 : (V.putObj (w.heap.size + 1) (.loop { rec .ready none with state := .busy })).heap[w.heap.size]? = some (.deferred (some [])) := (World.putObj_heap_other (by omega)).trans hkv0
      have hkb : KeptC n₀ [Bs, w.heap.size + 2] W (V.putObj (w.heap.size + 1) (.loop { rec .ready none with state := .busy })) :=
        (hkv.sub (fun k h => by simp only [List.mem_cons, List.not_mem_nil, or_false] at h ⊢; omega)).trans (keptC_put hn₀ hBs _)
      refine wpIn_mono (hbody _ pre x a' _ (by simpa using hszv) (hI.put _ hiv (by omega) (by omega)) ((hAx x a').put (s := ()) _ hav (by omega) (by omega)) hlen) ?_
      have fin : ∀ (jump : Option Code) (W3 : World), KeptC n₀ [Bs, w.heap.size, w.heap.size + 1, w.heap.size + 2] (V.putObj (w.heap.size + 1) (.loop { rec .ready none with state := .busy })) W3 →
          (Instr.endRound (w.heap.size + 1) jump).run P W3 = .ok (.bool jump.isNone) (W3.putObj (w.heap.size + 1) (.loop (rec (if jump.isNone then .ready else .done) jump))) ∧
          (W3.putObj (w.heap.size + 1) (.loop (rec (if jump.isNone then .ready else .done) jump))).heap[w.heap.size + 1]? = some (.loop (rec (if jump.isNone then .ready else .done) jump)) ∧
          (W3.putObj (w.heap.size + 1) (.loop (rec (if jump.isNone then .ready else .done) jump))).heap[w.heap.size]? = some (.deferred (some [])) := fun jump W3 hk3 => by
        have hl3 := (hk3.same (w.heap.size + 1) (by simp)).trans hl2
        have := run_endRound (P := P) jump hl3
        rw [hrec] at this ⊢
        exact ⟨this, World.putObj_heap_same (Array.getElem?_eq_some_iff.1 hl3).1, (World.putObj_heap_other (by omega)).trans ((hk3.same w.heap.size (by simp)).trans hk2)⟩
      rintro e a3 W3 hp
      cases e with
      | normal =>
        obtain ⟨hk3, hi3⟩ := hp
        obtain ⟨hr, hl4, hk4⟩ := fin none W3 hk3
        exact ⟨_, _, hr, .inl ⟨rfl, ⟨hI.put _ hi3 (by omega) (by omega), hl4, hk4⟩, hkb.trans ((hk3.sub (fun k h => by simp only [List.mem_cons, List.not_mem_nil, or_false] at h ⊢; omega)).trans (keptC_put hn₀ hBs _))⟩⟩
      | ret =>
        obtain ⟨hk3, hi3⟩ := hp
        obtain ⟨hr, hl4, hk4⟩ := fin (some .ret) W3 hk3
        exact ⟨_, _, hr, .inr ⟨rfl, .ret, (hIx _).put _ hi3 (by omega) (by omega), hl4, hk4⟩⟩
      | exit id =>
        obtain ⟨hk3, hi3⟩ := hp
        obtain ⟨hr, hl4, hk4⟩ := fin (some (.exit id)) W3 hk3
        exact ⟨_, _, hr, .inr ⟨rfl, .exit id, (hIx _).put _ hi3 (by omega) (by omega), hl4, hk4⟩⟩
      | goto t =>
        obtain ⟨hk3, hi3⟩ := hp
        obtain ⟨hr, hl4, hk4⟩ := fin (some (.goto t)) W3 hk3
        exact ⟨_, _, hr, .inr ⟨rfl, .goto t, (hIx _).put _ hi3 (by omega) (by omega), hl4, hk4⟩⟩
      | panic ch => exact hp.elim
      | outgrown => exact hp.elim
    · rintro e W2 ⟨⟨v, rfl⟩, (⟨xs, hS, hi, hl, hk⟩ | ⟨pre, hSp, c, hi, hl, hk⟩)⟩
      · exact ⟨none, _, by have := run_endLoop (P := P) hl (by rw [hrec]; simp); rw [hrec] at this; exact this, hdone xs _ hS (hI.put _ hi (by omega) (by omega)) ((World.putObj_heap_other (by omega)).trans hk)⟩
      · exact ⟨some c, _, by have := run_endLoop (P := P) hl (by rw [hrec]; simp); rw [hrec] at this; exact this, hstop c pre _ hSp ((hIx c).put _ hi (by omega) (by omega)) ((World.putObj_heap_other (by omega)).trans hk)⟩
end
end Go.Proofs.YtifmbhcajlnhbaaDoor
