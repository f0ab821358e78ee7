/-
  Layer 7, the law's side: the constants (a ring behind what it needs); num.
-/
import Derived.Test.YtmoebpebahhbeaaIsG
namespace Go.Proofs.Ytmoebpebahhbeaa
set_option linter.unusedVariables false
open Go.ChangeShapes Go.WideShapes Go.ChangeAt Go.RowKit

theorem sorted_ext : ∀ (l m : List Nat), l.Pairwise (· < ·) → m.Pairwise (· < ·) → (∀ x, x ∈ l ↔ x ∈ m) → l = m := by
  intro l
  induction l with
  | nil =>
    intro m _ _ h
    cases m with
    | nil => rfl
    | cons b m => exact absurd ((h b).2 (by simp)) (by simp)
  | cons a l ih =>
    intro m hl hm h
    cases m with
    | nil => exact absurd ((h a).1 (by simp)) (by simp)
    | cons b m =>
      rw [List.pairwise_cons] at hl hm
      have h1 := (h a).1 (by simp)
      have h2 := (h b).2 (by simp)
      rw [List.mem_cons] at h1 h2
      have hab : a = b := by
        rcases h1 with h1 | h1
        · exact h1
        · rcases h2 with h2 | h2
          · exact h2.symm
          · have := hl.1 b h2; have := hm.1 a h1; omega
      subst hab
      congr 1
      refine ih m hl.2 hm.2 fun x => ?_
      have hx := h x
      rw [List.mem_cons, List.mem_cons] at hx
      constructor
      · intro hxl
        rcases hx.1 (.inr hxl) with e | e
        · have := hl.1 x hxl; omega
        · exact e
      · intro hxm
        rcases hx.2 (.inr hxm) with e | e
        · have := hm.1 x hxm; omega
        · exact e
def kEs : List (Int × Int) := [(0, 1), (1, 0), (1, 2)]
theorem k_adj : adjM 3 kEs = [[1], [0, 2], []] := by decide
theorem k_ed (a b : Nat) : Ed (adjM 3 kEs) a b ↔ (a = 0 ∧ b = 1) ∨ (a = 1 ∧ b = 0) ∨ (a = 1 ∧ b = 2) := by
  rw [k_adj]
  unfold Ed ats
  match a with
  | 0 => simp
  | 1 => simp
  | 2 => simp
  | a + 3 => simp
theorem k_from {y x : Nat} (h : Rd (adjM 3 kEs) y x) (hy : y = 2) : x = 2 := by
  induction h with
  | refl a => exact hy
  | step e _ _ => subst hy; have := (k_ed _ _).1 e; omega
theorem k_two {x : Nat} (h : Rd (adjM 3 kEs) 2 x) : x = 2 := k_from h rfl
theorem out_knows {out : List (List Nat)} (h : IsG (adjM 3 kEs) out) : out = [[2], [0, 1]] := by
  have hn : (adjM 3 kEs).length = 3 := adjM_len 3 kEs
  have r01 : Rd (adjM 3 kEs) 0 1 := .one ((k_ed 0 1).2 (.inl ⟨rfl, rfl⟩))
  have r10 : Rd (adjM 3 kEs) 1 0 := .one ((k_ed 1 0).2 (.inr (.inl ⟨rfl, rfl⟩)))
  obtain ⟨i0, l0, h0, m0⟩ := h.all 0 (by omega)
  obtain ⟨i2, l2, h2, m2⟩ := h.all 2 (by omega)
  have m01 : 1 ∈ l0 := (h.scc i0 l0 h0 0 m0 1 (by omega)).2 ⟨r01, r10⟩
  have e0 : l0 = [0, 1] := by
    refine sorted_ext _ _ (h.inc i0 l0 h0).1 (by simp) fun x => ?_
    constructor
    · intro hx
      have hx3 := h.mem i0 l0 h0 x hx
      have hx2 : x ≠ 2 := fun e => by
        subst e
        have := k_two ((h.scc i0 l0 h0 2 hx 0 (by omega)).1 m0).1
        omega
      simp
      omega
    · intro hx
      simp at hx
      rcases hx with rfl | rfl
      · exact m0
      · exact m01
  have e2 : l2 = [2] := by
    refine sorted_ext _ _ (h.inc i2 l2 h2).1 (by simp) fun x => ?_
    constructor
    · intro hx
      have hx3 := h.mem i2 l2 h2 x hx
      have := k_two ((h.scc i2 l2 h2 2 m2 x hx3).1 hx).1
      simp [this]
    · intro hx
      simp at hx
      subst hx
      exact m2
  have hlt : i2 < i0 := by
    obtain ⟨j, m, hj, hm, h2m⟩ := h.need i0 l0 1 2 h0 m01 ((k_ed 1 2).2 (.inr (.inr ⟨rfl, rfl⟩)))
    have := h.one j i2 m l2 2 hm h2 h2m m2
    have hne : i2 ≠ i0 := fun e => by
      subst e
      rw [h0] at h2
      have e3 := Option.some.inj h2
      rw [e0, e2] at e3
      simp at e3
    omega
  have hall : ∀ k l, out[k]? = some l → k = i2 ∨ k = i0 := fun k l hk => by
    have hne := (h.inc k l hk).2
    obtain ⟨x, hx⟩ := List.exists_mem_of_ne_nil l hne
    have hx3 := h.mem k l hk x hx
    by_cases e : x = 2
    · exact .inl (h.one k i2 l l2 x hk h2 hx (e ▸ m2))
    · refine .inr (h.one k i0 l l0 x hk h0 hx ?_)
      rw [e0]; simp; omega
  have b0 := (List.getElem?_eq_some_iff.1 h0).1
  have hi2 : i2 = 0 := by
    rcases hall 0 _ (List.getElem?_eq_getElem (by omega)) with e | e <;> omega
  have hi0 : i0 = 1 := by
    rcases hall 1 _ (List.getElem?_eq_getElem (by omega)) with e | e <;> omega
  have hlen : out.length = 2 := by
    refine Classical.byContradiction fun hne => ?_
    rcases hall 2 _ (List.getElem?_eq_getElem (by omega)) with e | e <;> omega
  subst hi2 hi0
  match out, hlen with
  | [a, b], _ =>
    simp at h0 h2
    rw [h0, h2, e0, e2]
theorem num_any (x : Int) (w : World) : Calls Try.prog 16 #[.int .i64 x] w fun e w' => e = .returned (.int .i64 x) ∧ w = w' := by
  go_enter Try.func16, Try.ntmps16
  go_wp2
  go_ret
  exact ⟨rfl, rfl⟩
theorem edges_new (w : World) (cs : List Value) (es : List (Int × Int)) (m : Nat) (hes : es.length ≤ 1000000) (h : ∀ (j : Nat) (x : Int × Int), es[j]? = some x → cs[j * 2]? = some (.int .i64 x.1) ∧ cs[j * 2 + 1]? = some (.int .i64 x.2)) : Edges (w.alloc (.cells cs.toArray 43)) (.slice (some ⟨w.heap.size, 0, none⟩) es.length m) es := by
  refine ⟨_, _, rfl, by omega, fun j x hx => ⟨⟨w.heap.size, 0, none⟩, rfl, by simp, cells_new w cs _ _ _ (h j x hx).1, cells_new w cs _ _ _ (h j x hx).2⟩⟩
set_option maxHeartbeats 1000000 in
set_option maxRecDepth 100000 in
theorem knows7_any (w : World) : Calls Try.prog 8 #[] w fun e w' => e = .returned (.bool true) ∧ Below w.heap.size w w' := by
  go_enter Try.func8, Try.ntmps8
  go_wp2_with fail
  have hE : Edges (w.alloc (.cells #[.int .i64 0, .int .i64 1, .int .i64 1, .int .i64 0, .int .i64 1, .int .i64 2] 43)) (.slice (some ⟨w.heap.size, 0, none⟩) 3 3) kEs := edges_new w [.int .i64 0, .int .i64 1, .int .i64 1, .int .i64 0, .int .i64 1, .int .i64 2] kEs 3 (by decide) (fun j x hx => by
    match j, hx with
    | 0, hx => cases hx; exact ⟨rfl, rfl⟩
    | 1, hx => cases hx; exact ⟨rfl, rfl⟩
    | 2, hx => cases hx; exact ⟨rfl, rfl⟩
    | j + 3, hx => simp [kEs] at hx)
  have hb0 : Below w.heap.size w (w.alloc (.cells #[.int .i64 0, .int .i64 1, .int .i64 1, .int .i64 0, .int .i64 1, .int .i64 2] 43)) := (Below.refl _ _).alloc (Nat.le_refl _) _
  generalize w.alloc _ = W at hE hb0 ⊢
  have HB0 := Lib.hid hb0
  refine (Groups_any 3 _ kEs W hE).mono ?_
  rintro e w1 ⟨u, rfl, hb1, hg, _⟩
  have hf : faultM 3 kEs = 0 := by decide
  obtain ⟨out, vs, ho, hrow, hrws⟩ := hg hf
  obtain rfl := out_knows ho
  rw [hf]
  obtain ⟨g, c, rfl, -⟩ := owns_some hrow (by decide)
  obtain ⟨v0, hv0, hr0, _⟩ := hrws.at (show 0 < [[2], [0, 1]].length by decide)
  obtain ⟨v1, hv1, hr1, _⟩ := hrws.at (show 1 < [[2], [0, 1]].length by decide)
  have g0 := val_cell hrow hv0
  have g1 := val_cell hrow hv1
  obtain ⟨a0, c0, rfl, -⟩ := owns_some hr0 (by decide)
  obtain ⟨a1, c1, rfl, -⟩ := owns_some hr1 (by decide)
  have x0 : w1.cell? ⟨a0, 0, none⟩ = some (.int .i64 2) := num_cell hr0 (j := 0) (by decide)
  have x1 : w1.cell? ⟨a1, 1, none⟩ = some (.int .i64 1) := num_cell hr1 (j := 1) (by decide)
  replace g0 : w1.cell? ⟨g, 0, none⟩ = some (.slice (some ⟨a0, 0, none⟩) 1 c0) := g0
  replace g1 : w1.cell? ⟨g, 1, none⟩ = some (.slice (some ⟨a1, 0, none⟩) 2 c1) := g1
  have HB1 := Lib.hid (HB0.out.trans (hb1.mono HB0.out.size))
  clear hE hb0 hb1 hg hf ho hrow hrws hv0 hv1 hr0 hr1
  go_wp2_with (go_at_call 16; refine (num_any _ _).mono ?_; rintro e w' ⟨rfl, rfl⟩)
  go_ret
  exact ⟨rfl, HB1.out⟩
end Go.Proofs.Ytmoebpebahhbeaa
