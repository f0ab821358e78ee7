/-
  Layer 7: slices.Clone and slices.Sort at numbers; cuts of rows; tags of blocks that were just laid. No walk.
-/
import Derived.Test.YtmoebpebahhbeaaG2
import Derived.Test.YtmoebpebahhbeaaShelf
import Derived.Sort.OwnSortedInts
namespace Go.Proofs.Ytmoebpebahhbeaa
set_option linter.unusedVariables false
open Go.ChangeShapes Go.WideShapes Go.ChangeAt Go.RowKit

def ints (l : List Nat) : List Int := l.map fun (x : Nat) => (x : Int)
theorem nv_ints (l : List Nat) : nv l = (ints l).map (Value.int .i64) := by simp [nv, ints]
/-- sorted -/
def sortN (l : List Nat) : List Nat := ((ints l).mergeSort fun x y => decide (x ≤ y)).map Int.toNat
theorem sortN_ints (l : List Nat) : ints (sortN l) = (ints l).mergeSort fun x y => decide (x ≤ y) := by
  unfold sortN ints
  rw [List.map_map]
  have h : ∀ x ∈ ((l.map fun (x : Nat) => (x : Int)).mergeSort fun x y => decide (x ≤ y)), ((fun (x : Nat) => (x : Int)) ∘ Int.toNat) x = x := by
    intro x hx
    rw [List.mem_mergeSort] at hx
    obtain ⟨y, _, rfl⟩ := List.mem_map.1 hx
    simp
  rw [List.map_congr_left h, List.map_id']
theorem sortN_perm (l : List Nat) : (sortN l).Perm l := by
  have h : (ints (sortN l)).Perm (ints l) := by rw [sortN_ints]; exact List.mergeSort_perm _ _
  have := h.map Int.toNat
  simpa [ints, List.map_map, Function.comp_def] using this
theorem sortN_len (l : List Nat) : (sortN l).length = l.length := (sortN_perm l).length_eq
theorem sortN_le (l : List Nat) : (sortN l).Pairwise (· ≤ ·) := by
  have h : (ints (sortN l)).Pairwise (· ≤ ·) := by
    rw [sortN_ints]
    have := List.pairwise_mergeSort (le := fun x y : Int => decide (x ≤ y)) (fun a b c h1 h2 => by simp at h1 h2 ⊢; omega) (fun a b => by simp; omega) (ints l)
    exact this.imp fun h => by simpa using h
  unfold ints at h
  rw [List.pairwise_map] at h
  exact h.imp fun h => by omega
theorem sort_any {B g n cap : Nat} {l : List Nat} {w : World} (h : w.ownsRow B 3 1 (.slice (some ⟨g, 0, none⟩) n cap) n (nv l)) (hl : l.length ≤ 100000) :
    Calls Try.prog 45 #[.slice (some ⟨g, 0, none⟩) n cap] w fun e w' => e = .returned (.tuple #[]) ∧ w'.ownsRow B 3 1 (.slice (some ⟨g, 0, none⟩) n cap) n (nv (sortN l)) ∧ Fx (fun b => b = g) w w' := by
  have hn : n = (ints l).length := by have := h.1; rw [nv_len] at this; simp [ints]; omega
  rw [nv_ints] at h
  rcases h.2 with ⟨h', _⟩ | ⟨g', cap', cur, h', hB, hg, hnc, hcm, hcs, htake⟩
  · simp at h'
  · simp only [Value.slice.injEq, Option.some.injEq, Addr.mk.injEq, and_true, true_and] at h'
    obtain ⟨rfl, rfl⟩ := h'
    subst hn
    refine (Try.slices_Sort_int g 0 cap (ints l) w (holds_of_blockI hg (by simpa using htake)) (heap_lt hg) (by simp only [ints, List.length_map]; omega)).mono ?_
    rintro e w' ⟨he, n, os, rfl⟩
    refine ⟨he, ?_, Fx.grown (grownBy_sortedI _) fun k hk => (Option.some.inj hk).symm⟩
    rw [nv_ints, sortN_ints]
    exact ownsRow_sortedI (by simp) hB hg hnc hcm hcs
theorem clone_any {b off c : Nat} {l : List Nat} {w : World} (hl : l.length ≤ 100000) (hc : ∀ j, j < l.length → w.cell? ⟨b, off + j, none⟩ = some (.int .i64 (at0 l j : Nat))) :
    Calls Try.prog 44 #[.slice (some ⟨b, off, none⟩) l.length c] w fun e w' => ∃ v', e = .returned v' ∧ w'.ownsRow w.heap.size 3 1 v' l.length (nv l) ∧ Below w.heap.size w w' := by
  refine (Try.slices_Clone_int b off l.length c (ints l) w (by simp [ints]) (by omega) ?_).mono ?_
  · intro j hj
    have hj' : j < l.length := by simpa [ints] using hj
    rw [hc j hj']
    simp [ints, at0, List.getD, List.getElem?_eq_getElem hj']
  · rintro e w' ⟨v', he, ho, _, hb⟩
    refine ⟨v', he, ?_, hb⟩
    rw [nv_ints]
    rwa [List.take_of_length_le (by simp [ints])] at ho
theorem owns_cut {w : World} {B g n cap : Nat} {e : TypeId} {sz : Nat} {xs : List Value} (h : w.ownsRow B e sz (.slice (some ⟨g, 0, none⟩) n cap) n xs) (m : Nat) (hm : m ≤ n) : w.ownsRow B e sz (.slice (some ⟨g, 0, none⟩) m cap) m (xs.take (m * sz)) := by
  have hms : m * sz ≤ n * sz := Nat.mul_le_mul_right _ hm
  rcases h.2 with ⟨h', _⟩ | ⟨g', cap', cur, h', hB, hg, hnc, hcm, hcs, htake⟩
  · simp at h'
  · simp only [Value.slice.injEq, Option.some.injEq, Addr.mk.injEq, and_true, true_and] at h'
    obtain ⟨rfl, rfl⟩ := h'
    refine ⟨by rw [List.length_take, h.1]; omega, .inr ⟨g, cap, cur, rfl, hB, hg, by omega, hcm, hcs, ?_⟩⟩
    rw [← htake, List.take_take, Nat.min_eq_left hms]
theorem owns_cap {w : World} {B g n cap : Nat} {e : TypeId} {sz : Nat} {xs : List Value} (h : w.ownsRow B e sz (.slice (some ⟨g, 0, none⟩) n cap) n xs) : n ≤ cap ∧ cap ≤ maxLen := by
  rcases h.2 with ⟨h', _⟩ | ⟨g', cap', cur, h', hB, hg, hnc, hcm, hcs, htake⟩
  · simp at h'
  · simp only [Value.slice.injEq, Option.some.injEq, Addr.mk.injEq, and_true, true_and] at h'
    obtain ⟨rfl, rfl⟩ := h'
    exact ⟨hnc, hcm⟩
theorem owns_base {w : World} {B B' n : Nat} {e : TypeId} {sz : Nat} {v : Value} {xs : List Value} (h : w.ownsRow B e sz v n xs) (hB : B' ≤ B) : w.ownsRow B' e sz v n xs := by
  refine ⟨h.1, ?_⟩
  rcases h.2 with h2 | ⟨g, cap, cur, hv, hb, r⟩
  · exact .inl h2
  · exact .inr ⟨g, cap, cur, hv, by omega, r⟩
/-- the same search under other tags, where its blocks keep theirs -/
theorem SRep.retag {B p : Nat} {O O' : Nat → Nat} {av : Value} {L : Loc} {s : St} {w : World} (h : SRep B O p av L s w) (hO : ∀ b, b < w.heap.size → 1 ≤ O b → O b ≤ 8 → O' b = O b) (hlow : ∀ b, 1 ≤ O' b → O' b ≤ 7 → B ≤ b) : SRep B O' p av L s w := by
  have tg : ∀ {k : Nat} {v : Value} {e sz n : Nat} {xs : List Value}, 1 ≤ k → k ≤ 8 → w.ownsRow B e sz v n xs → (∀ b, v.ownBlock = some b → O b = k) → ∀ b, v.ownBlock = some b → O' b = k := fun h1 h8 hr hk b hb => by rw [hO b (hr.lt b hb).2 (by rw [hk b hb]; exact h1) (by rw [hk b hb]; exact h8)]; exact hk b hb
  exact ⟨h.box, h.m, h.f, h.o, h.r, h.g, h.q, h.rows.mono fun b hb h2 => by show O' b = 8; rw [hO b hb (by rw [h2]; omega) (by rw [h2]; omega)]; exact h2, by rw [hO p (heap_lt h.box) (by rw [h.tp]; omega) (by rw [h.tp]; omega)]; exact h.tp, tg (by omega) (by omega) h.m h.tm, tg (by omega) (by omega) h.f h.tf, tg (by omega) (by omega) h.o h.tw, tg (by omega) (by omega) h.r h.tr, tg (by omega) (by omega) h.g h.tg, tg (by omega) (by omega) h.q h.tq, hlow⟩
theorem Mv.retag {O O' : Nat → Nat} {w w' : World} (h : Fx (Mine O) w w') (hO : ∀ b, b < w.heap.size → O' b = O b) : Mv O O' w w' := ⟨h, hO⟩
/-- of a list of places each gets the same -/
def setAll (l : List Nat) (g : List Nat) (x : Nat) : List Nat := g.foldl (fun l b => l.set b x) l
theorem setAll_len (g : List Nat) (x : Nat) : ∀ l : List Nat, (setAll l g x).length = l.length := by
  induction g with
  | nil => intro l; rfl
  | cons b g ih => intro l; show (setAll (l.set b x) g x).length = l.length; rw [ih]; simp
theorem setAll_snoc (l g : List Nat) (b x : Nat) : setAll l (g ++ [b]) x = (setAll l g x).set b x := by simp [setAll]
end Go.Proofs.Ytmoebpebahhbeaa
