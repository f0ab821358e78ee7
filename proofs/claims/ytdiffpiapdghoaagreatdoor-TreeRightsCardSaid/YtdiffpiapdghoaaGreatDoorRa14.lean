/- Texts of this proof, joined: FewE, OwnT, OwnT2. No condition. -/
import Derived.Test.YtdiffpiapdghoaaGreatDoorRa01
import Derived.StillTailTactics
import Derived.Deep.RegionHeld3
import Derived.Maps.AppendAt
/-
  Layer 3, the law's side: FewExprs, fewAlts, FewDecls, light: they come to a number, and leave what lies in memory alone.
-/
namespace Go.Proofs.YtdiffpiapdghoaaGreatDoor
set_option linter.unusedVariables false
open Go.ChangeShapes Go.WideShapes Go.ChangeAt Go.RowKit

theorem heap_lt {w : World} {k : Nat} {o : Obj} (h : w.heap[k]? = some o) : k < w.heap.size := by
  rcases Nat.lt_or_ge k w.heap.size with h' | h'
  · exact h'
  · simp [Array.getElem?_eq_none h'] at h
theorem ne_nil {α : Type} {l : List α} {k : Nat} (h : k < l.length) : l ≠ [] := by rintro rfl; simp at h
/-- it comes to a number -/
def Num (w : World) (e : Ending) (w' : World) : Prop := (∃ r : Int, e = .returned (.int .i64 r)) ∧ Below w.heap.size w w'
/-- counts of small weight -/
structure FewZ (z : Nat) : Prop where
  ex : ∀ (l : List Ex), Ex.wts l ≤ z → ∀ (v : Value) (x : Int) (w : World), IsExs w Any v l → Calls Tryz.prog 32 #[v, .int .i64 x] w (Num w)
  al : ∀ (l : List Al), Al.wts l ≤ z → ∀ (v : Value) (x : Int) (w : World), IsAls w Any v l → Calls Tryz.prog 53 #[v, .int .i64 x] w (Num w)
  de : ∀ (l : List De), De.wts l ≤ z → ∀ (v : Value) (x : Int) (w : World), IsDes w Any v l → Calls Tryz.prog 54 #[v, .int .i64 x] w (Num w)

set_option maxHeartbeats 8000000 in
set_option maxRecDepth 100000 in
theorem fewT_num (l : List Ty) (v : Value) (x : Int) (w : World) (hv : IsTys w Any v l) : Calls Tryz.prog 7 #[v, .int .i64 x] w (Num w) := by
  refine (fewT_any _ l (Nat.le_refl _) v x w hv).mono ?_
  rintro e w' ⟨rfl, n, rfl⟩
  exact ⟨⟨_, rfl⟩, drew_below w n⟩
set_option maxHeartbeats 8000000 in
set_option maxRecDepth 100000 in
theorem fewP_num (l : List Pa) (v : Value) (x : Int) (w : World) (hv : IsPas w Any v l) : Calls Tryz.prog 52 #[v, .int .i64 x] w (Num w) := by
  refine (fewP_any _ l (Nat.le_refl _) v x w hv).mono ?_
  rintro e w' ⟨rfl, n, rfl⟩
  exact ⟨⟨_, rfl⟩, drew_below w n⟩

set_option maxHeartbeats 8000000 in
set_option maxRecDepth 100000 in
theorem fewE_step (z : Nat) (l : List Ex) (hz : l ≠ [] → FewZ z) (hl : Ex.wts l ≤ z + 1) (v : Value) (x : Int) (w : World) (hv : IsExs w Any v l) : Calls Tryz.prog 32 #[v, .int .i64 x] w (Num w) := by
  obtain ⟨ao, cap, rfl, v1, v2⟩ := hv.form
  have hlm : (l.length : Int) ≤ 9223372036854775807 := by unfold maxLen at v2; omega
  have HZ := Lib.hid hz
  clear hz
  go_enter Tryz.func32, Tryz.ntmps32
  go_wp2
  go_loopw [1, 5, 6] (fun lv iv _ wr => ∃ (k : Nat) (y : Int), k ≤ l.length ∧ iv = .int .i64 k ∧ lv = .int .i64 y ∧ Below w.heap.size w wr) (fun _ iv _ _ => l.length - (intOf iv).toNat)
  case atStart => exact ⟨0, x, Nat.zero_le _, rfl, rfl, Below.refl _ _⟩
  case round =>
    obtain ⟨k, y, hk, rfl, rfl, hbw⟩ := hrel
    by_cases hlt : k < l.length
    · have k1 : (k : Int) < l.length := by omega
      by_cases hy : y < 0
      · have q : ¬ (0 : Int) ≤ y := by omega
        clear hy
        go_wp2
        go_ret
        exact ⟨⟨_, rfl⟩, hbw⟩
      · have q : (0 : Int) ≤ y := by omega
        obtain ⟨t, ht⟩ : ∃ t, l[k]? = some t := ⟨l[k], List.getElem?_eq_getElem hlt⟩
        have hsz := Ex.wts_get l k t ht
        obtain ⟨a, rfl, _, hrow⟩ := hv.at ht
        have hrow := hrow.on hbw
        obtain ⟨tk, tp, tn, tm, tl, tps, tal, tds⟩ := t
        unfold Ex.wt at hsz
        obtain ⟨c0, c1, c2, c2', c3, ⟨a4, b4, c4, _, _, h4⟩, ⟨a5, b5, c5, _, _, h5⟩, ⟨a6, b6, c6, _, _, h6⟩, ⟨a7, b7, c7, _, _, h7⟩⟩ := hrow.cells
        have hO : ∀ W : World, ∃ o : Obj, o = .cells #[.int .i64 tk, .int .i64 tp, .string tn, .int .i64 tm, .slice a4 tl.length b4, .slice a5 tps.length b5, .slice a6 tal.length b6, .slice a7 tds.length b7] 32 := fun W => ⟨_, rfl⟩
        obtain ⟨o, ho⟩ := hO wr
        have hN := heap_alloc_new wr o
        have hb1 := (Below.refl wr.heap.size wr).alloc (Nat.le_refl _) o
        have hbb := hbw.trans (hb1.mono hbw.size)
        have g4 := h4.on hb1
        have g5 := h5.on hb1
        have g6 := h6.on hb1
        have g7 := h7.on hb1
        subst ho
        clear hv hrow h4 h5 h6 h7 hO
        go_wp2_with fail
        refine ((HZ.out (ne_nil hlt)).ex tl (by omega) _ _ _ g4).mono ?_
        rintro e w1 ⟨⟨r1, rfl⟩, hc1⟩
        have n1 := (hc1.block _ (heap_lt hN)).trans hN
        have e15 : w1.cell? ⟨wr.heap.size, 5, none⟩ = some (.slice a5 tps.length b5) := by rw [Lib.cell_of_heap n1]; rfl
        have e16 : w1.cell? ⟨wr.heap.size, 6, none⟩ = some (.slice a6 tal.length b6) := by rw [Lib.cell_of_heap n1]; rfl
        have e17 : w1.cell? ⟨wr.heap.size, 7, none⟩ = some (.slice a7 tds.length b7) := by rw [Lib.cell_of_heap n1]; rfl
        go_wp2_with fail
        refine (fewP_num tps _ _ _ (g5.on hc1)).mono ?_
        rintro e w2 ⟨⟨r2, rfl⟩, hc2⟩
        have n2 := (hc2.block _ (heap_lt n1)).trans n1
        have e26 : w2.cell? ⟨wr.heap.size, 6, none⟩ = some (.slice a6 tal.length b6) := by rw [Lib.cell_of_heap n2]; rfl
        have e27 : w2.cell? ⟨wr.heap.size, 7, none⟩ = some (.slice a7 tds.length b7) := by rw [Lib.cell_of_heap n2]; rfl
        have hc12 := hc1.trans (hc2.mono hc1.size)
        go_wp2_with fail
        refine ((HZ.out (ne_nil hlt)).al tal (by omega) _ _ _ (g6.on hc12)).mono ?_
        rintro e w3 ⟨⟨r3, rfl⟩, hc3⟩
        have n3 := (hc3.block _ (heap_lt n2)).trans n2
        have e37 : w3.cell? ⟨wr.heap.size, 7, none⟩ = some (.slice a7 tds.length b7) := by rw [Lib.cell_of_heap n3]; rfl
        have hc13 := hc12.trans (hc3.mono hc12.size)
        go_wp2_with fail
        refine ((HZ.out (ne_nil hlt)).de tds (by omega) _ _ _ (g7.on hc13)).mono ?_
        rintro e w4 ⟨⟨r4, rfl⟩, hc4⟩
        have hc14 := hc13.trans (hc4.mono hc13.size)
        go_wp2
        go_roundw
        case rel => exact ⟨k + 1, _, by omega, by go_num, rfl, hbb.trans (hc14.mono hbb.size)⟩
        case measure => simp [intOf]; omega
    · have k1 : ¬ (k : Int) < l.length := by omega
      go_wp2
      go_ret
      exact ⟨⟨_, rfl⟩, hbw⟩
end Go.Proofs.YtdiffpiapdghoaaGreatDoor
/-
  Layer 3, the law's side: OwnType: the document's type as the program's: the same tree, in blocks of its own.
-/
namespace Go.Proofs.YtdiffpiapdghoaaGreatDoor
set_option linter.unusedVariables false
open Go.ChangeShapes Go.WideShapes Go.ChangeAt Go.RowKit

/-- blocks that came between -/
def Own (w w' : World) : Nat → Prop := fun b => w.heap.size ≤ b ∧ b < w'.heap.size
/-- some types as the program's -/
def OwnTs (l : List Ty) : Prop := ∀ (P : Nat → Prop) (v : Value) (w : World), IsTys w P v l →
  Calls Tryz.prog 34 #[v] w fun e w' => ∃ v', e = .returned v' ∧ IsTys w' (Own w w') v' l ∧ Below w.heap.size w w'

theorem set4 {w : World} {N : Nat} {x0 x1 x2 x3 : Value} {t : TypeId} (a b c d : Value) (h : w.heap[N]? = some (.cells #[x0, x1, x2, x3] t (0, 0))) :
    ((((w.setCell ⟨N, 0, none⟩ a).setCell ⟨N, 1, none⟩ b).setCell ⟨N, 2, none⟩ c).setCell ⟨N, 3, none⟩ d).heap[N]? = some (.cells #[a, b, c, d] t (0, 0)) := by
  have h1 := heap_setCell_same w N 0 _ t a h
  have h2 := heap_setCell_same _ N 1 _ t b h1
  have h3 := heap_setCell_same _ N 2 _ t c h2
  exact heap_setCell_same _ N 3 _ t d h3
theorem set4_other {w : World} {N : Nat} (a b c d : Value) (k : Nat) (hk : k ≠ N) : ((((w.setCell ⟨N, 0, none⟩ a).setCell ⟨N, 1, none⟩ b).setCell ⟨N, 2, none⟩ c).setCell ⟨N, 3, none⟩ d).heap[k]? = w.heap[k]? := by
  rw [heap_setCell_other _ _ _ _ hk, heap_setCell_other _ _ _ _ hk, heap_setCell_other _ _ _ _ hk, heap_setCell_other _ _ _ _ hk]
theorem set4_cell {w : World} {N k : Nat} (a b c d : Value) (j : Nat) (hk : k ≠ N) : ((((w.setCell ⟨N, 0, none⟩ a).setCell ⟨N, 1, none⟩ b).setCell ⟨N, 2, none⟩ c).setCell ⟨N, 3, none⟩ d).cell? ⟨k, j, none⟩ = w.cell? ⟨k, j, none⟩ := World.cell?_of_block (set4_other a b c d k hk)
theorem IsTys.mono {P Q : Nat → Prop} {w : World} {v : Value} {l : List Ty} (h : IsTys w P v l) (hp : ∀ b, P b → Q b) : IsTys w Q v l := ⟨IsC.mono hp _ _ h.out⟩
theorem IsTys.stay {P : Nat → Prop} {w w' : World} {v : Value} {l : List Ty} (h : IsTys w P v l) (hs : Stay P w w') : IsTys w' P v l := ⟨IsC.stay hs _ _ h.out⟩

set_option maxHeartbeats 4000000 in
set_option maxRecDepth 100000 in
theorem ownT_step (k p : Int) (n : ByteArray) (l : List Ty) (hl : OwnTs l) (P : Nat → Prop) (v : Value) (w : World) (hv : IsTys w P v l) :
    Calls Tryz.prog 10 #[.agg #[.int .i64 k, .int .i64 p, .string n, v]] w fun e w' => ∃ v', e = .returned (.agg #[.int .i64 k, .int .i64 p, .string n, v']) ∧ IsTys w' (Own w w') v' l ∧ Below w.heap.size w w' := by
  obtain ⟨ao, cap, rfl, hc1, hc2⟩ := hv.form
  have HL := Lib.hid hl
  have HV := Lib.hid hv
  clear hl hv
  go_enter Tryz.func10, Tryz.ntmps10
  obtain ⟨o1, ho1⟩ : ∃ o : Obj, o = .cells #[.int .i64 k, .int .i64 p, .string n, .slice ao l.length cap] 24 := ⟨_, rfl⟩
  obtain ⟨o2, ho2⟩ : ∃ o : Obj, o = .cells #[.int .i64 0, .int .i64 0, .string ⟨#[]⟩, .slice none 0 0] 39 := ⟨_, rfl⟩
  have hb1 := ((Below.refl w.heap.size w).alloc (Nat.le_refl _) o1).alloc (by simp) o2
  have hN1 : ((w.alloc o1).alloc o2).heap[w.heap.size]? = some o1 := (Below.heap_alloc _ _ _ (by simp)).trans (heap_alloc_new w o1)
  have hN2 : ((w.alloc o1).alloc o2).heap[w.heap.size + 1]? = some o2 := by
    have := heap_alloc_new (w.alloc o1) o2
    rwa [show (w.alloc o1).heap.size = w.heap.size + 1 by simp] at this
  have hsz : ((w.alloc o1).alloc o2).heap.size = w.heap.size + 2 := by simp
  have HV1 := Lib.hid (HV.out.on hb1)
  go_wp2
  rw [← ho1, ← ho2]
  generalize (w.alloc o1).alloc o2 = W at hb1 hN1 hN2 hsz HV1 ⊢
  subst ho1 ho2
  have hd1 : W.drew.heap[w.heap.size]? = some (.cells #[.int .i64 k, .int .i64 p, .string n, .slice ao l.length cap] 24) := hN1
  have hd2 : W.drew.heap[w.heap.size + 1]? = some (.cells #[.int .i64 0, .int .i64 0, .string ⟨#[]⟩, .slice none 0 0] 39) := hN2
  have four : ∀ V : World, V.heap[w.heap.size]? = some (.cells #[.int .i64 k, .int .i64 p, .string n, .slice ao l.length cap] 24) → V.cell? ⟨w.heap.size, 0, none⟩ = some (.int .i64 k) ∧ V.cell? ⟨w.heap.size, 1, none⟩ = some (.int .i64 p) ∧ V.cell? ⟨w.heap.size, 2, none⟩ = some (.string n) ∧ V.cell? ⟨w.heap.size, 3, none⟩ = some (.slice ao l.length cap) := fun V hV => by
    refine ⟨?_, ?_, ?_, ?_⟩ <;> (rw [Lib.cell_of_heap hV]; rfl)
  have HF := Lib.hid four
  clear four
  have x0 := HF.out _ hd1
  have hNN : w.heap.size ≠ w.heap.size + 1 := by omega
  go_region_held3 (fun V => V.cell? ⟨w.heap.size, 0, none⟩ = some (.int .i64 k) ∧ V.cell? ⟨w.heap.size, 1, none⟩ = some (.int .i64 p) ∧ V.cell? ⟨w.heap.size, 2, none⟩ = some (.string n) ∧ V.cell? ⟨w.heap.size, 3, none⟩ = some (.slice ao l.length cap))
    (first | (simp only [set4_cell _ _ _ _ _ hNN]; exact HF.out wA ((hbA.block _ (heap_lt hd1)).trans hd1)) | exact HF.out wA ((hbA.block _ (heap_lt hd1)).trans hd1) | exact x0 | go_keep)
    ((first | (go_at_call 34
               refine (HL.out _ _ _ (HV1.out.on (Below.refl _ _).drew)).mono ?_
               rintro e wA ⟨v', rfl, hv', hbA⟩
               obtain ⟨ao', cap', rfl, hc1', hc2'⟩ := hv'.form
               have fr2 : wA.heap[w.heap.size + 1]? = some (.cells #[.int .i64 0, .int .i64 0, .string ⟨#[]⟩, .slice none 0 0] 39) := (hbA.block _ (heap_lt hd2)).trans hd2
               have f0 : wA.frozen? ⟨w.heap.size + 1, 0, none⟩ = false := Lib.frozen_of_heap fr2 0
               have f1 : wA.frozen? ⟨w.heap.size + 1, 1, none⟩ = false := Lib.frozen_of_heap fr2 1
               have f2 : wA.frozen? ⟨w.heap.size + 1, 2, none⟩ = false := Lib.frozen_of_heap fr2 2
               have f3 : wA.frozen? ⟨w.heap.size + 1, 3, none⟩ = false := Lib.frozen_of_heap fr2 3
               have c0 : wA.cell? ⟨w.heap.size + 1, 0, none⟩ = some (.int .i64 0) := by rw [Lib.cell_of_heap fr2]; rfl
               have c1 : wA.cell? ⟨w.heap.size + 1, 1, none⟩ = some (.int .i64 0) := by rw [Lib.cell_of_heap fr2]; rfl
               have c2 : wA.cell? ⟨w.heap.size + 1, 2, none⟩ = some (.string ⟨#[]⟩) := by rw [Lib.cell_of_heap fr2]; rfl
               have c3 : wA.cell? ⟨w.heap.size + 1, 3, none⟩ = some (.slice none 0 0) := by rw [Lib.cell_of_heap fr2]; rfl)))
  have hs5 := set4 (.int .i64 k) (.int .i64 p) (.string n) (.slice ao' l.length cap') fr2
  have ho5 := fun j hj => set4_other (w := wA) (N := w.heap.size + 1) (.int .i64 k) (.int .i64 p) (.string n) (.slice ao' l.length cap') j hj
  have hbd : Below w.heap.size w W.drew := hb1.drew
  have hb5 := ((((hbd.trans (hbA.mono hbd.size)).setCell (p := ⟨w.heap.size + 1, 0, none⟩) (Nat.le_succ _) (.int .i64 k)).setCell (p := ⟨w.heap.size + 1, 1, none⟩) (Nat.le_succ _) (.int .i64 p)).setCell (p := ⟨w.heap.size + 1, 2, none⟩) (Nat.le_succ _) (.string n)).setCell (p := ⟨w.heap.size + 1, 3, none⟩) (Nat.le_succ _) (.slice ao' l.length cap')
  have hsz5 : ((((wA.setCell ⟨w.heap.size + 1, 0, none⟩ (.int .i64 k)).setCell ⟨w.heap.size + 1, 1, none⟩ (.int .i64 p)).setCell ⟨w.heap.size + 1, 2, none⟩ (.string n)).setCell ⟨w.heap.size + 1, 3, none⟩ (.slice ao' l.length cap')).heap.size = wA.heap.size := by simp
  generalize (((wA.setCell ⟨w.heap.size + 1, 0, none⟩ (.int .i64 k)).setCell ⟨w.heap.size + 1, 1, none⟩ (.int .i64 p)).setCell ⟨w.heap.size + 1, 2, none⟩ (.string n)).setCell ⟨w.heap.size + 1, 3, none⟩ (.slice ao' l.length cap') = W5 at hs5 ho5 hb5 hsz5 ⊢
  have hdz : W.drew.heap.size = w.heap.size + 2 := hsz
  have hfin : IsTys W5 (Own w W5) (.slice ao' l.length cap') l := (hv'.stay (fun b hb _ => ho5 b (by have := hb.1; omega))).mono (fun b hb => ⟨by have := hb.1; omega, by have := hb.2; omega⟩)
  have HFin := Lib.hid hfin
  have r0 : W5.cell? ⟨w.heap.size + 1, 0, none⟩ = some (.int .i64 k) := by rw [Lib.cell_of_heap hs5]; rfl
  have r1 : W5.cell? ⟨w.heap.size + 1, 1, none⟩ = some (.int .i64 p) := by rw [Lib.cell_of_heap hs5]; rfl
  have r2 : W5.cell? ⟨w.heap.size + 1, 2, none⟩ = some (.string n) := by rw [Lib.cell_of_heap hs5]; rfl
  have r3 : W5.cell? ⟨w.heap.size + 1, 3, none⟩ = some (.slice ao' l.length cap') := by rw [Lib.cell_of_heap hs5]; rfl
  clear fr2 f0 f1 f2 f3 c0 c1 c2 c3 hv' hfin hs5 ho5
  go_wp2
  exact bodyPost_ret (v := .agg #[.int .i64 k, .int .i64 p, .string n, .slice ao' l.length cap']) (by simp [results, Tryz.results10, go_sem, *]) rfl ⟨_, rfl, HFin.out, hb5⟩
end Go.Proofs.YtdiffpiapdghoaaGreatDoor
/-
  Layer 3, the law's side: ownTypes, OwnType.
-/
namespace Go.Proofs.YtdiffpiapdghoaaGreatDoor
set_option linter.unusedVariables false
open Go.ChangeShapes Go.WideShapes Go.ChangeAt Go.RowKit

theorem info_parts' {o : Option TypeInfo} {z : Value} {sz by_ : Nat} (h : o.map (fun i => (i.zero, i.size, i.bytes)) = some (some z, sz, by_)) : ∃ i, o = some i ∧ i.zero = some z ∧ i.size = sz ∧ i.bytes = by_ := by
  cases o with
  | none => cases h
  | some i =>
    simp only [Option.map_some, Option.some.injEq, Prod.mk.injEq] at h
    exact ⟨i, rfl, h.1, h.2.1, h.2.2⟩
theorem info_ty : (Tryz.prog.info? 39).map (fun i => (i.zero, i.size, i.bytes)) = some (some (.agg #[.int .i64 0, .int .i64 0, .string ⟨#[]⟩, .slice none 0 0]), 4, 56) := by kernel_rfl
theorem cell_four_new (W : World) (a b c d : Value) (t : TypeId) : ∀ j u, [a, b, c, d][j]? = some u → (W.alloc (.cells #[a, b, c, d] t)).cell? ((⟨W.heap.size, 0, none⟩ : Addr).add j) = some u := by
  intro j u hj
  have h := heap_alloc_new W (.cells #[a, b, c, d] t (0, 0))
  match j, hj with
  | 0, hj => simp at hj; subst hj; rw [add_zero2, Lib.cell_of_heap h]; rfl
  | 1, hj => simp at hj; subst hj; rw [add_off _ _ (by decide), Lib.cell_of_heap h]; rfl
  | 2, hj => simp at hj; subst hj; rw [add_off _ _ (by decide), Lib.cell_of_heap h]; rfl
  | 3, hj => simp at hj; subst hj; rw [add_off _ _ (by decide), Lib.cell_of_heap h]; rfl
/-- rows that have been gathered: their cells; what these lead to lies in blocks of the call's own, but not in this row's -/
def Gath {α : Type} (f : α → List Dt) (sz : Nat) (B : Nat) (w : World) (v : Value) (l : List α) (k : Nat) (vals : List Value) : Prop :=
  ∀ j t, j < k → l[j]? = some t → ∃ vs, IsVs w (fun b => (B ≤ b ∧ b < w.heap.size) ∧ v.ownBlock ≠ some b) (f t) vs ∧ vs.length = sz ∧ ∀ i u, vs[i]? = some u → vals[j * sz + i]? = some u
/-- one row more -/
theorem Gath.next {α : Type} {f : α → List Dt} {sz B : Nat} {w w1 w2 : World} {o : Obj} {v v' : Value} {l : List α} {k : Nat} {vals vs : List Value} {t : α} (h : Gath f sz B w v l k vals) (hB : B ≤ w.heap.size)
    (ht : l[k]? = some t) (hlen : vals.length = k * sz) (hvl : vs.length = sz) (hvs : IsVs w1 (Own w w1) (f t) vs) (hown : ∀ g, v.ownBlock = some g → g < w.heap.size)
    (hb : Below w.heap.size w w1) (hg : (w1.alloc o).grownBy w2 v.ownBlock) (hat : v'.ownBlock = v.ownBlock ∨ v'.ownBlock = some (w1.alloc o).heap.size) : Gath f sz B w2 v' l (k + 1) (vals ++ vs) := by
  have hz1 := hb.size
  have ha1 : (w1.alloc o).heap.size = w1.heap.size + 1 := by simp
  have hz2 := hg.size
  have keep : ∀ b, b < w1.heap.size → some b ≠ v.ownBlock → w2.heap[b]? = w1.heap[b]? := fun b hb1 hb2 => by
    rw [hg.block b (by omega) hb2]
    exact Below.heap_alloc w1 o b hb1
  have fresh : ∀ b, b < w1.heap.size → v.ownBlock ≠ some b → v'.ownBlock ≠ some b := fun b hb1 hb2 => by
    rcases hat with e | e
    · rw [e]; exact hb2
    · rw [e]; intro e2; have := Option.some.inj e2; omega
  intro j x hj hx
  by_cases hjk : j < k
  · obtain ⟨us, u1, u2, u3⟩ := h j x hjk hx
    refine ⟨us, ?_, u2, fun i u hi => ?_⟩
    · have hst : IsVs w2 (fun b => (B ≤ b ∧ b < w.heap.size) ∧ v.ownBlock ≠ some b) (f x) us := IsVs.stay (fun b hP hbw => by
        rw [keep b (by omega) (fun e => hP.2 e.symm)]
        exact hb.block b hbw) _ _ u1
      exact IsVs.mono (fun b hP => ⟨⟨hP.1.1, by have := hP.1.2; omega⟩, fresh b (by have := hP.1.2; omega) hP.2⟩) _ _ hst
    · have := u3 i u hi
      have hlt : j * sz + i < vals.length := (List.getElem?_eq_some_iff.1 this).1
      rw [List.getElem?_append_left hlt]
      exact this
  · obtain rfl : j = k := by omega
    obtain rfl : t = x := Option.some.inj (ht.symm.trans hx)
    refine ⟨vs, ?_, hvl, fun i u hi => ?_⟩
    · have hne : ∀ b, Own w w1 b → v.ownBlock ≠ some b := fun b hb1 e => by have := hown b e; have := hb1.1; omega
      have hst : IsVs w2 (Own w w1) (f t) vs := IsVs.stay (fun b hP hbw => keep b hbw (fun e => hne b hP e.symm)) _ _ hvs
      exact IsVs.mono (fun b hP => ⟨⟨by have := hP.1; omega, by have := hP.2; omega⟩, fresh b hP.2 (hne b hP)⟩) _ _ hst
    · rw [List.getElem?_append_right (by omega), hlen, Nat.add_sub_cancel_left]
      exact hi
/-- all rows gathered -/
theorem Gath.done {α : Type} {f : α → List Dt} {sz B : Nat} {w : World} {e : TypeId} {v : Value} {l : List α} {vals : List Value} (h : Gath f sz B w v l l.length vals) (ho : w.ownsRow B e sz v l.length vals) :
    IsC w (fun b => B ≤ b ∧ b < w.heap.size) (.l sz (l.map f)) v := by
  unfold IsC
  rw [List.length_map]
  have hlt := ho.lt
  have hcells := @World.ownsRow.cells w B e sz v l.length vals ho
  rcases ho.2 with ⟨h1, h2⟩ | ⟨g, cap, cur, hv, h3, h4, h5, h6, _⟩
  · have : l = [] := List.length_eq_zero_iff.1 h2
    subst this
    exact .inl ⟨h1, rfl⟩
  · subst hv
    refine .inr ⟨⟨g, 0, none⟩, cap, rfl, h5, h6, fun _ => hlt g rfl, IsRows.of_get _ _ fun k r hk => ?_⟩
    rw [List.getElem?_map] at hk
    obtain ⟨t, ht, rfl⟩ := Option.map_eq_some_iff.1 hk
    obtain ⟨vs, u1, u2, u3⟩ := h k t (List.getElem?_eq_some_iff.1 ht).1 ht
    refine IsRow.of_vals _ _ vs (IsVs.mono (fun b hP => hP.1) _ _ u1) fun j u hj => ?_
    rw [add_add2]
    exact hcells rfl _ _ (u3 j u hj)

set_option maxHeartbeats 8000000 in
set_option maxRecDepth 100000 in
theorem ownTs_all : ∀ (z : Nat) (l : List Ty), Ty.wts l ≤ z → l.length ≤ 1000000 → Ty.oks l → OwnTs l := by
  intro z
  induction z with
  | zero => intro l hz; cases l <;> (unfold Ty.wts at hz; omega)
  | succ z ih =>
    intro l hz hlen hok P v w hv
    obtain ⟨ao, cap, rfl, v1, v2⟩ := hv.form
    have HI := Lib.hid ih
    have HO := Lib.hid hok
    have HV := Lib.hid hv
    clear ih hok hv
    obtain ⟨i0, hi, hz0, hz1, hz2⟩ := info_parts' info_ty
    go_enter Tryz.func34, Tryz.ntmps34
    go_wp2
    go_loopw [3, 4] (fun xu iv wr => ∃ (k : Nat) (xv : Value) (vals : List Value), k ≤ l.length ∧ xv = xu ∧ iv = .int .i64 k ∧ wr.ownsRow w.heap.size 39 4 xv k vals ∧ Hid (Gath Ty.row 4 w.heap.size wr xv l k vals) ∧ Below w.heap.size w wr) (fun _ iv _ => l.length - (intOf iv).toNat)
    case atStart => exact ⟨0, _, [], Nat.zero_le _, rfl, rfl, World.ownsRow_nil _ _ _ _, Lib.hid (fun j t hj => by omega), Below.refl _ _⟩
    case round =>
      obtain ⟨k, xv, vals, hk, hx, rfl, hown, HG, hbw⟩ := hrel
      subst hx
      by_cases hlt : k < l.length
      · have k1 : (k : Int) < l.length := by omega
        obtain ⟨t, ht⟩ : ∃ t, l[k]? = some t := ⟨l[k], List.getElem?_eq_getElem hlt⟩
        have hsz := Ty.wts_get l k t ht
        have htok := Ty.oks_get l k t HO.out ht
        obtain ⟨a, rfl, _, hrow⟩ := HV.out.at ht
        have hrow := hrow.on hbw
        obtain ⟨tk, tp, tn, ta⟩ := t
        unfold Ty.wt at hsz
        unfold Ty.ok at htok
        obtain ⟨c0, c1, c2, c2', bo, bcap, c3, b1, b2, hargs⟩ := hrow.cells
        have HA := Lib.hid (HI.out ta (by omega) htok.1 htok.2)
        clear hrow htok
        go_wp2_with fail
        refine (ownT_step tk tp tn ta HA.out P _ _ hargs).mono ?_
        rintro e w1 ⟨v', rfl, hv', hb1⟩
        obtain ⟨ao', cap', rfl, hc1', hc2'⟩ := hv'.form
        have hown1 : w1.ownsRow w.heap.size 39 4 xv k vals := by
          refine ⟨hown.1, ?_⟩
          rcases hown.2 with h2 | ⟨g, cap2, cur, hv2, h3, h4, h5⟩
          · exact .inl h2
          · exact .inr ⟨g, cap2, cur, hv2, h3, (hb1.block g (heap_lt h4)).trans h4, h5⟩
        have hb2 := hbw.trans (hb1.mono hbw.size)
        have hzb := hb2.size
        have hvs : IsVs w1 (Own wr w1) (Ty.row (.mk tk tp tn ta)) [.int .i64 tk, .int .i64 tp, .string tn, .slice ao' ta.length cap'] := by
          unfold Ty.row
          exact ⟨_, _, rfl, (by unfold IsC; rfl), _, _, rfl, (by unfold IsC; rfl), _, _, rfl, (by unfold IsC; exact ⟨rfl, c2'⟩), _, _, rfl, hv'.out, rfl⟩
        have HVS := Lib.hid hvs
        have hlen1 := hown.1
        clear c0 c1 c2 c3 hv' hvs hargs
        go_wp2_with (at_builtin; refine wpList_append_own_at _ rfl _ _ 37 rfl w.heap.size 39 i0 (.agg #[.int .i64 0, .int .i64 0, .string ⟨#[]⟩, .slice none 0 0]) 4 56 Tryz.underlying37 hi hz0 hz1 hz2 rfl (by decide) _ _ _ rfl (hown1.alloc _) ⟨w1.heap.size, 0, none⟩ 1 1 [.int .i64 tk, .int .i64 tp, .string tn, .slice ao' ta.length cap'] rfl rfl (cell_four_new _ _ _ _ _ _) (by simp [Value.oneCell']) (by unfold maxLen; omega) (by omega) (by simp; omega) ?_; intro v2' w2 hown2 hgrow _ hat)
        have hgrow' : (w1.alloc (.cells #[.int .i64 tk, .int .i64 tp, .string tn, .slice ao' ta.length cap'] 39)).grownBy w2 xv.ownBlock := hgrow
        have hat' : v2'.ownBlock = xv.ownBlock ∨ v2'.ownBlock = some (w1.alloc (.cells #[.int .i64 tk, .int .i64 tp, .string tn, .slice ao' ta.length cap'] 39)).heap.size := hat
        have HG2 := Lib.hid (HG.out.next hbw.size ht hlen1 rfl HVS.out (fun g hg => (hown.lt g hg).2) hb1 hgrow' hat')
        have hb3 : Below w.heap.size w w2 := (hb2.alloc hb2.size _).grown hgrow' (by simp; omega) (fun j hj => (hown.lt j hj).1)
        clear hgrow hgrow' hat hat' hown hown1
        go_wp2
        go_roundw
        case rel => exact ⟨k + 1, _, _, by omega, rfl, by go_num, hown2, HG2, hb3⟩
        case measure => simp [intOf]; omega
      · have hkk : k = l.length := by omega
        have k1 : ¬ (k : Int) < l.length := by omega
        subst hkk
        have HD := Lib.hid (HG.out.done hown)
        go_wp2
        go_ret
        exact ⟨_, rfl, ⟨by rw [Ty.rows_map]; exact HD.out⟩, hbw⟩
end Go.Proofs.YtdiffpiapdghoaaGreatDoor
