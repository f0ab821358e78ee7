/- Texts of this proof, joined: OwnP, OwnP2, FewA. No condition. -/
import Derived.Test.YtdiffpiapdghoaaGreatDoorSa05
import Derived.StillTailTactics
import Derived.Deep.RegionHeld3
import Derived.Maps.AppendAt
/-
  Layer 3, the law's side: OwnPat: the document's pattern as the program's: the same tree, in blocks of its own.
-/
namespace Go.Proofs.YtdiffpiapdghoaaGreatDoor
set_option linter.unusedVariables false
open Go.ChangeShapes Go.WideShapes Go.ChangeAt Go.RowKit

/-- some patterns as the program's -/
def OwnPs (l : List Pa) : Prop := ∀ (P : Nat → Prop) (v : Value) (w : World), IsPas w P v l →
  Calls Tryz.prog 37 #[v] w fun e w' => ∃ v', e = .returned v' ∧ IsPas w' (Own w w') v' l ∧ Below w.heap.size w w'

theorem set5 {w : World} {N : Nat} {x0 x1 x2 x3 x4 : Value} {t : TypeId} (a b c d e : Value) (h : w.heap[N]? = some (.cells #[x0, x1, x2, x3, x4] t (0, 0))) :
    (((((w.setCell ⟨N, 0, none⟩ a).setCell ⟨N, 1, none⟩ b).setCell ⟨N, 2, none⟩ c).setCell ⟨N, 3, none⟩ d).setCell ⟨N, 4, none⟩ e).heap[N]? = some (.cells #[a, b, c, d, e] t (0, 0)) := by
  have h1 := heap_setCell_same w N 0 _ t a h
  have h2 := heap_setCell_same _ N 1 _ t b h1
  have h3 := heap_setCell_same _ N 2 _ t c h2
  have h4 := heap_setCell_same _ N 3 _ t d h3
  exact heap_setCell_same _ N 4 _ t e h4
theorem set5_other {w : World} {N : Nat} (a b c d e : Value) (k : Nat) (hk : k ≠ N) : (((((w.setCell ⟨N, 0, none⟩ a).setCell ⟨N, 1, none⟩ b).setCell ⟨N, 2, none⟩ c).setCell ⟨N, 3, none⟩ d).setCell ⟨N, 4, none⟩ e).heap[k]? = w.heap[k]? := by
  rw [heap_setCell_other _ _ _ _ hk, heap_setCell_other _ _ _ _ hk, heap_setCell_other _ _ _ _ hk, heap_setCell_other _ _ _ _ hk, heap_setCell_other _ _ _ _ hk]
theorem set5_cell {w : World} {N k : Nat} (a b c d e : Value) (j : Nat) (hk : k ≠ N) : (((((w.setCell ⟨N, 0, none⟩ a).setCell ⟨N, 1, none⟩ b).setCell ⟨N, 2, none⟩ c).setCell ⟨N, 3, none⟩ d).setCell ⟨N, 4, none⟩ e).cell? ⟨k, j, none⟩ = w.cell? ⟨k, j, none⟩ := World.cell?_of_block (set5_other a b c d e k hk)
theorem IsPas.mono {P Q : Nat → Prop} {w : World} {v : Value} {l : List Pa} (h : IsPas w P v l) (hp : ∀ b, P b → Q b) : IsPas w Q v l := ⟨IsC.mono hp _ _ h.out⟩
theorem IsPas.stay {P : Nat → Prop} {w w' : World} {v : Value} {l : List Pa} (h : IsPas w P v l) (hs : Stay P w w') : IsPas w' P v l := ⟨IsC.stay hs _ _ h.out⟩

set_option maxHeartbeats 4000000 in
set_option maxRecDepth 100000 in
theorem ownP_step (k p : Int) (n : ByteArray) (m : Int) (l : List Pa) (hl : OwnPs l) (P : Nat → Prop) (v : Value) (w : World) (hv : IsPas w P v l) :
    Calls Tryz.prog 13 #[.agg #[.int .i64 k, .int .i64 p, .string n, .int .i64 m, v]] w fun e w' => ∃ v', e = .returned (.agg #[.int .i64 k, .int .i64 p, .string n, .int .i64 m, v']) ∧ IsPas w' (Own w w') v' l ∧ Below w.heap.size w w' := by
  obtain ⟨ao, cap, rfl, hc1, hc2⟩ := hv.form
  have HL := Lib.hid hl
  have HV := Lib.hid hv
  clear hl hv
  go_enter Tryz.func13, Tryz.ntmps13
  obtain ⟨o1, ho1⟩ : ∃ o : Obj, o = .cells #[.int .i64 k, .int .i64 p, .string n, .int .i64 m, .slice ao l.length cap] 27 := ⟨_, rfl⟩
  obtain ⟨o2, ho2⟩ : ∃ o : Obj, o = .cells #[.int .i64 0, .int .i64 0, .string ⟨#[]⟩, .int .i64 0, .slice none 0 0] 45 := ⟨_, rfl⟩
  have hb1 := ((Below.refl w.heap.size w).alloc (Nat.le_refl _) o1).alloc (by simp) o2
  have hN1 : ((w.alloc o1).alloc o2).heap[w.heap.size]? = some o1 := (Below.heap_alloc _ _ _ (by simp)).trans (heap_alloc_new w o1)
  have hN2 : ((w.alloc o1).alloc o2).heap[w.heap.size + 1]? = some o2 := by
    have := heap_alloc_new (w.alloc o1) o2
    rwa [show (w.alloc o1).heap.size = w.heap.size + 1 by simp] at this
  have hsz : ((w.alloc o1).alloc o2).heap.size = w.heap.size + 2 := by simp
  have HV1 := Lib.hid (HV.out.on hb1)
  go_wp2
  rw [← ho1, ← ho2]
  generalize (w.alloc o1).alloc o2 = W at hb1 hN1 hN2 hsz HV1 ⊢
  subst ho1 ho2
  have hd1 : W.drew.heap[w.heap.size]? = some (.cells #[.int .i64 k, .int .i64 p, .string n, .int .i64 m, .slice ao l.length cap] 27) := hN1
  have hd2 : W.drew.heap[w.heap.size + 1]? = some (.cells #[.int .i64 0, .int .i64 0, .string ⟨#[]⟩, .int .i64 0, .slice none 0 0] 45) := hN2
  have four : ∀ V : World, V.heap[w.heap.size]? = some (.cells #[.int .i64 k, .int .i64 p, .string n, .int .i64 m, .slice ao l.length cap] 27) → V.cell? ⟨w.heap.size, 0, none⟩ = some (.int .i64 k) ∧ V.cell? ⟨w.heap.size, 1, none⟩ = some (.int .i64 p) ∧ V.cell? ⟨w.heap.size, 2, none⟩ = some (.string n) ∧ V.cell? ⟨w.heap.size, 3, none⟩ = some (.int .i64 m) ∧ V.cell? ⟨w.heap.size, 4, none⟩ = some (.slice ao l.length cap) := fun V hV => by
    refine ⟨?_, ?_, ?_, ?_, ?_⟩ <;> (rw [Lib.cell_of_heap hV]; rfl)
  have HF := Lib.hid four
  clear four
  have x0 := HF.out _ hd1
  have hNN : w.heap.size ≠ w.heap.size + 1 := by omega
  go_region_held3 (fun V => V.cell? ⟨w.heap.size, 0, none⟩ = some (.int .i64 k) ∧ V.cell? ⟨w.heap.size, 1, none⟩ = some (.int .i64 p) ∧ V.cell? ⟨w.heap.size, 2, none⟩ = some (.string n) ∧ V.cell? ⟨w.heap.size, 3, none⟩ = some (.int .i64 m) ∧ V.cell? ⟨w.heap.size, 4, none⟩ = some (.slice ao l.length cap))
    (first | (simp only [set5_cell _ _ _ _ _ _ hNN]; exact HF.out wA ((hbA.block _ (heap_lt hd1)).trans hd1)) | exact HF.out wA ((hbA.block _ (heap_lt hd1)).trans hd1) | exact x0 | go_keep)
    ((first | (go_at_call 37
               refine (HL.out _ _ _ (HV1.out.on (Below.refl _ _).drew)).mono ?_
               rintro e wA ⟨v', rfl, hv', hbA⟩
               obtain ⟨ao', cap', rfl, hc1', hc2'⟩ := hv'.form
               have fr2 : wA.heap[w.heap.size + 1]? = some (.cells #[.int .i64 0, .int .i64 0, .string ⟨#[]⟩, .int .i64 0, .slice none 0 0] 45) := (hbA.block _ (heap_lt hd2)).trans hd2
               have f0 : wA.frozen? ⟨w.heap.size + 1, 0, none⟩ = false := Lib.frozen_of_heap fr2 0
               have f1 : wA.frozen? ⟨w.heap.size + 1, 1, none⟩ = false := Lib.frozen_of_heap fr2 1
               have f2 : wA.frozen? ⟨w.heap.size + 1, 2, none⟩ = false := Lib.frozen_of_heap fr2 2
               have f3 : wA.frozen? ⟨w.heap.size + 1, 3, none⟩ = false := Lib.frozen_of_heap fr2 3
               have f4 : wA.frozen? ⟨w.heap.size + 1, 4, none⟩ = false := Lib.frozen_of_heap fr2 4
               have c0 : wA.cell? ⟨w.heap.size + 1, 0, none⟩ = some (.int .i64 0) := by rw [Lib.cell_of_heap fr2]; rfl
               have c1 : wA.cell? ⟨w.heap.size + 1, 1, none⟩ = some (.int .i64 0) := by rw [Lib.cell_of_heap fr2]; rfl
               have c2 : wA.cell? ⟨w.heap.size + 1, 2, none⟩ = some (.string ⟨#[]⟩) := by rw [Lib.cell_of_heap fr2]; rfl
               have c3 : wA.cell? ⟨w.heap.size + 1, 3, none⟩ = some (.int .i64 0) := by rw [Lib.cell_of_heap fr2]; rfl
               have c4 : wA.cell? ⟨w.heap.size + 1, 4, none⟩ = some (.slice none 0 0) := by rw [Lib.cell_of_heap fr2]; rfl)))
  have hs5 := set5 (.int .i64 k) (.int .i64 p) (.string n) (.int .i64 m) (.slice ao' l.length cap') fr2
  have ho5 := fun j hj => set5_other (w := wA) (N := w.heap.size + 1) (.int .i64 k) (.int .i64 p) (.string n) (.int .i64 m) (.slice ao' l.length cap') j hj
  have hbd : Below w.heap.size w W.drew := hb1.drew
  have hb5 := (((((hbd.trans (hbA.mono hbd.size)).setCell (p := ⟨w.heap.size + 1, 0, none⟩) (Nat.le_succ _) (.int .i64 k)).setCell (p := ⟨w.heap.size + 1, 1, none⟩) (Nat.le_succ _) (.int .i64 p)).setCell (p := ⟨w.heap.size + 1, 2, none⟩) (Nat.le_succ _) (.string n)).setCell (p := ⟨w.heap.size + 1, 3, none⟩) (Nat.le_succ _) (.int .i64 m)).setCell (p := ⟨w.heap.size + 1, 4, none⟩) (Nat.le_succ _) (.slice ao' l.length cap')
  have hsz5 : (((((wA.setCell ⟨w.heap.size + 1, 0, none⟩ (.int .i64 k)).setCell ⟨w.heap.size + 1, 1, none⟩ (.int .i64 p)).setCell ⟨w.heap.size + 1, 2, none⟩ (.string n)).setCell ⟨w.heap.size + 1, 3, none⟩ (.int .i64 m)).setCell ⟨w.heap.size + 1, 4, none⟩ (.slice ao' l.length cap')).heap.size = wA.heap.size := by simp
  generalize ((((wA.setCell ⟨w.heap.size + 1, 0, none⟩ (.int .i64 k)).setCell ⟨w.heap.size + 1, 1, none⟩ (.int .i64 p)).setCell ⟨w.heap.size + 1, 2, none⟩ (.string n)).setCell ⟨w.heap.size + 1, 3, none⟩ (.int .i64 m)).setCell ⟨w.heap.size + 1, 4, none⟩ (.slice ao' l.length cap') = W5 at hs5 ho5 hb5 hsz5 ⊢
  have hdz : W.drew.heap.size = w.heap.size + 2 := hsz
  have hfin : IsPas W5 (Own w W5) (.slice ao' l.length cap') l := (hv'.stay (fun b hb _ => ho5 b (by have := hb.1; omega))).mono (fun b hb => ⟨by have := hb.1; omega, by have := hb.2; omega⟩)
  have HFin := Lib.hid hfin
  have r0 : W5.cell? ⟨w.heap.size + 1, 0, none⟩ = some (.int .i64 k) := by rw [Lib.cell_of_heap hs5]; rfl
  have r1 : W5.cell? ⟨w.heap.size + 1, 1, none⟩ = some (.int .i64 p) := by rw [Lib.cell_of_heap hs5]; rfl
  have r2 : W5.cell? ⟨w.heap.size + 1, 2, none⟩ = some (.string n) := by rw [Lib.cell_of_heap hs5]; rfl
  have r3 : W5.cell? ⟨w.heap.size + 1, 3, none⟩ = some (.int .i64 m) := by rw [Lib.cell_of_heap hs5]; rfl
  have r4 : W5.cell? ⟨w.heap.size + 1, 4, none⟩ = some (.slice ao' l.length cap') := by rw [Lib.cell_of_heap hs5]; rfl
  clear fr2 f0 f1 f2 f3 f4 c0 c1 c2 c3 c4 hv' hfin hs5 ho5
  go_wp2
  exact bodyPost_ret (v := .agg #[.int .i64 k, .int .i64 p, .string n, .int .i64 m, .slice ao' l.length cap']) (by simp [results, Tryz.results13, go_sem, *]) rfl ⟨_, rfl, HFin.out, hb5⟩
end Go.Proofs.YtdiffpiapdghoaaGreatDoor
/-
  Layer 3, the law's side: ownPats, OwnPat.
-/
namespace Go.Proofs.YtdiffpiapdghoaaGreatDoor
set_option linter.unusedVariables false
open Go.ChangeShapes Go.WideShapes Go.ChangeAt Go.RowKit

theorem info_pa : (Tryz.prog.info? 45).map (fun i => (i.zero, i.size, i.bytes)) = some (some (.agg #[.int .i64 0, .int .i64 0, .string ⟨#[]⟩, .int .i64 0, .slice none 0 0]), 5, 64) := by kernel_rfl
theorem cell_pa_new (W : World) (a b c d e : Value) (t : TypeId) : ∀ j u, [a, b, c, d, e][j]? = some u → (W.alloc (.cells #[a, b, c, d, e] t)).cell? ((⟨W.heap.size, 0, none⟩ : Addr).add j) = some u := by
  intro j u hj
  have h := heap_alloc_new W (.cells #[a, b, c, d, e] t (0, 0))
  match j, hj with
  | 0, hj => simp at hj; subst hj; rw [add_zero2, Lib.cell_of_heap h]; rfl
  | 1, hj => simp at hj; subst hj; rw [add_off _ _ (by decide), Lib.cell_of_heap h]; rfl
  | 2, hj => simp at hj; subst hj; rw [add_off _ _ (by decide), Lib.cell_of_heap h]; rfl
  | 3, hj => simp at hj; subst hj; rw [add_off _ _ (by decide), Lib.cell_of_heap h]; rfl
  | 4, hj => simp at hj; subst hj; rw [add_off _ _ (by decide), Lib.cell_of_heap h]; rfl
set_option maxHeartbeats 8000000 in
set_option maxRecDepth 100000 in
theorem ownPs_all : ∀ (z : Nat) (l : List Pa), Pa.wts l ≤ z → l.length ≤ 1000000 → Pa.oks l → OwnPs l := by
  intro z
  induction z with
  | zero => intro l hz; cases l <;> (unfold Pa.wts at hz; omega)
  | succ z ih =>
    intro l hz hlen hok P v w hv
    obtain ⟨ao, cap, rfl, v1, v2⟩ := hv.form
    have HI := Lib.hid ih
    have HO := Lib.hid hok
    have HV := Lib.hid hv
    clear ih hok hv
    obtain ⟨i0, hi, hz0, hz1, hz2⟩ := info_parts' info_pa
    go_enter Tryz.func37, Tryz.ntmps37
    go_wp2
    go_loopw [3, 4] (fun xu iv wr => ∃ (k : Nat) (xv : Value) (vals : List Value), k ≤ l.length ∧ xv = xu ∧ iv = .int .i64 k ∧ wr.ownsRow w.heap.size 45 5 xv k vals ∧ Hid (Gath Pa.row 5 w.heap.size wr xv l k vals) ∧ Below w.heap.size w wr) (fun _ iv _ => l.length - (intOf iv).toNat)
    case atStart => exact ⟨0, _, [], Nat.zero_le _, rfl, rfl, World.ownsRow_nil _ _ _ _, Lib.hid (fun j t hj => by omega), Below.refl _ _⟩
    case round =>
      obtain ⟨k, xv, vals, hk, hx, rfl, hown, HG, hbw⟩ := hrel
      subst hx
      by_cases hlt : k < l.length
      · have k1 : (k : Int) < l.length := by omega
        obtain ⟨t, ht⟩ : ∃ t, l[k]? = some t := ⟨l[k], List.getElem?_eq_getElem hlt⟩
        have hsz := Pa.wts_get l k t ht
        have htok := Pa.oks_get l k t HO.out ht
        obtain ⟨a, rfl, _, hrow⟩ := HV.out.at ht
        have hrow := hrow.on hbw
        obtain ⟨tk, tp, tn, tm, ta⟩ := t
        unfold Pa.wt at hsz
        unfold Pa.ok at htok
        obtain ⟨c0, c1, c2, c2', c3, bo, bcap, c4, b1, b2, hargs⟩ := hrow.cells
        have HA := Lib.hid (HI.out ta (by omega) htok.1 htok.2)
        clear hrow htok
        go_wp2_with fail
        refine (ownP_step tk tp tn tm ta HA.out P _ _ hargs).mono ?_
        rintro e w1 ⟨v', rfl, hv', hb1⟩
        obtain ⟨ao', cap', rfl, hc1', hc2'⟩ := hv'.form
        have hown1 : w1.ownsRow w.heap.size 45 5 xv k vals := by
          refine ⟨hown.1, ?_⟩
          rcases hown.2 with h2 | ⟨g, cap2, cur, hv2, h3, h4, h5⟩
          · exact .inl h2
          · exact .inr ⟨g, cap2, cur, hv2, h3, (hb1.block g (heap_lt h4)).trans h4, h5⟩
        have hb2 := hbw.trans (hb1.mono hbw.size)
        have hzb := hb2.size
        have hvs : IsVs w1 (Own wr w1) (Pa.row (.mk tk tp tn tm ta)) [.int .i64 tk, .int .i64 tp, .string tn, .int .i64 tm, .slice ao' ta.length cap'] := by
          unfold Pa.row
          exact ⟨_, _, rfl, (by unfold IsC; rfl), _, _, rfl, (by unfold IsC; rfl), _, _, rfl, (by unfold IsC; exact ⟨rfl, c2'⟩), _, _, rfl, (by unfold IsC; rfl), _, _, rfl, (by rw [Pa.rows_map]; exact hv'.out), rfl⟩
        have HVS := Lib.hid hvs
        have hlen1 := hown.1
        clear c0 c1 c2 c3 c4 hv' hvs hargs
        go_wp2_with (at_builtin; refine wpList_append_own_at _ rfl _ _ 43 rfl w.heap.size 45 i0 (.agg #[.int .i64 0, .int .i64 0, .string ⟨#[]⟩, .int .i64 0, .slice none 0 0]) 5 64 Tryz.underlying43 hi hz0 hz1 hz2 rfl (by decide) _ _ _ rfl (hown1.alloc _) ⟨w1.heap.size, 0, none⟩ 1 1 [.int .i64 tk, .int .i64 tp, .string tn, .int .i64 tm, .slice ao' ta.length cap'] rfl rfl (cell_pa_new _ _ _ _ _ _ _) (by simp [Value.oneCell']) (by unfold maxLen; omega) (by omega) (by simp; omega) ?_; intro v2' w2 hown2 hgrow _ hat)
        have hgrow' : (w1.alloc (.cells #[.int .i64 tk, .int .i64 tp, .string tn, .int .i64 tm, .slice ao' ta.length cap'] 45)).grownBy w2 xv.ownBlock := hgrow
        have hat' : v2'.ownBlock = xv.ownBlock ∨ v2'.ownBlock = some (w1.alloc (.cells #[.int .i64 tk, .int .i64 tp, .string tn, .int .i64 tm, .slice ao' ta.length cap'] 45)).heap.size := hat
        have HG2 := Lib.hid (HG.out.next hbw.size ht hlen1 rfl HVS.out (fun g hg => (hown.lt g hg).2) hb1 hgrow' hat')
        have hb3 : Below w.heap.size w w2 := (hb2.alloc hb2.size _).grown hgrow' (by simp; omega) (fun j hj => (hown.lt j hj).1)
        clear hgrow hgrow' hat hat' hown hown1
        go_wp2
        go_roundw
        case rel => exact ⟨k + 1, _, _, by omega, rfl, by go_num, hown2, HG2, hb3⟩
        case measure => simp [intOf]; omega
      · have hkk : k = l.length := by omega
        have k1 : ¬ (k : Int) < l.length := by omega
        subst hkk
        have HD := Lib.hid (HG.out.done hown)
        go_wp2
        go_ret
        exact ⟨_, rfl, ⟨HD.out⟩, hbw⟩
end Go.Proofs.YtdiffpiapdghoaaGreatDoor
/-
  Layer 3, the law's side: fewAlts.
-/
namespace Go.Proofs.YtdiffpiapdghoaaGreatDoor
set_option linter.unusedVariables false
open Go.ChangeShapes Go.WideShapes Go.ChangeAt Go.RowKit

/-- a slice of one pattern, of one expression -/
theorem pa_lit {w : World} {N : Nat} {k p m : Int} {n : ByteArray} {l : List Pa} {ao : Option Addr} {cap : Nat} {T : TypeId} {fr : Nat × Nat} (h : w.heap[N]? = some (.cells #[.int .i64 k, .int .i64 p, .string n, .int .i64 m, .slice ao l.length cap] T fr)) (hn : n.size ≤ maxLen) (hl : IsPas w Any (.slice ao l.length cap) l) :
    IsPas w Any (.slice (some ⟨N, 0, none⟩) 1 1) [.mk k p n m l] := by
  refine ⟨?_⟩
  unfold IsC
  refine .inr ⟨⟨N, 0, none⟩, 1, rfl, Nat.le_refl _, by unfold maxLen; omega, fun _ => trivial, ?_⟩
  show IsRows w Any 5 [Pa.row (.mk k p n m l)] _
  unfold IsRows
  refine ⟨IsRow.of_vals _ _ [.int .i64 k, .int .i64 p, .string n, .int .i64 m, .slice ao l.length cap] ?_ fun j u hj => ?_, by unfold IsRows; trivial⟩
  · unfold Pa.row
    exact ⟨_, _, rfl, (by unfold IsC; rfl), _, _, rfl, (by unfold IsC; rfl), _, _, rfl, (by unfold IsC; exact ⟨rfl, hn⟩), _, _, rfl, (by unfold IsC; rfl), _, _, rfl, (by rw [Pa.rows_map]; exact hl.out), rfl⟩
  · match j, hj with
    | 0, hj => simp at hj; subst hj; rw [add_zero2, Lib.cell_of_heap h]; rfl
    | 1, hj => simp at hj; subst hj; rw [add_off _ _ (by decide), Lib.cell_of_heap h]; rfl
    | 2, hj => simp at hj; subst hj; rw [add_off _ _ (by decide), Lib.cell_of_heap h]; rfl
    | 3, hj => simp at hj; subst hj; rw [add_off _ _ (by decide), Lib.cell_of_heap h]; rfl
    | 4, hj => simp at hj; subst hj; rw [add_off _ _ (by decide), Lib.cell_of_heap h]; rfl
theorem ex_lit {w : World} {N : Nat} {k p m : Int} {n : ByteArray} {l : List Ex} {ps : List Pa} {al : List Al} {ds : List De} {a4 a5 a6 a7 : Option Addr} {b4 b5 b6 b7 : Nat} {T : TypeId} {fr : Nat × Nat}
    (h : w.heap[N]? = some (.cells #[.int .i64 k, .int .i64 p, .string n, .int .i64 m, .slice a4 l.length b4, .slice a5 ps.length b5, .slice a6 al.length b6, .slice a7 ds.length b7] T fr)) (hn : n.size ≤ maxLen)
    (h4 : IsExs w Any (.slice a4 l.length b4) l) (h5 : IsPas w Any (.slice a5 ps.length b5) ps) (h6 : IsAls w Any (.slice a6 al.length b6) al) (h7 : IsDes w Any (.slice a7 ds.length b7) ds) :
    IsExs w Any (.slice (some ⟨N, 0, none⟩) 1 1) [.mk k p n m l ps al ds] := by
  refine ⟨?_⟩
  unfold IsC
  refine .inr ⟨⟨N, 0, none⟩, 1, rfl, Nat.le_refl _, by unfold maxLen; omega, fun _ => trivial, ?_⟩
  show IsRows w Any 8 [Ex.row (.mk k p n m l ps al ds)] _
  unfold IsRows
  refine ⟨IsRow.of_vals _ _ [.int .i64 k, .int .i64 p, .string n, .int .i64 m, .slice a4 l.length b4, .slice a5 ps.length b5, .slice a6 al.length b6, .slice a7 ds.length b7] ?_ fun j u hj => ?_, by unfold IsRows; trivial⟩
  · unfold Ex.row
    exact ⟨_, _, rfl, (by unfold IsC; rfl), _, _, rfl, (by unfold IsC; rfl), _, _, rfl, (by unfold IsC; exact ⟨rfl, hn⟩), _, _, rfl, (by unfold IsC; rfl), _, _, rfl, (by rw [Ex.rows_map]; exact h4.out), _, _, rfl, (by rw [Pa.rows_map]; exact h5.out), _, _, rfl, (by rw [Al.rows_map]; exact h6.out), _, _, rfl, (by rw [De.rows_map]; exact h7.out), rfl⟩
  · match j, hj with
    | 0, hj => simp at hj; subst hj; rw [add_zero2, Lib.cell_of_heap h]; rfl
    | 1, hj => simp at hj; subst hj; rw [add_off _ _ (by decide), Lib.cell_of_heap h]; rfl
    | 2, hj => simp at hj; subst hj; rw [add_off _ _ (by decide), Lib.cell_of_heap h]; rfl
    | 3, hj => simp at hj; subst hj; rw [add_off _ _ (by decide), Lib.cell_of_heap h]; rfl
    | 4, hj => simp at hj; subst hj; rw [add_off _ _ (by decide), Lib.cell_of_heap h]; rfl
    | 5, hj => simp at hj; subst hj; rw [add_off _ _ (by decide), Lib.cell_of_heap h]; rfl
    | 6, hj => simp at hj; subst hj; rw [add_off _ _ (by decide), Lib.cell_of_heap h]; rfl
    | 7, hj => simp at hj; subst hj; rw [add_off _ _ (by decide), Lib.cell_of_heap h]; rfl
theorem ty_lit {w : World} {N : Nat} {k p : Int} {n : ByteArray} {l : List Ty} {ao : Option Addr} {cap : Nat} {T : TypeId} {fr : Nat × Nat} (h : w.heap[N]? = some (.cells #[.int .i64 k, .int .i64 p, .string n, .slice ao l.length cap] T fr)) (hn : n.size ≤ maxLen) (hl : IsTys w Any (.slice ao l.length cap) l) :
    IsTys w Any (.slice (some ⟨N, 0, none⟩) 1 1) [.mk k p n l] := by
  refine ⟨?_⟩
  unfold IsC
  refine .inr ⟨⟨N, 0, none⟩, 1, by rw [Ty.rows_map]; rfl, by rw [Ty.rows_map]; exact Nat.le_refl _, by unfold maxLen; omega, fun _ => trivial, ?_⟩
  rw [Ty.rows_map]
  show IsRows w Any 4 [Ty.row (.mk k p n l)] _
  unfold IsRows
  refine ⟨IsRow.of_vals _ _ [.int .i64 k, .int .i64 p, .string n, .slice ao l.length cap] ?_ fun j u hj => ?_, by unfold IsRows; trivial⟩
  · unfold Ty.row
    exact ⟨_, _, rfl, (by unfold IsC; rfl), _, _, rfl, (by unfold IsC; rfl), _, _, rfl, (by unfold IsC; exact ⟨rfl, hn⟩), _, _, rfl, hl.out, rfl⟩
  · match j, hj with
    | 0, hj => simp at hj; subst hj; rw [add_zero2, Lib.cell_of_heap h]; rfl
    | 1, hj => simp at hj; subst hj; rw [add_off _ _ (by decide), Lib.cell_of_heap h]; rfl
    | 2, hj => simp at hj; subst hj; rw [add_off _ _ (by decide), Lib.cell_of_heap h]; rfl
    | 3, hj => simp at hj; subst hj; rw [add_off _ _ (by decide), Lib.cell_of_heap h]; rfl
end Go.Proofs.YtdiffpiapdghoaaGreatDoor
