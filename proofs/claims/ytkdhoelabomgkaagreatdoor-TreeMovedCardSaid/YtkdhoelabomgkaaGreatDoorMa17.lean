/- Texts of this proof, joined: OwnP2, FewA, Wide, FewD. No condition. -/
import Derived.Test.YtkdhoelabomgkaaGreatDoorMa16
import Derived.Maps.AppendAt
import Derived.Test.YtkdhoelabomgkaaGreatDoorMa09
import Derived.Deep.RegionHeld3
import Derived.Deep.MidRow
import Derived.Deep.DeepCutAuto
import Derived.Deep.CutBlock
/-
  Layer 3, the law's side: ownPats, OwnPat.
-/
namespace Go.Proofs.YtkdhoelabomgkaaGreatDoor
set_option linter.unusedVariables false
open Go.ChangeShapes Go.WideShapes Go.ChangeAt Go.RowKit

theorem info_pa : (Tryz.prog.info? 45).map (fun i => (i.zero, i.size, i.bytes)) = some (some (.agg #[.int .i64 0, .int .i64 0, .string ⟨#[]⟩, .int .i64 0, .slice none 0 0]), 5, 64) := by kernel_rfl
theorem cell_pa_new (W : World) (a b c d e : Value) (t : TypeId) : ∀ j u, [a, b, c, d, e][j]? = some u → (W.alloc (.cells #[a, b, c, d, e] t)).cell? ((⟨W.heap.size, 0, none⟩ : Addr).add j) = some u := by
  intro j u hj
  have h := heap_alloc_new W (.cells #[a, b, c, d, e] t (0, 0))
  match j, hj with
  | 0, hj => simp at hj; subst hj; rw [add_zero2, Lib.cell_of_heap h]; rfl
  | 1, hj => simp at hj; subst hj; rw [add_off _ _ (by decide), Lib.cell_of_heap h]; rfl
  | 2, hj => simp at hj; subst hj; rw [add_off _ _ (by decide), Lib.cell_of_heap h]; rfl
  | 3, hj => simp at hj; subst hj; rw [add_off _ _ (by decide), Lib.cell_of_heap h]; rfl
  | 4, hj => simp at hj; subst hj; rw [add_off _ _ (by decide), Lib.cell_of_heap h]; rfl
set_option maxHeartbeats 8000000 in
set_option maxRecDepth 100000 in
theorem ownPs_all : ∀ (z : Nat) (l : List Pa), Pa.wts l ≤ z → l.length ≤ 1000000 → Pa.oks l → OwnPs l := by
  intro z
  induction z with
  | zero => intro l hz; cases l <;> (unfold Pa.wts at hz; omega)
  | succ z ih =>
    intro l hz hlen hok P v w hv
    obtain ⟨ao, cap, rfl, v1, v2⟩ := hv.form
    have HI := Lib.hid ih
    have HO := Lib.hid hok
    have HV := Lib.hid hv
    clear ih hok hv
    obtain ⟨i0, hi, hz0, hz1, hz2⟩ := info_parts' info_pa
    go_enter Tryz.func37, Tryz.ntmps37
    go_wp2
    go_loopw [3, 4] (fun xu iv wr => ∃ (k : Nat) (xv : Value) (vals : List Value), k ≤ l.length ∧ xv = xu ∧ iv = .int .i64 k ∧ wr.ownsRow w.heap.size 45 5 xv k vals ∧ Hid (Gath Pa.row 5 w.heap.size wr xv l k vals) ∧ Below w.heap.size w wr) (fun _ iv _ => l.length - (intOf iv).toNat)
    case atStart => exact ⟨0, _, [], Nat.zero_le _, rfl, rfl, World.ownsRow_nil _ _ _ _, Lib.hid (fun j t hj => by omega), Below.refl _ _⟩
    case round =>
      obtain ⟨k, xv, vals, hk, hx, rfl, hown, HG, hbw⟩ := hrel
      subst hx
      by_cases hlt : k < l.length
      · have k1 : (k : Int) < l.length := by omega
        obtain ⟨t, ht⟩ : ∃ t, l[k]? = some t := ⟨l[k], List.getElem?_eq_getElem hlt⟩
        have hsz := Pa.wts_get l k t ht
        have htok := Pa.oks_get l k t HO.out ht
        obtain ⟨a, rfl, _, hrow⟩ := HV.out.at ht
        have hrow := hrow.on hbw
        obtain ⟨tk, tp, tn, tm, ta⟩ := t
        unfold Pa.wt at hsz
        unfold Pa.ok at htok
        obtain ⟨c0, c1, c2, c2', c3, bo, bcap, c4, b1, b2, hargs⟩ := hrow.cells
        have HA := Lib.hid (HI.out ta (by omega) htok.1 htok.2)
        clear hrow htok
        go_wp2_with fail
        refine (ownP_step tk tp tn tm ta HA.out P _ _ hargs).mono ?_
        rintro e w1 ⟨v', rfl, hv', hb1⟩
        obtain ⟨ao', cap', rfl, hc1', hc2'⟩ := hv'.form
        have hown1 : w1.ownsRow w.heap.size 45 5 xv k vals := by
          refine ⟨hown.1, ?_⟩
          rcases hown.2 with h2 | ⟨g, cap2, cur, hv2, h3, h4, h5⟩
          · exact .inl h2
          · exact .inr ⟨g, cap2, cur, hv2, h3, (hb1.block g (heap_lt h4)).trans h4, h5⟩
        have hb2 := hbw.trans (hb1.mono hbw.size)
        have hzb := hb2.size
        have hvs : IsVs w1 (Own wr w1) (Pa.row (.mk tk tp tn tm ta)) [.int .i64 tk, .int .i64 tp, .string tn, .int .i64 tm, .slice ao' ta.length cap'] := by
          unfold Pa.row
          exact ⟨_, _, rfl, (by unfold IsC; rfl), _, _, rfl, (by unfold IsC; rfl), _, _, rfl, (by unfold IsC; exact ⟨rfl, c2'⟩), _, _, rfl, (by unfold IsC; rfl), _, _, rfl, (by rw [Pa.rows_map]; exact hv'.out), rfl⟩
        have HVS := Lib.hid hvs
        have hlen1 := hown.1
        clear c0 c1 c2 c3 c4 hv' hvs hargs
        go_wp2_with (at_builtin; refine wpList_append_own_at _ rfl _ _ 43 rfl w.heap.size 45 i0 (.agg #[.int .i64 0, .int .i64 0, .string ⟨#[]⟩, .int .i64 0, .slice none 0 0]) 5 64 Tryz.underlying43 hi hz0 hz1 hz2 rfl (by decide) _ _ _ rfl (hown1.alloc _) ⟨w1.heap.size, 0, none⟩ 1 1 [.int .i64 tk, .int .i64 tp, .string tn, .int .i64 tm, .slice ao' ta.length cap'] rfl rfl (cell_pa_new _ _ _ _ _ _ _) (by simp [Value.oneCell']) (by unfold maxLen; omega) (by omega) (by simp; omega) ?_; intro v2' w2 hown2 hgrow _ hat)
        have hgrow' : (w1.alloc (.cells #[.int .i64 tk, .int .i64 tp, .string tn, .int .i64 tm, .slice ao' ta.length cap'] 45)).grownBy w2 xv.ownBlock := hgrow
        have hat' : v2'.ownBlock = xv.ownBlock ∨ v2'.ownBlock = some (w1.alloc (.cells #[.int .i64 tk, .int .i64 tp, .string tn, .int .i64 tm, .slice ao' ta.length cap'] 45)).heap.size := hat
        have HG2 := Lib.hid (HG.out.next hbw.size ht hlen1 rfl HVS.out (fun g hg => (hown.lt g hg).2) hb1 hgrow' hat')
        have hb3 : Below w.heap.size w w2 := (hb2.alloc hb2.size _).grown hgrow' (by simp; omega) (fun j hj => (hown.lt j hj).1)
        clear hgrow hgrow' hat hat' hown hown1
        go_wp2
        go_roundw
        case rel => exact ⟨k + 1, _, _, by omega, rfl, by go_num, hown2, HG2, hb3⟩
        case measure => simp [intOf]; omega
      · have hkk : k = l.length := by omega
        have k1 : ¬ (k : Int) < l.length := by omega
        subst hkk
        have HD := Lib.hid (HG.out.done hown)
        go_wp2
        go_ret
        exact ⟨_, rfl, ⟨HD.out⟩, hbw⟩
end Go.Proofs.YtkdhoelabomgkaaGreatDoor
/-
  Layer 3, the law's side: fewAlts.
-/
namespace Go.Proofs.YtkdhoelabomgkaaGreatDoor
set_option linter.unusedVariables false
open Go.ChangeShapes Go.WideShapes Go.ChangeAt Go.RowKit

/-- a slice of one pattern, of one expression -/
theorem pa_lit {w : World} {N : Nat} {k p m : Int} {n : ByteArray} {l : List Pa} {ao : Option Addr} {cap : Nat} {T : TypeId} {fr : Nat × Nat} (h : w.heap[N]? = some (.cells #[.int .i64 k, .int .i64 p, .string n, .int .i64 m, .slice ao l.length cap] T fr)) (hn : n.size ≤ maxLen) (hl : IsPas w Any (.slice ao l.length cap) l) :
    IsPas w Any (.slice (some ⟨N, 0, none⟩) 1 1) [.mk k p n m l] := by
  refine ⟨?_⟩
  unfold IsC
  refine .inr ⟨⟨N, 0, none⟩, 1, rfl, Nat.le_refl _, by unfold maxLen; omega, fun _ => trivial, ?_⟩
  show IsRows w Any 5 [Pa.row (.mk k p n m l)] _
  unfold IsRows
  refine ⟨IsRow.of_vals _ _ [.int .i64 k, .int .i64 p, .string n, .int .i64 m, .slice ao l.length cap] ?_ fun j u hj => ?_, by unfold IsRows; trivial⟩
  · unfold Pa.row
    exact ⟨_, _, rfl, (by unfold IsC; rfl), _, _, rfl, (by unfold IsC; rfl), _, _, rfl, (by unfold IsC; exact ⟨rfl, hn⟩), _, _, rfl, (by unfold IsC; rfl), _, _, rfl, (by rw [Pa.rows_map]; exact hl.out), rfl⟩
  · match j, hj with
    | 0, hj => simp at hj; subst hj; rw [add_zero2, Lib.cell_of_heap h]; rfl
    | 1, hj => simp at hj; subst hj; rw [add_off _ _ (by decide), Lib.cell_of_heap h]; rfl
    | 2, hj => simp at hj; subst hj; rw [add_off _ _ (by decide), Lib.cell_of_heap h]; rfl
    | 3, hj => simp at hj; subst hj; rw [add_off _ _ (by decide), Lib.cell_of_heap h]; rfl
    | 4, hj => simp at hj; subst hj; rw [add_off _ _ (by decide), Lib.cell_of_heap h]; rfl
theorem ex_lit {w : World} {N : Nat} {k p m : Int} {n : ByteArray} {l : List Ex} {ps : List Pa} {al : List Al} {ds : List De} {a4 a5 a6 a7 : Option Addr} {b4 b5 b6 b7 : Nat} {T : TypeId} {fr : Nat × Nat}
    (h : w.heap[N]? = some (.cells #[.int .i64 k, .int .i64 p, .string n, .int .i64 m, .slice a4 l.length b4, .slice a5 ps.length b5, .slice a6 al.length b6, .slice a7 ds.length b7] T fr)) (hn : n.size ≤ maxLen)
    (h4 : IsExs w Any (.slice a4 l.length b4) l) (h5 : IsPas w Any (.slice a5 ps.length b5) ps) (h6 : IsAls w Any (.slice a6 al.length b6) al) (h7 : IsDes w Any (.slice a7 ds.length b7) ds) :
    IsExs w Any (.slice (some ⟨N, 0, none⟩) 1 1) [.mk k p n m l ps al ds] := by
  refine ⟨?_⟩
  unfold IsC
  refine .inr ⟨⟨N, 0, none⟩, 1, rfl, Nat.le_refl _, by unfold maxLen; omega, fun _ => trivial, ?_⟩
  show IsRows w Any 8 [Ex.row (.mk k p n m l ps al ds)] _
  unfold IsRows
  refine ⟨IsRow.of_vals _ _ [.int .i64 k, .int .i64 p, .string n, .int .i64 m, .slice a4 l.length b4, .slice a5 ps.length b5, .slice a6 al.length b6, .slice a7 ds.length b7] ?_ fun j u hj => ?_, by unfold IsRows; trivial⟩
  · unfold Ex.row
    exact ⟨_, _, rfl, (by unfold IsC; rfl), _, _, rfl, (by unfold IsC; rfl), _, _, rfl, (by unfold IsC; exact ⟨rfl, hn⟩), _, _, rfl, (by unfold IsC; rfl), _, _, rfl, (by rw [Ex.rows_map]; exact h4.out), _, _, rfl, (by rw [Pa.rows_map]; exact h5.out), _, _, rfl, (by rw [Al.rows_map]; exact h6.out), _, _, rfl, (by rw [De.rows_map]; exact h7.out), rfl⟩
  · match j, hj with
    | 0, hj => simp at hj; subst hj; rw [add_zero2, Lib.cell_of_heap h]; rfl
    | 1, hj => simp at hj; subst hj; rw [add_off _ _ (by decide), Lib.cell_of_heap h]; rfl
    | 2, hj => simp at hj; subst hj; rw [add_off _ _ (by decide), Lib.cell_of_heap h]; rfl
    | 3, hj => simp at hj; subst hj; rw [add_off _ _ (by decide), Lib.cell_of_heap h]; rfl
    | 4, hj => simp at hj; subst hj; rw [add_off _ _ (by decide), Lib.cell_of_heap h]; rfl
    | 5, hj => simp at hj; subst hj; rw [add_off _ _ (by decide), Lib.cell_of_heap h]; rfl
    | 6, hj => simp at hj; subst hj; rw [add_off _ _ (by decide), Lib.cell_of_heap h]; rfl
    | 7, hj => simp at hj; subst hj; rw [add_off _ _ (by decide), Lib.cell_of_heap h]; rfl
theorem ty_lit {w : World} {N : Nat} {k p : Int} {n : ByteArray} {l : List Ty} {ao : Option Addr} {cap : Nat} {T : TypeId} {fr : Nat × Nat} (h : w.heap[N]? = some (.cells #[.int .i64 k, .int .i64 p, .string n, .slice ao l.length cap] T fr)) (hn : n.size ≤ maxLen) (hl : IsTys w Any (.slice ao l.length cap) l) :
    IsTys w Any (.slice (some ⟨N, 0, none⟩) 1 1) [.mk k p n l] := by
  refine ⟨?_⟩
  unfold IsC
  refine .inr ⟨⟨N, 0, none⟩, 1, by rw [Ty.rows_map]; rfl, by rw [Ty.rows_map]; exact Nat.le_refl _, by unfold maxLen; omega, fun _ => trivial, ?_⟩
  rw [Ty.rows_map]
  show IsRows w Any 4 [Ty.row (.mk k p n l)] _
  unfold IsRows
  refine ⟨IsRow.of_vals _ _ [.int .i64 k, .int .i64 p, .string n, .slice ao l.length cap] ?_ fun j u hj => ?_, by unfold IsRows; trivial⟩
  · unfold Ty.row
    exact ⟨_, _, rfl, (by unfold IsC; rfl), _, _, rfl, (by unfold IsC; rfl), _, _, rfl, (by unfold IsC; exact ⟨rfl, hn⟩), _, _, rfl, hl.out, rfl⟩
  · match j, hj with
    | 0, hj => simp at hj; subst hj; rw [add_zero2, Lib.cell_of_heap h]; rfl
    | 1, hj => simp at hj; subst hj; rw [add_off _ _ (by decide), Lib.cell_of_heap h]; rfl
    | 2, hj => simp at hj; subst hj; rw [add_off _ _ (by decide), Lib.cell_of_heap h]; rfl
    | 3, hj => simp at hj; subst hj; rw [add_off _ _ (by decide), Lib.cell_of_heap h]; rfl
end Go.Proofs.YtkdhoelabomgkaaGreatDoor
/-
  Layer 3: a wide struct (eighteen cells) taken out of memory and laid into a block of the call's own as a whole: the walk's own way, cell by cell, is more than the kernel can hold.
-/
namespace Go.Proofs.YtkdhoelabomgkaaGreatDoor
set_option linter.unusedVariables false
open Go.ChangeShapes Go.WideShapes Go.ChangeAt Go.RowKit

/-- a whole struct out of memory, wherever it lies -/
theorem loadVar_wide {P : Program} (w : World) (ty : TypeId) (A : Addr) (cs : List Value) (d : TypeDesc) (h : ∀ j v, cs[j]? = some v → w.cell? (A.add j) = some v)
    (hu : P.underlying ty = some d) (hd : d.isRow = true) (hi : (P.info? ty).map (·.size) = some cs.length) : (loadVar ty A).run P w = .ok (.agg cs.toArray) w := by
  have hl := run_loadCells_list (P := P) w A cs h
  cases hq : P.info? ty with
  | none => simp [hq] at hi
  | some i =>
    have hs : i.size = cs.length := by simpa [hq] using hi
    have hagg : (isAgg ty).run P w = .ok true w := by
      unfold isAgg
      rw [Sem.run_bind, run_underlying hu w]
      cases d <;> simp_all
    simp [loadVar, Sem.run_bind, hagg, sizeOf, typeInfo, hq, hs, hl]

theorem wpList_load_any {P : Program} {ops : Array Oper} {rest : List Oper} {o : Oper} {a : Act} {w : World} {Q : Exit → Act → World → Prop} (hgd : o.guard = none) (ty : TypeId) (x : Operand) (ho : o.op = .load ty x)
    (A : Addr) (hx : a.eval x = .pointer (some A)) (cs : Array Value) (hl : (loadVar ty A).run P w = .ok (.agg cs) w)
    (h : wpList P ops Q rest (a.put o.dst (.agg cs)) w) : wpList P ops Q (o :: rest) a w :=
  wpList_plain hgd fun _ hK => by
    unfold Oper.wp execOp
    simp only [ho, hx, Instr.loadAt, Instr.sureAddr, Sem.run_bind, Sem.run_pure, Result.andThen_ok, hl]
    exact hK _ _ h

theorem row_store (w : World) (N : Nat) (old cs : Array Value) (t : TypeId) (h : w.heap[N]? = some (.cells old t (0, 0))) : (w.setRow N cs).heap[N]? = some (.cells cs t (0, 0)) := setRow_heap w N old cs t (0, 0) h
theorem below_row {B : Nat} {w w' : World} (h : Below B w w') (g : Nat) (cs : Array Value) (hg : B ≤ g) : Below B w (w'.setRow g cs) :=
  ⟨h.os, h.tape, h.output, by have := h.size; simpa [World.setRow] using this, fun k hk => by rw [setRow_other w' g k cs (by omega)]; exact h.block k hk⟩

/-- a whole struct into a block of the call's own -/
theorem store_any {P : Program} {ops : Array Oper} {rest : List Oper} {o : Oper} {a : Act} {w0 w : World} {Q : Exit → Act → World → Prop} (ty : TypeId) (cs : Array Value) (B N : Nat) (old : Array Value)
    (hN : w.heap[N]? = some (.cells old ty (0, 0))) (hb : Below B w0 w) (hBN : B ≤ N) (hi : (P.info? ty).map (·.size) = some cs.size) (hold : old.size = cs.size) (h1 : cs.all (·.oneCell') = true) (hgd : o.guard = none) (x y : Operand) (ho : o.op = .store ty x y)
    (hx : a.eval x = .pointer (some ⟨N, 0, none⟩)) (hy : a.eval y = .agg cs)
    (h : ∀ W2, W2.heap[N]? = some (.cells cs ty (0, 0)) → Below B w0 W2 → wpList P ops Q rest (a.put o.dst undef) W2) : wpList P ops Q (o :: rest) a w :=
  wpList_store_row hgd ty x y ho N cs hx hy ty old hN hi hold h1 (h _ (row_store w N old _ _ hN) (below_row hb _ _ hBN))

set_option maxRecDepth 100000 in
theorem info_de : (Tryz.prog.info? 92).map (·.size) = some 18 := by kernel_rfl
set_option maxRecDepth 100000 in
theorem und_de : ∃ d, Tryz.prog.underlying 92 = some d ∧ d.isRow = true := by
  refine ⟨_, rfl, ?_⟩
  kernel_rfl

/-- a declaration out of memory -/
theorem load_de (w : World) (a : Addr) {x0 x1 x2 x3 x4 x5 x6 x7 x8 x9 x10 x11 x12 x13 x14 x15 x16 x17 : Value} (h0 : w.cell? a = some x0) (h1 : w.cell? ⟨a.block, a.off + 1, none⟩ = some x1) (h2 : w.cell? ⟨a.block, a.off + 2, none⟩ = some x2) (h3 : w.cell? ⟨a.block, a.off + 3, none⟩ = some x3) (h4 : w.cell? ⟨a.block, a.off + 4, none⟩ = some x4) (h5 : w.cell? ⟨a.block, a.off + 5, none⟩ = some x5) (h6 : w.cell? ⟨a.block, a.off + 6, none⟩ = some x6) (h7 : w.cell? ⟨a.block, a.off + 7, none⟩ = some x7) (h8 : w.cell? ⟨a.block, a.off + 8, none⟩ = some x8) (h9 : w.cell? ⟨a.block, a.off + 9, none⟩ = some x9) (h10 : w.cell? ⟨a.block, a.off + 10, none⟩ = some x10) (h11 : w.cell? ⟨a.block, a.off + 11, none⟩ = some x11) (h12 : w.cell? ⟨a.block, a.off + 12, none⟩ = some x12) (h13 : w.cell? ⟨a.block, a.off + 13, none⟩ = some x13) (h14 : w.cell? ⟨a.block, a.off + 14, none⟩ = some x14) (h15 : w.cell? ⟨a.block, a.off + 15, none⟩ = some x15) (h16 : w.cell? ⟨a.block, a.off + 16, none⟩ = some x16) (h17 : w.cell? ⟨a.block, a.off + 17, none⟩ = some x17) : (loadVar 92 a).run Tryz.prog w = .ok (.agg #[x0, x1, x2, x3, x4, x5, x6, x7, x8, x9, x10, x11, x12, x13, x14, x15, x16, x17]) w := by
  obtain ⟨d, hu, hd⟩ := und_de
  exact loadVar_wide w _ a [x0, x1, x2, x3, x4, x5, x6, x7, x8, x9, x10, x11, x12, x13, x14, x15, x16, x17] d (fun j v hv => by
    match j, hv with
    | 0, hv => cases hv; exact (by rw [Addr.add, if_pos rfl]; exact h0)
    | 1, hv => cases hv; exact (by rw [add_off _ _ (by decide)]; exact h1)
    | 2, hv => cases hv; exact (by rw [add_off _ _ (by decide)]; exact h2)
    | 3, hv => cases hv; exact (by rw [add_off _ _ (by decide)]; exact h3)
    | 4, hv => cases hv; exact (by rw [add_off _ _ (by decide)]; exact h4)
    | 5, hv => cases hv; exact (by rw [add_off _ _ (by decide)]; exact h5)
    | 6, hv => cases hv; exact (by rw [add_off _ _ (by decide)]; exact h6)
    | 7, hv => cases hv; exact (by rw [add_off _ _ (by decide)]; exact h7)
    | 8, hv => cases hv; exact (by rw [add_off _ _ (by decide)]; exact h8)
    | 9, hv => cases hv; exact (by rw [add_off _ _ (by decide)]; exact h9)
    | 10, hv => cases hv; exact (by rw [add_off _ _ (by decide)]; exact h10)
    | 11, hv => cases hv; exact (by rw [add_off _ _ (by decide)]; exact h11)
    | 12, hv => cases hv; exact (by rw [add_off _ _ (by decide)]; exact h12)
    | 13, hv => cases hv; exact (by rw [add_off _ _ (by decide)]; exact h13)
    | 14, hv => cases hv; exact (by rw [add_off _ _ (by decide)]; exact h14)
    | 15, hv => cases hv; exact (by rw [add_off _ _ (by decide)]; exact h15)
    | 16, hv => cases hv; exact (by rw [add_off _ _ (by decide)]; exact h16)
    | 17, hv => cases hv; exact (by rw [add_off _ _ (by decide)]; exact h17)
    | n + 18, hv => simp at hv) hu hd info_de
end Go.Proofs.YtkdhoelabomgkaaGreatDoor
/-
  Layer 3, the law's side: FewDecls.
-/
namespace Go.Proofs.YtkdhoelabomgkaaGreatDoor
set_option linter.unusedVariables false
open Go.ChangeShapes Go.WideShapes Go.ChangeAt Go.RowKit

set_option maxHeartbeats 16000000 in
set_option maxRecDepth 100000 in
theorem fewD_step (z : Nat) (l : List De) (hz : l ≠ [] → FewZ z) (hl : De.wts l ≤ z + 1) (v : Value) (x : Int) (w : World) (hv : IsDes w Any v l) : Calls Tryz.prog 54 #[v, .int .i64 x] w (Num w) := by
  obtain ⟨ao, cap, rfl, v1, v2⟩ := hv.form
  have hlm : (l.length : Int) ≤ 9223372036854775807 := by unfold maxLen at v2; omega
  have HZ := Lib.hid hz
  have HV := Lib.hid hv
  clear hz hv
  go_enter Tryz.func54, Tryz.ntmps54
  go_wp2
  go_loopw [1, 5, 6, 7, 8] (fun lv iv _ _ _ wr => ∃ (k : Nat) (y : Int), k ≤ l.length ∧ iv = .int .i64 k ∧ lv = .int .i64 y ∧ Below w.heap.size w wr) (fun _ iv _ _ _ _ => l.length - (intOf iv).toNat)
  case atStart => exact ⟨0, x, Nat.zero_le _, rfl, rfl, Below.refl _ _⟩
  case round =>
    obtain ⟨k, y, hk, rfl, rfl, hbw⟩ := hrel
    obtain ⟨w0, e0⟩ : ∃ w0, w0 = wr := ⟨_, rfl⟩
    subst e0
    by_cases hlt : k < l.length
    · have k1 : (k : Int) < l.length := by omega
      by_cases hy : y < 0
      · have q : ¬ (0 : Int) ≤ y := by omega
        clear hy
        go_wp2
        go_ret
        exact ⟨⟨_, rfl⟩, hbw⟩
      have q : (0 : Int) ≤ y := by omega
      obtain ⟨t, ht⟩ : ∃ t, l[k]? = some t := ⟨l[k], List.getElem?_eq_getElem hlt⟩
      have hsz := De.wts_get l k t ht
      obtain ⟨a, rfl, _, hrow⟩ := HV.out.at ht
      have hrow := hrow.on hbw
      obtain ⟨tk, tp, tn, vs, cs, ty, ps, ex⟩ := t
      obtain ⟨yk, yp, yn, yl⟩ := ty
      obtain ⟨ek, ep, en, em, el, eps, eal, eds⟩ := ex
      unfold De.wt at hsz
      obtain ⟨c0, c1, c2, htn, ⟨va, vb, c3, vv1, vv2, hvs⟩, ⟨ca, cb, c4, cc1, cc2, hcs⟩, hty, ⟨pa, pb, c9, _, _, hps⟩, hex⟩ := hrow.cells
      obtain ⟨c5, c6, c7, hyn, ya, yb, c8, _, _, hyl⟩ := hty.cells
      obtain ⟨c10, c11, c12, hen, c13, ⟨a4, b4, c14, _, _, h4⟩, ⟨a5, b5, c15, _, _, h5⟩, ⟨a6, b6, c16, _, _, h6⟩, ⟨a7, b7, c17, _, _, h7⟩⟩ := hex.cells
      rw [add_off _ _ (by decide)] at c5 c6 c7 c8 c10 c11 c12 c13 c14 c15 c16 c17
      simp only [Nat.add_assoc, Nat.reduceAdd] at c5 c6 c7 c8 c10 c11 c12 c13 c14 c15 c16 c17
      obtain ⟨o, ho⟩ : ∃ o : Obj, o = .cells #[.int .i64 tk, .int .i64 tp, .string tn, .slice va vs.length vb, .slice ca cs.length cb, .int .i64 yk, .int .i64 yp, .string yn, .slice ya yl.length yb, .slice pa ps.length pb, .int .i64 ek, .int .i64 ep, .string en, .int .i64 em, .slice a4 el.length b4, .slice a5 eps.length b5, .slice a6 eal.length b6, .slice a7 eds.length b7] 92 := ⟨_, rfl⟩
      have hwt : Ex.wts [.mk ek ep en em el eps eal eds] ≤ z := by unfold Ex.wts Ex.wts; omega
      have HVS := Lib.hid hvs
      have HCS := Lib.hid hcs
      have HYL := Lib.hid hyl
      have HPS := Lib.hid hps
      have H4 := Lib.hid h4
      have H5 := Lib.hid h5
      have H6 := Lib.hid h6
      have H7 := Lib.hid h7
      have hvm : (vs.length : Int) ≤ 9223372036854775807 := by unfold maxLen at vv2; omega
      have hcm : (cs.length : Int) ≤ 9223372036854775807 := by unfold maxLen at cc2; omega
      obtain ⟨hnb0, hnb⟩ := quo_100 tn.size htn
      clear hrow hty hex hvs hcs hyl hps h4 h5 h6 h7 hsz hy
      have hld := load_de w0 (a.add (k * 18)) c0 c1 c2 c3 c4 c5 c6 c7 c8 c9 c10 c11 c12 c13 c14 c15 c16 c17
      have HLD := Lib.hid hld
      have hoc : (#[.int .i64 tk, .int .i64 tp, .string tn, .slice va vs.length vb, .slice ca cs.length cb, .int .i64 yk, .int .i64 yp, .string yn, .slice ya yl.length yb, .slice pa ps.length pb, .int .i64 ek, .int .i64 ep, .string en, .int .i64 em, .slice a4 el.length b4, .slice a5 eps.length b5, .slice a6 eal.length b6, .slice a7 eds.length b7] : Array Value).all (·.oneCell') = true := by simp [Value.oneCell']
      have HOC := Lib.hid hoc
      clear hld hoc c0 c1 c2 c3 c4 c5 c6 c7 c8 c9 c10 c11 c12 c13 c14 c15 c16 c17
      go_upto_region 5 with (first
        | (refine wpList_load_any rfl 92 _ rfl (a.add (k * 18)) rfl #[.int .i64 tk, .int .i64 tp, .string tn, .slice va vs.length vb, .slice ca cs.length cb, .int .i64 yk, .int .i64 yp, .string yn, .slice ya yl.length yb, .slice pa ps.length pb, .int .i64 ek, .int .i64 ep, .string en, .int .i64 em, .slice a4 el.length b4, .slice a5 eps.length b5, .slice a6 eal.length b6, .slice a7 eds.length b7] HLD.out ?_)
        | (refine store_any 92 #[.int .i64 tk, .int .i64 tp, .string tn, .slice va vs.length vb, .slice ca cs.length cb, .int .i64 yk, .int .i64 yp, .string yn, .slice ya yl.length yb, .slice pa ps.length pb, .int .i64 ek, .int .i64 ep, .string en, .int .i64 em, .slice a4 el.length b4, .slice a5 eps.length b5, .slice a6 eal.length b6, .slice a7 eds.length b7] w0.heap.size w0.heap.size _ (heap_alloc_new w0 _) ((Below.refl w0.heap.size w0).alloc (Nat.le_refl _) _) (Nat.le_refl _) info_de rfl HOC.out rfl _ _ rfl rfl rfl ?_; intro wo hwo hbo))
      clear HLD HOC
      have e2 : wo.cell? ⟨w0.heap.size, 2, none⟩ = some (.string tn) := by rw [Lib.cell_of_heap hwo]; rfl
      have e3 : wo.cell? ⟨w0.heap.size, 3, none⟩ = some (.slice va vs.length vb) := by rw [Lib.cell_of_heap hwo]; rfl
      go_upto_block 2 with fail
      rw [← ho] at hwo
      clear e2 e3
      go_cut [1, 7] (fun s1 s7 wx => wo = wx ∧ ∃ y : Int, s1 = .int .i64 y)
      case first =>
        go_wp2_with fail
        go_loopw [1, 7] (fun lv iv wr => ∃ (j : Nat) (y : Int), j ≤ vs.length ∧ iv = .int .i64 j ∧ lv = .int .i64 y ∧ wo = wr) (fun _ iv _ => vs.length - (intOf iv).toNat)
        case atStart => exact ⟨0, _, Nat.zero_le _, rfl, rfl, rfl⟩
        case round =>
        obtain ⟨j2, y2, hj2, rfl, rfl, hww⟩ := hrel
        subst hww
        have e3 : wo.cell? ⟨w0.heap.size, 3, none⟩ = some (.slice va vs.length vb) := by have h9 := hwo; rw [ho] at h9; rw [Lib.cell_of_heap h9]; rfl
        by_cases hjl2 : j2 < vs.length
        · have j1 : (j2 : Int) < vs.length := by omega
          by_cases hy2 : y2 < 0
          · have q : ¬ (0 : Int) ≤ y2 := by omega
            clear hy2
            go_wp2
            go_meet
            exact ⟨rfl, _, rfl⟩
          · have q : (0 : Int) ≤ y2 := by omega
            obtain ⟨s, hs⟩ : ∃ s, vs[j2]? = some s := ⟨vs[j2], List.getElem?_eq_getElem hjl2⟩
            obtain ⟨b, rfl, _, htx⟩ := HVS.out.at hs
            have htx := htx.on hbo
            obtain ⟨d0, d1⟩ := htx.cell
            rw [Nat.mul_one] at d0
            obtain ⟨mb0, mb⟩ := quo_100 s.size d1
            clear hy2 htx hs
            go_wp2
            go_roundw
            case rel => exact ⟨j2 + 1, _, by omega, by go_num, rfl, by trivial⟩
            case measure => simp [intOf]; omega
        · have j1 : ¬ (j2 : Int) < vs.length := by omega
          go_wp2
          go_meet
          exact ⟨rfl, _, rfl⟩
      case rest =>
      obtain ⟨hww, y2, rfl⟩ := hcut
      subst hww
      go_upto_block 4 with fail
      go_cut [1, 8] (fun s1 s8 wx => Hid (∃ n, wx = wo.drewN n) ∧ ∃ y : Int, s1 = .int .i64 y)
      case first =>
        go_wp2_with fail
        go_loopw [1, 8] (fun lv iv wr => ∃ (j : Nat) (y : Int), j ≤ cs.length ∧ iv = .int .i64 j ∧ lv = .int .i64 y ∧ Hid (∃ n, wr = wo.drewN n)) (fun _ iv _ => cs.length - (intOf iv).toNat)
        case atStart => exact ⟨0, _, Nat.zero_le _, rfl, rfl, Lib.hid ⟨0, rfl⟩⟩
        case round =>
        obtain ⟨j, y, hj, rfl, rfl, HW⟩ := hrel
        have hwq : wr.heap[w0.heap.size]? = some o := by obtain ⟨n, e⟩ := HW.out; rw [e]; exact hwo
        have hbw2 : Below w0.heap.size w0 wr := by obtain ⟨n, e⟩ := HW.out; rw [e]; exact hbo.trans ((drew_below wo n).mono hbo.size)
        have e4 : wr.cell? ⟨w0.heap.size, 4, none⟩ = some (.slice ca cs.length cb) := by have h9 := hwq; rw [ho] at h9; rw [Lib.cell_of_heap h9]; rfl
        by_cases hjl : j < cs.length
        · have j1 : (j : Int) < cs.length := by omega
          by_cases hy : y < 0
          · have q : ¬ (0 : Int) ≤ y := by omega
            clear hy
            go_wp2
            go_meet
            exact ⟨HW, _, rfl⟩
          · have q : (0 : Int) ≤ y := by omega
            obtain ⟨c, hc⟩ : ∃ c, cs[j]? = some c := ⟨cs[j], List.getElem?_eq_getElem hjl⟩
            obtain ⟨b, rfl, _, hco⟩ := HCS.out.at hc
            have hco := hco.on hbw2
            obtain ⟨d0, d1, d1', da, db, d2, _, _, hca⟩ := hco.cells
            have HCA := Lib.hid hca
            obtain ⟨hnb0, hnb⟩ := quo_100 c.name.size d1'
            clear hy hco hca hc
            go_wp2
            have hcall := Lib.hid fun m => fewT_any _ c.args (Nat.le_refl _) (.slice da c.args.length db) (wrap64 (wrap64 (y - 1) - (c.name.size : Int) / 100)) (wr.drewN m) (HCA.out.on (drew_below wr m))
            go_quiet ((go_at_call 7; exact Calls.quiet_of (hcall.out _)))
            go_wp2
            go_roundw
            case rel => exact ⟨j + 1, _, by omega, by go_num, rfl, Lib.hid (by obtain ⟨n, e⟩ := HW.out; exact ⟨n + nq, by rw [e, World.drewN_drewN]⟩)⟩
            case measure => simp [intOf]; omega
        · have j1 : ¬ (j : Int) < cs.length := by omega
          go_wp2
          go_meet
          exact ⟨HW, _, rfl⟩
      case rest =>
      obtain ⟨HW, y, rfl⟩ := hcut
      have hwq : wc.heap[w0.heap.size]? = some o := by obtain ⟨n, e⟩ := HW.out; rw [e]; exact hwo
      have hbw2 : Below w0.heap.size w0 wc := by obtain ⟨n, e⟩ := HW.out; rw [e]; exact hbo.trans ((drew_below wo n).mono hbo.size)
      clear HW hwo hbo
      have hO5 : wc.heap[w0.heap.size]? = some o := hwq
      subst ho
      have g5 : wc.cell? ⟨w0.heap.size, 5, none⟩ = some (.int .i64 yk) := by rw [Lib.cell_of_heap hO5]; rfl
      have g6 : wc.cell? ⟨w0.heap.size, 6, none⟩ = some (.int .i64 yp) := by rw [Lib.cell_of_heap hO5]; rfl
      have g7 : wc.cell? ⟨w0.heap.size, 7, none⟩ = some (.string yn) := by rw [Lib.cell_of_heap hO5]; rfl
      have g8 : wc.cell? ⟨w0.heap.size, 8, none⟩ = some (.slice ya yl.length yb) := by rw [Lib.cell_of_heap hO5]; rfl
      have hL1 : (wc.alloc (.cells #[.int .i64 yk, .int .i64 yp, .string yn, .slice ya yl.length yb] 24)).heap[wc.heap.size]? = some (.cells #[.int .i64 yk, .int .i64 yp, .string yn, .slice ya yl.length yb] 24) := heap_alloc_new wc _
      have hbq := (Below.refl wc.heap.size wc).alloc (Nat.le_refl _) (.cells #[.int .i64 yk, .int .i64 yp, .string yn, .slice ya yl.length yb] 24)
      have hT1 := ty_lit hL1 hyn ((HYL.out.on hbw2).on hbq)
      go_wp2_with fail
      refine (fewT_num _ _ _ _ hT1).mono ?_
      rintro e w3 ⟨⟨r1, rfl⟩, hc1⟩
      have hO6 := (hc1.block _ (by have := heap_lt hO5; simp; omega)).trans ((hbq.block _ (heap_lt hO5)).trans hO5)
      have g9 : w3.cell? ⟨w0.heap.size, 9, none⟩ = some (.slice pa ps.length pb) := by rw [Lib.cell_of_heap hO6]; rfl
      have hb3 := hbw2.trans ((hbq.trans (hc1.mono hbq.size)).mono hbw2.size)
      go_wp2_with fail
      refine (fewP_num ps _ _ _ (HPS.out.on hb3)).mono ?_
      rintro e w4 ⟨⟨r2, rfl⟩, hc2⟩
      have hO7 := (hc2.block _ (heap_lt hO6)).trans hO6
      have hb4 := hb3.trans (hc2.mono hb3.size)
      have t0 : w4.cell? ⟨w0.heap.size, 10, none⟩ = some (.int .i64 ek) := by rw [Lib.cell_of_heap hO7]; rfl
      have t1 : w4.cell? ⟨w0.heap.size, 11, none⟩ = some (.int .i64 ep) := by rw [Lib.cell_of_heap hO7]; rfl
      have t2 : w4.cell? ⟨w0.heap.size, 12, none⟩ = some (.string en) := by rw [Lib.cell_of_heap hO7]; rfl
      have t3 : w4.cell? ⟨w0.heap.size, 13, none⟩ = some (.int .i64 em) := by rw [Lib.cell_of_heap hO7]; rfl
      have t4 : w4.cell? ⟨w0.heap.size, 14, none⟩ = some (.slice a4 el.length b4) := by rw [Lib.cell_of_heap hO7]; rfl
      have t5 : w4.cell? ⟨w0.heap.size, 15, none⟩ = some (.slice a5 eps.length b5) := by rw [Lib.cell_of_heap hO7]; rfl
      have t6 : w4.cell? ⟨w0.heap.size, 16, none⟩ = some (.slice a6 eal.length b6) := by rw [Lib.cell_of_heap hO7]; rfl
      have t7 : w4.cell? ⟨w0.heap.size, 17, none⟩ = some (.slice a7 eds.length b7) := by rw [Lib.cell_of_heap hO7]; rfl
      obtain ⟨oE, hoE⟩ : ∃ o : Obj, o = .cells #[.int .i64 ek, .int .i64 ep, .string en, .int .i64 em, .slice a4 el.length b4, .slice a5 eps.length b5, .slice a6 eal.length b6, .slice a7 eds.length b7] 32 := ⟨_, rfl⟩
      have hL2 := heap_alloc_new w4 oE
      have hbe := (Below.refl w4.heap.size w4).alloc (Nat.le_refl _) oE
      have hb5 := hb4.trans (hbe.mono hb4.size)
      subst hoE
      have hE1 := ex_lit hL2 hen (H4.out.on hb5) (H5.out.on hb5) (H6.out.on hb5) (H7.out.on hb5)
      go_wp2_with fail
      refine ((HZ.out (ne_nil hlt)).ex _ hwt _ _ _ hE1).mono ?_
      rintro e w5 ⟨⟨r3, rfl⟩, hc3⟩
      have hb6 := hb5.trans (hc3.mono hb5.size)
      go_wp2
      go_roundw
      case rel => exact ⟨k + 1, _, by omega, by go_num, rfl, hbw.trans (hb6.mono hbw.size)⟩
      case measure => simp [intOf]; omega
    · have k1 : ¬ (k : Int) < l.length := by omega
      go_wp2
      go_ret
      exact ⟨⟨_, rfl⟩, hbw⟩
end Go.Proofs.YtkdhoelabomgkaaGreatDoor
