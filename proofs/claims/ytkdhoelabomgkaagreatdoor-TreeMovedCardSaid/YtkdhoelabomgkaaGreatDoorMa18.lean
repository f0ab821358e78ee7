/- Texts of this proof, joined: FewB, OwnEM, PFin, Count. No condition. -/
import Derived.Test.YtkdhoelabomgkaaGreatDoorMa17
import Derived.Test.YtkdhoelabomgkaaGreatDoorMa10
import Derived.Test.YtkdhoelabomgkaaGreatDoorMa16
/-
  Layer 3, the law's side: fewAlts.
-/
namespace Go.Proofs.YtkdhoelabomgkaaGreatDoor
set_option linter.unusedVariables false
open Go.ChangeShapes Go.WideShapes Go.ChangeAt Go.RowKit

theorem bl_drewN {w W : World} (n : Nat) (h : Below w.heap.size w W) : Below w.heap.size w (W.drewN n) := h.trans ((drew_below W n).mono h.size)
theorem bl_drew {w W : World} (h : Below w.heap.size w W) : Below w.heap.size w W.drew := bl_drewN 1 h
theorem bl_alloc {w W : World} (o : Obj) (h : Below w.heap.size w W) : Below w.heap.size w (W.alloc o) := h.alloc h.size o
theorem at_alloc {W : World} {k : Nat} {o : Obj} (h : k = W.heap.size) : (W.alloc o).heap[k]? = some o := by subst h; exact heap_alloc_new W o
theorem at_keep {W : World} {k : Nat} {o x : Obj} (h : W.heap[k]? = some x) : (W.alloc o).heap[k]? = some x := by have := heap_lt h; show (W.heap.push o)[k]? = some x; rw [Array.getElem?_push, if_neg (Nat.ne_of_lt this)]; exact h
theorem at_drewN {W : World} {k : Nat} {x : Obj} (n : Nat) (h : W.heap[k]? = some x) : (W.drewN n).heap[k]? = some x := ((drew_below W n).block _ (heap_lt h)).trans h
theorem at_drew {W : World} {k : Nat} {x : Obj} (h : W.heap[k]? = some x) : W.drew.heap[k]? = some x := at_drewN 1 h

set_option maxHeartbeats 8000000 in
set_option maxRecDepth 100000 in
theorem fewA_step (z : Nat) (l : List Al) (hz : l ≠ [] → FewZ z) (hl : Al.wts l ≤ z + 1) (v : Value) (x : Int) (w : World) (hv : IsAls w Any v l) : Calls Tryz.prog 53 #[v, .int .i64 x] w (Num w) := by
  obtain ⟨ao, cap, rfl, v1, v2⟩ := hv.form
  have hlm : (l.length : Int) ≤ 9223372036854775807 := by unfold maxLen at v2; omega
  have HZ := Lib.hid hz
  have HV := Lib.hid hv
  clear hz hv
  go_enter Tryz.func53, Tryz.ntmps53
  go_wp2
  go_loopw [1, 5] (fun lv iv wr => ∃ (k : Nat) (y : Int), k ≤ l.length ∧ iv = .int .i64 k ∧ lv = .int .i64 y ∧ Below w.heap.size w wr) (fun _ iv _ => l.length - (intOf iv).toNat)
  case atStart => exact ⟨0, x, Nat.zero_le _, rfl, rfl, Below.refl _ _⟩
  case round =>
    obtain ⟨k, y, hk, rfl, rfl, hbw⟩ := hrel
    by_cases hlt : k < l.length
    · have k1 : (k : Int) < l.length := by omega
      by_cases hy : y < 0
      · have q : ¬ (0 : Int) ≤ y := by omega
        clear hy
        go_wp2
        go_ret
        exact ⟨⟨_, rfl⟩, hbw⟩
      have q : (0 : Int) ≤ y := by omega
      obtain ⟨t, ht⟩ : ∃ t, l[k]? = some t := ⟨l[k], List.getElem?_eq_getElem hlt⟩
      have hsz := Al.wts_get l k t ht
      obtain ⟨a, rfl, _, hrow⟩ := HV.out.at ht
      have hrow := hrow.on hbw
      obtain ⟨tp, te⟩ := t
      obtain ⟨pk, pp, pn, pm, pl⟩ := tp
      obtain ⟨ek, ep, en, em, el, eps, eal, eds⟩ := te
      unfold Al.wt at hsz
      obtain ⟨hpa, hex⟩ := hrow.parts
      obtain ⟨c0, c1, c2, hpn, c3, ⟨pa, pb, c4, _, _, hpl⟩⟩ := hpa.cells
      obtain ⟨c5, c6, c7, hen, c8, ⟨a4, b4, c9, _, _, h4⟩, ⟨a5, b5, c10, _, _, h5⟩, ⟨a6, b6, c11, _, _, h6⟩, ⟨a7, b7, c12, _, _, h7⟩⟩ := hex.cells
      rw [add_off _ _ (by decide)] at c5 c6 c7 c8 c9 c10 c11 c12
      simp only [Nat.add_assoc, Nat.reduceAdd] at c6 c7 c8 c9 c10 c11 c12
      have hwt : Ex.wts [.mk ek ep en em el eps eal eds] ≤ z := by unfold Ex.wts Ex.wts; omega
      have HPL := Lib.hid hpl
      have H4 := Lib.hid h4
      have H5 := Lib.hid h5
      have H6 := Lib.hid h6
      have H7 := Lib.hid h7
      clear hrow hpa hex hpl h4 h5 h6 h7 hsz hy
      go_upto_block 1 with fail
      go_cut [1] (fun s1 wx => (∃ y : Int, s1 = .int .i64 y) ∧ Below wr.heap.size wr wx)
      case first =>
        go_upto_region 4 with fail
        go_region_held3 (fun V => V.cell? (a.add (k * 13)) = some (.int .i64 pk) ∧ V.cell? ⟨(a.add (k * 13)).block, (a.add (k * 13)).off + 1, none⟩ = some (.int .i64 pp) ∧ V.cell? ⟨(a.add (k * 13)).block, (a.add (k * 13)).off + 2, none⟩ = some (.string pn) ∧ V.cell? ⟨(a.add (k * 13)).block, (a.add (k * 13)).off + 3, none⟩ = some (.int .i64 pm) ∧ V.cell? ⟨(a.add (k * 13)).block, (a.add (k * 13)).off + 4, none⟩ = some (.slice pa pl.length pb)
          ∧ V.cell? ⟨(a.add (k * 13)).block, (a.add (k * 13)).off + 5, none⟩ = some (.int .i64 ek) ∧ V.cell? ⟨(a.add (k * 13)).block, (a.add (k * 13)).off + 6, none⟩ = some (.int .i64 ep) ∧ V.cell? ⟨(a.add (k * 13)).block, (a.add (k * 13)).off + 7, none⟩ = some (.string en) ∧ V.cell? ⟨(a.add (k * 13)).block, (a.add (k * 13)).off + 8, none⟩ = some (.int .i64 em)
          ∧ V.cell? ⟨(a.add (k * 13)).block, (a.add (k * 13)).off + 9, none⟩ = some (.slice a4 el.length b4) ∧ V.cell? ⟨(a.add (k * 13)).block, (a.add (k * 13)).off + 10, none⟩ = some (.slice a5 eps.length b5) ∧ V.cell? ⟨(a.add (k * 13)).block, (a.add (k * 13)).off + 11, none⟩ = some (.slice a6 eal.length b6) ∧ V.cell? ⟨(a.add (k * 13)).block, (a.add (k * 13)).off + 12, none⟩ = some (.slice a7 eds.length b7))
          (first | go_keep | exact ⟨(hc5.cell (Lib.lt_of_cell c0)).trans c0, (hc5.cell (Lib.lt_of_cell c1)).trans c1, (hc5.cell (Lib.lt_of_cell c2)).trans c2, (hc5.cell (Lib.lt_of_cell c3)).trans c3, (hc5.cell (Lib.lt_of_cell c4)).trans c4, (hc5.cell (Lib.lt_of_cell c5)).trans c5, (hc5.cell (Lib.lt_of_cell c6)).trans c6, (hc5.cell (Lib.lt_of_cell c7)).trans c7, (hc5.cell (Lib.lt_of_cell c8)).trans c8, (hc5.cell (Lib.lt_of_cell c9)).trans c9, (hc5.cell (Lib.lt_of_cell c10)).trans c10, (hc5.cell (Lib.lt_of_cell c11)).trans c11, (hc5.cell (Lib.lt_of_cell c12)).trans c12⟩)
          (first
            | (go_at_call 52; refine (fewP_any _ [.mk pk pp pn pm pl] (Nat.le_refl _) _ _ _ (pa_lit (by repeat (first | exact at_alloc (by simp) | refine at_drew ?_ | refine at_drewN _ ?_ | refine at_keep ?_)) hpn (HPL.out.on (by repeat (first | exact Below.refl _ _ | refine bl_drew ?_ | refine bl_drewN _ ?_ | refine bl_alloc _ ?_))))).mono ?_; rintro e w' ⟨rfl, n, rfl⟩)
            | (go_at_call 32; refine ((HZ.out (ne_nil hlt)).ex [.mk ek ep en em el eps eal eds] hwt _ _ _ (ex_lit (by repeat (first | exact at_alloc (by simp) | refine at_drew ?_ | refine at_drewN _ ?_ | refine at_keep ?_)) hen (H4.out.on (by repeat (first | exact Below.refl _ _ | refine bl_drew ?_ | refine bl_drewN _ ?_ | refine bl_alloc _ ?_))) (H5.out.on (by repeat (first | exact Below.refl _ _ | refine bl_drew ?_ | refine bl_drewN _ ?_ | refine bl_alloc _ ?_))) (H6.out.on (by repeat (first | exact Below.refl _ _ | refine bl_drew ?_ | refine bl_drewN _ ?_ | refine bl_alloc _ ?_))) (H7.out.on (by repeat (first | exact Below.refl _ _ | refine bl_drew ?_ | refine bl_drewN _ ?_ | refine bl_alloc _ ?_))))).mono ?_; rintro e w5 ⟨⟨r5, rfl⟩, hc5⟩; replace hc5 := (show Below wr.heap.size wr _ from (by repeat (first | exact Below.refl _ _ | refine bl_drew ?_ | refine bl_drewN _ ?_ | refine bl_alloc _ ?_))).trans (hc5.mono (Below.size (by repeat (first | exact Below.refl _ _ | refine bl_drew ?_ | refine bl_drewN _ ?_ | refine bl_alloc _ ?_))))))
        all_goals (go_wp2_with fail; go_meet; exact ⟨⟨_, rfl⟩, hc5⟩)
      case rest =>
      obtain ⟨⟨y2, rfl⟩, hb5⟩ := hcut
      clear c0 c1 c2 c3 c4 c5 c6 c7 c8 c9 c10 c11 c12
      go_wp2
      go_roundw
      case rel => exact ⟨k + 1, _, by omega, by go_num, rfl, hbw.trans (hb5.mono hbw.size)⟩
      case measure => simp [intOf]; omega
    · have k1 : ¬ (k : Int) < l.length := by omega
      go_wp2
      go_ret
      exact ⟨⟨_, rfl⟩, hbw⟩
end Go.Proofs.YtkdhoelabomgkaaGreatDoor
/-
  Layer 3, the law's side: rows that are gathered while a block beside them is written; expressions, ways, declarations as values. No walk.
-/
namespace Go.Proofs.YtkdhoelabomgkaaGreatDoor
set_option linter.unusedVariables false
open Go.ChangeShapes Go.WideShapes Go.ChangeAt Go.RowKit

theorem owns_move {w w' : World} {B : Nat} {e : TypeId} {s : Nat} {v : Value} {n : Nat} {xs : List Value} (h : w.ownsRow B e s v n xs) (hs : ∀ b, B ≤ b → b < w.heap.size → w'.heap[b]? = w.heap[b]?) : w'.ownsRow B e s v n xs := by
  have hlt := h.lt
  refine ⟨h.1, ?_⟩
  rcases h.2 with h2 | ⟨g, cap, cur, hv, h3, h4, h5⟩
  · exact .inl h2
  · have hg := hlt g (by rw [hv]; rfl)
    exact .inr ⟨g, cap, cur, hv, h3, (hs g hg.1 hg.2).trans h4, h5⟩
theorem owns_form {w : World} {B : Nat} {e : TypeId} {s : Nat} {v : Value} {n : Nat} {xs : List Value} (h : w.ownsRow B e s v n xs) : ∃ ao cap, v = .slice ao n cap := by
  rcases h.2 with ⟨h1, h2⟩ | ⟨g, cap, cur, hv, _⟩
  · subst h2
    exact ⟨none, 0, h1⟩
  · exact ⟨_, cap, hv⟩
theorem Gath.move {α : Type} {f : α → List Dt} {sz B : Nat} {w w' : World} {v : Value} {l : List α} {k : Nat} {vals : List Value} (h : Gath f sz B w v l k vals) (hs : ∀ b, B ≤ b → b < w.heap.size → w'.heap[b]? = w.heap[b]?) (hz : w'.heap.size = w.heap.size) : Gath f sz B w' v l k vals := fun j t hj ht => by
  obtain ⟨us, u1, u2, u3⟩ := h j t hj ht
  refine ⟨us, ?_, u2, u3⟩
  rw [hz]
  exact IsVs.stay (fun b hP hb => hs b hP.1.1 hb) _ _ u1
/-- an expression's cells as values -/
theorem ex_vs {P : Nat → Prop} {w : World} {k p m : Int} {n : ByteArray} {l : List Ex} {ps : List Pa} {al : List Al} {ds : List De} {vs : List Value} (h : IsVs w P (Ex.row (.mk k p n m l ps al ds)) vs) :
    n.size ≤ maxLen ∧ ∃ (a4 a5 a6 a7 : Option Addr) (b4 b5 b6 b7 : Nat), vs = [.int .i64 k, .int .i64 p, .string n, .int .i64 m, .slice a4 l.length b4, .slice a5 ps.length b5, .slice a6 al.length b6, .slice a7 ds.length b7] ∧ IsExs w P (.slice a4 l.length b4) l ∧ IsPas w P (.slice a5 ps.length b5) ps ∧ IsAls w P (.slice a6 al.length b6) al ∧ IsDes w P (.slice a7 ds.length b7) ds := by
  unfold Ex.row at h
  obtain ⟨v0, t0, rfl, h0, h⟩ := h
  obtain ⟨v1, t1, rfl, h1, h⟩ := h
  obtain ⟨v2, t2, rfl, h2, h⟩ := h
  obtain ⟨v3, t3, rfl, h3, h⟩ := h
  obtain ⟨v4, t4, rfl, h4, h⟩ := h
  obtain ⟨v5, t5, rfl, h5, h⟩ := h
  obtain ⟨v6, t6, rfl, h6, h⟩ := h
  obtain ⟨v7, t7, rfl, h7, h⟩ := h
  have h : t7 = [] := h
  subst h
  rw [Ex.rows_map] at h4
  rw [Pa.rows_map] at h5
  rw [Al.rows_map] at h6
  rw [De.rows_map] at h7
  unfold IsC at h0 h1 h2 h3
  obtain ⟨h2, h2'⟩ := h2
  subst h0 h1 h2 h3
  obtain ⟨a4, b4, rfl, _, _⟩ := IsExs.form ⟨h4⟩
  obtain ⟨a5, b5, rfl, _, _⟩ := IsPas.form ⟨h5⟩
  obtain ⟨a6, b6, rfl, _, _⟩ := IsAls.form ⟨h6⟩
  obtain ⟨a7, b7, rfl, _, _⟩ := IsDes.form ⟨h7⟩
  exact ⟨h2', a4, a5, a6, a7, b4, b5, b6, b7, rfl, ⟨h4⟩, ⟨h5⟩, ⟨h6⟩, ⟨h7⟩⟩
theorem ex_vs_mk {P : Nat → Prop} {w : World} {k p m : Int} {n : ByteArray} {l : List Ex} {ps : List Pa} {al : List Al} {ds : List De} {v4 v5 v6 v7 : Value} (hn : n.size ≤ maxLen) (h4 : IsExs w P v4 l) (h5 : IsPas w P v5 ps) (h6 : IsAls w P v6 al) (h7 : IsDes w P v7 ds) :
    IsVs w P (Ex.row (.mk k p n m l ps al ds)) [.int .i64 k, .int .i64 p, .string n, .int .i64 m, v4, v5, v6, v7] := by
  unfold Ex.row
  exact ⟨_, _, rfl, (by unfold IsC; rfl), _, _, rfl, (by unfold IsC; rfl), _, _, rfl, (by unfold IsC; exact ⟨rfl, hn⟩), _, _, rfl, (by unfold IsC; rfl), _, _, rfl, (by rw [Ex.rows_map]; exact h4.out), _, _, rfl, (by rw [Pa.rows_map]; exact h5.out), _, _, rfl, (by rw [Al.rows_map]; exact h6.out), _, _, rfl, (by rw [De.rows_map]; exact h7.out), rfl⟩
theorem pa_vs_mk {P : Nat → Prop} {w : World} {k p m : Int} {n : ByteArray} {l : List Pa} {v4 : Value} (hn : n.size ≤ maxLen) (h4 : IsPas w P v4 l) :
    IsVs w P (Pa.row (.mk k p n m l)) [.int .i64 k, .int .i64 p, .string n, .int .i64 m, v4] := by
  unfold Pa.row
  exact ⟨_, _, rfl, (by unfold IsC; rfl), _, _, rfl, (by unfold IsC; rfl), _, _, rfl, (by unfold IsC; exact ⟨rfl, hn⟩), _, _, rfl, (by unfold IsC; rfl), _, _, rfl, (by rw [Pa.rows_map]; exact h4.out), rfl⟩
theorem IsVs.join {P : Nat → Prop} {w : World} : ∀ (r1 r2 : List Dt) (v1 v2 : List Value), IsVs w P r1 v1 → IsVs w P r2 v2 → IsVs w P (r1 ++ r2) (v1 ++ v2)
  | [], r2, v1, v2, h1, h2 => by have h1 : v1 = [] := h1; subst h1; exact h2
  | d :: r, r2, v1, v2, h1, h2 => by
    obtain ⟨v, t, rfl, h3, h4⟩ := h1
    exact ⟨v, t ++ v2, rfl, h3, IsVs.join r r2 t v2 h4 h2⟩
theorem info_ex : (Tryz.prog.info? 53).map (fun i => (i.zero, i.size, i.bytes)) = some (some (.agg #[.int .i64 0, .int .i64 0, .string ⟨#[]⟩, .int .i64 0, .slice none 0 0, .slice none 0 0, .slice none 0 0, .slice none 0 0]), 8, 136) := by kernel_rfl
theorem info_al : (Tryz.prog.info? 86).map (fun i => (i.zero, i.size, i.bytes)) = some (some (.agg #[.int .i64 0, .int .i64 0, .string ⟨#[]⟩, .int .i64 0, .slice none 0 0, .int .i64 0, .int .i64 0, .string ⟨#[]⟩, .int .i64 0, .slice none 0 0, .slice none 0 0, .slice none 0 0, .slice none 0 0]), 13, 200) := by kernel_rfl
/-- the cells of a block that was just laid -/
theorem cells_new (W : World) (cs : List Value) (t : TypeId) : ∀ j u, cs[j]? = some u → (W.alloc (.cells cs.toArray t)).cell? ((⟨W.heap.size, 0, none⟩ : Addr).add j) = some u := by
  intro j u hj
  have h := heap_alloc_new W (.cells cs.toArray t (0, 0))
  by_cases hj0 : j = 0
  · subst hj0
    rw [add_zero2, Lib.cell_of_heap h]
    simpa using hj
  · rw [add_off _ _ hj0, Lib.cell_of_heap h]
    simpa using hj
/-- an expression as the program's -/
def OwnE (t : Ex) : Prop := ∀ (P : Nat → Prop) (vs : List Value) (w : World), IsVs w P t.row vs →
  Calls Tryz.prog 16 #[.agg vs.toArray] w fun e w' => ∃ vs', e = .returned (.agg vs'.toArray) ∧ IsVs w' (Own w w') t.row vs' ∧ Below w.heap.size w w'
end Go.Proofs.YtkdhoelabomgkaaGreatDoor
/-
  Layer 3, the program's side: SameType, SamePat, SameExpr, SameDecls, of trees one of which is not deep.
-/
namespace Go.Proofs.YtkdhoelabomgkaaGreatDoor
set_option linter.unusedVariables false
open Go.ChangeShapes Go.WideShapes Go.ChangeAt Go.RowKit

set_option maxHeartbeats 800000 in
set_option maxRecDepth 100000 in
/-- nothing was put off -/
theorem finish_any (g : Nat) (w : World) (hg : w.heap[g]? = some (.cells #[.slice none 0 0] 103 (0, 0))) :
    Calls Tryz.prog 44 #[.pointer (some ⟨g, 0, none⟩)] w fun e w' => e = .returned (.bool true) ∧ w' = w := by
  have c0 : w.cell? ⟨g, 0, none⟩ = some (.slice none 0 0) := by rw [Lib.cell_of_heap hg]; rfl
  clear hg
  go_enter Tryz.func44, Tryz.ntmps44
  go_wp2
  go_loop [] (True) (0)
  case atStart => trivial
  case round =>
    go_wp2
    go_ret
    exact ⟨rfl, rfl⟩
theorem row_at {P : Nat → Prop} {w : World} {r : List Dt} {vs : List Value} {N : Nat} {T : TypeId} (hv : IsVs w P r vs) (h : w.heap[N]? = some (.cells vs.toArray T (0, 0))) : IsRow w P r ⟨N, 0, none⟩ := by
  refine IsRow.of_vals _ _ vs hv fun j u hj => ?_
  by_cases hj0 : j = 0
  · subst hj0
    rw [add_zero2, Lib.cell_of_heap h]
    simpa using hj
  · rw [add_off _ _ hj0, Lib.cell_of_heap h]
    simpa using hj
/-- a type's, a pattern's cells as values -/
theorem ty_vs {P : Nat → Prop} {w : World} {k p : Int} {n : ByteArray} {l : List Ty} {vs : List Value} (h : IsVs w P (Ty.row (.mk k p n l)) vs) : ∃ (a : Option Addr) (b : Nat), vs = [.int .i64 k, .int .i64 p, .string n, .slice a l.length b] ∧ n.size ≤ maxLen ∧ IsTys w P (.slice a l.length b) l := by
  unfold Ty.row at h
  obtain ⟨v0, t0, rfl, h0, h⟩ := h
  obtain ⟨v1, t1, rfl, h1, h⟩ := h
  obtain ⟨v2, t2, rfl, h2, h⟩ := h
  obtain ⟨v3, t3, rfl, h3, h⟩ := h
  have h : t3 = [] := h
  subst h
  unfold IsC at h0 h1 h2
  obtain ⟨h2, h2'⟩ := h2
  subst h0 h1 h2
  obtain ⟨a, b, rfl, _, _⟩ := IsTys.form ⟨h3⟩
  exact ⟨a, b, rfl, h2', ⟨h3⟩⟩
theorem pa_vs {P : Nat → Prop} {w : World} {k p m : Int} {n : ByteArray} {l : List Pa} {vs : List Value} (h : IsVs w P (Pa.row (.mk k p n m l)) vs) : ∃ (a : Option Addr) (b : Nat), vs = [.int .i64 k, .int .i64 p, .string n, .int .i64 m, .slice a l.length b] ∧ n.size ≤ maxLen ∧ IsPas w P (.slice a l.length b) l := by
  unfold Pa.row at h
  obtain ⟨v0, t0, rfl, h0, h⟩ := h
  obtain ⟨v1, t1, rfl, h1, h⟩ := h
  obtain ⟨v2, t2, rfl, h2, h⟩ := h
  obtain ⟨v3, t3, rfl, h3, h⟩ := h
  obtain ⟨v4, t4, rfl, h4, h⟩ := h
  have h : t4 = [] := h
  subst h
  rw [Pa.rows_map] at h4
  unfold IsC at h0 h1 h2 h3
  obtain ⟨h2, h2'⟩ := h2
  subst h0 h1 h2 h3
  obtain ⟨a, b, rfl, _, _⟩ := IsPas.form ⟨h4⟩
  exact ⟨a, b, rfl, h2', ⟨h4⟩⟩
set_option maxHeartbeats 1600000 in
set_option maxRecDepth 100000 in
theorem sameE_any (t u : Ex) (hn : t.nd ≤ 400 ∨ u.nd ≤ 400) (P Q : Nat → Prop) (vs us : List Value) (w : World) (hvs : IsVs w P t.row vs) (hus : IsVs w Q u.row us) :
    Calls Tryz.prog 25 #[.agg vs.toArray, .agg us.toArray] w fun e w' => e = .returned (.bool (t.same u)) ∧ Below w.heap.size w w' := by
  obtain ⟨o4, ho4⟩ : ∃ o : Obj, o = .cells vs.toArray 53 := ⟨_, rfl⟩
  obtain ⟨o5, ho5⟩ : ∃ o : Obj, o = .cells us.toArray 53 := ⟨_, rfl⟩
  obtain ⟨o6, ho6⟩ : ∃ o : Obj, o = .cells #[.slice none 0 0] 103 := ⟨_, rfl⟩
  obtain ⟨hbW, g4, g5, g6⟩ := three_boxes w o4 o5 o6
  have HW := Lib.hid (And.intro g4 (And.intro g5 g6))
  clear g4 g5 g6
  obtain ⟨tk, tp, tn, tm, tl, tps, tal, tds⟩ := t
  obtain ⟨uk, up, un, um, ul, ups, ual, uds⟩ := u
  obtain ⟨_, a4, a5, a6, a7, b4, b5, b6, b7, rfl, _⟩ := ex_vs hvs
  obtain ⟨_, r4, r5, r6, r7, s4, s5, s6, s7, rfl, _⟩ := ex_vs hus
  have HV := Lib.hid hvs
  have HU := Lib.hid hus
  clear hvs hus
  go_enter Tryz.func25, Tryz.ntmps25
  go_wp2_with fail
  rw [← ho4, ← ho5, ← ho6]
  generalize ((w.alloc o4).alloc o5).alloc o6 = W at hbW HW ⊢
  obtain ⟨g4, g5, g6⟩ := HW.out
  subst ho4 ho5
  refine (ex_same ⟨w.heap.size + 1 + 1, 0, none⟩ 400 1 _ _ (by omega) (by omega) hn P Q _ _ W ⟨row_at (IsVs.on hbW _ _ HV.out) g4⟩ ⟨row_at (IsVs.on hbW _ _ HU.out) g5⟩).mono ?_
  rintro e w1 ⟨rfl, hb1⟩
  have g7 := (hb1.block _ (heap_lt g6)).trans g6
  rw [ho6] at g7
  have HG := Lib.hid g7
  clear g4 g5 g6 g7 HW
  cases hb : Ex.same (.mk tk tp tn tm tl tps tal tds) (.mk uk up un um ul ups ual uds)
  · go_wp2_with fail
    go_ret
    exact ⟨by rw [hb]; rfl, hbW.trans (hb1.mono hbW.size)⟩
  · go_wp2_with fail
    refine (finish_any _ _ HG.out).mono ?_
    rintro e w2 ⟨rfl, rfl⟩
    go_wp2
    go_ret
    exact ⟨by rw [hb]; rfl, hbW.trans (hb1.mono hbW.size)⟩
set_option maxHeartbeats 1600000 in
set_option maxRecDepth 100000 in
theorem sameT_any (t u : Ty) (hn : t.nd ≤ 400 ∨ u.nd ≤ 400) (P Q : Nat → Prop) (vs us : List Value) (w : World) (hvs : IsVs w P t.row vs) (hus : IsVs w Q u.row us) :
    Calls Tryz.prog 23 #[.agg vs.toArray, .agg us.toArray] w fun e w' => e = .returned (.bool (t.same u)) ∧ Below w.heap.size w w' := by
  obtain ⟨o4, ho4⟩ : ∃ o : Obj, o = .cells vs.toArray 39 := ⟨_, rfl⟩
  obtain ⟨o5, ho5⟩ : ∃ o : Obj, o = .cells us.toArray 39 := ⟨_, rfl⟩
  obtain ⟨o6, ho6⟩ : ∃ o : Obj, o = .cells #[.slice none 0 0] 103 := ⟨_, rfl⟩
  obtain ⟨hbW, g4, g5, g6⟩ := three_boxes w o4 o5 o6
  have HW := Lib.hid (And.intro g4 (And.intro g5 g6))
  clear g4 g5 g6
  obtain ⟨tk, tp, tn, tl⟩ := t
  obtain ⟨uk, up, un, ul⟩ := u
  obtain ⟨a4, b4, rfl, _⟩ := ty_vs hvs
  obtain ⟨r4, s4, rfl, _⟩ := ty_vs hus
  have HV := Lib.hid hvs
  have HU := Lib.hid hus
  clear hvs hus
  go_enter Tryz.func23, Tryz.ntmps23
  go_wp2_with fail
  rw [← ho4, ← ho5, ← ho6]
  generalize ((w.alloc o4).alloc o5).alloc o6 = W at hbW HW ⊢
  obtain ⟨g4, g5, g6⟩ := HW.out
  subst ho4 ho5
  refine (ty_same ⟨w.heap.size + 1 + 1, 0, none⟩ 400 1 _ _ (by omega) (by omega) hn P Q _ _ W ⟨row_at (IsVs.on hbW _ _ HV.out) g4⟩ ⟨row_at (IsVs.on hbW _ _ HU.out) g5⟩).mono ?_
  rintro e w1 ⟨rfl, hb1⟩
  have g7 := (hb1.block _ (heap_lt g6)).trans g6
  rw [ho6] at g7
  have HG := Lib.hid g7
  clear g4 g5 g6 g7 HW
  cases hb : Ty.same (.mk tk tp tn tl) (.mk uk up un ul)
  · go_wp2_with fail
    go_ret
    exact ⟨by rw [hb]; rfl, hbW.trans (hb1.mono hbW.size)⟩
  · go_wp2_with fail
    refine (finish_any _ _ HG.out).mono ?_
    rintro e w2 ⟨rfl, rfl⟩
    go_wp2
    go_ret
    exact ⟨by rw [hb]; rfl, hbW.trans (hb1.mono hbW.size)⟩
set_option maxHeartbeats 1600000 in
set_option maxRecDepth 100000 in
theorem sameP_any (t u : Pa) (hn : t.nd ≤ 400 ∨ u.nd ≤ 400) (P Q : Nat → Prop) (vs us : List Value) (w : World) (hvs : IsVs w P t.row vs) (hus : IsVs w Q u.row us) :
    Calls Tryz.prog 21 #[.agg vs.toArray, .agg us.toArray] w fun e w' => e = .returned (.bool (t.same u)) ∧ Below w.heap.size w w' := by
  obtain ⟨o4, ho4⟩ : ∃ o : Obj, o = .cells vs.toArray 45 := ⟨_, rfl⟩
  obtain ⟨o5, ho5⟩ : ∃ o : Obj, o = .cells us.toArray 45 := ⟨_, rfl⟩
  obtain ⟨o6, ho6⟩ : ∃ o : Obj, o = .cells #[.slice none 0 0] 103 := ⟨_, rfl⟩
  obtain ⟨hbW, g4, g5, g6⟩ := three_boxes w o4 o5 o6
  have HW := Lib.hid (And.intro g4 (And.intro g5 g6))
  clear g4 g5 g6
  obtain ⟨tk, tp, tn, tm, tl⟩ := t
  obtain ⟨uk, up, un, um, ul⟩ := u
  obtain ⟨a4, b4, rfl, _⟩ := pa_vs hvs
  obtain ⟨r4, s4, rfl, _⟩ := pa_vs hus
  have HV := Lib.hid hvs
  have HU := Lib.hid hus
  clear hvs hus
  go_enter Tryz.func21, Tryz.ntmps21
  go_wp2_with fail
  rw [← ho4, ← ho5, ← ho6]
  generalize ((w.alloc o4).alloc o5).alloc o6 = W at hbW HW ⊢
  obtain ⟨g4, g5, g6⟩ := HW.out
  subst ho4 ho5
  refine (pa_same ⟨w.heap.size + 1 + 1, 0, none⟩ 400 1 _ _ (by omega) (by omega) hn P Q _ _ W ⟨row_at (IsVs.on hbW _ _ HV.out) g4⟩ ⟨row_at (IsVs.on hbW _ _ HU.out) g5⟩).mono ?_
  rintro e w1 ⟨rfl, hb1⟩
  have g7 := (hb1.block _ (heap_lt g6)).trans g6
  rw [ho6] at g7
  have HG := Lib.hid g7
  clear g4 g5 g6 g7 HW
  cases hb : Pa.same (.mk tk tp tn tm tl) (.mk uk up un um ul)
  · go_wp2_with fail
    go_ret
    exact ⟨by rw [hb]; rfl, hbW.trans (hb1.mono hbW.size)⟩
  · go_wp2_with fail
    refine (finish_any _ _ HG.out).mono ?_
    rintro e w2 ⟨rfl, rfl⟩
    go_wp2
    go_ret
    exact ⟨by rw [hb]; rfl, hbW.trans (hb1.mono hbW.size)⟩
theorem de_same (h : Addr) (n : Nat) (lev : Int) (d d' : De) (h0 : 0 ≤ lev) (h4 : lev + n ≤ 401) (hn : d.nd ≤ n ∨ d'.nd ≤ n) : HoldsD h lev d d' := by
  obtain ⟨d1, d2, d3, d4, d5, d6, d7, d8⟩ := d
  obtain ⟨e1, e2, e3, e4, e5, e6, e7, e8⟩ := d'
  unfold De.nd at hn
  exact de_holds h lev _ _
    (fun k x y hx hy => cons_step h lev x y fun i p q hp hq => ty_same h n lev p q h0 h4 (by
      have hx : d5[k]? = some x := hx
      have hy : e5[k]? = some y := hy
      have := Co.nds_get d5 k x hx
      have := Co.nds_get e5 k y hy
      have := Ty.nds_get x.args i p hp
      have := Ty.nds_get y.args i q hq
      omega))
    (ty_same h n lev d6 e6 h0 h4 (by omega))
    (fun k x y hx hy => pa_same h n lev x y h0 h4 (by
      have hx : d7[k]? = some x := hx
      have hy : e7[k]? = some y := hy
      have := Pa.nds_get d7 k x hx
      have := Pa.nds_get e7 k y hy
      omega))
    (ex_same h n lev d8 e8 h0 h4 (by omega))
set_option maxHeartbeats 1600000 in
set_option maxRecDepth 100000 in
theorem sameDs_any (l m : List De) (hn : De.nds l ≤ 400 ∨ De.nds m ≤ 400) (P Q : Nat → Prop) (v v' : Value) (w : World) (hv : IsDes w P v l) (hv' : IsDes w Q v' m) :
    Calls Tryz.prog 27 #[v, v'] w fun e w' => e = .returned (.bool (De.sames l m)) ∧ Below w.heap.size w w' := by
  obtain ⟨ao, cap, rfl, v1, v2⟩ := hv.form
  obtain ⟨bo, cap2, rfl, u1, u2⟩ := hv'.form
  obtain ⟨o6, ho6⟩ : ∃ o : Obj, o = .cells #[.slice none 0 0] 103 := ⟨_, rfl⟩
  have hbW := (Below.refl w.heap.size w).alloc (Nat.le_refl _) o6
  have g6 := heap_alloc_new w o6
  have HV := Lib.hid (hv.on hbW)
  have HU := Lib.hid (hv'.on hbW)
  clear hv hv'
  go_enter Tryz.func27, Tryz.ntmps27
  go_wp2_with fail
  rw [← ho6]
  generalize w.alloc o6 = W at hbW g6 HV HU ⊢
  refine (listD ⟨w.heap.size, 0, none⟩ 1 l m (fun k t u ht hu => de_same _ 400 1 t u (by omega) (by omega) (by have := De.nds_get l k t ht; have := De.nds_get m k u hu; omega)) P Q _ _ W HV.out HU.out).mono ?_
  rintro e w1 ⟨rfl, hb1⟩
  have g7 := (hb1.block _ (heap_lt g6)).trans g6
  rw [ho6] at g7
  have HG := Lib.hid g7
  clear g6 g7
  cases hb : De.sames l m
  · go_wp2_with fail
    go_ret
    exact ⟨by rw [hb]; rfl, hbW.trans (hb1.mono hbW.size)⟩
  · go_wp2_with fail
    refine (finish_any _ _ HG.out).mono ?_
    rintro e w2 ⟨rfl, rfl⟩
    go_wp2
    go_ret
    exact ⟨by rw [hb]; rfl, hbW.trans (hb1.mono hbW.size)⟩
end Go.Proofs.YtkdhoelabomgkaaGreatDoor
/-
  Layer 3, the program's side: Size, Deep of trees of fewer than four hundred parts (nothing is put off).
-/
namespace Go.Proofs.YtkdhoelabomgkaaGreatDoor
set_option linter.unusedVariables false
open Go.ChangeShapes Go.WideShapes Go.ChangeAt Go.RowKit

-- how many expressions; the greatest level, from a level on, beside one so far
mutual
def Ex.sz : Ex → Nat
  | .mk _ _ _ _ l _ al ds => Ex.szs l + Al.szs al + De.szs ds + 1
def Ex.szs : List Ex → Nat
  | [] => 0
  | t :: r => t.sz + Ex.szs r
def Al.szs : List Al → Nat
  | [] => 0
  | .mk _ e :: r => e.sz + Al.szs r
def De.szs : List De → Nat
  | [] => 0
  | .mk k _ _ _ _ _ _ e :: r => (if k = 3 then e.sz else 0) + De.szs r
end
mutual
def Ex.dm : Ex → Int → Int → Int
  | .mk _ _ _ _ l _ al ds, lev, d => De.dms ds (lev + 1) (Al.dms al (lev + 1) (Ex.dms l (lev + 1) (max d lev)))
def Ex.dms : List Ex → Int → Int → Int
  | [], _, d => d
  | t :: r, lev, d => Ex.dms r lev (t.dm lev d)
def Al.dms : List Al → Int → Int → Int
  | [], _, d => d
  | .mk _ e :: r, lev, d => Al.dms r lev (e.dm lev d)
def De.dms : List De → Int → Int → Int
  | [], _, d => d
  | .mk k _ _ _ _ _ _ e :: r, lev, d => De.dms r lev (if k = 3 then e.dm lev d else d)
end
mutual
theorem Ex.sz_nd : ∀ t : Ex, t.sz ≤ t.nd
  | .mk _ _ _ _ l ps al ds => by
    unfold Ex.sz Ex.nd
    have := Ex.szs_nds l
    have := Al.szs_nds al
    have := De.szs_nds ds
    omega
theorem Ex.szs_nds : ∀ l : List Ex, Ex.szs l ≤ Ex.nds l
  | [] => Nat.zero_le _
  | t :: r => by unfold Ex.szs Ex.nds; have := Ex.sz_nd t; have := Ex.szs_nds r; omega
theorem Al.szs_nds : ∀ l : List Al, Al.szs l ≤ Al.nds l
  | [] => Nat.zero_le _
  | .mk p e :: r => by unfold Al.szs Al.nds Al.nd; have := Ex.sz_nd e; have := Al.szs_nds r; omega
theorem De.szs_nds : ∀ l : List De, De.szs l ≤ De.nds l
  | [] => Nat.zero_le _
  | .mk k p n vs cs t ps e :: r => by unfold De.szs De.nds De.nd; have := Ex.sz_nd e; have := De.szs_nds r; split <;> omega
end
theorem Ex.szs_at : ∀ (l : List Ex) (k : Nat) (t : Ex), l[k]? = some t → ∀ lev d, Ex.szs (l.take (k + 1)) = Ex.szs (l.take k) + t.sz ∧ Ex.dms (l.take (k + 1)) lev d = t.dm lev (Ex.dms (l.take k) lev d)
  | [], k, t, h, lev, d => by simp at h
  | x :: r, 0, t, h, lev, d => by simp at h; subst h; simp [Ex.szs, Ex.dms]
  | x :: r, k + 1, t, h, lev, d => by
    have := Ex.szs_at r k t (by simpa using h) lev (x.dm lev d)
    rw [List.take_succ_cons, List.take_succ_cons]
    unfold Ex.szs Ex.dms
    rw [this.1, this.2]
    exact ⟨by omega, rfl⟩
theorem Al.szs_at : ∀ (l : List Al) (k : Nat) (p : Pa) (e : Ex), l[k]? = some (.mk p e) → ∀ lev d, Al.szs (l.take (k + 1)) = Al.szs (l.take k) + e.sz ∧ Al.dms (l.take (k + 1)) lev d = e.dm lev (Al.dms (l.take k) lev d)
  | [], k, p, e, h, lev, d => by simp at h
  | x :: r, 0, p, e, h, lev, d => by simp at h; subst h; simp [Al.szs, Al.dms]
  | .mk q f :: r, k + 1, p, e, h, lev, d => by
    have := Al.szs_at r k p e (by simpa using h) lev (f.dm lev d)
    rw [List.take_succ_cons, List.take_succ_cons]
    unfold Al.szs Al.dms
    rw [this.1, this.2]
    exact ⟨by omega, rfl⟩
theorem De.szs_at : ∀ (l : List De) (i : Nat) (k p : Int) (n : ByteArray) (vs : List ByteArray) (cs : List Co) (t : Ty) (ps : List Pa) (e : Ex), l[i]? = some (.mk k p n vs cs t ps e) → ∀ lev d, De.szs (l.take (i + 1)) = De.szs (l.take i) + (if k = 3 then e.sz else 0) ∧ De.dms (l.take (i + 1)) lev d = (if k = 3 then e.dm lev (De.dms (l.take i) lev d) else De.dms (l.take i) lev d)
  | [], i, k, p, n, vs, cs, t, ps, e, h, lev, d => by simp at h
  | x :: r, 0, k, p, n, vs, cs, t, ps, e, h, lev, d => by simp at h; subst h; simp [De.szs, De.dms]
  | .mk k' p' n' vs' cs' t' ps' f :: r, i + 1, k, p, n, vs, cs, t, ps, e, h, lev, d => by
    have := De.szs_at r i k p n vs cs t ps e (by simpa using h) lev (if k' = 3 then f.dm lev d else d)
    rw [List.take_succ_cons, List.take_succ_cons]
    unfold De.szs De.dms
    rw [this.1, this.2]
    exact ⟨by omega, rfl⟩
/-- one block alone has changed -/
structure Turned (C : Nat) (cs : Array Value) (T : TypeId) (w w' : World) : Prop where
  at_ : w'.heap[C]? = some (.cells cs T (0, 0))
  other : ∀ j : Nat, j ≠ C → w'.heap[j]? = w.heap[j]?
  rest : w'.heap.size = w.heap.size ∧ w'.os = w.os ∧ w'.tape = w.tape ∧ w'.output = w.output
theorem Turned.trans {C : Nat} {cs cs' : Array Value} {T : TypeId} {w w1 w2 : World} (h : Turned C cs T w w1) (h2 : Turned C cs' T w1 w2) : Turned C cs' T w w2 :=
  ⟨h2.at_, fun j hj => (h2.other j hj).trans (h.other j hj), h2.rest.1.trans h.rest.1, h2.rest.2.1.trans h.rest.2.1, h2.rest.2.2.1.trans h.rest.2.2.1, h2.rest.2.2.2.trans h.rest.2.2.2⟩
theorem Turned.cell {C : Nat} {cs : Array Value} {T : TypeId} {w w' : World} (h : Turned C cs T w w') {A : Addr} (hA : A.block ≠ C) {v : Value} (hv : w.cell? A = some v) : w'.cell? A = some v := by
  rw [← hv]
  exact World.cell?_of_block (h.other A.block hA)
/-- the counter's cells: size, deep, later -/
def cnt (s d : Int) (lv : Value) : Array Value := #[.int .i64 s, .int .i64 d, lv]
/-- an expression is counted -/
def Adds (f : Nat) (e : Ex) (lev : Int) : Prop := ∀ (C : Nat) (a : Addr) (w : World) (s d : Int) (lv : Value), a.block ≠ C → IsEx w (fun b => b ≠ C) a e → w.heap[C]? = some (.cells (cnt s d lv) 113 (0, 0)) → 0 ≤ s → s + e.sz ≤ 1000000 →
  Calls Tryz.prog f #[.pointer (some ⟨C, 0, none⟩), .pointer (some a), .int .i64 lev] w fun e' w' => e' = .returned (.tuple #[]) ∧ Turned C (cnt (s + e.sz) (e.dm lev d) lv) 113 w w'
set_option maxHeartbeats 800000 in
set_option maxRecDepth 100000 in
theorem part_of_add (e : Ex) (lev : Int) (h0 : 1 ≤ lev) (h4 : lev ≤ 399) (ha : Adds 93 e lev) : Adds 109 e lev := by
  intro C a w s d lv hC he hc hs hs2
  have HA := Lib.hid (ha C a w s d lv hC he hc hs hs2)
  have hm : lev % 400 = lev := Int.emod_eq_of_lt (by omega) (by omega)
  have q1 : (lev % 400 == 0) = false := by rw [beq_eq_false_iff_ne, hm]; omega
  clear ha he hc hm
  go_enter Tryz.func109, Tryz.ntmps109
  go_wp2_with fail
  refine HA.out.mono ?_
  rintro e' w' ⟨rfl, hT⟩
  go_wp2
  go_end0
  exact ⟨rfl, hT⟩
end Go.Proofs.YtkdhoelabomgkaaGreatDoor
