/- Texts of this proof, joined: RSameD, RSameDs. No condition. -/
import Derived.Test.YtdiffpiapdghoaaGreatDoorRa26
import Derived.Test.YtdiffpiapdghoaaGreatDoorRa25
/-
  Layer 3, the document's side: sameDecl, given how the bodies are held against each other.
-/
namespace Go.Proofs.YtdiffpiapdghoaaGreatDoor
set_option linter.unusedVariables false
open Go.ChangeShapes Go.WideShapes Go.ChangeAt Go.RowKit

theorem IsVs.cut {P : Nat → Prop} {w : World} : ∀ (r1 r2 : List Dt) (vs : List Value), IsVs w P (r1 ++ r2) vs → ∃ v1 v2, vs = v1 ++ v2 ∧ IsVs w P r1 v1 ∧ IsVs w P r2 v2
  | [], r2, vs, h => ⟨[], vs, rfl, rfl, h⟩
  | d :: r, r2, vs, h => by
    obtain ⟨v, t, rfl, h1, h2⟩ := h
    obtain ⟨v1, v2, rfl, h3, h4⟩ := IsVs.cut r r2 t h2
    exact ⟨v :: v1, v2, rfl, ⟨v, v1, rfl, h1, h3⟩, h4⟩
/-- a declaration's cells as values -/
theorem de_vs {P : Nat → Prop} {w : World} {k p yk yp ek ep em : Int} {n yn en : ByteArray} {vs : List ByteArray} {cs : List Co} {yl : List Ty} {ps eps : List Pa} {el : List Ex} {eal : List Al} {eds : List De} {l : List Value} (h : IsVs w P (De.row (.mk k p n vs cs (.mk yk yp yn yl) ps (.mk ek ep en em el eps eal eds))) l) :
    n.size ≤ maxLen ∧ ∃ (va : Option Addr) (vb : Nat) (ca : Option Addr) (cb : Nat) (ya : Option Addr) (yb : Nat) (pa : Option Addr) (pb : Nat) (a4 a5 a6 a7 : Option Addr) (b4 b5 b6 b7 : Nat), l = [.int .i64 k, .int .i64 p, .string n, .slice va vs.length vb, .slice ca cs.length cb, .int .i64 yk, .int .i64 yp, .string yn, .slice ya yl.length yb, .slice pa ps.length pb, .int .i64 ek, .int .i64 ep, .string en, .int .i64 em, .slice a4 el.length b4, .slice a5 eps.length b5, .slice a6 eal.length b6, .slice a7 eds.length b7] ∧
      IsTxs w P (.slice va vs.length vb) vs ∧ IsCos w P (.slice ca cs.length cb) cs ∧ IsVs w P (Ty.row (.mk yk yp yn yl)) [.int .i64 yk, .int .i64 yp, .string yn, .slice ya yl.length yb] ∧ IsPas w P (.slice pa ps.length pb) ps ∧ IsVs w P (Ex.row (.mk ek ep en em el eps eal eds)) [.int .i64 ek, .int .i64 ep, .string en, .int .i64 em, .slice a4 el.length b4, .slice a5 eps.length b5, .slice a6 eal.length b6, .slice a7 eds.length b7] := by
  unfold De.row at h
  obtain ⟨u1, u2, rfl, h1, h2⟩ := IsVs.cut _ _ _ h
  obtain ⟨u3, u4, rfl, h3, h4⟩ := IsVs.cut _ _ _ h2
  obtain ⟨v9, u5, rfl, h9, h10⟩ := h4
  obtain ⟨ya, yb, rfl, _, _⟩ := ty_vs h3
  obtain ⟨_, a4, a5, a6, a7, b4, b5, b6, b7, rfl, _⟩ := ex_vs h10
  obtain ⟨v0, t0, rfl, g0, h1⟩ := h1
  obtain ⟨v1, t1, rfl, g1, h1⟩ := h1
  obtain ⟨v2, t2, rfl, g2, h1⟩ := h1
  obtain ⟨v3, t3, rfl, g3, h1⟩ := h1
  obtain ⟨v4, t4, rfl, g4, h1⟩ := h1
  have h1 : t4 = [] := h1
  subst h1
  rw [Pa.rows_map] at h9
  unfold IsC at g0 g1 g2
  obtain ⟨g2, g2'⟩ := g2
  subst g0 g1 g2
  obtain ⟨va, vb, rfl, _, _⟩ := IsTxs.form ⟨g3⟩
  obtain ⟨ca, cb, rfl, _, _⟩ := IsCos.form ⟨g4⟩
  obtain ⟨pa, pb, rfl, _, _⟩ := IsPas.form ⟨h9⟩
  exact ⟨g2', va, vb, ca, cb, ya, yb, pa, pb, a4, a5, a6, a7, b4, b5, b6, b7, rfl, ⟨g3⟩, ⟨g4⟩, h3, ⟨h9⟩, h10⟩
/-- expressions held against each other by the document -/
def RSameE (t u : Ex) : Prop := ∀ (P Q : Nat → Prop) (vs us : List Value) (w : World), IsVs w P t.row vs → IsVs w Q u.row us →
  Calls Tryz.prog 26 #[.agg vs.toArray, .agg us.toArray] w fun e w' => e = .returned (.bool (t.same u)) ∧ Below w.heap.size w w'
set_option maxHeartbeats 8000000 in
set_option maxRecDepth 100000 in
theorem rsameD_step (t u : De) (hE : RSameE t.body' u.body') (P Q : Nat → Prop) (vs us : List Value) (w : World) (hvs : IsVs w P t.row vs) (hus : IsVs w Q u.row us) :
    Calls Tryz.prog 50 #[.agg vs.toArray, .agg us.toArray] w fun e w' => e = .returned (.bool (t.same u)) ∧ Below w.heap.size w w' := by
  obtain ⟨o4, ho4⟩ : ∃ o : Obj, o = .cells vs.toArray 92 := ⟨_, rfl⟩
  obtain ⟨o5, ho5⟩ : ∃ o : Obj, o = .cells us.toArray 92 := ⟨_, rfl⟩
  have hbW := ((Below.refl w.heap.size w).alloc (Nat.le_refl _) o4).alloc (by simp) o5
  have g4 : ((w.alloc o4).alloc o5).heap[w.heap.size]? = some o4 := (Below.heap_alloc _ _ _ (by simp)).trans (heap_alloc_new w o4)
  have g5 : ((w.alloc o4).alloc o5).heap[w.heap.size + 1]? = some o5 := by
    have := heap_alloc_new (w.alloc o4) o5
    rwa [show (w.alloc o4).heap.size = w.heap.size + 1 by simp] at this
  obtain ⟨xk, xp, xn, xvs, xcs, ⟨xyk, xyp, xyn, xyl⟩, xps, ⟨xek, xep, xen, xem, xel, xeps, xeal, xeds⟩⟩ := t
  obtain ⟨yk, yp, yn, yvs, ycs, ⟨yyk, yyp, yyn, yyl⟩, yps, ⟨yek, yep, yen, yem, yel, yeps, yeal, yeds⟩⟩ := u
  obtain ⟨xn', xva, xvb, xca, xcb, xya, xyb, xpa, xpb, xa4, xa5, xa6, xa7, xb4, xb5, xb6, xb7, xrf, xH3, xH4, xH5, xH9, xH10⟩ := de_vs (IsVs.on hbW _ _ hvs)
  obtain ⟨yn', yva, yvb, yca, ycb, yya, yyb, ypa, ypb, ya4, ya5, ya6, ya7, yb4, yb5, yb6, yb7, yrf, yH3, yH4, yH5, yH9, yH10⟩ := de_vs (IsVs.on hbW _ _ hus)
  subst xrf yrf
  have XH3 := Lib.hid xH3
  have XH4 := Lib.hid xH4
  have XH5 := Lib.hid xH5
  have XH9 := Lib.hid xH9
  have XH10 := Lib.hid xH10
  have YH3 := Lib.hid yH3
  have YH4 := Lib.hid yH4
  have YH5 := Lib.hid yH5
  have YH9 := Lib.hid yH9
  have YH10 := Lib.hid yH10
  have HE := Lib.hid hE
  have hxl : (xvs.length : Int) ≤ 9223372036854775807 := by obtain ⟨_, _, e, _, h⟩ := xH3.form; injection e with _ _ e3; unfold maxLen at h; omega
  clear xH3 xH4 xH5 xH9 xH10 yH3 yH4 yH5 yH9 yH10 hE hvs hus
  have hsame : De.same (.mk xk xp xn xvs xcs (.mk xyk xyp xyn xyl) xps (.mk xek xep xen xem xel xeps xeal xeds)) (.mk yk yp yn yvs ycs (.mk yyk yyp yyn yyl) yps (.mk yek yep yen yem yel yeps yeal yeds)) = (xk == yk && (xn.data.toList == yn.data.toList && (Tx.sames xvs yvs && (Co.sames xcs ycs && (Ty.same (.mk xyk xyp xyn xyl) (.mk yyk yyp yyn yyl) && (Pa.sames xps yps && Ex.same (.mk xek xep xen xem xel xeps xeal xeds) (.mk yek yep yen yem yel yeps yeal yeds)))))) ) := by unfold De.same; rfl
  have HS := Lib.hid hsame
  clear hsame
  go_enter Tryz.func50, Tryz.ntmps50
  go_upto_region 1 with fail
  rw [← ho4, ← ho5]
  generalize (w.alloc o4).alloc o5 = W at hbW g4 g5 XH3 XH4 XH5 XH9 XH10 YH3 YH4 YH5 YH9 YH10 ⊢
  subst ho4 ho5
  have c0 : W.cell? ⟨w.heap.size, 0, none⟩ = some (.int .i64 xk) := by rw [Lib.cell_of_heap g4]; rfl
  have d0 : W.cell? ⟨w.heap.size + 1, 0, none⟩ = some (.int .i64 yk) := by rw [Lib.cell_of_heap g5]; rfl
  have c2 : W.cell? ⟨w.heap.size, 2, none⟩ = some (.string xn) := by rw [Lib.cell_of_heap g4]; rfl
  have d2 : W.cell? ⟨w.heap.size + 1, 2, none⟩ = some (.string yn) := by rw [Lib.cell_of_heap g5]; rfl
  have c3 : W.cell? ⟨w.heap.size, 3, none⟩ = some (.slice xva xvs.length xvb) := by rw [Lib.cell_of_heap g4]; rfl
  have d3 : W.cell? ⟨w.heap.size + 1, 3, none⟩ = some (.slice yva yvs.length yvb) := by rw [Lib.cell_of_heap g5]; rfl
  have c4 : W.cell? ⟨w.heap.size, 4, none⟩ = some (.slice xca xcs.length xcb) := by rw [Lib.cell_of_heap g4]; rfl
  have d4 : W.cell? ⟨w.heap.size + 1, 4, none⟩ = some (.slice yca ycs.length ycb) := by rw [Lib.cell_of_heap g5]; rfl
  have c5 : W.cell? ⟨w.heap.size, 5, none⟩ = some (.int .i64 xyk) := by rw [Lib.cell_of_heap g4]; rfl
  have d5 : W.cell? ⟨w.heap.size + 1, 5, none⟩ = some (.int .i64 yyk) := by rw [Lib.cell_of_heap g5]; rfl
  have c6 : W.cell? ⟨w.heap.size, 6, none⟩ = some (.int .i64 xyp) := by rw [Lib.cell_of_heap g4]; rfl
  have d6 : W.cell? ⟨w.heap.size + 1, 6, none⟩ = some (.int .i64 yyp) := by rw [Lib.cell_of_heap g5]; rfl
  have c7 : W.cell? ⟨w.heap.size, 7, none⟩ = some (.string xyn) := by rw [Lib.cell_of_heap g4]; rfl
  have d7 : W.cell? ⟨w.heap.size + 1, 7, none⟩ = some (.string yyn) := by rw [Lib.cell_of_heap g5]; rfl
  have c8 : W.cell? ⟨w.heap.size, 8, none⟩ = some (.slice xya xyl.length xyb) := by rw [Lib.cell_of_heap g4]; rfl
  have d8 : W.cell? ⟨w.heap.size + 1, 8, none⟩ = some (.slice yya yyl.length yyb) := by rw [Lib.cell_of_heap g5]; rfl
  have c9 : W.cell? ⟨w.heap.size, 9, none⟩ = some (.slice xpa xps.length xpb) := by rw [Lib.cell_of_heap g4]; rfl
  have d9 : W.cell? ⟨w.heap.size + 1, 9, none⟩ = some (.slice ypa yps.length ypb) := by rw [Lib.cell_of_heap g5]; rfl
  have c10 : W.cell? ⟨w.heap.size, 10, none⟩ = some (.int .i64 xek) := by rw [Lib.cell_of_heap g4]; rfl
  have d10 : W.cell? ⟨w.heap.size + 1, 10, none⟩ = some (.int .i64 yek) := by rw [Lib.cell_of_heap g5]; rfl
  have c11 : W.cell? ⟨w.heap.size, 11, none⟩ = some (.int .i64 xep) := by rw [Lib.cell_of_heap g4]; rfl
  have d11 : W.cell? ⟨w.heap.size + 1, 11, none⟩ = some (.int .i64 yep) := by rw [Lib.cell_of_heap g5]; rfl
  have c12 : W.cell? ⟨w.heap.size, 12, none⟩ = some (.string xen) := by rw [Lib.cell_of_heap g4]; rfl
  have d12 : W.cell? ⟨w.heap.size + 1, 12, none⟩ = some (.string yen) := by rw [Lib.cell_of_heap g5]; rfl
  have c13 : W.cell? ⟨w.heap.size, 13, none⟩ = some (.int .i64 xem) := by rw [Lib.cell_of_heap g4]; rfl
  have d13 : W.cell? ⟨w.heap.size + 1, 13, none⟩ = some (.int .i64 yem) := by rw [Lib.cell_of_heap g5]; rfl
  have c14 : W.cell? ⟨w.heap.size, 14, none⟩ = some (.slice xa4 xel.length xb4) := by rw [Lib.cell_of_heap g4]; rfl
  have d14 : W.cell? ⟨w.heap.size + 1, 14, none⟩ = some (.slice ya4 yel.length yb4) := by rw [Lib.cell_of_heap g5]; rfl
  have c15 : W.cell? ⟨w.heap.size, 15, none⟩ = some (.slice xa5 xeps.length xb5) := by rw [Lib.cell_of_heap g4]; rfl
  have d15 : W.cell? ⟨w.heap.size + 1, 15, none⟩ = some (.slice ya5 yeps.length yb5) := by rw [Lib.cell_of_heap g5]; rfl
  have c16 : W.cell? ⟨w.heap.size, 16, none⟩ = some (.slice xa6 xeal.length xb6) := by rw [Lib.cell_of_heap g4]; rfl
  have d16 : W.cell? ⟨w.heap.size + 1, 16, none⟩ = some (.slice ya6 yeal.length yb6) := by rw [Lib.cell_of_heap g5]; rfl
  have c17 : W.cell? ⟨w.heap.size, 17, none⟩ = some (.slice xa7 xeds.length xb7) := by rw [Lib.cell_of_heap g4]; rfl
  have d17 : W.cell? ⟨w.heap.size + 1, 17, none⟩ = some (.slice ya7 yeds.length yb7) := by rw [Lib.cell_of_heap g5]; rfl
  have HF : Hid (∀ V : World, Below W.heap.size W V → V.cell? ⟨w.heap.size, 0, none⟩ = some (.int .i64 xk) ∧ V.cell? ⟨w.heap.size, 2, none⟩ = some (.string xn) ∧ V.cell? ⟨w.heap.size, 3, none⟩ = some (.slice xva xvs.length xvb) ∧ V.cell? ⟨w.heap.size, 4, none⟩ = some (.slice xca xcs.length xcb) ∧ V.cell? ⟨w.heap.size, 5, none⟩ = some (.int .i64 xyk) ∧ V.cell? ⟨w.heap.size, 6, none⟩ = some (.int .i64 xyp) ∧ V.cell? ⟨w.heap.size, 7, none⟩ = some (.string xyn) ∧ V.cell? ⟨w.heap.size, 8, none⟩ = some (.slice xya xyl.length xyb) ∧ V.cell? ⟨w.heap.size, 9, none⟩ = some (.slice xpa xps.length xpb) ∧ V.cell? ⟨w.heap.size, 10, none⟩ = some (.int .i64 xek) ∧ V.cell? ⟨w.heap.size, 11, none⟩ = some (.int .i64 xep) ∧ V.cell? ⟨w.heap.size, 12, none⟩ = some (.string xen) ∧ V.cell? ⟨w.heap.size, 13, none⟩ = some (.int .i64 xem) ∧ V.cell? ⟨w.heap.size, 14, none⟩ = some (.slice xa4 xel.length xb4) ∧ V.cell? ⟨w.heap.size, 15, none⟩ = some (.slice xa5 xeps.length xb5) ∧ V.cell? ⟨w.heap.size, 16, none⟩ = some (.slice xa6 xeal.length xb6) ∧ V.cell? ⟨w.heap.size, 17, none⟩ = some (.slice xa7 xeds.length xb7) ∧ V.cell? ⟨w.heap.size + 1, 0, none⟩ = some (.int .i64 yk) ∧ V.cell? ⟨w.heap.size + 1, 2, none⟩ = some (.string yn) ∧ V.cell? ⟨w.heap.size + 1, 3, none⟩ = some (.slice yva yvs.length yvb) ∧ V.cell? ⟨w.heap.size + 1, 4, none⟩ = some (.slice yca ycs.length ycb) ∧ V.cell? ⟨w.heap.size + 1, 5, none⟩ = some (.int .i64 yyk) ∧ V.cell? ⟨w.heap.size + 1, 6, none⟩ = some (.int .i64 yyp) ∧ V.cell? ⟨w.heap.size + 1, 7, none⟩ = some (.string yyn) ∧ V.cell? ⟨w.heap.size + 1, 8, none⟩ = some (.slice yya yyl.length yyb) ∧ V.cell? ⟨w.heap.size + 1, 9, none⟩ = some (.slice ypa yps.length ypb) ∧ V.cell? ⟨w.heap.size + 1, 10, none⟩ = some (.int .i64 yek) ∧ V.cell? ⟨w.heap.size + 1, 11, none⟩ = some (.int .i64 yep) ∧ V.cell? ⟨w.heap.size + 1, 12, none⟩ = some (.string yen) ∧ V.cell? ⟨w.heap.size + 1, 13, none⟩ = some (.int .i64 yem) ∧ V.cell? ⟨w.heap.size + 1, 14, none⟩ = some (.slice ya4 yel.length yb4) ∧ V.cell? ⟨w.heap.size + 1, 15, none⟩ = some (.slice ya5 yeps.length yb5) ∧ V.cell? ⟨w.heap.size + 1, 16, none⟩ = some (.slice ya6 yeal.length yb6) ∧ V.cell? ⟨w.heap.size + 1, 17, none⟩ = some (.slice ya7 yeds.length yb7)) := Lib.hid (fun V hV => ⟨(hV.cell (Lib.lt_of_cell c0)).trans c0, (hV.cell (Lib.lt_of_cell c2)).trans c2, (hV.cell (Lib.lt_of_cell c3)).trans c3, (hV.cell (Lib.lt_of_cell c4)).trans c4, (hV.cell (Lib.lt_of_cell c5)).trans c5, (hV.cell (Lib.lt_of_cell c6)).trans c6, (hV.cell (Lib.lt_of_cell c7)).trans c7, (hV.cell (Lib.lt_of_cell c8)).trans c8, (hV.cell (Lib.lt_of_cell c9)).trans c9, (hV.cell (Lib.lt_of_cell c10)).trans c10, (hV.cell (Lib.lt_of_cell c11)).trans c11, (hV.cell (Lib.lt_of_cell c12)).trans c12, (hV.cell (Lib.lt_of_cell c13)).trans c13, (hV.cell (Lib.lt_of_cell c14)).trans c14, (hV.cell (Lib.lt_of_cell c15)).trans c15, (hV.cell (Lib.lt_of_cell c16)).trans c16, (hV.cell (Lib.lt_of_cell c17)).trans c17, (hV.cell (Lib.lt_of_cell d0)).trans d0, (hV.cell (Lib.lt_of_cell d2)).trans d2, (hV.cell (Lib.lt_of_cell d3)).trans d3, (hV.cell (Lib.lt_of_cell d4)).trans d4, (hV.cell (Lib.lt_of_cell d5)).trans d5, (hV.cell (Lib.lt_of_cell d6)).trans d6, (hV.cell (Lib.lt_of_cell d7)).trans d7, (hV.cell (Lib.lt_of_cell d8)).trans d8, (hV.cell (Lib.lt_of_cell d9)).trans d9, (hV.cell (Lib.lt_of_cell d10)).trans d10, (hV.cell (Lib.lt_of_cell d11)).trans d11, (hV.cell (Lib.lt_of_cell d12)).trans d12, (hV.cell (Lib.lt_of_cell d13)).trans d13, (hV.cell (Lib.lt_of_cell d14)).trans d14, (hV.cell (Lib.lt_of_cell d15)).trans d15, (hV.cell (Lib.lt_of_cell d16)).trans d16, (hV.cell (Lib.lt_of_cell d17)).trans d17⟩)
  clear g4 g5
  by_cases hk : xk = yk
  · have q1 : (xk == yk) = true := by rw [beq_iff_eq]; exact hk
    by_cases hn : xn = yn
    · subst hn
      by_cases hl : xvs.length = yvs.length
      · have q3 : ((xvs.length : Int) != yvs.length) = false := by rw [bne_eq_false_iff_eq]; omega
        have HLn := Lib.hid hl
        have HK := Lib.hid hk
        clear hl hk
        go_wp2
        clear c0 c2 c3 c4 c5 c6 c7 c8 c9 c10 c11 c12 c13 c14 c15 c16 c17 d0 d2 d3 d4 d5 d6 d7 d8 d9 d10 d11 d12 d13 d14 d15 d16 d17
        go_loopw [5] (fun iv wr => ∃ k : Nat, k ≤ xvs.length ∧ iv = .int .i64 k ∧ Hid (∀ (j : Nat) (s t : ByteArray), j < k → xvs[j]? = some s → yvs[j]? = some t → (s.data.toList == t.data.toList) = true) ∧ Below W.heap.size W wr) (fun iv _ => xvs.length - (intOf iv).toNat)
        case atStart => exact ⟨0, Nat.zero_le _, rfl, Lib.hid (fun j s t hj => by omega), Below.refl _ _⟩
        case round =>
          obtain ⟨i, hi, rfl, H, hbr⟩ := hrel
          obtain ⟨c0, c2, c3, c4, c5, c6, c7, c8, c9, c10, c11, c12, c13, c14, c15, c16, c17, d0, d2, d3, d4, d5, d6, d7, d8, d9, d10, d11, d12, d13, d14, d15, d16, d17⟩ := HF.out wr hbr
          by_cases hlt : i < xvs.length
          · have i1 : (i : Int) < xvs.length := by omega
            have i2 : (i : Int) < yvs.length := by have := HLn.out; omega
            obtain ⟨s, hs⟩ : ∃ s, xvs[i]? = some s := ⟨xvs[i], List.getElem?_eq_getElem hlt⟩
            obtain ⟨t, ht⟩ : ∃ t, yvs[i]? = some t := ⟨yvs[i]'(by have := HLn.out; omega), List.getElem?_eq_getElem (by have := HLn.out; omega)⟩
            obtain ⟨a, rfl, _, hps⟩ := XH3.out.at hs
            obtain ⟨b, rfl, _, hqt⟩ := YH3.out.at ht
            obtain ⟨s0, _⟩ := (hps.on hbr).cell
            obtain ⟨t0, _⟩ := (hqt.on hbr).cell
            rw [Nat.mul_one] at s0 t0
            have HSs := Lib.hid hs
            have HTt := Lib.hid ht
            clear hps hqt hs ht c0 c2 c4 c5 c6 c7 c8 c9 c10 c11 c12 c13 c14 c15 c16 c17 d0 d2 d4 d5 d6 d7 d8 d9 d10 d11 d12 d13 d14 d15 d16 d17
            by_cases hst : s = t
            · subst hst
              have HN : Hid (∀ (j : Nat) (s' t' : ByteArray), j < i + 1 → xvs[j]? = some s' → yvs[j]? = some t' → (s'.data.toList == t'.data.toList) = true) := Lib.hid (fun j s' t' hj h1 h2 => by
                by_cases hji : j = i
                · subst hji
                  rw [HSs.out] at h1
                  rw [HTt.out] at h2
                  cases h1; cases h2; exact beq_self_eq_true _
                · exact H.out j s' t' (by omega) h1 h2)
              have hbd : ∀ n, Below W.heap.size W (wr.drewN n) := fun n => hbr.trans ((drew_below wr n).mono hbr.size)
              have HBD := Lib.hid hbd
              clear hbd
              go_wp2
              go_quiet (fail)
              go_wp2
              go_roundw
              case rel => exact ⟨i + 1, by omega, by go_num, HN, HBD.out _⟩
              case measure => simp [intOf]; omega
            · have q2 := text_ne hst
              have HF2 : Hid (De.same (.mk xk xp xn xvs xcs (.mk xyk xyp xyn xyl) xps (.mk xek xep xen xem xel xeps xeal xeds)) (.mk yk yp xn yvs ycs (.mk yyk yyp yyn yyl) yps (.mk yek yep yen yem yel yeps yeal yeds)) = false) := Lib.hid (by rw [HS.out, Tx.sames_not xvs yvs i _ _ HSs.out HTt.out (by rw [← text_eq]; exact text_ne hst)]; simp)
              clear hst
              go_wp2
              go_quiet (fail)
              go_wp2
              go_ret
              exact ⟨by rw [HF2.out]; rfl, hbW.trans ((hbr.trans ((drew_below wr _).mono hbr.size)).mono hbW.size)⟩
          · have i1 : ¬ (i : Int) < xvs.length := by omega
            have HTX := Lib.hid (Tx.sames_all xvs yvs HLn.out (fun j s t h1 h2 => H.out j s t (by have := (List.getElem?_eq_some_iff.1 h1).1; omega) h1 h2))
            have HR : Hid (De.same (.mk xk xp xn xvs xcs (.mk xyk xyp xyn xyl) xps (.mk xek xep xen xem xel xeps xeal xeds)) (.mk yk yp xn yvs ycs (.mk yyk yyp yyn yyl) yps (.mk yek yep yen yem yel yeps yeal yeds)) = (Co.sames xcs ycs && (Ty.same (.mk xyk xyp xyn xyl) (.mk yyk yyp yyn yyl) && (Pa.sames xps yps && Ex.same (.mk xek xep xen xem xel xeps xeal xeds) (.mk yek yep yen yem yel yeps yeal yeds))))) := Lib.hid (by rw [HS.out, HK.out, HTX.out]; simp)
            go_wp2_with fail
            clear c0 c2 c3 c4 c5 c6 c7 c8 c9 c10 c11 c12 c13 c14 c15 c16 c17 d0 d2 d3 d4 d5 d6 d7 d8 d9 d10 d11 d12 d13 d14 d15 d16 d17
            refine (rsameCs_any xcs ycs P Q _ _ wr (XH4.out.on hbr) (YH4.out.on hbr)).mono ?_
            rintro e w1 ⟨rfl, hb1⟩
            have hbr1 := hbr.trans (hb1.mono hbr.size)
            cases e1 : Co.sames xcs ycs
            · rw [e1] at HR
              go_wp2
              go_ret
              exact ⟨by rw [HR.out]; rfl, hbW.trans (hbr1.mono hbW.size)⟩
            · rw [e1] at HR
              obtain ⟨c0, c2, c3, c4, c5, c6, c7, c8, c9, c10, c11, c12, c13, c14, c15, c16, c17, d0, d2, d3, d4, d5, d6, d7, d8, d9, d10, d11, d12, d13, d14, d15, d16, d17⟩ := HF.out w1 hbr1
              go_wp2_with fail
              clear c0 c2 c3 c4 c5 c6 c7 c8 c9 c10 c11 c12 c13 c14 c15 c16 c17 d0 d2 d3 d4 d5 d6 d7 d8 d9 d10 d11 d12 d13 d14 d15 d16 d17
              refine (rsameT_vs (.mk xyk xyp xyn xyl) (.mk yyk yyp yyn yyl) P Q _ _ w1 (IsVs.on hbr1 _ _ XH5.out) (IsVs.on hbr1 _ _ YH5.out)).mono ?_
              rintro e w2 ⟨rfl, hb2⟩
              have hbr2 := hbr1.trans (hb2.mono hbr1.size)
              cases e2 : Ty.same (.mk xyk xyp xyn xyl) (.mk yyk yyp yyn yyl)
              · rw [e2] at HR
                go_wp2
                go_ret
                exact ⟨by rw [HR.out]; rfl, hbW.trans (hbr2.mono hbW.size)⟩
              · rw [e2] at HR
                obtain ⟨c0, c2, c3, c4, c5, c6, c7, c8, c9, c10, c11, c12, c13, c14, c15, c16, c17, d0, d2, d3, d4, d5, d6, d7, d8, d9, d10, d11, d12, d13, d14, d15, d16, d17⟩ := HF.out w2 hbr2
                go_wp2_with fail
                clear c0 c2 c3 c4 c5 c6 c7 c8 c9 c10 c11 c12 c13 c14 c15 c16 c17 d0 d2 d3 d4 d5 d6 d7 d8 d9 d10 d11 d12 d13 d14 d15 d16 d17
                refine (rsamePs_all _ xps yps (Nat.le_refl _) P Q _ _ w2 (XH9.out.on hbr2) (YH9.out.on hbr2)).mono ?_
                rintro e w3 ⟨rfl, hb3⟩
                have hbr3 := hbr2.trans (hb3.mono hbr2.size)
                cases e3 : Pa.sames xps yps
                · rw [e3] at HR
                  go_wp2
                  go_ret
                  exact ⟨by rw [HR.out]; rfl, hbW.trans (hbr3.mono hbW.size)⟩
                · rw [e3] at HR
                  obtain ⟨c0, c2, c3, c4, c5, c6, c7, c8, c9, c10, c11, c12, c13, c14, c15, c16, c17, d0, d2, d3, d4, d5, d6, d7, d8, d9, d10, d11, d12, d13, d14, d15, d16, d17⟩ := HF.out w3 hbr3
                  go_wp2_with fail
                  clear c0 c2 c3 c4 c5 c6 c7 c8 c9 c10 c11 c12 c13 c14 c15 c16 c17 d0 d2 d3 d4 d5 d6 d7 d8 d9 d10 d11 d12 d13 d14 d15 d16 d17
                  refine (HE.out P Q [.int .i64 xek, .int .i64 xep, .string xen, .int .i64 xem, .slice xa4 xel.length xb4, .slice xa5 xeps.length xb5, .slice xa6 xeal.length xb6, .slice xa7 xeds.length xb7] [.int .i64 yek, .int .i64 yep, .string yen, .int .i64 yem, .slice ya4 yel.length yb4, .slice ya5 yeps.length yb5, .slice ya6 yeal.length yb6, .slice ya7 yeds.length yb7] w3 (IsVs.on hbr3 _ _ XH10.out) (IsVs.on hbr3 _ _ YH10.out)).mono ?_
                  rintro e w4 ⟨rfl, hb4⟩
                  have hbr4 := hbr3.trans (hb4.mono hbr3.size)
                  go_wp2
                  go_ret
                  exact ⟨by rw [HR.out]; rfl, hbW.trans (hbr4.mono hbW.size)⟩
      · have q3 : ((xvs.length : Int) != yvs.length) = true := by rw [bne_iff_ne]; omega
        have HE2 : Hid (De.same (.mk xk xp xn xvs xcs (.mk xyk xyp xyn xyl) xps (.mk xek xep xen xem xel xeps xeal xeds)) (.mk yk yp xn yvs ycs (.mk yyk yyp yyn yyl) yps (.mk yek yep yen yem yel yeps yeal yeds)) = false) := Lib.hid (by
          have : Tx.sames xvs yvs = false := by
            cases hq : Tx.sames xvs yvs with
            | false => rfl
            | true => exact absurd (Tx.sames_len xvs yvs hq) hl
          rw [HS.out, this]; simp)
        clear hl hk
        go_wp2
        all_goals (go_ret; exact ⟨by rw [HE2.out]; rfl, hbW⟩)
    · have q2 := text_ne hn
      have HE2 : Hid (De.same (.mk xk xp xn xvs xcs (.mk xyk xyp xyn xyl) xps (.mk xek xep xen xem xel xeps xeal xeds)) (.mk yk yp yn yvs ycs (.mk yyk yyp yyn yyl) yps (.mk yek yep yen yem yel yeps yeal yeds)) = false) := Lib.hid (by rw [HS.out, ← text_eq, q2]; simp)
      clear hk hn
      go_wp2
      all_goals (go_ret; exact ⟨by rw [HE2.out]; rfl, hbW⟩)
  · have q1 : (xk == yk) = false := by rw [beq_eq_false_iff_ne]; exact hk
    have HE2 : Hid (De.same (.mk xk xp xn xvs xcs (.mk xyk xyp xyn xyl) xps (.mk xek xep xen xem xel xeps xeal xeds)) (.mk yk yp yn yvs ycs (.mk yyk yyp yyn yyl) yps (.mk yek yep yen yem yel yeps yeal yeds)) = false) := Lib.hid (by rw [HS.out, q1]; rfl)
    clear hk
    go_wp2
    all_goals (go_ret; exact ⟨by rw [HE2.out]; rfl, hbW⟩)
end Go.Proofs.YtdiffpiapdghoaaGreatDoor
/-
  Layer 3, the document's side: SameDecls, given how the bodies are held against each other.
-/
namespace Go.Proofs.YtdiffpiapdghoaaGreatDoor
set_option linter.unusedVariables false
open Go.ChangeShapes Go.WideShapes Go.ChangeAt Go.RowKit

/-- a whole struct is read, whenever -/
theorem yields_load {P : Program} {ops : Array Oper} {S : World → Prop} {o : Oper} {a : Act} (ty : TypeId) (x : Operand) (ho : o.op = .load ty x) (A : Addr) (hx : a.eval x = .pointer (some A)) (cs : Array Value) (hl : ∀ V, S V → (loadVar ty A).run P V = .ok (.agg cs) V) (hw : Region.wanted o (yielded ops a.tmps) = true) : YieldsIf P ops S o (.agg cs) a :=
  .inl ⟨hw, fun V hV => by
    unfold execOp
    simp only [ho, hx, Instr.loadAt, Instr.sureAddr, Sem.run_bind, Sem.run_pure, Result.andThen_ok, hl V hV]⟩
/-- the cells of a row, read in whatever world behind this one -/
theorem row_load {w : World} {P : Nat → Prop} {r : List Dt} {A : Addr} (h : IsRow w P r A) (ty : TypeId) (hu : ∃ d, Tryz.prog.underlying ty = some d ∧ d.isRow = true) (hi : (Tryz.prog.info? ty).map (·.size) = some r.length) :
    ∃ vs : List Value, IsVs w P r vs ∧ ∀ V : World, Below w.heap.size w V → (loadVar ty A).run Tryz.prog V = .ok (.agg vs.toArray) V := by
  obtain ⟨vs, h1, h2, h3⟩ := IsRow.vals r A h
  obtain ⟨d, hd1, hd2⟩ := hu
  exact ⟨vs, h1, fun V hV => loadVar_wide V ty A vs d (fun j v hj => (hV.cell (Lib.lt_of_cell (h3 j v hj))).trans (h3 j v hj)) hd1 hd2 (by rw [h2]; exact hi)⟩
set_option maxHeartbeats 8000000 in
set_option maxRecDepth 100000 in
theorem rsameDs_step (sl tl : List De) (hall : ∀ (k : Nat) (t u : De), sl[k]? = some t → tl[k]? = some u → RSameE t.body' u.body') (P Q : Nat → Prop) (v v' : Value) (w : World) (hs : IsDes w P v sl) (ht : IsDes w Q v' tl) :
    Calls Tryz.prog 28 #[v, v'] w fun e w' => e = .returned (.bool (De.sames sl tl)) ∧ Below w.heap.size w w' := by
  obtain ⟨ao, cap, rfl, v1, v2⟩ := hs.form
  obtain ⟨bo, cap2, rfl, u1, u2⟩ := ht.form
  have HI := Lib.hid hall
  have HS1 := Lib.hid hs
  have HT1 := Lib.hid ht
  have hlm : (sl.length : Int) ≤ 9223372036854775807 := by unfold maxLen at v2; omega
  clear hall hs ht
  by_cases hl : sl.length = tl.length
  · have q3 : ((sl.length : Int) != tl.length) = false := by rw [bne_eq_false_iff_eq]; omega
    have HLn := Lib.hid hl
    clear hl
    go_enter Tryz.func28, Tryz.ntmps28
    go_wp2
    go_loopw [5] (fun iv wr => ∃ k : Nat, k ≤ sl.length ∧ iv = .int .i64 k ∧ Hid (∀ (j : Nat) (s t : De), j < k → sl[j]? = some s → tl[j]? = some t → s.same t = true) ∧ Below w.heap.size w wr) (fun iv _ => sl.length - (intOf iv).toNat)
    case atStart => exact ⟨0, Nat.zero_le _, rfl, Lib.hid (fun j s t hj => by omega), Below.refl _ _⟩
    case round =>
      obtain ⟨i, hi, rfl, H, hbw⟩ := hrel
      by_cases hlt : i < sl.length
      · have i1 : (i : Int) < sl.length := by omega
        have i2 : (i : Int) < tl.length := by have := HLn.out; omega
        obtain ⟨x, hx⟩ : ∃ x, sl[i]? = some x := ⟨sl[i], List.getElem?_eq_getElem hlt⟩
        obtain ⟨y, hy⟩ : ∃ y, tl[i]? = some y := ⟨tl[i]'(by have := HLn.out; omega), List.getElem?_eq_getElem (by have := HLn.out; omega)⟩
        obtain ⟨a, rfl, _, hrow⟩ := HS1.out.at hx
        obtain ⟨b, rfl, _, hrow'⟩ := HT1.out.at hy
        obtain ⟨vs, hv1, hv2⟩ := row_load (hrow.on hbw).out 92 und_de (by rw [De.row_len]; exact info_de)
        obtain ⟨us, hu1, hu2⟩ := row_load (hrow'.on hbw).out 92 und_de (by rw [De.row_len]; exact info_de)
        have HV1 := Lib.hid hv1
        have HV2 := Lib.hid hv2
        have HU1 := Lib.hid hu1
        have HU2 := Lib.hid hu2
        have HX := Lib.hid hx
        have HY := Lib.hid hy
        have HXY := Lib.hid (HI.out i x y hx hy)
        clear hrow hrow' hx hy hv1 hv2 hu1 hu2
        go_wp2
        have hw0 : Below wr.heap.size wr wr.drew := (Below.refl _ _).drew
        refine wp_region_gate (fun V => Below wr.heap.size wr V) 8 (by kernel_rfl) hw0 ?_
        change AtG _ _ _ _ _ _ _ _ _ wr.drew
        generalize wr.drew = W0 at hw0 ⊢
        refine G_take (i := 0) (v := ?_) rfl (by kernel_rfl) (fun _ _ _ h => h) (Or.inl ⟨by rfl, fun V hV => ?_⟩) ?_
        rotate_left
        · go_simp; with_reducible rfl
        simp only [Act.put, List.setIfInBounds_toArray, List.set_cons_zero, List.set_cons_succ]
        refine G_take (i := 1) (v := ?_) rfl (by kernel_rfl) (fun _ _ _ h => h) (Or.inl ⟨by rfl, fun V hV => ?_⟩) ?_
        rotate_left
        · go_simp; with_reducible rfl
        simp only [Act.put, List.setIfInBounds_toArray, List.set_cons_zero, List.set_cons_succ]
        refine G_take (i := 2) (v := ?_) rfl (by kernel_rfl) (fun _ _ _ h => h) (Or.inl ⟨by rfl, fun V hV => ?_⟩) ?_
        rotate_left
        · go_simp; with_reducible rfl
        simp only [Act.put, List.setIfInBounds_toArray, List.set_cons_zero, List.set_cons_succ]
        refine G_take (i := 3) rfl (by kernel_rfl) (fun _ _ _ h => h) (yields_load 92 _ rfl (a.add (i * 18)) rfl vs.toArray HV2.out rfl) ?_
        simp only [Act.put, List.setIfInBounds_toArray, List.set_cons_zero, List.set_cons_succ]
        refine G_take (i := 4) (v := ?_) rfl (by kernel_rfl) (fun _ _ _ h => h) (Or.inl ⟨by rfl, fun V hV => ?_⟩) ?_
        rotate_left
        · go_simp; with_reducible rfl
        simp only [Act.put, List.setIfInBounds_toArray, List.set_cons_zero, List.set_cons_succ]
        refine G_take (i := 5) (v := ?_) rfl (by kernel_rfl) (fun _ _ _ h => h) (Or.inl ⟨by rfl, fun V hV => ?_⟩) ?_
        rotate_left
        · go_simp; with_reducible rfl
        simp only [Act.put, List.setIfInBounds_toArray, List.set_cons_zero, List.set_cons_succ]
        refine G_take (i := 6) (v := ?_) rfl (by kernel_rfl) (fun _ _ _ h => h) (Or.inl ⟨by rfl, fun V hV => ?_⟩) ?_
        rotate_left
        · go_simp; with_reducible rfl
        simp only [Act.put, List.setIfInBounds_toArray, List.set_cons_zero, List.set_cons_succ]
        refine G_take (i := 7) rfl (by kernel_rfl) (fun _ _ _ h => h) (yields_load 92 _ rfl (b.add (i * 18)) rfl us.toArray HU2.out rfl) ?_
        simp only [Act.put, List.setIfInBounds_toArray, List.set_cons_zero, List.set_cons_succ]
        refine G_one (k := 8) rfl (by kernel_rfl) (fun K hK => ?_)
        have HK := Lib.hid hK
        clear hK
        go_wp2_with fail
        refine (rsameD_step x y HXY.out P Q vs us W0 (IsVs.on hw0 _ _ HV1.out) (IsVs.on hw0 _ _ HU1.out)).mono ?_
        rintro e W1 ⟨rfl, hb1⟩
        have hw1 := hw0.trans (hb1.mono hw0.size)
        go_wp2
        refine HK.out _ _ (fun h => absurd (h.symm.trans (by kernel_rfl : _ = true)) Bool.false_ne_true) ?_
        clear HK K
        refine G_one (k := 9) rfl (by kernel_rfl) (fun K hK => ?_)
        have HK := Lib.hid hK
        clear hK
        go_wp2
        refine HK.out _ _ (fun h => absurd (h.symm.trans (by kernel_rfl : _ = true)) Bool.false_ne_true) ?_
        clear HK K
        refine G_done (by kernel_rfl) ?_
        have hbw3 := hbw.trans (hw1.mono hbw.size)
        cases hr : De.same x y
        · have HF : Hid (De.sames sl tl = false) := Lib.hid (De.sames_not sl tl i _ _ HX.out HY.out hr)
          go_wp2
          go_ret
          exact ⟨by rw [HF.out]; rfl, hbw3⟩
        · have HN : Hid (∀ (j : Nat) (s t : De), j < i + 1 → sl[j]? = some s → tl[j]? = some t → s.same t = true) := Lib.hid (fun j s t hj h1 h2 => by
            by_cases hji : j = i
            · subst hji
              rw [HX.out] at h1
              rw [HY.out] at h2
              cases h1; cases h2; exact hr
            · exact H.out j s t (by omega) h1 h2)
          clear hr
          go_wp2
          go_roundw
          case rel => exact ⟨i + 1, by omega, by go_num, HN, hbw3⟩
          case measure => simp [intOf]; omega
      · have i1 : ¬ (i : Int) < sl.length := by omega
        have HF : Hid (De.sames sl tl = true) := Lib.hid (De.sames_all sl tl HLn.out (fun j s t h1 h2 => H.out j s t (by have := (List.getElem?_eq_some_iff.1 h1).1; omega) h1 h2))
        go_wp2
        go_ret
        exact ⟨by rw [HF.out]; rfl, hbw⟩
  · have q3 : ((sl.length : Int) != tl.length) = true := by rw [bne_iff_ne]; omega
    have HE : Hid (De.sames sl tl = false) := Lib.hid (by
      cases hq : De.sames sl tl with
      | false => rfl
      | true => exact absurd (De.sames_len sl tl hq) hl)
    clear hl
    go_enter Tryz.func28, Tryz.ntmps28
    go_wp2
    go_ret
    exact ⟨by rw [HE.out]; rfl, Below.refl _ _⟩
end Go.Proofs.YtdiffpiapdghoaaGreatDoor
