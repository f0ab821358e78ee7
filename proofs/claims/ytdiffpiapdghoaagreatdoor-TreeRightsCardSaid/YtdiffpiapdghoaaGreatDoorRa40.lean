/- Texts of this proof, joined: RRtData. No condition. -/
import Derived.Test.YtdiffpiapdghoaaGreatDoorRa35
import Derived.Test.YtdiffpiapdghoaaGreatDoorRa39
/-
  Layer 3, the document's side: a type's declaration that may be.
-/
namespace Go.Proofs.YtdiffpiapdghoaaGreatDoor
set_option linter.unusedVariables false
open Go.ChangeShapes Go.WideShapes Go.ChangeAt Go.RowKit

set_option maxHeartbeats 16000000 in
set_option maxRecDepth 100000 in
theorem rdata_any (k p yk yp ek ep em : Int) (n yn en : ByteArray) (vs : List ByteArray) (cs : List Co) (yl : List Ty) (ps eps : List Pa) (el : List Ex) (eal : List Al) (eds : List De) (P : Nat → Prop) (l : List Value) (w : World) (hv : IsVs w P (De.row (.mk k p n vs cs (.mk yk yp yn yl) ps (.mk ek ep en em el eps eal eds))) l) :
    Calls Tryz.prog 78 #[.agg l.toArray] w fun e w' => e = .returned (.bool (dataB n vs cs (.mk yk yp yn yl) ps (.mk ek ep en em el eps eal eds))) ∧ Below w.heap.size w w' := by
  obtain ⟨hn, va, vb, ca, cb, ya, yb, pa, pb, a4, a5, a6, a7, b4, b5, b6, b7, rfl, hvs, hcs, hty, hps, hex⟩ := de_vs hv
  obtain ⟨o1, ho1⟩ : ∃ o : Obj, o = .cells #[.int .i64 k, .int .i64 p, .string n, .slice va vs.length vb, .slice ca cs.length cb, .int .i64 yk, .int .i64 yp, .string yn, .slice ya yl.length yb, .slice pa ps.length pb, .int .i64 ek, .int .i64 ep, .string en, .int .i64 em, .slice a4 el.length b4, .slice a5 eps.length b5, .slice a6 eal.length b6, .slice a7 eds.length b7] 92 := ⟨_, rfl⟩
  have hb1 := bl_alloc o1 (Below.refl w.heap.size w)
  have g1 := heap_alloc_new w o1
  obtain ⟨_, _, _, _, m3⟩ := hvs.form
  obtain ⟨_, _, _, _, m4⟩ := hcs.form
  obtain ⟨_, _, _, _, m9⟩ := hps.form
  have l3 : (vs.length : Int) ≤ 9223372036854775807 := by unfold maxLen at m3; omega
  have l4 : (cs.length : Int) ≤ 9223372036854775807 := by unfold maxLen at m4; omega
  have l9 : (ps.length : Int) ≤ 9223372036854775807 := by unfold maxLen at m9; omega
  have HV := Lib.hid (hvs.on hb1)
  have HC := Lib.hid (hcs.on hb1)
  have HT := Lib.hid (IsVs.on hb1 _ _ hty)
  have HE := Lib.hid (IsVs.on hb1 _ _ hex)
  clear hv hvs hcs hty hps hex m3 m4 m9
  go_enter Tryz.func78, Tryz.ntmps78
  go_upto_region 1 with fail
  rw [← ho1]
  generalize w.alloc o1 = W at hb1 g1 HV HC HT HE ⊢
  subst ho1
  have c2 : W.cell? ⟨w.heap.size, 2, none⟩ = some (.string n) := by rw [Lib.cell_of_heap g1]; rfl
  have c3 : W.cell? ⟨w.heap.size, 3, none⟩ = some (.slice va vs.length vb) := by rw [Lib.cell_of_heap g1]; rfl
  have c4 : W.cell? ⟨w.heap.size, 4, none⟩ = some (.slice ca cs.length cb) := by rw [Lib.cell_of_heap g1]; rfl
  have c5 : W.cell? ⟨w.heap.size, 5, none⟩ = some (.int .i64 yk) := by rw [Lib.cell_of_heap g1]; rfl
  have c6 : W.cell? ⟨w.heap.size, 6, none⟩ = some (.int .i64 yp) := by rw [Lib.cell_of_heap g1]; rfl
  have c7 : W.cell? ⟨w.heap.size, 7, none⟩ = some (.string yn) := by rw [Lib.cell_of_heap g1]; rfl
  have c8 : W.cell? ⟨w.heap.size, 8, none⟩ = some (.slice ya yl.length yb) := by rw [Lib.cell_of_heap g1]; rfl
  have c9 : W.cell? ⟨w.heap.size, 9, none⟩ = some (.slice pa ps.length pb) := by rw [Lib.cell_of_heap g1]; rfl
  have c10 : W.cell? ⟨w.heap.size, 10, none⟩ = some (.int .i64 ek) := by rw [Lib.cell_of_heap g1]; rfl
  have c11 : W.cell? ⟨w.heap.size, 11, none⟩ = some (.int .i64 ep) := by rw [Lib.cell_of_heap g1]; rfl
  have c12 : W.cell? ⟨w.heap.size, 12, none⟩ = some (.string en) := by rw [Lib.cell_of_heap g1]; rfl
  have c13 : W.cell? ⟨w.heap.size, 13, none⟩ = some (.int .i64 em) := by rw [Lib.cell_of_heap g1]; rfl
  have c14 : W.cell? ⟨w.heap.size, 14, none⟩ = some (.slice a4 el.length b4) := by rw [Lib.cell_of_heap g1]; rfl
  have c15 : W.cell? ⟨w.heap.size, 15, none⟩ = some (.slice a5 eps.length b5) := by rw [Lib.cell_of_heap g1]; rfl
  have c16 : W.cell? ⟨w.heap.size, 16, none⟩ = some (.slice a6 eal.length b6) := by rw [Lib.cell_of_heap g1]; rfl
  have c17 : W.cell? ⟨w.heap.size, 17, none⟩ = some (.slice a7 eds.length b7) := by rw [Lib.cell_of_heap g1]; rfl
  have G1 := Lib.hid g1
  have HB := Lib.hid hb1
  clear g1 hb1
  cases h0 : conB n with
  | false =>
    have hres : dataB n vs cs (.mk yk yp yn yl) ps (.mk ek ep en em el eps eal eds) = false := by
      unfold dataB varsB cosB someB
      rw [h0]; rfl
    have HR := Lib.hid hres
    clear hres
    go_wp2_with fail
    refine (high_any n hn W).mono ?_
    rw [h0]
    rintro e W1 ⟨rfl, hb1⟩
    have hw1 := hb1
    have c2 := bel_cell hb1 c2
    have c3 := bel_cell hb1 c3
    have c4 := bel_cell hb1 c4
    have c5 := bel_cell hb1 c5
    have c6 := bel_cell hb1 c6
    have c7 := bel_cell hb1 c7
    have c8 := bel_cell hb1 c8
    have c9 := bel_cell hb1 c9
    have c10 := bel_cell hb1 c10
    have c11 := bel_cell hb1 c11
    have c12 := bel_cell hb1 c12
    have c13 := bel_cell hb1 c13
    have c14 := bel_cell hb1 c14
    have c15 := bel_cell hb1 c15
    have c16 := bel_cell hb1 c16
    have c17 := bel_cell hb1 c17
    clear hb1 h0
    go_wp2
    go_ret
    exact ⟨by rw [HR.out]; rfl, HB.out.trans (hw1.mono HB.out.size)⟩
  | true =>
    by_cases h1 : (16 : Int) < vs.length
    · have hres : dataB n vs cs (.mk yk yp yn yl) ps (.mk ek ep en em el eps eal eds) = false := by
        unfold dataB varsB cosB someB
        rw [decide_eq_false (by omega : ¬ vs.length ≤ 16), Bool.false_and, Bool.false_and, Bool.and_false]
      have HR := Lib.hid hres
      clear hres
      go_wp2_with fail
      refine (high_any n hn W).mono ?_
      rw [h0]
      rintro e W1 ⟨rfl, hb1⟩
      have hw1 := hb1
      have c2 := bel_cell hb1 c2
      have c3 := bel_cell hb1 c3
      have c4 := bel_cell hb1 c4
      have c5 := bel_cell hb1 c5
      have c6 := bel_cell hb1 c6
      have c7 := bel_cell hb1 c7
      have c8 := bel_cell hb1 c8
      have c9 := bel_cell hb1 c9
      have c10 := bel_cell hb1 c10
      have c11 := bel_cell hb1 c11
      have c12 := bel_cell hb1 c12
      have c13 := bel_cell hb1 c13
      have c14 := bel_cell hb1 c14
      have c15 := bel_cell hb1 c15
      have c16 := bel_cell hb1 c16
      have c17 := bel_cell hb1 c17
      clear hb1 h0
      go_wp2
      go_ret
      exact ⟨by rw [HR.out]; rfl, HB.out.trans (hw1.mono HB.out.size)⟩
    by_cases h2 : (cs.length : Int) < 1
    · have hres : dataB n vs cs (.mk yk yp yn yl) ps (.mk ek ep en em el eps eal eds) = false := by
        unfold dataB varsB cosB someB
        rw [decide_eq_false (by omega : ¬ (1 : Int) ≤ cs.length)]; simp
      have HR := Lib.hid hres
      clear hres
      go_wp2_with fail
      refine (high_any n hn W).mono ?_
      rw [h0]
      rintro e W1 ⟨rfl, hb1⟩
      have hw1 := hb1
      have c2 := bel_cell hb1 c2
      have c3 := bel_cell hb1 c3
      have c4 := bel_cell hb1 c4
      have c5 := bel_cell hb1 c5
      have c6 := bel_cell hb1 c6
      have c7 := bel_cell hb1 c7
      have c8 := bel_cell hb1 c8
      have c9 := bel_cell hb1 c9
      have c10 := bel_cell hb1 c10
      have c11 := bel_cell hb1 c11
      have c12 := bel_cell hb1 c12
      have c13 := bel_cell hb1 c13
      have c14 := bel_cell hb1 c14
      have c15 := bel_cell hb1 c15
      have c16 := bel_cell hb1 c16
      have c17 := bel_cell hb1 c17
      clear hb1 h0
      go_wp2
      go_ret
      exact ⟨by rw [HR.out]; rfl, HB.out.trans (hw1.mono HB.out.size)⟩
    by_cases h3 : (32 : Int) < cs.length
    · have hres : dataB n vs cs (.mk yk yp yn yl) ps (.mk ek ep en em el eps eal eds) = false := by
        unfold dataB varsB cosB someB
        rw [decide_eq_false (by omega : ¬ (cs.length : Int) ≤ 32)]; simp
      have HR := Lib.hid hres
      clear hres
      go_wp2_with fail
      refine (high_any n hn W).mono ?_
      rw [h0]
      rintro e W1 ⟨rfl, hb1⟩
      have hw1 := hb1
      have c2 := bel_cell hb1 c2
      have c3 := bel_cell hb1 c3
      have c4 := bel_cell hb1 c4
      have c5 := bel_cell hb1 c5
      have c6 := bel_cell hb1 c6
      have c7 := bel_cell hb1 c7
      have c8 := bel_cell hb1 c8
      have c9 := bel_cell hb1 c9
      have c10 := bel_cell hb1 c10
      have c11 := bel_cell hb1 c11
      have c12 := bel_cell hb1 c12
      have c13 := bel_cell hb1 c13
      have c14 := bel_cell hb1 c14
      have c15 := bel_cell hb1 c15
      have c16 := bel_cell hb1 c16
      have c17 := bel_cell hb1 c17
      clear hb1 h0
      go_wp2
      go_ret
      exact ⟨by rw [HR.out]; rfl, HB.out.trans (hw1.mono HB.out.size)⟩
    by_cases h4 : ¬ ps = []
    · have h4l : 0 < ps.length := List.length_pos_iff.2 h4
      have hres : dataB n vs cs (.mk yk yp yn yl) ps (.mk ek ep en em el eps eal eds) = false := by
        unfold dataB varsB cosB someB
        rw [show ((ps.length : Int) == 0) = false by rw [beq_eq_false_iff_ne]; omega]; simp
      have HR := Lib.hid hres
      clear hres
      go_wp2_with fail
      refine (high_any n hn W).mono ?_
      rw [h0]
      rintro e W1 ⟨rfl, hb1⟩
      have hw1 := hb1
      have c2 := bel_cell hb1 c2
      have c3 := bel_cell hb1 c3
      have c4 := bel_cell hb1 c4
      have c5 := bel_cell hb1 c5
      have c6 := bel_cell hb1 c6
      have c7 := bel_cell hb1 c7
      have c8 := bel_cell hb1 c8
      have c9 := bel_cell hb1 c9
      have c10 := bel_cell hb1 c10
      have c11 := bel_cell hb1 c11
      have c12 := bel_cell hb1 c12
      have c13 := bel_cell hb1 c13
      have c14 := bel_cell hb1 c14
      have c15 := bel_cell hb1 c15
      have c16 := bel_cell hb1 c16
      have c17 := bel_cell hb1 c17
      clear hb1 h0
      go_wp2
      go_ret
      exact ⟨by rw [HR.out]; rfl, HB.out.trans (hw1.mono HB.out.size)⟩
    obtain rfl : ps = [] := Classical.byContradiction h4
    clear h4
    cases h5 : Ty.same (.mk yk yp yn yl) ty0 with
    | false =>
      have hres : dataB n vs cs (.mk yk yp yn yl) [] (.mk ek ep en em el eps eal eds) = false := by
        unfold dataB varsB cosB someB
        rw [h5]; simp
      have HR := Lib.hid hres
      clear hres
      go_wp2_with fail
      refine (high_any n hn W).mono ?_
      rw [h0]
      rintro e W1 ⟨rfl, hb1⟩
      have hw1 := hb1
      have c2 := bel_cell hb1 c2
      have c3 := bel_cell hb1 c3
      have c4 := bel_cell hb1 c4
      have c5 := bel_cell hb1 c5
      have c6 := bel_cell hb1 c6
      have c7 := bel_cell hb1 c7
      have c8 := bel_cell hb1 c8
      have c9 := bel_cell hb1 c9
      have c10 := bel_cell hb1 c10
      have c11 := bel_cell hb1 c11
      have c12 := bel_cell hb1 c12
      have c13 := bel_cell hb1 c13
      have c14 := bel_cell hb1 c14
      have c15 := bel_cell hb1 c15
      have c16 := bel_cell hb1 c16
      have c17 := bel_cell hb1 c17
      clear hb1 h0
      go_wp2_with fail
      refine (rsameT_vs (.mk yk yp yn yl) ty0 P Any [.int .i64 yk, .int .i64 yp, .string yn, .slice ya yl.length yb] [_, _, _, _] W1 (IsVs.on hw1 _ _ HT.out) (ty0_vs W1)).mono ?_
      rw [h5]
      rintro e W2 ⟨rfl, hb2⟩
      have hw2 := hw1.trans (hb2.mono hw1.size)
      have c2 := bel_cell hb2 c2
      have c3 := bel_cell hb2 c3
      have c4 := bel_cell hb2 c4
      have c5 := bel_cell hb2 c5
      have c6 := bel_cell hb2 c6
      have c7 := bel_cell hb2 c7
      have c8 := bel_cell hb2 c8
      have c9 := bel_cell hb2 c9
      have c10 := bel_cell hb2 c10
      have c11 := bel_cell hb2 c11
      have c12 := bel_cell hb2 c12
      have c13 := bel_cell hb2 c13
      have c14 := bel_cell hb2 c14
      have c15 := bel_cell hb2 c15
      have c16 := bel_cell hb2 c16
      have c17 := bel_cell hb2 c17
      clear hb2 h5
      go_wp2
      go_ret
      exact ⟨by rw [HR.out]; rfl, HB.out.trans (hw2.mono HB.out.size)⟩
    | true =>
      cases h6 : Ex.same (.mk ek ep en em el eps eal eds) ex0 with
      | false =>
        have hres : dataB n vs cs (.mk yk yp yn yl) [] (.mk ek ep en em el eps eal eds) = false := by
          unfold dataB varsB cosB someB
          rw [h6]; simp
        have HR := Lib.hid hres
        clear hres
        go_wp2_with fail
        refine (high_any n hn W).mono ?_
        rw [h0]
        rintro e W1 ⟨rfl, hb1⟩
        have hw1 := hb1
        have c2 := bel_cell hb1 c2
        have c3 := bel_cell hb1 c3
        have c4 := bel_cell hb1 c4
        have c5 := bel_cell hb1 c5
        have c6 := bel_cell hb1 c6
        have c7 := bel_cell hb1 c7
        have c8 := bel_cell hb1 c8
        have c9 := bel_cell hb1 c9
        have c10 := bel_cell hb1 c10
        have c11 := bel_cell hb1 c11
        have c12 := bel_cell hb1 c12
        have c13 := bel_cell hb1 c13
        have c14 := bel_cell hb1 c14
        have c15 := bel_cell hb1 c15
        have c16 := bel_cell hb1 c16
        have c17 := bel_cell hb1 c17
        clear hb1 h0
        go_wp2_with fail
        refine (rsameT_vs (.mk yk yp yn yl) ty0 P Any [.int .i64 yk, .int .i64 yp, .string yn, .slice ya yl.length yb] [_, _, _, _] W1 (IsVs.on hw1 _ _ HT.out) (ty0_vs W1)).mono ?_
        rw [h5]
        rintro e W2 ⟨rfl, hb2⟩
        have hw2 := hw1.trans (hb2.mono hw1.size)
        have c2 := bel_cell hb2 c2
        have c3 := bel_cell hb2 c3
        have c4 := bel_cell hb2 c4
        have c5 := bel_cell hb2 c5
        have c6 := bel_cell hb2 c6
        have c7 := bel_cell hb2 c7
        have c8 := bel_cell hb2 c8
        have c9 := bel_cell hb2 c9
        have c10 := bel_cell hb2 c10
        have c11 := bel_cell hb2 c11
        have c12 := bel_cell hb2 c12
        have c13 := bel_cell hb2 c13
        have c14 := bel_cell hb2 c14
        have c15 := bel_cell hb2 c15
        have c16 := bel_cell hb2 c16
        have c17 := bel_cell hb2 c17
        clear hb2 h5
        go_wp2_with fail
        refine (rsameE_any (.mk ek ep en em el eps eal eds) ex0 P Any [.int .i64 ek, .int .i64 ep, .string en, .int .i64 em, .slice a4 el.length b4, .slice a5 eps.length b5, .slice a6 eal.length b6, .slice a7 eds.length b7] [_, _, _, _, _, _, _, _] W2 (IsVs.on hw2 _ _ HE.out) (ex0_vs W2)).mono ?_
        rw [h6]
        rintro e W3 ⟨rfl, hb3⟩
        have hw3 := hw2.trans (hb3.mono hw2.size)
        have c2 := bel_cell hb3 c2
        have c3 := bel_cell hb3 c3
        have c4 := bel_cell hb3 c4
        have c5 := bel_cell hb3 c5
        have c6 := bel_cell hb3 c6
        have c7 := bel_cell hb3 c7
        have c8 := bel_cell hb3 c8
        have c9 := bel_cell hb3 c9
        have c10 := bel_cell hb3 c10
        have c11 := bel_cell hb3 c11
        have c12 := bel_cell hb3 c12
        have c13 := bel_cell hb3 c13
        have c14 := bel_cell hb3 c14
        have c15 := bel_cell hb3 c15
        have c16 := bel_cell hb3 c16
        have c17 := bel_cell hb3 c17
        clear hb3 h6
        go_wp2
        go_ret
        exact ⟨by rw [HR.out]; rfl, HB.out.trans (hw3.mono HB.out.size)⟩
      | true =>
        have heq : dataB n vs cs (.mk yk yp yn yl) [] (.mk ek ep en em el eps eal eds) = (upB [] vs && cs.all coB) := by
          unfold dataB varsB cosB someB
          rw [h0, h5, h6, show (((([] : List Pa).length : Nat) : Int) == 0) = true from rfl, decide_eq_true (by omega : vs.length ≤ 16), decide_eq_true (by omega : (1 : Int) ≤ cs.length), decide_eq_true (by omega : (cs.length : Int) ≤ 32)]
          simp
        have RESV : Hid (upB [] vs = false → dataB n vs cs (.mk yk yp yn yl) [] (.mk ek ep en em el eps eal eds) = false) := Lib.hid (fun h => by rw [heq, h, Bool.false_and])
        have RESC : Hid (cs.all coB = false → dataB n vs cs (.mk yk yp yn yl) [] (.mk ek ep en em el eps eal eds) = false) := Lib.hid (fun h => by rw [heq, h, Bool.and_false])
        have RESOK : Hid (upB [] vs = true → cs.all coB = true → dataB n vs cs (.mk yk yp yn yl) [] (.mk ek ep en em el eps eal eds) = true) := Lib.hid (fun h h' => by rw [heq, h, h']; rfl)
        clear heq
        have HN0 := Lib.hid h0
        have HT5 := Lib.hid h5
        have HE6 := Lib.hid h6
        go_wp2_with fail
        refine (high_any n hn W).mono ?_
        rw [h0]
        rintro e W1 ⟨rfl, hb1⟩
        have hw1 := hb1
        have c2 := bel_cell hb1 c2
        have c3 := bel_cell hb1 c3
        have c4 := bel_cell hb1 c4
        have c5 := bel_cell hb1 c5
        have c6 := bel_cell hb1 c6
        have c7 := bel_cell hb1 c7
        have c8 := bel_cell hb1 c8
        have c9 := bel_cell hb1 c9
        have c10 := bel_cell hb1 c10
        have c11 := bel_cell hb1 c11
        have c12 := bel_cell hb1 c12
        have c13 := bel_cell hb1 c13
        have c14 := bel_cell hb1 c14
        have c15 := bel_cell hb1 c15
        have c16 := bel_cell hb1 c16
        have c17 := bel_cell hb1 c17
        clear hb1 h0
        go_wp2_with fail
        refine (rsameT_vs (.mk yk yp yn yl) ty0 P Any [.int .i64 yk, .int .i64 yp, .string yn, .slice ya yl.length yb] [_, _, _, _] W1 (IsVs.on hw1 _ _ HT.out) (ty0_vs W1)).mono ?_
        rw [h5]
        rintro e W2 ⟨rfl, hb2⟩
        have hw2 := hw1.trans (hb2.mono hw1.size)
        have c2 := bel_cell hb2 c2
        have c3 := bel_cell hb2 c3
        have c4 := bel_cell hb2 c4
        have c5 := bel_cell hb2 c5
        have c6 := bel_cell hb2 c6
        have c7 := bel_cell hb2 c7
        have c8 := bel_cell hb2 c8
        have c9 := bel_cell hb2 c9
        have c10 := bel_cell hb2 c10
        have c11 := bel_cell hb2 c11
        have c12 := bel_cell hb2 c12
        have c13 := bel_cell hb2 c13
        have c14 := bel_cell hb2 c14
        have c15 := bel_cell hb2 c15
        have c16 := bel_cell hb2 c16
        have c17 := bel_cell hb2 c17
        clear hb2 h5
        go_wp2_with fail
        refine (rsameE_any (.mk ek ep en em el eps eal eds) ex0 P Any [.int .i64 ek, .int .i64 ep, .string en, .int .i64 em, .slice a4 el.length b4, .slice a5 eps.length b5, .slice a6 eal.length b6, .slice a7 eds.length b7] [_, _, _, _, _, _, _, _] W2 (IsVs.on hw2 _ _ HE.out) (ex0_vs W2)).mono ?_
        rw [h6]
        rintro e W3 ⟨rfl, hb3⟩
        have hw3 := hw2.trans (hb3.mono hw2.size)
        have c2 := bel_cell hb3 c2
        have c3 := bel_cell hb3 c3
        have c4 := bel_cell hb3 c4
        have c5 := bel_cell hb3 c5
        have c6 := bel_cell hb3 c6
        have c7 := bel_cell hb3 c7
        have c8 := bel_cell hb3 c8
        have c9 := bel_cell hb3 c9
        have c10 := bel_cell hb3 c10
        have c11 := bel_cell hb3 c11
        have c12 := bel_cell hb3 c12
        have c13 := bel_cell hb3 c13
        have c14 := bel_cell hb3 c14
        have c15 := bel_cell hb3 c15
        have c16 := bel_cell hb3 c16
        have c17 := bel_cell hb3 c17
        clear hb3 h6
        go_wp2
        have g3 := (hw3.block _ (heap_lt G1.out)).trans G1.out
        have HW3 := Lib.hid hw3
        clear c2 c3 c4 c5 c6 c7 c8 c9 c10 c11 c12 c13 c14 c15 c16 c17 hw1 hw2 hw3
        go_loopw [3] (fun iv wr => ∃ j : Nat, j ≤ vs.length ∧ iv = .int .i64 j ∧ Hid (upB [] vs = upB (vs.take j) (vs.drop j)) ∧ Below W.heap.size W wr) (fun iv _ => vs.length - (intOf iv).toNat)
        case atStart => exact ⟨0, Nat.zero_le _, rfl, Lib.hid rfl, HW3.out⟩
        case round =>
          obtain ⟨i, hi, rfl, H, hbw⟩ := hrel
          obtain ⟨u1, ew⟩ : ∃ w0, w0 = wr := ⟨_, rfl⟩
          rw [← ew] at hbw ⊢
          clear ew g3
          have gr := (hbw.block _ (heap_lt G1.out)).trans G1.out
          have e3 : u1.cell? ⟨w.heap.size, 3, none⟩ = some (.slice va vs.length vb) := by rw [Lib.cell_of_heap gr]; rfl
          by_cases hlt : i < vs.length
          · have i1 : (i : Int) < vs.length := by omega
            obtain ⟨x, hx⟩ : ∃ x, vs[i]? = some x := ⟨vs[i], List.getElem?_eq_getElem hlt⟩
            obtain ⟨A1, rfl, _, hrow⟩ := HV.out.at hx
            have HX := Lib.hid hx
            have HU := Lib.hid (H.out.trans (up_step hx))
            have HBW := Lib.hid hbw
            have HRow := Lib.hid hrow
            have hxn := hrow.cell.2
            clear hrow hx gr
            go_wp2
            clear e3
            go_loopw [4] (fun iv wr => ∃ j : Nat, j ≤ i ∧ iv = .int .i64 j ∧ Hid ((vs.take j).any (fun u => u.toList == x.toList) = false) ∧ Below W.heap.size W wr) (fun iv _ => i - (intOf iv).toNat)
            case atStart => exact ⟨0, Nat.zero_le _, rfl, Lib.hid (by simp), hbw⟩
            case round =>
              obtain ⟨k2, hk2, rfl, H2, hbw2⟩ := hrel
              obtain ⟨u2, ew⟩ : ∃ w0, w0 = wr := ⟨_, rfl⟩
              rw [← ew] at hbw2 ⊢
              clear ew
              have gr2 := (hbw2.block _ (heap_lt G1.out)).trans G1.out
              have e3 : u2.cell? ⟨w.heap.size, 3, none⟩ = some (.slice (some A1) vs.length vb) := by rw [Lib.cell_of_heap gr2]; rfl
              have hcx := (HRow.out.on hbw2).cell.1
              rw [Nat.mul_one] at hcx
              by_cases hlt2 : k2 < i
              · have i2 : (k2 : Int) < i := by omega
                have i3 : (k2 : Int) < vs.length := by omega
                obtain ⟨y, hy⟩ : ∃ y, vs[k2]? = some y := ⟨vs[k2]'(by omega), List.getElem?_eq_getElem (by omega)⟩
                obtain ⟨A2, e2, _, hrow2⟩ := HV.out.at hy
                cases e2
                have hcy := (hrow2.on hbw2).cell.1
                rw [Nat.mul_one] at hcy
                have HY := Lib.hid hy
                have HBW2 := Lib.hid hbw2
                clear hrow2 hy gr2 hbw2
                cases he : (y.toList == x.toList) with
                | true =>
                  have HF := Lib.hid (show upB [] vs = false by
                    rw [HU.out, any_take_le HY.out hlt2 (fun u => u.toList == x.toList) he, Bool.not_true, Bool.false_and, Bool.and_false])
                  go_wp2
                  go_quiet (fail)
                  generalize hW5 : World.drewN u2 _ = u3
                  have hd3 : Below u2.heap.size u2 u3 := by rw [← hW5]; exact drew_below u2 _
                  clear hW5
                  go_wp2
                  go_ret
                  exact ⟨by rw [RESV.out HF.out]; rfl, HB.out.trans ((HBW2.out.trans (hd3.mono HBW2.out.size)).mono HB.out.size)⟩
                | false =>
                  have HN : Hid ((vs.take (k2 + 1)).any (fun u => u.toList == x.toList) = false) := Lib.hid (by rw [any_take_succ HY.out, H2.out, Bool.false_or]; exact he)
                  go_wp2
                  go_quiet (fail)
                  generalize hW5 : World.drewN u2 _ = u3
                  have hd3 : Below u2.heap.size u2 u3 := by rw [← hW5]; exact drew_below u2 _
                  clear hW5
                  have hbw3 := HBW2.out.trans (hd3.mono HBW2.out.size)
                  clear hd3
                  go_wp2
                  go_roundw
                  case rel => exact ⟨k2 + 1, by omega, by go_num, HN, hbw3⟩
                  case measure => simp [intOf]; omega
              · have i2 : ¬ (k2 : Int) < i := by omega
                have hki : k2 = i := by omega
                subst hki
                have HBW2 := Lib.hid hbw2
                clear gr2 hbw2
                cases hn2 : nameB x with
                | false =>
                  have HF := Lib.hid (show upB [] vs = false by rw [HU.out, hn2]; rfl)
                  go_wp2_with fail
                  refine (rdword_any x hxn _).mono ?_
                  rw [hn2]
                  rintro e u3 ⟨rfl, hb3⟩
                  clear hn2
                  go_wp2
                  go_ret
                  exact ⟨by rw [RESV.out HF.out]; rfl, HB.out.trans ((HBW2.out.trans (hb3.mono HBW2.out.size)).mono HB.out.size)⟩
                | true =>
                  have HN : Hid (upB [] vs = upB (vs.take (k2 + 1)) (vs.drop (k2 + 1))) := Lib.hid (by rw [HU.out, hn2, H2.out]; rfl)
                  go_wp2_with fail
                  refine (rdword_any x hxn _).mono ?_
                  rw [hn2]
                  rintro e u3 ⟨rfl, hb3⟩
                  have hbw3 := HBW2.out.trans (hb3.mono HBW2.out.size)
                  clear hn2 hb3
                  go_wp2
                  go_roundw
                  case rel => exact ⟨k2 + 1, by omega, by go_num, HN, hbw3⟩
                  case measure => simp [intOf]; omega
          · have i1 : ¬ (i : Int) < vs.length := by omega
            have HVars : Hid (upB [] vs = true) := Lib.hid (by rw [H.out, List.drop_eq_nil_of_le (by omega)]; rfl)
            have HBW := Lib.hid hbw
            clear gr hbw H
            go_wp2
            clear e3
            go_loopw [5] (fun iv wr => ∃ j : Nat, j ≤ cs.length ∧ iv = .int .i64 j ∧ Hid (∀ (i : Nat) (t : Co), i < j → cs[i]? = some t → coB t = true) ∧ Below W.heap.size W wr) (fun iv _ => cs.length - (intOf iv).toNat)
            case atStart => exact ⟨0, Nat.zero_le _, rfl, Lib.hid (fun i t hi => by omega), HBW.out⟩
            case round =>
              obtain ⟨i2, hi2, rfl, H2, hbw2⟩ := hrel
              obtain ⟨u2, ew⟩ : ∃ w0, w0 = wr := ⟨_, rfl⟩
              rw [← ew] at hbw2 ⊢
              clear ew
              have gr2 := (hbw2.block _ (heap_lt G1.out)).trans G1.out
              have e4 : u2.cell? ⟨w.heap.size, 4, none⟩ = some (.slice ca cs.length cb) := by rw [Lib.cell_of_heap gr2]; rfl
              by_cases hlt2 : i2 < cs.length
              · have j1 : (i2 : Int) < cs.length := by omega
                obtain ⟨c, hc⟩ : ∃ x, cs[i2]? = some x := ⟨cs[i2], List.getElem?_eq_getElem hlt2⟩
                obtain ⟨A1, rfl, _, hrow⟩ := HC.out.at hc
                obtain ⟨_, d1, hcn, qo, qc, d2, _, hM, hl⟩ := (hrow.on hbw2).cells
                have HL := Lib.hid hl
                have HX := Lib.hid hc
                have HRow := Lib.hid hrow
                have HBW2 := Lib.hid hbw2
                have lm : (c.args.length : Int) ≤ 9223372036854775807 := by unfold maxLen at hM; have := (IsTys.form hl); obtain ⟨_, _, _, _, _⟩ := this; omega
                clear hrow hc hl hbw2 gr2
                cases hcc : conB c.name with
                | false =>
                  have HF := Lib.hid (show cs.all coB = false from all_not HX.out (by unfold coB; rw [hcc]; rfl))
                  go_wp2_with fail
                  refine (high_any _ hcn _).mono ?_
                  rw [hcc]
                  rintro e u3 ⟨rfl, hb3⟩
                  clear hcc
                  go_wp2
                  go_ret
                  exact ⟨by rw [RESC.out HF.out]; rfl, HB.out.trans ((HBW2.out.trans (hb3.mono HBW2.out.size)).mono HB.out.size)⟩
                | true =>
                  have HCC := Lib.hid hcc
                  by_cases h16 : (16 : Int) < c.args.length
                  · have HF := Lib.hid (show cs.all coB = false from all_not HX.out (by unfold coB; rw [hcc, decide_eq_false (by omega : ¬ c.args.length ≤ 16)]; rfl))
                    go_wp2_with fail
                    refine (high_any _ hcn _).mono ?_
                    rw [hcc]
                    rintro e u3 ⟨rfl, hb3⟩
                    have e4 := bel_cell hb3 e4
                    have d2 := bel_cell hb3 d2
                    have hbz3 := HBW2.out.trans (hb3.mono HBW2.out.size)
                    clear hcc hb3
                    go_wp2
                    go_ret
                    exact ⟨by rw [RESC.out HF.out]; rfl, HB.out.trans (hbz3.mono HB.out.size)⟩
                  · have H16 := Lib.hid h16
                    go_wp2_with fail
                    refine (high_any _ hcn _).mono ?_
                    rw [hcc]
                    rintro e u3 ⟨rfl, hb3⟩
                    have e4 := bel_cell hb3 e4
                    have d2 := bel_cell hb3 d2
                    have hbz3 := HBW2.out.trans (hb3.mono HBW2.out.size)
                    clear hcc hb3
                    go_wp2
                    clear e4 d2 d1
                    go_loopw [6] (fun iv wr => ∃ j : Nat, j ≤ c.args.length ∧ iv = .int .i64 j ∧ Hid (∀ (i : Nat) (t : Ty), i < j → c.args[i]? = some t → t.rt 400 = true) ∧ Below W.heap.size W wr) (fun iv _ => c.args.length - (intOf iv).toNat)
                    case atStart => exact ⟨0, Nat.zero_le _, rfl, Lib.hid (fun i t hi => by omega), hbz3⟩
                    case round =>
                      obtain ⟨k3, hk3, rfl, H3, hbw4⟩ := hrel
                      obtain ⟨u4, ew⟩ : ∃ w0, w0 = wr := ⟨_, rfl⟩
                      rw [← ew] at hbw4 ⊢
                      clear ew
                      have gr4 := (hbw4.block _ (heap_lt G1.out)).trans G1.out
                      have e4 : u4.cell? ⟨w.heap.size, 4, none⟩ = some (.slice (some A1) cs.length cb) := by rw [Lib.cell_of_heap gr4]; rfl
                      obtain ⟨_, d1, _, qo2, qc2, d2, _, _, hl2⟩ := (HRow.out.on hbw4).cells
                      by_cases hlt3 : k3 < c.args.length
                      · have j3 : (k3 : Int) < c.args.length := by omega
                        obtain ⟨t, ht⟩ : ∃ x, c.args[k3]? = some x := ⟨c.args[k3], List.getElem?_eq_getElem hlt3⟩
                        obtain ⟨A3, rfl, _, hrow3⟩ := hl2.at ht
                        obtain ⟨xs, hv1, hv2⟩ := row_load hrow3.out 24 und_ty3 (by rw [Ty.row_len]; exact info_ty3)
                        have HV1 := Lib.hid hv1
                        have HV2 := Lib.hid (hv2 u4 (Below.refl _ _))
                        have HX3 := Lib.hid ht
                        have HBW4 := Lib.hid hbw4
                        clear gr4 hrow3 ht hv1 hv2 hl2 hbw4 hbz3
                        go_wp2_with (refine wpList_load_any rfl 24 _ rfl (A3.add (k3 * 4)) rfl xs.toArray HV2.out ?_)
                        refine (rdT_any t P xs u4 HV1.out).mono ?_
                        rintro e u5 ⟨rfl, hb5⟩
                        have hbw5 := HBW4.out.trans (hb5.mono HBW4.out.size)
                        clear hb5
                        cases hr : t.rt 400 with
                        | true =>
                          have HN : Hid (∀ (j : Nat) (t : Ty), j < k3 + 1 → c.args[j]? = some t → t.rt 400 = true) := Lib.hid (fun j s hj h1 => by
                            by_cases hji : j = k3
                            · subst hji
                              rw [HX3.out] at h1
                              cases h1; exact hr
                            · exact H3.out j s (by omega) h1)
                          clear hr
                          go_wp2
                          go_roundw
                          case rel => exact ⟨k3 + 1, by omega, by go_num, HN, hbw5⟩
                          case measure => simp [intOf]; omega
                        | false =>
                          have HF := Lib.hid (show cs.all coB = false from all_not HX.out (by unfold coB; rw [all_not (ok := fun t : Ty => t.rt 400) HX3.out hr, Bool.and_false, Bool.and_false]))
                          clear hr
                          go_wp2
                          go_ret
                          exact ⟨by rw [RESC.out HF.out]; rfl, HB.out.trans (hbw5.mono HB.out.size)⟩
                      · have j3 : ¬ (k3 : Int) < c.args.length := by omega
                        have HFo : Hid (coB c = true) := Lib.hid (by
                          unfold coB
                          rw [HCC.out, decide_eq_true (by have := H16.out; omega : c.args.length ≤ 16), all_step (ok := fun t : Ty => t.rt 400) fun j t h1 => H3.out j t (by have := (List.getElem?_eq_some_iff.1 h1).1; omega) h1]
                          rfl)
                        have HN : Hid (∀ (j : Nat) (t : Co), j < i2 + 1 → cs[j]? = some t → coB t = true) := Lib.hid (fun j t hj h1 => by
                          by_cases hji : j = i2
                          · subst hji
                            rw [HX.out] at h1
                            cases h1; exact HFo.out
                          · exact H2.out j t (by omega) h1)
                        clear gr4 hl2 hbz3
                        go_wp2
                        go_roundw
                        case rel => exact ⟨i2 + 1, by omega, by go_num, HN, hbw4⟩
                        case measure => simp [intOf]; omega
              · have j1 : ¬ (i2 : Int) < cs.length := by omega
                have HF := Lib.hid (show cs.all coB = true from all_step fun j t h1 => H2.out j t (by have := (List.getElem?_eq_some_iff.1 h1).1; omega) h1)
                clear gr2
                go_wp2
                go_ret
                exact ⟨by rw [RESOK.out HVars.out HF.out]; rfl, HB.out.trans (hbw2.mono HB.out.size)⟩
end Go.Proofs.YtdiffpiapdghoaaGreatDoor
