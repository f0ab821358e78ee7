/- Texts of this proof, joined: PDecls0, PDecls1, PDecls2, PDecls3, PDecls4. No condition. -/
import Derived.Test.YtkdhoelabomgkaaGreatDoorMa14
import Derived.Test.YtkdhoelabomgkaaGreatDoorMa11
import Derived.Test.YtkdhoelabomgkaaGreatDoorMa12
/-
  Layer 3, the program's side: declarations, held against each other: such as differ in themselves.
-/
namespace Go.Proofs.YtkdhoelabomgkaaGreatDoor
set_option linter.unusedVariables false
open Go.ChangeShapes Go.WideShapes Go.ChangeAt Go.RowKit

set_option maxHeartbeats 4000000 in
set_option maxRecDepth 100000 in
theorem decls_w0 (h a b : Addr) (lev : Int) (P Q : Nat → Prop) (w : World) (xk xp yk yp : Int) (xn yn : ByteArray) (xvs yvs : List ByteArray) (xcs ycs : List Co) (xt yt : Ty) (xps yps : List Pa) (xe ye : Ex)
    (ha : IsDe w P a (.mk xk xp xn xvs xcs xt xps xe)) (hb : IsDe w Q b (.mk yk yp yn yvs ycs yt yps ye))
    (hne : ¬ (xk = yk ∧ xn = yn)) :
    Calls Tryz.prog 49 #[.pointer (some h), .pointer (some a), .pointer (some b), .int .i64 lev] w fun e w' => e = .returned (.bool false) ∧ Below w.heap.size w w' := by
  obtain ⟨c0, _, c2, c2', ⟨a3, b3, c3, _, _, x3⟩, ⟨a4, b4, c4, _, _, x4⟩, x5, ⟨a9, b9, c9, _, _, x9⟩, x10⟩ := ha.cells
  obtain ⟨d0, _, d2, d2', ⟨r3, s3, d3, _, _, y3⟩, ⟨r4, s4, d4, _, _, y4⟩, y5, ⟨r9, s9, d9, _, _, y9⟩, y10⟩ := hb.cells
  have HNE := Lib.hid hne
  clear hne
  clear ha hb x3 x4 x5 x9 x10 y3 y4 y5 y9 y10
  have HF : Hid (∀ V : World, Below w.heap.size w V → V.cell? a = some (.int .i64 xk) ∧ V.cell? ⟨a.block, a.off + 2, none⟩ = some (.string xn) ∧ V.cell? ⟨a.block, a.off + 3, none⟩ = some (.slice a3 xvs.length b3) ∧ V.cell? ⟨a.block, a.off + 4, none⟩ = some (.slice a4 xcs.length b4) ∧ V.cell? ⟨a.block, a.off + 9, none⟩ = some (.slice a9 xps.length b9) ∧ V.cell? b = some (.int .i64 yk) ∧ V.cell? ⟨b.block, b.off + 2, none⟩ = some (.string yn) ∧ V.cell? ⟨b.block, b.off + 3, none⟩ = some (.slice r3 yvs.length s3) ∧ V.cell? ⟨b.block, b.off + 4, none⟩ = some (.slice r4 ycs.length s4) ∧ V.cell? ⟨b.block, b.off + 9, none⟩ = some (.slice r9 yps.length s9)) := Lib.hid (fun V hV => ⟨(hV.cell (Lib.lt_of_cell c0)).trans c0, (hV.cell (Lib.lt_of_cell c2)).trans c2, (hV.cell (Lib.lt_of_cell c3)).trans c3, (hV.cell (Lib.lt_of_cell c4)).trans c4, (hV.cell (Lib.lt_of_cell c9)).trans c9, (hV.cell (Lib.lt_of_cell d0)).trans d0, (hV.cell (Lib.lt_of_cell d2)).trans d2, (hV.cell (Lib.lt_of_cell d3)).trans d3, (hV.cell (Lib.lt_of_cell d4)).trans d4, (hV.cell (Lib.lt_of_cell d9)).trans d9⟩)
  clear c0 c2 c3 c4 c9 d0 d2 d3 d4 d9
  go_enter Tryz.func49, Tryz.ntmps49
  go_wp2
  have hw2 : Below w.heap.size w w.drew := (Below.refl _ _).drew
  simp only [List.append_eq, List.cons_append, List.nil_append]
  refine wp_region_plan [(30, 3), (11, 3), (8, 3), (11, 3), (8, 3)] (by kernel_rfl) (by kernel_rfl) ?_
  change Wrapped (wpPlan _ _ _ _ _ _ w.drew)
  generalize w.drew = w2 at hw2 ⊢
  by_cases hk : xk = yk
  · subst hk
    have hn : ¬ xn = yn := fun e => HNE.out ⟨rfl, e⟩
    have q2 := text_ne hn
    clear hn
    obtain ⟨c0, c2, c3, c4, c9, d0, d2, d3, d4, d9⟩ := HF.out w2 hw2
    refine plan_step ?_
    simp only [List.take_succ_cons, List.take_zero, List.drop_succ_cons, List.drop_zero, Nat.reduceAdd]
    repeat (refine wst_step (fun K hK => ?_); go_simp; refine hK _ ?_; clear hK K)
    refine wst_nil ?_
    intro K hK
    have HK := Lib.hid hK
    clear hK
    go_wp2_with fail
    refine HK.out _ _ ?_
    clear HK K c0 c2 c3 c4 c9 d0 d2 d3 d4 d9
    obtain ⟨c0, c2, c3, c4, c9, d0, d2, d3, d4, d9⟩ := HF.out w2 hw2
    refine plan_step ?_
    simp only [List.take_succ_cons, List.take_zero, List.drop_succ_cons, List.drop_zero, Nat.reduceAdd]
    repeat (refine wst_step (fun K hK => ?_); go_simp; refine hK _ ?_; clear hK K)
    refine wst_nil ?_
    intro K hK
    have HK := Lib.hid hK
    clear hK
    go_wp2_with fail
    refine HK.out _ _ ?_
    clear HK K c0 c2 c3 c4 c9 d0 d2 d3 d4 d9
    obtain ⟨c0, c2, c3, c4, c9, d0, d2, d3, d4, d9⟩ := HF.out w2 hw2
    refine plan_step ?_
    simp only [List.take_succ_cons, List.take_zero, List.drop_succ_cons, List.drop_zero, Nat.reduceAdd]
    repeat (refine wst_step (fun K hK => ?_); go_simp; refine hK _ ?_; clear hK K)
    refine wst_nil ?_
    intro K hK
    have HK := Lib.hid hK
    clear hK
    go_wp2_with fail
    refine HK.out _ _ ?_
    clear HK K c0 c2 c3 c4 c9 d0 d2 d3 d4 d9
    obtain ⟨c0, c2, c3, c4, c9, d0, d2, d3, d4, d9⟩ := HF.out w2 hw2
    refine plan_step ?_
    simp only [List.take_succ_cons, List.take_zero, List.drop_succ_cons, List.drop_zero, Nat.reduceAdd]
    repeat (refine wst_step (fun K hK => ?_); go_simp; refine hK _ ?_; clear hK K)
    refine wst_nil ?_
    intro K hK
    have HK := Lib.hid hK
    clear hK
    go_wp2_with fail
    refine HK.out _ _ ?_
    clear HK K c0 c2 c3 c4 c9 d0 d2 d3 d4 d9
    obtain ⟨c0, c2, c3, c4, c9, d0, d2, d3, d4, d9⟩ := HF.out w2 hw2
    refine plan_step ?_
    simp only [List.take_succ_cons, List.take_zero, List.drop_succ_cons, List.drop_zero, Nat.reduceAdd]
    repeat (refine wst_step (fun K hK => ?_); go_simp; refine hK _ ?_; clear hK K)
    refine wst_nil ?_
    intro K hK
    have HK := Lib.hid hK
    clear hK
    go_wp2_with fail
    refine HK.out _ _ ?_
    clear HK K c0 c2 c3 c4 c9 d0 d2 d3 d4 d9
    refine plan_end ?_
    go_wp2
    go_ret
    exact ⟨rfl, hw2⟩
  · have q1 : (xk == yk) = false := by rw [beq_eq_false_iff_ne]; exact hk
    clear hk
    obtain ⟨c0, c2, c3, c4, c9, d0, d2, d3, d4, d9⟩ := HF.out w2 hw2
    refine plan_step ?_
    simp only [List.take_succ_cons, List.take_zero, List.drop_succ_cons, List.drop_zero, Nat.reduceAdd]
    repeat (refine wst_step (fun K hK => ?_); go_simp; refine hK _ ?_; clear hK K)
    refine wst_nil ?_
    intro K hK
    have HK := Lib.hid hK
    clear hK
    go_wp2_with fail
    refine HK.out _ _ ?_
    clear HK K c0 c2 c3 c4 c9 d0 d2 d3 d4 d9
    obtain ⟨c0, c2, c3, c4, c9, d0, d2, d3, d4, d9⟩ := HF.out w2 hw2
    refine plan_step ?_
    simp only [List.take_succ_cons, List.take_zero, List.drop_succ_cons, List.drop_zero, Nat.reduceAdd]
    repeat (refine wst_step (fun K hK => ?_); go_simp; refine hK _ ?_; clear hK K)
    refine wst_nil ?_
    intro K hK
    have HK := Lib.hid hK
    clear hK
    go_wp2_with fail
    refine HK.out _ _ ?_
    clear HK K c0 c2 c3 c4 c9 d0 d2 d3 d4 d9
    obtain ⟨c0, c2, c3, c4, c9, d0, d2, d3, d4, d9⟩ := HF.out w2 hw2
    refine plan_step ?_
    simp only [List.take_succ_cons, List.take_zero, List.drop_succ_cons, List.drop_zero, Nat.reduceAdd]
    repeat (refine wst_step (fun K hK => ?_); go_simp; refine hK _ ?_; clear hK K)
    refine wst_nil ?_
    intro K hK
    have HK := Lib.hid hK
    clear hK
    go_wp2_with fail
    refine HK.out _ _ ?_
    clear HK K c0 c2 c3 c4 c9 d0 d2 d3 d4 d9
    obtain ⟨c0, c2, c3, c4, c9, d0, d2, d3, d4, d9⟩ := HF.out w2 hw2
    refine plan_step ?_
    simp only [List.take_succ_cons, List.take_zero, List.drop_succ_cons, List.drop_zero, Nat.reduceAdd]
    repeat (refine wst_step (fun K hK => ?_); go_simp; refine hK _ ?_; clear hK K)
    refine wst_nil ?_
    intro K hK
    have HK := Lib.hid hK
    clear hK
    go_wp2_with fail
    refine HK.out _ _ ?_
    clear HK K c0 c2 c3 c4 c9 d0 d2 d3 d4 d9
    obtain ⟨c0, c2, c3, c4, c9, d0, d2, d3, d4, d9⟩ := HF.out w2 hw2
    refine plan_step ?_
    simp only [List.take_succ_cons, List.take_zero, List.drop_succ_cons, List.drop_zero, Nat.reduceAdd]
    repeat (refine wst_step (fun K hK => ?_); go_simp; refine hK _ ?_; clear hK K)
    refine wst_nil ?_
    intro K hK
    have HK := Lib.hid hK
    clear hK
    go_wp2_with fail
    refine HK.out _ _ ?_
    clear HK K c0 c2 c3 c4 c9 d0 d2 d3 d4 d9
    refine plan_end ?_
    go_wp2
    go_ret
    exact ⟨rfl, hw2⟩
end Go.Proofs.YtkdhoelabomgkaaGreatDoor
/-
  Layer 3, the program's side: declarations, held against each other: what comes of the first 1 of their parts.
-/
namespace Go.Proofs.YtkdhoelabomgkaaGreatDoor
set_option linter.unusedVariables false
open Go.ChangeShapes Go.WideShapes Go.ChangeAt Go.RowKit

set_option maxHeartbeats 4000000 in
set_option maxRecDepth 100000 in
theorem decls_w1 (h a b : Addr) (lev : Int) (P Q : Nat → Prop) (w : World) (xk xp yp : Int) (xn : ByteArray) (xvs yvs : List ByteArray) (xcs ycs : List Co) (xt yt : Ty) (xps yps : List Pa) (xe ye : Ex)
    (ha : IsDe w P a (.mk xk xp xn xvs xcs xt xps xe)) (hb : IsDe w Q b (.mk xk yp xn yvs ycs yt yps ye))
    (hc1 : ∀ (v v' : Value), IsTxs w P v xvs → IsTxs w Q v' yvs → Gives 88 #[v, v', .int .i64 lev, .func (.func 89) #[] #[]] w false) :
    Calls Tryz.prog 49 #[.pointer (some h), .pointer (some a), .pointer (some b), .int .i64 lev] w fun e w' => e = .returned (.bool false) ∧ Below w.heap.size w w' := by
  obtain ⟨c0, _, c2, c2', ⟨a3, b3, c3, _, _, x3⟩, ⟨a4, b4, c4, _, _, x4⟩, x5, ⟨a9, b9, c9, _, _, x9⟩, x10⟩ := ha.cells
  obtain ⟨d0, _, d2, d2', ⟨r3, s3, d3, _, _, y3⟩, ⟨r4, s4, d4, _, _, y4⟩, y5, ⟨r9, s9, d9, _, _, y9⟩, y10⟩ := hb.cells
  have f1 := hc1 _ _ x3 y3
  have C1 := Lib.hid f1
  clear ha hb x3 x4 x5 x9 x10 y3 y4 y5 y9 y10 hc1 f1
  have HF : Hid (∀ V : World, Below w.heap.size w V → V.cell? a = some (.int .i64 xk) ∧ V.cell? ⟨a.block, a.off + 2, none⟩ = some (.string xn) ∧ V.cell? ⟨a.block, a.off + 3, none⟩ = some (.slice a3 xvs.length b3) ∧ V.cell? ⟨a.block, a.off + 4, none⟩ = some (.slice a4 xcs.length b4) ∧ V.cell? ⟨a.block, a.off + 9, none⟩ = some (.slice a9 xps.length b9) ∧ V.cell? b = some (.int .i64 xk) ∧ V.cell? ⟨b.block, b.off + 2, none⟩ = some (.string xn) ∧ V.cell? ⟨b.block, b.off + 3, none⟩ = some (.slice r3 yvs.length s3) ∧ V.cell? ⟨b.block, b.off + 4, none⟩ = some (.slice r4 ycs.length s4) ∧ V.cell? ⟨b.block, b.off + 9, none⟩ = some (.slice r9 yps.length s9)) := Lib.hid (fun V hV => ⟨(hV.cell (Lib.lt_of_cell c0)).trans c0, (hV.cell (Lib.lt_of_cell c2)).trans c2, (hV.cell (Lib.lt_of_cell c3)).trans c3, (hV.cell (Lib.lt_of_cell c4)).trans c4, (hV.cell (Lib.lt_of_cell c9)).trans c9, (hV.cell (Lib.lt_of_cell d0)).trans d0, (hV.cell (Lib.lt_of_cell d2)).trans d2, (hV.cell (Lib.lt_of_cell d3)).trans d3, (hV.cell (Lib.lt_of_cell d4)).trans d4, (hV.cell (Lib.lt_of_cell d9)).trans d9⟩)
  clear c0 c2 c3 c4 c9 d0 d2 d3 d4 d9
  go_enter Tryz.func49, Tryz.ntmps49
  go_wp2
  have hw2 : Below w.heap.size w w.drew := (Below.refl _ _).drew
  simp only [List.append_eq, List.cons_append, List.nil_append]
  refine wp_region_plan [(30, 3), (11, 3), (8, 3), (11, 3), (8, 3)] (by kernel_rfl) (by kernel_rfl) ?_
  change Wrapped (wpPlan _ _ _ _ _ _ w.drew)
  generalize w.drew = w2 at hw2 ⊢
  obtain ⟨c0, c2, c3, c4, c9, d0, d2, d3, d4, d9⟩ := HF.out w2 hw2
  refine plan_step ?_
  simp only [List.take_succ_cons, List.take_zero, List.drop_succ_cons, List.drop_zero, Nat.reduceAdd]
  repeat (refine wst_step (fun K hK => ?_); go_simp; refine hK _ ?_; clear hK K)
  refine wst_nil ?_
  intro K hK
  have HK := Lib.hid hK
  clear hK
  go_wp2_with fail
  refine (C1.out w2 hw2).mono ?_
  rintro e w3 ⟨rfl, hw3⟩
  go_wp2
  refine HK.out _ _ ?_
  clear HK K c0 c2 c3 c4 c9 d0 d2 d3 d4 d9
  obtain ⟨c0, c2, c3, c4, c9, d0, d2, d3, d4, d9⟩ := HF.out w3 hw3
  refine plan_step ?_
  simp only [List.take_succ_cons, List.take_zero, List.drop_succ_cons, List.drop_zero, Nat.reduceAdd]
  repeat (refine wst_step (fun K hK => ?_); go_simp; refine hK _ ?_; clear hK K)
  refine wst_nil ?_
  intro K hK
  have HK := Lib.hid hK
  clear hK
  go_wp2_with fail
  refine HK.out _ _ ?_
  clear HK K c0 c2 c3 c4 c9 d0 d2 d3 d4 d9
  obtain ⟨c0, c2, c3, c4, c9, d0, d2, d3, d4, d9⟩ := HF.out w3 hw3
  refine plan_step ?_
  simp only [List.take_succ_cons, List.take_zero, List.drop_succ_cons, List.drop_zero, Nat.reduceAdd]
  repeat (refine wst_step (fun K hK => ?_); go_simp; refine hK _ ?_; clear hK K)
  refine wst_nil ?_
  intro K hK
  have HK := Lib.hid hK
  clear hK
  go_wp2_with fail
  refine HK.out _ _ ?_
  clear HK K c0 c2 c3 c4 c9 d0 d2 d3 d4 d9
  obtain ⟨c0, c2, c3, c4, c9, d0, d2, d3, d4, d9⟩ := HF.out w3 hw3
  refine plan_step ?_
  simp only [List.take_succ_cons, List.take_zero, List.drop_succ_cons, List.drop_zero, Nat.reduceAdd]
  repeat (refine wst_step (fun K hK => ?_); go_simp; refine hK _ ?_; clear hK K)
  refine wst_nil ?_
  intro K hK
  have HK := Lib.hid hK
  clear hK
  go_wp2_with fail
  refine HK.out _ _ ?_
  clear HK K c0 c2 c3 c4 c9 d0 d2 d3 d4 d9
  obtain ⟨c0, c2, c3, c4, c9, d0, d2, d3, d4, d9⟩ := HF.out w3 hw3
  refine plan_step ?_
  simp only [List.take_succ_cons, List.take_zero, List.drop_succ_cons, List.drop_zero, Nat.reduceAdd]
  repeat (refine wst_step (fun K hK => ?_); go_simp; refine hK _ ?_; clear hK K)
  refine wst_nil ?_
  intro K hK
  have HK := Lib.hid hK
  clear hK
  go_wp2_with fail
  refine HK.out _ _ ?_
  clear HK K c0 c2 c3 c4 c9 d0 d2 d3 d4 d9
  refine plan_end ?_
  go_wp2
  go_ret
  exact ⟨rfl, hw3⟩
end Go.Proofs.YtkdhoelabomgkaaGreatDoor
/-
  Layer 3, the program's side: declarations, held against each other: what comes of the first 2 of their parts.
-/
namespace Go.Proofs.YtkdhoelabomgkaaGreatDoor
set_option linter.unusedVariables false
open Go.ChangeShapes Go.WideShapes Go.ChangeAt Go.RowKit

set_option maxHeartbeats 4000000 in
set_option maxRecDepth 100000 in
theorem decls_w2 (h a b : Addr) (lev : Int) (P Q : Nat → Prop) (w : World) (xk xp yp : Int) (xn : ByteArray) (xvs yvs : List ByteArray) (xcs ycs : List Co) (xt yt : Ty) (xps yps : List Pa) (xe ye : Ex)
    (ha : IsDe w P a (.mk xk xp xn xvs xcs xt xps xe)) (hb : IsDe w Q b (.mk xk yp xn yvs ycs yt yps ye))
    (hc1 : ∀ (v v' : Value), IsTxs w P v xvs → IsTxs w Q v' yvs → Gives 88 #[v, v', .int .i64 lev, .func (.func 89) #[] #[]] w true)
    (hc2 : ∀ (v v' : Value), IsCos w P v xcs → IsCos w Q v' ycs → Gives 90 #[v, v', .int .i64 lev, .func (.func 91) #[.pointer (some h)] #[]] w false) :
    Calls Tryz.prog 49 #[.pointer (some h), .pointer (some a), .pointer (some b), .int .i64 lev] w fun e w' => e = .returned (.bool false) ∧ Below w.heap.size w w' := by
  obtain ⟨c0, _, c2, c2', ⟨a3, b3, c3, _, _, x3⟩, ⟨a4, b4, c4, _, _, x4⟩, x5, ⟨a9, b9, c9, _, _, x9⟩, x10⟩ := ha.cells
  obtain ⟨d0, _, d2, d2', ⟨r3, s3, d3, _, _, y3⟩, ⟨r4, s4, d4, _, _, y4⟩, y5, ⟨r9, s9, d9, _, _, y9⟩, y10⟩ := hb.cells
  have f1 := hc1 _ _ x3 y3
  have C1 := Lib.hid f1
  have f2 := hc2 _ _ x4 y4
  have C2 := Lib.hid f2
  clear ha hb x3 x4 x5 x9 x10 y3 y4 y5 y9 y10 hc1 f1 hc2 f2
  have HF : Hid (∀ V : World, Below w.heap.size w V → V.cell? a = some (.int .i64 xk) ∧ V.cell? ⟨a.block, a.off + 2, none⟩ = some (.string xn) ∧ V.cell? ⟨a.block, a.off + 3, none⟩ = some (.slice a3 xvs.length b3) ∧ V.cell? ⟨a.block, a.off + 4, none⟩ = some (.slice a4 xcs.length b4) ∧ V.cell? ⟨a.block, a.off + 9, none⟩ = some (.slice a9 xps.length b9) ∧ V.cell? b = some (.int .i64 xk) ∧ V.cell? ⟨b.block, b.off + 2, none⟩ = some (.string xn) ∧ V.cell? ⟨b.block, b.off + 3, none⟩ = some (.slice r3 yvs.length s3) ∧ V.cell? ⟨b.block, b.off + 4, none⟩ = some (.slice r4 ycs.length s4) ∧ V.cell? ⟨b.block, b.off + 9, none⟩ = some (.slice r9 yps.length s9)) := Lib.hid (fun V hV => ⟨(hV.cell (Lib.lt_of_cell c0)).trans c0, (hV.cell (Lib.lt_of_cell c2)).trans c2, (hV.cell (Lib.lt_of_cell c3)).trans c3, (hV.cell (Lib.lt_of_cell c4)).trans c4, (hV.cell (Lib.lt_of_cell c9)).trans c9, (hV.cell (Lib.lt_of_cell d0)).trans d0, (hV.cell (Lib.lt_of_cell d2)).trans d2, (hV.cell (Lib.lt_of_cell d3)).trans d3, (hV.cell (Lib.lt_of_cell d4)).trans d4, (hV.cell (Lib.lt_of_cell d9)).trans d9⟩)
  clear c0 c2 c3 c4 c9 d0 d2 d3 d4 d9
  go_enter Tryz.func49, Tryz.ntmps49
  go_wp2
  have hw2 : Below w.heap.size w w.drew := (Below.refl _ _).drew
  simp only [List.append_eq, List.cons_append, List.nil_append]
  refine wp_region_plan [(30, 3), (11, 3), (8, 3), (11, 3), (8, 3)] (by kernel_rfl) (by kernel_rfl) ?_
  change Wrapped (wpPlan _ _ _ _ _ _ w.drew)
  generalize w.drew = w2 at hw2 ⊢
  obtain ⟨c0, c2, c3, c4, c9, d0, d2, d3, d4, d9⟩ := HF.out w2 hw2
  refine plan_step ?_
  simp only [List.take_succ_cons, List.take_zero, List.drop_succ_cons, List.drop_zero, Nat.reduceAdd]
  repeat (refine wst_step (fun K hK => ?_); go_simp; refine hK _ ?_; clear hK K)
  refine wst_nil ?_
  intro K hK
  have HK := Lib.hid hK
  clear hK
  go_wp2_with fail
  refine (C1.out w2 hw2).mono ?_
  rintro e w3 ⟨rfl, hw3⟩
  go_wp2
  refine HK.out _ _ ?_
  clear HK K c0 c2 c3 c4 c9 d0 d2 d3 d4 d9
  obtain ⟨c0, c2, c3, c4, c9, d0, d2, d3, d4, d9⟩ := HF.out w3 hw3
  refine plan_step ?_
  simp only [List.take_succ_cons, List.take_zero, List.drop_succ_cons, List.drop_zero, Nat.reduceAdd]
  repeat (refine wst_step (fun K hK => ?_); go_simp; refine hK _ ?_; clear hK K)
  refine wst_nil ?_
  intro K hK
  have HK := Lib.hid hK
  clear hK
  go_wp2_with fail
  refine (C2.out w3 hw3).mono ?_
  rintro e w4 ⟨rfl, hw4⟩
  go_wp2
  refine HK.out _ _ ?_
  clear HK K c0 c2 c3 c4 c9 d0 d2 d3 d4 d9
  obtain ⟨c0, c2, c3, c4, c9, d0, d2, d3, d4, d9⟩ := HF.out w4 hw4
  refine plan_step ?_
  simp only [List.take_succ_cons, List.take_zero, List.drop_succ_cons, List.drop_zero, Nat.reduceAdd]
  repeat (refine wst_step (fun K hK => ?_); go_simp; refine hK _ ?_; clear hK K)
  refine wst_nil ?_
  intro K hK
  have HK := Lib.hid hK
  clear hK
  go_wp2_with fail
  refine HK.out _ _ ?_
  clear HK K c0 c2 c3 c4 c9 d0 d2 d3 d4 d9
  obtain ⟨c0, c2, c3, c4, c9, d0, d2, d3, d4, d9⟩ := HF.out w4 hw4
  refine plan_step ?_
  simp only [List.take_succ_cons, List.take_zero, List.drop_succ_cons, List.drop_zero, Nat.reduceAdd]
  repeat (refine wst_step (fun K hK => ?_); go_simp; refine hK _ ?_; clear hK K)
  refine wst_nil ?_
  intro K hK
  have HK := Lib.hid hK
  clear hK
  go_wp2_with fail
  refine HK.out _ _ ?_
  clear HK K c0 c2 c3 c4 c9 d0 d2 d3 d4 d9
  obtain ⟨c0, c2, c3, c4, c9, d0, d2, d3, d4, d9⟩ := HF.out w4 hw4
  refine plan_step ?_
  simp only [List.take_succ_cons, List.take_zero, List.drop_succ_cons, List.drop_zero, Nat.reduceAdd]
  repeat (refine wst_step (fun K hK => ?_); go_simp; refine hK _ ?_; clear hK K)
  refine wst_nil ?_
  intro K hK
  have HK := Lib.hid hK
  clear hK
  go_wp2_with fail
  refine HK.out _ _ ?_
  clear HK K c0 c2 c3 c4 c9 d0 d2 d3 d4 d9
  refine plan_end ?_
  go_wp2
  go_ret
  exact ⟨rfl, hw4⟩
end Go.Proofs.YtkdhoelabomgkaaGreatDoor
/-
  Layer 3, the program's side: declarations, held against each other: what comes of the first 3 of their parts.
-/
namespace Go.Proofs.YtkdhoelabomgkaaGreatDoor
set_option linter.unusedVariables false
open Go.ChangeShapes Go.WideShapes Go.ChangeAt Go.RowKit

set_option maxHeartbeats 4000000 in
set_option maxRecDepth 100000 in
theorem decls_w3 (h a b : Addr) (lev : Int) (P Q : Nat → Prop) (w : World) (xk xp yp : Int) (xn : ByteArray) (xvs yvs : List ByteArray) (xcs ycs : List Co) (xt yt : Ty) (xps yps : List Pa) (xe ye : Ex)
    (ha : IsDe w P a (.mk xk xp xn xvs xcs xt xps xe)) (hb : IsDe w Q b (.mk xk yp xn yvs ycs yt yps ye))
    (hc1 : ∀ (v v' : Value), IsTxs w P v xvs → IsTxs w Q v' yvs → Gives 88 #[v, v', .int .i64 lev, .func (.func 89) #[] #[]] w true)
    (hc2 : ∀ (v v' : Value), IsCos w P v xcs → IsCos w Q v' ycs → Gives 90 #[v, v', .int .i64 lev, .func (.func 91) #[.pointer (some h)] #[]] w true)
    (hc3 : IsTy w P (a.add 5) xt → IsTy w Q (b.add 5) yt → Gives 46 #[.pointer (some h), .pointer (some (a.add 5)), .pointer (some (b.add 5)), .int .i64 lev] w false) :
    Calls Tryz.prog 49 #[.pointer (some h), .pointer (some a), .pointer (some b), .int .i64 lev] w fun e w' => e = .returned (.bool false) ∧ Below w.heap.size w w' := by
  obtain ⟨c0, _, c2, c2', ⟨a3, b3, c3, _, _, x3⟩, ⟨a4, b4, c4, _, _, x4⟩, x5, ⟨a9, b9, c9, _, _, x9⟩, x10⟩ := ha.cells
  obtain ⟨d0, _, d2, d2', ⟨r3, s3, d3, _, _, y3⟩, ⟨r4, s4, d4, _, _, y4⟩, y5, ⟨r9, s9, d9, _, _, y9⟩, y10⟩ := hb.cells
  have f1 := hc1 _ _ x3 y3
  have C1 := Lib.hid f1
  have f2 := hc2 _ _ x4 y4
  have C2 := Lib.hid f2
  have f3 := hc3 x5 y5
  rw [add_off _ _ (by decide), add_off _ _ (by decide)] at f3
  have C3 := Lib.hid f3
  clear ha hb x3 x4 x5 x9 x10 y3 y4 y5 y9 y10 hc1 f1 hc2 f2 hc3 f3
  have HF : Hid (∀ V : World, Below w.heap.size w V → V.cell? a = some (.int .i64 xk) ∧ V.cell? ⟨a.block, a.off + 2, none⟩ = some (.string xn) ∧ V.cell? ⟨a.block, a.off + 3, none⟩ = some (.slice a3 xvs.length b3) ∧ V.cell? ⟨a.block, a.off + 4, none⟩ = some (.slice a4 xcs.length b4) ∧ V.cell? ⟨a.block, a.off + 9, none⟩ = some (.slice a9 xps.length b9) ∧ V.cell? b = some (.int .i64 xk) ∧ V.cell? ⟨b.block, b.off + 2, none⟩ = some (.string xn) ∧ V.cell? ⟨b.block, b.off + 3, none⟩ = some (.slice r3 yvs.length s3) ∧ V.cell? ⟨b.block, b.off + 4, none⟩ = some (.slice r4 ycs.length s4) ∧ V.cell? ⟨b.block, b.off + 9, none⟩ = some (.slice r9 yps.length s9)) := Lib.hid (fun V hV => ⟨(hV.cell (Lib.lt_of_cell c0)).trans c0, (hV.cell (Lib.lt_of_cell c2)).trans c2, (hV.cell (Lib.lt_of_cell c3)).trans c3, (hV.cell (Lib.lt_of_cell c4)).trans c4, (hV.cell (Lib.lt_of_cell c9)).trans c9, (hV.cell (Lib.lt_of_cell d0)).trans d0, (hV.cell (Lib.lt_of_cell d2)).trans d2, (hV.cell (Lib.lt_of_cell d3)).trans d3, (hV.cell (Lib.lt_of_cell d4)).trans d4, (hV.cell (Lib.lt_of_cell d9)).trans d9⟩)
  clear c0 c2 c3 c4 c9 d0 d2 d3 d4 d9
  go_enter Tryz.func49, Tryz.ntmps49
  go_wp2
  have hw2 : Below w.heap.size w w.drew := (Below.refl _ _).drew
  simp only [List.append_eq, List.cons_append, List.nil_append]
  refine wp_region_plan [(30, 3), (11, 3), (8, 3), (11, 3), (8, 3)] (by kernel_rfl) (by kernel_rfl) ?_
  change Wrapped (wpPlan _ _ _ _ _ _ w.drew)
  generalize w.drew = w2 at hw2 ⊢
  obtain ⟨c0, c2, c3, c4, c9, d0, d2, d3, d4, d9⟩ := HF.out w2 hw2
  refine plan_step ?_
  simp only [List.take_succ_cons, List.take_zero, List.drop_succ_cons, List.drop_zero, Nat.reduceAdd]
  repeat (refine wst_step (fun K hK => ?_); go_simp; refine hK _ ?_; clear hK K)
  refine wst_nil ?_
  intro K hK
  have HK := Lib.hid hK
  clear hK
  go_wp2_with fail
  refine (C1.out w2 hw2).mono ?_
  rintro e w3 ⟨rfl, hw3⟩
  go_wp2
  refine HK.out _ _ ?_
  clear HK K c0 c2 c3 c4 c9 d0 d2 d3 d4 d9
  obtain ⟨c0, c2, c3, c4, c9, d0, d2, d3, d4, d9⟩ := HF.out w3 hw3
  refine plan_step ?_
  simp only [List.take_succ_cons, List.take_zero, List.drop_succ_cons, List.drop_zero, Nat.reduceAdd]
  repeat (refine wst_step (fun K hK => ?_); go_simp; refine hK _ ?_; clear hK K)
  refine wst_nil ?_
  intro K hK
  have HK := Lib.hid hK
  clear hK
  go_wp2_with fail
  refine (C2.out w3 hw3).mono ?_
  rintro e w4 ⟨rfl, hw4⟩
  go_wp2
  refine HK.out _ _ ?_
  clear HK K c0 c2 c3 c4 c9 d0 d2 d3 d4 d9
  obtain ⟨c0, c2, c3, c4, c9, d0, d2, d3, d4, d9⟩ := HF.out w4 hw4
  refine plan_step ?_
  simp only [List.take_succ_cons, List.take_zero, List.drop_succ_cons, List.drop_zero, Nat.reduceAdd]
  repeat (refine wst_step (fun K hK => ?_); go_simp; refine hK _ ?_; clear hK K)
  refine wst_nil ?_
  intro K hK
  have HK := Lib.hid hK
  clear hK
  go_wp2_with fail
  refine (C3.out w4 hw4).mono ?_
  rintro e w5 ⟨rfl, hw5⟩
  go_wp2
  refine HK.out _ _ ?_
  clear HK K c0 c2 c3 c4 c9 d0 d2 d3 d4 d9
  obtain ⟨c0, c2, c3, c4, c9, d0, d2, d3, d4, d9⟩ := HF.out w5 hw5
  refine plan_step ?_
  simp only [List.take_succ_cons, List.take_zero, List.drop_succ_cons, List.drop_zero, Nat.reduceAdd]
  repeat (refine wst_step (fun K hK => ?_); go_simp; refine hK _ ?_; clear hK K)
  refine wst_nil ?_
  intro K hK
  have HK := Lib.hid hK
  clear hK
  go_wp2_with fail
  refine HK.out _ _ ?_
  clear HK K c0 c2 c3 c4 c9 d0 d2 d3 d4 d9
  obtain ⟨c0, c2, c3, c4, c9, d0, d2, d3, d4, d9⟩ := HF.out w5 hw5
  refine plan_step ?_
  simp only [List.take_succ_cons, List.take_zero, List.drop_succ_cons, List.drop_zero, Nat.reduceAdd]
  repeat (refine wst_step (fun K hK => ?_); go_simp; refine hK _ ?_; clear hK K)
  refine wst_nil ?_
  intro K hK
  have HK := Lib.hid hK
  clear hK
  go_wp2_with fail
  refine HK.out _ _ ?_
  clear HK K c0 c2 c3 c4 c9 d0 d2 d3 d4 d9
  refine plan_end ?_
  go_wp2
  go_ret
  exact ⟨rfl, hw5⟩
end Go.Proofs.YtkdhoelabomgkaaGreatDoor
/-
  Layer 3, the program's side: declarations, held against each other: what comes of the first 4 of their parts.
-/
namespace Go.Proofs.YtkdhoelabomgkaaGreatDoor
set_option linter.unusedVariables false
open Go.ChangeShapes Go.WideShapes Go.ChangeAt Go.RowKit

set_option maxHeartbeats 4000000 in
set_option maxRecDepth 100000 in
theorem decls_w4 (h a b : Addr) (lev : Int) (P Q : Nat → Prop) (w : World) (xk xp yp : Int) (xn : ByteArray) (xvs yvs : List ByteArray) (xcs ycs : List Co) (xt yt : Ty) (xps yps : List Pa) (xe ye : Ex)
    (ha : IsDe w P a (.mk xk xp xn xvs xcs xt xps xe)) (hb : IsDe w Q b (.mk xk yp xn yvs ycs yt yps ye))
    (hc1 : ∀ (v v' : Value), IsTxs w P v xvs → IsTxs w Q v' yvs → Gives 88 #[v, v', .int .i64 lev, .func (.func 89) #[] #[]] w true)
    (hc2 : ∀ (v v' : Value), IsCos w P v xcs → IsCos w Q v' ycs → Gives 90 #[v, v', .int .i64 lev, .func (.func 91) #[.pointer (some h)] #[]] w true)
    (hc3 : IsTy w P (a.add 5) xt → IsTy w Q (b.add 5) yt → Gives 46 #[.pointer (some h), .pointer (some (a.add 5)), .pointer (some (b.add 5)), .int .i64 lev] w true)
    (hc4 : ∀ (v v' : Value), IsPas w P v xps → IsPas w Q v' yps → Gives 81 #[v, v', .int .i64 lev, .func (.func 43) #[.pointer (some h)] #[]] w false) :
    Calls Tryz.prog 49 #[.pointer (some h), .pointer (some a), .pointer (some b), .int .i64 lev] w fun e w' => e = .returned (.bool false) ∧ Below w.heap.size w w' := by
  obtain ⟨c0, _, c2, c2', ⟨a3, b3, c3, _, _, x3⟩, ⟨a4, b4, c4, _, _, x4⟩, x5, ⟨a9, b9, c9, _, _, x9⟩, x10⟩ := ha.cells
  obtain ⟨d0, _, d2, d2', ⟨r3, s3, d3, _, _, y3⟩, ⟨r4, s4, d4, _, _, y4⟩, y5, ⟨r9, s9, d9, _, _, y9⟩, y10⟩ := hb.cells
  have f1 := hc1 _ _ x3 y3
  have C1 := Lib.hid f1
  have f2 := hc2 _ _ x4 y4
  have C2 := Lib.hid f2
  have f3 := hc3 x5 y5
  rw [add_off _ _ (by decide), add_off _ _ (by decide)] at f3
  have C3 := Lib.hid f3
  have f4 := hc4 _ _ x9 y9
  have C4 := Lib.hid f4
  clear ha hb x3 x4 x5 x9 x10 y3 y4 y5 y9 y10 hc1 f1 hc2 f2 hc3 f3 hc4 f4
  have HF : Hid (∀ V : World, Below w.heap.size w V → V.cell? a = some (.int .i64 xk) ∧ V.cell? ⟨a.block, a.off + 2, none⟩ = some (.string xn) ∧ V.cell? ⟨a.block, a.off + 3, none⟩ = some (.slice a3 xvs.length b3) ∧ V.cell? ⟨a.block, a.off + 4, none⟩ = some (.slice a4 xcs.length b4) ∧ V.cell? ⟨a.block, a.off + 9, none⟩ = some (.slice a9 xps.length b9) ∧ V.cell? b = some (.int .i64 xk) ∧ V.cell? ⟨b.block, b.off + 2, none⟩ = some (.string xn) ∧ V.cell? ⟨b.block, b.off + 3, none⟩ = some (.slice r3 yvs.length s3) ∧ V.cell? ⟨b.block, b.off + 4, none⟩ = some (.slice r4 ycs.length s4) ∧ V.cell? ⟨b.block, b.off + 9, none⟩ = some (.slice r9 yps.length s9)) := Lib.hid (fun V hV => ⟨(hV.cell (Lib.lt_of_cell c0)).trans c0, (hV.cell (Lib.lt_of_cell c2)).trans c2, (hV.cell (Lib.lt_of_cell c3)).trans c3, (hV.cell (Lib.lt_of_cell c4)).trans c4, (hV.cell (Lib.lt_of_cell c9)).trans c9, (hV.cell (Lib.lt_of_cell d0)).trans d0, (hV.cell (Lib.lt_of_cell d2)).trans d2, (hV.cell (Lib.lt_of_cell d3)).trans d3, (hV.cell (Lib.lt_of_cell d4)).trans d4, (hV.cell (Lib.lt_of_cell d9)).trans d9⟩)
  clear c0 c2 c3 c4 c9 d0 d2 d3 d4 d9
  go_enter Tryz.func49, Tryz.ntmps49
  go_wp2
  have hw2 : Below w.heap.size w w.drew := (Below.refl _ _).drew
  simp only [List.append_eq, List.cons_append, List.nil_append]
  refine wp_region_plan [(30, 3), (11, 3), (8, 3), (11, 3), (8, 3)] (by kernel_rfl) (by kernel_rfl) ?_
  change Wrapped (wpPlan _ _ _ _ _ _ w.drew)
  generalize w.drew = w2 at hw2 ⊢
  obtain ⟨c0, c2, c3, c4, c9, d0, d2, d3, d4, d9⟩ := HF.out w2 hw2
  refine plan_step ?_
  simp only [List.take_succ_cons, List.take_zero, List.drop_succ_cons, List.drop_zero, Nat.reduceAdd]
  repeat (refine wst_step (fun K hK => ?_); go_simp; refine hK _ ?_; clear hK K)
  refine wst_nil ?_
  intro K hK
  have HK := Lib.hid hK
  clear hK
  go_wp2_with fail
  refine (C1.out w2 hw2).mono ?_
  rintro e w3 ⟨rfl, hw3⟩
  go_wp2
  refine HK.out _ _ ?_
  clear HK K c0 c2 c3 c4 c9 d0 d2 d3 d4 d9
  obtain ⟨c0, c2, c3, c4, c9, d0, d2, d3, d4, d9⟩ := HF.out w3 hw3
  refine plan_step ?_
  simp only [List.take_succ_cons, List.take_zero, List.drop_succ_cons, List.drop_zero, Nat.reduceAdd]
  repeat (refine wst_step (fun K hK => ?_); go_simp; refine hK _ ?_; clear hK K)
  refine wst_nil ?_
  intro K hK
  have HK := Lib.hid hK
  clear hK
  go_wp2_with fail
  refine (C2.out w3 hw3).mono ?_
  rintro e w4 ⟨rfl, hw4⟩
  go_wp2
  refine HK.out _ _ ?_
  clear HK K c0 c2 c3 c4 c9 d0 d2 d3 d4 d9
  obtain ⟨c0, c2, c3, c4, c9, d0, d2, d3, d4, d9⟩ := HF.out w4 hw4
  refine plan_step ?_
  simp only [List.take_succ_cons, List.take_zero, List.drop_succ_cons, List.drop_zero, Nat.reduceAdd]
  repeat (refine wst_step (fun K hK => ?_); go_simp; refine hK _ ?_; clear hK K)
  refine wst_nil ?_
  intro K hK
  have HK := Lib.hid hK
  clear hK
  go_wp2_with fail
  refine (C3.out w4 hw4).mono ?_
  rintro e w5 ⟨rfl, hw5⟩
  go_wp2
  refine HK.out _ _ ?_
  clear HK K c0 c2 c3 c4 c9 d0 d2 d3 d4 d9
  obtain ⟨c0, c2, c3, c4, c9, d0, d2, d3, d4, d9⟩ := HF.out w5 hw5
  refine plan_step ?_
  simp only [List.take_succ_cons, List.take_zero, List.drop_succ_cons, List.drop_zero, Nat.reduceAdd]
  repeat (refine wst_step (fun K hK => ?_); go_simp; refine hK _ ?_; clear hK K)
  refine wst_nil ?_
  intro K hK
  have HK := Lib.hid hK
  clear hK
  go_wp2_with fail
  refine (C4.out w5 hw5).mono ?_
  rintro e w6 ⟨rfl, hw6⟩
  go_wp2
  refine HK.out _ _ ?_
  clear HK K c0 c2 c3 c4 c9 d0 d2 d3 d4 d9
  obtain ⟨c0, c2, c3, c4, c9, d0, d2, d3, d4, d9⟩ := HF.out w6 hw6
  refine plan_step ?_
  simp only [List.take_succ_cons, List.take_zero, List.drop_succ_cons, List.drop_zero, Nat.reduceAdd]
  repeat (refine wst_step (fun K hK => ?_); go_simp; refine hK _ ?_; clear hK K)
  refine wst_nil ?_
  intro K hK
  have HK := Lib.hid hK
  clear hK
  go_wp2_with fail
  refine HK.out _ _ ?_
  clear HK K c0 c2 c3 c4 c9 d0 d2 d3 d4 d9
  refine plan_end ?_
  go_wp2
  go_ret
  exact ⟨rfl, hw6⟩
end Go.Proofs.YtkdhoelabomgkaaGreatDoor
