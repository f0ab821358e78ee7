/- Texts of this proof, joined: OwnE. No condition. -/
import Derived.Test.YtkdhoelabomgkaaGreatDoorMa10
import Derived.Test.YtkdhoelabomgkaaGreatDoorMa17
import Derived.Test.YtkdhoelabomgkaaGreatDoorMa32
import Derived.Test.YtkdhoelabomgkaaGreatDoorMa18
import Derived.Deep.DeepCutAuto
/-
  Layer 3, the law's side: OwnExpr: the document's expression as the program's: the same tree, in blocks of its own, given its parts'.
-/
namespace Go.Proofs.YtkdhoelabomgkaaGreatDoor
set_option linter.unusedVariables false
open Go.ChangeShapes Go.WideShapes Go.ChangeAt Go.RowKit

theorem keep6 {W V : World} {a0 a1 a2 a3 a4 a5 : Addr} {v0 v1 v2 v3 v4 v5 : Value} (e0 : W.cell? a0 = some v0) (e1 : W.cell? a1 = some v1) (e2 : W.cell? a2 = some v2) (e3 : W.cell? a3 = some v3) (e4 : W.cell? a4 = some v4) (e5 : W.cell? a5 = some v5) (h : Below W.heap.size W V) :
    V.cell? a0 = some v0 ∧ V.cell? a1 = some v1 ∧ V.cell? a2 = some v2 ∧ V.cell? a3 = some v3 ∧ V.cell? a4 = some v4 ∧ V.cell? a5 = some v5 :=
  ⟨(h.cell (Lib.lt_of_cell e0)).trans e0, (h.cell (Lib.lt_of_cell e1)).trans e1, (h.cell (Lib.lt_of_cell e2)).trans e2, (h.cell (Lib.lt_of_cell e3)).trans e3, (h.cell (Lib.lt_of_cell e4)).trans e4, (h.cell (Lib.lt_of_cell e5)).trans e5⟩
theorem bl_tr2 {w w1 w2 : World} (h : Below w.heap.size w w1) (h2 : Below w1.heap.size w1 w2) : Below w.heap.size w w2 := h.trans (h2.mono h.size)
/-- a whole struct into a block: that block holds it, all others stay -/
theorem store_all {P : Program} {ops : Array Oper} {rest : List Oper} {o : Oper} {a : Act} {w : World} {Q : Exit → Act → World → Prop} (ty : TypeId) (cs : Array Value) (N : Nat) (old : Array Value)
    (hN : w.heap[N]? = some (.cells old ty (0, 0))) (hi : (P.info? ty).map (·.size) = some cs.size) (hold : old.size = cs.size) (h1 : cs.all (·.oneCell') = true) (hgd : o.guard = none) (x y : Operand) (ho : o.op = .store ty x y)
    (hx : a.eval x = .pointer (some ⟨N, 0, none⟩)) (hy : a.eval y = .agg cs)
    (h : ∀ W2, W2.heap[N]? = some (.cells cs ty (0, 0)) → (∀ j, j ≠ N → W2.heap[j]? = w.heap[j]?) → (W2.heap.size = w.heap.size ∧ W2.os = w.os ∧ W2.tape = w.tape ∧ W2.output = w.output) → wpList P ops Q rest (a.put o.dst undef) W2) : wpList P ops Q (o :: rest) a w :=
  wpList_store_row hgd ty x y ho N cs hx hy ty old hN hi hold h1 (h _ (row_store w N old _ _ hN) (fun j hj => setRow_other w N j cs (by omega)) ⟨by simp [World.setRow], rfl, rfl, rfl⟩)
theorem exE_state {W W3 W4 A1 A2 B1 B2 : World} {N : Nat} {v5 v7 : Value} {ps : List Pa} {ds : List De} (hw3 : Below W.heap.size W W3) (ho4 : ∀ j, j ≠ N → W4.heap[j]? = W3.heap[j]?) (hz4 : W4.heap.size = W3.heap.size ∧ W4.os = W3.os ∧ W4.tape = W3.tape ∧ W4.output = W3.output) (hN : W.heap.size ≤ N)
    (h5 : IsPas W3 (Own A1 A2) v5 ps) (h7 : IsDes W3 (Own B1 B2) v7 ds) (n5 : ∀ b, Own A1 A2 b → b ≠ N) (n7 : ∀ b, Own B1 B2 b → b ≠ N) (hA : W.heap.size ≤ A1.heap.size) (hB : W.heap.size ≤ B1.heap.size) (hN3 : N < W3.heap.size) (hA2 : A2.heap.size ≤ W3.heap.size) (hB2 : B2.heap.size ≤ W3.heap.size) :
    IsPas W4 (fun b => Own W W4 b ∧ b ≠ N) v5 ps ∧ IsDes W4 (fun b => Own W W4 b ∧ b ≠ N) v7 ds ∧ Below W.heap.size W W4 :=
  ⟨⟨IsC.mono (fun b hb => ⟨⟨by have := hb.1; omega, by have := hb.2; omega⟩, n5 b hb⟩) _ _ (IsC.stay (fun b hb _ => ho4 b (n5 b hb)) _ _ h5.out)⟩, ⟨IsC.mono (fun b hb => ⟨⟨by have := hb.1; omega, by have := hb.2; omega⟩, n7 b hb⟩) _ _ (IsC.stay (fun b hb _ => ho4 b (n7 b hb)) _ _ h7.out)⟩,
    ⟨hz4.2.1.trans hw3.os, hz4.2.2.1.trans hw3.tape, hz4.2.2.2.trans hw3.output, by have := hw3.size; omega, fun k hk => (ho4 k (by omega)).trans (hw3.block k hk)⟩⟩
/-- a way as the program's -/
def OwnA : Al → Prop
  | .mk (.mk _ _ _ _ pl) e => OwnPs pl ∧ OwnE e
/-- some declarations as the program's -/
def OwnDs (l : List De) : Prop := ∀ (P : Nat → Prop) (v : Value) (w : World), IsDes w P v l →
  Calls Tryz.prog 19 #[v] w fun e w' => ∃ v', e = .returned v' ∧ IsDes w' (Own w w') v' l ∧ Below w.heap.size w w'
set_option maxHeartbeats 6400000 in
set_option maxRecDepth 100000 in
theorem ownE_step (k p m : Int) (n : ByteArray) (l : List Ex) (ps : List Pa) (al : List Al) (ds : List De) (a4 a5 a6 a7 : Option Addr) (b4 b5 b6 b7 : Nat) (P : Nat → Prop) (w : World)
   (hps : OwnPs ps) (hds : OwnDs ds) (hes : ∀ t ∈ l, OwnE t) (hnm : n.size ≤ maxLen) (hll : l.length ≤ 1000000) (hal : ∀ t ∈ al, OwnA t) (hla : al.length ≤ 1000000) (h4 : IsExs w P (.slice a4 l.length b4) l) (h6 : IsAls w P (.slice a6 al.length b6) al) (h5 : IsPas w P (.slice a5 ps.length b5) ps) (h7 : IsDes w P (.slice a7 ds.length b7) ds) :
    Calls Tryz.prog 16 #[.agg #[.int .i64 k, .int .i64 p, .string n, .int .i64 m, .slice a4 l.length b4, .slice a5 ps.length b5, .slice a6 al.length b6, .slice a7 ds.length b7]] w fun e w' => ∃ vs', e = .returned (.agg vs'.toArray) ∧ IsVs w' (Own w w') (Ex.row (.mk k p n m l ps al ds)) vs' ∧ Below w.heap.size w w' := by
  have HP := Lib.hid hps
  have HD := Lib.hid hds
  obtain ⟨o1, ho1⟩ : ∃ o : Obj, o = .cells #[.int .i64 k, .int .i64 p, .string n, .int .i64 m, .slice a4 l.length b4, .slice a5 ps.length b5, .slice a6 al.length b6, .slice a7 ds.length b7] 32 := ⟨_, rfl⟩
  obtain ⟨o2, ho2⟩ : ∃ o : Obj, o = .cells #[.int .i64 0, .int .i64 0, .string ⟨#[]⟩, .int .i64 0, .slice none 0 0, .slice none 0 0, .slice none 0 0, .slice none 0 0] 53 := ⟨_, rfl⟩
  have hb1 := ((Below.refl w.heap.size w).alloc (Nat.le_refl _) o1).alloc (by simp) o2
  have hN1 : ((w.alloc o1).alloc o2).heap[w.heap.size]? = some o1 := (Below.heap_alloc _ _ _ (by simp)).trans (heap_alloc_new w o1)
  have hN2 : ((w.alloc o1).alloc o2).heap[w.heap.size + 1]? = some o2 := by
    have := heap_alloc_new (w.alloc o1) o2
    rwa [show (w.alloc o1).heap.size = w.heap.size + 1 by simp] at this
  have hsz : ((w.alloc o1).alloc o2).heap.size = w.heap.size + 2 := by simp
  have H5 := Lib.hid (h5.on hb1)
  have H7 := Lib.hid (h7.on hb1)
  have H4 := Lib.hid (h4.on hb1)
  have H6 := Lib.hid (h6.on hb1)
  have HE := Lib.hid hes
  have HAl := Lib.hid hal
  clear h4 h5 h6 h7 hps hds hes hal
  go_enter Tryz.func16, Tryz.ntmps16
  go_wp2
  rw [← ho1, ← ho2]
  generalize (w.alloc o1).alloc o2 = W at hb1 hN1 hN2 hsz H4 H5 H6 H7 ⊢
  go_upto_region 1 with fail
  go_cut [3] (fun s3 wx => ∃ (N : Nat) (p5 p7 : Option Addr) (q5 q7 : Nat), s3 = .pointer (some ⟨N, 0, none⟩) ∧ wx.heap[N]? = some (.cells #[.int .i64 k, .int .i64 p, .string n, .int .i64 m, .slice none 0 0, .slice p5 ps.length q5, .slice none 0 0, .slice p7 ds.length q7] 53 (0, 0)) ∧ IsPas wx (fun b => Own W wx b ∧ b ≠ N) (.slice p5 ps.length q5) ps ∧ IsDes wx (fun b => Own W wx b ∧ b ≠ N) (.slice p7 ds.length q7) ds ∧ Below W.heap.size W wx ∧ W.heap.size ≤ N)
  case first =>
    subst ho1
    have e0 : W.cell? ⟨w.heap.size, 0, none⟩ = some (.int .i64 k) := by rw [Lib.cell_of_heap hN1]; rfl
    have e1 : W.cell? ⟨w.heap.size, 1, none⟩ = some (.int .i64 p) := by rw [Lib.cell_of_heap hN1]; rfl
    have e2 : W.cell? ⟨w.heap.size, 2, none⟩ = some (.string n) := by rw [Lib.cell_of_heap hN1]; rfl
    have e3 : W.cell? ⟨w.heap.size, 3, none⟩ = some (.int .i64 m) := by rw [Lib.cell_of_heap hN1]; rfl
    have e5 : W.cell? ⟨w.heap.size, 5, none⟩ = some (.slice a5 ps.length b5) := by rw [Lib.cell_of_heap hN1]; rfl
    have e7 : W.cell? ⟨w.heap.size, 7, none⟩ = some (.slice a7 ds.length b7) := by rw [Lib.cell_of_heap hN1]; rfl
    have HK6 := Lib.hid (fun (V : World) (hV : Below W.heap.size W V) => keep6 e0 e1 e2 e3 e5 e7 hV)
    clear e0 e1 e2 e3 e5 e7
    have HN1 := Lib.hid hN1
    have HN2 := Lib.hid hN2
    have HSZ := Lib.hid hsz
    clear hN1 hN2 hsz
    have hw0 : Below W.heap.size W W.drew := (Below.refl _ _).drew
    refine wp_region_gate (fun V => V.cell? ⟨w.heap.size, 0, none⟩ = some (.int .i64 k) ∧ V.cell? ⟨w.heap.size, 1, none⟩ = some (.int .i64 p) ∧ V.cell? ⟨w.heap.size, 2, none⟩ = some (.string n) ∧ V.cell? ⟨w.heap.size, 3, none⟩ = some (.int .i64 m) ∧ V.cell? ⟨w.heap.size, 5, none⟩ = some (.slice a5 ps.length b5) ∧ V.cell? ⟨w.heap.size, 7, none⟩ = some (.slice a7 ds.length b7)) 16 (by kernel_rfl) (HK6.out _ hw0) ?_
    change AtG _ _ _ _ _ _ _ _ _ W.drew
    generalize W.drew = W0 at hw0 ⊢
    refine G_take (i := 0) (v := ?_) rfl (by kernel_rfl) (fun _ _ _ h => h) (Or.inl ⟨by rfl, fun V hV => ?_⟩) ?_
    rotate_left
    · obtain ⟨e0, e1, e2, e3, e5, e7⟩ := hV; go_simp; with_reducible rfl
    simp only [Act.put, List.setIfInBounds_toArray, List.set_cons_zero, List.set_cons_succ]
    refine G_take (i := 1) (v := ?_) rfl (by kernel_rfl) (fun _ _ _ h => h) (Or.inl ⟨by rfl, fun V hV => ?_⟩) ?_
    rotate_left
    · obtain ⟨e0, e1, e2, e3, e5, e7⟩ := hV; go_simp; with_reducible rfl
    simp only [Act.put, List.setIfInBounds_toArray, List.set_cons_zero, List.set_cons_succ]
    refine G_take (i := 2) (v := ?_) rfl (by kernel_rfl) (fun _ _ _ h => h) (Or.inl ⟨by rfl, fun V hV => ?_⟩) ?_
    rotate_left
    · obtain ⟨e0, e1, e2, e3, e5, e7⟩ := hV; go_simp; with_reducible rfl
    simp only [Act.put, List.setIfInBounds_toArray, List.set_cons_zero, List.set_cons_succ]
    refine G_take (i := 3) (v := ?_) rfl (by kernel_rfl) (fun _ _ _ h => h) (Or.inl ⟨by rfl, fun V hV => ?_⟩) ?_
    rotate_left
    · obtain ⟨e0, e1, e2, e3, e5, e7⟩ := hV; go_simp; with_reducible rfl
    simp only [Act.put, List.setIfInBounds_toArray, List.set_cons_zero, List.set_cons_succ]
    refine G_take (i := 4) (v := ?_) rfl (by kernel_rfl) (fun _ _ _ h => h) (Or.inl ⟨by rfl, fun V hV => ?_⟩) ?_
    rotate_left
    · obtain ⟨e0, e1, e2, e3, e5, e7⟩ := hV; go_simp; with_reducible rfl
    simp only [Act.put, List.setIfInBounds_toArray, List.set_cons_zero, List.set_cons_succ]
    refine G_take (i := 5) (v := ?_) rfl (by kernel_rfl) (fun _ _ _ h => h) (Or.inl ⟨by rfl, fun V hV => ?_⟩) ?_
    rotate_left
    · obtain ⟨e0, e1, e2, e3, e5, e7⟩ := hV; go_simp; with_reducible rfl
    simp only [Act.put, List.setIfInBounds_toArray, List.set_cons_zero, List.set_cons_succ]
    refine G_take (i := 6) (v := ?_) rfl (by kernel_rfl) (fun _ _ _ h => h) (Or.inl ⟨by rfl, fun V hV => ?_⟩) ?_
    rotate_left
    · obtain ⟨e0, e1, e2, e3, e5, e7⟩ := hV; go_simp; with_reducible rfl
    simp only [Act.put, List.setIfInBounds_toArray, List.set_cons_zero, List.set_cons_succ]
    refine G_take (i := 7) (v := ?_) rfl (by kernel_rfl) (fun _ _ _ h => h) (Or.inl ⟨by rfl, fun V hV => ?_⟩) ?_
    rotate_left
    · obtain ⟨e0, e1, e2, e3, e5, e7⟩ := hV; go_simp; with_reducible rfl
    simp only [Act.put, List.setIfInBounds_toArray, List.set_cons_zero, List.set_cons_succ]
    refine G_take (i := 8) (v := ?_) rfl (by kernel_rfl) (fun _ _ _ h => h) (Or.inl ⟨by rfl, fun V hV => ?_⟩) ?_
    rotate_left
    · obtain ⟨e0, e1, e2, e3, e5, e7⟩ := hV; go_simp; with_reducible rfl
    simp only [Act.put, List.setIfInBounds_toArray, List.set_cons_zero, List.set_cons_succ]
    refine G_take (i := 9) (v := ?_) rfl (by kernel_rfl) (fun _ _ _ h => h) (Or.inl ⟨by rfl, fun V hV => ?_⟩) ?_
    rotate_left
    · obtain ⟨e0, e1, e2, e3, e5, e7⟩ := hV; go_simp; with_reducible rfl
    simp only [Act.put, List.setIfInBounds_toArray, List.set_cons_zero, List.set_cons_succ]
    refine G_take (i := 11) (v := ?_) rfl (by kernel_rfl) (fun _ _ _ h => h) (Or.inl ⟨by rfl, fun V hV => ?_⟩) ?_
    rotate_left
    · obtain ⟨e0, e1, e2, e3, e5, e7⟩ := hV; go_simp; with_reducible rfl
    simp only [Act.put, List.setIfInBounds_toArray, List.set_cons_zero, List.set_cons_succ]
    refine G_take (i := 12) (v := ?_) rfl (by kernel_rfl) (fun _ _ _ h => h) (Or.inl ⟨by rfl, fun V hV => ?_⟩) ?_
    rotate_left
    · obtain ⟨e0, e1, e2, e3, e5, e7⟩ := hV; go_simp; with_reducible rfl
    simp only [Act.put, List.setIfInBounds_toArray, List.set_cons_zero, List.set_cons_succ]
    refine G_two (k := 10) (m := 15) rfl rfl (by kernel_rfl) (fun K hK => ?_) (fun K hK => ?_)
    · have HK := Lib.hid hK
      clear hK
      go_wp2_with fail
      refine (HP.out _ _ _ (H5.out.on hw0)).mono ?_
      rintro e W1 ⟨v5, rfl, hv5, hbA⟩
      obtain ⟨p5, q5, rfl, hq5, hq5m⟩ := hv5.form
      have hw1 : Below W.heap.size W W1 := hw0.trans (hbA.mono hw0.size)
      have hs1 : Below W0.heap.size W0 W1 := hbA
      have HV5 := Lib.hid hv5
      clear hv5 hbA
      go_wp2
      refine HK.out _ _ (fun _ => HK6.out _ hw1) ?_
      clear HK K
      refine G_two (k := 13) (m := 15) rfl rfl (by kernel_rfl) (fun K hK => ?_) (fun K hK => ?_)
      · have HK := Lib.hid hK
        clear hK
        go_wp2_with fail
        refine (HD.out _ _ _ (H7.out.on hw1)).mono ?_
        rintro e W2 ⟨v7, rfl, hv7, hbB⟩
        obtain ⟨p7, q7, rfl, hq7, hq7m⟩ := hv7.form
        have hw2 : Below W.heap.size W W2 := hw1.trans (hbB.mono hw1.size)
        have hs2 : Below W1.heap.size W1 W2 := hbB
        have HV7 := Lib.hid hv7
        clear hv7 hbB
        go_wp2
        refine HK.out _ _ (fun _ => HK6.out _ hw2) ?_
        clear HK K
        refine G_pure (i := 14) (v := ?_) rfl (by kernel_rfl) (fun _ _ _ h => h) (Or.inl ⟨by rfl, fun V hV => ?_⟩) ?_
        rotate_left
        · go_simp; with_reducible rfl
        simp only [Act.put, List.setIfInBounds_toArray, List.set_cons_zero, List.set_cons_succ]
        refine G_one (k := 15) rfl (by kernel_rfl) (fun K hK => ?_)
        have HK := Lib.hid hK
        clear hK
        go_wp2
        refine HK.out _ _ (fun _ => HK6.out _ (bl_alloc _ hw2)) ?_
        clear HK K
        rw [← ho2]
        have HZ := Lib.hid (heap_alloc_new W2 o2)
        have hs3 : Below W2.heap.size W2 (W2.alloc o2) := bl_alloc _ (Below.refl _ _)
        have hw3 := bl_alloc o2 hw2
        have hz3 : (W2.alloc o2).heap.size = W2.heap.size + 1 := by simp
        generalize W2.alloc o2 = W3 at HZ hs3 hw3 hz3 ⊢
        have HN := Lib.hid (show W3.heap[W2.heap.size]? = some o2 from HZ.out)
        have HA := Lib.hid (show IsPas W3 (Own W0 W1) _ _ from HV5.out.on (bl_tr2 hs2 hs3))
        have HB := Lib.hid (show IsDes W3 (Own W1 W2) _ _ from HV7.out.on hs3)
        refine G_one (k := 16) rfl (by kernel_rfl) (fun K hK => ?_)
        have HK := Lib.hid hK
        clear hK
        have hn3 := HN.out
        rw [ho2] at hn3
        refine store_all 53 #[.int .i64 k, .int .i64 p, .string n, .int .i64 m, .slice none 0 0, .slice p5 ps.length q5, .slice none 0 0, .slice p7 ds.length q7] W2.heap.size _ hn3 (by kernel_rfl) rfl (by simp [Value.oneCell']) rfl _ _ rfl rfl rfl ?_
        intro W4 hn4 ho4 hz4
        go_wp2
        clear hn3
        refine HK.out _ _ (fun h => absurd (h.symm.trans (by kernel_rfl : _ = true)) Bool.false_ne_true) ?_
        clear HK K
        refine G_done (by kernel_rfl) ?_
        have R := exE_state hw3 ho4 hz4 (N := W2.heap.size) hw2.size HA.out HB.out (fun b hb => by have := hb.1; have := hb.2; have := hs1.size; have := hs2.size; have := hs3.size; have := hz3; omega) (fun b hb => by have := hb.1; have := hb.2; have := hs1.size; have := hs2.size; have := hs3.size; have := hz3; omega) hw0.size hw1.size (by have := heap_lt HN.out; omega) (by have := hs1.size; have := hs2.size; have := hs3.size; omega) (by have := hs1.size; have := hs2.size; have := hs3.size; omega)
        have hnlt := hw2.size
        have hn4' := Lib.hid hn4
        clear hn4 HN HA HB HZ HV5 HV7
        go_wp2_with fail
        go_meet
        exact ⟨W2.heap.size, _, _, _, _, rfl, hn4'.out, R.1, R.2.1, R.2.2, hnlt⟩
      · have HK := Lib.hid hK
        clear hK
        go_wp2
        refine HK.out _ _ (fun _ => HK6.out _ (bl_alloc _ hw1)) ?_
        clear HK K
        rw [← ho2]
        have HZ := Lib.hid (heap_alloc_new W1 o2)
        have hs2 : Below W1.heap.size W1 (W1.alloc o2) := bl_alloc _ (Below.refl _ _)
        have hw2 := bl_alloc o2 hw1
        have hz2 : (W1.alloc o2).heap.size = W1.heap.size + 1 := by simp
        generalize W1.alloc o2 = W2 at HZ hs2 hw2 hz2 ⊢
        refine G_one (k := 13) rfl (by kernel_rfl) (fun K hK => ?_)
        have HK := Lib.hid hK
        clear hK
        go_wp2_with fail
        refine (HD.out _ _ _ (H7.out.on hw2)).mono ?_
        rintro e W3 ⟨v7, rfl, hv7, hbB⟩
        obtain ⟨p7, q7, rfl, hq7, hq7m⟩ := hv7.form
        have hw3 : Below W.heap.size W W3 := hw2.trans (hbB.mono hw2.size)
        have hs3 : Below W2.heap.size W2 W3 := hbB
        have HV7 := Lib.hid hv7
        clear hv7 hbB
        go_wp2
        refine HK.out _ _ (fun _ => HK6.out _ hw3) ?_
        clear HK K
        have HN := Lib.hid (show W3.heap[W1.heap.size]? = some o2 from ((hs3).block _ (heap_lt HZ.out)).trans HZ.out)
        have HA := Lib.hid (show IsPas W3 (Own W0 W1) _ _ from HV5.out.on (bl_tr2 hs2 hs3))
        have HB := Lib.hid (show IsDes W3 (Own W2 W3) _ _ from HV7.out)
        refine G_pure (i := 14) (v := ?_) rfl (by kernel_rfl) (fun _ _ _ h => h) (Or.inl ⟨by rfl, fun V hV => ?_⟩) ?_
        rotate_left
        · go_simp; with_reducible rfl
        simp only [Act.put, List.setIfInBounds_toArray, List.set_cons_zero, List.set_cons_succ]
        refine G_one (k := 16) rfl (by kernel_rfl) (fun K hK => ?_)
        have HK := Lib.hid hK
        clear hK
        have hn3 := HN.out
        rw [ho2] at hn3
        refine store_all 53 #[.int .i64 k, .int .i64 p, .string n, .int .i64 m, .slice none 0 0, .slice p5 ps.length q5, .slice none 0 0, .slice p7 ds.length q7] W1.heap.size _ hn3 (by kernel_rfl) rfl (by simp [Value.oneCell']) rfl _ _ rfl rfl rfl ?_
        intro W4 hn4 ho4 hz4
        go_wp2
        clear hn3
        refine HK.out _ _ (fun h => absurd (h.symm.trans (by kernel_rfl : _ = true)) Bool.false_ne_true) ?_
        clear HK K
        refine G_done (by kernel_rfl) ?_
        have R := exE_state hw3 ho4 hz4 (N := W1.heap.size) hw1.size HA.out HB.out (fun b hb => by have := hb.1; have := hb.2; have := hs1.size; have := hs2.size; have := hs3.size; have := hz2; omega) (fun b hb => by have := hb.1; have := hb.2; have := hs1.size; have := hs2.size; have := hs3.size; have := hz2; omega) hw0.size hw2.size (by have := heap_lt HN.out; omega) (by have := hs1.size; have := hs2.size; have := hs3.size; omega) (by have := hs1.size; have := hs2.size; have := hs3.size; omega)
        have hnlt := hw1.size
        have hn4' := Lib.hid hn4
        clear hn4 HN HA HB HZ HV5 HV7
        go_wp2_with fail
        go_meet
        exact ⟨W1.heap.size, _, _, _, _, rfl, hn4'.out, R.1, R.2.1, R.2.2, hnlt⟩
    · have HK := Lib.hid hK
      clear hK
      go_wp2
      refine HK.out _ _ (fun _ => HK6.out _ (bl_alloc _ hw0)) ?_
      clear HK K
      rw [← ho2]
      have HZ := Lib.hid (heap_alloc_new W0 o2)
      have hs1 : Below W0.heap.size W0 (W0.alloc o2) := bl_alloc _ (Below.refl _ _)
      have hw1 := bl_alloc o2 hw0
      have hz1 : (W0.alloc o2).heap.size = W0.heap.size + 1 := by simp
      generalize W0.alloc o2 = W1 at HZ hs1 hw1 hz1 ⊢
      refine G_one (k := 10) rfl (by kernel_rfl) (fun K hK => ?_)
      have HK := Lib.hid hK
      clear hK
      go_wp2_with fail
      refine (HP.out _ _ _ (H5.out.on hw1)).mono ?_
      rintro e W2 ⟨v5, rfl, hv5, hbA⟩
      obtain ⟨p5, q5, rfl, hq5, hq5m⟩ := hv5.form
      have hw2 : Below W.heap.size W W2 := hw1.trans (hbA.mono hw1.size)
      have hs2 : Below W1.heap.size W1 W2 := hbA
      have HV5 := Lib.hid hv5
      clear hv5 hbA
      go_wp2
      refine HK.out _ _ (fun _ => HK6.out _ hw2) ?_
      clear HK K
      refine G_one (k := 13) rfl (by kernel_rfl) (fun K hK => ?_)
      have HK := Lib.hid hK
      clear hK
      go_wp2_with fail
      refine (HD.out _ _ _ (H7.out.on hw2)).mono ?_
      rintro e W3 ⟨v7, rfl, hv7, hbB⟩
      obtain ⟨p7, q7, rfl, hq7, hq7m⟩ := hv7.form
      have hw3 : Below W.heap.size W W3 := hw2.trans (hbB.mono hw2.size)
      have hs3 : Below W2.heap.size W2 W3 := hbB
      have HV7 := Lib.hid hv7
      clear hv7 hbB
      go_wp2
      refine HK.out _ _ (fun _ => HK6.out _ hw3) ?_
      clear HK K
      have HN := Lib.hid (show W3.heap[W0.heap.size]? = some o2 from (((bl_tr2 hs2 hs3)).block _ (heap_lt HZ.out)).trans HZ.out)
      have HA := Lib.hid (show IsPas W3 (Own W1 W2) _ _ from HV5.out.on hs3)
      have HB := Lib.hid (show IsDes W3 (Own W2 W3) _ _ from HV7.out)
      refine G_pure (i := 14) (v := ?_) rfl (by kernel_rfl) (fun _ _ _ h => h) (Or.inl ⟨by rfl, fun V hV => ?_⟩) ?_
      rotate_left
      · go_simp; with_reducible rfl
      simp only [Act.put, List.setIfInBounds_toArray, List.set_cons_zero, List.set_cons_succ]
      refine G_one (k := 16) rfl (by kernel_rfl) (fun K hK => ?_)
      have HK := Lib.hid hK
      clear hK
      have hn3 := HN.out
      rw [ho2] at hn3
      refine store_all 53 #[.int .i64 k, .int .i64 p, .string n, .int .i64 m, .slice none 0 0, .slice p5 ps.length q5, .slice none 0 0, .slice p7 ds.length q7] W0.heap.size _ hn3 (by kernel_rfl) rfl (by simp [Value.oneCell']) rfl _ _ rfl rfl rfl ?_
      intro W4 hn4 ho4 hz4
      go_wp2
      clear hn3
      refine HK.out _ _ (fun h => absurd (h.symm.trans (by kernel_rfl : _ = true)) Bool.false_ne_true) ?_
      clear HK K
      refine G_done (by kernel_rfl) ?_
      have R := exE_state hw3 ho4 hz4 (N := W0.heap.size) hw0.size HA.out HB.out (fun b hb => by have := hb.1; have := hb.2; have := hs1.size; have := hs2.size; have := hs3.size; have := hz1; omega) (fun b hb => by have := hb.1; have := hb.2; have := hs1.size; have := hs2.size; have := hs3.size; have := hz1; omega) hw1.size hw2.size (by have := heap_lt HN.out; omega) (by have := hs1.size; have := hs2.size; have := hs3.size; omega) (by have := hs1.size; have := hs2.size; have := hs3.size; omega)
      have hnlt := hw0.size
      have hn4' := Lib.hid hn4
      clear hn4 HN HA HB HZ HV5 HV7
      go_wp2_with fail
      go_meet
      exact ⟨W0.heap.size, _, _, _, _, rfl, hn4'.out, R.1, R.2.1, R.2.2, hnlt⟩
  case rest =>
    obtain ⟨N, p5, p7, q5, q7, rfl, hN, hv5, hv7, hbc, hNW⟩ := hcut
    have hNlt := heap_lt hN
    have HV5 := Lib.hid hv5
    have HV7 := Lib.hid hv7
    have HW1 := Lib.hid ((hbc.block _ (heap_lt hN1)).trans hN1)
    have HW2 := Lib.hid ((hbc.block _ (heap_lt hN2)).trans hN2)
    have hWs : w.heap.size + 2 = W.heap.size := hsz.symm
    have HNc := Lib.hid hN
    have hsl : (l.length : Int) ≤ 9223372036854775807 := by omega
    obtain ⟨i0, hi, hz0, hz1, hz2⟩ := info_parts' info_ex
    clear hv5 hv7 hN1 hN2 hsz hN
    go_wp2_with fail
    go_loopw [4] (fun iv wr => ∃ (k1 : Nat) (xv : Value) (vals : List Value), k1 ≤ l.length ∧ iv = .int .i64 k1 ∧ Hid (wr.heap[N]? = some (.cells #[.int .i64 k, .int .i64 p, .string n, .int .i64 m, xv, .slice p5 ps.length q5, .slice none 0 0, .slice p7 ds.length q7] 53 (0, 0))) ∧ wr.ownsRow wc.heap.size 53 8 xv k1 vals ∧ Hid (Gath Ex.row 8 wc.heap.size wr xv l k1 vals) ∧ Hid (∀ b : Nat, b < wc.heap.size → b ≠ N → wr.heap[b]? = wc.heap[b]?) ∧ Below W.heap.size W wr ∧ wc.heap.size ≤ wr.heap.size) (fun iv _ => l.length - (intOf iv).toNat)
    case atStart => exact ⟨0, _, [], Nat.zero_le _, rfl, HNc, World.ownsRow_nil _ _ _ _, Lib.hid (fun j t hj => by omega), Lib.hid (fun _ _ _ => rfl), hbc, Nat.le_refl _⟩
    case round =>
      obtain ⟨k1, xv, vals, hk1, rfl, HX, hown, HG, HKp, hbr, hszr⟩ := hrel
      have hwS : wr.heap[w.heap.size]? = some o1 := (HKp.out _ (by omega) (by omega)).trans HW1.out
      by_cases hlt : k1 < l.length
      · have k1i : (k1 : Int) < l.length := by omega
        obtain ⟨t, ht⟩ : ∃ t, l[k1]? = some t := ⟨l[k1], List.getElem?_eq_getElem hlt⟩
        obtain ⟨a, rfl, _, hrow⟩ := H4.out.at ht
        have hrow := hrow.on hbr
        have HOE := Lib.hid (HE.out t (List.mem_of_getElem? ht))
        have HT := Lib.hid ht
        obtain ⟨tk, tp, tn, tm, tl, tps, tal, tds⟩ := t
        obtain ⟨c0, c1, c2, c2', c3, ⟨g4, f4, c4, _, _, x4⟩, ⟨g5, f5, c5, _, _, x5⟩, ⟨g6, f6, c6, _, _, x6⟩, ⟨g7, f7, c7, _, _, x7⟩⟩ := hrow.cells
        have cN : wr.cell? ⟨N, 4, none⟩ = some xv := by rw [Lib.cell_of_heap HX.out]; rfl
        have cS : wr.cell? ⟨w.heap.size, 4, none⟩ = some (.slice (some a) l.length b4) := by rw [ho1] at hwS; rw [Lib.cell_of_heap hwS]; rfl
        have HF : Hid (∀ V : World, Below wr.heap.size wr V → V.cell? ⟨N, 4, none⟩ = some (xv) ∧ V.cell? ⟨w.heap.size, 4, none⟩ = some (.slice (some a) l.length b4) ∧ V.cell? (a.add (k1 * 8)) = some (.int .i64 tk) ∧ V.cell? ⟨(a.add (k1 * 8)).block, (a.add (k1 * 8)).off + 1, none⟩ = some (.int .i64 tp) ∧ V.cell? ⟨(a.add (k1 * 8)).block, (a.add (k1 * 8)).off + 2, none⟩ = some (.string tn) ∧ V.cell? ⟨(a.add (k1 * 8)).block, (a.add (k1 * 8)).off + 3, none⟩ = some (.int .i64 tm) ∧ V.cell? ⟨(a.add (k1 * 8)).block, (a.add (k1 * 8)).off + 4, none⟩ = some (.slice g4 tl.length f4) ∧ V.cell? ⟨(a.add (k1 * 8)).block, (a.add (k1 * 8)).off + 5, none⟩ = some (.slice g5 tps.length f5) ∧ V.cell? ⟨(a.add (k1 * 8)).block, (a.add (k1 * 8)).off + 6, none⟩ = some (.slice g6 tal.length f6) ∧ V.cell? ⟨(a.add (k1 * 8)).block, (a.add (k1 * 8)).off + 7, none⟩ = some (.slice g7 tds.length f7)) := Lib.hid (fun V hV => ⟨(hV.cell (Lib.lt_of_cell cN)).trans cN, (hV.cell (Lib.lt_of_cell cS)).trans cS, (hV.cell (Lib.lt_of_cell c0)).trans c0, (hV.cell (Lib.lt_of_cell c1)).trans c1, (hV.cell (Lib.lt_of_cell c2)).trans c2, (hV.cell (Lib.lt_of_cell c3)).trans c3, (hV.cell (Lib.lt_of_cell c4)).trans c4, (hV.cell (Lib.lt_of_cell c5)).trans c5, (hV.cell (Lib.lt_of_cell c6)).trans c6, (hV.cell (Lib.lt_of_cell c7)).trans c7⟩)
        have HVS := Lib.hid (ex_vs_mk (k := tk) (p := tp) (n := tn) (m := tm) c2' x4 x5 x6 x7)
        have hwS2 := Lib.hid hwS
        clear hrow ht x4 x5 x6 x7 c0 c1 c2 c3 c4 c5 c6 c7 cN hwS
        go_wp2
        clear cS
        have hw0 : Below wr.heap.size wr wr.drew := (Below.refl _ _).drew
        refine wp_region_gate (fun V => V.cell? ⟨N, 4, none⟩ = some (xv) ∧ V.cell? ⟨w.heap.size, 4, none⟩ = some (.slice (some a) l.length b4) ∧ V.cell? (a.add (k1 * 8)) = some (.int .i64 tk) ∧ V.cell? ⟨(a.add (k1 * 8)).block, (a.add (k1 * 8)).off + 1, none⟩ = some (.int .i64 tp) ∧ V.cell? ⟨(a.add (k1 * 8)).block, (a.add (k1 * 8)).off + 2, none⟩ = some (.string tn) ∧ V.cell? ⟨(a.add (k1 * 8)).block, (a.add (k1 * 8)).off + 3, none⟩ = some (.int .i64 tm) ∧ V.cell? ⟨(a.add (k1 * 8)).block, (a.add (k1 * 8)).off + 4, none⟩ = some (.slice g4 tl.length f4) ∧ V.cell? ⟨(a.add (k1 * 8)).block, (a.add (k1 * 8)).off + 5, none⟩ = some (.slice g5 tps.length f5) ∧ V.cell? ⟨(a.add (k1 * 8)).block, (a.add (k1 * 8)).off + 6, none⟩ = some (.slice g6 tal.length f6) ∧ V.cell? ⟨(a.add (k1 * 8)).block, (a.add (k1 * 8)).off + 7, none⟩ = some (.slice g7 tds.length f7)) 9 (by kernel_rfl) (HF.out _ hw0) ?_
        change AtG _ _ _ _ _ _ _ _ _ wr.drew
        have hz0' : wr.drew.heap.size = wr.heap.size := rfl
        have hh0 : ∀ b : Nat, wr.drew.heap[b]? = wr.heap[b]? := fun b => rfl
        have HH0 := Lib.hid hh0
        clear hh0
        generalize wr.drew = W0 at hw0 hz0' HH0 ⊢
        refine G_take (i := 0) (v := ?_) rfl (by kernel_rfl) (fun _ _ _ h => h) (Or.inl ⟨by rfl, fun V hV => ?_⟩) ?_
        rotate_left
        · obtain ⟨cN, cS, c0, c1, c2, c3, c4, c5, c6, c7⟩ := hV; go_simp; with_reducible rfl
        simp only [Act.put, List.setIfInBounds_toArray, List.set_cons_zero, List.set_cons_succ]
        refine G_take (i := 1) (v := ?_) rfl (by kernel_rfl) (fun _ _ _ h => h) (Or.inl ⟨by rfl, fun V hV => ?_⟩) ?_
        rotate_left
        · obtain ⟨cN, cS, c0, c1, c2, c3, c4, c5, c6, c7⟩ := hV; go_simp; with_reducible rfl
        simp only [Act.put, List.setIfInBounds_toArray, List.set_cons_zero, List.set_cons_succ]
        refine G_take (i := 2) (v := ?_) rfl (by kernel_rfl) (fun _ _ _ h => h) (Or.inl ⟨by rfl, fun V hV => ?_⟩) ?_
        rotate_left
        · obtain ⟨cN, cS, c0, c1, c2, c3, c4, c5, c6, c7⟩ := hV; go_simp; with_reducible rfl
        simp only [Act.put, List.setIfInBounds_toArray, List.set_cons_zero, List.set_cons_succ]
        refine G_take (i := 3) (v := ?_) rfl (by kernel_rfl) (fun _ _ _ h => h) (Or.inl ⟨by rfl, fun V hV => ?_⟩) ?_
        rotate_left
        · obtain ⟨cN, cS, c0, c1, c2, c3, c4, c5, c6, c7⟩ := hV; go_simp; with_reducible rfl
        simp only [Act.put, List.setIfInBounds_toArray, List.set_cons_zero, List.set_cons_succ]
        refine G_take (i := 4) (v := ?_) rfl (by kernel_rfl) (fun _ _ _ h => h) (Or.inl ⟨by rfl, fun V hV => ?_⟩) ?_
        rotate_left
        · obtain ⟨cN, cS, c0, c1, c2, c3, c4, c5, c6, c7⟩ := hV; go_simp; with_reducible rfl
        simp only [Act.put, List.setIfInBounds_toArray, List.set_cons_zero, List.set_cons_succ]
        refine G_take (i := 5) (v := ?_) rfl (by kernel_rfl) (fun _ _ _ h => h) (Or.inl ⟨by rfl, fun V hV => ?_⟩) ?_
        rotate_left
        · obtain ⟨cN, cS, c0, c1, c2, c3, c4, c5, c6, c7⟩ := hV; go_simp; with_reducible rfl
        simp only [Act.put, List.setIfInBounds_toArray, List.set_cons_zero, List.set_cons_succ]
        refine G_take (i := 6) (v := ?_) rfl (by kernel_rfl) (fun _ _ _ h => h) (Or.inl ⟨by rfl, fun V hV => ?_⟩) ?_
        rotate_left
        · obtain ⟨cN, cS, c0, c1, c2, c3, c4, c5, c6, c7⟩ := hV; go_simp; with_reducible rfl
        simp only [Act.put, List.setIfInBounds_toArray, List.set_cons_zero, List.set_cons_succ]
        refine G_one (k := 7) rfl (by kernel_rfl) (fun K hK => ?_)
        have HK := Lib.hid hK
        clear hK
        go_wp2_with fail
        refine (HOE.out P _ W0 (HVS.out.on hw0)).mono ?_
        rintro e W1 ⟨vs', rfl, hvs', hb1'⟩
        obtain ⟨_, h4, h5, h6, h7, i4, i5, i6, i7, rfl, _, _, _, _⟩ := ex_vs hvs'
        have HVS' := Lib.hid hvs'
        have hw1 : Below wr.heap.size wr W1 := hw0.trans (hb1'.mono hw0.size)
        clear hvs'
        go_wp2
        refine HK.out _ _ (fun _ => HF.out _ hw1) ?_
        clear HK K
        refine G_one (k := 8) rfl (by kernel_rfl) (fun K hK => ?_)
        have HK := Lib.hid hK
        clear hK
        go_wp2
        refine HK.out _ _ (fun _ => HF.out _ (bl_alloc _ hw1)) ?_
        clear HK K
        refine G_one (k := 9) rfl (by kernel_rfl) (fun K hK => ?_)
        have HK := Lib.hid hK
        clear hK
        have hown1 : W1.ownsRow wc.heap.size 53 8 xv k1 vals := owns_move hown (fun b _ hb => (hb1'.block b (by omega)).trans (HH0.out b))
        have hsz1 := hw1.size
        have hlen1 := hown.1
        go_wp2_with (at_builtin; refine wpList_append_own_at _ rfl _ _ 49 rfl wc.heap.size 53 i0 _ 8 136 Tryz.underlying49 hi hz0 hz1 hz2 rfl (by decide) _ _ _ rfl (hown1.alloc _) ⟨W1.heap.size, 0, none⟩ 1 1 [.int .i64 tk, .int .i64 tp, .string tn, .int .i64 tm, .slice h4 tl.length i4, .slice h5 tps.length i5, .slice h6 tal.length i6, .slice h7 tds.length i7] rfl rfl (cells_new _ [.int .i64 tk, .int .i64 tp, .string tn, .int .i64 tm, .slice h4 tl.length i4, .slice h5 tps.length i5, .slice h6 tal.length i6, .slice h7 tds.length i7] _) (by simp [Value.oneCell']) (by unfold maxLen; omega) (by omega) (by simp; omega) ?_; intro v2' W2 hown2 hgrow _ hat)
        have hgrow' : (W1.alloc (.cells #[.int .i64 tk, .int .i64 tp, .string tn, .int .i64 tm, .slice h4 tl.length i4, .slice h5 tps.length i5, .slice h6 tal.length i6, .slice h7 tds.length i7] 53)).grownBy W2 xv.ownBlock := hgrow
        have hat' : v2'.ownBlock = xv.ownBlock ∨ v2'.ownBlock = some (W1.alloc (.cells #[.int .i64 tk, .int .i64 tp, .string tn, .int .i64 tm, .slice h4 tl.length i4, .slice h5 tps.length i5, .slice h6 tal.length i6, .slice h7 tds.length i7] 53)).heap.size := hat
        have hG0 : Gath Ex.row 8 wc.heap.size W0 xv l k1 vals := HG.out.move (fun b _ _ => HH0.out b) hz0'
        have HG2 := Lib.hid (hG0.next (by omega) HT.out hlen1 rfl HVS'.out (fun g hg => by have := (hown.lt g hg).2; omega) hb1' hgrow' hat')
        have hkeep : ∀ b : Nat, b < wc.heap.size → W2.heap[b]? = wr.heap[b]? := fun b hb => by
          rw [hgrow'.block b (by simp; omega) (fun e => by have := (hown.lt b e.symm).1; omega), Below.heap_alloc _ _ _ (by omega), hb1'.block b (by omega)]
          exact HH0.out b
        have HKP := Lib.hid hkeep
        have hsz2 : W1.heap.size + 1 ≤ W2.heap.size := by have := hgrow'.size; simpa using this
        have n2 : W2.heap[N]? = some (.cells #[.int .i64 k, .int .i64 p, .string n, .int .i64 m, xv, .slice p5 ps.length q5, .slice none 0 0, .slice p7 ds.length q7] 53 (0, 0)) := (hkeep N hNlt).trans HX.out
        have hb2 : Below W.heap.size W W2 := ((hbr.trans (hw1.mono hbr.size)).alloc (by have := hbr.size; omega) _).grown hgrow' (by simp; have := hbr.size; omega) (fun j hj => by have := (hown.lt j hj).1; have := hbc.size; omega)
        have hb2' : Below W0.heap.size W0 W2 ∨ True := .inr trivial
        clear hgrow hgrow' hat hat' hown hown1 hG0 hkeep hb2'
        go_wp2
        refine HK.out _ _ (fun h => absurd (h.symm.trans (by kernel_rfl : _ = true)) Bool.false_ne_true) ?_
        clear HK K
        refine G_one (k := 10) rfl (by kernel_rfl) (fun K hK => ?_)
        have HK := Lib.hid hK
        clear hK
        go_wp2
        refine HK.out _ _ (fun h => absurd (h.symm.trans (by kernel_rfl : _ = true)) Bool.false_ne_true) ?_
        clear HK K
        obtain ⟨r4, s4, rfl⟩ := owns_form hown2
        refine G_one (k := 11) rfl (by kernel_rfl) (fun K hK => ?_)
        have HK := Lib.hid hK
        clear hK
        have cN2 : W2.cell? ⟨N, 4, none⟩ = some xv := by rw [Lib.cell_of_heap n2]; rfl
        have fN2 : W2.frozen? ⟨N, 4, none⟩ = false := Lib.frozen_of_heap n2 4
        have n3 : (W2.setCell ⟨N, 4, none⟩ (.slice r4 (k1 + 1) s4)).heap[N]? = some (.cells #[.int .i64 k, .int .i64 p, .string n, .int .i64 m, (.slice r4 (k1 + 1) s4), .slice p5 ps.length q5, .slice none 0 0, .slice p7 ds.length q7] 53 (0, 0)) := heap_setCell_same _ N 4 _ _ (.slice r4 (k1 + 1) s4) n2
        have HN3 := Lib.hid n3
        have ho3 : ∀ b : Nat, b ≠ N → (W2.setCell ⟨N, 4, none⟩ (.slice r4 (k1 + 1) s4)).heap[b]? = W2.heap[b]? := fun b hb => heap_setCell_other _ _ _ _ hb
        have HO3 := Lib.hid ho3
        have hz3 : (W2.setCell ⟨N, 4, none⟩ (.slice r4 (k1 + 1) s4)).heap.size = W2.heap.size := by simp
        have hb3 := hb2.setCell (p := ⟨N, 4, none⟩) hNW (.slice r4 (k1 + 1) s4)
        clear n2 n3 ho3
        go_wp2
        generalize W2.setCell ⟨N, 4, none⟩ (.slice r4 (k1 + 1) s4) = W3 at HN3 HO3 hz3 hb3 ⊢
        refine HK.out _ _ (fun h => absurd (h.symm.trans (by kernel_rfl : _ = true)) Bool.false_ne_true) ?_
        clear HK K cN2 fN2
        refine G_done (by kernel_rfl) ?_
        have hown3 : W3.ownsRow wc.heap.size 53 8 (.slice r4 (k1 + 1) s4) (k1 + 1) (vals ++ [.int .i64 tk, .int .i64 tp, .string tn, .int .i64 tm, .slice h4 tl.length i4, .slice h5 tps.length i5, .slice h6 tal.length i6, .slice h7 tds.length i7]) := owns_move hown2 (fun b hb _ => HO3.out b (by omega))
        have HG3 := Lib.hid (HG2.out.move (fun b hb _ => HO3.out b (by omega)) hz3)
        have HKp3 : Hid (∀ b : Nat, b < wc.heap.size → b ≠ N → W3.heap[b]? = wc.heap[b]?) := Lib.hid (fun b hb hbN => (HO3.out b hbN).trans ((HKP.out b hb).trans (HKp.out b hb hbN)))
        clear hown2
        go_wp2
        go_roundw
        case rel => exact ⟨k1 + 1, _, _, by omega, by go_num, HN3, hown3, HG3, HKp3, hb3, by omega⟩
        case measure => simp [intOf]; omega
      · have hkk : k1 = l.length := by omega
        have k1i : ¬ (k1 : Int) < l.length := by omega
        subst hkk
        have cS : wr.cell? ⟨w.heap.size, 4, none⟩ = some (.slice a4 l.length b4) := by rw [ho1] at hwS; rw [Lib.cell_of_heap hwS]; rfl
        have HSS := Lib.hid hwS
        have HD1 := Lib.hid (HG.out.done hown)
        obtain ⟨x4, y4, rfl⟩ := owns_form hown
        obtain ⟨w2, hw2r⟩ : ∃ V, V = wr := ⟨_, rfl⟩
        have HNL := Lib.hid HX.out
        clear hwS HX hown HG
        go_wp2
        subst hw2r
        have hNlt2 : N < w2.heap.size := by omega
        have hsl2 : (al.length : Int) ≤ 9223372036854775807 := by omega
        obtain ⟨j0, hj, hj0, hj1, hj2⟩ := info_parts' info_al
        clear cS
        go_loopw [5] (fun iv wr => ∃ (k2 : Nat) (yv : Value) (vals : List Value), k2 ≤ al.length ∧ iv = .int .i64 k2 ∧ Hid (wr.heap[N]? = some (.cells #[.int .i64 k, .int .i64 p, .string n, .int .i64 m, .slice x4 l.length y4, .slice p5 ps.length q5, yv, .slice p7 ds.length q7] 53 (0, 0))) ∧ wr.ownsRow w2.heap.size 86 13 yv k2 vals ∧ Hid (Gath Al.row 13 w2.heap.size wr yv al k2 vals) ∧ Hid (∀ b : Nat, b < w2.heap.size → b ≠ N → wr.heap[b]? = w2.heap[b]?) ∧ Below W.heap.size W wr ∧ w2.heap.size ≤ wr.heap.size) (fun iv _ => al.length - (intOf iv).toNat)
        case atStart => exact ⟨0, _, [], Nat.zero_le _, rfl, HNL, World.ownsRow_nil _ _ _ _, Lib.hid (fun j t hj => by omega), Lib.hid (fun _ _ _ => rfl), hbr, Nat.le_refl _⟩
        case round =>
          obtain ⟨k2, yv, vals, hk2, rfl, HX, hown, HG, HKp2, hbr2, hszr2⟩ := hrel
          have hwS : wr.heap[w.heap.size]? = some o1 := (HKp2.out _ (by omega) (by omega)).trans HSS.out
          by_cases hlt2 : k2 < al.length
          · have k2i : (k2 : Int) < al.length := by omega
            obtain ⟨t, ht⟩ : ∃ t, al[k2]? = some t := ⟨al[k2], List.getElem?_eq_getElem hlt2⟩
            obtain ⟨a, rfl, _, hrow⟩ := H6.out.at ht
            have hrow := hrow.on hbr2
            have HOA := Lib.hid (HAl.out t (List.mem_of_getElem? ht))
            have HT := Lib.hid ht
            obtain ⟨⟨pk, pp, pn, pm, pl⟩, ⟨tk, tp, tn, tm, tl, tps, tal, tds⟩⟩ := t
            obtain ⟨hpa, hex⟩ := hrow.parts
            obtain ⟨c0, c1, c2, hpn, c3, ⟨pa, pb, c4, _, _, x40⟩⟩ := hpa.cells
            obtain ⟨c5, c6, c7, hen, c8, ⟨g4, f4, c9, _, _, x44⟩, ⟨g5, f5, c10, _, _, x5⟩, ⟨g6, f6, c11, _, _, x6⟩, ⟨g7, f7, c12, _, _, x7⟩⟩ := hex.cells
            rw [add_off _ _ (by decide)] at c5 c6 c7 c8 c9 c10 c11 c12
            simp only [Nat.add_assoc, Nat.reduceAdd] at c6 c7 c8 c9 c10 c11 c12
            have cN : wr.cell? ⟨N, 6, none⟩ = some yv := by rw [Lib.cell_of_heap HX.out]; rfl
            have cS : wr.cell? ⟨w.heap.size, 6, none⟩ = some (.slice (some a) al.length b6) := by rw [ho1] at hwS; rw [Lib.cell_of_heap hwS]; rfl
            have HF : Hid (∀ V : World, Below wr.heap.size wr V → V.cell? ⟨N, 6, none⟩ = some (yv) ∧ V.cell? ⟨w.heap.size, 6, none⟩ = some (.slice (some a) al.length b6) ∧ V.cell? (a.add (k2 * 13)) = some (.int .i64 pk) ∧ V.cell? ⟨(a.add (k2 * 13)).block, (a.add (k2 * 13)).off + 1, none⟩ = some (.int .i64 pp) ∧ V.cell? ⟨(a.add (k2 * 13)).block, (a.add (k2 * 13)).off + 2, none⟩ = some (.string pn) ∧ V.cell? ⟨(a.add (k2 * 13)).block, (a.add (k2 * 13)).off + 3, none⟩ = some (.int .i64 pm) ∧ V.cell? ⟨(a.add (k2 * 13)).block, (a.add (k2 * 13)).off + 4, none⟩ = some (.slice pa pl.length pb) ∧ V.cell? ⟨(a.add (k2 * 13)).block, (a.add (k2 * 13)).off + 5, none⟩ = some (.int .i64 tk) ∧ V.cell? ⟨(a.add (k2 * 13)).block, (a.add (k2 * 13)).off + 6, none⟩ = some (.int .i64 tp) ∧ V.cell? ⟨(a.add (k2 * 13)).block, (a.add (k2 * 13)).off + 7, none⟩ = some (.string tn) ∧ V.cell? ⟨(a.add (k2 * 13)).block, (a.add (k2 * 13)).off + 8, none⟩ = some (.int .i64 tm) ∧ V.cell? ⟨(a.add (k2 * 13)).block, (a.add (k2 * 13)).off + 9, none⟩ = some (.slice g4 tl.length f4) ∧ V.cell? ⟨(a.add (k2 * 13)).block, (a.add (k2 * 13)).off + 10, none⟩ = some (.slice g5 tps.length f5) ∧ V.cell? ⟨(a.add (k2 * 13)).block, (a.add (k2 * 13)).off + 11, none⟩ = some (.slice g6 tal.length f6) ∧ V.cell? ⟨(a.add (k2 * 13)).block, (a.add (k2 * 13)).off + 12, none⟩ = some (.slice g7 tds.length f7)) := Lib.hid (fun V hV => ⟨(hV.cell (Lib.lt_of_cell cN)).trans cN, (hV.cell (Lib.lt_of_cell cS)).trans cS, (hV.cell (Lib.lt_of_cell c0)).trans c0, (hV.cell (Lib.lt_of_cell c1)).trans c1, (hV.cell (Lib.lt_of_cell c2)).trans c2, (hV.cell (Lib.lt_of_cell c3)).trans c3, (hV.cell (Lib.lt_of_cell c4)).trans c4, (hV.cell (Lib.lt_of_cell c5)).trans c5, (hV.cell (Lib.lt_of_cell c6)).trans c6, (hV.cell (Lib.lt_of_cell c7)).trans c7, (hV.cell (Lib.lt_of_cell c8)).trans c8, (hV.cell (Lib.lt_of_cell c9)).trans c9, (hV.cell (Lib.lt_of_cell c10)).trans c10, (hV.cell (Lib.lt_of_cell c11)).trans c11, (hV.cell (Lib.lt_of_cell c12)).trans c12⟩)
            have HVS := Lib.hid (ex_vs_mk (k := tk) (p := tp) (n := tn) (m := tm) hen x44 x5 x6 x7)
            have HVP := Lib.hid x40
            clear hrow hpa hex ht x40 x44 x5 x6 x7 c0 c1 c2 c3 c4 c5 c6 c7 c8 c9 c10 c11 c12 cN hwS
            go_wp2
            clear cS
            have hw0 : Below wr.heap.size wr wr.drew := (Below.refl _ _).drew
            refine wp_region_gate (fun V => V.cell? ⟨N, 6, none⟩ = some (yv) ∧ V.cell? ⟨w.heap.size, 6, none⟩ = some (.slice (some a) al.length b6) ∧ V.cell? (a.add (k2 * 13)) = some (.int .i64 pk) ∧ V.cell? ⟨(a.add (k2 * 13)).block, (a.add (k2 * 13)).off + 1, none⟩ = some (.int .i64 pp) ∧ V.cell? ⟨(a.add (k2 * 13)).block, (a.add (k2 * 13)).off + 2, none⟩ = some (.string pn) ∧ V.cell? ⟨(a.add (k2 * 13)).block, (a.add (k2 * 13)).off + 3, none⟩ = some (.int .i64 pm) ∧ V.cell? ⟨(a.add (k2 * 13)).block, (a.add (k2 * 13)).off + 4, none⟩ = some (.slice pa pl.length pb) ∧ V.cell? ⟨(a.add (k2 * 13)).block, (a.add (k2 * 13)).off + 5, none⟩ = some (.int .i64 tk) ∧ V.cell? ⟨(a.add (k2 * 13)).block, (a.add (k2 * 13)).off + 6, none⟩ = some (.int .i64 tp) ∧ V.cell? ⟨(a.add (k2 * 13)).block, (a.add (k2 * 13)).off + 7, none⟩ = some (.string tn) ∧ V.cell? ⟨(a.add (k2 * 13)).block, (a.add (k2 * 13)).off + 8, none⟩ = some (.int .i64 tm) ∧ V.cell? ⟨(a.add (k2 * 13)).block, (a.add (k2 * 13)).off + 9, none⟩ = some (.slice g4 tl.length f4) ∧ V.cell? ⟨(a.add (k2 * 13)).block, (a.add (k2 * 13)).off + 10, none⟩ = some (.slice g5 tps.length f5) ∧ V.cell? ⟨(a.add (k2 * 13)).block, (a.add (k2 * 13)).off + 11, none⟩ = some (.slice g6 tal.length f6) ∧ V.cell? ⟨(a.add (k2 * 13)).block, (a.add (k2 * 13)).off + 12, none⟩ = some (.slice g7 tds.length f7)) 18 (by kernel_rfl) (HF.out _ hw0) ?_
            change AtG _ _ _ _ _ _ _ _ _ wr.drew
            have hz0' : wr.drew.heap.size = wr.heap.size := rfl
            have hh0 : ∀ b : Nat, wr.drew.heap[b]? = wr.heap[b]? := fun b => rfl
            have HH0 := Lib.hid hh0
            clear hh0
            generalize wr.drew = W0 at hw0 hz0' HH0 ⊢
            refine G_take (i := 0) (v := ?_) rfl (by kernel_rfl) (fun _ _ _ h => h) (Or.inl ⟨by rfl, fun V hV => ?_⟩) ?_
            rotate_left
            · obtain ⟨cN, cS, c0, c1, c2, c3, c4, c5, c6, c7, c8, c9, c10, c11, c12⟩ := hV; go_simp; with_reducible rfl
            simp only [Act.put, List.setIfInBounds_toArray, List.set_cons_zero, List.set_cons_succ]
            refine G_take (i := 1) (v := ?_) rfl (by kernel_rfl) (fun _ _ _ h => h) (Or.inl ⟨by rfl, fun V hV => ?_⟩) ?_
            rotate_left
            · obtain ⟨cN, cS, c0, c1, c2, c3, c4, c5, c6, c7, c8, c9, c10, c11, c12⟩ := hV; go_simp; with_reducible rfl
            simp only [Act.put, List.setIfInBounds_toArray, List.set_cons_zero, List.set_cons_succ]
            refine G_take (i := 2) (v := ?_) rfl (by kernel_rfl) (fun _ _ _ h => h) (Or.inl ⟨by rfl, fun V hV => ?_⟩) ?_
            rotate_left
            · obtain ⟨cN, cS, c0, c1, c2, c3, c4, c5, c6, c7, c8, c9, c10, c11, c12⟩ := hV; go_simp; with_reducible rfl
            simp only [Act.put, List.setIfInBounds_toArray, List.set_cons_zero, List.set_cons_succ]
            refine G_take (i := 3) (v := ?_) rfl (by kernel_rfl) (fun _ _ _ h => h) (Or.inl ⟨by rfl, fun V hV => ?_⟩) ?_
            rotate_left
            · obtain ⟨cN, cS, c0, c1, c2, c3, c4, c5, c6, c7, c8, c9, c10, c11, c12⟩ := hV; go_simp; with_reducible rfl
            simp only [Act.put, List.setIfInBounds_toArray, List.set_cons_zero, List.set_cons_succ]
            refine G_take (i := 4) (v := ?_) rfl (by kernel_rfl) (fun _ _ _ h => h) (Or.inl ⟨by rfl, fun V hV => ?_⟩) ?_
            rotate_left
            · obtain ⟨cN, cS, c0, c1, c2, c3, c4, c5, c6, c7, c8, c9, c10, c11, c12⟩ := hV; go_simp; with_reducible rfl
            simp only [Act.put, List.setIfInBounds_toArray, List.set_cons_zero, List.set_cons_succ]
            refine G_take (i := 5) (v := ?_) rfl (by kernel_rfl) (fun _ _ _ h => h) (Or.inl ⟨by rfl, fun V hV => ?_⟩) ?_
            rotate_left
            · obtain ⟨cN, cS, c0, c1, c2, c3, c4, c5, c6, c7, c8, c9, c10, c11, c12⟩ := hV; go_simp; with_reducible rfl
            simp only [Act.put, List.setIfInBounds_toArray, List.set_cons_zero, List.set_cons_succ]
            refine G_take (i := 6) (v := ?_) rfl (by kernel_rfl) (fun _ _ _ h => h) (Or.inl ⟨by rfl, fun V hV => ?_⟩) ?_
            rotate_left
            · obtain ⟨cN, cS, c0, c1, c2, c3, c4, c5, c6, c7, c8, c9, c10, c11, c12⟩ := hV; go_simp; with_reducible rfl
            simp only [Act.put, List.setIfInBounds_toArray, List.set_cons_zero, List.set_cons_succ]
            refine G_take (i := 7) (v := ?_) rfl (by kernel_rfl) (fun _ _ _ h => h) (Or.inl ⟨by rfl, fun V hV => ?_⟩) ?_
            rotate_left
            · obtain ⟨cN, cS, c0, c1, c2, c3, c4, c5, c6, c7, c8, c9, c10, c11, c12⟩ := hV; go_simp; with_reducible rfl
            simp only [Act.put, List.setIfInBounds_toArray, List.set_cons_zero, List.set_cons_succ]
            refine G_take (i := 9) (v := ?_) rfl (by kernel_rfl) (fun _ _ _ h => h) (Or.inl ⟨by rfl, fun V hV => ?_⟩) ?_
            rotate_left
            · obtain ⟨cN, cS, c0, c1, c2, c3, c4, c5, c6, c7, c8, c9, c10, c11, c12⟩ := hV; go_simp; with_reducible rfl
            simp only [Act.put, List.setIfInBounds_toArray, List.set_cons_zero, List.set_cons_succ]
            refine G_take (i := 10) (v := ?_) rfl (by kernel_rfl) (fun _ _ _ h => h) (Or.inl ⟨by rfl, fun V hV => ?_⟩) ?_
            rotate_left
            · obtain ⟨cN, cS, c0, c1, c2, c3, c4, c5, c6, c7, c8, c9, c10, c11, c12⟩ := hV; go_simp; with_reducible rfl
            simp only [Act.put, List.setIfInBounds_toArray, List.set_cons_zero, List.set_cons_succ]
            refine G_take (i := 11) (v := ?_) rfl (by kernel_rfl) (fun _ _ _ h => h) (Or.inl ⟨by rfl, fun V hV => ?_⟩) ?_
            rotate_left
            · obtain ⟨cN, cS, c0, c1, c2, c3, c4, c5, c6, c7, c8, c9, c10, c11, c12⟩ := hV; go_simp; with_reducible rfl
            simp only [Act.put, List.setIfInBounds_toArray, List.set_cons_zero, List.set_cons_succ]
            refine G_take (i := 12) (v := ?_) rfl (by kernel_rfl) (fun _ _ _ h => h) (Or.inl ⟨by rfl, fun V hV => ?_⟩) ?_
            rotate_left
            · obtain ⟨cN, cS, c0, c1, c2, c3, c4, c5, c6, c7, c8, c9, c10, c11, c12⟩ := hV; go_simp; with_reducible rfl
            simp only [Act.put, List.setIfInBounds_toArray, List.set_cons_zero, List.set_cons_succ]
            refine G_take (i := 13) (v := ?_) rfl (by kernel_rfl) (fun _ _ _ h => h) (Or.inl ⟨by rfl, fun V hV => ?_⟩) ?_
            rotate_left
            · obtain ⟨cN, cS, c0, c1, c2, c3, c4, c5, c6, c7, c8, c9, c10, c11, c12⟩ := hV; go_simp; with_reducible rfl
            simp only [Act.put, List.setIfInBounds_toArray, List.set_cons_zero, List.set_cons_succ]
            refine G_take (i := 14) (v := ?_) rfl (by kernel_rfl) (fun _ _ _ h => h) (Or.inl ⟨by rfl, fun V hV => ?_⟩) ?_
            rotate_left
            · obtain ⟨cN, cS, c0, c1, c2, c3, c4, c5, c6, c7, c8, c9, c10, c11, c12⟩ := hV; go_simp; with_reducible rfl
            simp only [Act.put, List.setIfInBounds_toArray, List.set_cons_zero, List.set_cons_succ]
            refine G_one (k := 8) rfl (by kernel_rfl) (fun K hK => ?_)
            have HK := Lib.hid hK
            clear hK
            go_wp2_with fail
            refine (ownP_step pk pp pn pm pl HOA.out.1 P _ W0 (HVP.out.on hw0)).mono ?_
            rintro e V1 ⟨vp', rfl, hvp', hbp'⟩
            obtain ⟨j4, j5, rfl, _, _⟩ := hvp'.form
            have HVP' := Lib.hid hvp'
            have hv1 : Below wr.heap.size wr V1 := hw0.trans (hbp'.mono hw0.size)
            clear hvp'
            go_wp2
            refine HK.out _ _ (fun _ => HF.out _ hv1) ?_
            clear HK K
            refine G_one (k := 15) rfl (by kernel_rfl) (fun K hK => ?_)
            have HK := Lib.hid hK
            clear hK
            go_wp2_with fail
            refine (HOA.out.2 P _ V1 (HVS.out.on hv1)).mono ?_
            rintro e W1 ⟨vs', rfl, hvs', hb1'⟩
            obtain ⟨_, h4, h5, h6, h7, i4, i5, i6, i7, rfl, _, _, _, _⟩ := ex_vs hvs'
            have hw1 : Below wr.heap.size wr W1 := hv1.trans (hb1'.mono hv1.size)
            have hb01 : Below W0.heap.size W0 W1 := hbp'.trans (hb1'.mono hbp'.size)
            have HVS' : Hid (IsVs W1 (Own W0 W1) (Al.row (.mk (.mk pk pp pn pm pl) (.mk tk tp tn tm tl tps tal tds))) [.int .i64 pk, .int .i64 pp, .string pn, .int .i64 pm, .slice j4 pl.length j5, .int .i64 tk, .int .i64 tp, .string tn, .int .i64 tm, .slice h4 tl.length i4, .slice h5 tps.length i5, .slice h6 tal.length i6, .slice h7 tds.length i7]) := Lib.hid (by
              unfold Al.row
              refine IsVs.join _ _ [.int .i64 pk, .int .i64 pp, .string pn, .int .i64 pm, .slice j4 pl.length j5] _ (pa_vs_mk hpn ((HVP'.out.on hb1').mono (fun b hb => ⟨hb.1, by have := hb.2; have := hb1'.size; omega⟩))) ?_
              exact IsVs.mono (fun b hb => ⟨by have := hb.1; have := hbp'.size; omega, hb.2⟩) _ _ hvs')
            clear hvs'
            go_wp2
            refine HK.out _ _ (fun _ => HF.out _ hw1) ?_
            clear HK K
            refine G_pure (i := 16) (v := ?_) rfl (by kernel_rfl) (fun _ _ _ h => h) (Or.inl ⟨by rfl, fun V hV => ?_⟩) ?_
            rotate_left
            · go_simp; with_reducible rfl
            simp only [Act.put, List.setIfInBounds_toArray, List.set_cons_zero, List.set_cons_succ]
            refine G_one (k := 17) rfl (by kernel_rfl) (fun K hK => ?_)
            have HK := Lib.hid hK
            clear hK
            go_wp2
            refine HK.out _ _ (fun _ => HF.out _ (bl_alloc _ hw1)) ?_
            clear HK K
            refine G_one (k := 18) rfl (by kernel_rfl) (fun K hK => ?_)
            have HK := Lib.hid hK
            clear hK
            have hown1 : W1.ownsRow w2.heap.size 86 13 yv k2 vals := owns_move hown (fun b _ hb => (hb01.block b (by omega)).trans (HH0.out b))
            have hsz1 := hw1.size
            have hlen1 := hown1.1
            go_wp2_with (at_builtin; refine wpList_append_own_at _ rfl _ _ 50 rfl w2.heap.size 86 j0 _ 13 200 Tryz.underlying50 hj hj0 hj1 hj2 rfl (by decide) _ _ _ rfl (hown1.alloc _) ⟨W1.heap.size, 0, none⟩ 1 1 [.int .i64 pk, .int .i64 pp, .string pn, .int .i64 pm, .slice j4 pl.length j5, .int .i64 tk, .int .i64 tp, .string tn, .int .i64 tm, .slice h4 tl.length i4, .slice h5 tps.length i5, .slice h6 tal.length i6, .slice h7 tds.length i7] rfl rfl (cells_new _ [.int .i64 pk, .int .i64 pp, .string pn, .int .i64 pm, .slice j4 pl.length j5, .int .i64 tk, .int .i64 tp, .string tn, .int .i64 tm, .slice h4 tl.length i4, .slice h5 tps.length i5, .slice h6 tal.length i6, .slice h7 tds.length i7] _) (by simp [Value.oneCell']) (by unfold maxLen; omega) (by omega) (by simp; omega) ?_; intro v2' W2 hown2 hgrow _ hat)
            have hgrow' : (W1.alloc (.cells #[.int .i64 pk, .int .i64 pp, .string pn, .int .i64 pm, .slice j4 pl.length j5, .int .i64 tk, .int .i64 tp, .string tn, .int .i64 tm, .slice h4 tl.length i4, .slice h5 tps.length i5, .slice h6 tal.length i6, .slice h7 tds.length i7] 86)).grownBy W2 yv.ownBlock := hgrow
            have hat' : v2'.ownBlock = yv.ownBlock ∨ v2'.ownBlock = some (W1.alloc (.cells #[.int .i64 pk, .int .i64 pp, .string pn, .int .i64 pm, .slice j4 pl.length j5, .int .i64 tk, .int .i64 tp, .string tn, .int .i64 tm, .slice h4 tl.length i4, .slice h5 tps.length i5, .slice h6 tal.length i6, .slice h7 tds.length i7] 86)).heap.size := hat
            have hG0 : Gath Al.row 13 w2.heap.size W0 yv al k2 vals := HG.out.move (fun b _ _ => HH0.out b) hz0'
            have HG2 := Lib.hid (hG0.next (by omega) HT.out hlen1 rfl HVS'.out (fun g hg => by have := (hown.lt g hg).2; omega) hb01 hgrow' hat')
            have hkeep : ∀ b : Nat, b < w2.heap.size → W2.heap[b]? = wr.heap[b]? := fun b hb => by
              rw [hgrow'.block b (by simp; omega) (fun e => by have := (hown.lt b e.symm).1; omega), Below.heap_alloc _ _ _ (by omega), hb01.block b (by omega)]
              exact HH0.out b
            have HKP := Lib.hid hkeep
            have hsz2 : W1.heap.size + 1 ≤ W2.heap.size := by have := hgrow'.size; simpa using this
            have n2 : W2.heap[N]? = some (.cells #[.int .i64 k, .int .i64 p, .string n, .int .i64 m, .slice x4 l.length y4, .slice p5 ps.length q5, yv, .slice p7 ds.length q7] 53 (0, 0)) := (hkeep N hNlt2).trans HX.out
            have hb2 : Below W.heap.size W W2 := ((hbr2.trans (hw1.mono hbr2.size)).alloc (by have := hbr2.size; omega) _).grown hgrow' (by simp; have := hbr2.size; omega) (fun j hj => by have := (hown.lt j hj).1; have := hbc.size; omega)
            clear hgrow hgrow' hat hat' hown hown1 hG0 hkeep
            go_wp2
            refine HK.out _ _ (fun h => absurd (h.symm.trans (by kernel_rfl : _ = true)) Bool.false_ne_true) ?_
            clear HK K
            refine G_one (k := 19) rfl (by kernel_rfl) (fun K hK => ?_)
            have HK := Lib.hid hK
            clear hK
            go_wp2
            refine HK.out _ _ (fun h => absurd (h.symm.trans (by kernel_rfl : _ = true)) Bool.false_ne_true) ?_
            clear HK K
            obtain ⟨r4, s4, rfl⟩ := owns_form hown2
            refine G_one (k := 20) rfl (by kernel_rfl) (fun K hK => ?_)
            have HK := Lib.hid hK
            clear hK
            have cN2 : W2.cell? ⟨N, 6, none⟩ = some yv := by rw [Lib.cell_of_heap n2]; rfl
            have fN2 : W2.frozen? ⟨N, 6, none⟩ = false := Lib.frozen_of_heap n2 6
            have n3 : (W2.setCell ⟨N, 6, none⟩ (.slice r4 (k2 + 1) s4)).heap[N]? = some (.cells #[.int .i64 k, .int .i64 p, .string n, .int .i64 m, .slice x4 l.length y4, .slice p5 ps.length q5, (.slice r4 (k2 + 1) s4), .slice p7 ds.length q7] 53 (0, 0)) := heap_setCell_same _ N 6 _ _ (.slice r4 (k2 + 1) s4) n2
            have HN3 := Lib.hid n3
            have ho3 : ∀ b : Nat, b ≠ N → (W2.setCell ⟨N, 6, none⟩ (.slice r4 (k2 + 1) s4)).heap[b]? = W2.heap[b]? := fun b hb => heap_setCell_other _ _ _ _ hb
            have HO3 := Lib.hid ho3
            have hz3 : (W2.setCell ⟨N, 6, none⟩ (.slice r4 (k2 + 1) s4)).heap.size = W2.heap.size := by simp
            have hb3 := hb2.setCell (p := ⟨N, 6, none⟩) hNW (.slice r4 (k2 + 1) s4)
            clear n2 n3 ho3
            go_wp2
            generalize W2.setCell ⟨N, 6, none⟩ (.slice r4 (k2 + 1) s4) = W3 at HN3 HO3 hz3 hb3 ⊢
            refine HK.out _ _ (fun h => absurd (h.symm.trans (by kernel_rfl : _ = true)) Bool.false_ne_true) ?_
            clear HK K cN2 fN2
            refine G_done (by kernel_rfl) ?_
            have hown3 : W3.ownsRow w2.heap.size 86 13 (.slice r4 (k2 + 1) s4) (k2 + 1) (vals ++ [.int .i64 pk, .int .i64 pp, .string pn, .int .i64 pm, .slice j4 pl.length j5, .int .i64 tk, .int .i64 tp, .string tn, .int .i64 tm, .slice h4 tl.length i4, .slice h5 tps.length i5, .slice h6 tal.length i6, .slice h7 tds.length i7]) := owns_move hown2 (fun b hb _ => HO3.out b (by omega))
            have HG3 := Lib.hid (HG2.out.move (fun b hb _ => HO3.out b (by omega)) hz3)
            have HKp3 : Hid (∀ b : Nat, b < w2.heap.size → b ≠ N → W3.heap[b]? = w2.heap[b]?) := Lib.hid (fun b hb hbN => (HO3.out b hbN).trans ((HKP.out b hb).trans (HKp2.out b hb hbN)))
            clear hown2
            go_wp2
            go_roundw
            case rel => exact ⟨k2 + 1, _, _, by omega, by go_num, HN3, hown3, HG3, HKp3, hb3, by omega⟩
            case measure => simp [intOf]; omega
          · have hkk : k2 = al.length := by omega
            have k2i : ¬ (k2 : Int) < al.length := by omega
            subst hkk
            have cS : wr.cell? ⟨w.heap.size, 6, none⟩ = some (.slice a6 al.length b6) := by rw [ho1] at hwS; rw [Lib.cell_of_heap hwS]; rfl
            have HD2 := Lib.hid (HG.out.done hown)
            obtain ⟨z4, z5, rfl⟩ := owns_form hown
            have nF := HX.out
            have hw22 : wr.heap[w.heap.size + 1]? = some o2 := (HKp2.out _ (by omega) (by omega)).trans ((HKp.out _ (by omega) (by omega)).trans HW2.out)
            rw [ho2] at hw22
            have u0 : wr.cell? ⟨N, 0, none⟩ = some (.int .i64 k) := by rw [Lib.cell_of_heap nF]; rfl
            have u1 : wr.cell? ⟨N, 1, none⟩ = some (.int .i64 p) := by rw [Lib.cell_of_heap nF]; rfl
            have u2 : wr.cell? ⟨N, 2, none⟩ = some (.string n) := by rw [Lib.cell_of_heap nF]; rfl
            have u3 : wr.cell? ⟨N, 3, none⟩ = some (.int .i64 m) := by rw [Lib.cell_of_heap nF]; rfl
            have u4 : wr.cell? ⟨N, 4, none⟩ = some (.slice x4 l.length y4) := by rw [Lib.cell_of_heap nF]; rfl
            have u5 : wr.cell? ⟨N, 5, none⟩ = some (.slice p5 ps.length q5) := by rw [Lib.cell_of_heap nF]; rfl
            have u6 : wr.cell? ⟨N, 6, none⟩ = some (.slice z4 al.length z5) := by rw [Lib.cell_of_heap nF]; rfl
            have u7 : wr.cell? ⟨N, 7, none⟩ = some (.slice p7 ds.length q7) := by rw [Lib.cell_of_heap nF]; rfl
            have HW22 := Lib.hid hw22
            clear hwS hw22 nF HX hown HG
            go_wp2_with (refine store_all 53 #[.int .i64 k, .int .i64 p, .string n, .int .i64 m, .slice x4 l.length y4, .slice p5 ps.length q5, .slice z4 al.length z5, .slice p7 ds.length q7] (w.heap.size + 1) _ HW22.out (by kernel_rfl) rfl (by simp [Value.oneCell']) rfl _ _ rfl rfl rfl ?_; intro W4 hn4 ho4 hz4)
            clear u0 u1 u2 u3 u4 u5 u6 u7
            have r0 : W4.cell? ⟨w.heap.size + 1, 0, none⟩ = some (.int .i64 k) := by rw [Lib.cell_of_heap hn4]; rfl
            have r1 : W4.cell? ⟨w.heap.size + 1, 1, none⟩ = some (.int .i64 p) := by rw [Lib.cell_of_heap hn4]; rfl
            have r2 : W4.cell? ⟨w.heap.size + 1, 2, none⟩ = some (.string n) := by rw [Lib.cell_of_heap hn4]; rfl
            have r3 : W4.cell? ⟨w.heap.size + 1, 3, none⟩ = some (.int .i64 m) := by rw [Lib.cell_of_heap hn4]; rfl
            have r4 : W4.cell? ⟨w.heap.size + 1, 4, none⟩ = some (.slice x4 l.length y4) := by rw [Lib.cell_of_heap hn4]; rfl
            have r5 : W4.cell? ⟨w.heap.size + 1, 5, none⟩ = some (.slice p5 ps.length q5) := by rw [Lib.cell_of_heap hn4]; rfl
            have r6 : W4.cell? ⟨w.heap.size + 1, 6, none⟩ = some (.slice z4 al.length z5) := by rw [Lib.cell_of_heap hn4]; rfl
            have r7 : W4.cell? ⟨w.heap.size + 1, 7, none⟩ = some (.slice p7 ds.length q7) := by rw [Lib.cell_of_heap hn4]; rfl
            have hwW := hb1.size
            have hWc := hbc.size
            have hzz := hz4.1
            have k4 : ∀ b : Nat, W.heap.size ≤ b → W4.heap[b]? = wr.heap[b]? := fun b hb => ho4 b (by omega)
            have t4 : IsExs W4 (Own w W4) (.slice x4 l.length y4) l := ⟨IsC.mono (fun b hb => ⟨by have := hb.1; omega, by have := hb.2; omega⟩) _ _ (IsC.stay (fun b hb _ => (k4 b (by have := hb.1; omega)).trans (HKp2.out b hb.2 (by have := hb.1; omega))) _ _ HD1.out)⟩
            have t6 : IsAls W4 (Own w W4) (.slice z4 al.length z5) al := ⟨IsC.mono (fun b hb => ⟨by have := hb.1; omega, by have := hb.2; omega⟩) _ _ (IsC.stay (fun b hb _ => k4 b (by have := hb.1; omega)) _ _ HD2.out)⟩
            have t5 : IsPas W4 (Own w W4) (.slice p5 ps.length q5) ps := ⟨IsC.mono (fun b hb => ⟨by have := hb.1.1; omega, by have := hb.1.2; omega⟩) _ _ (IsC.stay (fun b hb _ => (k4 b (by have := hb.1.1; omega)).trans ((HKp2.out b (by have := hb.1.2; omega) hb.2).trans (HKp.out b hb.1.2 hb.2))) _ _ HV5.out.out)⟩
            have t7 : IsDes W4 (Own w W4) (.slice p7 ds.length q7) ds := ⟨IsC.mono (fun b hb => ⟨by have := hb.1.1; omega, by have := hb.1.2; omega⟩) _ _ (IsC.stay (fun b hb _ => (k4 b (by have := hb.1.1; omega)).trans ((HKp2.out b (by have := hb.1.2; omega) hb.2).trans (HKp.out b hb.1.2 hb.2))) _ _ HV7.out.out)⟩
            have hbF : Below w.heap.size w W4 := by
              have hq := hb1.trans (hbr2.mono hwW)
              exact ⟨hz4.2.1.trans hq.os, hz4.2.2.1.trans hq.tape, hz4.2.2.2.trans hq.output, by omega, fun j hj => (ho4 j (by omega)).trans (hq.block j hj)⟩
            have HFin := Lib.hid (ex_vs_mk (k := k) (p := p) (n := n) (m := m) hnm t4 t5 t6 t7)
            clear hn4 ho4 hz4 k4 t4 t5 t6 t7
            exact bodyPost_ret (v := .agg #[.int .i64 k, .int .i64 p, .string n, .int .i64 m, .slice x4 l.length y4, .slice p5 ps.length q5, .slice z4 al.length z5, .slice p7 ds.length q7]) (by simp [results, Tryz.results16, go_sem, *]) rfl ⟨[.int .i64 k, .int .i64 p, .string n, .int .i64 m, .slice x4 l.length y4, .slice p5 ps.length q5, .slice z4 al.length z5, .slice p7 ds.length q7], rfl, HFin.out, hbF⟩
end Go.Proofs.YtkdhoelabomgkaaGreatDoor
