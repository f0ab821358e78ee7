/- Texts of this proof, joined: KnM, PRtV, PRtC. No condition. -/
import Derived.Test.YtkdhoelabomgkaaGreatDoorMa40
import Derived.Test.YtkdhoelabomgkaaGreatDoorMa18
/-
  Layer 3, the program's side: the constants' cells.
-/
namespace Go.Proofs.YtkdhoelabomgkaaGreatDoor
set_option linter.unusedVariables false
open Go.ChangeShapes Go.WideShapes Go.ChangeAt Go.RowKit

/-- the constants' cells -/
def nameVs (n : ByteArray) : List Value := [.int .i64 1, .int .i64 0, .string n, .int .i64 0, .slice none 0 0, .slice none 0 0, .slice none 0 0, .slice none 0 0]
def numVs (m p : Int) : List Value := [.int .i64 3, .int .i64 p, .string ⟨#[]⟩, .int .i64 m, .slice none 0 0, .slice none 0 0, .slice none 0 0, .slice none 0 0]
def callVs (p : Int) (b : Nat) : List Value := [.int .i64 6, .int .i64 p, .string ⟨#[]⟩, .int .i64 0, .slice (some ⟨b, 0, none⟩) 2 2, .slice none 0 0, .slice none 0 0, .slice none 0 0]
theorem cells_of_block {W : World} {N : Nat} {x0 x1 x2 x3 x4 x5 x6 x7 : Value} {T : TypeId} (g : W.heap[N]? = some (.cells #[x0, x1, x2, x3, x4, x5, x6, x7] T (0, 0))) :
    W.cell? ⟨N, 0, none⟩ = some x0 ∧ W.cell? ⟨N, 1, none⟩ = some x1 ∧ W.cell? ⟨N, 2, none⟩ = some x2 ∧ W.cell? ⟨N, 3, none⟩ = some x3 ∧ W.cell? ⟨N, 4, none⟩ = some x4 ∧ W.cell? ⟨N, 5, none⟩ = some x5 ∧ W.cell? ⟨N, 6, none⟩ = some x6 ∧ W.cell? ⟨N, 7, none⟩ = some x7 := by
  refine ⟨?_, ?_, ?_, ?_, ?_, ?_, ?_, ?_⟩ <;> (rw [Lib.cell_of_heap g]; rfl)
theorem nil_exs {P : Nat → Prop} (W : World) : IsExs W P (.slice none 0 0) [] := ⟨by unfold IsC; exact .inl ⟨rfl, rfl⟩⟩
theorem nil_pas {P : Nat → Prop} (W : World) : IsPas W P (.slice none 0 0) [] := ⟨by unfold IsC; exact .inl ⟨rfl, rfl⟩⟩
theorem nil_als {P : Nat → Prop} (W : World) : IsAls W P (.slice none 0 0) [] := ⟨by unfold IsC; exact .inl ⟨rfl, rfl⟩⟩
theorem nil_des {P : Nat → Prop} (W : World) : IsDes W P (.slice none 0 0) [] := ⟨by unfold IsC; exact .inl ⟨rfl, rfl⟩⟩
theorem name_vs {P : Nat → Prop} (W : World) (n : ByteArray) (hn : n.size ≤ maxLen) : IsVs W P (nameC n).row (nameVs n) := ex_vs_mk hn (nil_exs W) (nil_pas W) (nil_als W) (nil_des W)
theorem num_vs {P : Nat → Prop} (W : World) (m p : Int) : IsVs W P (numC m p).row (numVs m p) := ex_vs_mk (by decide) (nil_exs W) (nil_pas W) (nil_als W) (nil_des W)
theorem call_vs {P : Nat → Prop} (W : World) (p q m : Int) (n : ByteArray) (hn : n.size ≤ maxLen) (b : Nat) (hP : P b) (T : TypeId) (g : W.heap[b]? = some (.cells (nameVs n ++ numVs m q).toArray T (0, 0))) : IsVs W P (callC p q n m).row (callVs p b) := by
  refine ex_vs_mk (by decide) ⟨?_⟩ (nil_pas W) (nil_als W) (nil_des W)
  unfold IsC
  refine .inr ⟨⟨b, 0, none⟩, 2, rfl, Nat.le_refl _, by unfold maxLen; omega, fun _ => hP, ?_⟩
  show IsRows W P 8 [Ex.row (nameC n), Ex.row (numC m q)] _
  unfold IsRows IsRows IsRows
  refine ⟨IsRow.of_vals _ _ _ (name_vs W n hn) fun j u hj => ?_, IsRow.of_vals _ _ _ (num_vs W m q) fun j u hj => ?_, trivial⟩
  · match j, hj with
    | 0, hj => simp [nameVs] at hj; subst hj; rw [add_zero2, Lib.cell_of_heap g]; rfl
    | 1, hj => simp [nameVs] at hj; subst hj; rw [add_off _ _ (by decide), Lib.cell_of_heap g]; rfl
    | 2, hj => simp [nameVs] at hj; subst hj; rw [add_off _ _ (by decide), Lib.cell_of_heap g]; rfl
    | 3, hj => simp [nameVs] at hj; subst hj; rw [add_off _ _ (by decide), Lib.cell_of_heap g]; rfl
    | 4, hj => simp [nameVs] at hj; subst hj; rw [add_off _ _ (by decide), Lib.cell_of_heap g]; rfl
    | 5, hj => simp [nameVs] at hj; subst hj; rw [add_off _ _ (by decide), Lib.cell_of_heap g]; rfl
    | 6, hj => simp [nameVs] at hj; subst hj; rw [add_off _ _ (by decide), Lib.cell_of_heap g]; rfl
    | 7, hj => simp [nameVs] at hj; subst hj; rw [add_off _ _ (by decide), Lib.cell_of_heap g]; rfl
  · rw [show ((⟨b, 0, none⟩ : Addr).add 8) = ⟨b, 8, none⟩ from add_off _ _ (by decide)]
    match j, hj with
    | 0, hj => simp [numVs] at hj; subst hj; rw [add_zero2, Lib.cell_of_heap g]; rfl
    | 1, hj => simp [numVs] at hj; subst hj; rw [add_off _ _ (by decide), Lib.cell_of_heap g]; rfl
    | 2, hj => simp [numVs] at hj; subst hj; rw [add_off _ _ (by decide), Lib.cell_of_heap g]; rfl
    | 3, hj => simp [numVs] at hj; subst hj; rw [add_off _ _ (by decide), Lib.cell_of_heap g]; rfl
    | 4, hj => simp [numVs] at hj; subst hj; rw [add_off _ _ (by decide), Lib.cell_of_heap g]; rfl
    | 5, hj => simp [numVs] at hj; subst hj; rw [add_off _ _ (by decide), Lib.cell_of_heap g]; rfl
    | 6, hj => simp [numVs] at hj; subst hj; rw [add_off _ _ (by decide), Lib.cell_of_heap g]; rfl
    | 7, hj => simp [numVs] at hj; subst hj; rw [add_off _ _ (by decide), Lib.cell_of_heap g]; rfl

theorem five_boxes (w : World) (o4 o5 o6 o7 o8 : Obj) : Below w.heap.size w (((((w.alloc o4).alloc o5).alloc o6).alloc o7).alloc o8) ∧ (((((w.alloc o4).alloc o5).alloc o6).alloc o7).alloc o8).heap[w.heap.size]? = some o4 ∧ (((((w.alloc o4).alloc o5).alloc o6).alloc o7).alloc o8).heap[w.heap.size + 1]? = some o5 ∧ (((((w.alloc o4).alloc o5).alloc o6).alloc o7).alloc o8).heap[w.heap.size + 1 + 1]? = some o6 ∧ (((((w.alloc o4).alloc o5).alloc o6).alloc o7).alloc o8).heap[w.heap.size + 1 + 1 + 1]? = some o7 ∧ (((((w.alloc o4).alloc o5).alloc o6).alloc o7).alloc o8).heap[w.heap.size + 1 + 1 + 1 + 1]? = some o8 ∧ (((((w.alloc o4).alloc o5).alloc o6).alloc o7).alloc o8).heap.size = w.heap.size + 5 := by
  obtain ⟨h1, h2, h3, h4, h5, h6⟩ := four_boxes w o4 o5 o6 o7
  have h8 := heap_alloc_new ((((w.alloc o4).alloc o5).alloc o6).alloc o7) o8
  rw [h6] at h8
  exact ⟨h1.alloc h1.size _, (Below.heap_alloc _ _ _ (heap_lt h2)).trans h2, (Below.heap_alloc _ _ _ (heap_lt h3)).trans h3, (Below.heap_alloc _ _ _ (heap_lt h4)).trans h4, (Below.heap_alloc _ _ _ (heap_lt h5)).trans h5, h8, by simp⟩
end Go.Proofs.YtkdhoelabomgkaaGreatDoor
/-
  Layer 3, the program's side: nothing at all; variables; cons.
-/
namespace Go.Proofs.YtkdhoelabomgkaaGreatDoor
set_option linter.unusedVariables false
open Go.ChangeShapes Go.WideShapes Go.ChangeAt Go.RowKit

theorem cells_of_block4 {W : World} {N : Nat} {x0 x1 x2 x3 : Value} {T : TypeId} (g : W.heap[N]? = some (.cells #[x0, x1, x2, x3] T (0, 0))) :
    W.cell? ⟨N, 0, none⟩ = some x0 ∧ W.cell? ⟨N, 1, none⟩ = some x1 ∧ W.cell? ⟨N, 2, none⟩ = some x2 ∧ W.cell? ⟨N, 3, none⟩ = some x3 :=
  ⟨by rw [Lib.cell_of_heap g]; rfl, by rw [Lib.cell_of_heap g]; rfl, by rw [Lib.cell_of_heap g]; rfl, by rw [Lib.cell_of_heap g]; rfl⟩
theorem ty0_vs (w : World) : IsVs w Any ty0.row [.int .i64 0, .int .i64 0, .string ⟨#[]⟩, .slice none 0 0] := by
  unfold ty0 Ty.row
  exact ⟨_, _, rfl, (by unfold IsC; rfl), _, _, rfl, (by unfold IsC; rfl), _, _, rfl, (by unfold IsC; exact ⟨rfl, by decide⟩), _, _, rfl, (by unfold IsC Ty.rows; exact .inl ⟨rfl, rfl⟩), rfl⟩
theorem ex0_vs (w : World) : IsVs w Any ex0.row [.int .i64 0, .int .i64 0, .string ⟨#[]⟩, .int .i64 0, .slice none 0 0, .slice none 0 0, .slice none 0 0, .slice none 0 0] :=
  ex_vs_mk (by decide) (nil_exs w) (nil_pas w) (nil_als w) (nil_des w)
set_option maxHeartbeats 800000 in
set_option maxRecDepth 100000 in
theorem notype_any (t : Ty) (P : Nat → Prop) (vs : List Value) (w : World) (hv : IsVs w P t.row vs) :
    Calls Tryz.prog 107 #[.agg vs.toArray] w fun e w' => e = .returned (.bool (t.same ty0)) ∧ Below w.heap.size w w' := by
  obtain ⟨tk, tp, tn, tl⟩ := t
  obtain ⟨a, b, rfl, _⟩ := ty_vs hv
  have hb1 := bl_alloc (.cells #[.int .i64 tk, .int .i64 tp, .string tn, .slice a tl.length b] 39) (Below.refl w.heap.size w)
  have g1 := heap_alloc_new w (.cells #[.int .i64 tk, .int .i64 tp, .string tn, .slice a tl.length b] 39)
  have HV := Lib.hid (IsVs.on hb1 _ _ hv)
  clear hv
  go_enter Tryz.func107, Tryz.ntmps107
  go_upto_region 1 with fail
  generalize (w.alloc (.cells #[.int .i64 tk, .int .i64 tp, .string tn, .slice a tl.length b] 39)) = W at hb1 g1 HV ⊢
  obtain ⟨c0, c1, c2, c3⟩ := cells_of_block4 g1
  have HB := Lib.hid hb1
  clear g1 hb1
  go_wp2_with fail
  refine (sameT_any (.mk tk tp tn tl) ty0 (.inr (by decide)) P Any [_, _, _, _] [_, _, _, _] W HV.out (ty0_vs W)).mono ?_
  rintro e w' ⟨rfl, hb⟩
  go_wp2
  go_ret
  exact ⟨rfl, HB.out.trans (hb.mono HB.out.size)⟩
set_option maxHeartbeats 800000 in
set_option maxRecDepth 100000 in
theorem noexpr_any (t : Ex) (P : Nat → Prop) (vs : List Value) (w : World) (hv : IsVs w P t.row vs) :
    Calls Tryz.prog 108 #[.agg vs.toArray] w fun e w' => e = .returned (.bool (t.same ex0)) ∧ Below w.heap.size w w' := by
  obtain ⟨ek, ep, en, em, el, eps, eal, eds⟩ := t
  obtain ⟨_, a4, a5, a6, a7, b4, b5, b6, b7, rfl, _⟩ := ex_vs hv
  have hb1 := bl_alloc (.cells #[.int .i64 ek, .int .i64 ep, .string en, .int .i64 em, .slice a4 el.length b4, .slice a5 eps.length b5, .slice a6 eal.length b6, .slice a7 eds.length b7] 53) (Below.refl w.heap.size w)
  have g1 := heap_alloc_new w (.cells #[.int .i64 ek, .int .i64 ep, .string en, .int .i64 em, .slice a4 el.length b4, .slice a5 eps.length b5, .slice a6 eal.length b6, .slice a7 eds.length b7] 53)
  have HV := Lib.hid (IsVs.on hb1 _ _ hv)
  clear hv
  go_enter Tryz.func108, Tryz.ntmps108
  go_upto_region 1 with fail
  generalize (w.alloc (.cells #[.int .i64 ek, .int .i64 ep, .string en, .int .i64 em, .slice a4 el.length b4, .slice a5 eps.length b5, .slice a6 eal.length b6, .slice a7 eds.length b7] 53)) = W at hb1 g1 HV ⊢
  obtain ⟨c0, c1, c2, c3, c4, c5, c6, c7⟩ := cells_of_block g1
  have HB := Lib.hid hb1
  clear g1 hb1
  go_wp2_with fail
  refine (sameE_any (.mk ek ep en em el eps eal eds) ex0 (.inr (by decide)) P Any [_, _, _, _, _, _, _, _] [_, _, _, _, _, _, _, _] W HV.out (ex0_vs W)).mono ?_
  rintro e w' ⟨rfl, hb⟩
  go_wp2
  go_ret
  exact ⟨rfl, HB.out.trans (hb.mono HB.out.size)⟩

theorem any_take_succ {vs : List ByteArray} {k : Nat} {x : ByteArray} (hx : vs[k]? = some x) (f : ByteArray → Bool) : (vs.take (k + 1)).any f = ((vs.take k).any f || f x) := by
  rw [List.take_add_one, hx]
  simp
theorem any_take_le {vs : List ByteArray} {k m : Nat} {x : ByteArray} (hx : vs[k]? = some x) (hk : k < m) (f : ByteArray → Bool) (hf : f x = true) : (vs.take m).any f = true := by
  rw [List.any_eq_true]
  refine ⟨x, List.mem_of_getElem? (i := k) ?_, hf⟩
  rw [List.getElem?_take_of_lt hk]
  exact hx
set_option maxHeartbeats 1600000 in
set_option maxRecDepth 100000 in
theorem index_any (vs : List ByteArray) (m : Nat) (hm : m ≤ vs.length) (s : ByteArray) (P : Nat → Prop) (ao : Option Addr) (n cap : Nat) (w : World) (hM : vs.length ≤ maxLen) (hs : IsTxs w P (.slice ao n cap) vs) :
    Calls Tryz.prog 125 #[.slice ao m cap, .string s] w fun e w' => (∃ r : Int, e = .returned (.int .i64 r) ∧ decide (0 ≤ r) = (vs.take m).any (fun u => u.toList == s.toList)) ∧ w = w' := by
  have HS := Lib.hid hs
  have hmm : (m : Int) ≤ 9223372036854775807 := by unfold maxLen at hM; omega
  clear hs
  go_enter Tryz.func125, Tryz.ntmps125
  go_wp2
  go_loop [8] (fun i => ∃ k : Nat, k ≤ m ∧ i = .int .i64 k ∧ Hid ((vs.take k).any (fun u => u.toList == s.toList) = false)) (fun i => m - (intOf i).toNat)
  case atStart => exact ⟨0, Nat.zero_le _, rfl, Lib.hid (by simp)⟩
  case round =>
    obtain ⟨k, hk, rfl, H⟩ := hrel
    by_cases hlt : k < m
    · have i1 : (k : Int) < m := by omega
      obtain ⟨x, hx⟩ : ∃ x, vs[k]? = some x := ⟨vs[k]'(by omega), List.getElem?_eq_getElem (by omega)⟩
      obtain ⟨a, rfl, _, hrow⟩ := HS.out.at hx
      have hcell := (hrow.cell).1
      rw [Nat.mul_one] at hcell
      have HX := Lib.hid hx
      clear hrow hx
      by_cases he : (s.toList == x.toList) = true
      · have HA := Lib.hid (any_take_le HX.out hlt (fun u => u.toList == s.toList) (by rw [beq_iff_eq] at he ⊢; exact he.symm))
        go_wp2
        go_ret
        exact ⟨⟨_, rfl, by rw [HA.out]; exact decide_eq_true (by omega)⟩, rfl⟩
      · have he : (s.toList == x.toList) = false := by simpa using he
        have HN : Hid ((vs.take (k + 1)).any (fun u => u.toList == s.toList) = false) := Lib.hid (by
          rw [any_take_succ HX.out, H.out, Bool.false_or]
          rw [beq_eq_false_iff_ne] at he ⊢
          exact fun h => he h.symm)
        go_wp2
        go_round
        case rel => exact ⟨k + 1, by omega, by go_num, HN⟩
        case measure => simp [intOf]; omega
    · have i1 : ¬ (k : Int) < m := by omega
      have hkm : k = m := by omega
      subst hkm
      go_wp2
      go_ret
      exact ⟨⟨_, rfl, by rw [H.out]; rfl⟩, rfl⟩
set_option maxHeartbeats 800000 in
theorem contains_any (vs : List ByteArray) (m : Nat) (hm : m ≤ vs.length) (s : ByteArray) (P : Nat → Prop) (ao : Option Addr) (n cap : Nat) (w : World) (hM : vs.length ≤ maxLen) (hs : IsTxs w P (.slice ao n cap) vs) :
    Calls Tryz.prog 116 #[.slice ao m cap, .string s] w fun e w' => e = .returned (.bool ((vs.take m).any fun u => u.toList == s.toList)) ∧ w = w' := by
  have HI := Lib.hid (index_any vs m hm s P ao n cap w hM hs)
  clear hs
  go_enter Tryz.func116, Tryz.ntmps116
  go_wp2_with fail
  refine HI.out.mono ?_
  rintro e w' ⟨⟨r, rfl, hr⟩, rfl⟩
  have HR := Lib.hid hr
  clear hr
  by_cases h0 : 0 ≤ r
  · go_wp2
    go_ret
    exact ⟨by rw [← HR.out]; simp [h0], rfl⟩
  · go_wp2
    go_ret
    exact ⟨by rw [← HR.out]; simp, rfl⟩
end Go.Proofs.YtkdhoelabomgkaaGreatDoor
/-
  Layer 3, the program's side: the variables and the cons of a type's declaration.
-/
namespace Go.Proofs.YtkdhoelabomgkaaGreatDoor
set_option linter.unusedVariables false
open Go.ChangeShapes Go.WideShapes Go.ChangeAt Go.RowKit

theorem up_step {vs : List ByteArray} {k : Nat} {x : ByteArray} (hx : vs[k]? = some x) : upB (vs.take k) (vs.drop k) = (nameB x && (!((vs.take k).any fun u => u.toList == x.toList) && upB (vs.take (k + 1)) (vs.drop (k + 1)))) := by
  obtain ⟨h1, h2⟩ := List.getElem?_eq_some_iff.1 hx
  rw [List.drop_eq_getElem_cons h1, h2]
  rw [show vs.take (k + 1) = vs.take k ++ [x] by rw [List.take_add_one, hx]; rfl]
  rfl
set_option maxHeartbeats 1600000 in
set_option maxRecDepth 100000 in
theorem vars_any (vs : List ByteArray) (P : Nat → Prop) (v : Value) (w : World) (hs : IsTxs w P v vs) :
    Calls Tryz.prog 105 #[v] w fun e w' => e = .returned (.bool (varsB vs)) ∧ w = w' := by
  obtain ⟨ao, cap, rfl, v1, v2⟩ := hs.form
  have HS := Lib.hid hs
  have hlm : (vs.length : Int) ≤ 9223372036854775807 := by unfold maxLen at v2; omega
  have HM := Lib.hid (show vs.length ≤ maxLen by omega)
  clear hs
  unfold varsB
  by_cases h16 : (16 : Int) < vs.length
  · rw [decide_eq_false (by omega), Bool.false_and]
    go_enter Tryz.func105, Tryz.ntmps105
    go_wp2
    go_ret
    exact ⟨rfl, rfl⟩
  rw [decide_eq_true (by omega), Bool.true_and]
  go_enter Tryz.func105, Tryz.ntmps105
  go_wp2
  go_loop [10] (fun i => ∃ k : Nat, k ≤ vs.length ∧ i = .int .i64 k ∧ Hid (upB [] vs = upB (vs.take k) (vs.drop k))) (fun i => vs.length - (intOf i).toNat)
  case atStart => exact ⟨0, Nat.zero_le _, rfl, Lib.hid rfl⟩
  case round =>
    obtain ⟨k, hk, rfl, H⟩ := hrel
    by_cases hlt : k < vs.length
    · have i1 : (k : Int) < vs.length := by omega
      have i2 : (k : Int) ≤ cap := by omega
      obtain ⟨x, hx⟩ : ∃ x, vs[k]? = some x := ⟨vs[k], List.getElem?_eq_getElem hlt⟩
      obtain ⟨a, rfl, _, hrow⟩ := HS.out.at hx
      obtain ⟨hcell, hxn⟩ := hrow.cell
      rw [Nat.mul_one] at hcell
      have HX := Lib.hid (H.out.trans (up_step hx))
      clear hrow hx
      cases hn : nameB x with
      | false =>
        have HF := Lib.hid (show upB [] vs = false by rw [HX.out, hn]; rfl)
        go_wp2_with fail
        refine (pisname_any x hxn _).mono ?_
        rw [hn]
        rintro e w' ⟨rfl, rfl⟩
        clear hn
        go_wp2
        go_ret
        exact ⟨by rw [HF.out]; rfl, rfl⟩
      | true =>
        have HC := Lib.hid (contains_any vs k hk x P (some a) vs.length cap w HM.out HS.out)
        cases hc : (vs.take k).any fun u => u.toList == x.toList with
        | true =>
          have HF := Lib.hid (show upB [] vs = false by rw [HX.out, hn, hc]; rfl)
          have HC2 := HC.out
          rw [hc] at HC2
          have HC3 := Lib.hid HC2
          go_wp2_with fail
          refine (pisname_any x hxn _).mono ?_
          rw [hn]
          rintro e w' ⟨rfl, rfl⟩
          clear hn hc HC2
          go_wp2_with fail
          refine HC3.out.mono ?_
          rintro e w' ⟨rfl, rfl⟩
          go_wp2
          go_ret
          exact ⟨by rw [HF.out]; rfl, rfl⟩
        | false =>
          have HN : Hid (upB [] vs = upB (vs.take (k + 1)) (vs.drop (k + 1))) := Lib.hid (by rw [HX.out, hn, hc]; rfl)
          have HC2 := HC.out
          rw [hc] at HC2
          have HC3 := Lib.hid HC2
          go_wp2_with fail
          refine (pisname_any x hxn _).mono ?_
          rw [hn]
          rintro e w' ⟨rfl, rfl⟩
          clear hn hc HC2
          go_wp2_with fail
          refine HC3.out.mono ?_
          rintro e w' ⟨rfl, rfl⟩
          go_wp2
          go_round
          case rel => exact ⟨k + 1, by omega, by go_num, HN⟩
          case measure => simp [intOf]; omega
    · have i1 : ¬ (k : Int) < vs.length := by omega
      have HF := Lib.hid (show upB [] vs = true by rw [H.out, List.drop_eq_nil_of_le (by omega)]; rfl)
      go_wp2
      go_ret
      exact ⟨by rw [HF.out]; rfl, rfl⟩
set_option maxHeartbeats 1600000 in
set_option maxRecDepth 100000 in
theorem co_any (c : Co) (P : Nat → Prop) (E : Addr) (w : World) (hr : RangeOk w) (h : IsCo w P E c) :
    Calls Tryz.prog 118 #[.pointer (some E)] w fun e w' => e = .returned (.bool (coB c)) ∧ Below w.heap.size w w' := by
  have hsay : ∀ (W : World) (hb : Below w.heap.size w W) (j : Nat) (t : Ty), c.args[j]? = some t → SaysCt t (t.rt 400) W := by
    intro W hbW j t _ P a W2 hb ha
    have H := Lib.hid (rtT_all 400 t (Nat.le_refl _) P a W2 ((hr.on hbW).on hb) ha)
    clear ha hb h hbW
    go_enter Tryz.func119, Tryz.ntmps119
    go_wp2_with fail
    refine H.out.mono ?_
    rintro e w' ⟨rfl, hb⟩
    go_wp2
    go_ret
    exact ⟨rfl, hb⟩
  obtain ⟨_, c1, hn, ao, cap, c2, hm, hM, hl⟩ := h.cells
  have HL := Lib.hid hl
  have HS := Lib.hid hsay
  have HR := Lib.hid hr
  clear h hl hsay hr
  unfold coB
  cases hc : conB c.name with
  | false =>
    go_enter Tryz.func118, Tryz.ntmps118
    go_wp2_with fail
    refine (iscon_any _ hn _ HR.out).mono ?_
    rw [hc]
    rintro e w' ⟨rfl, hb⟩
    clear hc
    go_wp2
    go_ret
    exact ⟨rfl, hb⟩
  | true =>
    by_cases h16 : (c.args.length : Int) ≤ 16
    · rw [decide_eq_true (by omega : c.args.length ≤ 16)]
      go_enter Tryz.func118, Tryz.ntmps118
      go_wp2_with fail
      refine (iscon_any _ hn _ HR.out).mono ?_
      rw [hc]
      rintro e w1 ⟨rfl, hb⟩
      have c2 := bel_cell hb c2
      have HQ := Lib.hid (allCt (fun t : Ty => t.rt 400) c.args w1 (HS.out w1 hb) P _ (HL.out.on hb))
      clear hc
      go_wp2_with fail
      refine HQ.out.mono ?_
      rintro e w2 ⟨rfl, hb2⟩
      go_wp2
      go_ret
      exact ⟨rfl, hb.trans (hb2.mono hb.size)⟩
    · rw [decide_eq_false (by omega : ¬ c.args.length ≤ 16)]
      go_enter Tryz.func118, Tryz.ntmps118
      go_wp2_with fail
      refine (iscon_any _ hn _ HR.out).mono ?_
      rw [hc]
      rintro e w1 ⟨rfl, hb⟩
      have c2 := bel_cell hb c2
      clear hc
      go_wp2
      go_ret
      exact ⟨rfl, hb⟩
set_option maxHeartbeats 800000 in
theorem cons_any (l : List Co) (P : Nat → Prop) (v : Value) (w : World) (hr : RangeOk w) (hs : IsCos w P v l) :
    Calls Tryz.prog 106 #[v] w fun e w' => e = .returned (.bool (cosB l)) ∧ Below w.heap.size w w' := by
  obtain ⟨ao, cap, rfl, v1, v2⟩ := hs.form
  have HQ := Lib.hid (allC coB l w (fun j t _ P a W hb ha => co_any t P a W (hr.on hb) ha) P _ hs)
  clear hs
  unfold cosB
  cases hsm : someB (l.length : Int) 32 with
  | false =>
    go_enter Tryz.func106, Tryz.ntmps106
    go_wp2_with fail
    refine (someof_any _ _ _).mono ?_
    rw [hsm]
    rintro e w' ⟨rfl, rfl⟩
    clear hsm
    go_wp2
    go_ret
    exact ⟨rfl, Below.refl _ _⟩
  | true =>
    go_enter Tryz.func106, Tryz.ntmps106
    go_wp2_with fail
    refine (someof_any _ _ _).mono ?_
    rw [hsm]
    rintro e w' ⟨rfl, rfl⟩
    clear hsm
    go_wp2_with fail
    refine HQ.out.mono ?_
    rintro e w' ⟨rfl, hb⟩
    go_wp2
    go_ret
    exact ⟨rfl, hb⟩
end Go.Proofs.YtkdhoelabomgkaaGreatDoor
