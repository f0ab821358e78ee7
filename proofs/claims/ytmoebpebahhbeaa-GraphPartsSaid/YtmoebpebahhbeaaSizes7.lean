/-
  Layer 7, the law's side: GraphSizes.
-/
import Derived.Test.YtmoebpebahhbeaaKnows7
namespace Go.Proofs.Ytmoebpebahhbeaa
set_option linter.unusedVariables false
open Go.ChangeShapes Go.WideShapes Go.ChangeAt Go.RowKit

def selfE (x : Int × Int) : Bool := x.1 == x.2
set_option maxHeartbeats 1000000 in
set_option maxRecDepth 100000 in
theorem needsItself_any (v : Value) (es : List (Int × Int)) (w : World) (he : Edges w v es) :
    Calls Try.prog 27 #[v] w fun e w' => e = .returned (.bool (es.any selfE)) ∧ Below w.heap.size w w' := by
  obtain ⟨ao, c, rfl, hl, hc⟩ := he
  have HC := Lib.hid hc
  clear hc
  go_enter Try.func27, Try.ntmps27
  go_wp2_with fail
  go_loopw [7] (fun v wr => ∃ k : Nat, k ≤ es.length ∧ v = .int .i64 (k : Int) ∧ Below w.heap.size w wr ∧ Hid ((es.take k).any selfE = false)) (fun v _ => es.length - (intOf v).toNat)
  case atStart => exact ⟨0, Nat.zero_le _, rfl, Below.refl _ _, Lib.hid rfl⟩
  case round =>
    obtain ⟨k, hk, rfl, hb, HG⟩ := hrel
    by_cases hlt : k < es.length
    · have hx : es[k]? = some es[k] := List.getElem?_eq_getElem hlt
      obtain ⟨a, rfl, e2, e3, e4⟩ := HC.out k _ hx
      generalize hxx : es[k] = xx at *
      obtain ⟨x1, x2⟩ := xx
      have hadd : ∀ k, (a.add k).block = a.block := fun k => by unfold Addr.add; split <;> rfl
      have c1 : wr.cell? (a.add (k * 2)) = some (.int .i64 x1) := by rw [hb.cell (by rw [hadd]; exact e2)]; exact e3
      have c2 : wr.cell? (a.add (k * 2 + 1)) = some (.int .i64 x2) := by rw [hb.cell (by rw [hadd]; exact e2)]; exact e4
      have hkI : (k : Int) < (es.length : Int) := by omega
      have HB := Lib.hid hb
      have HGG := Lib.hid (show (es.take (k + 1)).any selfE = selfE (x1, x2) by
        rw [List.take_succ_eq_append_getElem hlt, hxx, List.any_append, HG.out]; simp)
      have HAN := Lib.hid (show (x1, x2) ∈ es by rw [← hxx]; exact List.getElem_mem hlt)
      clear hx hxx hb hadd e3 e4
      go_upto_region 4 with (refine load_pair a (k * 2) x1 x2 c1 c2 rfl _ rfl rfl ?_)
      have hbW := (HB.out.trans ((Below.refl wr.heap.size wr).alloc (Nat.le_refl _) (.cells #[.int .i64 x1, .int .i64 x2] 43) |>.mono HB.out.size))
      have q0 : (wr.alloc (.cells #[.int .i64 x1, .int .i64 x2] 43)).cell? ⟨wr.heap.size, 0, none⟩ = some (.int .i64 x1) := by rw [Lib.cell_of_heap (heap_alloc_new wr _)]; rfl
      have q1 : (wr.alloc (.cells #[.int .i64 x1, .int .i64 x2] 43)).cell? ⟨wr.heap.size, 1, none⟩ = some (.int .i64 x2) := by rw [Lib.cell_of_heap (heap_alloc_new wr _)]; rfl
      have HBW := Lib.hid hbW
      clear c1 c2 hbW
      generalize wr.alloc _ = W at q0 q1 HBW ⊢
      cases hs : (x1 == x2) with
      | true =>
        have hany : es.any selfE = true := List.any_eq_true.2 ⟨_, HAN.out, hs⟩
        have HA := Lib.hid hany
        clear hany
        go_wp2_with fail
        go_ret
        exact ⟨by rw [HA.out]; rfl, HBW.out⟩
      | false =>
        have HS := Lib.hid (show selfE (x1, x2) = false from hs)
        go_wp2_with fail
        go_roundw
        case rel => exact ⟨k + 1, by omega, by go_num, HBW.out, Lib.hid (by rw [HGG.out, HS.out])⟩
        case measure => simp [intOf]; omega
    · have hke : k = es.length := by omega
      have hany : es.any selfE = false := by
        have := HG.out
        rwa [hke, List.take_length] at this
      have HA := Lib.hid hany
      have HB := Lib.hid hb
      clear hany hke hb
      go_wp2_with fail
      go_ret
      exact ⟨by rw [HA.out]; rfl, HB.out⟩
set_option maxHeartbeats 1000000 in
set_option maxRecDepth 100000 in
theorem order_no (n : Int) (v : Value) (es : List (Int × Int)) (w : World) (he : Edges w v es) (hno : faultM n es ≠ 0 ∨ es.any selfE = true) :
    Calls Try.prog 13 #[.int .i64 n, v] w fun e w' => e = .returned (.tuple #[.slice none 0 0, .bool false]) ∧ Below w.heap.size w w' := by
  have HE := Lib.hid he
  obtain ⟨ao, c, rfl, _, _⟩ := he
  have HNO := Lib.hid hno
  clear hno
  go_enter Try.func13, Try.ntmps13
  go_wp2_with fail
  refine (Groups_any n _ es w HE.out).mono ?_
  rintro e w1 ⟨u, rfl, hb1, hg, hg2⟩
  by_cases hf : faultM n es = 0
  · obtain ⟨out, vs, ho, hrow, hrws⟩ := hg hf
    obtain ⟨au, cu, rfl⟩ := owns_form hrow
    have HB1 := Lib.hid hb1
    have HS : Hid (es.any selfE = true) := Lib.hid (HNO.out.resolve_left fun h => h hf)
    rw [hf]
    clear hb1 hg hg2 hf ho hrow hrws
    go_wp2_with fail
    refine (needsItself_any _ es w1 (HE.out.below HB1.out)).mono ?_
    rintro e w2 ⟨rfl, hb2⟩
    rw [HS.out]
    have HB2 := Lib.hid hb2
    clear hb2
    go_wp2_with fail
    go_ret2
    exact ⟨rfl, HB1.out.trans (HB2.out.mono HB1.out.size)⟩
  · have hu := hg2 hf
    subst hu
    have hne : (faultM n es != 0) = true := by rw [bne_iff_ne]; exact hf
    have HB1 := Lib.hid hb1
    clear hb1 hg hg2 hf
    go_wp2_with fail
    go_ret2
    exact ⟨rfl, HB1.out⟩
theorem und_pairs (w : World) (n : Nat) (hn : n ≤ 100000) : (Instr.makeSlice 22 (.int .i64 (n : Int)) (.int .i64 (n : Int))).run Try.prog w = .ok (.slice (some ⟨w.heap.size, 0, none⟩) n n) (w.alloc (.cells (madeCells #[.int .i64 0, .int .i64 0] (n * 2)) 43)) := by
  obtain ⟨i0, hi, hz0, hz1, hz2⟩ := info_parts info_pairZ
  have hr := run_make (P := Try.prog) w 22 43 i0 (.agg #[.int .i64 0, .int .i64 0]) Try.underlying22 hi hz0 .i64 .i64 n n (by omega) (by omega) (by rw [hz2]; omega) (by omega)
  rw [hz1] at hr
  simpa [Value.cells] using hr
theorem made_edges (w : World) (n : Nat) (hn : n ≤ 100000) : Edges (w.alloc (.cells (madeCells #[.int .i64 0, .int .i64 0] (n * 2)) 43)) (.slice (some ⟨w.heap.size, 0, none⟩) n n) (List.replicate n (0, 0)) := by
  refine ⟨some ⟨w.heap.size, 0, none⟩, n, by rw [List.length_replicate], by simp; omega, fun j x hx => ?_⟩
  have hj : j < n := by have := (List.getElem?_eq_some_iff.1 hx).1; simpa using this
  have e := List.eq_of_mem_replicate (List.mem_of_getElem? hx)
  subst e
  have hcell : ∀ i, i < n * 2 → (w.alloc (.cells (madeCells #[.int .i64 0, .int .i64 0] (n * 2)) 43)).cell? ((⟨w.heap.size, 0, none⟩ : Addr).add i) = some (.int .i64 0) := fun i hi => by
    rw [Addr.add_lit, Nat.zero_add, Lib.cell_of_heap (heap_alloc_new w _)]
    have h2 : i % 2 = 0 ∨ i % 2 = 1 := by omega
    rw [madeCells, Array.getElem?_map, Array.getElem?_range, if_pos hi]
    rcases h2 with h | h <;> simp [h]
  exact ⟨_, rfl, by simp, hcell _ (by omega), hcell _ (by omega)⟩
theorem fault_nil (n : Int) : faultM n [] = if n < 0 ∨ 1024 < n then 1 else 0 := by
  unfold faultM
  split
  · rfl
  · simp
theorem fault_zeros (m : Nat) : faultM 1 (List.replicate m (0, 0)) = if 16384 < m then 6 else 0 := by
  unfold faultM
  rw [if_neg (by omega), List.length_replicate]
  split
  · rfl
  · rw [if_neg]
    rw [Bool.not_eq_true, List.any_eq_false]
    intro x hx
    rw [List.eq_of_mem_replicate hx]
    decide
theorem edges_nil (w : World) : Edges w (.slice none 0 0) [] := ⟨none, 0, rfl, by simp, fun j x hx => by simp at hx⟩
set_option maxHeartbeats 2000000 in
set_option maxRecDepth 100000 in
theorem sizes_d (more d f1 f2 : Int) (m : Nat) (he : wrap64 ((wrap64 (more.tmod 3 + 3)).tmod 3 - 1) = d) (hm : wrap64 (16384 + d) = (m : Int)) (hmm : m ≤ 100000) (h1 : faultM (wrap64 (1024 + d)) [] = f1) (h2 : faultM 1 (List.replicate m (0, 0)) = f2) (hm0 : m ≠ 0)
    (hgood : f1 = 0 ∧ f2 = 0 ∧ d ≤ 0 ∨ f1 = 1 ∧ f2 = 6 ∧ 0 < d) (w : World) :
    Calls Try.prog 4 #[.int .i64 more] w fun e w' => e = .returned (.bool true) ∧ Below w.heap.size w w' := by
  have hG := Lib.hid hgood
  have hne : (List.replicate m ((0 : Int), (0 : Int))).any selfE = true := by
    rw [List.any_eq_true]
    exact ⟨(0, 0), by simp [List.mem_replicate, hm0], rfl⟩
  have HE := Lib.hid hne
  clear hne hgood
  go_enter Try.func4, Try.ntmps4
  go_wp2_with fail
  rw [he]
  refine (Groups_any _ _ [] w (edges_nil w)).mono ?_
  rintro e w1 ⟨u1, rfl, hb1, -, -⟩
  rw [h1]
  have HB1 := Lib.hid hb1
  clear hb1
  go_wp2_with fail
  rw [und_pairs w1 m hmm]
  go_wp2_with fail
  have hE := made_edges w1 m hmm
  have hbW := HB1.out.alloc HB1.out.size (.cells (madeCells #[.int .i64 0, .int .i64 0] (m * 2)) 43)
  generalize w1.alloc _ = W at hE hbW ⊢
  refine (Groups_any 1 _ _ W hE).mono ?_
  rintro e w2 ⟨u2, rfl, hb2, -, -⟩
  rw [h2]
  have hE2 := Lib.hid (hE.below hb2)
  have HB2 := Lib.hid (hbW.trans (hb2.mono hbW.size))
  clear hE hbW hb2 HB1
  go_wp2_with fail
  refine (order_no 1 _ _ w2 hE2.out (.inr HE.out)).mono ?_
  rintro e w3 ⟨rfl, hb3⟩
  have HB3 := Lib.hid (HB2.out.trans (hb3.mono HB2.out.size))
  clear hb3 HB2 hE2
  rcases hG.out with ⟨rfl, rfl, hd⟩ | ⟨rfl, rfl, hd⟩
  all_goals
    clear hG
    go_wp2_with (first | (go_at_call 16; refine (num_any _ _).mono ?_; rintro e w' ⟨rfl, rfl⟩) | (go_at_call 8; refine (knows7_any _).mono ?_; rintro e w4 ⟨rfl, hb4⟩))
    go_ret
    refine ⟨?_, HB3.out.trans (hb4.mono HB3.out.size)⟩
    first | rfl | (simp; omega)
theorem sizes_law (more : Int) (w : World) :
    Calls Try.prog 4 #[.int .i64 more] w fun e w' => e = .returned (.bool true) ∧ Below w.heap.size w w' := by
  have a1 := Int.tmod_lt_of_pos more (show (0 : Int) < 3 by decide)
  have a2 := Int.lt_tmod_of_pos more (show (0 : Int) < 3 by decide)
  have hx : ∃ t, more.tmod 3 = t ∧ (t = -2 ∨ t = -1 ∨ t = 0 ∨ t = 1 ∨ t = 2) := ⟨_, rfl, by omega⟩
  obtain ⟨t, ht, hc⟩ := hx
  have hz : ∀ m : Nat, m ≤ 16384 → faultM 1 (List.replicate m (0, 0)) = 0 := fun m h => by rw [fault_zeros, if_neg (by omega)]
  rcases hc with rfl | rfl | rfl | rfl | rfl
  · exact sizes_d more 0 0 0 16384 (by rw [ht]; decide +kernel) (by decide +kernel) (by decide) (by decide +kernel) (hz _ (by decide)) (by decide) (.inl ⟨rfl, rfl, by decide⟩) w
  · exact sizes_d more 1 1 6 16385 (by rw [ht]; decide +kernel) (by decide +kernel) (by decide) (by decide +kernel) (by rw [fault_zeros, if_pos (by decide)]) (by decide) (.inr ⟨rfl, rfl, by decide⟩) w
  · exact sizes_d more (-1) 0 0 16383 (by rw [ht]; decide +kernel) (by decide +kernel) (by decide) (by decide +kernel) (hz _ (by decide)) (by decide) (.inl ⟨rfl, rfl, by decide⟩) w
  · exact sizes_d more 0 0 0 16384 (by rw [ht]; decide +kernel) (by decide +kernel) (by decide) (by decide +kernel) (hz _ (by decide)) (by decide) (.inl ⟨rfl, rfl, by decide⟩) w
  · exact sizes_d more 1 1 6 16385 (by rw [ht]; decide +kernel) (by decide +kernel) (by decide) (by decide +kernel) (by rw [fault_zeros, if_pos (by decide)]) (by decide) (.inr ⟨rfl, rfl, by decide⟩) w
end Go.Proofs.Ytmoebpebahhbeaa
