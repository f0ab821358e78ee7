/-
  Layer 7, the program's side: slices.Repeat of one number.
-/
import Derived.Test.YtmoebpebahhbeaaG3
import Derived.Laws.CopyOwn
import Derived.BigRegion
import Derived.Test.YtmoebpebahhbeaaGate
import Derived.Deep.RegionLaw
namespace Go.Proofs.Ytmoebpebahhbeaa
set_option linter.unusedVariables false
open Go.ChangeShapes Go.WideShapes Go.ChangeAt Go.RowKit

/-- so many of one, nothing behind -/
def part1 (n m : Nat) : List Value := List.replicate m (.int .i64 (-1)) ++ List.replicate (n - m) (.int .i64 0)
theorem part1_len {n m : Nat} (h : m ≤ n) : (part1 n m).length = n := by simp [part1]; omega
theorem part1_splice {n m d : Nat} (h : m + d ≤ n) : splice (part1 n m) m (List.replicate d (.int .i64 (-1))) = part1 n (m + d) := by
  unfold splice part1
  rw [List.take_left' (by simp), List.length_replicate, List.drop_append, List.drop_of_length_le (by simp), List.nil_append, List.length_replicate, show m + d - m = d by omega, List.drop_replicate, ← List.append_assoc, List.replicate_append_replicate, show n - m - d = n - (m + d) by omega]
theorem info_u : (Try.prog.info? 3).map (·.size) = some 1 := by kernel_rfl
set_option maxHeartbeats 1000000 in
set_option maxRecDepth 100000 in
theorem repeat_any (n g : Nat) (w : World) (hn : n ≤ 1024) (hc : w.cell? ⟨g, 0, none⟩ = some (.int .i64 (-1))) :
    Calls Try.prog 34 #[.slice (some ⟨g, 0, none⟩) 1 1, .int .i64 (n : Int)] w fun e w' => ∃ v, e = .returned v ∧ w'.ownsRow w.heap.size 3 1 v n (List.replicate n (.int .i64 (-1))) ∧ Below w.heap.size w w' := by
  have hm := Try.bits_Mul 1 n (by omega) (by omega)
  have e1 : 1 * n / 18446744073709551616 = 0 := by omega
  have e2 : 1 * n % 18446744073709551616 = n := by omega
  rw [e1, e2] at hm
  obtain ⟨i0, hi, hz0, hz1, hz2⟩ := info_parts info_int
  have HI := Lib.hid hi
  have HZ0 := Lib.hid hz0
  have HZ1 := Lib.hid hz1
  have HZ2 := Lib.hid hz2
  have HM := Lib.hid hm
  clear hi hz0 hz1 hz2 hm e1 e2
  have h0 : decide ((n : Int) < 0) = false := decide_eq_false (by omega)
  go_enter Try.func34, Try.ntmps34
  go_wp2_with fail
  refine (HM.out w).mono ?_
  rintro e w' ⟨rfl, hw⟩
  subst hw
  have hz : ∀ w1 : World, w1.ownsRow w'.heap.size 3 1 (.slice (some ⟨w'.heap.size, 0, none⟩) n n) n (madeCells (Value.int .i64 0).cells (n * 1)).toList → w'.grownBy w1 none → w1.heap[w'.heap.size]? = some (.cells (part1 n 0).toArray 3 (0, 0)) ∧ Below w'.heap.size w' w1 := fun w1 ho hg => by
    rcases ho.2 with ⟨h', _⟩ | ⟨g', cap', cur, h', hB, hg', hnc, hcm, hcs, htake⟩
    · simp at h'
    · simp only [Value.slice.injEq, Option.some.injEq, Addr.mk.injEq, and_true, true_and] at h'
      obtain ⟨rfl, rfl⟩ := h'
      refine ⟨?_, ⟨hg.os, hg.tape, hg.output, hg.size, fun k hk => hg.block k hk (by simp)⟩⟩
      rw [hg']
      have e : cur = (part1 n 0).toArray := by
        rw [List.take_of_length_le (by rw [Array.length_toList]; omega), Nat.mul_one, show (Value.int IntKind.i64 0).cells = #[.int .i64 0] from rfl, toList_madeCells_one] at htake
        rw [← Array.toArray_toList (xs := cur), htake]
        simp [part1]
      rw [e]
  have HZ := Lib.hid hz
  clear hz
  go_upto_region 7 with (refine wpList_make_full _ rfl _ _ 30 rfl w'.heap.size 3 i0 (.int .i64 0) 1 Try.underlying30 HI.out HZ0.out HZ1.out .i64 .i64 _ _ n rfl rfl rfl rfl (by rw [HZ2.out]; omega) (by unfold maxLen; omega) (by simp) ?_; intro w1 hown1 hg1; have h1 := HZ.out w1 hown1 hg1; have hc1 := (h1.2.cell (p := ⟨g, 0, none⟩) (World.block_lt_of_cell? w' _ hc)).trans hc; clear hown1 hg1)
  obtain ⟨d, hd⟩ : ∃ d, d = Nat.min 1 n := ⟨_, rfl⟩
  have hdn : d ≤ n := by rw [hd]; exact Nat.min_le_right _ _
  have hd0 : n = 0 ∨ 1 ≤ d := by
    by_cases e : n = 0
    · exact .inl e
    · exact .inr (by rw [hd, show Nat.min 1 n = 1 from Nat.min_eq_left (by omega)]; exact Nat.le_refl _)
  have hd1 : d ≤ 1 := by rw [hd]; exact Nat.min_le_left _ _
  have HD := Lib.hid hd
  have H11 := Lib.hid h1.1
  have H12 := Lib.hid h1.2
  have HC1 := Lib.hid hc1
  clear hd h1 hc1
  go_wp2_with (refine wpList_copy_splice rfl _ _ _ _ rfl 3 Try.underlying30 info_u _ _ _ _ _ _ rfl rfl w'.heap.size 0 (part1 n 0) 3 H11.out (List.replicate d (.int .i64 (-1))) (by rw [List.length_replicate]; exact HD.out) (fun _ => ⟨rfl, _, rfl, fun j v hj => by
    have hj' := List.getElem?_eq_some_iff.1 hj
    obtain ⟨h1, h2⟩ := hj'
    rw [List.length_replicate] at h1
    obtain rfl : j = 0 := by omega
    rw [← h2, List.getElem_replicate]
    exact HC1.out⟩) (by rw [List.length_replicate, part1_len (Nat.zero_le _)]; omega) (fun v hv => by rw [List.eq_of_mem_replicate hv]; rfl) w'.heap.size w' H12.out (Nat.le_refl _) ?_; intro w2 hw2 hb2)
  have h2 : w2.heap[w'.heap.size]? = some (.cells (part1 n d).toArray 3 (0, 0)) := by
    have := hw2.out
    rw [part1_splice (by omega), Nat.zero_add] at this
    exact this
  have H2 := Lib.hid h2
  have HB2 := Lib.hid hb2
  clear h2 hw2 hb2
  go_outline
  go_loopw [8] (fun v wr => ∃ m : Nat, m ≤ n ∧ (n = 0 ∨ 1 ≤ m) ∧ v = .int .i64 (m : Int) ∧ wr.heap[w'.heap.size]? = some (.cells (part1 n m).toArray 3 (0, 0)) ∧ Below w'.heap.size w' wr) (fun v _ => n - (intOf v).toNat)
  case atStart => exact ⟨d, hdn, hd0, by simp [goInt], H2.out, HB2.out⟩
  case round =>
    obtain ⟨m, hmn, hm0, rfl, hh, hb⟩ := hrel
    have HH := Lib.hid hh
    have HB := Lib.hid hb
    clear hh hb
    by_cases hlt : m < n
    · have hm1 : 1 ≤ m := by omega
      have HNM : Hid (¬ n = m) := Lib.hid (by omega)
      obtain ⟨d2, hd2⟩ : ∃ d2, d2 = Nat.min m (n - m) := ⟨_, rfl⟩
      have hd3 : d2 ≤ n - m := by rw [hd2]; exact Nat.min_le_right _ _
      have hd5 : d2 ≤ m := by rw [hd2]; exact Nat.min_le_left _ _
      have hd4 : 1 ≤ d2 := by rw [hd2]; exact Nat.le_min.2 ⟨hm1, by omega⟩
      have HD2 := Lib.hid hd2
      clear hd2
      have hcp : ∀ (j : Nat) (v : Value), (List.replicate d2 (Value.int .i64 (-1)))[j]? = some v → wr.drew.cell? ((⟨w'.heap.size, 0, none⟩ : Addr).add j) = some v := fun j v hj => by
        obtain ⟨h1, h2⟩ := List.getElem?_eq_some_iff.1 hj
        rw [List.length_replicate] at h1
        rw [List.getElem_replicate] at h2
        subst h2
        rw [Addr.add_lit, Nat.zero_add]
        show wr.cell? _ = _
        rw [Lib.cell_of_heap HH.out]
        simp [part1, List.getElem?_append, show j < m by omega]
      have CP := Lib.hid hcp
      have hl1 : (List.replicate d2 (Value.int .i64 (-1))).length = Nat.min m (n - m) := by rw [List.length_replicate]; exact HD2.out
      have L1 := Lib.hid hl1
      have hl2 : m + (List.replicate d2 (Value.int .i64 (-1))).length ≤ (part1 n m).length := by rw [List.length_replicate, part1_len hmn]; omega
      have L2 := Lib.hid hl2
      have hl3 : ∀ v ∈ List.replicate d2 (Value.int .i64 (-1)), v.oneCell' = true := fun v hv => by rw [List.eq_of_mem_replicate hv]; rfl
      have L3 := Lib.hid hl3
      have hl4 : wr.drew.heap[w'.heap.size]? = some (.cells (part1 n m).toArray 3 (0, 0)) := HH.out
      have L4 := Lib.hid hl4
      clear hcp hl1 hl2 hl3 hl4
      go_wp2_with fail
      refine wp_region_gate (fun V => True) 100 (by kernel_rfl) trivial ?_
      change AtG _ _ _ _ _ _ _ _ _ wr.drew
      have HBD := Lib.hid HB.out.drew
      generalize wr.drew = W0 at CP L4 HBD ⊢
      refine G_pure (i := 0) (v := ?_) rfl (by kernel_rfl) (fun _ _ _ h => h) (Or.inl ⟨by rfl, fun V hV => ?_⟩) ?_
      rotate_left
      · go_simp; with_reducible rfl
      simp only [Act.put, List.setIfInBounds_toArray, List.set_cons_zero, List.set_cons_succ]
      refine G_pure (i := 1) (v := ?_) rfl (by kernel_rfl) (fun _ _ _ h => h) (Or.inl ⟨by rfl, fun V hV => ?_⟩) ?_
      rotate_left
      · go_simp; with_reducible rfl
      simp only [Act.put, List.setIfInBounds_toArray, List.set_cons_zero, List.set_cons_succ]
      refine G_pure (i := 2) (v := ?_) rfl (by kernel_rfl) (fun _ _ _ h => h) (Or.inl ⟨by rfl, fun V hV => ?_⟩) ?_
      rotate_left
      · go_simp; with_reducible rfl
      simp only [Act.put, List.setIfInBounds_toArray, List.set_cons_zero, List.set_cons_succ]
      refine G_pure (i := 3) (v := ?_) rfl (by kernel_rfl) (fun _ _ _ h => h) (Or.inl ⟨by rfl, fun V hV => ?_⟩) ?_
      rotate_left
      · go_simp; with_reducible rfl
      simp only [Act.put, List.setIfInBounds_toArray, List.set_cons_zero, List.set_cons_succ]
      refine G_pure (i := 4) (v := ?_) rfl (by kernel_rfl) (fun _ _ _ h => h) (Or.inl ⟨by rfl, fun V hV => ?_⟩) ?_
      rotate_left
      · go_simp; with_reducible rfl
      simp only [Act.put, List.setIfInBounds_toArray, List.set_cons_zero, List.set_cons_succ]
      refine G_pure (i := 5) (v := ?_) rfl (by kernel_rfl) (fun _ _ _ h => h) (Or.inl ⟨by rfl, fun V hV => ?_⟩) ?_
      rotate_left
      · go_simp; with_reducible rfl
      simp only [Act.put, List.setIfInBounds_toArray, List.set_cons_zero, List.set_cons_succ]
      refine G_pure (i := 6) (v := ?_) rfl (by kernel_rfl) (fun _ _ _ h => h) (Or.inl ⟨by rfl, fun V hV => ?_⟩) ?_
      rotate_left
      · go_simp; with_reducible rfl
      simp only [Act.put, List.setIfInBounds_toArray, List.set_cons_zero, List.set_cons_succ]
      refine G_one (k := 7) rfl (by kernel_rfl) (fun K hK => ?_)
      have HK := Lib.hid hK
      clear hK
      go_wp2_with ((refine wpList_copy_splice rfl _ _ _ _ rfl 3 Try.underlying30 info_u (if n = m then some ⟨w'.heap.size, 0, none⟩ else some ⟨w'.heap.size, m, none⟩) (some ⟨w'.heap.size, 0, none⟩) (n - m) (n - m) m n rfl rfl w'.heap.size m (part1 n m) 3 L4.out (List.replicate d2 (.int .i64 (-1))) L1.out (fun _ => ⟨if_neg HNM.out, _, rfl, CP.out⟩) L2.out L3.out w'.heap.size w' HBD.out (Nat.le_refl _) ?_); intro w3 hw3 hb3)
      
      refine HK.out _ _ (fun _ => trivial) ?_
      clear HK K
      refine G_one (k := 8) rfl (by kernel_rfl) (fun K hK => ?_)
      have HK := Lib.hid hK
      clear hK
      go_wp2_with fail
      refine HK.out _ _ (fun _ => trivial) ?_
      clear HK K
      refine G_one (k := 9) rfl (by kernel_rfl) (fun K hK => ?_)
      have HK := Lib.hid hK
      clear hK
      go_wp2_with fail
      refine HK.out _ _ (fun _ => trivial) ?_
      clear HK K
      refine G_done (by kernel_rfl) ?_
      have h3 : w3.heap[w'.heap.size]? = some (.cells (part1 n (m + d2)).toArray 3 (0, 0)) := by
        have := hw3.out
        rw [part1_splice (by omega)] at this
        exact this
      have H3 := Lib.hid h3
      have HB3 := Lib.hid hb3
      clear h3 hw3 hb3
      go_wp2_with fail
      go_roundw
      case rel => exact ⟨m + d2, by omega, .inr (by omega), by simp [goInt], H3.out, HB3.out⟩
      case measure => simp [intOf]; omega
    · have hmn2 : m = n := by omega
      have HMN := Lib.hid hmn2
      clear hmn2
      go_wp2_with fail
      go_ret
      have hh := HH.out
      rw [HMN.out] at hh
      refine ⟨_, rfl, ⟨by simp, .inr ⟨w'.heap.size, n, _, rfl, Nat.le_refl _, hh, Nat.le_refl _, by unfold maxLen; omega, by simp [part1], by simp [part1]⟩⟩, HB.out⟩
end Go.Proofs.Ytmoebpebahhbeaa
