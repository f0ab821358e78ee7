/-
  Layer 2, the program's side: put, Show, Join.
-/
import Derived.Test.YtifmbhcajlnhbaaDoorPShow
namespace Go.Proofs.YtifmbhcajlnhbaaDoor
set_option linter.unusedVariables false
open Go.ChangeShapes Go.WideShapes Go.ChangeAt Go.RowKit

theorem itoa_any (n : Int) (h0 : -9223372036854775808 ≤ n) (h1 : n ≤ 9223372036854775807) (w : World) (hw : PowOk w) :
    Calls Tryd.prog 43 #[.int .i64 n] w fun e w' => e = .returned (.string ⟨(Lib.itoa n).toArray⟩) ∧ Below w.heap.size w w' :=
  (Tryd.strconv_Itoa n h0 h1 w hw).mono fun e w' ⟨h2, k, os, h3⟩ => ⟨h2, by rw [h3]; exact Lib.below_grow _ _ (Nat.le_refl _) _ _⟩
theorem bld_fin {B b : Nat} {a c : List UInt8} {w : World} (h : Bld B b (Lib.byteCells a) w) (e : a = c) : Bld B b (Lib.byteCells c) w := e ▸ h
theorem nums_list (l : List Int) : (strOfNums l).data.toList = l.map fun n => UInt8.ofNat n.toNat := strOfNums_data l
/-- a token's block -/
abbrev tkO (k a f : Int) (tx : ByteArray) (n : Int) : Obj := .cells #[.int .i64 k, .int .i64 a, .int .i64 f, .string tx, .int .i64 n] 40
theorem tk_cells {w : World} {N : Nat} {k a f : Int} {tx : ByteArray} {n : Int} (h : w.heap[N]? = some (tkO k a f tx n)) :
    w.cell? ⟨N, 0, none⟩ = some (.int .i64 k) ∧ w.cell? ⟨N, 1, none⟩ = some (.int .i64 a) ∧ w.cell? ⟨N, 2, none⟩ = some (.int .i64 f) ∧ w.cell? ⟨N, 3, none⟩ = some (.string tx) ∧ w.cell? ⟨N, 4, none⟩ = some (.int .i64 n) := by
  refine ⟨?_, ?_, ?_, ?_, ?_⟩ <;> (rw [Lib.cell_of_heap h]; rfl)
theorem bld_block {B b : Nat} {bs : List Value} {w : World} (h : Bld B b bs w) : b < w.heap.size := by
  rcases h with h | h
  · exact h.lt
  · exact h.lt

set_option maxHeartbeats 8000000 in
set_option maxRecDepth 100000 in
theorem pput_any (B b : Nat) (l : List UInt8) (k a f : Int) (tx : ByteArray) (n : Int) (ht : tx.size ≤ 1000000) (hn0 : -9223372036854775808 ≤ n) (hn1 : n ≤ 9223372036854775807) (w : World) (h : Bld B b (Lib.byteCells l) w)
    (hlen : l.length + 4 * tx.size + 30 ≤ 100000000) (hBw : B ≤ w.heap.size) (hw : PowOk w) :
    Calls Tryd.prog 22 #[.pointer (some ⟨b, 0, none⟩), .agg #[.int .i64 k, .int .i64 a, .int .i64 f, .string tx, .int .i64 n]] w fun e w' => e = .returned (.tuple #[]) ∧ (Bld B b (Lib.byteCells (l ++ (showS k tx n).data.toList)) w' ∧ Below B w w' ∧ Keep b w w') := by
  have hss := showS_size k tx n hn0 hn1
  have hb0 := (Below.refl w.heap.size w).alloc (Nat.le_refl _) (tkO k a f tx n)
  have z0 := hb0.size
  have hB0 := h.below hb0
  have hN0 : (w.alloc (tkO k a f tx n)).heap[w.heap.size]? = some (tkO k a f tx n) := heap_alloc_new w _
  have hbN : w.heap.size ≠ b := by have := bld_block h; omega
  have hTN : 40 ≠ 5 := by decide
  have hw0 := hw.below hb0 (Nat.le_refl _)
  have hK0 := Keep.of_below (b := b) hb0
  have hBB := hb0.mono hBw
  clear h hw
  by_cases k4 : k = 4
  · subst k4
    have hS : Hid (showS 4 tx n = strOfNums (letS tx)) := Lib.hid (by unfold showS; rw [if_pos rfl])
    by_cases h1 : tx.size = 1
    · have hl : Hid (l ++ (showS 4 tx n).data.toList = ((l ++ [39]) ++ (strOfNums (esc (atB tx 0) 39)).data.toList) ++ [39]) := Lib.hid (by
        rw [hS.out, nums_list, nums_list]; unfold letS; rw [if_pos h1]; simp)
      have ea := atB_eq tx 0 (by omega)
      have hb := tx[0].toNat_lt
      have hes := esc_len (atB tx 0) 39
      have hns := strOfNums_size (esc (atB tx 0) 39)
      have q1 : ((tx.size : Int) == 1) = true := by rw [beq_iff_eq]; omega
      rw [ea] at hl hes hns
      clear hss ea
      go_enter Tryd.func22, Tryd.ntmps22
      go_wp2_with fail
      refine (wbyte_big B b l 39 _ hB0 (by omega) (by omega)).mono ?_
      rintro e w1 ⟨rfl, hB1, hb1, hK1⟩
      have z1 := hb1.size
      have hN1 := hK1 _ _ _ _ hN0 hTN hbN
      obtain ⟨-, -, -, g13, -⟩ := tk_cells hN1
      go_wp2_with fail
      refine (escape_any tx[0].toNat 39 (by omega) (by omega) _).mono ?_
      rintro e w2 ⟨rfl, hb2⟩
      have z2 := hb2.size
      have hB2 := hB1.below hb2
      go_wp2_with fail
      refine (wstr_any B b _ (strOfNums (esc tx[0].toNat 39)) _ hB2 (by simp; omega) (by omega)).mono ?_
      rintro e w3 ⟨rfl, hB3, hb3, hK3⟩
      have z3 := hb3.size
      go_wp2_with fail
      refine (wbyte_big B b _ 39 _ hB3 (by simp; omega) (by omega)).mono ?_
      rintro e w4 ⟨rfl, hB4, hb4, hK4⟩
      go_wp2
      go_end0
      exact ⟨rfl, bld_fin hB4 hl.out.symm, hBB.trans (hb1.trans ((hb2.mono (by omega)).trans (hb3.trans hb4))), hK0.trans (hK1.trans ((Keep.of_below hb2).trans (hK3.trans hK4)))⟩
    · have hl : Hid (l ++ (showS 4 tx n).data.toList = (l ++ [39]) ++ [39]) := Lib.hid (by
        rw [hS.out, nums_list]; unfold letS; rw [if_neg h1]; simp)
      have q1 : ((tx.size : Int) == 1) = false := by rw [beq_eq_false_iff_ne]; omega
      clear hss
      go_enter Tryd.func22, Tryd.ntmps22
      go_wp2_with fail
      refine (wbyte_big B b l 39 _ hB0 (by omega) (by omega)).mono ?_
      rintro e w1 ⟨rfl, hB1, hb1, hK1⟩
      have z1 := hb1.size
      have hN1 := hK1 _ _ _ _ hN0 hTN hbN
      obtain ⟨-, -, -, g13, -⟩ := tk_cells hN1
      go_wp2_with fail
      refine (wbyte_big B b _ 39 _ hB1 (by simp; omega) (by omega)).mono ?_
      rintro e w4 ⟨rfl, hB4, hb4, hK4⟩
      go_wp2
      go_end0
      exact ⟨rfl, bld_fin hB4 hl.out.symm, hBB.trans (hb1.trans hb4), hK0.trans (hK1.trans hK4)⟩
  have x4 : (k == 4) = false := by rw [beq_eq_false_iff_ne]; exact k4
  by_cases k5 : k = 5
  · subst k5
    have hS : Hid (showS 5 tx n = strOfNums (quoAll tx.data.toList)) := Lib.hid (by unfold showS; rw [if_neg (by decide), if_pos rfl])
    rw [hS.out] at hss
    go_enter Tryd.func22, Tryd.ntmps22
    go_wp2_with fail
    refine (quote_any tx ht _).mono ?_
    rintro e w2 ⟨rfl, hb2⟩
    have z2 := hb2.size
    have hB2 := hB0.below hb2
    go_wp2_with fail
    refine (wstr_any B b l (strOfNums (quoAll tx.data.toList)) _ hB2 (by omega) (Nat.le_trans hBw (Nat.le_trans z0 z2))).mono ?_
    rintro e w3 ⟨rfl, hB3, hb3, hK3⟩
    go_wp2
    go_end0
    exact ⟨rfl, bld_fin hB3 (by rw [hS.out]), hBB.trans ((hb2.mono (Nat.le_trans hBw z0)).trans hb3), hK0.trans ((Keep.of_below hb2).trans hK3)⟩
  have x5 : (k == 5) = false := by rw [beq_eq_false_iff_ne]; exact k5
  by_cases k3 : k = 3
  · subst k3
    have hS : Hid (showS 3 tx n = ⟨(Lib.itoa (max n 0)).toArray⟩) := Lib.hid (by unfold showS; rw [if_neg (by decide), if_neg (by decide), if_pos rfl])
    rw [hS.out] at hss
    go_enter Tryd.func22, Tryd.ntmps22
    go_wp2_with fail
    refine (itoa_any (max n 0) (by omega) (by omega) _ hw0).mono ?_
    rintro e w2 ⟨rfl, hb2⟩
    have z2 := hb2.size
    have hB2 := hB0.below hb2
    go_wp2_with fail
    refine (wstr_any B b l ⟨(Lib.itoa (max n 0)).toArray⟩ _ hB2 (by omega) (Nat.le_trans hBw (Nat.le_trans z0 z2))).mono ?_
    rintro e w3 ⟨rfl, hB3, hb3, hK3⟩
    go_wp2
    go_end0
    exact ⟨rfl, bld_fin hB3 (by rw [hS.out]), hBB.trans ((hb2.mono (Nat.le_trans hBw z0)).trans hb3), hK0.trans ((Keep.of_below hb2).trans hK3)⟩
  have x3 : (k == 3) = false := by rw [beq_eq_false_iff_ne]; exact k3
  by_cases k9 : k = 9
  · subst k9
    have hS : Hid (showS 9 tx n = ⟨#[]⟩) := Lib.hid (by unfold showS; rw [if_neg (by decide), if_neg (by decide), if_neg (by decide), if_pos rfl])
    go_enter Tryd.func22, Tryd.ntmps22
    go_wp2
    go_end0
    exact ⟨rfl, bld_fin hB0 (by rw [hS.out]; simp), hBB, hK0⟩
  have x9 : (k == 9) = false := by rw [beq_eq_false_iff_ne]; exact k9
  have hS : Hid (showS k tx n = tx) := Lib.hid (by unfold showS; rw [if_neg k4, if_neg k5, if_neg k3, if_neg k9])
  clear k4 k5 k3 k9
  go_enter Tryd.func22, Tryd.ntmps22
  go_wp2_with fail
  refine (wstr_any B b l tx _ hB0 (by omega) (by omega)).mono ?_
  rintro e w3 ⟨rfl, hB3, hb3, hK3⟩
  go_wp2
  go_end0
  exact ⟨rfl, bld_fin hB3 (by rw [hS.out]), hBB.trans hb3, hK0.trans hK3⟩

theorem ba_of_list (s : ByteArray) : (⟨s.data.toList.toArray⟩ : ByteArray) = s := by cases s; rfl
theorem fresh_bld (w : World) : Bld w.heap.size w.heap.size (Lib.byteCells []) (w.alloc (.cells #[.pointer none, .slice none 0 0] 57)) := Lib.fresh_isBuilder 57 5 w
set_option maxHeartbeats 4000000 in
set_option maxRecDepth 100000 in
theorem show_any (k a f : Int) (tx : ByteArray) (n : Int) (ht : tx.size ≤ 1000000) (hn0 : -9223372036854775808 ≤ n) (hn1 : n ≤ 9223372036854775807) (w : World) (hw : PowOk w) :
    Calls Tryd.prog 11 #[.agg #[.int .i64 k, .int .i64 a, .int .i64 f, .string tx, .int .i64 n]] w fun e w' => e = .returned (.string (showS k tx n)) ∧ Below w.heap.size w w' := by
  have hb0 := (Below.refl w.heap.size w).alloc (Nat.le_refl _) (tkO k a f tx n)
  have hb1 := hb0.alloc hb0.size (.cells #[.pointer none, .slice none 0 0] 57)
  have hB1 := fresh_bld (w.alloc (tkO k a f tx n))
  have hw1 := hw.below hb1 (Nat.le_refl _)
  have hN : ((w.alloc (tkO k a f tx n)).alloc (.cells #[.pointer none, .slice none 0 0] 57)).heap[w.heap.size]? = some (tkO k a f tx n) := (Below.heap_alloc _ _ _ (by simp)).trans (heap_alloc_new w _)
  obtain ⟨g0, g1, g2, g3, g4⟩ := tk_cells hN
  have e1 : (w.alloc (tkO k a f tx n)).heap.size = w.heap.size + 1 := by simp
  have z1 := hb1.size
  rw [e1] at hB1
  go_enter Tryd.func11, Tryd.ntmps11
  go_wp2_with fail
  refine (pput_any (w.heap.size + 1) (w.heap.size + 1) [] k a f tx n ht hn0 hn1 _ hB1 (by simp; omega) (by simp) hw1).mono ?_
  rintro e w2 ⟨rfl, hB2, hb2, hK2⟩
  have z2 := hb2.size
  have hbb := hb1.trans (hb2.mono (by omega))
  go_wp2_with fail
  refine (Tryd.Builder_String_any (w.heap.size + 1) (w.heap.size + 1) _ w2 hB2 (by simp at z2; omega)).mono ?_
  rintro e w3 ⟨rfl, hb3⟩
  go_wp2
  go_ret
  exact ⟨rfl, hbb.trans (hb3.mono (by omega))⟩
end Go.Proofs.YtifmbhcajlnhbaaDoor
