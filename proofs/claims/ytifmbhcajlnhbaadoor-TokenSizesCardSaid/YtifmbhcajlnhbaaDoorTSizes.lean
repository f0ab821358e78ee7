/-
  Layer 2: the law TokenSizes, walked.
-/
import Derived.Test.YtifmbhcajlnhbaaDoorSizeM
import Derived.OwnWalk
import Derived.Test.YtifmbhcajlnhbaaDoorRShow
import Derived.Deep.RegionHeld3
namespace Go.Proofs.YtifmbhcajlnhbaaDoor
set_option linter.unusedVariables false
open Go.ChangeShapes Go.WideShapes Go.ChangeAt Go.RowKit

theorem tmod_in2 (k n : Int) (hn : 0 < n) : -n < k.tmod n ∧ k.tmod n < n ∧ ∃ K : Nat, (k.tmod n + n).tmod n = K ∧ (K : Int) < n := by
  have h1 : k.tmod n < n := Int.tmod_lt_of_pos k hn
  have h2 : -n < k.tmod n := by
    rcases Int.le_total 0 k with h | h
    · have := Int.tmod_nonneg n h; omega
    · have h5 : (-k).tmod n < n := Int.tmod_lt_of_pos (-k) hn
      rw [Int.neg_tmod] at h5
      omega
  have h3 : (k.tmod n + n).tmod n < n := Int.tmod_lt_of_pos _ hn
  have h4 : 0 ≤ (k.tmod n + n).tmod n := Int.tmod_nonneg _ (by omega)
  exact ⟨h2, h1, ((k.tmod n + n).tmod n).toNat, by omega, by omega⟩
theorem scan_v {s : ByteArray} {a : Nat} {e : Int} (hs : s.size ≤ 1000000) (h : vd (scanP s) = (a, e)) (w : World) (hw : RangeOk w) :
    Calls Tryd.prog 6 #[.string s] w fun x w' => ∃ v, x = .returned (.tuple #[v, .agg #[.int .i64 a, .int .i64 e]]) ∧ Below w.heap.size w w' := by
  refine (scan_any s hs w hw).mono ?_
  rintro x w' ⟨v, rfl, _, hb⟩
  cases hr : scanP s with
  | inl l => rw [hr] at h; cases h; exact ⟨v, rfl, hb⟩
  | inr p => rw [hr] at h; cases h; exact ⟨v, rfl, hb⟩
theorem rscan_v {s : ByteArray} {a : Nat} {e : Int} (hs : s.size ≤ 1000000) (h : vd (scanR s) = (a, e)) (w : World) :
    Calls Tryd.prog 7 #[.string s] w fun x w' => ∃ v, x = .returned (.tuple #[v, .agg #[.int .i64 a, .int .i64 e]]) ∧ Below w.heap.size w w' := by
  refine (rscan_any s hs w).mono ?_
  rintro x w' ⟨v, rfl, _, hb⟩
  cases hr : scanR s with
  | inl l => rw [hr] at h; cases h; exact ⟨v, rfl, hb⟩
  | inr p => rw [hr] at h; cases h; exact ⟨v, rfl, hb⟩
/-- the byte of each kind -/
def ch (K : Nat) : Int := match K with
  | 0 => 32
  | 1 => 59
  | 2 => 97
  | 3 => 98
  | _ => 32
theorem lim_cell (w : World) (K : Nat) (hK : K < 5) : (w.alloc (.cells #[.int .i64 65536, .int .i64 16384, .int .i64 32, .int .i64 256, .int .i64 100] 3)).cell? ⟨w.heap.size, K, none⟩ = some (.int .i64 (lim K)) := by
  rw [World.cell?_alloc_at _ _ _ _ rfl]
  match K, hK with
  | 0, _ => rfl
  | 1, _ => rfl
  | 2, _ => rfl
  | 3, _ => rfl
  | 4, _ => rfl
theorem ch_cell (w : World) (K : Nat) (hK : K < 5) : (w.alloc (.cells #[.int .u8 32, .int .u8 59, .int .u8 97, .int .u8 98, .int .u8 32] 5)).cell? ⟨w.heap.size, K, none⟩ = some (.int .u8 (ch K)) := by
  rw [World.cell?_alloc_at _ _ _ _ rfl]
  match K, hK with
  | 0, _ => rfl
  | 1, _ => rfl
  | 2, _ => rfl
  | 3, _ => rfl
  | 4, _ => rfl
theorem lim_big (K : Nat) : 32 ≤ lim K ∧ lim K ≤ 65536 := by unfold lim; split <;> omega
/-- a row that is filled up to i -/
def rowB (c : Int) (i n : Nat) : List Value := List.replicate i (.int .u8 c) ++ List.replicate (n - i) (.int .u8 0)
theorem rowB_set (c : Int) (i n : Nat) (h : i < n) : (rowB c i n).set i (.int .u8 c) = rowB c (i + 1) n := by
  unfold rowB
  rw [List.set_append_right _ _ (by simp)]
  simp only [List.length_replicate, Nat.sub_self]
  obtain ⟨m, hm⟩ : ∃ m, n - i = m + 1 := ⟨n - i - 1, by omega⟩
  rw [hm, show n - (i + 1) = m from by omega, List.replicate_succ, List.set_cons_zero, List.replicate_succ', List.append_assoc]
  rfl
theorem rowB_full (c : Int) (n : Nat) : rowB c n n = (List.replicate n c).map (Value.int .u8) := by simp [rowB]
/-- the rows of a fault, the program's and the document's -/
abbrev ftP (a e : Int) : Obj := .cells #[.int .i64 a, .int .i64 e] 27 (0, 0)
abbrev ftR (a e : Int) : Obj := .cells #[.int .i64 a, .int .i64 e] 32 (0, 0)
theorem two_on {w w' : World} {g : Nat} {a b : Value} {t : TypeId} (h : w.heap[g]? = some (.cells #[a, b] t (0, 0))) (hb : Below w.heap.size w w') : w'.heap[g]? = some (.cells #[a, b] t (0, 0)) := (hb.block _ (lt_heap h)).trans h
theorem strOf_rep (c : UInt8) (n : Nat) : (strOfNums (List.replicate n (c.toNat : Int))).data.toList = List.replicate n c := by
  rw [strOfNums_data]
  simp

theorem rowB_at (c : Int) (i n : Nat) (h : i < n) : (rowB c i n)[i]? = some (.int .u8 0) := by
  unfold rowB
  rw [List.getElem?_append_right (by simp)]
  simp only [List.length_replicate, Nat.sub_self]
  rw [List.getElem?_replicate, if_pos (by omega)]
theorem src_rep (K n : Nat) (hK : K < 5) (h : K ≠ 3 ∧ K ≠ 4) : strOfNums (List.replicate n (ch K)) = srcS K n := by
  refine bytes_ext ?_
  match K, hK, h with
  | 0, _, _ => exact strOf_rep 32 n
  | 1, _, _ => exact strOf_rep 59 n
  | 2, _, _ => exact strOf_rep 97 n
  | 3, _, h => exact absurd rfl h.1
  | 4, _, h => exact absurd rfl h.2
theorem src_3 (n : Nat) : (((⟨#[34]⟩ : ByteArray) ++ strOfNums (List.replicate n (ch 3))) ++ (⟨#[34]⟩ : ByteArray)) = srcS 3 n := by
  refine bytes_ext ?_
  rw [ba_app, ba_app]
  show [34] ++ (strOfNums (List.replicate n (98 : Int))).data.toList ++ [34] = srcL 3 n
  rw [show (98 : Int) = ((98 : UInt8).toNat : Int) from rfl, strOf_rep]
  rfl
theorem src_size (K n : Nat) (hK : K < 5) (hn : n ≤ 65537) : (srcS K n).size ≤ 400000 := by
  show (srcL K n).toArray.size ≤ _
  match K, hK with
  | 0, _ => simp [srcL]; omega
  | 1, _ => simp [srcL]; omega
  | 2, _ => simp [srcL]; omega
  | 3, _ => simp [srcL]; omega
  | 4, _ => simp [srcL, nest_len]; omega

theorem src_3' (K n : Nat) (hK : K = 3) : (((⟨#[34]⟩ : ByteArray) ++ strOfNums (List.replicate n (ch K))) ++ (⟨#[34]⟩ : ByteArray)) = srcS K n := by subst hK; exact src_3 n
theorem src_4 (K n : Nat) (hK : K = 4) (x : ByteArray) (h : x.data.toList = nest n) : x = srcS K n := by subst hK; exact bytes_ext h
theorem nest_step (x : ByteArray) (j : Nat) (h : x.data.toList = nest j) : (((⟨#[123, 45]⟩ : ByteArray) ++ x) ++ (⟨#[45, 125]⟩ : ByteArray)).data.toList = nest (j + 1) := by
  rw [ba_app, ba_app, h]
  simp [nest]

set_option maxHeartbeats 16000000 in
set_option maxRecDepth 100000 in
theorem sizes_any (kind more : Int) (k0 : -9223372036854775808 ≤ kind) (k1 : kind ≤ 9223372036854775807) (m0 : -9223372036854775808 ≤ more) (m1 : more ≤ 9223372036854775807) (K M : Nat)
    (a1 : -5 < kind.tmod 5) (a2 : kind.tmod 5 < 5) (hK : (kind.tmod 5 + 5).tmod 5 = K) (hK5 : K < 5) (b1 : -3 < more.tmod 3) (b2 : more.tmod 3 < 3) (hM : (more.tmod 3 + 3).tmod 3 = M) (hM3 : M < 3) (hcase : K ≠ 3 ∧ K ≠ 4) (w : World) (hw : RangeOk w) :
    Calls Tryd.prog 3 #[.int .i64 kind, .int .i64 more] w fun e w' => e = .returned (.bool true) ∧ Below w.heap.size w w' := by
  have HCs := Lib.hid hcase
  clear hcase
  obtain ⟨l1, l2⟩ := lim_big K
  obtain ⟨m', hm'⟩ : ∃ m' : Int, (M : Int) - 1 = m' := ⟨_, rfl⟩
  obtain ⟨n, hn⟩ : ∃ n : Nat, (lim K : Int) + m' = n := ⟨lim K + M - 1, by omega⟩
  obtain ⟨va, ve, hP, hR, hv⟩ := size_vd K n hK5 (by omega) (by omega)
  obtain ⟨bb, qe, qm⟩ : ∃ b, (ve != 0) = b ∧ decide ((0 : Int) < m') = b := by
    rcases hv with ⟨h1, h2⟩ | ⟨h1, h2⟩
    · exact ⟨false, by rw [bne_eq_false_iff_eq]; exact h1, by rw [decide_eq_false_iff_not]; omega⟩
    · exact ⟨true, by rw [bne_iff_ne]; exact h1, by rw [decide_eq_true_iff]; omega⟩
  have HP := Lib.hid hP
  have HR := Lib.hid hR
  clear hP hR hv
  have hlc := lim_cell w K hK5
  have HC := Lib.hid fun W => ch_cell W K hK5
  have HNK := Lib.hid hK
  go_enter Tryd.func3, Tryd.ntmps3
  obtain ⟨i0, hi, hz0, hz1, hz2⟩ := info_parts info_u8
  go_wp2_with (refine wpList_make_full _ rfl _ _ 23 rfl w.heap.size 5 i0 (.int .u8 0) 1 Tryd.underlying23 hi hz0 hz1 .i64 .i64 _ _ n rfl rfl ?_ ?_ (by rw [hz2]; omega) (by unfold maxLen; omega) (by simp) ?_ <;> first | (intro w1 hown1 hg1) | (first | exact hn | rfl | omega))
  have hsz0 : (w.alloc (.cells #[.int .i64 65536, .int .i64 16384, .int .i64 32, .int .i64 256, .int .i64 100] 3)).heap.size = w.heap.size + 1 := by simp
  have hb1 : Below w.heap.size w w1 := ((Below.refl _ w).alloc (Nat.le_refl _) _).grown hg1 (by simp) (fun k hk => by cases hk)
  rw [hsz0] at hown1
  have hrow : (madeCells (Value.int .u8 0).cells (n * 1)).toList = rowB (ch K) 0 n := by
    rw [Nat.mul_one]
    refine (toList_madeCells_one (.int .u8 0) n).trans ?_
    simp [rowB]
  rw [hrow] at hown1
  clear hlc hg1 hi hz0 hz1 hz2 hrow
  go_wp2
  go_loopw [8] (fun iv wr => ∃ i : Nat, i ≤ n ∧ iv = .int .i64 i ∧ wr.ownsRow w.heap.size 5 1 (.slice (some ⟨w.heap.size + 1, 0, none⟩) n n) n (rowB (ch K) i n) ∧ Below w.heap.size w wr) (fun iv _ => n - (intOf iv).toNat)
  case atStart => exact ⟨0, Nat.zero_le _, rfl, hown1, hb1⟩
  case round =>
    obtain ⟨i, hin, rfl, hown, hbr⟩ := hrel
    by_cases hlt : i < n
    · have hown' := hown.alloc (.cells #[.int .u8 32, .int .u8 59, .int .u8 97, .int .u8 98, .int .u8 32] 5)
      have hca := hown'.cellAt i (by omega)
      rw [rowB_at _ _ _ hlt] at hca
      have hfa := hown'.frozenAt i
      have hcc := HC.out wr
      have hst := (hown'.stored i (.int .u8 (ch K))).1
      rw [rowB_set _ _ _ hlt] at hst
      have HST := Lib.hid hst
      clear hst hown'
      go_wp2
      go_roundw
      case rel => exact ⟨i + 1, by omega, by go_num, HST.out, (hbr.alloc hbr.size _).setCell (p := ⟨w.heap.size + 1, i, none⟩) (Nat.le_succ _) _⟩
      case measure => simp [intOf]; omega
    · obtain rfl : i = n := by omega
      have hbuf : Buf w.heap.size wr (.slice (some ⟨w.heap.size + 1, 0, none⟩) i i) (List.replicate i (ch K)) := ⟨by rw [List.length_replicate, ← rowB_full]; exact hown, hbr.size⟩
      have ht := hbuf.text
      have hwr := hw.below hbr (Nat.le_refl _)
      clear hown hbuf
      have q3 : ((K : Int) == 3) = false := by rw [beq_eq_false_iff_ne]; have := HCs.out; omega
      have q4 : ((K : Int) == 4) = false := by rw [beq_eq_false_iff_ne]; have := HCs.out; omega
      rw [src_rep K i hK5 HCs.out] at ht
      go_wp2_with fail
      refine (scan_v (Nat.le_trans (src_size K i hK5 (by omega)) (by decide)) HP.out _ hwr).mono ?_
      rintro e w2 ⟨v2, rfl, hb2⟩
      have hf2 := heap_alloc_new w2 (ftP va ve)
      have hb2' := (hbr.trans (hb2.mono hbr.size)).alloc (Nat.le_trans hbr.size hb2.size) (ftP va ve)
      go_wp2_with fail
      refine (rscan_v (Nat.le_trans (src_size K i hK5 (by omega)) (by decide)) HR.out _).mono ?_
      rintro e w3 ⟨v3, rfl, hb3⟩
      have hf3 := two_on hf2 hb3
      have hb3' := hb2'.trans (hb3.mono hb2'.size)
      have hg4 := heap_alloc_new w3 (ftR va ve)
      have hf4 : (w3.alloc (ftR va ve)).heap[w2.heap.size]? = some (ftP va ve) := (Below.heap_alloc _ _ _ (lt_heap hf3)).trans hf3
      have hb4 := hb3'.alloc hb3'.size (ftR va ve)
      go_wp2
      obtain ⟨W, eW⟩ : ∃ W, W = w3.alloc (ftR va ve) := ⟨_, rfl⟩
      rw [← eW] at hg4 hf4 hb4 ⊢
      clear hf2 hf3 hb3 eW ht
      generalize w2.heap.size = N1 at hf4 ⊢
      generalize w3.heap.size = N2 at hg4 ⊢
      have hfd : W.drew.heap[N1]? = some (ftP va ve) := hf4
      have hgd : W.drew.heap[N2]? = some (ftR va ve) := hg4
      have hwd := hw.below hb4.drew (Nat.le_refl _)
      have x0 := two_cells hfd
      have x1 := two_cells hgd
      go_region_held3 (fun V => (V.cell? ⟨N1, 0, none⟩ = some (.int .i64 va) ∧ V.cell? ⟨N1, 1, none⟩ = some (.int .i64 ve)) ∧ (V.cell? ⟨N2, 0, none⟩ = some (.int .i64 va) ∧ V.cell? ⟨N2, 1, none⟩ = some (.int .i64 ve)))
        (first | exact ⟨two_cells (two_on hfd hb5), two_cells (two_on hgd hb5)⟩ | exact ⟨x0, x1⟩ | go_keep)
        ((first
          | (go_at_call 8
             refine (num_any _ _).mono ?_
             rintro e w' ⟨rfl, rfl⟩)
          | (go_at_call 9
             refine (knows_any _ hwd).mono ?_
             rintro e w5 ⟨rfl, hb5⟩)))
      go_wp2
      go_ret
      exact ⟨rfl, hb4.drew.trans (hb5.mono hb4.drew.size)⟩

set_option maxHeartbeats 16000000 in
set_option maxRecDepth 100000 in
theorem sizes_quoted (kind more : Int) (k0 : -9223372036854775808 ≤ kind) (k1 : kind ≤ 9223372036854775807) (m0 : -9223372036854775808 ≤ more) (m1 : more ≤ 9223372036854775807) (K M : Nat)
    (a1 : -5 < kind.tmod 5) (a2 : kind.tmod 5 < 5) (hK : (kind.tmod 5 + 5).tmod 5 = K) (hK5 : K < 5) (b1 : -3 < more.tmod 3) (b2 : more.tmod 3 < 3) (hM : (more.tmod 3 + 3).tmod 3 = M) (hM3 : M < 3) (hcase : K = 3) (w : World) (hw : RangeOk w) :
    Calls Tryd.prog 3 #[.int .i64 kind, .int .i64 more] w fun e w' => e = .returned (.bool true) ∧ Below w.heap.size w w' := by
  have HCs := Lib.hid hcase
  clear hcase
  obtain ⟨l1, l2⟩ := lim_big K
  obtain ⟨m', hm'⟩ : ∃ m' : Int, (M : Int) - 1 = m' := ⟨_, rfl⟩
  obtain ⟨n, hn⟩ : ∃ n : Nat, (lim K : Int) + m' = n := ⟨lim K + M - 1, by omega⟩
  obtain ⟨va, ve, hP, hR, hv⟩ := size_vd K n hK5 (by omega) (by omega)
  obtain ⟨bb, qe, qm⟩ : ∃ b, (ve != 0) = b ∧ decide ((0 : Int) < m') = b := by
    rcases hv with ⟨h1, h2⟩ | ⟨h1, h2⟩
    · exact ⟨false, by rw [bne_eq_false_iff_eq]; exact h1, by rw [decide_eq_false_iff_not]; omega⟩
    · exact ⟨true, by rw [bne_iff_ne]; exact h1, by rw [decide_eq_true_iff]; omega⟩
  have HP := Lib.hid hP
  have HR := Lib.hid hR
  clear hP hR hv
  have hlc := lim_cell w K hK5
  have HC := Lib.hid fun W => ch_cell W K hK5
  have HNK := Lib.hid hK
  go_enter Tryd.func3, Tryd.ntmps3
  obtain ⟨i0, hi, hz0, hz1, hz2⟩ := info_parts info_u8
  go_wp2_with (refine wpList_make_full _ rfl _ _ 23 rfl w.heap.size 5 i0 (.int .u8 0) 1 Tryd.underlying23 hi hz0 hz1 .i64 .i64 _ _ n rfl rfl ?_ ?_ (by rw [hz2]; omega) (by unfold maxLen; omega) (by simp) ?_ <;> first | (intro w1 hown1 hg1) | (first | exact hn | rfl | omega))
  have hsz0 : (w.alloc (.cells #[.int .i64 65536, .int .i64 16384, .int .i64 32, .int .i64 256, .int .i64 100] 3)).heap.size = w.heap.size + 1 := by simp
  have hb1 : Below w.heap.size w w1 := ((Below.refl _ w).alloc (Nat.le_refl _) _).grown hg1 (by simp) (fun k hk => by cases hk)
  rw [hsz0] at hown1
  have hrow : (madeCells (Value.int .u8 0).cells (n * 1)).toList = rowB (ch K) 0 n := by
    rw [Nat.mul_one]
    refine (toList_madeCells_one (.int .u8 0) n).trans ?_
    simp [rowB]
  rw [hrow] at hown1
  clear hlc hg1 hi hz0 hz1 hz2 hrow
  go_wp2
  go_loopw [8] (fun iv wr => ∃ i : Nat, i ≤ n ∧ iv = .int .i64 i ∧ wr.ownsRow w.heap.size 5 1 (.slice (some ⟨w.heap.size + 1, 0, none⟩) n n) n (rowB (ch K) i n) ∧ Below w.heap.size w wr) (fun iv _ => n - (intOf iv).toNat)
  case atStart => exact ⟨0, Nat.zero_le _, rfl, hown1, hb1⟩
  case round =>
    obtain ⟨i, hin, rfl, hown, hbr⟩ := hrel
    by_cases hlt : i < n
    · have hown' := hown.alloc (.cells #[.int .u8 32, .int .u8 59, .int .u8 97, .int .u8 98, .int .u8 32] 5)
      have hca := hown'.cellAt i (by omega)
      rw [rowB_at _ _ _ hlt] at hca
      have hfa := hown'.frozenAt i
      have hcc := HC.out wr
      have hst := (hown'.stored i (.int .u8 (ch K))).1
      rw [rowB_set _ _ _ hlt] at hst
      have HST := Lib.hid hst
      clear hst hown'
      go_wp2
      go_roundw
      case rel => exact ⟨i + 1, by omega, by go_num, HST.out, (hbr.alloc hbr.size _).setCell (p := ⟨w.heap.size + 1, i, none⟩) (Nat.le_succ _) _⟩
      case measure => simp [intOf]; omega
    · obtain rfl : i = n := by omega
      have hbuf : Buf w.heap.size wr (.slice (some ⟨w.heap.size + 1, 0, none⟩) i i) (List.replicate i (ch K)) := ⟨by rw [List.length_replicate, ← rowB_full]; exact hown, hbr.size⟩
      have ht := hbuf.text
      have hwr := hw.below hbr (Nat.le_refl _)
      clear hown hbuf
      have q3 : ((K : Int) == 3) = true := by rw [beq_iff_eq]; have := HCs.out; omega
      have q4 : ((K : Int) == 4) = false := by rw [beq_eq_false_iff_ne]; have := HCs.out; omega
      have hs1 : (strOfNums (List.replicate i (ch K))).size = i := by rw [strOfNums_size, List.length_replicate]
      have hs2 : (⟨#[34]⟩ : ByteArray).size = 1 := rfl
      have hs3 : ((⟨#[34]⟩ : ByteArray) ++ strOfNums (List.replicate i (ch K))).size = 1 + i := by rw [ByteArray.size_append, hs1]; rfl
      have h3 := Lib.hid (src_3' K i HCs.out)
      go_wp2_with fail
      rw [h3.out]
      refine (scan_v (Nat.le_trans (src_size K i hK5 (by omega)) (by decide)) HP.out _ hwr).mono ?_
      rintro e w2 ⟨v2, rfl, hb2⟩
      have hf2 := heap_alloc_new w2 (ftP va ve)
      have hb2' := (hbr.trans (hb2.mono hbr.size)).alloc (Nat.le_trans hbr.size hb2.size) (ftP va ve)
      go_wp2_with fail
      refine (rscan_v (Nat.le_trans (src_size K i hK5 (by omega)) (by decide)) HR.out _).mono ?_
      rintro e w3 ⟨v3, rfl, hb3⟩
      have hf3 := two_on hf2 hb3
      have hb3' := hb2'.trans (hb3.mono hb2'.size)
      have hg4 := heap_alloc_new w3 (ftR va ve)
      have hf4 : (w3.alloc (ftR va ve)).heap[w2.heap.size]? = some (ftP va ve) := (Below.heap_alloc _ _ _ (lt_heap hf3)).trans hf3
      have hb4 := hb3'.alloc hb3'.size (ftR va ve)
      go_wp2
      obtain ⟨W, eW⟩ : ∃ W, W = w3.alloc (ftR va ve) := ⟨_, rfl⟩
      rw [← eW] at hg4 hf4 hb4 ⊢
      clear hf2 hf3 hb3 eW ht
      generalize w2.heap.size = N1 at hf4 ⊢
      generalize w3.heap.size = N2 at hg4 ⊢
      have hfd : W.drew.heap[N1]? = some (ftP va ve) := hf4
      have hgd : W.drew.heap[N2]? = some (ftR va ve) := hg4
      have hwd := hw.below hb4.drew (Nat.le_refl _)
      have x0 := two_cells hfd
      have x1 := two_cells hgd
      go_region_held3 (fun V => (V.cell? ⟨N1, 0, none⟩ = some (.int .i64 va) ∧ V.cell? ⟨N1, 1, none⟩ = some (.int .i64 ve)) ∧ (V.cell? ⟨N2, 0, none⟩ = some (.int .i64 va) ∧ V.cell? ⟨N2, 1, none⟩ = some (.int .i64 ve)))
        (first | exact ⟨two_cells (two_on hfd hb5), two_cells (two_on hgd hb5)⟩ | exact ⟨x0, x1⟩ | go_keep)
        ((first
          | (go_at_call 8
             refine (num_any _ _).mono ?_
             rintro e w' ⟨rfl, rfl⟩)
          | (go_at_call 9
             refine (knows_any _ hwd).mono ?_
             rintro e w5 ⟨rfl, hb5⟩)))
      go_wp2
      go_ret
      exact ⟨rfl, hb4.drew.trans (hb5.mono hb4.drew.size)⟩

set_option maxHeartbeats 16000000 in
set_option maxRecDepth 100000 in
theorem sizes_notes (kind more : Int) (k0 : -9223372036854775808 ≤ kind) (k1 : kind ≤ 9223372036854775807) (m0 : -9223372036854775808 ≤ more) (m1 : more ≤ 9223372036854775807) (K M : Nat)
    (a1 : -5 < kind.tmod 5) (a2 : kind.tmod 5 < 5) (hK : (kind.tmod 5 + 5).tmod 5 = K) (hK5 : K < 5) (b1 : -3 < more.tmod 3) (b2 : more.tmod 3 < 3) (hM : (more.tmod 3 + 3).tmod 3 = M) (hM3 : M < 3) (hcase : K = 4) (w : World) (hw : RangeOk w) :
    Calls Tryd.prog 3 #[.int .i64 kind, .int .i64 more] w fun e w' => e = .returned (.bool true) ∧ Below w.heap.size w w' := by
  have HCs := Lib.hid hcase
  clear hcase
  obtain ⟨l1, l2⟩ := lim_big K
  obtain ⟨m', hm'⟩ : ∃ m' : Int, (M : Int) - 1 = m' := ⟨_, rfl⟩
  obtain ⟨n, hn⟩ : ∃ n : Nat, (lim K : Int) + m' = n := ⟨lim K + M - 1, by omega⟩
  obtain ⟨va, ve, hP, hR, hv⟩ := size_vd K n hK5 (by omega) (by omega)
  obtain ⟨bb, qe, qm⟩ : ∃ b, (ve != 0) = b ∧ decide ((0 : Int) < m') = b := by
    rcases hv with ⟨h1, h2⟩ | ⟨h1, h2⟩
    · exact ⟨false, by rw [bne_eq_false_iff_eq]; exact h1, by rw [decide_eq_false_iff_not]; omega⟩
    · exact ⟨true, by rw [bne_iff_ne]; exact h1, by rw [decide_eq_true_iff]; omega⟩
  have HP := Lib.hid hP
  have HR := Lib.hid hR
  clear hP hR hv
  have hlc := lim_cell w K hK5
  have HC := Lib.hid fun W => ch_cell W K hK5
  have HNK := Lib.hid hK
  go_enter Tryd.func3, Tryd.ntmps3
  obtain ⟨i0, hi, hz0, hz1, hz2⟩ := info_parts info_u8
  go_wp2_with (refine wpList_make_full _ rfl _ _ 23 rfl w.heap.size 5 i0 (.int .u8 0) 1 Tryd.underlying23 hi hz0 hz1 .i64 .i64 _ _ n rfl rfl ?_ ?_ (by rw [hz2]; omega) (by unfold maxLen; omega) (by simp) ?_ <;> first | (intro w1 hown1 hg1) | (first | exact hn | rfl | omega))
  have hsz0 : (w.alloc (.cells #[.int .i64 65536, .int .i64 16384, .int .i64 32, .int .i64 256, .int .i64 100] 3)).heap.size = w.heap.size + 1 := by simp
  have hb1 : Below w.heap.size w w1 := ((Below.refl _ w).alloc (Nat.le_refl _) _).grown hg1 (by simp) (fun k hk => by cases hk)
  rw [hsz0] at hown1
  have hrow : (madeCells (Value.int .u8 0).cells (n * 1)).toList = rowB (ch K) 0 n := by
    rw [Nat.mul_one]
    refine (toList_madeCells_one (.int .u8 0) n).trans ?_
    simp [rowB]
  rw [hrow] at hown1
  clear hlc hg1 hi hz0 hz1 hz2 hrow
  go_wp2
  go_loopw [8] (fun iv wr => ∃ i : Nat, i ≤ n ∧ iv = .int .i64 i ∧ wr.ownsRow w.heap.size 5 1 (.slice (some ⟨w.heap.size + 1, 0, none⟩) n n) n (rowB (ch K) i n) ∧ Below w.heap.size w wr) (fun iv _ => n - (intOf iv).toNat)
  case atStart => exact ⟨0, Nat.zero_le _, rfl, hown1, hb1⟩
  case round =>
    obtain ⟨i, hin, rfl, hown, hbr⟩ := hrel
    by_cases hlt : i < n
    · have hown' := hown.alloc (.cells #[.int .u8 32, .int .u8 59, .int .u8 97, .int .u8 98, .int .u8 32] 5)
      have hca := hown'.cellAt i (by omega)
      rw [rowB_at _ _ _ hlt] at hca
      have hfa := hown'.frozenAt i
      have hcc := HC.out wr
      have hst := (hown'.stored i (.int .u8 (ch K))).1
      rw [rowB_set _ _ _ hlt] at hst
      have HST := Lib.hid hst
      clear hst hown'
      go_wp2
      go_roundw
      case rel => exact ⟨i + 1, by omega, by go_num, HST.out, (hbr.alloc hbr.size _).setCell (p := ⟨w.heap.size + 1, i, none⟩) (Nat.le_succ _) _⟩
      case measure => simp [intOf]; omega
    · obtain rfl : i = n := by omega
      have hbuf : Buf w.heap.size wr (.slice (some ⟨w.heap.size + 1, 0, none⟩) i i) (List.replicate i (ch K)) := ⟨by rw [List.length_replicate, ← rowB_full]; exact hown, hbr.size⟩
      have ht := hbuf.text
      have hwr := hw.below hbr (Nat.le_refl _)
      clear hown hbuf
      have q3 : ((K : Int) == 3) = false := by rw [beq_eq_false_iff_ne]; have := HCs.out; omega
      have q4 : ((K : Int) == 4) = true := by rw [beq_iff_eq]; have := HCs.out; omega
      have hi101 : i ≤ 101 := by have : lim K = 100 := by rw [HCs.out]; rfl
                                 omega
      go_wp2
      go_loopw [6, 9] (fun sv iv wq => ∃ (j : Nat) (x : ByteArray), j ≤ i ∧ iv = .int .i64 j ∧ sv = .string x ∧ Hid (x.data.toList = nest j) ∧ wq = wr) (fun _ iv _ => i - (intOf iv).toNat)
      case atStart => exact ⟨0, ⟨#[]⟩, Nat.zero_le _, rfl, rfl, Lib.hid rfl, rfl⟩
      case round =>
      obtain ⟨j, x, hj, rfl, rfl, HX, rfl⟩ := hrel
      have hxs : x.size = 4 * j := by rw [show x.size = x.data.toList.length from Array.length_toList.symm, HX.out, nest_len]
      by_cases hji : j < i
      · have hs2 : (⟨#[123, 45]⟩ : ByteArray).size = 2 := rfl
        have hs4 : (⟨#[45, 125]⟩ : ByteArray).size = 2 := rfl
        have hs3 : ((⟨#[123, 45]⟩ : ByteArray) ++ x).size = 2 + x.size := by rw [ByteArray.size_append]; rfl
        go_wp2
        go_roundw
        case rel => exact ⟨j + 1, _, by omega, by go_num, rfl, Lib.hid (nest_step x j HX.out), trivial⟩
        case measure => simp [intOf]; omega
      have hjj : j = i := by omega
      rw [hjj] at HX
      have h4 := Lib.hid (src_4 K i HCs.out x HX.out)
      go_wp2_with fail
      rw [h4.out]
      refine (scan_v (Nat.le_trans (src_size K i hK5 (by omega)) (by decide)) HP.out _ hwr).mono ?_
      rintro e w2 ⟨v2, rfl, hb2⟩
      have hf2 := heap_alloc_new w2 (ftP va ve)
      have hb2' := (hbr.trans (hb2.mono hbr.size)).alloc (Nat.le_trans hbr.size hb2.size) (ftP va ve)
      go_wp2_with fail
      refine (rscan_v (Nat.le_trans (src_size K i hK5 (by omega)) (by decide)) HR.out _).mono ?_
      rintro e w3 ⟨v3, rfl, hb3⟩
      have hf3 := two_on hf2 hb3
      have hb3' := hb2'.trans (hb3.mono hb2'.size)
      have hg4 := heap_alloc_new w3 (ftR va ve)
      have hf4 : (w3.alloc (ftR va ve)).heap[w2.heap.size]? = some (ftP va ve) := (Below.heap_alloc _ _ _ (lt_heap hf3)).trans hf3
      have hb4 := hb3'.alloc hb3'.size (ftR va ve)
      go_wp2
      obtain ⟨W, eW⟩ : ∃ W, W = w3.alloc (ftR va ve) := ⟨_, rfl⟩
      rw [← eW] at hg4 hf4 hb4 ⊢
      clear hf2 hf3 hb3 eW ht
      generalize w2.heap.size = N1 at hf4 ⊢
      generalize w3.heap.size = N2 at hg4 ⊢
      have hfd : W.drew.heap[N1]? = some (ftP va ve) := hf4
      have hgd : W.drew.heap[N2]? = some (ftR va ve) := hg4
      have hwd := hw.below hb4.drew (Nat.le_refl _)
      have x0 := two_cells hfd
      have x1 := two_cells hgd
      go_region_held3 (fun V => (V.cell? ⟨N1, 0, none⟩ = some (.int .i64 va) ∧ V.cell? ⟨N1, 1, none⟩ = some (.int .i64 ve)) ∧ (V.cell? ⟨N2, 0, none⟩ = some (.int .i64 va) ∧ V.cell? ⟨N2, 1, none⟩ = some (.int .i64 ve)))
        (first | exact ⟨two_cells (two_on hfd hb5), two_cells (two_on hgd hb5)⟩ | exact ⟨x0, x1⟩ | go_keep)
        ((first
          | (go_at_call 8
             refine (num_any _ _).mono ?_
             rintro e w' ⟨rfl, rfl⟩)
          | (go_at_call 9
             refine (knows_any _ hwd).mono ?_
             rintro e w5 ⟨rfl, hb5⟩)))
      go_wp2
      go_ret
      exact ⟨rfl, hb4.drew.trans (hb5.mono hb4.drew.size)⟩

theorem wf_64 {n : Int} (h : (Lit.int .i64 n).wf = true) : -9223372036854775808 ≤ n ∧ n ≤ 9223372036854775807 := by
  simp only [Lit.wf, Bool.and_eq_true, decide_eq_true_eq] at h
  exact h
theorem sizes_all (kind more : Int) (k0 : -9223372036854775808 ≤ kind) (k1 : kind ≤ 9223372036854775807) (m0 : -9223372036854775808 ≤ more) (m1 : more ≤ 9223372036854775807) (w : World) (hw : RangeOk w) :
    Calls Tryd.prog 3 #[.int .i64 kind, .int .i64 more] w fun e w' => e = .returned (.bool true) ∧ Below w.heap.size w w' := by
  obtain ⟨a1, a2, K, hK, hK5⟩ := tmod_in2 kind 5 (by omega)
  obtain ⟨b1, b2, M, hM, hM3⟩ := tmod_in2 more 3 (by omega)
  by_cases h3 : K = 3
  · exact sizes_quoted kind more k0 k1 m0 m1 K M a1 a2 hK (by omega) b1 b2 hM (by omega) h3 w hw
  by_cases h4 : K = 4
  · exact sizes_notes kind more k0 k1 m0 m1 K M a1 a2 hK (by omega) b1 b2 hM (by omega) h4 w hw
  · exact sizes_any kind more k0 k1 m0 m1 K M a1 a2 hK (by omega) b1 b2 hM (by omega) ⟨h3, h4⟩ w hw
end Go.Proofs.YtifmbhcajlnhbaaDoor
