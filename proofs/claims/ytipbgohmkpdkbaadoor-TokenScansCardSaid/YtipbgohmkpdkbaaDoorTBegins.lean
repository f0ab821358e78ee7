/-
  Layer 2: the law TokenBegins, walked.
-/
import Derived.Test.YtipbgohmkpdkbaaDoorTKnows
import Derived.Lib.Hide
import Derived.Deep.QuietTactic
import Derived.BigQuiet
import Derived.WalkSmall
namespace Go.Proofs.YtipbgohmkpdkbaaDoor
set_option linter.unusedVariables false
open Go.ChangeShapes Go.WideShapes Go.ChangeAt Go.RowKit

theorem coll_err : ∀ (l : List (Tk × Int)) (j : Nat) (p : Nat × Int), coll j l = .inr p → p.2 ≠ 0
  | [], j, p, h => by cases h
  | x :: r, j, p, h => by
    unfold coll at h
    by_cases hv : verd j x ≠ 0
    · rw [if_pos hv] at h; cases h; exact hv
    · rw [if_neg hv] at h
      cases hc : coll (j + 1) r with
      | inl l => rw [hc] at h; cases h
      | inr q => rw [hc] at h; cases h; exact coll_err r (j + 1) _ hc
theorem scanP_err {s : ByteArray} {p : Nat × Int} (h : scanP s = .inr p) : p.2 ≠ 0 := by
  unfold scanP at h
  by_cases hb : 65536 < s.size
  · rw [if_pos hb] at h; cases h; show (6 : Int) ≠ 0; decide
  · rw [if_neg hb] at h; exact coll_err _ _ _ h
theorem scan_len {s : ByteArray} {l : List Tk} (hs : s.size ≤ 10000) (h : scanP s = .inl l) : Sc s 0 l ∧ 0 < l.length := by
  rw [scanP_small s hs] at h
  have hsc := sc_of_scan s.size 0 l (Nat.zero_le _) (by omega) h
  exact ⟨hsc, List.length_pos_iff.2 (sc_begin hsc).2⟩
theorem sc_size {s : ByteArray} {i : Nat} {l : List Tk} (h : Sc s i l) : l.length ≤ s.size - i + 1 := by
  induction h with
  | fin hi hs => simp
  | tok hi hs hj hr hl ih =>
    obtain ⟨r1, r2, r3, r4⟩ := readAt_lt hj hr
    have := skip_le hs hi
    rw [List.length_cons]
    omega
/-- a text up to e, and a feed -/
theorem upto_feed (s : ByteArray) (e : Nat) (he : e ≤ s.size) : (s.extract 0 e ++ ⟨#[10]⟩).size = e + 1 ∧ atB (s.extract 0 e ++ ⟨#[10]⟩) e = 10 ∧ ∀ k, k < e → atB (s.extract 0 e ++ ⟨#[10]⟩) k = atB s k := by
  have hl : s.data.toList.length = s.size := Array.length_toList
  have hd : (s.extract 0 e ++ ⟨#[10]⟩ : ByteArray).data.toList = s.data.toList.take e ++ [10] := by
    rw [ByteArray.data_append, Array.toList_append, Lib.extract_data]; simp
  refine ⟨by rw [ByteArray.size_append, ByteArray.size_extract, Nat.min_eq_left he]; rfl, ?_, fun k hk => ?_⟩
  · unfold atB
    rw [hd, List.getD_eq_getElem?_getD, List.getElem?_append_right (by simp; omega)]
    simp [hl, he]
  · unfold atB
    rw [hd, List.getD_eq_getElem?_getD, List.getElem?_append_left (by simp; omega), List.getElem?_take_of_lt hk, List.getD_eq_getElem?_getD]
theorem tmod_in (k n : Int) (hn : 2 ≤ n) : -(n - 1) < k.tmod (n - 1) ∧ k.tmod (n - 1) < n - 1 ∧ ∃ K : Nat, (k.tmod (n - 1) + n - 1).tmod (n - 1) = K ∧ (K : Int) < n - 1 := by
  have h1 : k.tmod (n - 1) < n - 1 := Int.tmod_lt_of_pos k (by omega)
  have h2 : -(n - 1) < k.tmod (n - 1) := by
    rcases Int.le_total 0 k with h | h
    · have := Int.tmod_nonneg (n - 1) h; omega
    · have h5 : (-k).tmod (n - 1) < n - 1 := Int.tmod_lt_of_pos (-k) (by omega)
      rw [Int.neg_tmod] at h5
      omega
  refine ⟨h2, h1, ?_⟩
  have h3 : (k.tmod (n - 1) + n - 1).tmod (n - 1) < n - 1 := Int.tmod_lt_of_pos _ (by omega)
  have h4 : 0 ≤ (k.tmod (n - 1) + n - 1).tmod (n - 1) := Int.tmod_nonneg _ (by omega)
  exact ⟨((k.tmod (n - 1) + n - 1).tmod (n - 1)).toNat, by omega, by omega⟩

set_option maxHeartbeats 8000000 in
set_option maxRecDepth 100000 in
theorem begins_any (s : ByteArray) (hs : s.size ≤ maxLen) (k : Int) (k0 : -9223372036854775808 ≤ k) (k1 : k ≤ 9223372036854775807) (w : World) (hw : RangeOk w) :
    Calls Tryd.prog 8 #[.string s, .int .i64 k] w fun e w' => e = .returned (.bool true) ∧ Below w.heap.size w w' := by
  by_cases hbig : 1500 < s.size
  · have q : (1500 : Int) < s.size := by omega
    go_enter Tryd.func8, Tryd.ntmps8
    go_wp2_with fail
    refine (knows_any _ hw).mono ?_
    rintro e w' ⟨rfl, hb⟩
    go_wp2
    go_ret
    exact ⟨rfl, hb⟩
  have q : ¬ (1500 : Int) < s.size := by omega
  cases hsc : scanP s with
  | inr p =>
    have hp := scanP_err hsc
    have q2 : (p.2 != 0) = true := by rw [bne_iff_ne]; exact hp
    have HS := Lib.hid fun w hw => scan_no (by omega) hsc w hw
    clear hsc hp
    go_enter Tryd.func8, Tryd.ntmps8
    go_wp2_with fail
    refine (HS.out _ hw).mono ?_
    rintro e w1 ⟨ao, cap, rfl, hb1⟩
    have hw1 := (hw.below hb1 (Nat.le_refl _)).below ((Below.refl w1.heap.size w1).alloc (Nat.le_refl _) (ftO p.1 p.2)) (Nat.le_refl _)
    go_wp2_with fail
    refine (num_any _ _).mono ?_
    rintro e w' ⟨rfl, rfl⟩
    go_wp2_with fail
    refine (knows_any _ hw1).mono ?_
    rintro e w2 ⟨rfl, hb2⟩
    go_wp2
    go_ret
    exact ⟨rfl, (hb1.alloc hb1.size (ftO p.1 p.2)).trans (hb2.mono (by have := hb1.size; simp; omega))⟩
  | inl l =>
    obtain ⟨hSc, hpos⟩ := scan_len (by omega) hsc
    have hne : l ≠ [] := (sc_begin hSc).2
    have hlen := sc_size hSc
    have HS := Lib.hid fun w hw => scan_yes (by omega) hsc hne w hw
    clear hsc
    by_cases h2 : l.length < 2
    · have q2 : (l.length : Int) < 2 := by omega
      go_enter Tryd.func8, Tryd.ntmps8
      go_wp2_with fail
      refine (HS.out _ hw).mono ?_
      rintro e w1 ⟨g, cap, rfl, hcap, hmax, hR, hb1⟩
      have hw1 := (hw.below hb1 (Nat.le_refl _)).below ((Below.refl w1.heap.size w1).alloc (Nat.le_refl _) (ftO 0 0)) (Nat.le_refl _)
      go_wp2_with fail
      refine (num_any _ _).mono ?_
      rintro e w' ⟨rfl, rfl⟩
      go_wp2_with fail
      refine (knows_any _ hw1).mono ?_
      rintro e w2 ⟨rfl, hb2⟩
      go_wp2
      go_ret
      exact ⟨rfl, (hb1.alloc hb1.size (ftO 0 0)).trans (hb2.mono (by have := hb1.size; simp; omega))⟩
    have q2 : ¬ (l.length : Int) < 2 := by omega
    obtain ⟨m1, m2, K, hK, hKl⟩ := tmod_in k l.length (by omega)
    have hKn : K + 1 < l.length := by omega
    obtain ⟨t, ht⟩ : ∃ t, l[K]? = some t := ⟨l[K], List.getElem?_eq_getElem (by omega)⟩
    have hfin : t.fin ≤ s.size := (sc_at hSc K t ht).top
    obtain ⟨u1, u2, u3⟩ := upto_feed s t.fin hfin
    obtain ⟨m, hm, hml, hmi⟩ : ∃ m, scanP (s.extract 0 t.fin ++ ⟨#[10]⟩) = .inl m ∧ m.length = K + 2 ∧ ∀ i, i ≤ K → m[i]? = l[i]? := by
      refine ⟨l.take (K + 1) ++ [endT (s.extract 0 t.fin ++ ⟨#[10]⟩)], ?_, by simp; omega, fun i hi => ?_⟩
      · rw [scanP_small _ (by omega)]
        exact scan_of_sc (sc_upto hfin u1 u2 u3 hSc K t ht rfl hKn)
      · rw [List.getElem?_append_left (by simp; omega), List.getElem?_take_of_lt (by omega)]
    have HS2 := Lib.hid fun w hw => scan_yes (by omega) hm (by intro h; rw [h] at hml; simp at hml) w hw
    clear hm u1 u2 u3
    go_enter Tryd.func8, Tryd.ntmps8
    go_wp2_with fail
    refine (HS.out _ hw).mono ?_
    rintro e w1 ⟨g, cap, rfl, hcap, hmax, hR, hb1⟩
    have hw1 := (hw.below hb1 (Nat.le_refl _)).below ((Below.refl w1.heap.size w1).alloc (Nat.le_refl _) (ftO 0 0)) (Nat.le_refl _)
    have hR1 := hR.alloc (ftO 0 0)
    have hc := (hR1.cell K t ht).2.2.1
    go_wp2_with fail
    refine (num_any _ _).mono ?_
    rintro e w' ⟨rfl, rfl⟩
    go_wp2_with fail
    refine (HS2.out _ hw1).mono ?_
    rintro e w2 ⟨g2, cap2, rfl, hcap2, hmax2, hM, hb2⟩
    have hb3 := (hb1.alloc hb1.size (ftO 0 0)).trans (hb2.mono (by have := hb1.size; simp; omega))
    have hR2 := (hR1.below hb2).alloc (ftO 0 0)
    have hM2 := hM.alloc (ftO 0 0)
    have hw2 := (hw1.below hb2 (Nat.le_refl _)).below ((Below.refl w2.heap.size w2).alloc (Nat.le_refl _) (ftO 0 0)) (Nat.le_refl _)
    have q3 : ((m.length : Int) != (K : Int) + 2) = false := by rw [bne_eq_false_iff_eq]; omega
    go_wp2_with fail
    refine (num_any _ _).mono ?_
    rintro e w' ⟨rfl, rfl⟩
    go_wp2_with fail
    refine (knows_any _ hw2).mono ?_
    rintro e w3 ⟨rfl, hb4⟩
    have hR3 := hR2.below hb4
    have hM3 := hM2.below hb4
    have hb5 := (hb3.alloc hb3.size (ftO 0 0)).trans (hb4.mono (by have := hb3.size; simp; omega))
    go_wp2
    go_loopw [9] (fun iv wr => ∃ i : Nat, i ≤ K + 1 ∧ iv = .int .i64 i ∧ TkRows wr w.heap.size g l ∧ TkRows wr (w1.alloc (ftO 0 0)).heap.size g2 m ∧ Below w.heap.size w wr) (fun iv _ => K + 2 - (intOf iv).toNat)
    case atStart => exact ⟨0, by omega, rfl, hR3, hM3, hb5⟩
    case round =>
      obtain ⟨i, hi, rfl, hRr, hMr, hbr⟩ := hrel
      by_cases hik : i ≤ K
      · obtain ⟨x, hx⟩ : ∃ x, l[i]? = some x := ⟨l[i], List.getElem?_eq_getElem (by omega)⟩
        obtain ⟨a0, a1, a2, a3, a4⟩ := hRr.cell i x hx
        obtain ⟨b0, b1, b2, b3, b4⟩ := hMr.cell i x ((hmi i hik).trans hx)
        have i1 : (i : Int) < (K : Int) + 2 := by omega
        have i2 : (i : Int) < (l.length : Int) := by omega
        go_wp2
        go_quiet (fail)
        go_wp2
        go_roundw
        case rel => exact ⟨i + 1, by omega, by go_num, ⟨hRr.lo, hRr.hi, hRr.cell⟩, ⟨hMr.lo, hMr.hi, hMr.cell⟩, below_drewN hbr _⟩
        case measure => simp [intOf]; omega
      · go_wp2
        go_ret
        exact ⟨rfl, hbr⟩
end Go.Proofs.YtipbgohmkpdkbaaDoor
