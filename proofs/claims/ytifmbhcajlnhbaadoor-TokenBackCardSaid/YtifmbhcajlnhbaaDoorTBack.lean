/-
  Layer 2: the law TokenBack, walked.
-/
import Derived.Test.YtifmbhcajlnhbaaDoorTMath
import Derived.Test.YtifmbhcajlnhbaaDoorBackM
import Derived.Test.YtifmbhcajlnhbaaDoorPJoin
namespace Go.Proofs.YtifmbhcajlnhbaaDoor
set_option linter.unusedVariables false
open Go.ChangeShapes Go.WideShapes Go.ChangeAt Go.RowKit

set_option maxHeartbeats 2000000 in
theorem scan_huge (s : ByteArray) (h64 : 65536 < s.size) (hs : s.size ≤ 100000000) (w : World) : Calls Tryd.prog 6 #[.string s] w fun e w' => e = .returned (.tuple #[.slice none 0 0, .agg #[.int .i64 0, .int .i64 6]]) ∧ Below w.heap.size w w' := by
  have h6 : (65536 : Int) < s.size := by omega
  go_enter Tryd.func6, Tryd.ntmps6
  go_wp2
  exact bodyPost_ret (v := .tuple #[.slice none 0 0, .agg #[.int .i64 0, .int .i64 6]]) (by simp [results, Tryd.results6, go_sem]) rfl ⟨rfl, ((Below.refl _ _).alloc (Nat.le_refl _) _).alloc (by simp) _⟩

/-- a token's text is no longer than the source; its number fits -/
theorem readAt_fit {s : ByteArray} {j : Nat} {t : Tk} (hs : s.size ≤ 3000) (hr : readAt s j = .inl t) (hj : j < s.size) : t.text.size ≤ 3000 ∧ t.tw.fits := by
  obtain ⟨r1, r2, r3, r4⟩ := readAt_lt hj hr
  have hex : ∀ a b, (s.extract a b).size ≤ 3000 := fun a b => by simp; omega
  have h0 : ∀ (k : Int) (a f : Nat) (tx : ByteArray), (⟨k, a, f, tx, 0⟩ : Tk).tw.fits := fun k a f tx => ⟨(show (-9223372036854775808 : Int) ≤ 0 by omega), (show (0 : Int) ≤ 9223372036854775807 by omega)⟩
  unfold readAt at hr
  rw [if_neg (by omega)] at hr
  by_cases c1 : cls (atB s j) = 3 ∨ cls (atB s j) = 4
  · rw [if_pos c1] at hr
    unfold nameP at hr
    by_cases d : 0 < j ∧ cls (atB s (j - 1)) = 2
    · rw [if_pos d] at hr; cases hr
    rw [if_neg d] at hr
    unfold nameAt at hr
    by_cases e : 32 < wordEnd s j - j
    · rw [if_pos e] at hr; cases hr
    rw [if_neg e] at hr
    cases hr
    exact ⟨hex _ _, h0 _ _ _ _⟩
  rw [if_neg c1] at hr
  by_cases c2 : cls (atB s j) = 2
  · rw [if_pos c2] at hr
    unfold numP at hr
    cases hd : dgsAt s j 0 with
    | none => rw [hd] at hr; cases hr
    | some r =>
      rw [hd] at hr
      have hb := dgs_bound s _ j 0 _ (by omega) (by omega) hd
      cases hr
      exact ⟨hex _ _, (show (-9223372036854775808 : Int) ≤ r.2 by omega), hb.2⟩
  rw [if_neg c2] at hr
  by_cases c3 : cls (atB s j) = 7
  · rw [if_pos c3] at hr
    unfold textAt at hr
    cases hd : quotedAt s j with
    | none => rw [hd] at hr; cases hr
    | some r =>
      rw [hd] at hr
      obtain ⟨b1, b2, b3⟩ := quoted_bound hd hj
      cases hr
      refine ⟨by show (strOfNums r.1).size ≤ 3000; rw [strOfNums_size]; omega, ?_⟩
      have hh : -9223372036854775808 ≤ r.1.headD 0 ∧ r.1.headD 0 ≤ 9223372036854775807 := by
        cases hm : r.1 with
        | nil => simp
        | cons x y => have := b2 x (by rw [hm]; simp); simp; omega
      show -9223372036854775808 ≤ (if _ then r.1.headD 0 else (0 : Int)) ∧ (if _ then r.1.headD 0 else (0 : Int)) ≤ 9223372036854775807
      split
      · exact hh
      · exact ⟨by omega, by omega⟩
  rw [if_neg c3] at hr
  by_cases c5 : cls (atB s j) = 5
  · rw [if_pos c5] at hr
    unfold opAt at hr
    by_cases d : j + 2 ≤ s.size ∧ inL opsL (s.extract j (j + 2)) = true
    · rw [if_pos d] at hr; cases hr; exact ⟨hex _ _, h0 _ _ _ _⟩
    rw [if_neg d] at hr
    by_cases e : inL opsL (s.extract j (j + 1)) = true
    · rw [if_pos e] at hr; cases hr; exact ⟨hex _ _, h0 _ _ _ _⟩
    · rw [if_neg e] at hr; cases hr
  rw [if_neg c5] at hr
  by_cases c6 : cls (atB s j) = 6
  · rw [if_pos c6] at hr; cases hr; exact ⟨hex _ _, h0 _ _ _ _⟩
  · rw [if_neg c6] at hr; cases hr
theorem sc_fit {s : ByteArray} {i : Nat} {l : List Tk} (hs : s.size ≤ 3000) (h : Sc s i l) : ∀ t ∈ l, t.text.size ≤ 3000 ∧ t.tw.fits := by
  induction h with
  | fin hi hsk =>
    intro t ht
    simp at ht
    subst ht
    exact ⟨Nat.zero_le _, (show (-9223372036854775808 : Int) ≤ 0 by omega), (show (0 : Int) ≤ 9223372036854775807 by omega)⟩
  | tok hi hsk hj hr hl ih =>
    intro t ht
    rcases List.mem_cons.1 ht with e | e
    · subst e; exact readAt_fit hs hr hj
    · exact ih t e
theorem TkRows.arg {w : World} {B g cap : Nat} {l : List Tk} (h : TkRows w B g l) : TwArg w (.slice (some ⟨g, 0, none⟩) l.length cap) (l.map Tk.tw) := by
  refine .inr ⟨⟨g, 0, none⟩, cap, by rw [List.length_map], fun i t ht => ?_⟩
  rw [List.getElem?_map] at ht
  obtain ⟨x, hx, rfl⟩ := Option.map_eq_some_iff.1 ht
  simp only [add_plain, Nat.zero_add]
  exact h.cell i x hx
theorem joined (l : List Tk) : joinB ((l.map Tk.tw).map Tw.shw) = words l := by rw [List.map_map]; exact words_join l

set_option maxHeartbeats 16000000 in
set_option maxRecDepth 100000 in
theorem back_any (s : ByteArray) (hs : s.size ≤ maxLen) (w : World) (hw : RangeOk w) (hp : PowOk w) :
    Calls Tryd.prog 5 #[.string s] w fun e w' => e = .returned (.bool true) ∧ Below w.heap.size w w' := by
  by_cases hbig : 3000 < s.size
  · have q : (3000 : Int) < s.size := by omega
    go_enter Tryd.func5, Tryd.ntmps5
    go_wp2_with fail
    refine (knows_any _ hw).mono ?_
    rintro e w' ⟨rfl, hb⟩
    go_wp2
    go_ret
    exact ⟨rfl, hb⟩
  have q : ¬ (3000 : Int) < s.size := by omega
  cases hsc : scanP s with
  | inr p =>
    have hpe := scanP_err hsc
    have hpl := scan_place (by omega) hsc
    obtain ⟨p1, p2⟩ := p
    simp only at hpe hpl
    have q2 : (p2 != 0) = true := by rw [bne_iff_ne]; exact hpe
    have q3 : (p1 : Int) ≤ s.size := by omega
    have HS := Lib.hid fun w hw => scan_no (by omega) hsc w hw
    clear hsc hpe
    go_enter Tryd.func5, Tryd.ntmps5
    go_wp2_with fail
    refine (HS.out _ hw).mono ?_
    rintro e w1 ⟨ao, cap, rfl, hb1⟩
    have hw1 := (hw.below hb1 (Nat.le_refl _)).below ((Below.refl w1.heap.size w1).alloc (Nat.le_refl _) (ftO p1 p2)) (Nat.le_refl _)
    have hb2 := hb1.alloc hb1.size (ftO p1 p2)
    go_wp2_with fail
    refine (num_any _ _).mono ?_
    rintro e w' ⟨rfl, rfl⟩
    go_wp2_with fail
    refine (knows_any _ hw1).mono ?_
    rintro e w2 ⟨rfl, hb3⟩
    go_wp2
    go_ret
    exact ⟨rfl, hb2.trans (hb3.mono hb2.size)⟩
  | inl l =>
    obtain ⟨hSc, hpos⟩ := scan_len (by omega) hsc
    have hne : l ≠ [] := (sc_begin hSc).2
    have hlen := sc_size hSc
    have hfit := sc_fit (by omega) hSc
    have HS := Lib.hid fun w hw => scan_yes (by omega) hsc hne w hw
    clear hsc
    have hjl : (joinB ((l.map Tk.tw).map Tw.shw)).length ≤ 5000 * 12031 := by
      have h1 := joinB_len 12030 ((l.map Tk.tw).map Tw.shw) (fun x hx => by
        obtain ⟨t, ht, rfl⟩ := List.mem_map.1 hx
        obtain ⟨t', ht', rfl⟩ := List.mem_map.1 ht
        obtain ⟨f1, f2, f3⟩ := hfit t' ht'
        have := showS_size t'.tw.kind t'.tw.text t'.tw.n f2 f3
        have f1' : t'.tw.text.size ≤ 3000 := f1
        show (showS t'.tw.kind t'.tw.text t'.tw.n).data.toList.length ≤ 12030
        rw [show (showS t'.tw.kind t'.tw.text t'.tw.n).data.toList.length = (showS t'.tw.kind t'.tw.text t'.tw.n).size from Array.length_toList]
        omega)
      have h2 : ((l.map Tk.tw).map Tw.shw).length ≤ 5000 := by simp; omega
      exact Nat.le_trans h1 (Nat.mul_le_mul_right 12031 h2)
    obtain ⟨t, ht⟩ : ∃ t : ByteArray, t = ⟨(joinB ((l.map Tk.tw).map Tw.shw)).toArray⟩ := ⟨_, rfl⟩
    have htl : t.data.toList = words l := by rw [ht, joined]
    have htsz : t.size ≤ 5000 * 12031 := by
      have e : t.data.toList.length = t.size := Array.length_toList
      rw [← e, htl, ← joined]
      exact hjl
    have HJ := Lib.hid fun v w (hA : TwArg w v (l.map Tk.tw)) hw => ht ▸ join_any (l.map Tk.tw) v (by simp; omega) (fun x hx => by
      obtain ⟨t', ht', rfl⟩ := List.mem_map.1 hx
      exact hfit t' ht') w hA hw
    clear hfit hjl ht
    by_cases hb64 : 65536 < t.size
    · have q64 : (65536 : Int) < t.size := by omega
      have HB := Lib.hid fun w => scan_huge t hb64 (by omega) w
      go_enter Tryd.func5, Tryd.ntmps5
      go_wp2_with fail
      refine (HS.out _ hw).mono ?_
      rintro e w1 ⟨g, cap, rfl, hcap, hmax, hR, hb1⟩
      have hR1 := hR.alloc (ftO 0 0)
      have hb2 := hb1.alloc hb1.size (ftO 0 0)
      have hp2 := hp.below hb2 (Nat.le_refl _)
      go_wp2_with fail
      refine (num_any _ _).mono ?_
      rintro e w' ⟨rfl, rfl⟩
      go_wp2_with fail
      refine (HJ.out _ _ hR1.arg hp2).mono ?_
      rintro e w2 ⟨rfl, hb3⟩
      go_wp2_with fail
      refine (HB.out _).mono ?_
      rintro e w3 ⟨rfl, hb4⟩
      have hb5 := (hb2.trans (hb3.mono hb2.size)).trans (hb4.mono (Nat.le_trans hb2.size hb3.size))
      go_wp2_with fail
      refine (num_any _ _).mono ?_
      rintro e w' ⟨rfl, rfl⟩
      go_wp2
      go_ret
      exact ⟨rfl, hb5.alloc hb5.size _⟩
    have q64 : ¬ (65536 : Int) < t.size := by omega
    obtain ⟨m, hm, hml, hmt⟩ := scan_words hSc htl (by omega) (by omega)
    have hmne : m ≠ [] := by intro h; rw [h] at hml; simp at hml; omega
    have HM := Lib.hid fun w hw => scan_yes (by omega) hm hmne w hw
    have HT := Lib.hid hmt
    clear hm hmt htl
    go_enter Tryd.func5, Tryd.ntmps5
    go_wp2_with fail
    refine (HS.out _ hw).mono ?_
    rintro e w1 ⟨g, cap, rfl, hcap, hmax, hR, hb1⟩
    have hR1 := hR.alloc (ftO 0 0)
    have hb2 := hb1.alloc hb1.size (ftO 0 0)
    have hp2 := hp.below hb2 (Nat.le_refl _)
    go_wp2_with fail
    refine (num_any _ _).mono ?_
    rintro e w' ⟨rfl, rfl⟩
    go_wp2_with fail
    refine (HJ.out _ _ hR1.arg hp2).mono ?_
    rintro e w2 ⟨rfl, hb3⟩
    have hR2 := hR1.below hb3
    have hb4 := hb2.trans (hb3.mono hb2.size)
    have hw2 := hw.below hb4 (Nat.le_refl _)
    go_wp2_with fail
    refine (HM.out _ hw2).mono ?_
    rintro e w3 ⟨g2, cap2, rfl, hcap2, hmax2, hM, hb5⟩
    have hR3 := (hR2.below hb5).alloc (ftO 0 0)
    have hM3 := hM.alloc (ftO 0 0)
    have hb6 := hb4.trans (hb5.mono hb4.size)
    have hb7 := hb6.alloc hb6.size (ftO 0 0)
    have hw3 := hw.below hb7 (Nat.le_refl _)
    have q3 : ((m.length : Int) != (l.length : Int)) = false := by rw [bne_eq_false_iff_eq]; omega
    go_wp2_with fail
    refine (num_any _ _).mono ?_
    rintro e w' ⟨rfl, rfl⟩
    go_wp2_with fail
    refine (knows_any _ hw3).mono ?_
    rintro e w4 ⟨rfl, hb8⟩
    have hR4 := hR3.below hb8
    have hM4 := hM3.below hb8
    have hb9 := hb7.trans (hb8.mono hb7.size)
    clear hR hR1 hR2 hR3 hM hM3
    go_wp2
    go_loopw [8] (fun iv wr => ∃ i : Nat, i ≤ l.length ∧ iv = .int .i64 i ∧ TkRows wr w.heap.size g l ∧ TkRows wr w2.heap.size g2 m ∧ Below w.heap.size w wr) (fun iv _ => l.length - (intOf iv).toNat)
    case atStart => exact ⟨0, by omega, rfl, hR4, hM4, hb9⟩
    case round =>
      obtain ⟨i, hi, rfl, hRr, hMr, hbr⟩ := hrel
      by_cases hil : i < l.length
      · obtain ⟨x, hx⟩ : ∃ x, l[i]? = some x := ⟨l[i], List.getElem?_eq_getElem hil⟩
        obtain ⟨y, hy⟩ : ∃ y, m[i]? = some y := ⟨m[i], List.getElem?_eq_getElem (by omega)⟩
        obtain ⟨y1, y2, y3⟩ := HT.out i x y hx hy
        obtain ⟨a0, a1, a2, a3, a4⟩ := hRr.cell i x hx
        obtain ⟨b0, b1, b2, b3, b4⟩ := hMr.cell i y hy
        rw [y1] at b0
        rw [y3] at b4
        have i1 : (i : Int) < (m.length : Int) := by omega
        have i2 : (i : Int) < (l.length : Int) := by omega
        by_cases k3 : x.kind = 3
        · have e3 : (x.kind != 3) = false := by rw [bne_eq_false_iff_eq]; exact k3
          clear y1 y2 y3
          by_cases hxy : y.text = x.text
          · rw [hxy] at b3
            clear hxy
            go_wp2
            go_quiet (fail)
            go_wp2
            go_roundw
            case rel => exact ⟨i + 1, by omega, by go_num, ⟨hRr.lo, hRr.hi, hRr.cell⟩, ⟨hMr.lo, hMr.hi, hMr.cell⟩, below_drewN hbr _⟩
            case measure => simp [intOf]; omega
          · have e5 : (y.text.toList == x.text.toList) = false := by
              rw [beq_eq_false_iff_ne]
              intro e
              refine hxy (ba_ext ?_)
              rw [ByteArray.toList_eq, ByteArray.toList_eq] at e
              exact e
            clear hxy
            go_wp2
            go_quiet (fail)
            go_wp2
            go_roundw
            case rel => exact ⟨i + 1, by omega, by go_num, ⟨hRr.lo, hRr.hi, hRr.cell⟩, ⟨hMr.lo, hMr.hi, hMr.cell⟩, below_drewN hbr _⟩
            case measure => simp [intOf]; omega
        · have e3 : (x.kind != 3) = true := by rw [bne_iff_ne]; exact k3
          rw [y2 k3] at b3
          clear y1 y2 y3
          go_wp2
          go_quiet (fail)
          go_wp2
          go_roundw
          case rel => exact ⟨i + 1, by omega, by go_num, ⟨hRr.lo, hRr.hi, hRr.cell⟩, ⟨hMr.lo, hMr.hi, hMr.cell⟩, below_drewN hbr _⟩
          case measure => simp [intOf]; omega
      · go_wp2
        go_ret
        exact ⟨rfl, hbr⟩
end Go.Proofs.YtifmbhcajlnhbaaDoor
