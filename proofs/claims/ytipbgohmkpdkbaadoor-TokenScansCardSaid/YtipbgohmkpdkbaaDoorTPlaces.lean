/-
  Layer 2: the law TokenPlaces, walked.
-/
import Derived.Test.YtipbgohmkpdkbaaDoorTBegins
import Derived.Deep.RegionHeld3
namespace Go.Proofs.YtipbgohmkpdkbaaDoor
set_option linter.unusedVariables false
open Go.ChangeShapes Go.WideShapes Go.ChangeAt Go.RowKit

theorem num_q (x : Int) (w : World) : Calls Tryd.prog 13 #[.int .i64 x] w fun e w' => e = .returned (.int .i64 x) ∧ w' = w :=
  (num_any x w).mono fun e w' ⟨h, h'⟩ => ⟨h, h'.symm⟩
theorem RangeOk.alloc {w : World} (h : RangeOk w) (o : Obj) : RangeOk (w.alloc o) := h.below ((Below.refl w.heap.size w).alloc (Nat.le_refl _) o) (Nat.le_refl _)

theorem pl_two {w : World} {g : Nat} {a b : Value} {t : TypeId} {fr : Nat × Nat} (h : w.heap[g]? = some (.cells #[a, b] t fr)) : w.cell? ⟨g, 0, none⟩ = some a ∧ w.cell? ⟨g, 1, none⟩ = some b :=
  ⟨by rw [cell_of_row w g 0 _ t fr h]; rfl, by rw [cell_of_row w g 1 _ t fr h]; rfl⟩
theorem pl_free {w : World} {g : Nat} {a b : Value} {t : TypeId} (h : w.heap[g]? = some (.cells #[a, b] t (0, 0))) : w.frozen? ⟨g, 0, none⟩ = false ∧ w.frozen? ⟨g, 1, none⟩ = false :=
  ⟨by rw [World.frozen?, h]; simp, by rw [World.frozen?, h]; simp⟩
theorem cell_same {W W' : World} {g : Nat} (h : W'.heap[g]? = W.heap[g]?) (j : Nat) : W'.cell? ⟨g, j, none⟩ = W.cell? ⟨g, j, none⟩ := by simp only [World.cell?, h]
theorem TkRows.other {W W' : World} {B g : Nat} {l : List Tk} (h : TkRows W B g l) (e : W'.heap[g]? = W.heap[g]?) : TkRows W' B g l :=
  ⟨h.lo, by have q := Array.getElem?_eq_getElem h.hi; rw [← e] at q; exact lt_heap q, fun i t ht => by
    obtain ⟨a, b, c, d, f⟩ := h.cell i t ht
    exact ⟨(cell_same e _).trans a, (cell_same e _).trans b, (cell_same e _).trans c, (cell_same e _).trans d, (cell_same e _).trans f⟩⟩
theorem TkRows.set2 {W : World} {B g : Nat} {l : List Tk} (h : TkRows W B g l) (N : Nat) (hN : g ≠ N) (a e : Value) : TkRows ((W.setCell ⟨N, 0, none⟩ a).setCell ⟨N, 1, none⟩ e) B g l :=
  h.other (by rw [Below.heap_setCell _ _ _ _ hN, Below.heap_setCell _ _ _ _ hN])
theorem RangeOk.drewN {w : World} (h : RangeOk w) (n : Nat) : RangeOk (w.drewN n) := h
theorem RangeOk.drew {w : World} (h : RangeOk w) : RangeOk w.drew := h
theorem TkRows.drewN {w : World} {B g : Nat} {l : List Tk} (h : TkRows w B g l) (n : Nat) : TkRows (w.drewN n) B g l := ⟨h.lo, h.hi, h.cell⟩
theorem TkRows.drew {w : World} {B g : Nat} {l : List Tk} (h : TkRows w B g l) : TkRows w.drew B g l := ⟨h.lo, h.hi, h.cell⟩
theorem wrap_len (n : Nat) (h : n ≤ 9223372036854775807) : IntKind.i64.wrap ((n : Int) - 1) = (n : Int) - 1 := by
  unfold IntKind.wrap
  simp [IntKind.bits, IntKind.signed]
  omega

set_option maxHeartbeats 16000000 in
set_option maxRecDepth 100000 in
theorem places_any (s : ByteArray) (hs : s.size ≤ maxLen) (w : World) (hw : RangeOk w) :
    Calls Tryd.prog 7 #[.string s] w fun e w' => e = .returned (.bool true) ∧ Below w.heap.size w w' := by
  by_cases hbig : 1000 < s.size
  · have q : (1000 : Int) < s.size := by omega
    go_enter Tryd.func7, Tryd.ntmps7
    go_wp2_with fail
    refine (knows_any _ hw).mono ?_
    rintro e w' ⟨rfl, hb⟩
    go_wp2
    go_ret
    exact ⟨rfl, hb⟩
  have q : ¬ (1000 : Int) < s.size := by omega
  cases hsc : scanP s with
  | inr p =>
    have hp := scanP_err hsc
    have q2 : (p.2 != 0) = true := by rw [bne_iff_ne]; exact hp
    have HS := Lib.hid fun w hw => scan_no (by omega) hsc w hw
    clear hsc hp
    go_enter Tryd.func7, Tryd.ntmps7
    go_wp2_with fail
    refine (HS.out _ hw).mono ?_
    rintro e w1 ⟨ao, cap, rfl, hb1⟩
    have hw1 := (hw.below hb1 (Nat.le_refl _)).alloc (ftO p.1 p.2)
    go_wp2_with fail
    refine (num_any _ _).mono ?_
    rintro e w' ⟨rfl, rfl⟩
    go_wp2_with fail
    refine (knows_any _ hw1).mono ?_
    rintro e w2 ⟨rfl, hb2⟩
    go_wp2
    go_ret
    exact ⟨rfl, (hb1.alloc hb1.size (ftO p.1 p.2)).trans (hb2.mono (by have := hb1.size; simp; omega))⟩
  | inl l =>
    obtain ⟨hSc, hpos⟩ := scan_len (by omega) hsc
    have hne : l ≠ [] := (sc_begin hSc).2
    have hlen := sc_size hSc
    have hend := sc_last hSc
    have HS := Lib.hid fun w hw => scan_yes (by omega) hsc hne w hw
    have HSc := Lib.hid hSc
    clear hsc hSc
    go_enter Tryd.func7, Tryd.ntmps7
    go_wp2_with fail
    refine (HS.out _ hw).mono ?_
    rintro e w1 ⟨g, cap, rfl, hcap, hmax, hR, hb1⟩
    have hw1 := (hw.below hb1 (Nat.le_refl _)).alloc (ftO 0 0)
    have hR1 := hR.alloc (ftO 0 0)
    have hb1' := hb1.alloc hb1.size (ftO 0 0)
    go_wp2_with fail
    refine (num_any _ _).mono ?_
    rintro e w' ⟨rfl, rfl⟩
    go_wp2
    go_loopw [5, 6, 7, 9] (fun av iv _ _ wr => ∃ i : Nat, i ≤ l.length ∧ iv = .int .i64 i ∧ av = .int .i64 (ahead 0 l i) ∧ TkRows wr w.heap.size g l ∧ Below w.heap.size w wr ∧ RangeOk wr) (fun _ iv _ _ _ => l.length - (intOf iv).toNat)
    case atStart => exact ⟨0, by omega, rfl, rfl, hR1, hb1', hw1⟩
    case round =>
      obtain ⟨i, hi, rfl, rfl, hRr, hbr, hwr⟩ := hrel
      by_cases hil : i < l.length
      · obtain ⟨x, hx⟩ : ∃ x, l[i]? = some x := ⟨l[i], List.getElem?_eq_getElem hil⟩
        have hat := sc_at HSc.out i x hx
        obtain ⟨h1, h2, h3, h4, ⟨t', h5⟩, h6⟩ := hat
        obtain ⟨a0, a1, a2, a3, a4⟩ := hRr.cell i x hx
        have i2 : (i : Int) < (l.length : Int) := by omega
        have d1 : decide (x.at_ < ahead 0 l i) = false := by rw [decide_eq_false_iff_not]; omega
        have d2 : decide (x.fin < x.at_) = false := by rw [decide_eq_false_iff_not]; omega
        have d3 : decide (s.size < x.fin) = false := by rw [decide_eq_false_iff_not]; omega
        have hwl := wrap_len l.length (by omega)
        have hxl : x.at_ ≤ s.size := by omega
        have HG := Lib.hid fun w hw => scan_yes (s := s.extract (ahead 0 l i) x.at_) (l := [t']) (by simp; omega) (by rw [scanP_small _ (by simp; omega)]; exact h5) (by simp) w hw
        clear h5
        by_cases hlast : i + 1 = l.length
        · rw [show decide (i + 1 = l.length) = true by rw [decide_eq_true_iff]; exact hlast] at h4 h6
          rw [if_pos rfl] at h6
          have e1 : (x.kind == 9) = true := by rw [beq_iff_eq]; exact h4.2 rfl
          have e2 : ((i : Int) == (l.length : Int) - 1) = true := by rw [beq_iff_eq]; omega
          have e4 : decide ((i : Int) < (l.length : Int) - 1) = false := by rw [decide_eq_false_iff_not]; omega
          have e3 : decide ((i : Int) < IntKind.i64.wrap ((l.length : Int) - 1)) = false := by rw [hwl, decide_eq_false_iff_not]; omega
          have HO := Lib.hid fun w hw => scan_yes (s := s.extract x.at_ x.fin) (l := [endT (s.extract x.at_ x.fin)]) (by simp; omega) (by
            rw [scanP_small _ (by simp; omega)]
            have h0 : (s.extract x.at_ x.fin).size = 0 := by simp; omega
            refine scan_of_sc (.fin (Nat.zero_le _) ?_)
            rw [skip_end _ _ (by omega), h0]) (by simp) w hw
          clear h6
          have hlt2 : x.fin ≤ s.size := h3
          have hlt3 : x.at_ ≤ x.fin := h2
          have hlt4 : ahead 0 l i ≤ x.at_ := h1
          clear h4 h1 h2 h3
          go_wp2
          go_quiet (fail)
          go_wp2_with fail
          refine (HG.out _ (hwr.drewN _)).mono ?_
          rintro e w2 ⟨g2, cap2, rfl, hc2, hm2, hR2, hb2⟩
          simp only [List.length_cons, List.length_nil, Nat.reduceAdd] at hc2 ⊢
          have hR3 := ((hRr.drewN nq).below hb2).alloc (ftO 0 0)
          have hw3 := ((hwr.drewN nq).below hb2 (Nat.le_refl _)).alloc (ftO 0 0)
          have hb3 := ((below_drewN hbr nq).trans (hb2.mono hbr.size))
          have hb4 := hb3.alloc hb3.size (ftO 0 0)
          obtain ⟨c0, c1, c2, c3, c4⟩ := hR3.cell i x hx
          go_wp2_with fail
          refine (num_any _ _).mono ?_
          rintro e w' ⟨rfl, rfl⟩
          go_wp2
          clear c0 c1 c2 c3 c4
          obtain ⟨w4, e4w⟩ : ∃ w4, w4 = w2.alloc (ftO 0 0) := ⟨_, rfl⟩
          rw [← e4w] at hR3 hw3 hb4 ⊢
          obtain ⟨c0, c1, c2, c3, c4⟩ := hR3.cell i x hx
          have hRd := hR3.drew
          have hwd := hw3.drew
          have hbd := hb4.drew
          have hg4 : g < w4.heap.size := hR3.hi
          clear a0 a1 a2 a3 a4 e4w
          go_region_held3 (fun W => W.cell? ⟨g, i * 5 + 1, none⟩ = some (.int .i64 x.at_) ∧ W.cell? ⟨g, i * 5 + 2, none⟩ = some (.int .i64 x.fin)) (first | exact ⟨(hR6.cell i x hx).2.1, (hR6.cell i x hx).2.2.1⟩ | exact ⟨(hR7.cell i x hx).2.1, (hR7.cell i x hx).2.2.1⟩ | go_keep) ((first
            | (go_at_call 10
               refine (HO.out _ hwd).mono ?_
               rintro e w5 ⟨g5, cap5, rfl, hc5, hm5, hR5, hb5⟩
               have hR6 := hRd.below hb5)
            | (go_at_call 10
               refine (HO.out _ (hwd.alloc _)).mono ?_
               rintro e w5 ⟨g5, cap5, rfl, hc5, hm5, hR5, hb5⟩
               have hR6 := (hRd.alloc _).below hb5
               have r5 : w5.heap[w4.heap.size]? = some (ftO 0 0) := (hb5.block w4.heap.size (by simp)).trans (heap_alloc_new w4.drew _)
               obtain ⟨p0, p1⟩ := pl_two r5
               obtain ⟨q0, q1⟩ := pl_free r5
               have hR7 := hR6.set2 w4.heap.size (by omega) (.int .i64 0) (.int .i64 0))))
          · have hb6 := hbd.trans (hb5.mono hbd.size)
            have hb7 := hb6.alloc hb6.size (ftO 0 0)
            have hRA := hR6.alloc (ftO 0 0)
            obtain ⟨k0, k1, k2, k3, k4⟩ := hRA.cell i x hx
            go_wp2
            go_quiet ((go_at_call 13; refine Calls.quiet_of_same (num_q _ _)))
            go_wp2
            go_roundw
            case rel => exact ⟨i + 1, by omega, by go_num, by simp [ahead, hx], hRA.drewN _, below_drewN hb7 _, (hw.below hb7 (Nat.le_refl _)).drewN _⟩
            case measure => simp [intOf]; omega
          · have hb6 := (hbd.alloc hbd.size (ftO 0 0)).trans (hb5.mono (by have := hbd.size; simp at this ⊢; omega))
            have hle : w.heap.size ≤ w4.heap.size := hbd.size
            have hb7 := (hb6.setCell (p := ⟨w4.heap.size, 0, none⟩) hle (.int .i64 0)).setCell (p := ⟨w4.heap.size, 1, none⟩) hle (.int .i64 0)
            have hsame : ((w5.setCell ⟨w4.heap.size, 0, none⟩ (.int .i64 0)).setCell ⟨w4.heap.size, 1, none⟩ (.int .i64 0)).heap[w4.heap.size]? = some (ftO 0 0) := by simp [World.setCell, Array.getElem?_modify, r5]
            obtain ⟨s0, s1⟩ := pl_two hsame
            have hR9 := hR5.set2 w4.heap.size (by have := hR5.lo; simp at this; omega) (.int .i64 0) (.int .i64 0)
            clear p0 p1 q0 q1 r5 hR5 hR6 hsame hb6
            generalize ((w5.setCell ⟨w4.heap.size, 0, none⟩ (.int .i64 0)).setCell ⟨w4.heap.size, 1, none⟩ (.int .i64 0)) = W6 at hR7 hb7 s0 s1 hR9 ⊢
            obtain ⟨k0, k1, k2, k3, k4⟩ := hR7.cell i x hx
            go_wp2
            go_quiet ((go_at_call 13; refine Calls.quiet_of_same (num_q _ _)))
            go_wp2
            go_roundw
            case rel => exact ⟨i + 1, by omega, by go_num, by simp [ahead, hx], hR7.drewN _, below_drewN hb7 _, (hw.below hb7 (Nat.le_refl _)).drewN _⟩
            case measure => simp [intOf]; omega
        · rw [show decide (i + 1 = l.length) = false by rw [decide_eq_false_iff_not]; exact hlast] at h4 h6
          rw [if_neg (by decide)] at h6
          obtain ⟨t1, t2, o1, o2, o3, o4⟩ := h6
          have e1 : (x.kind == 9) = false := by rw [beq_eq_false_iff_ne]; intro h; exact absurd (h4.1 h) (by decide)
          have e2 : ((i : Int) == (l.length : Int) - 1) = false := by rw [beq_eq_false_iff_ne]; omega
          have e4 : decide ((i : Int) < (l.length : Int) - 1) = true := by rw [decide_eq_true_iff]; omega
          have e3 : decide ((i : Int) < IntKind.i64.wrap ((l.length : Int) - 1)) = true := by rw [hwl, decide_eq_true_iff]; omega
          have HO := Lib.hid fun w hw => scan_yes (s := s.extract x.at_ x.fin) (l := [t1, t2]) (by simp; omega) (by rw [scanP_small _ (by simp; omega)]; exact o1) (by simp) w hw
          clear o1
          have hlt2 : x.fin ≤ s.size := h3
          have hlt3 : x.at_ ≤ x.fin := h2
          have hlt4 : ahead 0 l i ≤ x.at_ := h1
          clear h4 h1 h2 h3
          go_wp2
          go_quiet (fail)
          go_wp2_with fail
          refine (HG.out _ (hwr.drewN _)).mono ?_
          rintro e w2 ⟨g2, cap2, rfl, hc2, hm2, hR2, hb2⟩
          simp only [List.length_cons, List.length_nil, Nat.reduceAdd] at hc2 ⊢
          have hR3 := ((hRr.drewN nq).below hb2).alloc (ftO 0 0)
          have hw3 := ((hwr.drewN nq).below hb2 (Nat.le_refl _)).alloc (ftO 0 0)
          have hb3 := ((below_drewN hbr nq).trans (hb2.mono hbr.size))
          have hb4 := hb3.alloc hb3.size (ftO 0 0)
          obtain ⟨c0, c1, c2, c3, c4⟩ := hR3.cell i x hx
          go_wp2_with fail
          refine (num_any _ _).mono ?_
          rintro e w' ⟨rfl, rfl⟩
          go_wp2
          clear c0 c1 c2 c3 c4
          obtain ⟨w4, e4w⟩ : ∃ w4, w4 = w2.alloc (ftO 0 0) := ⟨_, rfl⟩
          rw [← e4w] at hR3 hw3 hb4 ⊢
          obtain ⟨c0, c1, c2, c3, c4⟩ := hR3.cell i x hx
          have hRd := hR3.drew
          have hwd := hw3.drew
          have hbd := hb4.drew
          have hg4 : g < w4.heap.size := hR3.hi
          clear a0 a1 a2 a3 a4 e4w
          go_region_held3 (fun W => W.cell? ⟨g, i * 5 + 1, none⟩ = some (.int .i64 x.at_) ∧ W.cell? ⟨g, i * 5 + 2, none⟩ = some (.int .i64 x.fin)) (first | exact ⟨(hR6.cell i x hx).2.1, (hR6.cell i x hx).2.2.1⟩ | exact ⟨(hR7.cell i x hx).2.1, (hR7.cell i x hx).2.2.1⟩ | go_keep) ((first
            | (go_at_call 10
               refine (HO.out _ hwd).mono ?_
               rintro e w5 ⟨g5, cap5, rfl, hc5, hm5, hR5, hb5⟩
               have hR6 := hRd.below hb5)
            | (go_at_call 10
               refine (HO.out _ (hwd.alloc _)).mono ?_
               rintro e w5 ⟨g5, cap5, rfl, hc5, hm5, hR5, hb5⟩
               have hR6 := (hRd.alloc _).below hb5
               have r5 : w5.heap[w4.heap.size]? = some (ftO 0 0) := (hb5.block w4.heap.size (by simp)).trans (heap_alloc_new w4.drew _)
               obtain ⟨p0, p1⟩ := pl_two r5
               obtain ⟨q0, q1⟩ := pl_free r5
               have hR7 := hR6.set2 w4.heap.size (by omega) (.int .i64 0) (.int .i64 0))))
          · have hb6 := hbd.trans (hb5.mono hbd.size)
            have hb7 := hb6.alloc hb6.size (ftO 0 0)
            have hRA := hR6.alloc (ftO 0 0)
            obtain ⟨k0, k1, k2, k3, k4⟩ := hRA.cell i x hx
            obtain ⟨m0, _, _, m3, m4⟩ := (hR5.alloc (ftO 0 0)).cell 0 t1 rfl
            rw [o2] at m0
            rw [o3] at m3
            rw [o4] at m4
            simp only [Nat.zero_mul, Nat.zero_add] at m0 m3 m4
            go_wp2
            go_quiet ((go_at_call 13; refine Calls.quiet_of_same (num_q _ _)))
            go_wp2
            go_roundw
            case rel => exact ⟨i + 1, by omega, by go_num, by simp [ahead, hx], hRA.drewN _, below_drewN hb7 _, (hw.below hb7 (Nat.le_refl _)).drewN _⟩
            case measure => simp [intOf]; omega
          · have hb6 := (hbd.alloc hbd.size (ftO 0 0)).trans (hb5.mono (by have := hbd.size; simp at this ⊢; omega))
            have hle : w.heap.size ≤ w4.heap.size := hbd.size
            have hb7 := (hb6.setCell (p := ⟨w4.heap.size, 0, none⟩) hle (.int .i64 0)).setCell (p := ⟨w4.heap.size, 1, none⟩) hle (.int .i64 0)
            have hsame : ((w5.setCell ⟨w4.heap.size, 0, none⟩ (.int .i64 0)).setCell ⟨w4.heap.size, 1, none⟩ (.int .i64 0)).heap[w4.heap.size]? = some (ftO 0 0) := by simp [World.setCell, Array.getElem?_modify, r5]
            obtain ⟨s0, s1⟩ := pl_two hsame
            have hR9 := hR5.set2 w4.heap.size (by have := hR5.lo; simp at this; omega) (.int .i64 0) (.int .i64 0)
            clear p0 p1 q0 q1 r5 hR5 hR6 hsame hb6
            generalize ((w5.setCell ⟨w4.heap.size, 0, none⟩ (.int .i64 0)).setCell ⟨w4.heap.size, 1, none⟩ (.int .i64 0)) = W6 at hR7 hb7 s0 s1 hR9 ⊢
            obtain ⟨k0, k1, k2, k3, k4⟩ := hR7.cell i x hx
            obtain ⟨m0, _, _, m3, m4⟩ := hR9.cell 0 t1 rfl
            rw [o2] at m0
            rw [o3] at m3
            rw [o4] at m4
            simp only [Nat.zero_mul, Nat.zero_add] at m0 m3 m4
            go_wp2
            go_quiet ((go_at_call 13; refine Calls.quiet_of_same (num_q _ _)))
            go_wp2
            go_roundw
            case rel => exact ⟨i + 1, by omega, by go_num, by simp [ahead, hx], hR7.drewN _, below_drewN hb7 _, (hw.below hb7 (Nat.le_refl _)).drewN _⟩
            case measure => simp [intOf]; omega
      · obtain rfl : i = l.length := by omega
        have e1 : (0 : Int) < (l.length : Int) := by omega
        have e2 : ((s.size : Int) == s.size) = true := by rw [beq_iff_eq]
        rw [hend]
        go_wp2_with fail
        refine (knows_any _ hwr).mono ?_
        rintro e w2 ⟨rfl, hb2⟩
        go_wp2
        go_ret
        exact ⟨rfl, hbr.trans (hb2.mono hbr.size)⟩
end Go.Proofs.YtipbgohmkpdkbaaDoor
