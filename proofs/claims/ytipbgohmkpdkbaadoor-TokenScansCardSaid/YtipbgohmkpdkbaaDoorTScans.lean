/-
  Layer 2: the law TokenScans, walked.
-/
import Derived.Test.YtipbgohmkpdkbaaDoorSame
import Derived.Deep.RegionHeld3
namespace Go.Proofs.YtipbgohmkpdkbaaDoor
set_option linter.unusedVariables false
open Go.ChangeShapes Go.WideShapes Go.ChangeAt Go.RowKit

theorem rscan_yes {s : ByteArray} {l : List Tk} (hs : s.size ≤ 1000000) (h : scanR s = .inl l) (hl : l ≠ []) (w : World) :
    Calls Tryd.prog 11 #[.string s] w fun e w' => ∃ g cap, e = .returned (.tuple #[.slice (some ⟨g, 0, none⟩) l.length cap, .agg #[.int .i64 0, .int .i64 0]]) ∧ l.length ≤ cap ∧ cap ≤ maxLen ∧ TkRows w' w.heap.size g l ∧ Below w.heap.size w w' := by
  have hc := rscan_any s hs w
  rw [h] at hc
  refine hc.mono ?_
  rintro e w' ⟨v, rfl, hr, hb⟩
  simp only [Sum.elim_inl] at hr ⊢
  obtain ⟨hlen, ⟨hv, h0⟩ | ⟨g, cap, cur, rfl, hg, hcur, h1, h2, h3, h4⟩⟩ := hr
  · exact absurd (List.length_eq_zero_iff.1 h0) hl
  · refine ⟨g, cap, rfl, h1, h2, ⟨hg, lt_heap hcur, fun i t ht => ?_⟩, hb⟩
    have hi : i < l.length := by
      rcases Nat.lt_or_ge i l.length with q | q
      · exact q
      · rw [List.getElem?_eq_none q] at ht; cases ht
    have hat : ∀ j u, j < l.length * 5 → (rowL l)[j]? = some u → w'.cell? ⟨g, j, none⟩ = some u := fun j u hj hu => by
      rw [← h4, List.getElem?_take_of_lt hj] at hu
      rw [cell_of_row w' g j _ _ _ hcur]
      simpa using hu
    obtain ⟨a, b, c, d, f⟩ := rowL_at l i t ht
    exact ⟨hat _ _ (by omega) a, hat _ _ (by omega) b, hat _ _ (by omega) c, hat _ _ (by omega) d, hat _ _ (by omega) f⟩
theorem rscan_no {s : ByteArray} {p : Nat × Int} (hs : s.size ≤ 1000000) (h : scanR s = .inr p) (w : World) :
    Calls Tryd.prog 11 #[.string s] w fun e w' => ∃ ao cap, e = .returned (.tuple #[.slice ao 0 cap, .agg #[.int .i64 p.1, .int .i64 p.2]]) ∧ Below w.heap.size w w' := by
  have hc := rscan_any s hs w
  rw [h] at hc
  refine hc.mono ?_
  rintro e w' ⟨v, rfl, hr, hb⟩
  simp only [Sum.elim_inr] at hr ⊢
  obtain ⟨hlen, ⟨rfl, h0⟩ | ⟨g, cap, cur, rfl, hg, hcur, h1, h2, h3, h4⟩⟩ := hr
  · exact ⟨_, _, rfl, hb⟩
  · exact ⟨_, _, rfl, hb⟩


theorem scanR_small (s : ByteArray) (hs : s.size ≤ 3000) : scanR s = scanP s := by
  unfold scanR
  rw [if_neg (by omega), scanP_small s (by omega)]
  exact rsc_scan s _ 0 0 (Nat.zero_le _) (by omega) (by omega) (fun _ _ => .inl rfl)
/-- the cells of a row of two, in a world that is below -/
theorem two_below {w w' : World} {g : Nat} {a b : Value} {t : TypeId} (h : w.heap[g]? = some (.cells #[a, b] t (0, 0))) (hb : Below w.heap.size w w') : w'.heap[g]? = some (.cells #[a, b] t (0, 0)) := (hb.block _ (lt_heap h)).trans h

set_option maxHeartbeats 4000000 in
set_option maxRecDepth 100000 in
theorem scans_any (s : ByteArray) (hs : s.size ≤ maxLen) (w : World) (hw : RangeOk w) :
    Calls Tryd.prog 3 #[.string s] w fun e w' => e = .returned (.bool true) ∧ Below w.heap.size w w' := by
  by_cases hbig : 3000 < s.size
  · have q : (3000 : Int) < s.size := by omega
    go_enter Tryd.func3, Tryd.ntmps3
    go_wp2_with fail
    refine (knows_any _ hw).mono ?_
    rintro e w' ⟨rfl, hb⟩
    go_wp2
    go_ret
    exact ⟨rfl, hb⟩
  have q : ¬ (3000 : Int) < s.size := by omega
  have hRP := scanR_small s (by omega)
  cases hsc : scanP s with
  | inr p =>
    have HS := Lib.hid fun w hw => scan_no (by omega) hsc w hw
    have HR := Lib.hid fun w => rscan_no (by omega) (hRP.trans hsc) w
    clear hsc hRP
    obtain ⟨p1, p2⟩ := p
    go_enter Tryd.func3, Tryd.ntmps3
    go_wp2_with fail
    refine (HS.out _ hw).mono ?_
    rintro e w1 ⟨ao, cap, rfl, hb1⟩
    have hf1 := heap_alloc_new w1 (ftO p1 p2)
    have hb1' := hb1.alloc hb1.size (ftO p1 p2)
    go_wp2_with fail
    refine (HR.out _).mono ?_
    rintro e w3 ⟨ao2, cap2, rfl, hb3⟩
    have hf3 := two_below hf1 hb3
    have hb3' := hb1'.trans (hb3.mono hb1'.size)
    have hg4 := heap_alloc_new w3 (rFt p1 p2)
    have hf4 : (w3.alloc (rFt p1 p2)).heap[w1.heap.size]? = some (ftO p1 p2) := (Below.heap_alloc _ _ _ (lt_heap hf3)).trans hf3
    have hb4 := hb3'.alloc hb3'.size (rFt p1 p2)
    go_wp2
    obtain ⟨W, eW⟩ : ∃ W, W = w3.alloc (rFt p1 p2) := ⟨_, rfl⟩
    rw [← eW] at hg4 hf4 hb4 ⊢
    clear hf1 hf3 hb3 eW
    generalize w1.heap.size = N1 at hf4 ⊢
    generalize w3.heap.size = N2 at hg4 ⊢
    have hfd : W.drew.heap[N1]? = some (ftO p1 p2) := hf4
    have hgd : W.drew.heap[N2]? = some (rFt p1 p2) := hg4
    have hwd := hw.below hb4.drew (Nat.le_refl _)
    have x0 := two_cells hfd
    have x1 := two_cells hgd
    go_region_held3 (fun V => (V.cell? ⟨N1, 0, none⟩ = some (.int .i64 p1) ∧ V.cell? ⟨N1, 1, none⟩ = some (.int .i64 p2)) ∧ (V.cell? ⟨N2, 0, none⟩ = some (.int .i64 p1) ∧ V.cell? ⟨N2, 1, none⟩ = some (.int .i64 p2)))
      (first | exact ⟨two_cells (two_below (two_below hfd hb5) hb6), two_cells (two_below (two_below hgd hb5) hb6)⟩ | exact ⟨two_cells (two_below hfd hb5), two_cells (two_below hgd hb5)⟩ | exact ⟨x0, x1⟩ | go_keep)
      ((first
        | (go_at_call 12
           refine (same_nil _ _ _ _ _).mono ?_
           rintro e w5 ⟨rfl, hb5⟩)
        | (go_at_call 13
           refine (num_any _ _).mono ?_
           rintro e w' ⟨rfl, rfl⟩)
        | (go_at_call 9
           refine (knows_any _ (hwd.below hb5 (Nat.le_refl _))).mono ?_
           rintro e w6 ⟨rfl, hb6⟩)))
    go_wp2
    go_ret
    exact ⟨rfl, (hb4.drew.trans (hb5.mono hb4.drew.size)).trans (hb6.mono (hb4.drew.trans (hb5.mono hb4.drew.size)).size)⟩
  | inl l =>
    obtain ⟨hSc, hpos⟩ := scan_len (by omega) hsc
    have hne : l ≠ [] := (sc_begin hSc).2
    have hlen := sc_size hSc
    have HS := Lib.hid fun w hw => scan_yes (by omega) hsc hne w hw
    have HR := Lib.hid fun w => rscan_yes (by omega) (hRP.trans hsc) hne w
    clear hsc hRP hSc
    go_enter Tryd.func3, Tryd.ntmps3
    go_wp2_with fail
    refine (HS.out _ hw).mono ?_
    rintro e w1 ⟨g, cap, rfl, hcap, hmax, hA, hb1⟩
    have hf1 := heap_alloc_new w1 (ftO 0 0)
    have hb1' := hb1.alloc hb1.size (ftO 0 0)
    have hA1 := hA.alloc (ftO 0 0)
    go_wp2_with fail
    refine (HR.out _).mono ?_
    rintro e w3 ⟨g2, cap2, rfl, hcap2, hmax2, hB, hb3⟩
    have hf3 := two_below hf1 hb3
    have hb3' := hb1'.trans (hb3.mono hb1'.size)
    have hg4 := heap_alloc_new w3 (rFt 0 0)
    have hf4 : (w3.alloc (rFt 0 0)).heap[w1.heap.size]? = some (ftO 0 0) := (Below.heap_alloc _ _ _ (lt_heap hf3)).trans hf3
    have hb4 := hb3'.alloc hb3'.size (rFt 0 0)
    have hA4 := (hA1.below hb3).alloc (rFt 0 0)
    have hB4 := hB.alloc (rFt 0 0)
    go_wp2
    obtain ⟨W, eW⟩ : ∃ W, W = w3.alloc (rFt 0 0) := ⟨_, rfl⟩
    rw [← eW] at hg4 hf4 hb4 hA4 hB4 ⊢
    clear hf1 hf3 hb3 eW hA hA1 hB
    generalize w1.heap.size = N1 at hf4 ⊢
    generalize w3.heap.size = N2 at hg4 ⊢
    have hfd : W.drew.heap[N1]? = some (ftO 0 0) := hf4
    have hgd : W.drew.heap[N2]? = some (rFt 0 0) := hg4
    have hwd := hw.below hb4.drew (Nat.le_refl _)
    have x0 := two_cells hfd
    have x1 := two_cells hgd
    go_region_held3 (fun V => (V.cell? ⟨N1, 0, none⟩ = some (.int .i64 0) ∧ V.cell? ⟨N1, 1, none⟩ = some (.int .i64 0)) ∧ (V.cell? ⟨N2, 0, none⟩ = some (.int .i64 0) ∧ V.cell? ⟨N2, 1, none⟩ = some (.int .i64 0)))
      (first | exact ⟨two_cells (two_below (two_below hfd hb5) hb6), two_cells (two_below (two_below hgd hb5) hb6)⟩ | exact ⟨two_cells (two_below hfd hb5), two_cells (two_below hgd hb5)⟩ | exact ⟨x0, x1⟩ | go_keep)
      ((first
        | (go_at_call 12
           refine (same_any l g g2 _ _ cap cap2 hcap hmax hcap2 hmax2 (by omega) _ hA4.drew hB4.drew).mono ?_
           rintro e w5 ⟨rfl, hb5⟩)
        | (go_at_call 13
           refine (num_any _ _).mono ?_
           rintro e w' ⟨rfl, rfl⟩)
        | (go_at_call 9
           refine (knows_any _ (hwd.below hb5 (Nat.le_refl _))).mono ?_
           rintro e w6 ⟨rfl, hb6⟩)))
    go_wp2
    go_ret
    exact ⟨rfl, (hb4.drew.trans (hb5.mono hb4.drew.size)).trans (hb6.mono (hb4.drew.trans (hb5.mono hb4.drew.size)).size)⟩
end Go.Proofs.YtipbgohmkpdkbaaDoor
