/- Texts of this proof, joined: RHead, RAll, RNil, RPlain, Count. No condition. -/
import Derived.Test.YtdiffpiapdghoaaGreatDoorSa04
import Derived.Test.YtdiffpiapdghoaaGreatDoorSa17
import Derived.Test.YtdiffpiapdghoaaGreatDoorSa09
/-
  Layer 3, the program's side: RightExpr of the constants' trees (names, numbers, calls).
-/
namespace Go.Proofs.YtdiffpiapdghoaaGreatDoor
set_option linter.unusedVariables false
open Go.ChangeShapes Go.WideShapes Go.ChangeAt Go.RowKit

set_option maxHeartbeats 1600000 in
set_option maxRecDepth 100000 in
theorem rhead_int (p m : Int) (hm : 0 ≤ m) (P : Nat → Prop) (E : Addr) (w : World) (h : IsEx w P E (.mk 3 p ⟨#[]⟩ m [] [] [] [])) :
    Calls Tryz.prog 64 #[.pointer (some E)] w fun e w' => e = .returned (.bool true) ∧ Below w.heap.size w w' := by
  obtain ⟨c0, _, c2, _, c3, ⟨a4, b4, c4, _, m4, x4⟩, ⟨a5, b5, c5, _, m5, x5⟩, ⟨a6, b6, c6, _, m6, x6⟩, ⟨a7, b7, c7, _, m7, x7⟩⟩ := h.cells
  clear h x4 x5 x6 x7
  go_enter Tryz.func64, Tryz.ntmps64
  go_wp2
  go_quiet (fail)
  go_wp2
  go_quiet (fail)
  go_wp2
  try (go_quiet (fail))
  go_ret
  exact ⟨rfl, by first | exact Below.refl _ _ | exact drew_below w _ | exact (drew_below w _).trans (drew_below _ _)⟩

set_option maxHeartbeats 1600000 in
set_option maxRecDepth 100000 in
theorem rhead_call (p : Int) (x y : Ex) (P : Nat → Prop) (E : Addr) (w : World) (h : IsEx w P E (.mk 6 p ⟨#[]⟩ 0 [x, y] [] [] [])) :
    Calls Tryz.prog 64 #[.pointer (some E)] w fun e w' => e = .returned (.bool true) ∧ Below w.heap.size w w' := by
  obtain ⟨c0, _, c2, _, c3, ⟨a4, b4, c4, _, m4, x4⟩, ⟨a5, b5, c5, _, m5, x5⟩, ⟨a6, b6, c6, _, m6, x6⟩, ⟨a7, b7, c7, _, m7, x7⟩⟩ := h.cells
  clear h x4 x5 x6 x7
  go_enter Tryz.func64, Tryz.ntmps64
  go_wp2
  go_quiet (fail)
  go_wp2
  go_quiet (fail)
  go_wp2
  try (go_quiet (fail))
  go_ret
  exact ⟨rfl, by first | exact Below.refl _ _ | exact drew_below w _ | exact (drew_below w _).trans (drew_below _ _)⟩

set_option maxHeartbeats 1600000 in
set_option maxRecDepth 100000 in
theorem rhead_name (p : Int) (n : ByteArray) (hn : nameB n = true) (P : Nat → Prop) (E : Addr) (w : World) (h : IsEx w P E (.mk 1 p n 0 [] [] [] [])) :
    Calls Tryz.prog 64 #[.pointer (some E)] w fun e w' => e = .returned (.bool true) ∧ Below w.heap.size w w' := by
  obtain ⟨c0, _, c2, _, c3, ⟨a4, b4, c4, _, m4, x4⟩, ⟨a5, b5, c5, _, m5, x5⟩, ⟨a6, b6, c6, _, m6, x6⟩, ⟨a7, b7, c7, _, m7, x7⟩⟩ := h.cells
  have hs : n.size ≤ 1000000 := by
    unfold nameB wordB at hn
    simp only [Bool.and_eq_true, decide_eq_true_eq] at hn
    omega
  have HN := Lib.hid hn
  clear h x4 x5 x6 x7 hn
  go_enter Tryz.func64, Tryz.ntmps64
  go_wp2_with fail
  go_quiet (fail)
  go_wp2_with fail
  go_quiet (fail)
  go_wp2_with fail
  refine (pisname_any n hs _).mono ?_
  rw [HN.out]
  rintro e w' ⟨rfl, rfl⟩
  go_wp2
  go_ret
  exact ⟨rfl, by first | exact Below.refl _ _ | exact drew_below w _ | exact (drew_below w _).trans (drew_below _ _)⟩
end Go.Proofs.YtdiffpiapdghoaaGreatDoor
/-
  Layer 3, the program's side: all, over expressions, by rightExpr's closure.
-/
namespace Go.Proofs.YtdiffpiapdghoaaGreatDoor
set_option linter.unusedVariables false
open Go.ChangeShapes Go.WideShapes Go.ChangeAt Go.RowKit

/-- rightExpr says so of this tree on this level -/
def RightE (lev : Int) (t : Ex) (b : Bool) : Prop := ∀ (P : Nat → Prop) (a : Addr) (w : World), IsEx w P a t →
  Calls Tryz.prog 39 #[.pointer (some a), .int .i64 lev] w fun e w' => e = .returned (.bool b) ∧ Below w.heap.size w w'
set_option maxHeartbeats 800000 in
theorem clo_right (c : Addr) (lev : Int) (h0 : 0 ≤ lev) (h1 : lev ≤ 1000) (t : Ex) (b : Bool) (ht : RightE (lev + 1) t b) (P : Nat → Prop) (a : Addr) (w : World) (ha : IsEx w P a t) (hc : w.cell? c = some (.int .i64 lev)) :
    Calls Tryz.prog 66 #[.pointer (some a), .pointer (some c)] w fun e w' => e = .returned (.bool b) ∧ Below w.heap.size w w' := by
  have H := Lib.hid (ht P a w ha)
  clear ht ha
  go_enter Tryz.func66, Tryz.ntmps66
  go_wp2_with fail
  refine H.out.mono ?_
  rintro e w' ⟨rfl, hb⟩
  go_wp2
  go_ret
  exact ⟨rfl, hb⟩
theorem all_step {α : Type} {l : List α} {ok : α → Bool} (h : ∀ (j : Nat) (t : α), l[j]? = some t → ok t = true) : l.all ok = true := by
  rw [List.all_eq_true]
  intro t ht
  obtain ⟨k, hk⟩ := List.getElem?_of_mem ht
  exact h k t hk
theorem all_not {α : Type} {l : List α} {ok : α → Bool} {j : Nat} {t : α} (h : l[j]? = some t) (hb : ok t = false) : l.all ok = false := by
  rw [List.all_eq_false]
  exact ⟨t, List.mem_of_getElem? h, by simp [hb]⟩
set_option maxHeartbeats 800000 in
set_option maxRecDepth 100000 in
theorem allE (c : Addr) (lev : Int) (h0 : 0 ≤ lev) (h1 : lev ≤ 1000) (ok : Ex → Bool) (l : List Ex) (hall : ∀ (k : Nat) (t : Ex), l[k]? = some t → RightE (lev + 1) t (ok t)) (P : Nat → Prop) (v : Value) (w : World) (hs : IsExs w P v l) (hc : w.cell? c = some (.int .i64 lev)) (hcb : c.block < w.heap.size) :
    Calls Tryz.prog 65 #[v, .func (.func 66) #[] #[.pointer (some c)]] w fun e w' => e = .returned (.bool (l.all ok)) ∧ Below w.heap.size w w' := by
  obtain ⟨ao, cap, rfl, v1, v2⟩ := hs.form
  have HI := Lib.hid hall
  have HS1 := Lib.hid hs
  have HC := Lib.hid (And.intro hc hcb)
  have hlm : (l.length : Int) ≤ 9223372036854775807 := by unfold maxLen at v2; omega
  clear hall hs hc hcb
  go_enter Tryz.func65, Tryz.ntmps65
  go_wp2
  go_loopw [8] (fun iv wr => ∃ k : Nat, k ≤ l.length ∧ iv = .int .i64 k ∧ Hid (∀ (j : Nat) (t : Ex), j < k → l[j]? = some t → ok t = true) ∧ Below w.heap.size w wr) (fun iv _ => l.length - (intOf iv).toNat)
  case atStart => exact ⟨0, Nat.zero_le _, rfl, Lib.hid (fun j t hj => by omega), Below.refl _ _⟩
  case round =>
    obtain ⟨i, hi, rfl, H, hbw⟩ := hrel
    by_cases hlt : i < l.length
    · have i1 : (i : Int) < l.length := by omega
      obtain ⟨x, hx⟩ : ∃ x, l[i]? = some x := ⟨l[i], List.getElem?_eq_getElem hlt⟩
      obtain ⟨a, rfl, _, hrow⟩ := HS1.out.at hx
      have HR := Lib.hid (hrow.on hbw)
      have HX := Lib.hid hx
      have hcw : wr.cell? c = some (.int .i64 lev) := by rw [← HC.out.1]; exact World.cell?_of_block (hbw.block _ HC.out.2)
      have HQ := Lib.hid (clo_right c lev h0 h1 x (ok x) (HI.out i x hx) P _ wr HR.out hcw)
      clear hrow hx hcw
      go_wp2_with fail
      refine HQ.out.mono ?_
      rintro e w3 ⟨rfl, hb3⟩
      have hbw3 := hbw.trans (hb3.mono hbw.size)
      by_cases hr : ok x = true
      · rw [hr]
        have HN : Hid (∀ (j : Nat) (t : Ex), j < i + 1 → l[j]? = some t → ok t = true) := Lib.hid (fun j t hj h1 => by
          by_cases hji : j = i
          · subst hji
            rw [HX.out] at h1
            cases h1; exact hr
          · exact H.out j t (by omega) h1)
        clear hr
        go_wp2
        go_roundw
        case rel => exact ⟨i + 1, by omega, by go_num, HN, hbw3⟩
        case measure => simp [intOf]; omega
      · have hr : ok x = false := by simpa using hr
        rw [hr]
        have HF := Lib.hid (all_not HX.out hr)
        clear hr
        go_wp2
        go_ret
        exact ⟨by rw [HF.out]; rfl, hbw3⟩
    · have i1 : ¬ (i : Int) < l.length := by omega
      have HT := Lib.hid (all_step (l := l) (ok := ok) (fun j t ht => H.out j t (by have := (List.getElem?_eq_some_iff.1 ht).1; omega) ht))
      go_wp2
      go_ret
      exact ⟨by rw [HT.out]; rfl, hbw⟩
end Go.Proofs.YtdiffpiapdghoaaGreatDoor
/-
  Layer 3, the program's side: rightExpr of trees without patterns, ways, declarations.
-/
namespace Go.Proofs.YtdiffpiapdghoaaGreatDoor
set_option linter.unusedVariables false
open Go.ChangeShapes Go.WideShapes Go.ChangeAt Go.RowKit

set_option maxHeartbeats 800000 in
theorem rpats_nil (ao : Option Addr) (cap : Nat) (w : World) :
    Calls Tryz.prog 67 #[.slice ao ([] : List Pa).length cap] w fun e w' => e = .returned (.bool true) ∧ Below w.heap.size w w' := by
  go_enter Tryz.func67, Tryz.ntmps67
  go_wp2_with fail
  have hA : Calls Tryz.prog 61 #[.slice ao ([] : List Pa).length cap, .func (.func 103) #[] #[]] w fun e w' => e = .returned (.bool true) ∧ Below w.heap.size w w' := by
    go_enter Tryz.func61, Tryz.ntmps61
    go_wp2
    go_loopw [8] (fun iv wr => iv = .int .i64 0 ∧ Below w.heap.size w wr) (fun iv _ => 0)
    case atStart => exact ⟨rfl, Below.refl _ _⟩
    case round =>
      obtain ⟨rfl, hbw⟩ := hrel
      go_wp2
      go_ret
      exact ⟨rfl, hbw⟩
  refine hA.mono ?_
  rintro e w' ⟨rfl, hb⟩
  go_wp2
  go_ret
  exact ⟨rfl, hb⟩
set_option maxHeartbeats 800000 in
theorem rals_nil (c : Addr) (ao : Option Addr) (cap : Nat) (w : World) :
    Calls Tryz.prog 68 #[.slice ao ([] : List Al).length cap, .func (.func 69) #[] #[.pointer (some c)]] w fun e w' => e = .returned (.bool true) ∧ Below w.heap.size w w' := by
  go_enter Tryz.func68, Tryz.ntmps68
  go_wp2
  go_loopw [8] (fun iv wr => iv = .int .i64 0 ∧ Below w.heap.size w wr) (fun iv _ => 0)
  case atStart => exact ⟨rfl, Below.refl _ _⟩
  case round =>
    obtain ⟨rfl, hbw⟩ := hrel
    go_wp2
    go_ret
    exact ⟨rfl, hbw⟩
set_option maxHeartbeats 800000 in
theorem rdes_nil (ao : Option Addr) (cap : Nat) (top : Bool) (lev : Int) (w : World) :
    Calls Tryz.prog 41 #[.slice ao ([] : List De).length cap, .bool top, .int .i64 lev] w fun e w' => e = .returned (.bool true) ∧ Below w.heap.size w w' := by
  have hA : ∀ (c d : Addr) (W : World), Calls Tryz.prog 73 #[.slice ao ([] : List De).length cap, .func (.func 74) #[] #[.pointer (some c), .pointer (some d)]] W fun e w' => e = .returned (.bool true) ∧ Below W.heap.size W w' := by
    intro c d W
    go_enter Tryz.func73, Tryz.ntmps73
    go_wp2
    go_loopw [8] (fun iv wr => iv = .int .i64 0 ∧ Below W.heap.size W wr) (fun iv _ => 0)
    case atStart => exact ⟨rfl, Below.refl _ _⟩
    case round =>
      obtain ⟨rfl, hbw⟩ := hrel
      go_wp2
      go_ret
      exact ⟨rfl, hbw⟩
  have hA := Lib.hid hA
  go_enter Tryz.func41, Tryz.ntmps41
  go_wp2_with fail
  refine (hA.out _ _ _).mono ?_
  rintro e w' ⟨rfl, hb⟩
  go_wp2
  go_ret
  exact ⟨rfl, Below.trans (bl_alloc _ (bl_alloc _ (Below.refl _ _))) (hb.mono (bl_alloc _ (bl_alloc _ (Below.refl _ _))).size)⟩
end Go.Proofs.YtdiffpiapdghoaaGreatDoor
/-
  Layer 3, the program's side: rightExpr of trees without patterns, ways, declarations.
-/
namespace Go.Proofs.YtdiffpiapdghoaaGreatDoor
set_option linter.unusedVariables false
open Go.ChangeShapes Go.WideShapes Go.ChangeAt Go.RowKit

theorem bel_cell {w w' : World} (h : Below w.heap.size w w') {a : Addr} {v : Value} (hc : w.cell? a = some v) : w'.cell? a = some v := by
  rw [h.cell (World.block_lt_of_cell? w a hc)]
  exact hc
/-- its head may be -/
def HeadR (t : Ex) : Prop := ∀ (P : Nat → Prop) (E : Addr) (w : World), IsEx w P E t → Calls Tryz.prog 64 #[.pointer (some E)] w fun e w' => e = .returned (.bool true) ∧ Below w.heap.size w w'
set_option maxHeartbeats 3200000 in
set_option maxRecDepth 100000 in
theorem right_plain (k p m : Int) (n : ByteArray) (l : List Ex) (lev : Int) (h0 : 1 ≤ lev) (h1 : lev ≤ 400) (hh : HeadR (.mk k p n m l [] [] [])) (hall : ∀ (k : Nat) (t : Ex), l[k]? = some t → RightE (lev + 1) t true) : RightE lev (.mk k p n m l [] [] []) true := by
  intro P a w h
  have hb1 : Below w.heap.size w (w.alloc (.cells #[.int .i64 lev] 3)) := bl_alloc _ (Below.refl _ _)
  have hI := h.on hb1
  have hc : (w.alloc (.cells #[.int .i64 lev] 3)).cell? ⟨w.heap.size, 0, none⟩ = some (.int .i64 lev) := by rw [Lib.cell_of_heap (heap_alloc_new _ _)]; rfl
  have hsz : w.heap.size < (w.alloc (.cells #[.int .i64 lev] 3)).heap.size := by simp
  go_enter Tryz.func39, Tryz.ntmps39
  go_upto_region 1 with fail
  generalize (w.alloc (.cells #[.int .i64 lev] 3)) = w1 at hb1 hI hc hsz ⊢
  have q1 : ¬ (400 : Int) < lev := by omega
  have HH := Lib.hid (hh P a w1 hI)
  have HI := Lib.hid hI
  have HA := Lib.hid hall
  have HB := Lib.hid (And.intro hb1 hsz)
  clear h hI hh hall hb1 hsz
  go_wp2_with fail
  refine HH.out.mono ?_
  rintro e w2 ⟨rfl, hw2⟩
  obtain ⟨_, _, _, _, _, ⟨a4, b4, c4, _, m4, x4⟩, ⟨a5, b5, c5, _, m5, x5⟩, ⟨a6, b6, c6, _, m6, x6⟩, ⟨a7, b7, c7, _, m7, x7⟩⟩ := (HI.out.on hw2).cells
  have d1 : w2.cell? ⟨w.heap.size, 0, none⟩ = some (.int .i64 lev) := bel_cell hw2 hc
  have X4 := Lib.hid x4
  clear hc x4 x5 x6 x7
  go_wp2
  have hd : Below w2.heap.size w2 w2.drew := (Below.refl _ _).drew
  refine wp_region_plan [(5, 2), (4, 3), (5, 3), (6, 3)] (by kernel_rfl) (by kernel_rfl) ?_
  change Wrapped (wpPlan _ _ _ _ _ _ w2.drew)
  have hw3 : Below w1.heap.size w1 w2.drew := hw2.trans (hd.mono hw2.size)
  generalize w2.drew = w3 at hd hw3 ⊢
  have hd3 := hw3.size
  have c4 := bel_cell hd c4
  have c5 := bel_cell hd c5
  have c6 := bel_cell hd c6
  have c7 := bel_cell hd c7
  have d1 := bel_cell hd d1
  refine plan_step ?_
  simp only [List.take_succ_cons, List.take_zero, List.drop_succ_cons, List.drop_zero, Nat.reduceAdd]
  repeat (refine wst_step (fun K hK => ?_); go_simp; refine hK _ ?_; clear hK K)
  refine wst_nil ?_
  intro K hK
  have HK := Lib.hid hK
  clear hK
  go_wp2_with fail
  refine (allE _ lev (by omega) (by omega) (fun _ => true) l HA.out P _ w3 (X4.out.on hd) d1 (Nat.lt_of_lt_of_le HB.out.2 hd3)).mono ?_
  rw [show l.all (fun _ => true) = true by simp]
  rintro e w4 ⟨rfl, hw4⟩
  have hs4 := hw4.size
  have c5 := bel_cell hw4 c5
  have c6 := bel_cell hw4 c6
  have c7 := bel_cell hw4 c7
  have d1 := bel_cell hw4 d1
  go_wp2
  refine HK.out _ _ ?_
  clear HK K
  refine plan_step ?_
  simp only [List.take_succ_cons, List.take_zero, List.drop_succ_cons, List.drop_zero, Nat.reduceAdd]
  repeat (refine wst_step (fun K hK => ?_); go_simp; refine hK _ ?_; clear hK K)
  refine wst_nil ?_
  intro K hK
  have HK := Lib.hid hK
  clear hK
  go_wp2_with fail
  refine (rpats_nil _ _ _).mono ?_
  rintro e w5 ⟨rfl, hw5⟩
  have hs5 := hw5.size
  have c5 := bel_cell hw5 c5
  have c6 := bel_cell hw5 c6
  have c7 := bel_cell hw5 c7
  have d1 := bel_cell hw5 d1
  go_wp2
  refine HK.out _ _ ?_
  clear HK K
  refine plan_step ?_
  simp only [List.take_succ_cons, List.take_zero, List.drop_succ_cons, List.drop_zero, Nat.reduceAdd]
  repeat (refine wst_step (fun K hK => ?_); go_simp; refine hK _ ?_; clear hK K)
  refine wst_nil ?_
  intro K hK
  have HK := Lib.hid hK
  clear hK
  go_wp2_with fail
  refine (rals_nil _ _ _ _).mono ?_
  rintro e w6 ⟨rfl, hw6⟩
  have hs6 := hw6.size
  have c5 := bel_cell hw6 c5
  have c6 := bel_cell hw6 c6
  have c7 := bel_cell hw6 c7
  have d1 := bel_cell hw6 d1
  go_wp2
  refine HK.out _ _ ?_
  clear HK K
  refine plan_step ?_
  simp only [List.take_succ_cons, List.take_zero, List.drop_succ_cons, List.drop_zero, Nat.reduceAdd]
  repeat (refine wst_step (fun K hK => ?_); go_simp; refine hK _ ?_; clear hK K)
  refine wst_nil ?_
  intro K hK
  have HK := Lib.hid hK
  clear hK
  go_wp2_with fail
  refine (rdes_nil _ _ _ _ _).mono ?_
  rintro e w7 ⟨rfl, hw7⟩
  have hs7 := hw7.size
  go_wp2
  refine HK.out _ _ ?_
  clear HK K
  refine plan_end ?_
  go_wp2
  go_ret
  have f4 := hw3.trans (hw4.mono hd3)
  have f5 := f4.trans (hw5.mono f4.size)
  have f6 := f5.trans (hw6.mono f5.size)
  have f7 := f6.trans (hw7.mono f6.size)
  exact ⟨rfl, HB.out.1.trans (f7.mono HB.out.1.size)⟩
end Go.Proofs.YtdiffpiapdghoaaGreatDoor
/-
  Layer 3, the program's side: Size, Deep of trees of fewer than four hundred parts (nothing is put off).
-/
namespace Go.Proofs.YtdiffpiapdghoaaGreatDoor
set_option linter.unusedVariables false
open Go.ChangeShapes Go.WideShapes Go.ChangeAt Go.RowKit

-- how many expressions; the greatest level, from a level on, beside one so far
mutual
def Ex.sz : Ex → Nat
  | .mk _ _ _ _ l _ al ds => Ex.szs l + Al.szs al + De.szs ds + 1
def Ex.szs : List Ex → Nat
  | [] => 0
  | t :: r => t.sz + Ex.szs r
def Al.szs : List Al → Nat
  | [] => 0
  | .mk _ e :: r => e.sz + Al.szs r
def De.szs : List De → Nat
  | [] => 0
  | .mk k _ _ _ _ _ _ e :: r => (if k = 3 then e.sz else 0) + De.szs r
end
mutual
def Ex.dm : Ex → Int → Int → Int
  | .mk _ _ _ _ l _ al ds, lev, d => De.dms ds (lev + 1) (Al.dms al (lev + 1) (Ex.dms l (lev + 1) (max d lev)))
def Ex.dms : List Ex → Int → Int → Int
  | [], _, d => d
  | t :: r, lev, d => Ex.dms r lev (t.dm lev d)
def Al.dms : List Al → Int → Int → Int
  | [], _, d => d
  | .mk _ e :: r, lev, d => Al.dms r lev (e.dm lev d)
def De.dms : List De → Int → Int → Int
  | [], _, d => d
  | .mk k _ _ _ _ _ _ e :: r, lev, d => De.dms r lev (if k = 3 then e.dm lev d else d)
end
mutual
theorem Ex.sz_nd : ∀ t : Ex, t.sz ≤ t.nd
  | .mk _ _ _ _ l ps al ds => by
    unfold Ex.sz Ex.nd
    have := Ex.szs_nds l
    have := Al.szs_nds al
    have := De.szs_nds ds
    omega
theorem Ex.szs_nds : ∀ l : List Ex, Ex.szs l ≤ Ex.nds l
  | [] => Nat.zero_le _
  | t :: r => by unfold Ex.szs Ex.nds; have := Ex.sz_nd t; have := Ex.szs_nds r; omega
theorem Al.szs_nds : ∀ l : List Al, Al.szs l ≤ Al.nds l
  | [] => Nat.zero_le _
  | .mk p e :: r => by unfold Al.szs Al.nds Al.nd; have := Ex.sz_nd e; have := Al.szs_nds r; omega
theorem De.szs_nds : ∀ l : List De, De.szs l ≤ De.nds l
  | [] => Nat.zero_le _
  | .mk k p n vs cs t ps e :: r => by unfold De.szs De.nds De.nd; have := Ex.sz_nd e; have := De.szs_nds r; split <;> omega
end
theorem Ex.szs_at : ∀ (l : List Ex) (k : Nat) (t : Ex), l[k]? = some t → ∀ lev d, Ex.szs (l.take (k + 1)) = Ex.szs (l.take k) + t.sz ∧ Ex.dms (l.take (k + 1)) lev d = t.dm lev (Ex.dms (l.take k) lev d)
  | [], k, t, h, lev, d => by simp at h
  | x :: r, 0, t, h, lev, d => by simp at h; subst h; simp [Ex.szs, Ex.dms]
  | x :: r, k + 1, t, h, lev, d => by
    have := Ex.szs_at r k t (by simpa using h) lev (x.dm lev d)
    rw [List.take_succ_cons, List.take_succ_cons]
    unfold Ex.szs Ex.dms
    rw [this.1, this.2]
    exact ⟨by omega, rfl⟩
theorem Al.szs_at : ∀ (l : List Al) (k : Nat) (p : Pa) (e : Ex), l[k]? = some (.mk p e) → ∀ lev d, Al.szs (l.take (k + 1)) = Al.szs (l.take k) + e.sz ∧ Al.dms (l.take (k + 1)) lev d = e.dm lev (Al.dms (l.take k) lev d)
  | [], k, p, e, h, lev, d => by simp at h
  | x :: r, 0, p, e, h, lev, d => by simp at h; subst h; simp [Al.szs, Al.dms]
  | .mk q f :: r, k + 1, p, e, h, lev, d => by
    have := Al.szs_at r k p e (by simpa using h) lev (f.dm lev d)
    rw [List.take_succ_cons, List.take_succ_cons]
    unfold Al.szs Al.dms
    rw [this.1, this.2]
    exact ⟨by omega, rfl⟩
theorem De.szs_at : ∀ (l : List De) (i : Nat) (k p : Int) (n : ByteArray) (vs : List ByteArray) (cs : List Co) (t : Ty) (ps : List Pa) (e : Ex), l[i]? = some (.mk k p n vs cs t ps e) → ∀ lev d, De.szs (l.take (i + 1)) = De.szs (l.take i) + (if k = 3 then e.sz else 0) ∧ De.dms (l.take (i + 1)) lev d = (if k = 3 then e.dm lev (De.dms (l.take i) lev d) else De.dms (l.take i) lev d)
  | [], i, k, p, n, vs, cs, t, ps, e, h, lev, d => by simp at h
  | x :: r, 0, k, p, n, vs, cs, t, ps, e, h, lev, d => by simp at h; subst h; simp [De.szs, De.dms]
  | .mk k' p' n' vs' cs' t' ps' f :: r, i + 1, k, p, n, vs, cs, t, ps, e, h, lev, d => by
    have := De.szs_at r i k p n vs cs t ps e (by simpa using h) lev (if k' = 3 then f.dm lev d else d)
    rw [List.take_succ_cons, List.take_succ_cons]
    unfold De.szs De.dms
    rw [this.1, this.2]
    exact ⟨by omega, rfl⟩
/-- one block alone has changed -/
structure Turned (C : Nat) (cs : Array Value) (T : TypeId) (w w' : World) : Prop where
  at_ : w'.heap[C]? = some (.cells cs T (0, 0))
  other : ∀ j : Nat, j ≠ C → w'.heap[j]? = w.heap[j]?
  rest : w'.heap.size = w.heap.size ∧ w'.os = w.os ∧ w'.tape = w.tape ∧ w'.output = w.output
theorem Turned.trans {C : Nat} {cs cs' : Array Value} {T : TypeId} {w w1 w2 : World} (h : Turned C cs T w w1) (h2 : Turned C cs' T w1 w2) : Turned C cs' T w w2 :=
  ⟨h2.at_, fun j hj => (h2.other j hj).trans (h.other j hj), h2.rest.1.trans h.rest.1, h2.rest.2.1.trans h.rest.2.1, h2.rest.2.2.1.trans h.rest.2.2.1, h2.rest.2.2.2.trans h.rest.2.2.2⟩
theorem Turned.cell {C : Nat} {cs : Array Value} {T : TypeId} {w w' : World} (h : Turned C cs T w w') {A : Addr} (hA : A.block ≠ C) {v : Value} (hv : w.cell? A = some v) : w'.cell? A = some v := by
  rw [← hv]
  exact World.cell?_of_block (h.other A.block hA)
/-- the counter's cells: size, deep, later -/
def cnt (s d : Int) (lv : Value) : Array Value := #[.int .i64 s, .int .i64 d, lv]
/-- an expression is counted -/
def Adds (f : Nat) (e : Ex) (lev : Int) : Prop := ∀ (C : Nat) (a : Addr) (w : World) (s d : Int) (lv : Value), a.block ≠ C → IsEx w (fun b => b ≠ C) a e → w.heap[C]? = some (.cells (cnt s d lv) 113 (0, 0)) → 0 ≤ s → s + e.sz ≤ 1000000 →
  Calls Tryz.prog f #[.pointer (some ⟨C, 0, none⟩), .pointer (some a), .int .i64 lev] w fun e' w' => e' = .returned (.tuple #[]) ∧ Turned C (cnt (s + e.sz) (e.dm lev d) lv) 113 w w'
set_option maxHeartbeats 800000 in
set_option maxRecDepth 100000 in
theorem part_of_add (e : Ex) (lev : Int) (h0 : 1 ≤ lev) (h4 : lev ≤ 399) (ha : Adds 93 e lev) : Adds 109 e lev := by
  intro C a w s d lv hC he hc hs hs2
  have HA := Lib.hid (ha C a w s d lv hC he hc hs hs2)
  have hm : lev % 400 = lev := Int.emod_eq_of_lt (by omega) (by omega)
  have q1 : (lev % 400 == 0) = false := by rw [beq_eq_false_iff_ne, hm]; omega
  clear ha he hc hm
  go_enter Tryz.func109, Tryz.ntmps109
  go_wp2_with fail
  refine HA.out.mono ?_
  rintro e' w' ⟨rfl, hT⟩
  go_wp2
  go_end0
  exact ⟨rfl, hT⟩
end Go.Proofs.YtdiffpiapdghoaaGreatDoor
