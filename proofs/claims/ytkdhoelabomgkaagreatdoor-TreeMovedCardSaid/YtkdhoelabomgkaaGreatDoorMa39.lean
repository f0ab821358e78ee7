/- Texts of this proof, joined: RAll, RNil, RPlain, PRt0, PCon, PHead. No condition. -/
import Derived.Test.YtkdhoelabomgkaaGreatDoorMa38
import Derived.Test.YtkdhoelabomgkaaGreatDoorMa12
import Derived.Test.YtkdhoelabomgkaaGreatDoorMa24
import Derived.Test.YtkdhoelabomgkaaGreatDoorMa32
/-
  Layer 3, the program's side: all, over expressions, by rightExpr's closure.
-/
namespace Go.Proofs.YtkdhoelabomgkaaGreatDoor
set_option linter.unusedVariables false
open Go.ChangeShapes Go.WideShapes Go.ChangeAt Go.RowKit

/-- rightExpr says so of this tree on this level -/
def RightE (lev : Int) (t : Ex) (b : Bool) : Prop := ∀ (P : Nat → Prop) (a : Addr) (w : World), IsEx w P a t →
  Calls Tryz.prog 39 #[.pointer (some a), .int .i64 lev] w fun e w' => e = .returned (.bool b) ∧ Below w.heap.size w w'
set_option maxHeartbeats 800000 in
theorem clo_right (c : Addr) (lev : Int) (h0 : 0 ≤ lev) (h1 : lev ≤ 1000) (t : Ex) (b : Bool) (ht : RightE (lev + 1) t b) (P : Nat → Prop) (a : Addr) (w : World) (ha : IsEx w P a t) (hc : w.cell? c = some (.int .i64 lev)) :
    Calls Tryz.prog 66 #[.pointer (some a), .pointer (some c)] w fun e w' => e = .returned (.bool b) ∧ Below w.heap.size w w' := by
  have H := Lib.hid (ht P a w ha)
  clear ht ha
  go_enter Tryz.func66, Tryz.ntmps66
  go_wp2_with fail
  refine H.out.mono ?_
  rintro e w' ⟨rfl, hb⟩
  go_wp2
  go_ret
  exact ⟨rfl, hb⟩
theorem all_step {α : Type} {l : List α} {ok : α → Bool} (h : ∀ (j : Nat) (t : α), l[j]? = some t → ok t = true) : l.all ok = true := by
  rw [List.all_eq_true]
  intro t ht
  obtain ⟨k, hk⟩ := List.getElem?_of_mem ht
  exact h k t hk
theorem all_not {α : Type} {l : List α} {ok : α → Bool} {j : Nat} {t : α} (h : l[j]? = some t) (hb : ok t = false) : l.all ok = false := by
  rw [List.all_eq_false]
  exact ⟨t, List.mem_of_getElem? h, by simp [hb]⟩
set_option maxHeartbeats 800000 in
set_option maxRecDepth 100000 in
theorem allE (c : Addr) (lev : Int) (h0 : 0 ≤ lev) (h1 : lev ≤ 1000) (ok : Ex → Bool) (l : List Ex) (hall : ∀ (k : Nat) (t : Ex), l[k]? = some t → RightE (lev + 1) t (ok t)) (P : Nat → Prop) (v : Value) (w : World) (hs : IsExs w P v l) (hc : w.cell? c = some (.int .i64 lev)) (hcb : c.block < w.heap.size) :
    Calls Tryz.prog 65 #[v, .func (.func 66) #[] #[.pointer (some c)]] w fun e w' => e = .returned (.bool (l.all ok)) ∧ Below w.heap.size w w' := by
  obtain ⟨ao, cap, rfl, v1, v2⟩ := hs.form
  have HI := Lib.hid hall
  have HS1 := Lib.hid hs
  have HC := Lib.hid (And.intro hc hcb)
  have hlm : (l.length : Int) ≤ 9223372036854775807 := by unfold maxLen at v2; omega
  clear hall hs hc hcb
  go_enter Tryz.func65, Tryz.ntmps65
  go_wp2
  go_loopw [8] (fun iv wr => ∃ k : Nat, k ≤ l.length ∧ iv = .int .i64 k ∧ Hid (∀ (j : Nat) (t : Ex), j < k → l[j]? = some t → ok t = true) ∧ Below w.heap.size w wr) (fun iv _ => l.length - (intOf iv).toNat)
  case atStart => exact ⟨0, Nat.zero_le _, rfl, Lib.hid (fun j t hj => by omega), Below.refl _ _⟩
  case round =>
    obtain ⟨i, hi, rfl, H, hbw⟩ := hrel
    by_cases hlt : i < l.length
    · have i1 : (i : Int) < l.length := by omega
      obtain ⟨x, hx⟩ : ∃ x, l[i]? = some x := ⟨l[i], List.getElem?_eq_getElem hlt⟩
      obtain ⟨a, rfl, _, hrow⟩ := HS1.out.at hx
      have HR := Lib.hid (hrow.on hbw)
      have HX := Lib.hid hx
      have hcw : wr.cell? c = some (.int .i64 lev) := by rw [← HC.out.1]; exact World.cell?_of_block (hbw.block _ HC.out.2)
      have HQ := Lib.hid (clo_right c lev h0 h1 x (ok x) (HI.out i x hx) P _ wr HR.out hcw)
      clear hrow hx hcw
      go_wp2_with fail
      refine HQ.out.mono ?_
      rintro e w3 ⟨rfl, hb3⟩
      have hbw3 := hbw.trans (hb3.mono hbw.size)
      by_cases hr : ok x = true
      · rw [hr]
        have HN : Hid (∀ (j : Nat) (t : Ex), j < i + 1 → l[j]? = some t → ok t = true) := Lib.hid (fun j t hj h1 => by
          by_cases hji : j = i
          · subst hji
            rw [HX.out] at h1
            cases h1; exact hr
          · exact H.out j t (by omega) h1)
        clear hr
        go_wp2
        go_roundw
        case rel => exact ⟨i + 1, by omega, by go_num, HN, hbw3⟩
        case measure => simp [intOf]; omega
      · have hr : ok x = false := by simpa using hr
        rw [hr]
        have HF := Lib.hid (all_not HX.out hr)
        clear hr
        go_wp2
        go_ret
        exact ⟨by rw [HF.out]; rfl, hbw3⟩
    · have i1 : ¬ (i : Int) < l.length := by omega
      have HT := Lib.hid (all_step (l := l) (ok := ok) (fun j t ht => H.out j t (by have := (List.getElem?_eq_some_iff.1 ht).1; omega) ht))
      go_wp2
      go_ret
      exact ⟨by rw [HT.out]; rfl, hbw⟩
end Go.Proofs.YtkdhoelabomgkaaGreatDoor
/-
  Layer 3, the program's side: rightExpr of trees without patterns, ways, declarations.
-/
namespace Go.Proofs.YtkdhoelabomgkaaGreatDoor
set_option linter.unusedVariables false
open Go.ChangeShapes Go.WideShapes Go.ChangeAt Go.RowKit

set_option maxHeartbeats 800000 in
theorem rpats_nil (ao : Option Addr) (cap : Nat) (w : World) :
    Calls Tryz.prog 67 #[.slice ao ([] : List Pa).length cap] w fun e w' => e = .returned (.bool true) ∧ Below w.heap.size w w' := by
  go_enter Tryz.func67, Tryz.ntmps67
  go_wp2_with fail
  have hA : Calls Tryz.prog 61 #[.slice ao ([] : List Pa).length cap, .func (.func 103) #[] #[]] w fun e w' => e = .returned (.bool true) ∧ Below w.heap.size w w' := by
    go_enter Tryz.func61, Tryz.ntmps61
    go_wp2
    go_loopw [8] (fun iv wr => iv = .int .i64 0 ∧ Below w.heap.size w wr) (fun iv _ => 0)
    case atStart => exact ⟨rfl, Below.refl _ _⟩
    case round =>
      obtain ⟨rfl, hbw⟩ := hrel
      go_wp2
      go_ret
      exact ⟨rfl, hbw⟩
  refine hA.mono ?_
  rintro e w' ⟨rfl, hb⟩
  go_wp2
  go_ret
  exact ⟨rfl, hb⟩
set_option maxHeartbeats 800000 in
theorem rals_nil (c : Addr) (ao : Option Addr) (cap : Nat) (w : World) :
    Calls Tryz.prog 68 #[.slice ao ([] : List Al).length cap, .func (.func 69) #[] #[.pointer (some c)]] w fun e w' => e = .returned (.bool true) ∧ Below w.heap.size w w' := by
  go_enter Tryz.func68, Tryz.ntmps68
  go_wp2
  go_loopw [8] (fun iv wr => iv = .int .i64 0 ∧ Below w.heap.size w wr) (fun iv _ => 0)
  case atStart => exact ⟨rfl, Below.refl _ _⟩
  case round =>
    obtain ⟨rfl, hbw⟩ := hrel
    go_wp2
    go_ret
    exact ⟨rfl, hbw⟩
set_option maxHeartbeats 800000 in
theorem rdes_nil (ao : Option Addr) (cap : Nat) (top : Bool) (lev : Int) (w : World) :
    Calls Tryz.prog 41 #[.slice ao ([] : List De).length cap, .bool top, .int .i64 lev] w fun e w' => e = .returned (.bool true) ∧ Below w.heap.size w w' := by
  have hA : ∀ (c d : Addr) (W : World), Calls Tryz.prog 73 #[.slice ao ([] : List De).length cap, .func (.func 74) #[] #[.pointer (some c), .pointer (some d)]] W fun e w' => e = .returned (.bool true) ∧ Below W.heap.size W w' := by
    intro c d W
    go_enter Tryz.func73, Tryz.ntmps73
    go_wp2
    go_loopw [8] (fun iv wr => iv = .int .i64 0 ∧ Below W.heap.size W wr) (fun iv _ => 0)
    case atStart => exact ⟨rfl, Below.refl _ _⟩
    case round =>
      obtain ⟨rfl, hbw⟩ := hrel
      go_wp2
      go_ret
      exact ⟨rfl, hbw⟩
  have hA := Lib.hid hA
  go_enter Tryz.func41, Tryz.ntmps41
  go_wp2_with fail
  refine (hA.out _ _ _).mono ?_
  rintro e w' ⟨rfl, hb⟩
  go_wp2
  go_ret
  exact ⟨rfl, Below.trans (bl_alloc _ (bl_alloc _ (Below.refl _ _))) (hb.mono (bl_alloc _ (bl_alloc _ (Below.refl _ _))).size)⟩
end Go.Proofs.YtkdhoelabomgkaaGreatDoor
/-
  Layer 3, the program's side: rightExpr of trees without patterns, ways, declarations.
-/
namespace Go.Proofs.YtkdhoelabomgkaaGreatDoor
set_option linter.unusedVariables false
open Go.ChangeShapes Go.WideShapes Go.ChangeAt Go.RowKit

theorem bel_cell {w w' : World} (h : Below w.heap.size w w') {a : Addr} {v : Value} (hc : w.cell? a = some v) : w'.cell? a = some v := by
  rw [h.cell (World.block_lt_of_cell? w a hc)]
  exact hc
/-- its head may be -/
def HeadR (t : Ex) : Prop := ∀ (P : Nat → Prop) (E : Addr) (w : World), IsEx w P E t → Calls Tryz.prog 64 #[.pointer (some E)] w fun e w' => e = .returned (.bool true) ∧ Below w.heap.size w w'
set_option maxHeartbeats 3200000 in
set_option maxRecDepth 100000 in
theorem right_plain (k p m : Int) (n : ByteArray) (l : List Ex) (lev : Int) (h0 : 1 ≤ lev) (h1 : lev ≤ 400) (hh : HeadR (.mk k p n m l [] [] [])) (hall : ∀ (k : Nat) (t : Ex), l[k]? = some t → RightE (lev + 1) t true) : RightE lev (.mk k p n m l [] [] []) true := by
  intro P a w h
  have hb1 : Below w.heap.size w (w.alloc (.cells #[.int .i64 lev] 3)) := bl_alloc _ (Below.refl _ _)
  have hI := h.on hb1
  have hc : (w.alloc (.cells #[.int .i64 lev] 3)).cell? ⟨w.heap.size, 0, none⟩ = some (.int .i64 lev) := by rw [Lib.cell_of_heap (heap_alloc_new _ _)]; rfl
  have hsz : w.heap.size < (w.alloc (.cells #[.int .i64 lev] 3)).heap.size := by simp
  go_enter Tryz.func39, Tryz.ntmps39
  go_upto_region 1 with fail
  generalize (w.alloc (.cells #[.int .i64 lev] 3)) = w1 at hb1 hI hc hsz ⊢
  have q1 : ¬ (400 : Int) < lev := by omega
  have HH := Lib.hid (hh P a w1 hI)
  have HI := Lib.hid hI
  have HA := Lib.hid hall
  have HB := Lib.hid (And.intro hb1 hsz)
  clear h hI hh hall hb1 hsz
  go_wp2_with fail
  refine HH.out.mono ?_
  rintro e w2 ⟨rfl, hw2⟩
  obtain ⟨_, _, _, _, _, ⟨a4, b4, c4, _, m4, x4⟩, ⟨a5, b5, c5, _, m5, x5⟩, ⟨a6, b6, c6, _, m6, x6⟩, ⟨a7, b7, c7, _, m7, x7⟩⟩ := (HI.out.on hw2).cells
  have d1 : w2.cell? ⟨w.heap.size, 0, none⟩ = some (.int .i64 lev) := bel_cell hw2 hc
  have X4 := Lib.hid x4
  clear hc x4 x5 x6 x7
  go_wp2
  have hd : Below w2.heap.size w2 w2.drew := (Below.refl _ _).drew
  refine wp_region_plan [(5, 2), (4, 3), (5, 3), (6, 3)] (by kernel_rfl) (by kernel_rfl) ?_
  change Wrapped (wpPlan _ _ _ _ _ _ w2.drew)
  have hw3 : Below w1.heap.size w1 w2.drew := hw2.trans (hd.mono hw2.size)
  generalize w2.drew = w3 at hd hw3 ⊢
  have hd3 := hw3.size
  have c4 := bel_cell hd c4
  have c5 := bel_cell hd c5
  have c6 := bel_cell hd c6
  have c7 := bel_cell hd c7
  have d1 := bel_cell hd d1
  refine plan_step ?_
  simp only [List.take_succ_cons, List.take_zero, List.drop_succ_cons, List.drop_zero, Nat.reduceAdd]
  repeat (refine wst_step (fun K hK => ?_); go_simp; refine hK _ ?_; clear hK K)
  refine wst_nil ?_
  intro K hK
  have HK := Lib.hid hK
  clear hK
  go_wp2_with fail
  refine (allE _ lev (by omega) (by omega) (fun _ => true) l HA.out P _ w3 (X4.out.on hd) d1 (Nat.lt_of_lt_of_le HB.out.2 hd3)).mono ?_
  rw [show l.all (fun _ => true) = true by simp]
  rintro e w4 ⟨rfl, hw4⟩
  have hs4 := hw4.size
  have c5 := bel_cell hw4 c5
  have c6 := bel_cell hw4 c6
  have c7 := bel_cell hw4 c7
  have d1 := bel_cell hw4 d1
  go_wp2
  refine HK.out _ _ ?_
  clear HK K
  refine plan_step ?_
  simp only [List.take_succ_cons, List.take_zero, List.drop_succ_cons, List.drop_zero, Nat.reduceAdd]
  repeat (refine wst_step (fun K hK => ?_); go_simp; refine hK _ ?_; clear hK K)
  refine wst_nil ?_
  intro K hK
  have HK := Lib.hid hK
  clear hK
  go_wp2_with fail
  refine (rpats_nil _ _ _).mono ?_
  rintro e w5 ⟨rfl, hw5⟩
  have hs5 := hw5.size
  have c5 := bel_cell hw5 c5
  have c6 := bel_cell hw5 c6
  have c7 := bel_cell hw5 c7
  have d1 := bel_cell hw5 d1
  go_wp2
  refine HK.out _ _ ?_
  clear HK K
  refine plan_step ?_
  simp only [List.take_succ_cons, List.take_zero, List.drop_succ_cons, List.drop_zero, Nat.reduceAdd]
  repeat (refine wst_step (fun K hK => ?_); go_simp; refine hK _ ?_; clear hK K)
  refine wst_nil ?_
  intro K hK
  have HK := Lib.hid hK
  clear hK
  go_wp2_with fail
  refine (rals_nil _ _ _ _).mono ?_
  rintro e w6 ⟨rfl, hw6⟩
  have hs6 := hw6.size
  have c5 := bel_cell hw6 c5
  have c6 := bel_cell hw6 c6
  have c7 := bel_cell hw6 c7
  have d1 := bel_cell hw6 d1
  go_wp2
  refine HK.out _ _ ?_
  clear HK K
  refine plan_step ?_
  simp only [List.take_succ_cons, List.take_zero, List.drop_succ_cons, List.drop_zero, Nat.reduceAdd]
  repeat (refine wst_step (fun K hK => ?_); go_simp; refine hK _ ?_; clear hK K)
  refine wst_nil ?_
  intro K hK
  have HK := Lib.hid hK
  clear hK
  go_wp2_with fail
  refine (rdes_nil _ _ _ _ _).mono ?_
  rintro e w7 ⟨rfl, hw7⟩
  have hs7 := hw7.size
  go_wp2
  refine HK.out _ _ ?_
  clear HK K
  refine plan_end ?_
  go_wp2
  go_ret
  have f4 := hw3.trans (hw4.mono hd3)
  have f5 := f4.trans (hw5.mono f4.size)
  have f6 := f5.trans (hw6.mono f5.size)
  have f7 := f6.trans (hw7.mono f6.size)
  exact ⟨rfl, HB.out.1.trans (f7.mono HB.out.1.size)⟩
end Go.Proofs.YtkdhoelabomgkaaGreatDoor
/-
  Layer 3, the program's side: names, ops, cons, numbers that may be.
-/
namespace Go.Proofs.YtkdhoelabomgkaaGreatDoor
set_option linter.unusedVariables false
open Go.ChangeShapes Go.WideShapes Go.ChangeAt Go.RowKit

set_option maxHeartbeats 2000000 in
theorem isop_any (s : ByteArray) (w : World) :
    Calls Tryz.prog 101 #[.string s] w fun e w' => e = .returned (.bool (opNameB s)) ∧ w = w' := by
  go_enter Tryz.func101, Tryz.ntmps101
  go_wp2_with (go_at_call 115; refine (psign_any s _).mono ?_; rintro e w' ⟨rfl, rfl⟩)
  all_goals (go_ret; refine ⟨ret_bool ?_, rfl⟩)
  all_goals (unfold opNameB opsNo; simp only [inL_cons, inL_nil, Bool.or_false])
  all_goals (first | (simp [*]; done) | (simp_all; done))
set_option maxHeartbeats 1000000 in
theorem isbyte_any (n : Int) (w : World) :
    Calls Tryz.prog 98 #[.int .i64 n] w fun e w' => e = .returned (.bool (byteB n)) ∧ w = w' := by
  go_enter Tryz.func98, Tryz.ntmps98
  go_wp2
  all_goals (go_ret; refine ⟨ret_bool ?_, rfl⟩)
  all_goals (unfold byteB; first | (simp [*]; done) | (simp_all; done) | (simp; omega))
set_option maxHeartbeats 1000000 in
theorem someof_any (n m : Int) (w : World) :
    Calls Tryz.prog 102 #[.int .i64 n, .int .i64 m] w fun e w' => e = .returned (.bool (someB n m)) ∧ w = w' := by
  go_enter Tryz.func102, Tryz.ntmps102
  go_wp2
  all_goals (go_ret; refine ⟨ret_bool ?_, rfl⟩)
  all_goals (unfold someB; first | (simp [*]; done) | (simp_all; done) | (simp; omega))
set_option maxHeartbeats 1000000 in
theorem parts_any (s : ByteArray) (n : Int) (w : World) :
    Calls Tryz.prog 100 #[.string s, .int .i64 n] w fun e w' => e = .returned (.bool (partsB s n)) ∧ w = w' := by
  go_enter Tryz.func100, Tryz.ntmps100
  go_wp2
  all_goals (go_ret; refine ⟨ret_bool ?_, rfl⟩)
  all_goals (unfold partsB; first | (simp [*]; done) | (simp_all; done))
end Go.Proofs.YtkdhoelabomgkaaGreatDoor
/-
  Layer 3, the program's side: isCon, isAnyCon.
-/
namespace Go.Proofs.YtkdhoelabomgkaaGreatDoor
set_option linter.unusedVariables false
open Go.ChangeShapes Go.WideShapes Go.ChangeAt Go.RowKit

set_option maxHeartbeats 2000000 in
set_option maxRecDepth 100000 in
theorem iscon_any (s : ByteArray) (hs : s.size ≤ maxLen) (w : World) (hw : RangeOk w) :
    Calls Tryz.prog 95 #[.string s] w fun e w' => e = .returned (.bool (conB s)) ∧ Below w.heap.size w w' := by
  by_cases h32 : 32 < s.size
  · have hc : conB s = false := decide_eq_false (by omega)
    rw [hc]
    have q : (32 : Int) < s.size := by omega
    go_enter Tryz.func95, Tryz.ntmps95
    go_wp2
    go_ret
    exact ⟨rfl, Below.refl _ _⟩
  have q : ¬ (32 : Int) < s.size := by omega
  have e0 : s.extract 0 s.size = s := by simp
  cases hcb : conB s with
  | true =>
    have hy := con_yes hcb
    rw [e0] at hy
    clear hcb e0
    go_enter Tryz.func95, Tryz.ntmps95
    go_wp2_with fail
    refine (scan_yes (by omega) hy (by simp) _ hw).mono ?_
    rintro e w1 ⟨g, cap, rfl, hcap, hmax, hR, hb1⟩
    simp only [List.length_cons, List.length_nil, Nat.reduceAdd] at hcap ⊢
    have hR2 := hR.alloc (ftO 0 0)
    have k0 := (hR2.cell 0 _ rfl).1
    have k3 := (hR2.cell 0 _ rfl).2.2.2.1
    simp only [Nat.zero_mul, Nat.reduceAdd] at k0 k3
    go_wp2
    go_ret
    exact ⟨rfl, hb1.alloc hb1.size _⟩
  | false =>
    cases hsc : scanP s with
    | inr p =>
      clear hcb e0
      go_enter Tryz.func95, Tryz.ntmps95
      go_wp2_with fail
      refine (scan_no (by omega) hsc _ hw).mono ?_
      rintro e w1 ⟨ao, cap, rfl, hb1⟩
      go_wp2
      go_ret
      exact ⟨rfl, hb1.alloc hb1.size _⟩
    | inl l =>
      cases l with
      | nil =>
        exfalso
        rw [scanP_small s (by omega)] at hsc
        exact (sc_begin (sc_of_scan s.size 0 _ (Nat.zero_le _) (by omega) hsc)).2 rfl
      | cons t r =>
        have HC := Lib.hid (fun hk => con_no (by omega) hcb hsc (t := t) (r := r) hk)
        have q1 : (0 : Int) < ((t :: r).length : Int) := by simp only [List.length_cons]; omega
        obtain ⟨tl, htl⟩ : ∃ n, n = (t :: r).length := ⟨_, rfl⟩
        clear hcb e0
        by_cases hk : t.kind = 2
        · have q2 : (t.kind == 2) = true := by simp [hk]
          have q3 := HC.out hk
          clear hk
          go_enter Tryz.func95, Tryz.ntmps95
          go_wp2_with fail
          refine (scan_yes (by omega) hsc (by simp) _ hw).mono ?_
          rintro e w1 ⟨g, cap, rfl, hcap, hmax, hR, hb1⟩
          have hR2 := hR.alloc (ftO 0 0)
          have k0 := (hR2.cell 0 _ rfl).1
          have k3 := (hR2.cell 0 _ rfl).2.2.2.1
          simp only [Nat.zero_mul, Nat.reduceAdd] at k0 k3
          rw [← htl] at q1 hcap ⊢
          clear hsc hw
          go_wp2
          go_ret
          exact ⟨rfl, hb1.alloc hb1.size _⟩
        · have q2 : (t.kind == 2) = false := by simpa using hk
          clear hk
          go_enter Tryz.func95, Tryz.ntmps95
          go_wp2_with fail
          refine (scan_yes (by omega) hsc (by simp) _ hw).mono ?_
          rintro e w1 ⟨g, cap, rfl, hcap, hmax, hR, hb1⟩
          have hR2 := hR.alloc (ftO 0 0)
          have k0 := (hR2.cell 0 _ rfl).1
          have k3 := (hR2.cell 0 _ rfl).2.2.2.1
          simp only [Nat.zero_mul, Nat.reduceAdd] at k0 k3
          rw [← htl] at q1 hcap ⊢
          clear hsc hw
          go_wp2
          go_ret
          exact ⟨rfl, hb1.alloc hb1.size _⟩
set_option maxHeartbeats 1000000 in
theorem anycon_any (s : ByteArray) (hs : s.size ≤ maxLen) (w : World) (hw : RangeOk w) :
    Calls Tryz.prog 99 #[.string s] w fun e w' => e = .returned (.bool (anyConB s)) ∧ Below w.heap.size w w' := by
  unfold anyConB
  by_cases h1 : (s.toList == [58]) = true
  · rw [h1]
    go_enter Tryz.func99, Tryz.ntmps99
    go_wp2
    go_ret
    exact ⟨rfl, Below.refl _ _⟩
  have h1 : (s.toList == [58]) = false := by simpa using h1
  rw [h1]
  by_cases h2 : (s.toList == [91, 93]) = true
  · rw [h2]
    go_enter Tryz.func99, Tryz.ntmps99
    go_wp2
    go_ret
    exact ⟨rfl, Below.refl _ _⟩
  have h2 : (s.toList == [91, 93]) = false := by simpa using h2
  rw [h2]
  go_enter Tryz.func99, Tryz.ntmps99
  go_wp2_with fail
  refine (iscon_any s hs _ hw).mono ?_
  rintro e w' ⟨rfl, hb⟩
  go_wp2
  go_ret
  exact ⟨rfl, hb⟩
end Go.Proofs.YtkdhoelabomgkaaGreatDoor
/-
  Layer 3, the program's side: the heads of types and patterns.
-/
namespace Go.Proofs.YtkdhoelabomgkaaGreatDoor
set_option linter.unusedVariables false
open Go.ChangeShapes Go.WideShapes Go.ChangeAt Go.RowKit

set_option maxHeartbeats 2000000 in
set_option maxRecDepth 100000 in
theorem tyhd_any (k p : Int) (n : ByteArray) (l : List Ty) (P : Nat → Prop) (E : Addr) (w : World) (hw : RangeOk w) (h : IsTy w P E (.mk k p n l)) :
    Calls Tryz.prog 55 #[.pointer (some E)] w fun e w' => e = .returned (.bool (tyHd k n l.length)) ∧ Below w.heap.size w w' := by
  obtain ⟨c0, _, c2, hn, ao, cap, c3, hm, hM, hl⟩ := h.cells
  clear h hl
  go_enter Tryz.func55, Tryz.ntmps55
  go_wp2_with (first
    | (go_at_call 94; refine (pisname_any n hn _).mono ?_; rintro e w' ⟨rfl, rfl⟩)
    | (go_at_call 95; refine (iscon_any n hn _ hw).mono ?_; rintro e w' ⟨rfl, hb⟩; have c3 := bel_cell hb c3))
  all_goals (go_ret; refine ⟨ret_bool ?_, ?_⟩)
  all_goals (first | exact Below.refl _ _ | assumption | skip)
  all_goals (unfold tyHd; first | (simp [*]; done) | (simp_all; done) | (simp [*]; omega) | (simp_all; omega))
theorem RangeOk.on {w w' : World} (h : RangeOk w) (hb : Below w.heap.size w w') : RangeOk w' := h.below hb (Nat.le_refl _)
set_option maxHeartbeats 4000000 in
set_option maxRecDepth 100000 in
theorem pahd_any (k p m : Int) (n : ByteArray) (l : List Pa) (P : Nat → Prop) (E : Addr) (w : World) (hw : RangeOk w) (h : IsPa w P E (.mk k p n m l)) :
    Calls Tryz.prog 60 #[.pointer (some E)] w fun e w' => e = .returned (.bool (paHd k n m l.length)) ∧ Below w.heap.size w w' := by
  obtain ⟨c0, _, c2, hn, c3, ao, cap, c4, hm, hM, hl⟩ := h.cells
  clear h hl
  by_cases h6 : k = 6
  · subst h6
    go_enter Tryz.func60, Tryz.ntmps60
    go_wp2
    go_quiet (fail)
    generalize hW1 : World.drewN w _ = W1
    have hd1 : Below w.heap.size w W1 := by rw [← hW1]; exact drew_below w _
    have c0' := bel_cell hd1 c0
    clear hW1
    go_wp2
    have hw0 : Below w.heap.size w W1.drew := hd1.drew
    refine wp_region_gate (fun V => Below w.heap.size w V) 100 (by kernel_rfl) hw0 ?_
    change AtG _ _ _ _ _ _ _ _ _ W1.drew
    clear c0' hd1
    generalize W1.drew = W0 at hw0 ⊢
    refine G_hold (i := 0) (v := ?_) rfl (by kernel_rfl) (fun _ _ _ h => h) (Or.inl ⟨by rfl, fun V hV => ?_⟩) ?_
    rotate_left
    · go_simp; with_reducible rfl
    simp only [Act.put, List.setIfInBounds_toArray, List.set_cons_zero, List.set_cons_succ]
    refine G_hold (i := 1) (v := ?_) rfl (by kernel_rfl) (fun _ _ _ h => h) (Or.inl ⟨by rfl, fun V hV => ?_⟩) ?_
    rotate_left
    · go_simp; with_reducible rfl
    simp only [Act.put, List.setIfInBounds_toArray, List.set_cons_zero, List.set_cons_succ]
    refine G_hold (i := 2) (v := ?_) rfl (by kernel_rfl) (fun _ _ _ h => h) (Or.inl ⟨by rfl, fun V hV => ?_⟩) ?_
    rotate_left
    · go_simp; with_reducible rfl
    simp only [Act.put, List.setIfInBounds_toArray, List.set_cons_zero, List.set_cons_succ]
    refine G_hold (i := 3) (v := ?_) rfl (by kernel_rfl) (fun _ _ _ h => h) (Or.inl ⟨by rfl, fun V hV => ?_⟩) ?_
    rotate_left
    · have c2 := bel_cell hV c2; go_simp; with_reducible rfl
    simp only [Act.put, List.setIfInBounds_toArray, List.set_cons_zero, List.set_cons_succ]
    refine G_hold (i := 5) (v := ?_) rfl (by kernel_rfl) (fun _ _ _ h => h) (Or.inl ⟨by rfl, fun V hV => ?_⟩) ?_
    rotate_left
    · go_simp; with_reducible rfl
    simp only [Act.put, List.setIfInBounds_toArray, List.set_cons_zero, List.set_cons_succ]
    refine G_hold (i := 6) (v := ?_) rfl (by kernel_rfl) (fun _ _ _ h => h) (Or.inl ⟨by rfl, fun V hV => ?_⟩) ?_
    rotate_left
    · go_simp; with_reducible rfl
    simp only [Act.put, List.setIfInBounds_toArray, List.set_cons_zero, List.set_cons_succ]
    refine G_hold (i := 7) (v := ?_) rfl (by kernel_rfl) (fun _ _ _ h => h) (Or.inl ⟨by rfl, fun V hV => ?_⟩) ?_
    rotate_left
    · go_simp; with_reducible rfl
    simp only [Act.put, List.setIfInBounds_toArray, List.set_cons_zero, List.set_cons_succ]
    refine G_hold (i := 8) (v := ?_) rfl (by kernel_rfl) (fun _ _ _ h => h) (Or.inl ⟨by rfl, fun V hV => ?_⟩) ?_
    rotate_left
    · have c2 := bel_cell hV c2; go_simp; with_reducible rfl
    simp only [Act.put, List.setIfInBounds_toArray, List.set_cons_zero, List.set_cons_succ]
    refine G_hold (i := 9) (v := ?_) rfl (by kernel_rfl) (fun _ _ _ h => h) (Or.inl ⟨by rfl, fun V hV => ?_⟩) ?_
    rotate_left
    · go_simp; with_reducible rfl
    simp only [Act.put, List.setIfInBounds_toArray, List.set_cons_zero, List.set_cons_succ]
    refine G_hold (i := 10) (v := ?_) rfl (by kernel_rfl) (fun _ _ _ h => h) (Or.inl ⟨by rfl, fun V hV => ?_⟩) ?_
    rotate_left
    · go_simp; with_reducible rfl
    simp only [Act.put, List.setIfInBounds_toArray, List.set_cons_zero, List.set_cons_succ]
    refine G_hold (i := 11) (v := ?_) rfl (by kernel_rfl) (fun _ _ _ h => h) (Or.inl ⟨by rfl, fun V hV => ?_⟩) ?_
    rotate_left
    · go_simp; with_reducible rfl
    simp only [Act.put, List.setIfInBounds_toArray, List.set_cons_zero, List.set_cons_succ]
    refine G_hold (i := 12) (v := ?_) rfl (by kernel_rfl) (fun _ _ _ h => h) (Or.inl ⟨by rfl, fun V hV => ?_⟩) ?_
    rotate_left
    · have c4 := bel_cell hV c4; go_simp; with_reducible rfl
    simp only [Act.put, List.setIfInBounds_toArray, List.set_cons_zero, List.set_cons_succ]
    refine G_hold (i := 13) (v := ?_) rfl (by kernel_rfl) (fun _ _ _ h => h) (Or.inl ⟨by rfl, fun V hV => ?_⟩) ?_
    rotate_left
    · go_simp; with_reducible rfl
    simp only [Act.put, List.setIfInBounds_toArray, List.set_cons_zero, List.set_cons_succ]
    refine G_one (k := 4) rfl (by kernel_rfl) (fun K hK => ?_)
    have HK := Lib.hid hK
    clear hK
    go_wp2_with fail
    refine (anycon_any n hn _ (hw.on hw0)).mono ?_
    rintro e W2 ⟨rfl, hb1⟩
    have hw1 := hw0.trans (hb1.mono hw0.size)
    go_wp2
    refine HK.out _ _ (fun _ => hw1) ?_
    clear HK K
    refine G_one (k := 14) rfl (by kernel_rfl) (fun K hK => ?_)
    have HK := Lib.hid hK
    clear hK
    go_wp2_with fail
    refine (parts_any n _ _).mono ?_
    rintro e W3 ⟨rfl, rfl⟩
    go_wp2
    refine HK.out _ _ (fun _ => hw1) ?_
    clear HK K
    refine G_hold (i := 15) (v := ?_) rfl (by kernel_rfl) (fun _ _ _ h => h) (Or.inl ⟨by rfl, fun V hV => ?_⟩) ?_
    rotate_left
    · go_simp; with_reducible rfl
    simp only [Act.put, List.setIfInBounds_toArray, List.set_cons_zero, List.set_cons_succ]
    refine G_hold (i := 16) (v := ?_) rfl (by kernel_rfl) (fun _ _ _ h => h) (Or.inl ⟨by rfl, fun V hV => ?_⟩) ?_
    rotate_left
    · go_simp; with_reducible rfl
    simp only [Act.put, List.setIfInBounds_toArray, List.set_cons_zero, List.set_cons_succ]
    refine G_done (by kernel_rfl) ?_
    go_wp2
    all_goals (go_ret; refine ⟨ret_bool ?_, hw1⟩)
    all_goals (unfold paHd; first | (simp [*]; done) | (simp_all; done) | (simp [*]; omega) | (simp_all; omega))
  · have q6 : (k == 6) = false := by simpa using h6
    go_enter Tryz.func60, Tryz.ntmps60
    go_wp2
    go_quiet (fail)
    go_wp2_with (first
      | (go_at_call 94; refine (pisname_any n hn _).mono ?_; rintro e w' ⟨rfl, rfl⟩)
      | (go_at_call 98; refine (isbyte_any _ _).mono ?_; rintro e w' ⟨rfl, rfl⟩))
    all_goals (go_ret; refine ⟨ret_bool ?_, drew_below w _⟩)
    all_goals (unfold paHd; first | (simp [*]; done) | (simp_all; done) | (simp [*]; omega) | (simp_all; omega))
set_option maxHeartbeats 8000000 in
set_option maxRecDepth 100000 in
theorem exhd_any (k p m : Int) (n : ByteArray) (l : List Ex) (ps : List Pa) (al : List Al) (ds : List De) (P : Nat → Prop) (E : Addr) (w : World) (hw : RangeOk w) (h : IsEx w P E (.mk k p n m l ps al ds)) :
    Calls Tryz.prog 64 #[.pointer (some E)] w fun e w' => e = .returned (.bool (exHd k n m l.length ps.length al.length ds.length)) ∧ Below w.heap.size w w' := by
  obtain ⟨c0, _, c2, hn, c3, ⟨a4, b4, c4, _, m4, x4⟩, ⟨a5, b5, c5, _, m5, x5⟩, ⟨a6, b6, c6, _, m6, x6⟩, ⟨a7, b7, c7, _, m7, x7⟩⟩ := h.cells
  clear h x4 x5 x6 x7
  go_enter Tryz.func64, Tryz.ntmps64
  go_wp2
  go_quiet (fail)
  generalize hW1 : World.drewN w _ = W1
  have hd1 : Below w.heap.size w W1 := by rw [← hW1]; exact drew_below w _
  replace c0 := bel_cell hd1 c0
  replace c2 := bel_cell hd1 c2
  replace c3 := bel_cell hd1 c3
  replace c4 := bel_cell hd1 c4
  replace c5 := bel_cell hd1 c5
  replace c6 := bel_cell hd1 c6
  replace c7 := bel_cell hd1 c7
  replace hw := hw.on hd1
  clear hW1
  go_wp2
  go_quiet (fail)
  generalize hW2 : World.drewN W1 _ = W2
  have hd2 : Below W1.heap.size W1 W2 := by rw [← hW2]; exact drew_below W1 _
  replace c0 := bel_cell hd2 c0
  replace c2 := bel_cell hd2 c2
  replace c3 := bel_cell hd2 c3
  replace c4 := bel_cell hd2 c4
  replace c5 := bel_cell hd2 c5
  replace c6 := bel_cell hd2 c6
  replace c7 := bel_cell hd2 c7
  replace hw := hw.on hd2
  have hd := hd1.trans (hd2.mono hd1.size)
  clear hW2 hd1 hd2
  go_wp2_with (first
    | (go_at_call 94; refine (pisname_any n hn _).mono ?_; rintro e w' ⟨rfl, rfl⟩)
    | (go_at_call 98; refine (isbyte_any _ _).mono ?_; rintro e w' ⟨rfl, rfl⟩)
    | (go_at_call 101; refine (isop_any _ _).mono ?_; rintro e w' ⟨rfl, rfl⟩)
    | (go_at_call 102; refine (someof_any _ _ _).mono ?_; rintro e w' ⟨rfl, rfl⟩)
    | (go_at_call 99; refine (anycon_any n hn _ hw).mono ?_; rintro e w' ⟨rfl, hb⟩; have c4 := bel_cell hb c4))
  all_goals (go_ret; refine ⟨ret_bool ?_, ?_⟩)
  all_goals (first | exact hd | (exact hd.trans (hb.mono hd.size)) | skip)
  all_goals (unfold exHd; first | (simp [*]; done) | (simp_all; done) | (simp [*]; omega) | (simp_all; omega))
end Go.Proofs.YtkdhoelabomgkaaGreatDoor
