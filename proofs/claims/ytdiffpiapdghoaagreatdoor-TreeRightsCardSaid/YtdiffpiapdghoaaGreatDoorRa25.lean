/- Texts of this proof, joined: RNil, RPlain, PRt0, PCon, Gate. No condition. -/
import Derived.Test.YtdiffpiapdghoaaGreatDoorRa24
import Derived.Test.YtdiffpiapdghoaaGreatDoorRa18
import Derived.Test.YtdiffpiapdghoaaGreatDoorRa16
import Derived.OrdersHeld
/-
  Layer 3, the program's side: rightExpr of trees without patterns, ways, declarations.
-/
namespace Go.Proofs.YtdiffpiapdghoaaGreatDoor
set_option linter.unusedVariables false
open Go.ChangeShapes Go.WideShapes Go.ChangeAt Go.RowKit

set_option maxHeartbeats 800000 in
theorem rpats_nil (ao : Option Addr) (cap : Nat) (w : World) :
    Calls Tryz.prog 67 #[.slice ao ([] : List Pa).length cap] w fun e w' => e = .returned (.bool true) ∧ Below w.heap.size w w' := by
  go_enter Tryz.func67, Tryz.ntmps67
  go_wp2_with fail
  have hA : Calls Tryz.prog 61 #[.slice ao ([] : List Pa).length cap, .func (.func 103) #[] #[]] w fun e w' => e = .returned (.bool true) ∧ Below w.heap.size w w' := by
    go_enter Tryz.func61, Tryz.ntmps61
    go_wp2
    go_loopw [8] (fun iv wr => iv = .int .i64 0 ∧ Below w.heap.size w wr) (fun iv _ => 0)
    case atStart => exact ⟨rfl, Below.refl _ _⟩
    case round =>
      obtain ⟨rfl, hbw⟩ := hrel
      go_wp2
      go_ret
      exact ⟨rfl, hbw⟩
  refine hA.mono ?_
  rintro e w' ⟨rfl, hb⟩
  go_wp2
  go_ret
  exact ⟨rfl, hb⟩
set_option maxHeartbeats 800000 in
theorem rals_nil (c : Addr) (ao : Option Addr) (cap : Nat) (w : World) :
    Calls Tryz.prog 68 #[.slice ao ([] : List Al).length cap, .func (.func 69) #[] #[.pointer (some c)]] w fun e w' => e = .returned (.bool true) ∧ Below w.heap.size w w' := by
  go_enter Tryz.func68, Tryz.ntmps68
  go_wp2
  go_loopw [8] (fun iv wr => iv = .int .i64 0 ∧ Below w.heap.size w wr) (fun iv _ => 0)
  case atStart => exact ⟨rfl, Below.refl _ _⟩
  case round =>
    obtain ⟨rfl, hbw⟩ := hrel
    go_wp2
    go_ret
    exact ⟨rfl, hbw⟩
set_option maxHeartbeats 800000 in
theorem rdes_nil (ao : Option Addr) (cap : Nat) (top : Bool) (lev : Int) (w : World) :
    Calls Tryz.prog 41 #[.slice ao ([] : List De).length cap, .bool top, .int .i64 lev] w fun e w' => e = .returned (.bool true) ∧ Below w.heap.size w w' := by
  have hA : ∀ (c d : Addr) (W : World), Calls Tryz.prog 73 #[.slice ao ([] : List De).length cap, .func (.func 74) #[] #[.pointer (some c), .pointer (some d)]] W fun e w' => e = .returned (.bool true) ∧ Below W.heap.size W w' := by
    intro c d W
    go_enter Tryz.func73, Tryz.ntmps73
    go_wp2
    go_loopw [8] (fun iv wr => iv = .int .i64 0 ∧ Below W.heap.size W wr) (fun iv _ => 0)
    case atStart => exact ⟨rfl, Below.refl _ _⟩
    case round =>
      obtain ⟨rfl, hbw⟩ := hrel
      go_wp2
      go_ret
      exact ⟨rfl, hbw⟩
  have hA := Lib.hid hA
  go_enter Tryz.func41, Tryz.ntmps41
  go_wp2_with fail
  refine (hA.out _ _ _).mono ?_
  rintro e w' ⟨rfl, hb⟩
  go_wp2
  go_ret
  exact ⟨rfl, Below.trans (bl_alloc _ (bl_alloc _ (Below.refl _ _))) (hb.mono (bl_alloc _ (bl_alloc _ (Below.refl _ _))).size)⟩
end Go.Proofs.YtdiffpiapdghoaaGreatDoor
/-
  Layer 3, the program's side: rightExpr of trees without patterns, ways, declarations.
-/
namespace Go.Proofs.YtdiffpiapdghoaaGreatDoor
set_option linter.unusedVariables false
open Go.ChangeShapes Go.WideShapes Go.ChangeAt Go.RowKit

theorem bel_cell {w w' : World} (h : Below w.heap.size w w') {a : Addr} {v : Value} (hc : w.cell? a = some v) : w'.cell? a = some v := by
  rw [h.cell (World.block_lt_of_cell? w a hc)]
  exact hc
/-- its head may be -/
def HeadR (t : Ex) : Prop := ∀ (P : Nat → Prop) (E : Addr) (w : World), IsEx w P E t → Calls Tryz.prog 64 #[.pointer (some E)] w fun e w' => e = .returned (.bool true) ∧ Below w.heap.size w w'
set_option maxHeartbeats 3200000 in
set_option maxRecDepth 100000 in
theorem right_plain (k p m : Int) (n : ByteArray) (l : List Ex) (lev : Int) (h0 : 1 ≤ lev) (h1 : lev ≤ 400) (hh : HeadR (.mk k p n m l [] [] [])) (hall : ∀ (k : Nat) (t : Ex), l[k]? = some t → RightE (lev + 1) t true) : RightE lev (.mk k p n m l [] [] []) true := by
  intro P a w h
  have hb1 : Below w.heap.size w (w.alloc (.cells #[.int .i64 lev] 3)) := bl_alloc _ (Below.refl _ _)
  have hI := h.on hb1
  have hc : (w.alloc (.cells #[.int .i64 lev] 3)).cell? ⟨w.heap.size, 0, none⟩ = some (.int .i64 lev) := by rw [Lib.cell_of_heap (heap_alloc_new _ _)]; rfl
  have hsz : w.heap.size < (w.alloc (.cells #[.int .i64 lev] 3)).heap.size := by simp
  go_enter Tryz.func39, Tryz.ntmps39
  go_upto_region 1 with fail
  generalize (w.alloc (.cells #[.int .i64 lev] 3)) = w1 at hb1 hI hc hsz ⊢
  have q1 : ¬ (400 : Int) < lev := by omega
  have HH := Lib.hid (hh P a w1 hI)
  have HI := Lib.hid hI
  have HA := Lib.hid hall
  have HB := Lib.hid (And.intro hb1 hsz)
  clear h hI hh hall hb1 hsz
  go_wp2_with fail
  refine HH.out.mono ?_
  rintro e w2 ⟨rfl, hw2⟩
  obtain ⟨_, _, _, _, _, ⟨a4, b4, c4, _, m4, x4⟩, ⟨a5, b5, c5, _, m5, x5⟩, ⟨a6, b6, c6, _, m6, x6⟩, ⟨a7, b7, c7, _, m7, x7⟩⟩ := (HI.out.on hw2).cells
  have d1 : w2.cell? ⟨w.heap.size, 0, none⟩ = some (.int .i64 lev) := bel_cell hw2 hc
  have X4 := Lib.hid x4
  clear hc x4 x5 x6 x7
  go_wp2
  have hd : Below w2.heap.size w2 w2.drew := (Below.refl _ _).drew
  refine wp_region_plan [(5, 2), (4, 3), (5, 3), (6, 3)] (by kernel_rfl) (by kernel_rfl) ?_
  change Wrapped (wpPlan _ _ _ _ _ _ w2.drew)
  have hw3 : Below w1.heap.size w1 w2.drew := hw2.trans (hd.mono hw2.size)
  generalize w2.drew = w3 at hd hw3 ⊢
  have hd3 := hw3.size
  have c4 := bel_cell hd c4
  have c5 := bel_cell hd c5
  have c6 := bel_cell hd c6
  have c7 := bel_cell hd c7
  have d1 := bel_cell hd d1
  refine plan_step ?_
  simp only [List.take_succ_cons, List.take_zero, List.drop_succ_cons, List.drop_zero, Nat.reduceAdd]
  repeat (refine wst_step (fun K hK => ?_); go_simp; refine hK _ ?_; clear hK K)
  refine wst_nil ?_
  intro K hK
  have HK := Lib.hid hK
  clear hK
  go_wp2_with fail
  refine (allE _ lev (by omega) (by omega) (fun _ => true) l HA.out P _ w3 (X4.out.on hd) d1 (Nat.lt_of_lt_of_le HB.out.2 hd3)).mono ?_
  rw [show l.all (fun _ => true) = true by simp]
  rintro e w4 ⟨rfl, hw4⟩
  have hs4 := hw4.size
  have c5 := bel_cell hw4 c5
  have c6 := bel_cell hw4 c6
  have c7 := bel_cell hw4 c7
  have d1 := bel_cell hw4 d1
  go_wp2
  refine HK.out _ _ ?_
  clear HK K
  refine plan_step ?_
  simp only [List.take_succ_cons, List.take_zero, List.drop_succ_cons, List.drop_zero, Nat.reduceAdd]
  repeat (refine wst_step (fun K hK => ?_); go_simp; refine hK _ ?_; clear hK K)
  refine wst_nil ?_
  intro K hK
  have HK := Lib.hid hK
  clear hK
  go_wp2_with fail
  refine (rpats_nil _ _ _).mono ?_
  rintro e w5 ⟨rfl, hw5⟩
  have hs5 := hw5.size
  have c5 := bel_cell hw5 c5
  have c6 := bel_cell hw5 c6
  have c7 := bel_cell hw5 c7
  have d1 := bel_cell hw5 d1
  go_wp2
  refine HK.out _ _ ?_
  clear HK K
  refine plan_step ?_
  simp only [List.take_succ_cons, List.take_zero, List.drop_succ_cons, List.drop_zero, Nat.reduceAdd]
  repeat (refine wst_step (fun K hK => ?_); go_simp; refine hK _ ?_; clear hK K)
  refine wst_nil ?_
  intro K hK
  have HK := Lib.hid hK
  clear hK
  go_wp2_with fail
  refine (rals_nil _ _ _ _).mono ?_
  rintro e w6 ⟨rfl, hw6⟩
  have hs6 := hw6.size
  have c5 := bel_cell hw6 c5
  have c6 := bel_cell hw6 c6
  have c7 := bel_cell hw6 c7
  have d1 := bel_cell hw6 d1
  go_wp2
  refine HK.out _ _ ?_
  clear HK K
  refine plan_step ?_
  simp only [List.take_succ_cons, List.take_zero, List.drop_succ_cons, List.drop_zero, Nat.reduceAdd]
  repeat (refine wst_step (fun K hK => ?_); go_simp; refine hK _ ?_; clear hK K)
  refine wst_nil ?_
  intro K hK
  have HK := Lib.hid hK
  clear hK
  go_wp2_with fail
  refine (rdes_nil _ _ _ _ _).mono ?_
  rintro e w7 ⟨rfl, hw7⟩
  have hs7 := hw7.size
  go_wp2
  refine HK.out _ _ ?_
  clear HK K
  refine plan_end ?_
  go_wp2
  go_ret
  have f4 := hw3.trans (hw4.mono hd3)
  have f5 := f4.trans (hw5.mono f4.size)
  have f6 := f5.trans (hw6.mono f5.size)
  have f7 := f6.trans (hw7.mono f6.size)
  exact ⟨rfl, HB.out.1.trans (f7.mono HB.out.1.size)⟩
end Go.Proofs.YtdiffpiapdghoaaGreatDoor
/-
  Layer 3, the program's side: names, ops, cons, numbers that may be.
-/
namespace Go.Proofs.YtdiffpiapdghoaaGreatDoor
set_option linter.unusedVariables false
open Go.ChangeShapes Go.WideShapes Go.ChangeAt Go.RowKit

set_option maxHeartbeats 2000000 in
theorem isop_any (s : ByteArray) (w : World) :
    Calls Tryz.prog 101 #[.string s] w fun e w' => e = .returned (.bool (opNameB s)) ∧ w = w' := by
  go_enter Tryz.func101, Tryz.ntmps101
  go_wp2_with (go_at_call 115; refine (psign_any s _).mono ?_; rintro e w' ⟨rfl, rfl⟩)
  all_goals (go_ret; refine ⟨ret_bool ?_, rfl⟩)
  all_goals (unfold opNameB opsNo; simp only [inL_cons, inL_nil, Bool.or_false])
  all_goals (first | (simp [*]; done) | (simp_all; done))
set_option maxHeartbeats 1000000 in
theorem isbyte_any (n : Int) (w : World) :
    Calls Tryz.prog 98 #[.int .i64 n] w fun e w' => e = .returned (.bool (byteB n)) ∧ w = w' := by
  go_enter Tryz.func98, Tryz.ntmps98
  go_wp2
  all_goals (go_ret; refine ⟨ret_bool ?_, rfl⟩)
  all_goals (unfold byteB; first | (simp [*]; done) | (simp_all; done) | (simp; omega))
set_option maxHeartbeats 1000000 in
theorem someof_any (n m : Int) (w : World) :
    Calls Tryz.prog 102 #[.int .i64 n, .int .i64 m] w fun e w' => e = .returned (.bool (someB n m)) ∧ w = w' := by
  go_enter Tryz.func102, Tryz.ntmps102
  go_wp2
  all_goals (go_ret; refine ⟨ret_bool ?_, rfl⟩)
  all_goals (unfold someB; first | (simp [*]; done) | (simp_all; done) | (simp; omega))
set_option maxHeartbeats 1000000 in
theorem parts_any (s : ByteArray) (n : Int) (w : World) :
    Calls Tryz.prog 100 #[.string s, .int .i64 n] w fun e w' => e = .returned (.bool (partsB s n)) ∧ w = w' := by
  go_enter Tryz.func100, Tryz.ntmps100
  go_wp2
  all_goals (go_ret; refine ⟨ret_bool ?_, rfl⟩)
  all_goals (unfold partsB; first | (simp [*]; done) | (simp_all; done))
end Go.Proofs.YtdiffpiapdghoaaGreatDoor
/-
  Layer 3, the program's side: isCon, isAnyCon.
-/
namespace Go.Proofs.YtdiffpiapdghoaaGreatDoor
set_option linter.unusedVariables false
open Go.ChangeShapes Go.WideShapes Go.ChangeAt Go.RowKit

set_option maxHeartbeats 2000000 in
set_option maxRecDepth 100000 in
theorem iscon_any (s : ByteArray) (hs : s.size ≤ maxLen) (w : World) (hw : RangeOk w) :
    Calls Tryz.prog 95 #[.string s] w fun e w' => e = .returned (.bool (conB s)) ∧ Below w.heap.size w w' := by
  by_cases h32 : 32 < s.size
  · have hc : conB s = false := decide_eq_false (by omega)
    rw [hc]
    have q : (32 : Int) < s.size := by omega
    go_enter Tryz.func95, Tryz.ntmps95
    go_wp2
    go_ret
    exact ⟨rfl, Below.refl _ _⟩
  have q : ¬ (32 : Int) < s.size := by omega
  have e0 : s.extract 0 s.size = s := by simp
  cases hcb : conB s with
  | true =>
    have hy := con_yes hcb
    rw [e0] at hy
    clear hcb e0
    go_enter Tryz.func95, Tryz.ntmps95
    go_wp2_with fail
    refine (scan_yes (by omega) hy (by simp) _ hw).mono ?_
    rintro e w1 ⟨g, cap, rfl, hcap, hmax, hR, hb1⟩
    simp only [List.length_cons, List.length_nil, Nat.reduceAdd] at hcap ⊢
    have hR2 := hR.alloc (ftO 0 0)
    have k0 := (hR2.cell 0 _ rfl).1
    have k3 := (hR2.cell 0 _ rfl).2.2.2.1
    simp only [Nat.zero_mul, Nat.reduceAdd] at k0 k3
    go_wp2
    go_ret
    exact ⟨rfl, hb1.alloc hb1.size _⟩
  | false =>
    cases hsc : scanP s with
    | inr p =>
      clear hcb e0
      go_enter Tryz.func95, Tryz.ntmps95
      go_wp2_with fail
      refine (scan_no (by omega) hsc _ hw).mono ?_
      rintro e w1 ⟨ao, cap, rfl, hb1⟩
      go_wp2
      go_ret
      exact ⟨rfl, hb1.alloc hb1.size _⟩
    | inl l =>
      cases l with
      | nil =>
        exfalso
        rw [scanP_small s (by omega)] at hsc
        exact (sc_begin (sc_of_scan s.size 0 _ (Nat.zero_le _) (by omega) hsc)).2 rfl
      | cons t r =>
        have HC := Lib.hid (fun hk => con_no (by omega) hcb hsc (t := t) (r := r) hk)
        have q1 : (0 : Int) < ((t :: r).length : Int) := by simp only [List.length_cons]; omega
        obtain ⟨tl, htl⟩ : ∃ n, n = (t :: r).length := ⟨_, rfl⟩
        clear hcb e0
        by_cases hk : t.kind = 2
        · have q2 : (t.kind == 2) = true := by simp [hk]
          have q3 := HC.out hk
          clear hk
          go_enter Tryz.func95, Tryz.ntmps95
          go_wp2_with fail
          refine (scan_yes (by omega) hsc (by simp) _ hw).mono ?_
          rintro e w1 ⟨g, cap, rfl, hcap, hmax, hR, hb1⟩
          have hR2 := hR.alloc (ftO 0 0)
          have k0 := (hR2.cell 0 _ rfl).1
          have k3 := (hR2.cell 0 _ rfl).2.2.2.1
          simp only [Nat.zero_mul, Nat.reduceAdd] at k0 k3
          rw [← htl] at q1 hcap ⊢
          clear hsc hw
          go_wp2
          go_ret
          exact ⟨rfl, hb1.alloc hb1.size _⟩
        · have q2 : (t.kind == 2) = false := by simpa using hk
          clear hk
          go_enter Tryz.func95, Tryz.ntmps95
          go_wp2_with fail
          refine (scan_yes (by omega) hsc (by simp) _ hw).mono ?_
          rintro e w1 ⟨g, cap, rfl, hcap, hmax, hR, hb1⟩
          have hR2 := hR.alloc (ftO 0 0)
          have k0 := (hR2.cell 0 _ rfl).1
          have k3 := (hR2.cell 0 _ rfl).2.2.2.1
          simp only [Nat.zero_mul, Nat.reduceAdd] at k0 k3
          rw [← htl] at q1 hcap ⊢
          clear hsc hw
          go_wp2
          go_ret
          exact ⟨rfl, hb1.alloc hb1.size _⟩
set_option maxHeartbeats 1000000 in
theorem anycon_any (s : ByteArray) (hs : s.size ≤ maxLen) (w : World) (hw : RangeOk w) :
    Calls Tryz.prog 99 #[.string s] w fun e w' => e = .returned (.bool (anyConB s)) ∧ Below w.heap.size w w' := by
  unfold anyConB
  by_cases h1 : (s.toList == [58]) = true
  · rw [h1]
    go_enter Tryz.func99, Tryz.ntmps99
    go_wp2
    go_ret
    exact ⟨rfl, Below.refl _ _⟩
  have h1 : (s.toList == [58]) = false := by simpa using h1
  rw [h1]
  by_cases h2 : (s.toList == [91, 93]) = true
  · rw [h2]
    go_enter Tryz.func99, Tryz.ntmps99
    go_wp2
    go_ret
    exact ⟨rfl, Below.refl _ _⟩
  have h2 : (s.toList == [91, 93]) = false := by simpa using h2
  rw [h2]
  go_enter Tryz.func99, Tryz.ntmps99
  go_wp2_with fail
  refine (iscon_any s hs _ hw).mono ?_
  rintro e w' ⟨rfl, hb⟩
  go_wp2
  go_ret
  exact ⟨rfl, hb⟩
end Go.Proofs.YtdiffpiapdghoaaGreatDoor
/-
  A region that draws its order and ends in a store into what it reads: reads may be taken first while what they read stands as it was (S), that is until the operation that waits for them all (the gate) comes up. No walk of the program's; over any program.
-/
namespace Go.Proofs.YtdiffpiapdghoaaGreatDoor
set_option linter.unusedVariables false

section
variable {P : Program} {ops : Array Oper} {md : Region.Mode} {S : World → Prop} {n : Nat} {Q : Exit → Act → World → Prop}

def wpAnyG (P : Program) (md : Region.Mode) (ops : Array Oper) (Q : Exit → Act → World → Prop) (S : World → Prop) (n : Nat) : Nat → Array Bool → Act → World → Prop
  | 0, listed, a, w => Region.ready md ops listed = [] ∧ Q .normal a w
  | fuel + 1, listed, a, w =>
    (Region.ready md ops listed = [] → Q .normal a w) ∧
    ∀ i ∈ Region.ready md ops listed, wpOp P ops Q i (fun a' w' => ((listed.setIfInBounds i true).getD n false = false → S w') ∧ wpAnyG P md ops Q S n fuel (listed.setIfInBounds i true) a' w') a w
theorem wpAny_of_G : ∀ (fuel : Nat) (listed : Array Bool) (a : Act) (w : World), wpAnyG P md ops Q S n fuel listed a w → wpAny P md ops Q fuel listed a w
  | 0, _, _, _, h => h
  | fuel + 1, _, _, _, h => ⟨h.1, fun i hi => wpOp_mono (fun a' w' h' => wpAny_of_G fuel _ a' w' h'.2) (h.2 i hi)⟩

/-- what has come up: closed under what it waits for -/
structure Shut (md : Region.Mode) (ops : Array Oper) (listed : Array Bool) : Prop where
  size : listed.size = ops.size
  closed : ∀ j oj, ops[j]? = some oj → listed.getD j false = true → ∀ e ∈ oj.after, Region.binds md e = true → listed.getD e.on false = true
theorem Shut.set {i : Nat} {listed : Array Bool} (inv : Shut md ops listed) (hi : i ∈ Region.ready md ops listed) : Shut md ops (listed.setIfInBounds i true) := by
  obtain ⟨_, oi, hoi, hall⟩ := mem_ready.1 hi
  refine ⟨by simp [inv.size], fun j oj hj hl e he hb => ?_⟩
  by_cases hij : i = j
  · subst hij
    have : oj = oi := Option.some.inj (hj.symm.trans hoi)
    subst this
    exact getD_set_true (hall e he hb)
  · rw [getD_set_ne false hij] at hl
    exact getD_set_true (inv.closed j oj hj hl e he hb)
def reachB (md : Region.Mode) (ops : Array Oper) (i : Nat) : Nat → Nat → Bool
  | 0, _ => false
  | f + 1, j => match ops[j]? with
    | none => false
    | some o => o.after.any fun e => Region.binds md e && (e.on == i || reachB md ops i f e.on)
theorem reachB_spec {i : Nat} {listed : Array Bool} (inv : Shut md ops listed) : ∀ (f j : Nat), reachB md ops i f j = true → listed.getD j false = true → listed.getD i false = true
  | 0, _, h, _ => by cases h
  | f + 1, j, h, hl => by
    unfold reachB at h
    split at h
    · cases h
    · rename_i o ho
      obtain ⟨e, he, hb⟩ := Array.any_eq_true'.1 h
      simp only [Bool.and_eq_true, Bool.or_eq_true, beq_iff_eq] at hb
      have h1 := inv.closed j o ho hl e he hb.1
      rcases hb.2 with h2 | h2
      · rw [← h2]; exact h1
      · exact reachB_spec inv f e.on h2 h1

theorem G_first {T : World → Prop} {i : Nat} {oi : Oper} {v : Value} (hin : i ≠ n) (hi : ops[i]? = some oi) (hsel : ∀ (j : Nat) (o : Oper) cs b, ops[j]? = some o → o.op ≠ .select cs b)
    (hQ : ∀ c a w, Q (.panic c) (a.put oi.dst v) w → Q (.panic c) a w)
    (hT : ∀ (listed : Array Bool) (w : World), Shut md ops listed → listed.getD i true = false → (listed.getD n false = false → S w) → T w) :
    ∀ (fuel : Nat) (listed : Array Bool) (a : Act) (w : World), Shut md ops listed →
      (∀ j oj, ops[j]? = some oj → j ≠ i → listed.getD j true = false → (∀ e ∈ oj.after, Region.binds md e = true → e.on ≠ i) → oi.apart ops oj = true) →
      i ∈ Region.ready md ops listed → YieldsIf P ops T oi v a → (listed.getD n false = false → S w) →
      wpAnyG P md ops Q S n fuel (listed.setIfInBounds i true) (a.put oi.dst v) w → wpAnyG P md ops Q S n (fuel + 1) listed a w := by
  intro fuel
  induction fuel with
  | zero =>
    intro listed a w inv _ hr hy hS H
    refine ⟨fun h => (by rw [h] at hr; cases hr), fun j hj => ?_⟩
    by_cases hji : j = i
    · subst hji; exact hy.wpOp hi (hT _ _ inv (mem_ready.1 hr).1 hS) ⟨fun h => hS (by rwa [getD_set_ne false hin] at h), H⟩
    · have := ready_mono hj hji
      rw [H.1] at this
      cases this
  | succ fuel ih =>
    intro listed a w inv hfree hr hy hS H
    refine ⟨fun h => (by rw [h] at hr; cases hr), fun j hj => ?_⟩
    by_cases hji : j = i
    · subst hji; exact hy.wpOp hi (hT _ _ inv (mem_ready.1 hr).1 hS) ⟨fun h => hS (by rwa [getD_set_ne false hin] at h), H⟩
    · have h1 := H.2 j (ready_mono hj hji)
      obtain ⟨hjun, oj, hoj, hall⟩ := mem_ready.1 hj
      have hnot : ∀ e ∈ oj.after, Region.binds md e = true → e.on ≠ i := fun e he hb heq => by
        have h1 := hall e he hb
        have h0 := (mem_ready.1 hr).1
        rw [heq, getD_both h0] at h1
        cases h1
      have h2 := wpOp_putIf hoj (hfree j oj hoj hji hjun hnot) (fun cs b => hsel i oi cs b hi) (fun cs b => hsel j oj cs b hoj) hQ hy h1
      have hfree' : ∀ k ok, ops[k]? = some ok → k ≠ i → (listed.setIfInBounds j true).getD k true = false →
          (∀ e ∈ ok.after, Region.binds md e = true → e.on ≠ i) → oi.apart ops ok = true := fun k ok hk hki hun hno => by
        refine hfree k ok hk hki ?_ hno
        by_cases hjk : j = k
        · subst hjk; exact hjun
        · rw [getD_set_ne true hjk] at hun; exact hun
      refine wpOp_mono (fun a' w' h3 => ?_) h2
      obtain ⟨hy', hS', h4⟩ := h3
      have hS2 : (listed.setIfInBounds j true).getD n false = false → S w' := fun hlow => hS' (by
        rw [Array.setIfInBounds_comm _ _ (Ne.symm hji), getD_set_ne false hin]
        exact hlow)
      exact ⟨hS2, ih (listed.setIfInBounds j true) a' w' (inv.set hj) hfree' (ready_mono hr (Ne.symm hji)) hy' hS2 (by rw [Array.setIfInBounds_comm _ _ hji]; exact h4)⟩

/-- the state of a walk: what has come up, and that S holds while the gate has not -/
structure AtG (P : Program) (md : Region.Mode) (ops : Array Oper) (Q : Exit → Act → World → Prop) (S : World → Prop) (n fuel : Nat) (listed : Array Bool) (a : Act) (w : World) : Prop where
  out : Shut md ops listed → (listed.getD n false = false → S w) → wpAnyG P md ops Q S n fuel listed a w
theorem at_of_drop {i : Nat} {oi : Oper} {rest : List Oper} (hi : ops.toList.drop i = oi :: rest) : ops[i]? = some oi := by
  have := congrArg (fun l : List Oper => l[0]?) hi
  simpa [List.getElem?_drop] using this
/-- a read (of what S says, ahead of the gate) is taken first -/
theorem G_take {i : Nat} {oi : Oper} {v : Value} {fuel : Nat} {listed : Array Bool} {a : Act} {w : World} {rest : List Oper} (hd : ops.toList.drop i = oi :: rest)
    (hB : (Region.noSelect ops && (Region.free md ops listed i && ((Region.ready md ops listed).contains i && (i != n && reachB md ops i ops.size n)))) = true)
    (hQ : ∀ c a w, Q (.panic c) (a.put oi.dst v) w → Q (.panic c) a w) (hy : YieldsIf P ops S oi v a)
    (h : AtG P md ops Q S n fuel (listed.setIfInBounds i true) (a.put oi.dst v) w) : AtG P md ops Q S n (fuel + 1) listed a w := by
  have hi := at_of_drop hd
  simp only [Bool.and_eq_true, bne_iff_ne] at hB
  obtain ⟨hs, hf, hr, hin, hreach⟩ := hB
  have hr' : i ∈ Region.ready md ops listed := by simpa using hr
  refine ⟨fun inv hS => G_first (T := S) hin hi (Region.noSelect_spec hs) hQ (fun l' w' inv' hun hS' => hS' ?_) fuel listed a w inv (Region.free_spec hi hf) hr' hy hS (h.out (inv.set hr') fun h => hS (by rwa [getD_set_ne false hin] at h))⟩
  cases hl : l'.getD n false with
  | false => rfl
  | true =>
    have := reachB_spec inv' _ n hreach hl
    rw [getD_both hun] at this
    cases this
/-- a read of what S says, where S stands from the first operation to the last one (the gate n stands behind all): taken first -/
theorem G_hold {i : Nat} {oi : Oper} {v : Value} {fuel : Nat} {listed : Array Bool} {a : Act} {w : World} {rest : List Oper} (hd : ops.toList.drop i = oi :: rest)
    (hB : (Region.noSelect ops && (Region.free md ops listed i && ((Region.ready md ops listed).contains i && (i != n && decide (ops.size ≤ n))))) = true)
    (hQ : ∀ c a w, Q (.panic c) (a.put oi.dst v) w → Q (.panic c) a w) (hy : YieldsIf P ops S oi v a)
    (h : AtG P md ops Q S n fuel (listed.setIfInBounds i true) (a.put oi.dst v) w) : AtG P md ops Q S n (fuel + 1) listed a w := by
  have hi := at_of_drop hd
  simp only [Bool.and_eq_true, bne_iff_ne, decide_eq_true_eq] at hB
  obtain ⟨hs, hf, hr, hin, hsz⟩ := hB
  have hr' : i ∈ Region.ready md ops listed := by simpa using hr
  refine ⟨fun inv hS => G_first (T := S) hin hi (Region.noSelect_spec hs) hQ (fun l' w' inv' hun hS' => hS' ?_) fuel listed a w inv (Region.free_spec hi hf) hr' hy hS (h.out (inv.set hr') fun h => hS (by rwa [getD_set_ne false hin] at h))⟩
  have := inv'.size
  simp [Array.getD, show ¬ n < l'.size by omega]
/-- what looks at no memory is taken first -/
theorem G_pure {i : Nat} {oi : Oper} {v : Value} {fuel : Nat} {listed : Array Bool} {a : Act} {w : World} {rest : List Oper} (hd : ops.toList.drop i = oi :: rest)
    (hB : (Region.noSelect ops && (Region.free md ops listed i && ((Region.ready md ops listed).contains i && i != n))) = true)
    (hQ : ∀ c a w, Q (.panic c) (a.put oi.dst v) w → Q (.panic c) a w) (hy : YieldsIf P ops (fun _ => True) oi v a)
    (h : AtG P md ops Q S n fuel (listed.setIfInBounds i true) (a.put oi.dst v) w) : AtG P md ops Q S n (fuel + 1) listed a w := by
  have hi := at_of_drop hd
  simp only [Bool.and_eq_true, bne_iff_ne] at hB
  obtain ⟨hs, hf, hr, hin⟩ := hB
  have hr' : i ∈ Region.ready md ops listed := by simpa using hr
  exact ⟨fun inv hS => G_first (T := fun _ => True) hin hi (Region.noSelect_spec hs) hQ (fun _ _ _ _ _ => trivial) fuel listed a w inv (Region.free_spec hi hf) hr' hy hS (h.out (inv.set hr') fun h => hS (by rwa [getD_set_ne false hin] at h))⟩
/-- one alone may come up -/
theorem G_one {k : Nat} {o : Oper} {fuel : Nat} {listed : Array Bool} {a : Act} {w : World} {rest : List Oper} (hd : ops.toList.drop k = o :: rest) (hr : decide (Region.ready md ops listed = [k]) = true)
    (h : ∀ K : Act → World → Prop, (∀ a' w', ((listed.setIfInBounds k true).getD n false = false → S w') → AtG P md ops Q S n fuel (listed.setIfInBounds k true) a' w' → K a' w') → wpList P ops (Exit.then K Q) [o] a w) : AtG P md ops Q S n (fuel + 1) listed a w := by
  have hk := at_of_drop hd
  have hr := of_decide_eq_true hr
  refine ⟨fun inv hS => ⟨fun h0 => (by rw [hr] at h0; cases h0), fun i hi => ?_⟩⟩
  have hik : i = k := by rw [hr] at hi; simpa using hi
  subst hik
  have hw := h (fun a' w' => ((listed.setIfInBounds i true).getD n false = false → S w') ∧ wpAnyG P md ops Q S n fuel (listed.setIfInBounds i true) a' w') (fun a' w' h1 h2 => ⟨h1, h2.out (inv.set hi) h1⟩)
  unfold wpOp
  simp only [hk]
  exact hw
/-- one of two may come up -/
theorem G_two {k m : Nat} {o o' : Oper} {fuel : Nat} {listed : Array Bool} {a : Act} {w : World} {rest rest' : List Oper} (hd : ops.toList.drop k = o :: rest) (hd' : ops.toList.drop m = o' :: rest') (hr : decide (Region.ready md ops listed = [k, m]) = true)
    (h : ∀ K : Act → World → Prop, (∀ a' w', ((listed.setIfInBounds k true).getD n false = false → S w') → AtG P md ops Q S n fuel (listed.setIfInBounds k true) a' w' → K a' w') → wpList P ops (Exit.then K Q) [o] a w)
    (h' : ∀ K : Act → World → Prop, (∀ a' w', ((listed.setIfInBounds m true).getD n false = false → S w') → AtG P md ops Q S n fuel (listed.setIfInBounds m true) a' w' → K a' w') → wpList P ops (Exit.then K Q) [o'] a w) : AtG P md ops Q S n (fuel + 1) listed a w := by
  have hk := at_of_drop hd
  have hm := at_of_drop hd'
  have hr := of_decide_eq_true hr
  refine ⟨fun inv hS => ⟨fun h0 => (by rw [hr] at h0; cases h0), fun i hi => ?_⟩⟩
  have hik : i = k ∨ i = m := by rw [hr] at hi; simpa using hi
  rcases hik with e | e
  · subst e
    have hw := h (fun a' w' => ((listed.setIfInBounds i true).getD n false = false → S w') ∧ wpAnyG P md ops Q S n fuel (listed.setIfInBounds i true) a' w') (fun a' w' h1 h2 => ⟨h1, h2.out (inv.set hi) h1⟩)
    unfold wpOp
    simp only [hk]
    exact hw
  · subst e
    have hw := h' (fun a' w' => ((listed.setIfInBounds i true).getD n false = false → S w') ∧ wpAnyG P md ops Q S n fuel (listed.setIfInBounds i true) a' w') (fun a' w' h1 h2 => ⟨h1, h2.out (inv.set hi) h1⟩)
    unfold wpOp
    simp only [hm]
    exact hw
theorem G_done {listed : Array Bool} {a : Act} {w : World} (hr : decide (Region.ready md ops listed = []) = true) (h : wpList P ops Q [] a w) : AtG P md ops Q S n 0 listed a w :=
  ⟨fun _ _ => ⟨of_decide_eq_true hr, h⟩⟩
theorem wp_region_gate {id : Nat} {a : Act} {w : World} {l : List Oper} (S : World → Prop) (n : Nat) (hm : P.follows .mixedOrders = true) (hS : S { w with drawn := w.drawn + 1 })
    (h : AtG P .any l.toArray Q S n l.length (Array.replicate l.length false) a { w with drawn := w.drawn + 1 }) : (Code.region id l.toArray true).wp P Q a w := by
  refine wp_region_any hm ?_
  have := h.out ⟨by simp, fun j oj _ hl => (by rw [getD_replicate_false] at hl; cases hl)⟩ (fun _ => hS)
  simpa using wpAny_of_G _ _ _ _ this
end
end Go.Proofs.YtdiffpiapdghoaaGreatDoor
