/-
  Layer 7, the program's side: fault: may a graph be?
-/
import Derived.Test.YtmoebpebahhbeaaGP
import Derived.LoopTactic
namespace Go.Proofs.Ytmoebpebahhbeaa
set_option linter.unusedVariables false
open Go.ChangeShapes Go.WideShapes Go.ChangeAt Go.RowKit

/-- edges in memory: pairs of numbers, one behind the other -/
def Edges (w : World) (v : Value) (es : List (Int × Int)) : Prop :=
  ∃ (ao : Option Addr) (c : Nat), v = .slice ao es.length c ∧ es.length ≤ 70368744177664 ∧ ∀ (j : Nat) (x : Int × Int), es[j]? = some x → ∃ a, ao = some a ∧ a.block < w.heap.size ∧ w.cell? (a.add (j * 2)) = some (.int .i64 x.1) ∧ w.cell? (a.add (j * 2 + 1)) = some (.int .i64 x.2)
theorem Edges.below {w w' : World} {v : Value} {es : List (Int × Int)} (h : Edges w v es) (hb : Below w.heap.size w w') : Edges w' v es := by
  obtain ⟨ao, c, h1, h2, h3⟩ := h
  refine ⟨ao, c, h1, h2, fun j x hx => ?_⟩
  obtain ⟨a, e1, e2, e3, e4⟩ := h3 j x hx
  have hadd : ∀ k, (a.add k).block = a.block := fun k => by unfold Addr.add; split <;> rfl
  exact ⟨a, e1, Nat.lt_of_lt_of_le e2 hb.size, by rw [hb.cell (by rw [hadd]; exact e2)]; exact e3, by rw [hb.cell (by rw [hadd]; exact e2)]; exact e4⟩
/-- an edge has no node at one of its ends -/
def badE (n : Int) (x : Int × Int) : Bool := !(decide (0 ≤ x.1) && decide (x.1 < n)) || !(decide (0 ≤ x.2) && decide (x.2 < n))
def faultM (n : Int) (es : List (Int × Int)) : Int := if n < 0 ∨ 1024 < n then 1 else if 16384 < es.length then 6 else if es.any (badE n) then 1 else 0
theorem isNode_any (n a : Int) (w : World) : Calls Try.prog 25 #[.int .i64 n, .int .i64 a] w fun e w' => e = .returned (.bool (decide (0 ≤ a) && decide (a < n))) ∧ w = w' := by
  by_cases h0 : 0 ≤ a
  · have h1 : decide (0 ≤ a) = true := decide_eq_true h0
    go_enter Try.func25, Try.ntmps25
    go_wp2
    go_ret
    exact ⟨ret_bool (by simp [h0]), rfl⟩
  · have h1 : decide (0 ≤ a) = false := decide_eq_false h0
    go_enter Try.func25, Try.ntmps25
    go_wp2
    go_ret
    exact ⟨ret_bool (by simp [h0]), rfl⟩
set_option maxHeartbeats 1000000 in
set_option maxRecDepth 100000 in
theorem fault_any (n : Int) (v : Value) (es : List (Int × Int)) (w : World) (he : Edges w v es) :
    Calls Try.prog 19 #[.int .i64 n, v] w fun e w' => e = .returned (.int .i64 (faultM n es)) ∧ Below w.heap.size w w' := by
  obtain ⟨ao, c, rfl, hl, hc⟩ := he
  have HC := Lib.hid hc
  clear hc
  by_cases hn : n < 0 ∨ 1024 < n
  · have hf : faultM n es = 1 := by rw [faultM, if_pos hn]
    have HF := Lib.hid hf
    clear hf
    by_cases h0 : n < 0
    · have h1 : decide (n < 0) = true := decide_eq_true h0
      go_enter Try.func19, Try.ntmps19
      go_wp2
      go_ret
      exact ⟨by rw [HF.out]; rfl, Below.refl _ _⟩
    · have h1 : decide (n < 0) = false := decide_eq_false h0
      have h2 : decide (1024 < n) = true := decide_eq_true (by omega)
      go_enter Try.func19, Try.ntmps19
      go_wp2
      go_ret
      exact ⟨by rw [HF.out]; rfl, Below.refl _ _⟩
  · have h1 : decide (n < 0) = false := decide_eq_false (by omega)
    have h2 : decide (1024 < n) = false := decide_eq_false (by omega)
    by_cases hz : 16384 < es.length
    · have hf : faultM n es = 6 := by rw [faultM, if_neg hn, if_pos hz]
      have HF := Lib.hid hf
      have h3 : decide ((16384 : Int) < (es.length : Int)) = true := decide_eq_true (by omega)
      clear hf
      go_enter Try.func19, Try.ntmps19
      go_wp2
      go_ret
      exact ⟨by rw [HF.out]; rfl, Below.refl _ _⟩
    · have hf : faultM n es = if es.any (badE n) then 1 else 0 := by rw [faultM, if_neg hn, if_neg hz]
      have HF := Lib.hid hf
      have h3 : decide ((16384 : Int) < (es.length : Int)) = false := decide_eq_false (by omega)
      clear hf
      go_enter Try.func19, Try.ntmps19
      go_wp2_with fail
      go_loopw [18] (fun v wr => ∃ k : Nat, k ≤ es.length ∧ v = .int .i64 (k : Int) ∧ Below w.heap.size w wr ∧ Hid ((es.take k).any (badE n) = false)) (fun v _ => es.length - (intOf v).toNat)
      case atStart => exact ⟨0, Nat.zero_le _, rfl, Below.refl _ _, Lib.hid rfl⟩
      case round =>
        obtain ⟨k, hk, rfl, hb, HG⟩ := hrel
        by_cases hlt : k < es.length
        · have hx : es[k]? = some es[k] := List.getElem?_eq_getElem hlt
          obtain ⟨a, rfl, e2, e3, e4⟩ := HC.out k _ hx
          generalize hxx : es[k] = xx at *
          obtain ⟨x1, x2⟩ := xx
          have hadd : ∀ k, (a.add k).block = a.block := fun k => by unfold Addr.add; split <;> rfl
          have c1 : wr.cell? (a.add (k * 2)) = some (.int .i64 x1) := by rw [hb.cell (by rw [hadd]; exact e2)]; exact e3
          have c2 : wr.cell? (a.add (k * 2 + 1)) = some (.int .i64 x2) := by rw [hb.cell (by rw [hadd]; exact e2)]; exact e4
          have hkI : (k : Int) < (es.length : Int) := by omega
          clear hadd e3 e4
          have HX := Lib.hid hx
          have HB := Lib.hid hb
          have HGG := Lib.hid (show (es.take (k + 1)).any (badE n) = badE n (x1, x2) by
            rw [List.take_succ_eq_append_getElem hlt, hxx, List.any_append, HG.out]; simp)
          have HAN := Lib.hid (show (x1, x2) ∈ es by rw [← hxx]; exact List.getElem_mem hlt)
          clear hx hxx hb
          go_upto_region 8 with (refine load_pair a (k * 2) x1 x2 c1 c2 rfl _ rfl rfl ?_)
          have hbW := (HB.out.trans ((Below.refl wr.heap.size wr).alloc (Nat.le_refl _) (.cells #[.int .i64 x1, .int .i64 x2] 43) |>.mono HB.out.size))
          have q0 : (wr.alloc (.cells #[.int .i64 x1, .int .i64 x2] 43)).cell? ⟨wr.heap.size, 0, none⟩ = some (.int .i64 x1) := by rw [Lib.cell_of_heap (heap_alloc_new wr _)]; rfl
          have q1 : (wr.alloc (.cells #[.int .i64 x1, .int .i64 x2] 43)).cell? ⟨wr.heap.size, 1, none⟩ = some (.int .i64 x2) := by rw [Lib.cell_of_heap (heap_alloc_new wr _)]; rfl
          have HBW := Lib.hid hbW
          clear c1 c2 hbW
          generalize wr.alloc _ = W at q0 q1 HBW ⊢
          have hbad : ∀ b1 b2 : Bool, (decide (0 ≤ x1) && decide (x1 < n)) = b1 → (decide (0 ≤ x2) && decide (x2 < n)) = b2 → badE n (x1, x2) = (!b1 || !b2) := fun b1 b2 e1 e2 => by unfold badE; rw [e1, e2]
          have HBD := Lib.hid hbad
          clear hbad
          cases g1 : (decide (0 ≤ x1) && decide (x1 < n)) with
          | false =>
            have hany : faultM n es = 1 := by rw [HF.out, if_pos (List.any_eq_true.2 ⟨_, HAN.out, by rw [HBD.out _ _ g1 rfl]; rfl⟩)]
            have HA := Lib.hid hany
            clear hany
            go_wp2_with (go_at_call 25; refine (isNode_any n x1 _).mono ?_; rintro e w' ⟨rfl, rfl⟩; rw [g1])
            go_ret
            exact ⟨by rw [HA.out]; rfl, HBW.out⟩
          | true =>
            have G1 := Lib.hid g1
            clear g1
            cases g2 : (decide (0 ≤ x2) && decide (x2 < n)) with
            | false =>
              have hany : faultM n es = 1 := by rw [HF.out, if_pos (List.any_eq_true.2 ⟨_, HAN.out, by rw [HBD.out _ _ G1.out g2]; rfl⟩)]
              have HA := Lib.hid hany
              have G2 := Lib.hid g2
              clear hany g2
              go_wp2_with fail
              refine (isNode_any n x1 _).mono ?_
              rintro e w' ⟨rfl, rfl⟩
              rw [G1.out]
              go_wp2_with fail
              refine (isNode_any n x2 _).mono ?_
              rintro e w' ⟨rfl, rfl⟩
              rw [G2.out]
              go_wp2_with fail
              go_ret
              exact ⟨by rw [HA.out]; rfl, HBW.out⟩
            | true =>
              have hgood : badE n (x1, x2) = false := by rw [HBD.out _ _ G1.out g2]; rfl
              have HGD := Lib.hid hgood
              have G2 := Lib.hid g2
              clear hgood g2
              go_wp2_with fail
              refine (isNode_any n x1 _).mono ?_
              rintro e w' ⟨rfl, rfl⟩
              rw [G1.out]
              go_wp2_with fail
              refine (isNode_any n x2 _).mono ?_
              rintro e w' ⟨rfl, rfl⟩
              rw [G2.out]
              go_wp2_with fail
              go_roundw
              case rel => exact ⟨k + 1, by omega, by go_num, HBW.out, Lib.hid (by rw [HGG.out, HGD.out])⟩
              case measure => simp [intOf]; omega
        · have hke : k = es.length := by omega
          have hany : faultM n es = 0 := by
            have := HG.out
            rw [hke, List.take_length] at this
            rw [HF.out, this]; rfl
          have HA := Lib.hid hany
          have HB := Lib.hid hb
          clear hany hke hb
          go_wp2_with fail
          go_ret
          exact ⟨by rw [HA.out]; rfl, HB.out⟩
end Go.Proofs.Ytmoebpebahhbeaa
