/-
  Unquote, as the program has it.
-/
import Derived.Test.YtdccedmfelpanaaUq
import Derived.OwnWalk
namespace Go.Proofs.Ytdccedmfelpanaa
set_option linter.unusedVariables false
open Go.ChangeShapes Go.WideShapes Go.ChangeAt Go.RowKit

/-- 'make([]byte, 0, n)' -/
theorem buf_make {ops : Array Oper} {rest : List Oper} {o : Oper} {a : Act} {Q : Exit → Act → World → Prop} (w : World) (hg : o.guard = none) (l c : Operand) (hop : o.op = Op.makeSlice 41 l c)
    (base n : Nat) (C : Int) (hl : a.eval l = .int .i64 0) (hc : a.eval c = .int .i64 C) (hC : C = (n : Int)) (hn : n ≤ 140737488355328) (hb : base ≤ w.heap.size)
    (hK : ∀ v w', Buf base w' v [] → Below w.heap.size w w' → wpList Try.prog ops Q rest (a.put o.dst v) w') : wpList Try.prog ops Q (o :: rest) a w := by
  obtain ⟨i0, hi, hz0, hz1, hz2⟩ := info_parts info_u8
  refine wpList_make_own w hg l c 41 hop base 5 i0 (.int .u8 0) 1 Try.underlying41 hi hz0 hz1 .i64 .i64 C n hl hc hC (by rw [hz2]; omega) (by unfold maxLen; omega) hb ?_
  intro w' h1 h2
  exact hK _ w' ⟨h1, Nat.le_trans hb h2.size⟩ ((Below.refl _ _).grown h2 (Nat.le_refl _) (fun k hk => by cases hk))

theorem uqV_none {s : ByteArray} (h : unquote s = none) : uqV (unquote s) = .tuple #[.string ⟨#[]⟩, .bool false] := by rw [h]; rfl
theorem unquote_no {s : ByteArray} (h : ¬ (2 ≤ s.size ∧ atB s 0 = 34 ∧ atB s (s.size - 1) = 34)) : unquote s = none := by
  unfold unquote quoted
  rw [decide_eq_false h, if_neg (by simp)]
theorem unquote_yes {s : ByteArray} (h : 2 ≤ s.size ∧ atB s 0 = 34 ∧ atB s (s.size - 1) = 34) : unquote s = unqAll (s.extract 1 (s.size - 1)) 0 := by
  unfold unquote quoted
  rw [decide_eq_true h, if_pos rfl]

set_option maxHeartbeats 4000000 in
theorem unquote_short (s : ByteArray) (hs : s.size ≤ 1000000) (h : ¬ (2 ≤ s.size ∧ atB s 0 = 34 ∧ atB s (s.size - 1) = 34)) (w : World) :
    Calls Try.prog 19 #[.string s] w fun e w' => e = .returned (uqV (unquote s)) ∧ w = w' := by
  have Hn := Lib.hid (uqV_none (unquote_no h))
  by_cases h1 : 2 ≤ s.size
  · have e0 := atB_eq s 0 (by omega)
    have e1 := atB_eq s (s.size - 1) (by omega)
    have l1 : (2 : Int) ≤ s.size := by omega
    have l2 : 0 < s.size := by omega
    have l4 : s.size - 1 < s.size := by omega
    by_cases h2 : atB s 0 = 34
    · have x0 : ((s[0].toNat : Int) != 34) = false := by rw [bne_eq_false_iff_eq]; omega
      have x1 : ((s[s.size - 1].toNat : Int) != 34) = true := by rw [bne_iff_ne]; intro e; exact h ⟨h1, h2, by omega⟩
      clear e0 e1 h h2
      go_enter Try.func19, Try.ntmps19
      go_wp2
      go_ret2
      rw [Hn.out]
      exact ⟨rfl, rfl⟩
    · have x0 : ((s[0].toNat : Int) != 34) = true := by rw [bne_iff_ne]; omega
      clear e0 e1 h h2
      go_enter Try.func19, Try.ntmps19
      go_wp2
      go_ret2
      rw [Hn.out]
      exact ⟨rfl, rfl⟩
  · have l1 : (s.size : Int) < 2 := by omega
    clear h
    go_enter Try.func19, Try.ntmps19
    go_wp2
    go_ret2
    rw [Hn.out]
    exact ⟨rfl, rfl⟩

set_option maxHeartbeats 4000000 in
theorem unquote_long (s : ByteArray) (hs : s.size ≤ 1000000) (h : 2 ≤ s.size ∧ atB s 0 = 34 ∧ atB s (s.size - 1) = 34) (w : World) :
    Calls Try.prog 19 #[.string s] w fun e w' => e = .returned (uqV (unquote s)) ∧ Below w.heap.size w w' := by
  have Hy := Lib.hid (unquote_yes h)
  obtain ⟨h1, h2, h3⟩ := h
  have e0 := atB_eq s 0 (by omega)
  have e1 := atB_eq s (s.size - 1) (by omega)
  have l1 : (2 : Int) ≤ s.size := by omega
  have l2 : 0 < s.size := by omega
  have l4 : s.size - 1 < s.size := by omega
  have x0 : ((s[0].toNat : Int) != 34) = false := by rw [bne_eq_false_iff_eq]; omega
  have x1 : ((s[s.size - 1].toNat : Int) != 34) = false := by rw [bne_eq_false_iff_eq]; omega
  have z1 : (s.extract 1 (s.size - 1)).size = s.size - 1 - 1 := by simp
  have Z1 := Lib.hid z1
  clear e0 e1 h2 h3 z1
  go_enter Try.func19, Try.ntmps19
  go_wp2_with (refine buf_make _ rfl _ _ rfl w.heap.size (s.size - 1 - 1) _ rfl rfl ?_ (by omega) (Nat.le_refl _) ?_ <;> first | (intro v w1 hb1 hw1) | rfl | omega)
  go_loopw [5, 6] (fun bv av wr => ∃ (k : Nat) (xs : List Int), k ≤ s.size - 1 - 1 ∧ av = .int .i64 k ∧ xs.length ≤ k ∧ Buf w.heap.size wr bv xs ∧ Hid (UqRel (s.extract 1 (s.size - 1)) 0 k xs) ∧ Below w.heap.size w wr) (fun _ av _ => s.size - 1 - 1 - (intOf av).toNat)
  case atStart => exact ⟨0, [], Nat.zero_le _, rfl, Nat.le_refl _, hb1, Lib.hid (UqRel.start _ 0 (Nat.zero_le _)), hw1⟩
  case round =>
    obtain ⟨k, xs, hk, rfl, hxl, hbuf, HU, hbel⟩ := hrel
    have hz := Z1.out
    by_cases hlt : k < s.size - 1 - 1
    · have hkk : k < (s.extract 1 (s.size - 1)).size := by omega
      have ea := atB_eq _ k hkk
      cases hu : un (s.extract 1 (s.size - 1)) k with
      | none =>
        have HF := Lib.hid (HU.out.fail (unqAll_none _ k hkk hu))
        have Hu := Lib.hid hu
        clear hu ea
        go_wp2_with fail
        refine (unescape_in (s.extract 1 (s.size - 1)) (by omega) k hkk _).mono ?_
        rw [Hu.out]
        rintro e w2 ⟨rfl, hb2⟩
        unfold unV
        go_wp2
        go_ret2
        rw [Hy.out, HF.out]
        exact ⟨rfl, hbel.trans (hb2.mono hbel.size)⟩
      | some p =>
        obtain ⟨c, n⟩ := p
        obtain ⟨m, rfl, hm, hm2, hc0, hc1⟩ := un_next hu hkk
        by_cases hq : atB (s.extract 1 (s.size - 1)) k = 34
        · have HF := Lib.hid (HU.out.fail (unqAll_quote _ k hkk hq))
          have q : (((s.extract 1 (s.size - 1))[k].toNat : Int) == 34) = true := by rw [beq_iff_eq]; omega
          have Hu := Lib.hid hu
          clear hu ea hq
          go_wp2_with fail
          refine (unescape_in (s.extract 1 (s.size - 1)) (by omega) k hkk _).mono ?_
          rw [Hu.out]
          rintro e w2 ⟨rfl, hb2⟩
          unfold unV
          go_wp2
          go_ret2
          rw [Hy.out, HF.out]
          exact ⟨rfl, hbel.trans (hb2.mono hbel.size)⟩
        · have HN := Lib.hid (HU.out.next hkk hq hu hm hm2)
          have q : (((s.extract 1 (s.size - 1))[k].toNat : Int) == 34) = false := by rw [beq_eq_false_iff_ne]; omega
          have Hu := Lib.hid hu
          rw [hz] at hm2
          clear hu ea hq hz
          go_wp2_with fail
          refine (unescape_in (s.extract 1 (s.size - 1)) (by rw [Z1.out]; omega) k hkk _).mono ?_
          rw [Hu.out]
          rintro e w2 ⟨rfl, hb2⟩
          unfold unV
          have hbuf2 := hbuf.below (hb2)
          go_wp2_with (at_builtin; refine buf_append1 _ _ rfl _ _ rfl w.heap.size _ xs rfl hbuf2 rfl (by omega) ?_; intro v' w3 hb3 hg3)
          go_roundw
          case rel => exact ⟨m, xs ++ [c], by omega, rfl, by simp; omega, hb3, HN, (hbel.trans (hb2.mono hbel.size)).grown hg3 (Nat.le_trans hbel.size hb2.size) (own_ge hbuf2)⟩
          case measure => simp [intOf]; omega
    · have HF := Lib.hid (HU.out.fin (by omega))
      have hbt := hbuf.text
      clear hz
      go_wp2
      go_ret2
      rw [Hy.out, HF.out]
      exact ⟨rfl, hbel⟩

theorem unquote_any (s : ByteArray) (hs : s.size ≤ 1000000) (w : World) :
    Calls Try.prog 19 #[.string s] w fun e w' => e = .returned (uqV (unquote s)) ∧ Below w.heap.size w w' := by
  by_cases h : 2 ≤ s.size ∧ atB s 0 = 34 ∧ atB s (s.size - 1) = 34
  · exact unquote_long s hs h w
  · exact (unquote_short s hs h w).mono fun e w' ⟨h1, h2⟩ => ⟨h1, by rw [← h2]; exact Below.refl _ _⟩
end Go.Proofs.Ytdccedmfelpanaa
