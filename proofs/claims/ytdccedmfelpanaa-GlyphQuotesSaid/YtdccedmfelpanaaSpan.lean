/-
  glyph.span: where a line begins and ends; Offset and Line by it.
-/
import Derived.Test.YtdccedmfelpanaaPlace
namespace Go.Proofs.Ytdccedmfelpanaa
open Go.ChangeShapes Go.WideShapes Go.ChangeAt Go.RowKit

theorem len_toList (s : ByteArray) : s.data.toList.length = s.size := Array.length_toList

/-- at f a line begins -/
def Head (s : ByteArray) (line : Int) (f : Nat) : Prop := f ≤ s.size ∧ ((Pl.plc (s.data.toList.take f)).1 : Int) = line ∧ (Pl.plc (s.data.toList.take f)).2 = 1
theorem Head.zero (s : ByteArray) : Head s 1 0 := ⟨Nat.zero_le _, by simp [Pl.plc_nil], by simp [Pl.plc_nil]⟩
/-- what IndexByte says of what is left: no feed -/
theorem Head.miss {s : ByteArray} {line : Int} {f : Nat} (h : Head s line f) (e : Lib.indexByte (s.data.toList.drop f) 10 = -1) : Pl.IsLine s.data.toList line f s.size ∧ ∀ i, i ≤ s.size → ((Pl.plc (s.data.toList.take i)).1 : Int) ≤ line := by
  have hl := len_toList s
  have hno := Lib.indexByte_none e
  have hno' : ∀ k, f ≤ k → k < s.size → s.data.toList[k]? ≠ some 10 := by
    intro k hk _ e2
    have := hno (k - f)
    rw [List.getElem?_drop, show f + (k - f) = k from by omega] at this
    exact this e2
  obtain ⟨h1, h2, h3⟩ := h
  refine ⟨⟨h1, by omega, h2, h3, fun k hk hk2 => hno' k hk (by omega), .inl hl.symm⟩, fun i hi => ?_⟩
  by_cases hif : i < f
  · have := Pl.plc_first s.data.toList f i (by omega) h3 hif; omega
  · have hs := Pl.plc_seg s.data.toList f (i - f) (by omega) (fun k hk hk2 => hno' k hk (by omega))
    rw [show f + (i - f) = i from by omega] at hs
    rw [hs]; simp; omega
/-- and a feed o bytes on -/
theorem Head.hit {s : ByteArray} {line : Int} {f o : Nat} (h : Head s line f) (e : Lib.indexByte (s.data.toList.drop f) 10 = o) : Pl.IsLine s.data.toList line f (f + o) ∧ Head s (line + 1) (f + o + 1) ∧ f + o + 1 ≤ s.size := by
  have hl := len_toList s
  obtain ⟨e1, e2⟩ := Lib.indexByte_some e
  rw [List.getElem?_drop] at e1
  have hlt : f + o < s.size := by
    rcases Nat.lt_or_ge (f + o) s.size with h' | h'
    · exact h'
    · rw [List.getElem?_eq_none (by omega)] at e1; cases e1
  have hno : ∀ k, f ≤ k → k < f + o → s.data.toList[k]? ≠ some 10 := by
    intro k hk hk2 e3
    have := e2 (k - f) (by omega)
    rw [List.getElem?_drop, show f + (k - f) = k from by omega] at this
    exact this e3
  obtain ⟨h1, h2, h3⟩ := h
  have hs := Pl.plc_seg s.data.toList f o (by omega) hno
  have hf := Pl.plc_feed s.data.toList (f + o) (by omega) e1
  refine ⟨⟨by omega, by omega, h2, h3, hno, .inr e1⟩, ⟨by omega, ?_, ?_⟩, by omega⟩
  · rw [hf, hs]; simp; omega
  · rw [hf]

/-- what span tells -/
def SpanSaid (s : ByteArray) (line : Int) (e : Ending) : Prop :=
  (∃ f t : Nat, e = .returned (.tuple #[.int .i64 f, .int .i64 t, .bool true]) ∧ Pl.IsLine s.data.toList line f t) ∨
  (e = .returned (.tuple #[.int .i64 0, .int .i64 0, .bool false]) ∧ ∀ i, i ≤ s.size → ((Pl.plc (s.data.toList.take i)).1 : Int) ≠ line)

theorem span_low (s : ByteArray) (line : Int) (h : line < 1) (w : World) :
    Calls Try.prog 30 #[.string s, .int .i64 line] w fun e w' => SpanSaid s line e ∧ w = w' := by
  go_enter Try.func30, Try.ntmps30
  go_wp2
  go_ret3
  refine ⟨.inr ⟨rfl, fun i hi => ?_⟩, rfl⟩
  have := (Pl.plc_bounds s.data.toList i (by rw [len_toList]; exact hi)).1
  omega

set_option maxHeartbeats 2000000 in
theorem span_any (s : ByteArray) (hs : s.size ≤ 1000000) (line : Int) (h1 : 1 ≤ line) (h2 : line ≤ 9223372036854775807) (w : World) :
    Calls Try.prog 30 #[.string s, .int .i64 line] w fun e w' => SpanSaid s line e ∧ w = w' := by
  go_enter Try.func30, Try.ntmps30
  go_wp2
  go_loop [1, 4, 7] (fun l f _ => ∃ (n : Int) (k : Nat), 1 ≤ n ∧ n ≤ line ∧ k ≤ s.size ∧ l = .int .i64 n ∧ f = .int .i64 k ∧ Hid (Head s (line - n + 1) k)) (fun l _ _ => (intOf l).toNat)
  case atStart => exact ⟨line, 0, h1, Int.le_refl _, Nat.zero_le _, rfl, rfl, Lib.hid (by have := Head.zero s; rwa [show line - line + 1 = 1 from by omega])⟩
  case round =>
    obtain ⟨n, k, n1, n2, hk, rfl, rfl, H⟩ := hrel
    have ht : (s.data.toList.drop k).take (s.size - k) = s.data.toList.drop k := List.take_of_length_le (by rw [List.length_drop, len_toList]; omega)
    have hge := Lib.indexByte_ge (s.data.toList.drop k) 10
    by_cases hm : Lib.indexByte (s.data.toList.drop k) 10 = -1
    · have hr := H.out.miss hm
      rw [← ht] at hm
      have Hr := Lib.hid hr
      clear hr ht hge
      by_cases hn : 1 < n
      · go_wp2_with (go_at_call 40; refine (Try.strings_IndexByte _ _ _).mono ?_; rintro e w' ⟨rfl, rfl⟩)
        go_ret3
        refine ⟨.inr ⟨rfl, fun i hi => ?_⟩, rfl⟩
        have := Hr.out.2 i hi
        omega
      · have en : n = 1 := by omega
        subst en
        go_wp2_with (go_at_call 40; refine (Try.strings_IndexByte _ _ _).mono ?_; rintro e w' ⟨rfl, rfl⟩)
        go_ret3
        refine ⟨.inl ⟨k, s.size, rfl, ?_⟩, rfl⟩
        have := Hr.out.1
        rwa [show line - 1 + 1 = line from by omega] at this
    · obtain ⟨o, ho⟩ : ∃ o : Nat, Lib.indexByte (s.data.toList.drop k) 10 = o := ⟨(Lib.indexByte (s.data.toList.drop k) 10).toNat, by omega⟩
      have hr := H.out.hit ho
      have hb := hr.2.2
      rw [← ht] at ho
      have Hr := Lib.hid hr
      clear hr ht hge hm
      by_cases hn : 1 < n
      · go_wp2_with (go_at_call 40; refine (Try.strings_IndexByte _ _ _).mono ?_; rintro e w' ⟨rfl, rfl⟩)
        go_round
        case rel =>
          refine ⟨n - 1, k + o + 1, by omega, by omega, hb, rfl, by go_num, Lib.hid ?_⟩
          have := Hr.out.2.1
          rwa [show line - n + 1 + 1 = line - (n - 1) + 1 from by omega] at this
        case measure => simp [intOf]; omega
      · have en : n = 1 := by omega
        subst en
        go_wp2_with (go_at_call 40; refine (Try.strings_IndexByte _ _ _).mono ?_; rintro e w' ⟨rfl, rfl⟩)
        go_ret3
        refine ⟨.inl ⟨k, k + o, by go_num, ?_⟩, rfl⟩
        have := Hr.out.1
        rwa [show line - 1 + 1 = line from by omega] at this

theorem span_all (s : ByteArray) (hs : s.size ≤ 1000000) (line : Int) (h2 : line ≤ 9223372036854775807) (w : World) :
    Calls Try.prog 30 #[.string s, .int .i64 line] w fun e w' => SpanSaid s line e ∧ w = w' := by
  by_cases h : line < 1
  · exact span_low s line h w
  · exact span_any s hs line (by omega) h2 w

/-- a place as it is told -/
def offV (o : Option Nat) : Value := match o with
  | .some i => .tuple #[.int .i64 i, .bool true]
  | .none => .tuple #[.int .i64 0, .bool false]

set_option maxHeartbeats 2000000 in
theorem offset_any (s : ByteArray) (hs : s.size ≤ 1000000) (line col : Int) (h2 : line ≤ 9223372036854775807) (h3 : -9223372036854775808 ≤ col) (h4 : col ≤ 9223372036854775807) (w : World) :
    Calls Try.prog 15 #[.string s, .int .i64 line, .int .i64 col] w fun e w' => e = .returned (offV (Pl.offL s.data.toList line col)) ∧ w = w' := by
  have hl := len_toList s
  go_enter Try.func15, Try.ntmps15
  go_wp2_with fail
  refine (span_all s hs line h2 _).mono ?_
  rintro e w' ⟨(⟨f, t, rfl, hf⟩ | ⟨rfl, hn⟩), rfl⟩
  · obtain ⟨b1, b2, _⟩ := id hf
    by_cases hc : 1 ≤ col ∧ col ≤ t - f + 1
    · obtain ⟨c1, c2⟩ := hc
      have e := hf.off_in col.toNat (by omega) (by omega)
      rw [show ((col.toNat : Nat) : Int) = col from by omega] at e
      have E := Lib.hid e
      clear e
      go_wp2
      go_ret2
      rw [E.out]
      refine ⟨?_, rfl⟩
      show Ending.returned (.tuple #[.int .i64 _, .bool true]) = Ending.returned (.tuple #[.int .i64 _, .bool true])
      congr 5
      simp
      omega
    · have e := hf.off_out col (by omega)
      have E := Lib.hid e
      clear e
      by_cases hc1 : col < 1
      · go_wp2
        go_ret2
        rw [E.out]
        exact ⟨rfl, rfl⟩
      · have hc2 : (t : Int) - f + 1 < col := by omega
        go_wp2
        go_ret2
        rw [E.out]
        exact ⟨rfl, rfl⟩
  · have e := Pl.offL_none s.data.toList line col (fun j hj hbad => hn j (by omega) hbad.1)
    have E := Lib.hid e
    clear e hn
    go_wp2
    go_ret2
    rw [E.out]
    exact ⟨rfl, rfl⟩
end Go.Proofs.Ytdccedmfelpanaa
