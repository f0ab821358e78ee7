/-
  The statements GlyphQuotes and GlyphBack.
-/
import Derived.Test.YtdccedmfelpanaaBack
import Derived.Test.YtdccedmfelpanaaKnows
import Derived.Test.YtdccedmfelpanaaLines
namespace Go.Proofs.Ytdccedmfelpanaa
set_option linter.unusedVariables false
open Go.ChangeShapes Go.WideShapes Go.ChangeAt Go.RowKit

theorem uqV_form (o : Option (List Int)) : ∃ (t : ByteArray) (b : Bool), uqV o = .tuple #[.string t, .bool b] := by
  cases o with
  | none => exact ⟨_, _, rfl⟩
  | some xs => exact ⟨_, _, rfl⟩
theorem unV_form (o : Option (Int × Int)) (k : Int) : ∃ (c n : Int) (b : Bool), unV o k = .tuple #[.int .u8 c, .int .i64 n, .bool b] := by
  cases o with
  | none => exact ⟨_, _, _, rfl⟩
  | some p => exact ⟨_, _, _, rfl⟩
theorem unescape_both (s : ByteArray) (hs : s.size ≤ 1000000) (at_ : Int) : ∃ (c n : Int) (b : Bool),
    (∀ w, Calls Try.prog 21 #[.string s, .int .i64 at_] w fun e w' => e = .returned (.tuple #[.int .u8 c, .int .i64 n, .bool b]) ∧ Below w.heap.size w w') ∧
    (∀ w, Calls Try.prog 22 #[.string s, .int .i64 at_] w fun e w' => e = .returned (.tuple #[.int .u8 c, .int .i64 n, .bool b]) ∧ Below w.heap.size w w') := by
  by_cases h : 0 ≤ at_ ∧ at_ < s.size
  · obtain ⟨k, rfl⟩ := Int.eq_ofNat_of_zero_le h.1
    obtain ⟨c, n, b, e⟩ := unV_form (un s k) k
    refine ⟨c, n, b, fun w => ?_, fun w => ?_⟩
    · have := unescape_in s hs k (by omega) w
      rw [e] at this
      exact this
    · have := runescape_in s hs k (by omega) w
      rw [e] at this
      exact this
  · refine ⟨0, at_, false, fun w => ?_, fun w => ?_⟩
    · exact (unescape_out s hs at_ (by omega) w).mono fun e w' ⟨h1, h2⟩ => ⟨h1, by rw [← h2]; exact Below.refl _ _⟩
    · exact (runescape_out s hs at_ (by omega) w).mono fun e w' ⟨h1, h2⟩ => ⟨h1, by rw [← h2]; exact Below.refl _ _⟩

set_option maxHeartbeats 2000000 in
theorem quotes_any (s : ByteArray) (at_ : Int) (hm : s.size ≤ 9223372036854775807) (w : World) :
    Calls Try.prog 5 #[.string s, .int .i64 at_] w fun e w' => e = .returned (.bool true) ∧ Below w.heap.size w w' := by
  by_cases hs : (s.size : Int) ≤ 3000
  · obtain ⟨c, n, b, hp, hr⟩ := unescape_both s (by omega) at_
    have Hp := Lib.hid hp
    have Hr := Lib.hid hr
    obtain ⟨x, ok, ho⟩ := uqV_form (unquote s)
    have Ho := Lib.hid ho
    clear hp hr ho
    go_enter Try.func5, Try.ntmps5
    go_wp2_with fail
    refine (unquote_any s (by omega) _).mono ?_
    rw [Ho.out]
    rintro e w1 ⟨rfl, hb1⟩
    go_wp2_with fail
    refine (runquote_any s (by omega) _).mono ?_
    rw [Ho.out]
    rintro e w2 ⟨rfl, hb2⟩
    go_wp2_with fail
    refine (Hp.out _).mono ?_
    rintro e w3 ⟨rfl, hb3⟩
    go_wp2_with fail
    refine (Hr.out _).mono ?_
    rintro e w4 ⟨rfl, hb4⟩
    go_wp2_with fail
    refine (quote_any s (by omega) _).mono ?_
    rintro e w5 ⟨rfl, hb5⟩
    go_wp2_with fail
    refine (rquote_any s (by omega) _).mono ?_
    rintro e w6 ⟨rfl, hb6⟩
    go_wp2_with fail
    refine (knows_any _).mono ?_
    rintro e w7 ⟨rfl, hb7⟩
    go_wp2
    go_ret
    have z1 := hb1.size
    have z2 := hb2.size
    have z3 := hb3.size
    have z4 := hb4.size
    have z5 := hb5.size
    have z6 := hb6.size
    exact ⟨rfl, hb1.trans ((hb2.mono (by omega)).trans ((hb3.mono (by omega)).trans ((hb4.mono (by omega)).trans ((hb5.mono (by omega)).trans ((hb6.mono (by omega)).trans (hb7.mono (by omega)))))))⟩
  · go_enter Try.func5, Try.ntmps5
    go_wp2_with fail
    refine (knows_any _).mono ?_
    rintro e w3 ⟨rfl, hb3⟩
    go_wp2
    go_ret
    exact ⟨rfl, hb3⟩
end Go.Proofs.Ytdccedmfelpanaa
