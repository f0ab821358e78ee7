/-
  The statement GlyphPlaces: the program's Place, Offset and Line against the document's.
-/
import Derived.Test.YtdccedmfelpanaaLines
import Derived.Test.YtdccedmfelpanaaKnows
namespace Go.Proofs.Ytdccedmfelpanaa
open Go.ChangeShapes Go.WideShapes Go.ChangeAt Go.RowKit

/-- both tell the same line -/
theorem same_line {s : ByteArray} {line : Int} {e e' : Ending} (h : LineSaid s line e) (h' : LineSaid s line e') : e = e' := by
  have hl := len_toList s
  rcases h with ⟨f, t, rfl, i⟩ | ⟨rfl, n⟩
  · rcases h' with ⟨f', t', rfl, i'⟩ | ⟨rfl, n'⟩
    · obtain ⟨rfl, rfl⟩ := i.unique i'
      rfl
    · exact absurd i.2.2.1 (n' f (by have := i.1; have := i.2.1; omega))
  · rcases h' with ⟨f', t', rfl, i'⟩ | ⟨rfl, n'⟩
    · exact absurd i'.2.2.1 (n f' (by have := i'.1; have := i'.2.1; omega))
    · rfl
theorem LineSaid.form {s : ByteArray} {line : Int} {e : Ending} (h : LineSaid s line e) : ∃ (t : ByteArray) (b : Bool), e = .returned (.tuple #[.string t, .bool b]) := by
  rcases h with ⟨f, t, rfl, _⟩ | ⟨rfl, _⟩
  · exact ⟨_, _, rfl⟩
  · exact ⟨_, _, rfl⟩

/-- a place's line and column as they are told -/
theorem place_both (s : ByteArray) (hs : s.size ≤ 1000000) (at_ : Int) : ∃ a b : Int, (∀ w, Calls Try.prog 13 #[.string s, .int .i64 at_] w fun e w' => e = .returned (.tuple #[.int .i64 a, .int .i64 b]) ∧ w = w') ∧
    (∀ w, Calls Try.prog 14 #[.string s, .int .i64 at_] w fun e w' => e = .returned (.tuple #[.int .i64 a, .int .i64 b]) ∧ w = w') := by
  by_cases h : 0 ≤ at_ ∧ at_ ≤ s.size
  · exact ⟨_, _, fun w => place_in s hs at_ h.1 h.2 w, fun w => rplace_in s hs at_ h.1 h.2 w⟩
  · exact ⟨0, 0, fun w => place_out s hs at_ (by omega) w, fun w => rplace_out s hs at_ (by omega) w⟩
theorem offV_form (o : Option Nat) : ∃ (a : Int) (b : Bool), offV o = .tuple #[.int .i64 a, .bool b] := by
  cases o with
  | none => exact ⟨0, false, rfl⟩
  | some i => exact ⟨i, true, rfl⟩

set_option maxHeartbeats 2000000 in
theorem places_any (s : ByteArray) (at_ line col : Int) (hl : line ≤ 9223372036854775807) (h3 : -9223372036854775808 ≤ col) (h4 : col ≤ 9223372036854775807) (hm : s.size ≤ 9223372036854775807) (w : World) :
    Calls Try.prog 4 #[.string s, .int .i64 at_, .int .i64 line, .int .i64 col] w fun e w' => e = .returned (.bool true) ∧ Below w.heap.size w w' := by
  by_cases hs : (s.size : Int) ≤ 5000
  · obtain ⟨a, b, hp, hr⟩ := place_both s (by omega) at_
    have Hp := Lib.hid hp
    have Hr := Lib.hid hr
    obtain ⟨x, ok, ho⟩ := offV_form (Pl.offL s.data.toList line col)
    have Ho := Lib.hid ho
    clear hp hr ho
    go_enter Try.func4, Try.ntmps4
    go_wp2_with fail
    refine (Hp.out _).mono ?_
    rintro e w' ⟨rfl, rfl⟩
    go_wp2_with fail
    refine (Hr.out _).mono ?_
    rintro e w' ⟨rfl, rfl⟩
    go_wp2_with fail
    refine (offset_any s (by omega) line col hl h3 h4 _).mono ?_
    rw [Ho.out]
    rintro e w' ⟨rfl, rfl⟩
    go_wp2_with fail
    refine (roffset_any s (by omega) line col _).mono ?_
    rw [Ho.out]
    rintro e w' ⟨rfl, rfl⟩
    go_wp2_with fail
    refine (line_any s (by omega) line hl _).mono ?_
    rintro e w1 ⟨h1, hb1⟩
    obtain ⟨t, k, rfl⟩ := h1.form
    have H1 := Lib.hid h1
    clear h1
    go_wp2_with fail
    refine (rline_any s (by omega) line _).mono ?_
    rintro e w2 ⟨h2, rfl⟩
    obtain rfl := same_line H1.out h2
    clear h2
    go_wp2_with fail
    refine (knows_any _).mono ?_
    rintro e w3 ⟨rfl, hb3⟩
    go_wp2
    go_ret
    exact ⟨rfl, hb1.trans (hb3.mono hb1.size)⟩
  · go_enter Try.func4, Try.ntmps4
    go_wp2_with fail
    refine (knows_any _).mono ?_
    rintro e w3 ⟨rfl, hb3⟩
    go_wp2
    go_ret
    exact ⟨rfl, hb3⟩
end Go.Proofs.Ytdccedmfelpanaa
