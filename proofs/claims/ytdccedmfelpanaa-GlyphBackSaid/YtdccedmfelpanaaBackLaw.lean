/-
  The statement GlyphBack.
-/
import Derived.Test.YtdccedmfelpanaaQuotesLaw
namespace Go.Proofs.Ytdccedmfelpanaa
set_option linter.unusedVariables false
open Go.ChangeShapes Go.WideShapes Go.ChangeAt Go.RowKit

/-- the quote of a text, unquoted: the text -/
theorem quote_back (s : ByteArray) (hs : s.size ≤ 3000) (w : World) :
    Calls Try.prog 19 #[.string (strOfNums (quoAll s.data.toList))] w fun e w' => e = .returned (.tuple #[.string s, .bool true]) ∧ Below w.heap.size w w' := by
  have hz : (strOfNums (quoAll s.data.toList)).size ≤ 1000000 := by
    have h1 := escAll_len s.data.toList
    rw [len_toList] at h1
    rw [strOfNums_size]
    simp [quoAll]
    omega
  have h := unquote_any _ hz w
  rw [unquote_quote] at h
  have e : uqV (some (s.data.toList.map fun b => (b.toNat : Int))) = .tuple #[.string s, .bool true] := by
    show Value.tuple #[.string (strOfNums (s.data.toList.map fun b => (b.toNat : Int))), .bool true] = _
    rw [nums_self]
  rw [e] at h
  exact h
theorem esc_small (c q : Int) : (strOfNums (esc c q)).size ≤ 4 := by rw [strOfNums_size]; exact esc_len c q
theorem esc_pos (c q : Int) : 0 < (strOfNums (esc c q)).size := by
  rw [strOfNums_size]
  unfold esc
  by_cases q1 : c = 10
  · rw [if_pos q1]; simp
  by_cases q2 : c = 9
  · rw [if_neg q1, if_pos q2]; simp
  by_cases q3 : c = 92 ∨ c = quo q
  · rw [if_neg q1, if_neg q2, if_pos q3]; simp
  by_cases q4 : c < 32 ∨ 126 < c
  · rw [if_neg q1, if_neg q2, if_neg q3, if_pos q4]; simp
  · rw [if_neg q1, if_neg q2, if_neg q3, if_neg q4]; simp
/-- an escape, unescaped: the byte, and all of it -/
theorem escape_back (c q : Int) (h0 : 0 ≤ c) (h1 : c ≤ 255) (w : World) :
    Calls Try.prog 21 #[.string (strOfNums (esc c q)), .int .i64 0] w fun e w' => e = .returned (.tuple #[.int .u8 c, .int .i64 (strOfNums (esc c q)).size, .bool true]) ∧ Below w.heap.size w w' := by
  have h := unescape_in (strOfNums (esc c q)) (by have := esc_small c q; omega) 0 (esc_pos c q) w
  rw [un_escape c q h0 h1] at h
  exact h

/-- the second half of the law, behind the places -/
theorem place_zero (l : List UInt8) : Pl.offL l 0 0 = none := Pl.offL_none l 0 0 (fun j hj h => by have := (Pl.plc_bounds l j hj).1; omega)

set_option maxHeartbeats 4000000 in
theorem back_any (s : ByteArray) (at_ c : Int) (single : Bool) (hm : s.size ≤ 9223372036854775807) (h0 : 0 ≤ c) (h1 : c ≤ 255) (w : World) :
    Calls Try.prog 6 #[.string s, .int .i64 at_, .int .u8 c, .bool single] w fun e w' => e = .returned (.bool true) ∧ Below w.heap.size w w' := by
  by_cases hs : (s.size : Int) ≤ 3000
  · by_cases hin : 0 ≤ at_ ∧ at_ ≤ s.size
    · obtain ⟨a0, a1⟩ := hin
      obtain ⟨k, rfl⟩ := Int.eq_ofNat_of_zero_le a0
      have hk : k ≤ s.size := by omega
      have hb := Pl.plc_bounds s.data.toList k (by rw [len_toList]; exact hk)
      have ho := Lib.hid (Pl.off_place s.data.toList k (by rw [len_toList]; exact hk))
      obtain ⟨p, hp⟩ : ∃ p, p = Pl.plc (s.data.toList.take k) := ⟨_, rfl⟩
      have Hp := Lib.hid hp
      rw [← hp] at hb
      obtain ⟨b1, b2, b3, b4⟩ := hb
      clear hp
      cases single
      all_goals
        go_enter Try.func6, Try.ntmps6
        go_wp2_with fail
        refine (place_in s (by omega) k a0 a1 _).mono ?_
        rw [Int.toNat_natCast, ← Hp.out]
        rintro e w' ⟨rfl, rfl⟩
        go_wp2_with fail
        refine (offset_any s (by omega) p.1 p.2 (by omega) (by omega) (by omega) _).mono ?_
        rw [Hp.out, ho.out]
        rintro e w' ⟨rfl, rfl⟩
        unfold offV
        go_wp2_with fail
        refine (quote_any s (by omega) _).mono ?_
        rintro e w1 ⟨rfl, hb1⟩
        go_wp2_with fail
        refine (quote_back s (by omega) _).mono ?_
        rintro e w2 ⟨rfl, hb2⟩
        go_wp2_with fail
        refine (escape_any c _ h0 h1 _).mono ?_
        rintro e w3 ⟨rfl, hb3⟩
        go_wp2_with fail
        refine (escape_back c _ h0 h1 _).mono ?_
        rintro e w4 ⟨rfl, hb4⟩
        go_wp2_with fail
        refine (knows_any _).mono ?_
        rintro e w5 ⟨rfl, hb5⟩
        go_wp2
        go_ret
        have z1 := hb1.size
        have z2 := hb2.size
        have z3 := hb3.size
        have z4 := hb4.size
        exact ⟨rfl, hb1.trans ((hb2.mono (by omega)).trans ((hb3.mono (by omega)).trans ((hb4.mono (by omega)).trans (hb5.mono (by omega)))))⟩
    · have ho := Lib.hid (place_zero s.data.toList)
      have hout : at_ < 0 ∨ (s.size : Int) < at_ := by omega
      have Hout := Lib.hid hout
      clear hin hout
      have e1 : at_ < 0 ∨ (0 ≤ at_ ∧ (s.size : Int) < at_) := by have := Hout.out; omega
      rcases e1 with hneg | ⟨hpos, hgt⟩
      all_goals
        cases single
        all_goals
          go_enter Try.func6, Try.ntmps6
          go_wp2_with fail
          refine (place_out s (by omega) at_ Hout.out _).mono ?_
          rintro e w' ⟨rfl, rfl⟩
          go_wp2_with fail
          refine (offset_any s (by omega) 0 0 (by omega) (by omega) (by omega) _).mono ?_
          rw [ho.out]
          rintro e w' ⟨rfl, rfl⟩
          unfold offV
          go_wp2_with fail
          refine (quote_any s (by omega) _).mono ?_
          rintro e w1 ⟨rfl, hb1⟩
          go_wp2_with fail
          refine (quote_back s (by omega) _).mono ?_
          rintro e w2 ⟨rfl, hb2⟩
          go_wp2_with fail
          refine (escape_any c _ h0 h1 _).mono ?_
          rintro e w3 ⟨rfl, hb3⟩
          go_wp2_with fail
          refine (escape_back c _ h0 h1 _).mono ?_
          rintro e w4 ⟨rfl, hb4⟩
          go_wp2_with fail
          refine (knows_any _).mono ?_
          rintro e w5 ⟨rfl, hb5⟩
          go_wp2
          go_ret
          have z1 := hb1.size
          have z2 := hb2.size
          have z3 := hb3.size
          have z4 := hb4.size
          exact ⟨rfl, hb1.trans ((hb2.mono (by omega)).trans ((hb3.mono (by omega)).trans ((hb4.mono (by omega)).trans (hb5.mono (by omega)))))⟩
  · go_enter Try.func6, Try.ntmps6
    go_wp2_with fail
    refine (knows_any _).mono ?_
    rintro e w3 ⟨rfl, hb3⟩
    go_wp2
    go_ret
    exact ⟨rfl, hb3⟩
end Go.Proofs.Ytdccedmfelpanaa
