/-
  Place, as the program and as the document have it.
-/
import Derived.Test.YtdccedmfelpanaaPlaces
import Derived.Test.YtdccedmfelpanaaShelf
import Derived.Test.YtdccedmfelpanaaBuf
namespace Go.Proofs.Ytdccedmfelpanaa
open Go.ChangeShapes Go.WideShapes Go.ChangeAt Go.RowKit

theorem ret_ints {a b c d : Int} (h : a = c) (h' : b = d) : Ending.returned (.tuple #[.int .i64 a, .int .i64 b]) = .returned (.tuple #[.int .i64 c, .int .i64 d]) := by rw [h, h']

theorem plc_hit (s : ByteArray) (k : Nat) (hk : k < s.size) (h : ((s[k].toNat : Int) == 10) = true) : Pl.plc (s.data.toList.take (k + 1)) = ((Pl.plc (s.data.toList.take k)).1 + 1, 1) := by
  refine Pl.plc_feed s.data.toList k (by rw [Array.length_toList]; exact hk) ?_
  rw [beq_iff_eq] at h
  rw [List.getElem?_eq_getElem (by rw [Array.length_toList]; exact hk)]
  have h2 : s[k].toNat = 10 := by omega
  exact congrArg some (UInt8.toNat_inj.1 h2)
theorem plc_miss (s : ByteArray) (k : Nat) (hk : k < s.size) (h : ((s[k].toNat : Int) == 10) = false) : Pl.plc (s.data.toList.take (k + 1)) = ((Pl.plc (s.data.toList.take k)).1, (Pl.plc (s.data.toList.take k)).2 + 1) := by
  rw [Pl.plc_succ s.data.toList k (by rw [Array.length_toList]; exact hk)]
  rw [beq_eq_false_iff_ne] at h
  unfold Pl.stp
  rw [if_neg]
  intro e
  have h2 : s[k] = 10 := e
  rw [h2] at h
  exact h rfl

theorem extract_take (s : ByteArray) (k : Nat) : (s.extract 0 k).data.toList = s.data.toList.take k := by rw [Lib.extract_data]; simp
theorem size_extract0 (s : ByteArray) (k : Nat) (h : k ≤ s.size) : (s.extract 0 k).size = k := by simp; omega

set_option maxHeartbeats 1000000 in
theorem place_in (s : ByteArray) (hs : s.size ≤ 1000000) (at_ : Int) (h0 : 0 ≤ at_) (h1 : at_ ≤ s.size) (w : World) :
    Calls Try.prog 13 #[.string s, .int .i64 at_] w fun e w' => e = .returned (.tuple #[.int .i64 (Pl.plc (s.data.toList.take at_.toNat)).1, .int .i64 (Pl.plc (s.data.toList.take at_.toNat)).2]) ∧ w = w' := by
  have hz := size_extract0 s at_.toNat (by omega)
  have e1 := Pl.plc_line (s.data.toList.take at_.toNat)
  have e2 := Pl.plc_col (s.extract 0 at_.toNat)
  rw [extract_take, hz] at e2
  have hcl : (s.data.toList.take at_.toNat).count 10 ≤ s.size := by
    have h2 := List.count_le_length (a := (10 : UInt8)) (l := s.data.toList.take at_.toNat)
    have h3 := List.length_take_le at_.toNat s.data.toList
    omega
  have hlb : -1 ≤ Lib.lastIndexByte (s.extract 0 at_.toNat) 10 ∧ Lib.lastIndexByte (s.extract 0 at_.toNat) 10 ≤ s.size := by
    rcases Lib.lastIndexByte_spec (s.extract 0 at_.toNat) 10 with ⟨e, _⟩ | ⟨i, hi, e, _⟩
    · omega
    · omega
  have E1 := Lib.hid e1
  have E2 := Lib.hid e2
  have Hz := Lib.hid hz
  clear e1 e2 hz
  obtain ⟨hb1, hb2⟩ := hlb
  have hcl2 : ((Lib.countByte (s.data.toList.take at_.toNat) 10 : Nat) : Int) ≤ s.size := by unfold Lib.countByte; omega
  go_enter Try.func13, Try.ntmps13
  go_wp2_with (first | (go_at_call 28; refine (Try.strings_Count_one _ _ _).mono ?_; rintro e w' ⟨rfl, rfl⟩) | (go_at_call 29; refine (Try.strings_LastIndexByte _ _ (by rw [Hz.out]; omega) _).mono ?_; rintro e w' ⟨rfl, rfl⟩))
  go_ret2
  have e1 := E1.out
  have e2 := E2.out
  exact ⟨ret_ints (by unfold Lib.countByte; omega) (by omega), rfl⟩

set_option maxHeartbeats 1000000 in
theorem place_out (s : ByteArray) (hs : s.size ≤ 1000000) (at_ : Int) (h : at_ < 0 ∨ s.size < at_) (w : World) :
    Calls Try.prog 13 #[.string s, .int .i64 at_] w fun e w' => e = .returned (.tuple #[.int .i64 0, .int .i64 0]) ∧ w = w' := by
  rcases h with h | h
  · go_enter Try.func13, Try.ntmps13
    go_wp2
    go_ret2
    exact ⟨rfl, rfl⟩
  · have h' : ¬ at_ < 0 := by omega
    go_enter Try.func13, Try.ntmps13
    go_wp2
    go_ret2
    exact ⟨rfl, rfl⟩

set_option maxHeartbeats 1000000 in
theorem rplace_out (s : ByteArray) (hs : s.size ≤ 1000000) (at_ : Int) (h : at_ < 0 ∨ s.size < at_) (w : World) :
    Calls Try.prog 14 #[.string s, .int .i64 at_] w fun e w' => e = .returned (.tuple #[.int .i64 0, .int .i64 0]) ∧ w = w' := by
  rcases h with h | h
  · go_enter Try.func14, Try.ntmps14
    go_wp2
    go_ret2
    exact ⟨rfl, rfl⟩
  · have h' : ¬ at_ < 0 := by omega
    go_enter Try.func14, Try.ntmps14
    go_wp2
    go_ret2
    exact ⟨rfl, rfl⟩

set_option maxHeartbeats 1000000 in
theorem rplace_in (s : ByteArray) (hs : s.size ≤ 1000000) (at_ : Int) (h0 : 0 ≤ at_) (h1 : at_ ≤ s.size) (w : World) :
    Calls Try.prog 14 #[.string s, .int .i64 at_] w fun e w' => e = .returned (.tuple #[.int .i64 (Pl.plc (s.data.toList.take at_.toNat)).1, .int .i64 (Pl.plc (s.data.toList.take at_.toNat)).2]) ∧ w = w' := by
  go_enter Try.func14, Try.ntmps14
  go_wp2
  go_loop [6, 7, 8] (fun l c i => ∃ k : Nat, (k : Int) ≤ at_ ∧ i = .int .i64 k ∧ l = .int .i64 (Pl.plc (s.data.toList.take k)).1 ∧ c = .int .i64 (Pl.plc (s.data.toList.take k)).2) (fun _ _ i => at_.toNat - (intOf i).toNat)
  case atStart => exact ⟨0, by omega, rfl, rfl, rfl⟩
  case round =>
    obtain ⟨k, hk, rfl, rfl, rfl⟩ := hrel
    obtain ⟨b1, b2, b3, b4⟩ := Pl.plc_bounds s.data.toList k (by rw [Array.length_toList]; show k ≤ s.size; omega)
    by_cases hlt : (k : Int) < at_
    · have hks : k < s.size := by omega
      go_wp2
      · have e := plc_hit s k hks (by assumption)
        go_round
        case rel => exact ⟨k + 1, by omega, by go_num, by rw [e]; go_num, by rw [e]; go_num⟩
        case measure => simp [intOf]; omega
      · have e := plc_miss s k hks (by assumption)
        go_round
        case rel => exact ⟨k + 1, by omega, by go_num, by rw [e], by rw [e]; go_num⟩
        case measure => simp [intOf]; omega
    · go_wp2
      go_ret2
      have e : at_.toNat = k := by omega
      exact ⟨ret_ints (by rw [e]) (by rw [e]), rfl⟩
end Go.Proofs.Ytdccedmfelpanaa
