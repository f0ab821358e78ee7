/-
  What an escape stands for: the digits to the base 16; hexOf; Unescape, as the program and as the document have it.
-/
import Derived.Test.YtifmbhcajlnhbaaDoorLetter
import Derived.Test.YtifmbhcajlnhbaaDoorShelf
import Derived.Test.YtifmbhcajlnhbaaDoorBuf
import Derived.Deep.QuietTactic
import Derived.BigQuiet
import Derived.WalkSmall
import Derived.Lib.IndexBytes
namespace Go.Proofs.YtifmbhcajlnhbaaDoor
set_option linter.unusedVariables false
open Go.ChangeShapes Go.WideShapes Go.ChangeAt Go.RowKit

/-- byte j of a text; 0 behind it -/
def atB (s : ByteArray) (j : Nat) : Int := ((s.data.toList.getD j 0).toNat : Int)
theorem atB_eq (s : ByteArray) (j : Nat) (h : j < s.size) : atB s j = (s[j].toNat : Int) := by
  unfold atB
  rw [List.getD_eq_getElem?_getD, List.getElem?_eq_getElem (by rw [Array.length_toList]; exact h)]
  rfl
theorem atB_bounds (s : ByteArray) (j : Nat) : 0 ≤ atB s j ∧ atB s j ≤ 255 := by
  unfold atB
  have := (s.data.toList.getD j 0).toNat_lt
  omega

/-- what a digit to the base 16 is; -1: it is none -/
def dig (c : Int) : Int := if 48 ≤ c ∧ c ≤ 57 then c - 48 else if 97 ≤ c ∧ c ≤ 102 then c - 87 else -1
theorem dig_bounds (c : Int) : -1 ≤ dig c ∧ dig c ≤ 15 := by
  unfold dig
  by_cases h : 48 ≤ c ∧ c ≤ 57
  · rw [if_pos h]; omega
  by_cases h2 : 97 ≤ c ∧ c ≤ 102
  · rw [if_neg h, if_pos h2]; omega
  · rw [if_neg h, if_neg h2]; omega
theorem index_dig (c : UInt8) : Lib.indexByte [48, 49, 50, 51, 52, 53, 54, 55, 56, 57, 97, 98, 99, 100, 101, 102] c = dig c.toNat := by
  have key : ∀ k : Fin 256, Lib.indexByte [48, 49, 50, 51, 52, 53, 54, 55, 56, 57, 97, 98, 99, 100, 101, 102] (UInt8.ofNat k.1) = dig k.1 := by decide +kernel
  have h := key ⟨c.toNat, c.toNat_lt⟩
  simpa using h
theorem index_dig' (c : Int) (h0 : 0 ≤ c) (h1 : c ≤ 255) : Lib.indexByte [48, 49, 50, 51, 52, 53, 54, 55, 56, 57, 97, 98, 99, 100, 101, 102] c.toNat.toUInt8 = dig c := by
  have h := index_dig c.toNat.toUInt8
  have e : (c.toNat.toUInt8.toNat : Int) = c := by
    have : c.toNat.toUInt8.toNat = c.toNat % 256 := by simp
    rw [this]; omega
  rw [e] at h
  exact h

set_option maxHeartbeats 1000000 in
theorem digit_any (c : Int) (h0 : 0 ≤ c) (h1 : c ≤ 255) (w : World) :
    Calls Tryd.prog 68 #[.int .u8 c] w fun e w' => e = .returned (.int .i64 (dig c)) ∧ w = w' := by
  go_enter Tryd.func68, Tryd.ntmps68
  go_wp2
  all_goals (go_ret; refine ⟨ret_int ?_, rfl⟩)
  all_goals (unfold dig; repeat (first | rw [if_pos (by omega)] | rw [if_neg (by omega)]))
  all_goals (try omega)

theorem or16 (a b : Int) (h0 : 0 ≤ a) (h1 : a ≤ 15) (h2 : 0 ≤ b) (h3 : b ≤ 15) : bits .or .i64 (a * 16) b = 16 * a + b := by
  have key : ∀ x y : Fin 16, bits .or .i64 ((x.1 : Int) * 16) (y.1 : Int) = 16 * (x.1 : Int) + (y.1 : Int) := by decide +kernel
  have h := key ⟨a.toNat, by omega⟩ ⟨b.toNat, by omega⟩
  simp only [show ((a.toNat : Nat) : Int) = a from by omega, show ((b.toNat : Nat) : Int) = b from by omega] at h
  exact h

/-- x and two digits at the beginning of a text -/
def hexB (t : ByteArray) : Option Int :=
  if 3 ≤ t.size ∧ atB t 0 = 120 ∧ 0 ≤ dig (atB t 1) ∧ 0 ≤ dig (atB t 2) then some (16 * dig (atB t 1) + dig (atB t 2)) else none
def hexV (o : Option Int) : Value := match o with
  | .some c => .tuple #[.int .u8 c, .bool true]
  | .none => .tuple #[.int .u8 0, .bool false]

set_option maxHeartbeats 2000000 in
theorem hexof_any (t : ByteArray) (hs : t.size ≤ 1000000) (w : World) :
    Calls Tryd.prog 88 #[.string t] w fun e w' => e = .returned (hexV (hexB t)) ∧ Below w.heap.size w w' := by
  by_cases h3 : 3 ≤ t.size
  · by_cases hx : atB t 0 = 120
    · have e0 := atB_eq t 0 (by omega)
      have e1 := atB_eq t 1 (by omega)
      have e2 := atB_eq t 2 (by omega)
      have x : ((t[0].toNat : Int) != 120) = false := by rw [bne_eq_false_iff_eq]; omega
      have hb1 := t[1].toNat_lt
      have hb2 := t[2].toNat_lt
      obtain ⟨d1, q1⟩ : ∃ d1, Lib.indexByte [48, 49, 50, 51, 52, 53, 54, 55, 56, 57, 97, 98, 99, 100, 101, 102] t[1] = d1 := ⟨_, rfl⟩
      obtain ⟨d2, q2⟩ : ∃ d2, Lib.indexByte [48, 49, 50, 51, 52, 53, 54, 55, 56, 57, 97, 98, 99, 100, 101, 102] t[2] = d2 := ⟨_, rfl⟩
      have r1 := index_dig t[1]
      have r2 := index_dig t[2]
      rw [q1, ← e1] at r1
      rw [q2, ← e2] at r2
      have bd1 := dig_bounds (atB t 1)
      have bd2 := dig_bounds (atB t 2)
      rw [← r1] at bd1
      rw [← r2] at bd2
      obtain ⟨bd1, bd1'⟩ := bd1
      obtain ⟨bd2, bd2'⟩ := bd2
      have R1 := Lib.hid r1
      have R2 := Lib.hid r2
      have Hx := Lib.hid hx
      have l1 : (1 : Int) < t.size := by omega
      have l2 : (2 : Int) < t.size := by omega
      have l3 : (3 : Int) ≤ t.size := by omega
      clear e0 e1 e2 r1 r2 hx hb1 hb2
      by_cases hd1 : 0 ≤ d1
      · by_cases hd2 : 0 ≤ d2
        · go_enter Tryd.func88, Tryd.ntmps88
          go_wp2_with fail
          go_quiet ((go_at_call 50; refine Calls.quiet_of_same (Tryd.strings_IndexByte _ _ _)))
          go_wp2
          go_ret2
          refine ⟨?_, below_drewN (Below.refl _ _) _⟩
          have e : hexB t = some (16 * d1 + d2) := by
            have r1 := R1.out
            have r2 := R2.out
            unfold hexB
            rw [if_pos ⟨h3, Hx.out, by omega, by omega⟩, ← r1, ← r2]
          rw [e]
          have e2 : bits .or .i64 (d1 * 16) d2 % 256 = 16 * d1 + d2 := by rw [or16 d1 d2 hd1 bd1' hd2 bd2']; omega
          show Ending.returned (.tuple #[.int .u8 (bits .or .i64 (d1 * 16) d2 % 256), .bool true]) = _
          rw [e2]
          rfl
        · have e : hexB t = none := by unfold hexB; rw [if_neg (by have := R1.out; have := R2.out; omega)]
          have E := Lib.hid e
          have hd2 : d2 < 0 := by omega
          clear e
          go_enter Tryd.func88, Tryd.ntmps88
          go_wp2_with fail
          go_quiet ((go_at_call 50; refine Calls.quiet_of_same (Tryd.strings_IndexByte _ _ _)))
          go_wp2
          go_ret2
          rw [E.out]
          exact ⟨rfl, below_drewN (Below.refl _ _) _⟩
      · have e : hexB t = none := by unfold hexB; rw [if_neg (by have := R1.out; have := R2.out; omega)]
        have E := Lib.hid e
        have hd1 : d1 < 0 := by omega
        clear e
        go_enter Tryd.func88, Tryd.ntmps88
        go_wp2_with fail
        go_quiet ((go_at_call 50; refine Calls.quiet_of_same (Tryd.strings_IndexByte _ _ _)))
        go_wp2
        go_ret2
        rw [E.out]
        exact ⟨rfl, below_drewN (Below.refl _ _) _⟩
    · have e : hexB t = none := by unfold hexB; rw [if_neg (by omega)]
      have E := Lib.hid e
      have e0 := atB_eq t 0 (by omega)
      have x : ((t[0].toNat : Int) != 120) = true := by rw [bne_iff_ne]; omega
      have l3 : (3 : Int) ≤ t.size := by omega
      clear e e0 hx
      go_enter Tryd.func88, Tryd.ntmps88
      go_wp2
      go_ret2
      rw [E.out]
      exact ⟨rfl, Below.refl _ _⟩
  · have e : hexB t = none := by unfold hexB; rw [if_neg (by omega)]
    have E := Lib.hid e
    have l3 : (t.size : Int) < 3 := by omega
    clear e
    go_enter Tryd.func88, Tryd.ntmps88
    go_wp2
    go_ret2
    rw [E.out]
    exact ⟨rfl, Below.refl _ _⟩

/-- what stands at place k -/
def un (s : ByteArray) (k : Nat) : Option (Int × Int) :=
  if atB s k < 32 ∨ 126 < atB s k then none
  else if atB s k ≠ 92 then some (atB s k, k + 1)
  else if s.size ≤ k + 1 then none
  else if isByteL (atB s (k + 1)) = true then some (byteL (atB s (k + 1)), k + 2)
  else if k + 3 < s.size ∧ atB s (k + 1) = 120 ∧ 0 ≤ dig (atB s (k + 2)) ∧ 0 ≤ dig (atB s (k + 3)) then some (16 * dig (atB s (k + 2)) + dig (atB s (k + 3)), k + 4)
  else none
def unV (o : Option (Int × Int)) (at_ : Int) : Value := match o with
  | .some (c, n) => .tuple #[.int .u8 c, .int .i64 n, .bool true]
  | .none => .tuple #[.int .u8 0, .int .i64 at_, .bool false]

theorem atB_tail (s : ByteArray) (k j : Nat) : atB (s.extract k s.size) j = atB s (k + j) := by
  unfold atB
  rw [Lib.extract_to_end, List.getD_eq_getElem?_getD, List.getD_eq_getElem?_getD, List.getElem?_drop]
theorem hexB_tail (s : ByteArray) (k : Nat) (h : k ≤ s.size) : hexB (s.extract k s.size) =
    if k + 2 < s.size ∧ atB s k = 120 ∧ 0 ≤ dig (atB s (k + 1)) ∧ 0 ≤ dig (atB s (k + 2)) then some (16 * dig (atB s (k + 1)) + dig (atB s (k + 2))) else none := by
  unfold hexB
  rw [atB_tail s k 0, atB_tail s k 1, atB_tail s k 2, Nat.add_zero]
  have e : (s.extract k s.size).size = s.size - k := by simp
  rw [e]
  by_cases h1 : k + 2 < s.size
  · have h2 : 3 ≤ s.size - k := by omega
    simp only [h1, h2, true_and]
  · have h2 : ¬ 3 ≤ s.size - k := by omega
    simp only [h1, h2, false_and, if_false]

set_option maxHeartbeats 2000000 in
theorem unescape_out (s : ByteArray) (hs : s.size ≤ 1000000) (at_ : Int) (h : at_ < 0 ∨ s.size ≤ at_) (w : World) :
    Calls Tryd.prog 74 #[.string s, .int .i64 at_] w fun e w' => e = .returned (unV none at_) ∧ w = w' := by
  rcases h with h | h
  · go_enter Tryd.func74, Tryd.ntmps74
    go_wp2
    go_ret3
    exact ⟨rfl, rfl⟩
  · have h' : ¬ at_ < 0 := by omega
    go_enter Tryd.func74, Tryd.ntmps74
    go_wp2
    go_ret3
    exact ⟨rfl, rfl⟩

set_option maxHeartbeats 4000000 in
theorem unescape_in (s : ByteArray) (hs : s.size ≤ 1000000) (k : Nat) (hk : k < s.size) (w : World) :
    Calls Tryd.prog 74 #[.string s, .int .i64 k] w fun e w' => e = .returned (unV (un s k) k) ∧ Below w.heap.size w w' := by
  have e0 := atB_eq s k hk
  have hlt : (k : Int) < s.size := by omega
  by_cases h1 : atB s k < 32
  · have e : un s k = none := by unfold un; rw [if_pos (.inl h1)]
    have E := Lib.hid e
    have x : (s[k].toNat : Int) < 32 := by omega
    clear e e0 h1
    go_enter Tryd.func74, Tryd.ntmps74
    go_wp2
    go_ret3
    rw [E.out]
    exact ⟨rfl, Below.refl _ _⟩
  by_cases h2 : 126 < atB s k
  · have e : un s k = none := by unfold un; rw [if_pos (.inr h2)]
    have E := Lib.hid e
    have x1 : ¬ (s[k].toNat : Int) < 32 := by omega
    have x : 126 < (s[k].toNat : Int) := by omega
    clear e e0 h1 h2
    go_enter Tryd.func74, Tryd.ntmps74
    go_wp2
    go_ret3
    rw [E.out]
    exact ⟨rfl, Below.refl _ _⟩
  have x1 : ¬ (s[k].toNat : Int) < 32 := by omega
  have x2 : ¬ 126 < (s[k].toNat : Int) := by omega
  by_cases h3 : atB s k = 92
  · have x3 : ((s[k].toNat : Int) != 92) = false := by rw [bne_eq_false_iff_eq]; omega
    clear e0 h1 h2
    have Hn : Hid (un s k = if s.size ≤ k + 1 then none else if isByteL (atB s (k + 1)) = true then some (byteL (atB s (k + 1)), (k : Int) + 2) else if k + 3 < s.size ∧ atB s (k + 1) = 120 ∧ 0 ≤ dig (atB s (k + 2)) ∧ 0 ≤ dig (atB s (k + 3)) then some (16 * dig (atB s (k + 2)) + dig (atB s (k + 3)), (k : Int) + 4) else none) :=
      Lib.hid (by unfold un; rw [if_neg (by omega), if_neg (by omega)])
    clear h3
    by_cases h4 : s.size ≤ k + 1
    · have hem : (s.extract (k + 1) s.size).toList.isEmpty = true := by
        rw [ByteArray.toList_eq, Lib.extract_to_end, List.isEmpty_iff, List.drop_eq_nil_iff, Array.length_toList]; exact h4
      go_enter Tryd.func74, Tryd.ntmps74
      go_wp2
      go_ret3
      rw [Hn.out, if_pos h4]
      exact ⟨rfl, Below.refl _ _⟩
    · have hem : (s.extract (k + 1) s.size).toList.isEmpty = false := by
        rw [ByteArray.toList_eq, Lib.extract_to_end, List.isEmpty_eq_false_iff, ne_eq, List.drop_eq_nil_iff, Array.length_toList]; exact h4
      have hsz : (s.extract (k + 1) s.size).size = s.size - (k + 1) := by simp
      have hpos : 0 < (s.extract (k + 1) s.size).size := by omega
      have t0 : ((s.extract (k + 1) s.size)[0].toNat : Int) = atB s (k + 1) := by
        rw [← atB_eq _ 0 hpos, atB_tail s (k + 1) 0, Nat.add_zero]
      have T0 := Lib.hid t0
      have hx := hexB_tail s (k + 1) (by omega)
      have Hx := Lib.hid hx
      have hp2 : 0 < s.size - (k + 1) := by omega
      clear t0 hx hsz
      by_cases h5 : isByteL (atB s (k + 1)) = true
      · have q : isByteL ((s.extract (k + 1) s.size)[0].toNat : Int) = true := by rw [T0.out]; exact h5
        have H5 := Lib.hid h5
        clear h5
        go_enter Tryd.func74, Tryd.ntmps74
        go_wp2_with (go_at_call 87; refine (byteof_any _ _).mono ?_; rintro e w1 ⟨rfl, hb1⟩)
        go_ret3
        rw [Hn.out, if_neg h4, if_pos H5.out, ← T0.out]
        exact ⟨rfl, by assumption⟩
      · have q : isByteL ((s.extract (k + 1) s.size)[0].toNat : Int) = false := by rw [T0.out]; simpa using h5
        have H5 := Lib.hid h5
        clear h5
        by_cases h6 : k + 3 < s.size ∧ atB s (k + 1) = 120 ∧ 0 ≤ dig (atB s (k + 2)) ∧ 0 ≤ dig (atB s (k + 3))
        · have e : hexB (s.extract (k + 1) s.size) = some (16 * dig (atB s (k + 2)) + dig (atB s (k + 3))) := by
            rw [Hx.out, if_pos (by simpa [Nat.add_assoc] using h6)]
          have E := Lib.hid e
          have H6 := Lib.hid h6
          clear e h6
          go_enter Tryd.func74, Tryd.ntmps74
          go_wp2_with (first | (go_at_call 87; refine (byteof_any _ _).mono ?_; rintro e w1 ⟨rfl, hb1⟩) | (go_at_call 88; refine (hexof_any _ (by simp; omega) _).mono ?_; rw [E.out]; rintro e w2 ⟨rfl, hb2⟩; unfold hexV))
          go_ret3
          rw [Hn.out, if_neg h4, if_neg H5.out, if_pos H6.out]
          exact ⟨rfl, Below.trans (by assumption) (Below.mono (by assumption) (Below.size (by assumption)))⟩
        · have e : hexB (s.extract (k + 1) s.size) = none := by
            rw [Hx.out, if_neg (by simpa [Nat.add_assoc] using h6)]
          have E := Lib.hid e
          have H6 := Lib.hid h6
          clear e h6
          go_enter Tryd.func74, Tryd.ntmps74
          go_wp2_with (first | (go_at_call 87; refine (byteof_any _ _).mono ?_; rintro e w1 ⟨rfl, hb1⟩) | (go_at_call 88; refine (hexof_any _ (by simp; omega) _).mono ?_; rw [E.out]; rintro e w2 ⟨rfl, hb2⟩; unfold hexV))
          go_ret3
          rw [Hn.out, if_neg h4, if_neg H5.out, if_neg H6.out]
          exact ⟨rfl, Below.trans (by assumption) (Below.mono (by assumption) (Below.size (by assumption)))⟩
  · have e : un s k = some ((s[k].toNat : Int), (k : Int) + 1) := by unfold un; rw [if_neg (by omega), if_pos h3, e0]
    have E := Lib.hid e
    have x3 : ((s[k].toNat : Int) != 92) = true := by rw [bne_iff_ne]; omega
    clear e e0 h1 h2 h3
    go_enter Tryd.func74, Tryd.ntmps74
    go_wp2
    go_ret3
    rw [E.out]
    exact ⟨rfl, Below.refl _ _⟩
end Go.Proofs.YtifmbhcajlnhbaaDoor
