/-
  Layer 2, the program's side: what stands between tokens.
-/
import Derived.Test.YtifmbhcajlnhbaaDoorPWords
import Derived.Test.YtifmbhcajlnhbaaDoorToks
import Derived.Test.YtifmbhcajlnhbaaDoorShelf
namespace Go.Proofs.YtifmbhcajlnhbaaDoor
set_option linter.unusedVariables false
open Go.ChangeShapes Go.WideShapes Go.ChangeAt Go.RowKit

theorem cut_list (s : ByteArray) (i : Nat) : (s.extract i s.size).data.toList = s.data.toList.drop i := by
  rw [Lib.extract_data, List.take_of_length_le]
  rw [List.length_drop, Array.length_toList]; exact Nat.le_refl _
theorem pre_two (s : ByteArray) (i : Nat) (a b : UInt8) : Lib.hasPrefix (s.extract i s.size).data.toList [a, b] = twoAt s i a.toNat b.toNat := by
  rw [cut_list]
  have hl : s.data.toList.length = s.size := Array.length_toList
  unfold Lib.hasPrefix twoAt
  by_cases h : i + 2 ≤ s.size
  · rw [List.drop_eq_getElem_cons (by omega), List.drop_eq_getElem_cons (by omega)]
    have e0 : atB s i = (s.data.toList[i].toNat : Int) := by unfold atB; rw [List.getD_eq_getElem?_getD, List.getElem?_eq_getElem (by omega)]; rfl
    have e1 : atB s (i + 1) = (s.data.toList[i + 1].toNat : Int) := by unfold atB; rw [List.getD_eq_getElem?_getD, List.getElem?_eq_getElem (by omega)]; rfl
    rw [e0, e1]
    generalize s.data.toList[i] = x
    generalize s.data.toList[i + 1] = y
    have hx : ((x.toNat : Int) = (a.toNat : Int)) ↔ a = x := ⟨fun h => (UInt8.toNat_inj.1 (by omega)), fun h => by rw [h]⟩
    have hy : ((y.toNat : Int) = (b.toNat : Int)) ↔ b = y := ⟨fun h => (UInt8.toNat_inj.1 (by omega)), fun h => by rw [h]⟩
    rw [Bool.eq_iff_iff, decide_eq_true_iff, hx, hy]
    simp [List.isPrefixOf, h]
  · rw [eq_comm, Bool.eq_iff_iff, decide_eq_true_iff]
    constructor
    · intro h'; exact absurd h'.1 h
    · intro h'
      have := (List.isPrefixOf_iff_prefix.1 h').length_le
      rw [List.length_drop] at this
      simp at this
      omega
theorem pre_dash (s : ByteArray) (i : Nat) (w : World) : Calls Tryd.prog 49 #[.string (s.extract i s.size), .string ⟨#[45, 45]⟩] w fun e w' => e = .returned (.bool (twoAt s i 45 45)) ∧ w = w' :=
  (Tryd.strings_HasPrefix _ _ w).mono fun e w' ⟨h, h'⟩ => ⟨by rw [h]; exact ret_bool (pre_two s i 45 45), h'.symm⟩
theorem pre_open (s : ByteArray) (i : Nat) (w : World) : Calls Tryd.prog 49 #[.string (s.extract i s.size), .string ⟨#[123, 45]⟩] w fun e w' => e = .returned (.bool (twoAt s i 123 45)) ∧ w = w' :=
  (Tryd.strings_HasPrefix _ _ w).mono fun e w' ⟨h, h'⟩ => ⟨by rw [h]; exact ret_bool (pre_two s i 123 45), h'.symm⟩
theorem pre_close (s : ByteArray) (i : Nat) (w : World) : Calls Tryd.prog 49 #[.string (s.extract i s.size), .string ⟨#[45, 125]⟩] w fun e w' => e = .returned (.bool (twoAt s i 45 125)) ∧ w = w' :=
  (Tryd.strings_HasPrefix _ _ w).mono fun e w' ⟨h, h'⟩ => ⟨by rw [h]; exact ret_bool (pre_two s i 45 125), h'.symm⟩

theorem idx_or : ∀ (l : List UInt8) (c : UInt8), Lib.indexByte l c = -1 ∨ ∃ o : Nat, Lib.indexByte l c = o
  | [], _ => .inl rfl
  | b :: l, c => by
    unfold Lib.indexByte
    split
    · exact .inr ⟨0, rfl⟩
    · rcases idx_or l c with h | ⟨o, h⟩
      · rw [h]; exact .inl rfl
      · rw [h]; exact .inr ⟨o + 1, by first | rfl | (split <;> omega) | omega⟩
/-- how far the line's feed is; -1: none -/
def lineIdx (s : ByteArray) (i : Nat) : Int := if lineTo s (s.size - i) i < s.size then (lineTo s (s.size - i) i : Int) - i else -1
theorem idx_line (s : ByteArray) (i : Nat) (hi : i ≤ s.size) (w : World) : Calls Tryd.prog 50 #[.string (s.extract i s.size), .int .u8 10] w fun e w' => e = .returned (.int .i64 (lineIdx s i)) ∧ w = w' := by
  refine (Tryd.strings_IndexByte _ _ w).mono fun e w' ⟨h, h'⟩ => ⟨?_, h'.symm⟩
  rw [h]
  refine ret_int ?_
  rw [cut_list]
  obtain ⟨a, b, c, d⟩ := lineTo_ok s (s.size - i) i hi (Nat.le_refl _)
  have hl : s.data.toList.length = s.size := Array.length_toList
  have hat : ∀ k, k < s.size → (s.data.toList[k]? = some 10 ↔ atB s k = 10) := by
    intro k hk
    unfold atB
    rw [List.getD_eq_getElem?_getD, List.getElem?_eq_getElem (by omega)]
    simp only [Option.some.injEq, Option.getD_some]
    exact ⟨fun h => by rw [h]; rfl, fun h => UInt8.toNat_inj.1 (by show _ = 10; omega)⟩
  unfold lineIdx
  show Lib.indexByte (s.data.toList.drop i) 10 = _
  generalize lineTo s (s.size - i) i = m at a b c d
  rcases idx_or (s.data.toList.drop i) 10 with he | ⟨o, he⟩
  · have hno := Lib.indexByte_none he
    have : m = s.size := by
      rcases d with d | d
      · exact d
      · rcases Nat.lt_or_ge m s.size with hlt | hge
        · have := hno (m - i)
          rw [List.getElem?_drop, show i + (m - i) = m from by omega] at this
          exact absurd ((hat m hlt).2 d) this
        · omega
    rw [if_neg (by omega)]; exact he
  · obtain ⟨h1, h2⟩ := Lib.indexByte_some he
    rw [List.getElem?_drop] at h1
    have hlt : i + o < s.size := by
      rcases Nat.lt_or_ge (i + o) s.size with h' | h'
      · exact h'
      · rw [List.getElem?_eq_none (by omega)] at h1; cases h1
    have h1' := (hat _ hlt).1 h1
    have hm : m = i + o := by
      rcases Nat.lt_trichotomy m (i + o) with q | q | q
      · rcases d with d | d
        · omega
        · have := h2 (m - i) (by omega)
          rw [List.getElem?_drop, show i + (m - i) = m from by omega] at this
          exact absurd ((hat m (by omega)).2 d) this
      · exact q
      · exact absurd h1' (c (i + o) (by omega) q)
    rw [if_pos (by omega), he, hm]
    omega

theorem class_at (s : ByteArray) (i : Nat) (hi : i < s.size) (w : World) : Calls Tryd.prog 27 #[.int .u8 s[i].toNat] w fun e w' => e = .returned (.int .i64 (cls (atB s i))) ∧ w = w' := by
  have h := atB_eq s i hi
  have hb := s[i].toNat_lt
  rw [h]
  exact class_any _ (by omega) (by omega) w
theorem class_cut (s : ByteArray) (i : Nat) (h : 0 < (s.extract i s.size).size) (w : World) : Calls Tryd.prog 27 #[.int .u8 (s.extract i s.size)[0].toNat] w fun e w' => e = .returned (.int .i64 (cls (atB s i))) ∧ w = w' := by
  have e : atB (s.extract i s.size) 0 = atB s i := atB_tail s i 0
  rw [← e]
  exact class_at _ 0 h w

/-- behind the Space or the note at i; none: it is no note -/
def stepAt (s : ByteArray) (i : Nat) : Option Nat := if s.size ≤ i then some i else if cls (atB s i) = 1 then some (i + 1) else if twoAt s i 45 45 = true then some (lineTo s (s.size - i) i) else if twoAt s i 123 45 = true then noteAt s i else some i
def stV (o : Option Nat) : Value := match o with
  | .some m => .tuple #[.int .i64 m, .bool true]
  | .none => .tuple #[.int .i64 0, .bool false]
theorem ret_st {a : Option Nat} {m : Int} {n : Nat} (h : a = some n) (hm : m = n) : Ending.returned (.tuple #[.int .i64 m, .bool true]) = .returned (stV a) := by rw [h, hm]; rfl
theorem ret_no {a : Option Nat} (h : a = none) : Ending.returned (.tuple #[.int .i64 0, .bool false]) = .returned (stV a) := by rw [h]; rfl

set_option maxHeartbeats 8000000 in
set_option maxRecDepth 100000 in
theorem pnote_any (s : ByteArray) (hs : s.size ≤ 1000000) (k : Nat) (hk : k < s.size) (h2 : twoAt s k 123 45 = true) (w : World) :
    Calls Tryd.prog 51 #[.string s, .int .i64 k] w fun e w' => e = .returned (stV (noteAt s k)) ∧ w = w' := by
  go_enter Tryd.func51, Tryd.ntmps51
  go_wp2
  go_loop [1, 6, 7] (fun iv dv _ => ∃ (m d : Nat), m ≤ s.size ∧ iv = .int .i64 m ∧ dv = .int .i64 d ∧ d ≤ 100 ∧ Hid (noteAt s k = note s (s.size - m) d m ∧ (d = 0 → m = k))) (fun iv _ _ => s.size - (intOf iv).toNat)
  case atStart => exact ⟨k, 0, by omega, rfl, rfl, by omega, Lib.hid ⟨rfl, fun _ => rfl⟩⟩
  case round =>
    obtain ⟨m, d, hm, rfl, rfl, hd, H⟩ := hrel
    by_cases hlt : m < s.size
    · have hstep := note_step s d m hlt
      by_cases c4 : twoAt s m 123 45 = true
      · rw [if_pos c4] at hstep
        have hf2 := (two_fits c4).1
        by_cases c5 : 100 ≤ d
        · rw [if_pos c5] at hstep
          have HN := Lib.hid (H.out.1.trans hstep)
          obtain rfl : d = 100 := by omega
          clear hstep
          go_wp2_with fail
          refine (pre_open s m _).mono ?_
          rintro e w' ⟨rfl, rfl⟩
          go_wp2
          go_ret2
          exact ⟨ret_no HN.out, rfl⟩
        · rw [if_neg c5] at hstep
          have HN := Lib.hid (H.out.1.trans hstep)
          have q1 : ((d : Int) + 1 == 0) = false := by rw [beq_eq_false_iff_ne]; omega
          clear hstep
          go_wp2_with fail
          refine (pre_open s m _).mono ?_
          rintro e w' ⟨rfl, rfl⟩
          go_wp2
          go_round
          case rel => exact ⟨m + 2, d + 1, by omega, by go_num, by go_num, by omega, Lib.hid ⟨HN.out, fun h => by omega⟩⟩
          case measure => simp [intOf]; omega
      · rw [if_neg c4] at hstep
        have q4 : twoAt s m 123 45 = false := by simpa using c4
        have hd1 : 1 ≤ d := by
          rcases Nat.lt_or_ge 0 d with h | h
          · exact h
          · obtain rfl : m = k := H.out.2 (by omega)
            exact absurd h2 c4
        by_cases c5 : twoAt s m 45 125 = true
        · rw [if_pos c5] at hstep
          have hf2 := (two_fits c5).1
          by_cases c7 : d ≤ 1
          · rw [if_pos c7] at hstep
            have HN := Lib.hid (H.out.1.trans hstep)
            obtain rfl : d = 1 := by omega
            clear hstep c4
            go_wp2_with fail
            refine (pre_open s m _).mono ?_
            rintro e w' ⟨rfl, rfl⟩
            go_wp2_with fail
            refine (pre_close s m _).mono ?_
            rintro e w' ⟨rfl, rfl⟩
            go_wp2
            go_ret2
            exact ⟨ret_st HN.out (by omega), rfl⟩
          · rw [if_neg c7] at hstep
            have HN := Lib.hid (H.out.1.trans hstep)
            have q1 : ((d : Int) - 1 == 0) = false := by rw [beq_eq_false_iff_ne]; omega
            clear hstep c4
            go_wp2_with fail
            refine (pre_open s m _).mono ?_
            rintro e w' ⟨rfl, rfl⟩
            go_wp2_with fail
            refine (pre_close s m _).mono ?_
            rintro e w' ⟨rfl, rfl⟩
            go_wp2
            go_round
            case rel => exact ⟨m + 2, d - 1, by omega, by go_num, by rw [show ((d - 1 : Nat) : Int) = (d : Int) - 1 from by omega], by omega, Lib.hid ⟨HN.out, fun h => by omega⟩⟩
            case measure => simp [intOf]; omega
        · rw [if_neg c5] at hstep
          have q5 : twoAt s m 45 125 = false := by simpa using c5
          have HN := Lib.hid (H.out.1.trans hstep)
          have q1 : ((d : Int) == 0) = false := by rw [beq_eq_false_iff_ne]; omega
          clear hstep c4 c5
          go_wp2_with fail
          refine (pre_open s m _).mono ?_
          rintro e w' ⟨rfl, rfl⟩
          go_wp2_with fail
          refine (pre_close s m _).mono ?_
          rintro e w' ⟨rfl, rfl⟩
          go_wp2
          go_round
          case rel => exact ⟨m + 1, d, by omega, by go_num, rfl, by omega, Lib.hid ⟨HN.out, fun h => by omega⟩⟩
          case measure => simp [intOf]; omega
    · have hn := note_end s (s.size - m) d m (by omega)
      have HN := Lib.hid (H.out.1.trans hn)
      clear hn
      go_wp2
      go_ret2
      exact ⟨ret_no HN.out, rfl⟩

set_option maxHeartbeats 8000000 in
set_option maxRecDepth 100000 in
theorem pskip_any (s : ByteArray) (hs : s.size ≤ 1000000) (k : Nat) (hk : k ≤ s.size) (w : World) :
    Calls Tryd.prog 35 #[.string s, .int .i64 k] w fun e w' => e = .returned (stV (stepAt s k)) ∧ w = w' := by
  have hst : stepAt s k = if s.size ≤ k then some k else if cls (atB s k) = 1 then some (k + 1) else if twoAt s k 45 45 = true then some (lineTo s (s.size - k) k) else if twoAt s k 123 45 = true then noteAt s k else some k := rfl
  by_cases hlt : k < s.size
  · have q0 : ((s.extract k s.size).toList == []) = false := by
      rw [beq_eq_false_iff_ne, ByteArray.toList_eq, cut_list]
      intro h
      have := congrArg List.length h
      rw [List.length_drop, Array.length_toList, List.length_nil] at this
      have : s.data.size = s.size := rfl
      omega
    have hpos : 0 < (s.extract k s.size).size := by simp; omega
    have hp2 : 0 < s.size - k := by omega
    rw [if_neg (show ¬ s.size ≤ k by omega)] at hst
    by_cases c1 : cls (atB s k) = 1
    · rw [if_pos c1] at hst
      have Hst := Lib.hid hst
      have q1 : (cls (atB s k) == 1) = true := by rw [beq_iff_eq]; exact c1
      clear hst c1
      go_enter Tryd.func35, Tryd.ntmps35
      go_wp2_with fail
      refine (class_cut s k hpos _).mono ?_
      rintro e w' ⟨rfl, rfl⟩
      go_wp2
      go_ret2
      exact ⟨ret_st Hst.out (by omega), rfl⟩
    · rw [if_neg c1] at hst
      have q1 : (cls (atB s k) == 1) = false := by rw [beq_eq_false_iff_ne]; exact c1
      clear c1
      by_cases c2 : twoAt s k 45 45 = true
      · rw [if_pos c2] at hst
        have hl := line_more c2
        have hidx : lineIdx s k = if lineTo s (s.size - k) k < s.size then (lineTo s (s.size - k) k : Int) - k else -1 := rfl
        by_cases hm : lineTo s (s.size - k) k < s.size
        · rw [if_pos hm] at hidx
          have hge : 0 ≤ (lineTo s (s.size - k) k : Int) - k := by omega
          have Hst := Lib.hid hst
          clear hst
          go_enter Tryd.func35, Tryd.ntmps35
          go_wp2_with fail
          refine (class_cut s k hpos _).mono ?_
          rintro e w' ⟨rfl, rfl⟩
          go_wp2_with fail
          refine (pre_dash s k _).mono ?_
          rintro e w' ⟨rfl, rfl⟩
          go_wp2_with fail
          refine (idx_line s k hk _).mono ?_
          rw [hidx]
          rintro e w' ⟨rfl, rfl⟩
          go_wp2
          go_ret2
          exact ⟨ret_st Hst.out (by omega), rfl⟩
        · rw [if_neg hm] at hidx
          have hms : lineTo s (s.size - k) k = s.size := by omega
          rw [hms] at hst
          have Hst := Lib.hid hst
          clear hst
          go_enter Tryd.func35, Tryd.ntmps35
          go_wp2_with fail
          refine (class_cut s k hpos _).mono ?_
          rintro e w' ⟨rfl, rfl⟩
          go_wp2_with fail
          refine (pre_dash s k _).mono ?_
          rintro e w' ⟨rfl, rfl⟩
          go_wp2_with fail
          refine (idx_line s k hk _).mono ?_
          rw [hidx]
          rintro e w' ⟨rfl, rfl⟩
          go_wp2
          go_ret2
          exact ⟨ret_st Hst.out rfl, rfl⟩
      · rw [if_neg c2] at hst
        have q2 : twoAt s k 45 45 = false := by simpa using c2
        clear c2
        by_cases c3 : twoAt s k 123 45 = true
        · rw [if_pos c3] at hst
          have Hst := Lib.hid hst
          have HS : stV (stepAt s k) = stV (noteAt s k) := by rw [hst]
          clear hst
          rw [HS]
          clear HS
          go_enter Tryd.func35, Tryd.ntmps35
          go_wp2_with fail
          refine (class_cut s k hpos _).mono ?_
          rintro e w' ⟨rfl, rfl⟩
          go_wp2_with fail
          refine (pre_dash s k _).mono ?_
          rintro e w' ⟨rfl, rfl⟩
          go_wp2_with fail
          refine (pre_open s k _).mono ?_
          rintro e w' ⟨rfl, rfl⟩
          go_wp2_with fail
          refine (pnote_any s hs k hlt c3 _).mono ?_
          cases hn : noteAt s k with
          | none =>
            rintro e w' ⟨rfl, rfl⟩
            unfold stV
            go_wp2
            go_ret2
            exact ⟨ret_no hn, rfl⟩
          | some m =>
            rintro e w' ⟨rfl, rfl⟩
            unfold stV
            go_wp2
            go_ret2
            exact ⟨ret_st hn rfl, rfl⟩
        · rw [if_neg c3] at hst
          have q3 : twoAt s k 123 45 = false := by simpa using c3
          have Hst := Lib.hid hst
          clear hst c3
          go_enter Tryd.func35, Tryd.ntmps35
          go_wp2_with fail
          refine (class_cut s k hpos _).mono ?_
          rintro e w' ⟨rfl, rfl⟩
          go_wp2_with fail
          refine (pre_dash s k _).mono ?_
          rintro e w' ⟨rfl, rfl⟩
          go_wp2_with fail
          refine (pre_open s k _).mono ?_
          rintro e w' ⟨rfl, rfl⟩
          go_wp2
          go_ret2
          exact ⟨ret_st Hst.out rfl, rfl⟩
  · have hks : k = s.size := by omega
    rw [if_pos (by omega)] at hst
    have q0 : ((s.extract k s.size).toList == []) = true := by
      rw [beq_iff_eq, ByteArray.toList_eq, cut_list]
      exact List.drop_eq_nil_of_le (by rw [Array.length_toList]; show s.size ≤ k; omega)
    have Hst := Lib.hid hst
    clear hst
    go_enter Tryd.func35, Tryd.ntmps35
    go_wp2
    go_ret2
    exact ⟨ret_st Hst.out rfl, rfl⟩
end Go.Proofs.YtifmbhcajlnhbaaDoor
