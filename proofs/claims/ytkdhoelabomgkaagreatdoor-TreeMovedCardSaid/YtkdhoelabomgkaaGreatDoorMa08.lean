/- Texts of this proof, joined: PSkip, PRead. No condition. -/
import Derived.Test.YtkdhoelabomgkaaGreatDoorMa07
import Derived.Test.YtkdhoelabomgkaaGreatDoorMa04
import Derived.OwnWalk
/-
  Layer 2, the program's side: what stands between tokens.
-/
namespace Go.Proofs.YtkdhoelabomgkaaGreatDoor
set_option linter.unusedVariables false
open Go.ChangeShapes Go.WideShapes Go.ChangeAt Go.RowKit

theorem cut_list (s : ByteArray) (i : Nat) : (s.extract i s.size).data.toList = s.data.toList.drop i := by
  rw [Lib.extract_data, List.take_of_length_le]
  rw [List.length_drop, Array.length_toList]; exact Nat.le_refl _
theorem pre_two (s : ByteArray) (i : Nat) (a b : UInt8) : Lib.hasPrefix (s.extract i s.size).data.toList [a, b] = twoAt s i a.toNat b.toNat := by
  rw [cut_list]
  have hl : s.data.toList.length = s.size := Array.length_toList
  unfold Lib.hasPrefix twoAt
  by_cases h : i + 2 ≤ s.size
  · rw [List.drop_eq_getElem_cons (by omega), List.drop_eq_getElem_cons (by omega)]
    have e0 : atB s i = (s.data.toList[i].toNat : Int) := by unfold atB; rw [List.getD_eq_getElem?_getD, List.getElem?_eq_getElem (by omega)]; rfl
    have e1 : atB s (i + 1) = (s.data.toList[i + 1].toNat : Int) := by unfold atB; rw [List.getD_eq_getElem?_getD, List.getElem?_eq_getElem (by omega)]; rfl
    rw [e0, e1]
    generalize s.data.toList[i] = x
    generalize s.data.toList[i + 1] = y
    have hx : ((x.toNat : Int) = (a.toNat : Int)) ↔ a = x := ⟨fun h => (UInt8.toNat_inj.1 (by omega)), fun h => by rw [h]⟩
    have hy : ((y.toNat : Int) = (b.toNat : Int)) ↔ b = y := ⟨fun h => (UInt8.toNat_inj.1 (by omega)), fun h => by rw [h]⟩
    rw [Bool.eq_iff_iff, decide_eq_true_iff, hx, hy]
    simp [List.isPrefixOf, h]
  · rw [eq_comm, Bool.eq_iff_iff, decide_eq_true_iff]
    constructor
    · intro h'; exact absurd h'.1 h
    · intro h'
      have := (List.isPrefixOf_iff_prefix.1 h').length_le
      rw [List.length_drop] at this
      simp at this
      omega
theorem pre_dash (s : ByteArray) (i : Nat) (w : World) : Calls Tryz.prog 130 #[.string (s.extract i s.size), .string ⟨#[45, 45]⟩] w fun e w' => e = .returned (.bool (twoAt s i 45 45)) ∧ w = w' :=
  (Tryz.strings_HasPrefix _ _ w).mono fun e w' ⟨h, h'⟩ => ⟨by rw [h]; exact ret_bool (pre_two s i 45 45), h'.symm⟩
theorem pre_open (s : ByteArray) (i : Nat) (w : World) : Calls Tryz.prog 130 #[.string (s.extract i s.size), .string ⟨#[123, 45]⟩] w fun e w' => e = .returned (.bool (twoAt s i 123 45)) ∧ w = w' :=
  (Tryz.strings_HasPrefix _ _ w).mono fun e w' ⟨h, h'⟩ => ⟨by rw [h]; exact ret_bool (pre_two s i 123 45), h'.symm⟩
theorem pre_close (s : ByteArray) (i : Nat) (w : World) : Calls Tryz.prog 130 #[.string (s.extract i s.size), .string ⟨#[45, 125]⟩] w fun e w' => e = .returned (.bool (twoAt s i 45 125)) ∧ w = w' :=
  (Tryz.strings_HasPrefix _ _ w).mono fun e w' ⟨h, h'⟩ => ⟨by rw [h]; exact ret_bool (pre_two s i 45 125), h'.symm⟩

theorem idx_or : ∀ (l : List UInt8) (c : UInt8), Lib.indexByte l c = -1 ∨ ∃ o : Nat, Lib.indexByte l c = o
  | [], _ => .inl rfl
  | b :: l, c => by
    unfold Lib.indexByte
    split
    · exact .inr ⟨0, rfl⟩
    · rcases idx_or l c with h | ⟨o, h⟩
      · rw [h]; exact .inl rfl
      · rw [h]; exact .inr ⟨o + 1, by first | rfl | (split <;> omega) | omega⟩
/-- how far the line's feed is; -1: none -/
def lineIdx (s : ByteArray) (i : Nat) : Int := if lineTo s (s.size - i) i < s.size then (lineTo s (s.size - i) i : Int) - i else -1
theorem idx_line (s : ByteArray) (i : Nat) (hi : i ≤ s.size) (w : World) : Calls Tryz.prog 131 #[.string (s.extract i s.size), .int .u8 10] w fun e w' => e = .returned (.int .i64 (lineIdx s i)) ∧ w = w' := by
  refine (Tryz.strings_IndexByte _ _ w).mono fun e w' ⟨h, h'⟩ => ⟨?_, h'.symm⟩
  rw [h]
  refine ret_int ?_
  rw [cut_list]
  obtain ⟨a, b, c, d⟩ := lineTo_ok s (s.size - i) i hi (Nat.le_refl _)
  have hl : s.data.toList.length = s.size := Array.length_toList
  have hat : ∀ k, k < s.size → (s.data.toList[k]? = some 10 ↔ atB s k = 10) := by
    intro k hk
    unfold atB
    rw [List.getD_eq_getElem?_getD, List.getElem?_eq_getElem (by omega)]
    simp only [Option.some.injEq, Option.getD_some]
    exact ⟨fun h => by rw [h]; rfl, fun h => UInt8.toNat_inj.1 (by show _ = 10; omega)⟩
  unfold lineIdx
  show Lib.indexByte (s.data.toList.drop i) 10 = _
  generalize lineTo s (s.size - i) i = m at a b c d
  rcases idx_or (s.data.toList.drop i) 10 with he | ⟨o, he⟩
  · have hno := Lib.indexByte_none he
    have : m = s.size := by
      rcases d with d | d
      · exact d
      · rcases Nat.lt_or_ge m s.size with hlt | hge
        · have := hno (m - i)
          rw [List.getElem?_drop, show i + (m - i) = m from by omega] at this
          exact absurd ((hat m hlt).2 d) this
        · omega
    rw [if_neg (by omega)]; exact he
  · obtain ⟨h1, h2⟩ := Lib.indexByte_some he
    rw [List.getElem?_drop] at h1
    have hlt : i + o < s.size := by
      rcases Nat.lt_or_ge (i + o) s.size with h' | h'
      · exact h'
      · rw [List.getElem?_eq_none (by omega)] at h1; cases h1
    have h1' := (hat _ hlt).1 h1
    have hm : m = i + o := by
      rcases Nat.lt_trichotomy m (i + o) with q | q | q
      · rcases d with d | d
        · omega
        · have := h2 (m - i) (by omega)
          rw [List.getElem?_drop, show i + (m - i) = m from by omega] at this
          exact absurd ((hat m (by omega)).2 d) this
      · exact q
      · exact absurd h1' (c (i + o) (by omega) q)
    rw [if_pos (by omega), he, hm]
    omega

theorem class_at (s : ByteArray) (i : Nat) (hi : i < s.size) (w : World) : Calls Tryz.prog 120 #[.int .u8 s[i].toNat] w fun e w' => e = .returned (.int .i64 (cls (atB s i))) ∧ w = w' := by
  have h := atB_eq s i hi
  have hb := s[i].toNat_lt
  rw [h]
  exact class_any _ (by omega) (by omega) w
theorem class_cut (s : ByteArray) (i : Nat) (h : 0 < (s.extract i s.size).size) (w : World) : Calls Tryz.prog 120 #[.int .u8 (s.extract i s.size)[0].toNat] w fun e w' => e = .returned (.int .i64 (cls (atB s i))) ∧ w = w' := by
  have e : atB (s.extract i s.size) 0 = atB s i := atB_tail s i 0
  rw [← e]
  exact class_at _ 0 h w

/-- behind the Space or the note at i; none: it is no note -/
def stepAt (s : ByteArray) (i : Nat) : Option Nat := if s.size ≤ i then some i else if cls (atB s i) = 1 then some (i + 1) else if twoAt s i 45 45 = true then some (lineTo s (s.size - i) i) else if twoAt s i 123 45 = true then noteAt s i else some i
def stV (o : Option Nat) : Value := match o with
  | .some m => .tuple #[.int .i64 m, .bool true]
  | .none => .tuple #[.int .i64 0, .bool false]
theorem ret_st {a : Option Nat} {m : Int} {n : Nat} (h : a = some n) (hm : m = n) : Ending.returned (.tuple #[.int .i64 m, .bool true]) = .returned (stV a) := by rw [h, hm]; rfl
theorem ret_no {a : Option Nat} (h : a = none) : Ending.returned (.tuple #[.int .i64 0, .bool false]) = .returned (stV a) := by rw [h]; rfl

set_option maxHeartbeats 8000000 in
set_option maxRecDepth 100000 in
theorem pnote_any (s : ByteArray) (hs : s.size ≤ 1000000) (k : Nat) (hk : k < s.size) (h2 : twoAt s k 123 45 = true) (w : World) :
    Calls Tryz.prog 132 #[.string s, .int .i64 k] w fun e w' => e = .returned (stV (noteAt s k)) ∧ w = w' := by
  go_enter Tryz.func132, Tryz.ntmps132
  go_wp2
  go_loop [1, 6, 7] (fun iv dv _ => ∃ (m d : Nat), m ≤ s.size ∧ iv = .int .i64 m ∧ dv = .int .i64 d ∧ d ≤ 100 ∧ Hid (noteAt s k = note s (s.size - m) d m ∧ (d = 0 → m = k))) (fun iv _ _ => s.size - (intOf iv).toNat)
  case atStart => exact ⟨k, 0, by omega, rfl, rfl, by omega, Lib.hid ⟨rfl, fun _ => rfl⟩⟩
  case round =>
    obtain ⟨m, d, hm, rfl, rfl, hd, H⟩ := hrel
    by_cases hlt : m < s.size
    · have hstep := note_step s d m hlt
      by_cases c4 : twoAt s m 123 45 = true
      · rw [if_pos c4] at hstep
        have hf2 := (two_fits c4).1
        by_cases c5 : 100 ≤ d
        · rw [if_pos c5] at hstep
          have HN := Lib.hid (H.out.1.trans hstep)
          obtain rfl : d = 100 := by omega
          clear hstep
          go_wp2_with fail
          refine (pre_open s m _).mono ?_
          rintro e w' ⟨rfl, rfl⟩
          go_wp2
          go_ret2
          exact ⟨ret_no HN.out, rfl⟩
        · rw [if_neg c5] at hstep
          have HN := Lib.hid (H.out.1.trans hstep)
          have q1 : ((d : Int) + 1 == 0) = false := by rw [beq_eq_false_iff_ne]; omega
          clear hstep
          go_wp2_with fail
          refine (pre_open s m _).mono ?_
          rintro e w' ⟨rfl, rfl⟩
          go_wp2
          go_round
          case rel => exact ⟨m + 2, d + 1, by omega, by go_num, by go_num, by omega, Lib.hid ⟨HN.out, fun h => by omega⟩⟩
          case measure => simp [intOf]; omega
      · rw [if_neg c4] at hstep
        have q4 : twoAt s m 123 45 = false := by simpa using c4
        have hd1 : 1 ≤ d := by
          rcases Nat.lt_or_ge 0 d with h | h
          · exact h
          · obtain rfl : m = k := H.out.2 (by omega)
            exact absurd h2 c4
        by_cases c5 : twoAt s m 45 125 = true
        · rw [if_pos c5] at hstep
          have hf2 := (two_fits c5).1
          by_cases c7 : d ≤ 1
          · rw [if_pos c7] at hstep
            have HN := Lib.hid (H.out.1.trans hstep)
            obtain rfl : d = 1 := by omega
            clear hstep c4
            go_wp2_with fail
            refine (pre_open s m _).mono ?_
            rintro e w' ⟨rfl, rfl⟩
            go_wp2_with fail
            refine (pre_close s m _).mono ?_
            rintro e w' ⟨rfl, rfl⟩
            go_wp2
            go_ret2
            exact ⟨ret_st HN.out (by omega), rfl⟩
          · rw [if_neg c7] at hstep
            have HN := Lib.hid (H.out.1.trans hstep)
            have q1 : ((d : Int) - 1 == 0) = false := by rw [beq_eq_false_iff_ne]; omega
            clear hstep c4
            go_wp2_with fail
            refine (pre_open s m _).mono ?_
            rintro e w' ⟨rfl, rfl⟩
            go_wp2_with fail
            refine (pre_close s m _).mono ?_
            rintro e w' ⟨rfl, rfl⟩
            go_wp2
            go_round
            case rel => exact ⟨m + 2, d - 1, by omega, by go_num, by rw [show ((d - 1 : Nat) : Int) = (d : Int) - 1 from by omega], by omega, Lib.hid ⟨HN.out, fun h => by omega⟩⟩
            case measure => simp [intOf]; omega
        · rw [if_neg c5] at hstep
          have q5 : twoAt s m 45 125 = false := by simpa using c5
          have HN := Lib.hid (H.out.1.trans hstep)
          have q1 : ((d : Int) == 0) = false := by rw [beq_eq_false_iff_ne]; omega
          clear hstep c4 c5
          go_wp2_with fail
          refine (pre_open s m _).mono ?_
          rintro e w' ⟨rfl, rfl⟩
          go_wp2_with fail
          refine (pre_close s m _).mono ?_
          rintro e w' ⟨rfl, rfl⟩
          go_wp2
          go_round
          case rel => exact ⟨m + 1, d, by omega, by go_num, rfl, by omega, Lib.hid ⟨HN.out, fun h => by omega⟩⟩
          case measure => simp [intOf]; omega
    · have hn := note_end s (s.size - m) d m (by omega)
      have HN := Lib.hid (H.out.1.trans hn)
      clear hn
      go_wp2
      go_ret2
      exact ⟨ret_no HN.out, rfl⟩

set_option maxHeartbeats 8000000 in
set_option maxRecDepth 100000 in
theorem pskip_any (s : ByteArray) (hs : s.size ≤ 1000000) (k : Nat) (hk : k ≤ s.size) (w : World) :
    Calls Tryz.prog 128 #[.string s, .int .i64 k] w fun e w' => e = .returned (stV (stepAt s k)) ∧ w = w' := by
  have hst : stepAt s k = if s.size ≤ k then some k else if cls (atB s k) = 1 then some (k + 1) else if twoAt s k 45 45 = true then some (lineTo s (s.size - k) k) else if twoAt s k 123 45 = true then noteAt s k else some k := rfl
  by_cases hlt : k < s.size
  · have q0 : ((s.extract k s.size).toList == []) = false := by
      rw [beq_eq_false_iff_ne, ByteArray.toList_eq, cut_list]
      intro h
      have := congrArg List.length h
      rw [List.length_drop, Array.length_toList, List.length_nil] at this
      have : s.data.size = s.size := rfl
      omega
    have hpos : 0 < (s.extract k s.size).size := by simp; omega
    have hp2 : 0 < s.size - k := by omega
    rw [if_neg (show ¬ s.size ≤ k by omega)] at hst
    by_cases c1 : cls (atB s k) = 1
    · rw [if_pos c1] at hst
      have Hst := Lib.hid hst
      have q1 : (cls (atB s k) == 1) = true := by rw [beq_iff_eq]; exact c1
      clear hst c1
      go_enter Tryz.func128, Tryz.ntmps128
      go_wp2_with fail
      refine (class_cut s k hpos _).mono ?_
      rintro e w' ⟨rfl, rfl⟩
      go_wp2
      go_ret2
      exact ⟨ret_st Hst.out (by omega), rfl⟩
    · rw [if_neg c1] at hst
      have q1 : (cls (atB s k) == 1) = false := by rw [beq_eq_false_iff_ne]; exact c1
      clear c1
      by_cases c2 : twoAt s k 45 45 = true
      · rw [if_pos c2] at hst
        have hl := line_more c2
        have hidx : lineIdx s k = if lineTo s (s.size - k) k < s.size then (lineTo s (s.size - k) k : Int) - k else -1 := rfl
        by_cases hm : lineTo s (s.size - k) k < s.size
        · rw [if_pos hm] at hidx
          have hge : 0 ≤ (lineTo s (s.size - k) k : Int) - k := by omega
          have Hst := Lib.hid hst
          clear hst
          go_enter Tryz.func128, Tryz.ntmps128
          go_wp2_with fail
          refine (class_cut s k hpos _).mono ?_
          rintro e w' ⟨rfl, rfl⟩
          go_wp2_with fail
          refine (pre_dash s k _).mono ?_
          rintro e w' ⟨rfl, rfl⟩
          go_wp2_with fail
          refine (idx_line s k hk _).mono ?_
          rw [hidx]
          rintro e w' ⟨rfl, rfl⟩
          go_wp2
          go_ret2
          exact ⟨ret_st Hst.out (by omega), rfl⟩
        · rw [if_neg hm] at hidx
          have hms : lineTo s (s.size - k) k = s.size := by omega
          rw [hms] at hst
          have Hst := Lib.hid hst
          clear hst
          go_enter Tryz.func128, Tryz.ntmps128
          go_wp2_with fail
          refine (class_cut s k hpos _).mono ?_
          rintro e w' ⟨rfl, rfl⟩
          go_wp2_with fail
          refine (pre_dash s k _).mono ?_
          rintro e w' ⟨rfl, rfl⟩
          go_wp2_with fail
          refine (idx_line s k hk _).mono ?_
          rw [hidx]
          rintro e w' ⟨rfl, rfl⟩
          go_wp2
          go_ret2
          exact ⟨ret_st Hst.out rfl, rfl⟩
      · rw [if_neg c2] at hst
        have q2 : twoAt s k 45 45 = false := by simpa using c2
        clear c2
        by_cases c3 : twoAt s k 123 45 = true
        · rw [if_pos c3] at hst
          have Hst := Lib.hid hst
          have HS : stV (stepAt s k) = stV (noteAt s k) := by rw [hst]
          clear hst
          rw [HS]
          clear HS
          go_enter Tryz.func128, Tryz.ntmps128
          go_wp2_with fail
          refine (class_cut s k hpos _).mono ?_
          rintro e w' ⟨rfl, rfl⟩
          go_wp2_with fail
          refine (pre_dash s k _).mono ?_
          rintro e w' ⟨rfl, rfl⟩
          go_wp2_with fail
          refine (pre_open s k _).mono ?_
          rintro e w' ⟨rfl, rfl⟩
          go_wp2_with fail
          refine (pnote_any s hs k hlt c3 _).mono ?_
          cases hn : noteAt s k with
          | none =>
            rintro e w' ⟨rfl, rfl⟩
            unfold stV
            go_wp2
            go_ret2
            exact ⟨ret_no hn, rfl⟩
          | some m =>
            rintro e w' ⟨rfl, rfl⟩
            unfold stV
            go_wp2
            go_ret2
            exact ⟨ret_st hn rfl, rfl⟩
        · rw [if_neg c3] at hst
          have q3 : twoAt s k 123 45 = false := by simpa using c3
          have Hst := Lib.hid hst
          clear hst c3
          go_enter Tryz.func128, Tryz.ntmps128
          go_wp2_with fail
          refine (class_cut s k hpos _).mono ?_
          rintro e w' ⟨rfl, rfl⟩
          go_wp2_with fail
          refine (pre_dash s k _).mono ?_
          rintro e w' ⟨rfl, rfl⟩
          go_wp2_with fail
          refine (pre_open s k _).mono ?_
          rintro e w' ⟨rfl, rfl⟩
          go_wp2
          go_ret2
          exact ⟨ret_st Hst.out rfl, rfl⟩
  · have hks : k = s.size := by omega
    rw [if_pos (by omega)] at hst
    have q0 : ((s.extract k s.size).toList == []) = true := by
      rw [beq_iff_eq, ByteArray.toList_eq, cut_list]
      exact List.drop_eq_nil_of_le (by rw [Array.length_toList]; show s.size ≤ k; omega)
    have Hst := Lib.hid hst
    clear hst
    go_enter Tryz.func128, Tryz.ntmps128
    go_wp2
    go_ret2
    exact ⟨ret_st Hst.out rfl, rfl⟩
end Go.Proofs.YtkdhoelabomgkaaGreatDoor
/-
  Layer 2, the program's side: one token, but for texts.
-/
namespace Go.Proofs.YtkdhoelabomgkaaGreatDoor
set_option linter.unusedVariables false
open Go.ChangeShapes Go.WideShapes Go.ChangeAt Go.RowKit

/-- a token's cells -/
abbrev tkC (k a f : Int) (t : ByteArray) (n : Int) : Array Value := #[.int .i64 k, .int .i64 a, .int .i64 f, .string t, .int .i64 n]
/-- what read and its like tell -/
def rdV (r : Tk ⊕ (Nat × Int)) : Value := .tuple #[.agg #[.int .i64 (tkOf r).kind, .int .i64 (tkOf r).at_, .int .i64 (tkOf r).fin, .string (tkOf r).text, .int .i64 (tkOf r).n], .int .i64 (erOf r)]
theorem ret_rd {r : Tk ⊕ (Nat × Int)} {x : Tk ⊕ (Nat × Int)} (h : r = x) : Ending.returned (rdV x) = .returned (rdV r) := by rw [h]

theorem row_store2 (w : World) (N : Nat) (old cs : Array Value) (t : TypeId) (h : w.heap[N]? = some (.cells old t (0, 0))) : (w.setRow N cs).heap[N]? = some (.cells cs t (0, 0)) := setRow_heap w N old cs t (0, 0) h
theorem below_row2 {B : Nat} {w w' : World} (h : Below B w w') (g : Nat) (cs : Array Value) (hg : B ≤ g) : Below B w (w'.setRow g cs) :=
  ⟨h.os, h.tape, h.output, by have := h.size; simpa [World.setRow] using this, fun k hk => by rw [setRow_other w' g k cs (by omega)]; exact h.block k hk⟩
theorem cells5 {w : World} {g : Nat} {a b c d e : Value} {t : TypeId} {fr : Nat × Nat} (h : w.heap[g]? = some (.cells #[a, b, c, d, e] t fr)) :
    w.cell? ⟨g, 0, none⟩ = some a ∧ w.cell? ⟨g, 1, none⟩ = some b ∧ w.cell? ⟨g, 2, none⟩ = some c ∧ w.cell? ⟨g, 3, none⟩ = some d ∧ w.cell? ⟨g, 4, none⟩ = some e :=
  ⟨by rw [cell_of_row w g 0 _ t fr h]; rfl, by rw [cell_of_row w g 1 _ t fr h]; rfl, by rw [cell_of_row w g 2 _ t fr h]; rfl, by rw [cell_of_row w g 3 _ t fr h]; rfl, by rw [cell_of_row w g 4 _ t fr h]; rfl⟩

/-- the row that a call lays first, behind a callee that leaves what was there: as it was laid -/
theorem first_row {w w1 : World} {o : Obj} (hb : Below (w.alloc o).heap.size (w.alloc o) w1) : w1.heap[w.heap.size]? = some o ∧ Below w.heap.size w w1 :=
  ⟨(hb.block w.heap.size (by simp)).trans (heap_alloc_new w o), ((Below.refl w.heap.size w).alloc (Nat.le_refl _) o).trans (hb.mono (by simp))⟩

/-- a token is stored into a row of tokens, of the call's own -/
theorem store_tk {ops : Array Oper} {rest : List Oper} {o : Oper} {a : Act} {w0 w : World} {Q : Exit → Act → World → Prop} (k i f : Int) (t : ByteArray) (n : Int) (B N : Nat) (old : Array Value)
    (hN : w.heap[N]? = some (.cells old 166 (0, 0))) (hb : Below B w0 w) (hBN : B ≤ N) (hold : old.size = 5) (hgd : o.guard = none) (x y : Operand) (ho : o.op = .store 166 x y)
    (hx : a.eval x = .pointer (some ⟨N, 0, none⟩)) (hy : a.eval y = .agg (tkC k i f t n))
    (h : ∀ W2, W2.heap[N]? = some (.cells (tkC k i f t n) 166 (0, 0)) → Below B w0 W2 → wpList Tryz.prog ops Q rest (a.put o.dst undef) W2) : wpList Tryz.prog ops Q (o :: rest) a w :=
  wpList_store_row hgd 166 x y ho N (tkC k i f t n) hx hy 166 old hN (by kernel_rfl) hold (by simp [Value.oneCell']) (h _ (row_store2 w N old _ _ hN) (below_row2 hb _ _ hBN))

/-- no token yet -/
abbrev zTk : Obj := .cells #[.int .i64 0, .int .i64 0, .int .i64 0, .string ⟨#[]⟩, .int .i64 0] 166 (0, 0)

set_option maxHeartbeats 2000000 in
theorem fault_any (i x : Int) (w : World) :
    Calls Tryz.prog 138 #[.int .i64 i, .int .i64 x] w fun e w' => e = .returned (.tuple #[.agg #[.int .i64 0, .int .i64 i, .int .i64 0, .string ⟨#[]⟩, .int .i64 0], .int .i64 x]) ∧ Below w.heap.size w w' := by
  go_enter Tryz.func138, Tryz.ntmps138
  go_wp2
  exact bodyPost_ret (v := .tuple #[.agg #[.int .i64 0, .int .i64 i, .int .i64 0, .string ⟨#[]⟩, .int .i64 0], .int .i64 x]) (by simp [results, Tryz.results138, go_sem]) rfl ⟨rfl, (Below.refl _ _).alloc (Nat.le_refl _) _⟩

theorem clone_any (s : ByteArray) (hs : s.size ≤ 281474976710656) (w : World) : Calls Tryz.prog 144 #[.string s] w fun e w' => e = .returned (.string s) ∧ Below w.heap.size w w' := by
  go_enter Tryz.func144, Tryz.ntmps144
  go_wp2_with (go_at_call 152; refine (Tryz.stringslite_Clone _ _ hs).mono ?_; rintro e w1 ⟨rfl, hb1⟩)
  go_wp2
  go_ret
  exact ⟨rfl, hb1⟩

set_option maxHeartbeats 2000000 in
set_option maxRecDepth 100000 in
theorem plain_any (k : Int) (s : ByteArray) (hs : s.size ≤ 1000000) (i j : Nat) (a b : Int) (ha : a = i) (hb : b = j) (hij : i ≤ j) (hj : j ≤ s.size) (w : World) :
    Calls Tryz.prog 137 #[.int .i64 k, .string s, .int .i64 a, .int .i64 b] w fun e w' => e = .returned (.agg #[.int .i64 k, .int .i64 i, .int .i64 j, .string (s.extract i j), .int .i64 0]) ∧ Below w.heap.size w w' := by
  subst ha
  subst hb
  go_enter Tryz.func137, Tryz.ntmps137
  go_wp2_with fail
  refine (clone_any _ (by simp; omega) _).mono ?_
  rintro e w1 ⟨rfl, hb1⟩
  obtain ⟨h0, hb⟩ := first_row hb1
  go_wp2_with (refine store_tk k i j (s.extract i j) 0 w.heap.size w.heap.size _ h0 hb (Nat.le_refl _) rfl rfl _ _ rfl rfl rfl ?_; intro W2 k0 hb2)
  obtain ⟨a0, a1, a2, a3, a4⟩ := cells5 k0
  exact bodyPost_ret (v := .agg #[.int .i64 k, .int .i64 i, .int .i64 j, .string (s.extract i j), .int .i64 0]) (by simp [results, Tryz.results137, go_sem, a0, a1, a2, a3, a4]) rfl ⟨rfl, hb2⟩

theorem kind_cut {s : ByteArray} {i j : Nat} (hi : i < j) (hj : j ≤ s.size) (hc : cls (atB s i) = 3 ∨ cls (atB s i) = 4) : kindN (s.extract i j) = if inL keysL (s.extract i j) = true then 8 else if cls (atB s i) = 3 then 1 else 2 := by
  have e : atB (s.extract i j) 0 = atB s i := by
    unfold atB
    rw [Lib.extract_data, List.getD_eq_getElem?_getD, List.getD_eq_getElem?_getD, List.getElem?_take_of_lt (by omega), List.getElem?_drop]
    simp
  unfold kindN
  rw [e]
  rcases hc with h | h
  · rw [h]; rfl
  · rw [h]; rfl

set_option maxHeartbeats 4000000 in
set_option maxRecDepth 100000 in
theorem pname_bad (s : ByteArray) (hs : s.size ≤ 1000000) (p : Nat) (hi : p + 1 < s.size) (hc : cls (atB s p) = 2) (w : World) :
    Calls Tryz.prog 133 #[.string s, .int .i64 (p + 1 : Nat)] w fun e w' => e = .returned (rdV (.inr (p + 1, 20))) ∧ Below w.heap.size w w' := by
  have q : (cls (atB s p) == 2) = true := by rw [beq_iff_eq]; exact hc
  go_enter Tryz.func133, Tryz.ntmps133
  go_wp2_with fail
  refine (class_at s p (by omega) _).mono ?_
  rintro e w' ⟨rfl, rfl⟩
  go_wp2_with fail
  refine (fault_any _ _ _).mono ?_
  rintro e w1 ⟨rfl, hb1⟩
  obtain ⟨h0, hb⟩ := first_row hb1
  go_wp2_with (refine store_tk 0 (p + 1 : Nat) 0 ⟨#[]⟩ 0 w.heap.size w.heap.size _ h0 hb (Nat.le_refl _) rfl rfl _ _ rfl rfl rfl ?_; intro W2 k0 hb2)
  obtain ⟨a0, a1, a2, a3, a4⟩ := cells5 k0
  refine bodyPost_ret (v := .tuple #[.agg #[.int .i64 0, .int .i64 (p + 1 : Nat), .int .i64 0, .string ⟨#[]⟩, .int .i64 0], .int .i64 20]) (by simp [results, Tryz.results133, go_sem, a0, a1, a2, a3, a4]) rfl ⟨?_, hb2⟩
  rfl

/-- no Digit stands right ahead of the place -/
def NoDig (s : ByteArray) (i : Nat) : Prop := i = 0 ∨ cls (atB s (i - 1)) ≠ 2

set_option maxHeartbeats 4000000 in
set_option maxRecDepth 100000 in
theorem pname_zero (s : ByteArray) (hs : s.size ≤ 1000000) (hi : 0 < s.size) (hc : cls (atB s 0) = 3 ∨ cls (atB s 0) = 4) (w : World) :
    Calls Tryz.prog 133 #[.string s, .int .i64 0] w fun e w' => e = .returned (rdV (nameAt s 0)) ∧ Below w.heap.size w w' := by
  have hw := wordEnd_more hi (cls34 hc)
  by_cases hl : 32 < wordEnd s 0
  · have HN : Hid (nameAt s 0 = .inr (0, 6)) := Lib.hid (by unfold nameAt; rw [if_pos (by omega)])
    go_enter Tryz.func133, Tryz.ntmps133
    go_wp2_with fail
    refine (pend_any s hs 0 (by omega) _).mono ?_
    rintro e w' ⟨rfl, rfl⟩
    go_wp2_with fail
    refine (fault_any _ _ _).mono ?_
    rintro e w1 ⟨rfl, hb1⟩
    obtain ⟨h0, hb⟩ := first_row hb1
    go_wp2_with (refine store_tk 0 0 0 ⟨#[]⟩ 0 w.heap.size w.heap.size _ h0 hb (Nat.le_refl _) rfl rfl _ _ rfl rfl rfl ?_; intro W2 k0 hb2)
    obtain ⟨a0, a1, a2, a3, a4⟩ := cells5 k0
    refine bodyPost_ret (v := .tuple #[.agg #[.int .i64 0, .int .i64 0, .int .i64 0, .string ⟨#[]⟩, .int .i64 0], .int .i64 6]) (by simp [results, Tryz.results133, go_sem, a0, a1, a2, a3, a4]) rfl ⟨?_, hb2⟩
    rw [HN.out]; rfl
  · have HN : Hid (nameAt s 0 = .inl ⟨kindN (s.extract 0 (wordEnd s 0)), 0, wordEnd s 0, s.extract 0 (wordEnd s 0), 0⟩) := Lib.hid (by unfold nameAt; rw [if_neg (by omega), kind_cut hw.1 hw.2 hc])
    go_enter Tryz.func133, Tryz.ntmps133
    go_wp2_with fail
    refine (pend_any s hs 0 (by omega) _).mono ?_
    rintro e w' ⟨rfl, rfl⟩
    go_wp2_with fail
    refine (pkind_any _ (by simp; omega) _).mono ?_
    rintro e w' ⟨rfl, rfl⟩
    go_wp2_with fail
    refine (plain_any _ s hs 0 (wordEnd s 0) _ _ rfl rfl (by omega) hw.2 _).mono ?_
    rintro e w1 ⟨rfl, hb1⟩
    obtain ⟨h0, hb⟩ := first_row hb1
    go_wp2_with (refine store_tk (kindN (s.extract 0 (wordEnd s 0))) (0 : Nat) (wordEnd s 0) (s.extract 0 (wordEnd s 0)) 0 w.heap.size w.heap.size _ h0 hb (Nat.le_refl _) rfl rfl _ _ rfl rfl rfl ?_; intro W2 k0 hb2)
    obtain ⟨a0, a1, a2, a3, a4⟩ := cells5 k0
    refine bodyPost_ret (v := .tuple #[.agg #[.int .i64 (kindN (s.extract 0 (wordEnd s 0))), .int .i64 (0 : Nat), .int .i64 (wordEnd s 0), .string (s.extract 0 (wordEnd s 0)), .int .i64 0], .int .i64 0]) (by simp [results, Tryz.results133, go_sem, a0, a1, a2, a3, a4]) rfl ⟨?_, hb2⟩
    rw [HN.out]; rfl

set_option maxHeartbeats 4000000 in
set_option maxRecDepth 100000 in
theorem pname_more (s : ByteArray) (hs : s.size ≤ 1000000) (p : Nat) (hi : p + 1 < s.size) (hp : cls (atB s p) ≠ 2) (hc : cls (atB s (p + 1)) = 3 ∨ cls (atB s (p + 1)) = 4) (w : World) :
    Calls Tryz.prog 133 #[.string s, .int .i64 (p + 1 : Nat)] w fun e w' => e = .returned (rdV (nameAt s (p + 1))) ∧ Below w.heap.size w w' := by
  have q : (cls (atB s p) == 2) = false := by rw [beq_eq_false_iff_ne]; exact hp
  have hw := wordEnd_more hi (cls34 hc)
  have hlim : wordEnd s (p + 1) ≤ 1000000 := by omega
  by_cases hl : 32 < wordEnd s (p + 1) - (p + 1)
  · have HN : Hid (nameAt s (p + 1) = .inr (p + 1, 6)) := Lib.hid (by unfold nameAt; rw [if_pos (by omega)])
    have hl2 : 32 < (wordEnd s (p + 1) : Int) - (p + 1) := by omega
    go_enter Tryz.func133, Tryz.ntmps133
    go_wp2_with fail
    refine (class_at s p (by omega) _).mono ?_
    rintro e w' ⟨rfl, rfl⟩
    go_wp2_with fail
    refine (pend_any s hs (p + 1) (by omega) _).mono ?_
    rintro e w' ⟨rfl, rfl⟩
    go_wp2_with fail
    refine (fault_any _ _ _).mono ?_
    rintro e w1 ⟨rfl, hb1⟩
    obtain ⟨h0, hb⟩ := first_row hb1
    go_wp2_with (refine store_tk 0 (p + 1 : Nat) 0 ⟨#[]⟩ 0 w.heap.size w.heap.size _ h0 hb (Nat.le_refl _) rfl rfl _ _ rfl rfl rfl ?_; intro W2 k0 hb2)
    obtain ⟨a0, a1, a2, a3, a4⟩ := cells5 k0
    refine bodyPost_ret (v := .tuple #[.agg #[.int .i64 0, .int .i64 (p + 1 : Nat), .int .i64 0, .string ⟨#[]⟩, .int .i64 0], .int .i64 6]) (by simp [results, Tryz.results133, go_sem, a0, a1, a2, a3, a4]) rfl ⟨?_, hb2⟩
    rw [HN.out]; rfl
  · have HN : Hid (nameAt s (p + 1) = .inl ⟨kindN (s.extract (p + 1) (wordEnd s (p + 1))), p + 1, wordEnd s (p + 1), s.extract (p + 1) (wordEnd s (p + 1)), 0⟩) := Lib.hid (by unfold nameAt; rw [if_neg (by omega), kind_cut hw.1 hw.2 hc])
    have hl2 : ¬ 32 < (wordEnd s (p + 1) : Int) - (p + 1) := by omega
    go_enter Tryz.func133, Tryz.ntmps133
    go_wp2_with fail
    refine (class_at s p (by omega) _).mono ?_
    rintro e w' ⟨rfl, rfl⟩
    go_wp2_with fail
    refine (pend_any s hs (p + 1) (by omega) _).mono ?_
    rintro e w' ⟨rfl, rfl⟩
    go_wp2_with fail
    refine (pkind_any _ (by simp; omega) _).mono ?_
    rintro e w' ⟨rfl, rfl⟩
    go_wp2_with fail
    refine (plain_any _ s hs (p + 1) (wordEnd s (p + 1)) _ _ rfl rfl (by omega) hw.2 _).mono ?_
    rintro e w1 ⟨rfl, hb1⟩
    obtain ⟨h0, hb⟩ := first_row hb1
    go_wp2_with (refine store_tk (kindN (s.extract (p + 1) (wordEnd s (p + 1)))) (p + 1 : Nat) (wordEnd s (p + 1)) (s.extract (p + 1) (wordEnd s (p + 1))) 0 w.heap.size w.heap.size _ h0 hb (Nat.le_refl _) rfl rfl _ _ rfl rfl rfl ?_; intro W2 k0 hb2)
    obtain ⟨a0, a1, a2, a3, a4⟩ := cells5 k0
    refine bodyPost_ret (v := .tuple #[.agg #[.int .i64 (kindN (s.extract (p + 1) (wordEnd s (p + 1)))), .int .i64 (p + 1 : Nat), .int .i64 (wordEnd s (p + 1)), .string (s.extract (p + 1) (wordEnd s (p + 1))), .int .i64 0], .int .i64 0]) (by simp [results, Tryz.results133, go_sem, a0, a1, a2, a3, a4]) rfl ⟨?_, hb2⟩
    rw [HN.out]; rfl

/-- a Name, as the program reads it -/
theorem pname_any (s : ByteArray) (hs : s.size ≤ 1000000) (i : Nat) (hi : i < s.size) (hc : cls (atB s i) = 3 ∨ cls (atB s i) = 4) (w : World) :
    Calls Tryz.prog 133 #[.string s, .int .i64 i] w fun e w' => e = .returned (rdV (nameP s i)) ∧ Below w.heap.size w w' := by
  cases i with
  | zero =>
    rw [show nameP s 0 = nameAt s 0 by unfold nameP; rw [if_neg (by omega)]]
    exact pname_zero s hs hi hc w
  | succ p =>
    by_cases h : cls (atB s p) = 2
    · rw [show nameP s (p + 1) = .inr (p + 1, 20) by unfold nameP; rw [if_pos ⟨by omega, h⟩]]
      exact pname_bad s hs p hi h w
    · rw [show nameP s (p + 1) = nameAt s (p + 1) by unfold nameP; rw [if_neg (fun h' => h h'.2)]]
      exact pname_more s hs p hi h hc w

/-- the longest op of at most n bytes -/
def opFrom (s : ByteArray) (i : Nat) : Nat → Tk ⊕ (Nat × Int)
  | 0 => .inr (i, 20)
  | n + 1 => if inL opsL (s.extract i (i + (n + 1))) = true then .inl ⟨6, i, i + (n + 1), s.extract i (i + (n + 1)), 0⟩ else opFrom s i n
theorem opFrom_succ (s : ByteArray) (i n : Nat) : opFrom s i (n + 1) = if inL opsL (s.extract i (i + (n + 1))) = true then .inl ⟨6, i, i + (n + 1), s.extract i (i + (n + 1)), 0⟩ else opFrom s i n := rfl
theorem opAt_from (s : ByteArray) (i : Nat) (hi : i < s.size) : opAt s i = opFrom s i (min 2 (s.size - i)) := by
  unfold opAt
  by_cases h : i + 2 ≤ s.size
  · rw [show min 2 (s.size - i) = 1 + 1 from by omega, opFrom_succ, opFrom_succ]
    by_cases h2 : inL opsL (s.extract i (i + 2)) = true
    · rw [if_pos ⟨h, h2⟩, if_pos h2]
    · rw [if_neg (fun h' => h2 h'.2), if_neg h2]
      rfl
  · rw [show min 2 (s.size - i) = 0 + 1 from by omega, opFrom_succ, if_neg (fun h' => h h'.1)]
    rfl

set_option maxHeartbeats 4000000 in
set_option maxRecDepth 100000 in
theorem pop_any (s : ByteArray) (hs : s.size ≤ 1000000) (i : Nat) (hi : i < s.size) (w : World) :
    Calls Tryz.prog 136 #[.string s, .int .i64 i] w fun e w' => e = .returned (rdV (opAt s i)) ∧ Below w.heap.size w w' := by
  have HF := Lib.hid (opAt_from s i hi)
  go_enter Tryz.func136, Tryz.ntmps136
  go_wp2
  go_loop [6] (fun nv => ∃ n : Nat, i + n ≤ s.size ∧ n ≤ 2 ∧ nv = .int .i64 n ∧ Hid (opAt s i = opFrom s i n)) (fun nv => (intOf nv).toNat)
  case atStart => exact ⟨min 2 (s.size - i), by omega, by omega, by first | (congr 1; omega) | (simp; omega), HF⟩
  case round =>
    obtain ⟨n, hn, hn2, rfl, H⟩ := hrel
    cases n with
    | zero =>
      go_wp2_with fail
      refine (fault_any _ _ _).mono ?_
      rintro e w1 ⟨rfl, hb1⟩
      obtain ⟨h0, hb⟩ := first_row hb1
      go_wp2_with (refine store_tk 0 i 0 ⟨#[]⟩ 0 w.heap.size w.heap.size _ h0 hb (Nat.le_refl _) rfl rfl _ _ rfl rfl rfl ?_; intro W2 k0 hb2)
      obtain ⟨a0, a1, a2, a3, a4⟩ := cells5 k0
      refine bodyPost_ret (v := .tuple #[.agg #[.int .i64 0, .int .i64 i, .int .i64 0, .string ⟨#[]⟩, .int .i64 0], .int .i64 20]) (by simp [results, Tryz.results136, go_sem, a0, a1, a2, a3, a4]) rfl ⟨?_, hb2⟩
      rw [H.out]; rfl
    | succ n =>
      by_cases ho : inL opsL (s.extract i (i + (n + 1))) = true
      · have HN : Hid (opAt s i = .inl ⟨6, i, i + (n + 1), s.extract i (i + (n + 1)), 0⟩) := Lib.hid (by rw [H.out, opFrom_succ, if_pos ho])
        go_wp2_with fail
        refine (psign_any _ _).mono ?_
        rintro e w' ⟨rfl, rfl⟩
        go_wp2_with fail
        refine (plain_any _ s hs i (i + (n + 1)) _ _ rfl (by omega) (by omega) hn _).mono ?_
        rintro e w1 ⟨rfl, hb1⟩
        obtain ⟨h0, hb⟩ := first_row hb1
        go_wp2_with (refine store_tk 6 i (i + (n + 1) : Nat) (s.extract i (i + (n + 1))) 0 w.heap.size w.heap.size _ h0 hb (Nat.le_refl _) rfl rfl _ _ rfl rfl rfl ?_; intro W2 k0 hb2)
        obtain ⟨a0, a1, a2, a3, a4⟩ := cells5 k0
        refine bodyPost_ret (v := .tuple #[.agg #[.int .i64 6, .int .i64 i, .int .i64 (i + (n + 1) : Nat), .string (s.extract i (i + (n + 1))), .int .i64 0], .int .i64 0]) (by simp [results, Tryz.results136, go_sem, a0, a1, a2, a3, a4]) rfl ⟨?_, hb2⟩
        rw [HN.out]; rfl
      · have ho' : inL opsL (s.extract i (i + (n + 1))) = false := by simpa using ho
        have HN := Lib.hid (H.out.trans (show opFrom s i (n + 1) = opFrom s i n by rw [opFrom_succ, if_neg ho]))
        clear ho
        go_wp2_with fail
        refine (psign_any _ _).mono ?_
        rintro e w' ⟨rfl, rfl⟩
        go_wp2
        go_round
        case rel => exact ⟨n, by omega, by omega, by go_num, HN⟩
        case measure => simp [intOf]
end Go.Proofs.YtkdhoelabomgkaaGreatDoor
