/-
  Layer 2: the document's skip: behind Spaces and notes.
-/
import Derived.Test.YtifmbhcajlnhbaaDoorDigits
import Derived.Test.YtifmbhcajlnhbaaDoorToks
namespace Go.Proofs.YtifmbhcajlnhbaaDoor
set_option linter.unusedVariables false
open Go.ChangeShapes Go.WideShapes Go.ChangeAt Go.RowKit

theorem at_dash (s : ByteArray) (hs : s.size ≤ 1000000) (i : Nat) (hi : i ≤ s.size) (w : World) :
    Calls Tryd.prog 37 #[.string s, .int .i64 i, .string ⟨#[45, 45]⟩] w fun e w' => e = .returned (.bool (twoAt s i 45 45)) ∧ w = w' := at_any s hs i hi 45 45 w
theorem at_open (s : ByteArray) (hs : s.size ≤ 1000000) (i : Nat) (hi : i ≤ s.size) (w : World) :
    Calls Tryd.prog 37 #[.string s, .int .i64 i, .string ⟨#[123, 45]⟩] w fun e w' => e = .returned (.bool (twoAt s i 123 45)) ∧ w = w' := at_any s hs i hi 123 45 w
theorem at_close (s : ByteArray) (hs : s.size ≤ 1000000) (i : Nat) (hi : i ≤ s.size) (w : World) :
    Calls Tryd.prog 37 #[.string s, .int .i64 i, .string ⟨#[45, 125]⟩] w fun e w' => e = .returned (.bool (twoAt s i 45 125)) ∧ w = w' := at_any s hs i hi 45 125 w

def skV (r : Nat ⊕ Nat) : Value := match r with
  | .inl i => .tuple #[.int .i64 i, .agg #[.int .i64 0, .int .i64 0]]
  | .inr i => .tuple #[.int .i64 i, .agg #[.int .i64 i, .int .i64 23]]

/-- within a note: what is to come is as at its beginning; behind it: its end -/
def NoteRel (s : ByteArray) (k m d : Nat) (b : Bool) : Prop :=
  (b = true → noteAt s k = note s (s.size - m) d m ∧ (d = 0 → twoAt s m 123 45 = true)) ∧ (b = false → noteAt s k = some m ∧ k < m)

set_option maxHeartbeats 8000000 in
set_option maxRecDepth 100000 in
theorem skip_any (s : ByteArray) (hs : s.size ≤ 1000000) (k0 : Nat) (hk0 : k0 ≤ s.size) (w : World) :
    Calls Tryd.prog 20 #[.string s, .int .i64 k0] w fun e w' => e = .returned (skV (skip s k0)) ∧ Below w.heap.size w w' := by
  go_enter Tryd.func20, Tryd.ntmps20
  go_wp2
  go_loop [1, 6, 7, 8] (fun iv _ _ _ => ∃ k : Nat, k ≤ s.size ∧ iv = .int .i64 k ∧ Hid (skip s k0 = skip s k)) (fun iv _ _ _ => s.size - (intOf iv).toNat)
  case atStart => exact ⟨k0, hk0, rfl, Lib.hid rfl⟩
  case round =>
    obtain ⟨k, hk, rfl, H⟩ := hrel
    by_cases hlt : k < s.size
    · have hst := skip_step s k hlt
      by_cases c1 : cls (atB s k) = 1
      · rw [if_pos c1] at hst
        have Hst := Lib.hid hst
        have q1 : (cls (atB s k) == 1) = true := by rw [beq_iff_eq]; exact c1
        have C1 := Lib.hid c1
        clear hst c1
        go_wp2_with (go_at_call 30; refine (rclass_at s k hlt _).mono ?_; rintro e w' ⟨rfl, rfl⟩)
        go_round
        case rel => exact ⟨k + 1, by omega, by go_num, Lib.hid (H.out.trans Hst.out)⟩
        case measure => simp [intOf]; omega
      · rw [if_neg c1] at hst
        have q1 : (cls (atB s k) == 1) = false := by rw [beq_eq_false_iff_ne]; exact c1
        have C1 := Lib.hid c1
        clear c1
        by_cases c2 : twoAt s k 45 45 = true
        · rw [if_pos c2] at hst
          have Hst := Lib.hid hst
          have hlm := line_more c2
          have HL := Lib.hid (lineTo_ok s (s.size - k) k (by omega) (Nat.le_refl _))
          clear hst
          go_wp2_with fail
          refine (rclass_at s k hlt _).mono ?_
          rintro e w' ⟨rfl, rfl⟩
          go_wp2_with fail
          refine (at_dash s hs k hk _).mono ?_
          rintro e w' ⟨rfl, rfl⟩
          go_wp2
          go_loop [1] (fun iv => ∃ m : Nat, k ≤ m ∧ m ≤ s.size ∧ iv = .int .i64 m ∧ Hid (∀ j, k ≤ j → j < m → atB s j ≠ 10)) (fun iv => s.size - (intOf iv).toNat)
          case atStart => exact ⟨k, Nat.le_refl _, hk, rfl, Lib.hid fun j h1 h2 => by omega⟩
          case round =>
            obtain ⟨m, m1, m2, rfl, HM⟩ := hrel
            by_cases hm : m < s.size
            · have ea := Lib.hid (atB_eq s m hm)
              by_cases h10 : ((s[m].toNat : Int) != 10) = true
              · go_wp2
                go_round
                case rel =>
                  refine ⟨m + 1, by omega, by omega, by go_num, Lib.hid fun j h1 h2 => ?_⟩
                  by_cases hjm : j = m
                  · rw [hjm, ea.out]; rw [bne_iff_ne] at h10; exact h10
                  · exact HM.out j h1 (by omega)
                case measure => simp [intOf]; omega
              · have h10' : ((s[m].toNat : Int) != 10) = false := by simpa using h10
                have hu : lineTo s (s.size - k) k = m := HL.out.unique ⟨m1, m2, HM.out, .inr (by rw [ea.out]; rw [bne_eq_false_iff_eq] at h10'; exact h10')⟩
                have HU := Lib.hid hu
                rw [hu] at hlm
                clear hu
                go_wp2
                go_round
                case rel => exact ⟨m, m2, rfl, Lib.hid (by rw [H.out, Hst.out, HU.out])⟩
                case measure => simp [intOf]; omega
            · have hu : lineTo s (s.size - k) k = m := HL.out.unique ⟨m1, m2, HM.out, .inl (by omega)⟩
              have HU := Lib.hid hu
              rw [hu] at hlm
              clear hu
              go_wp2
              go_round
              case rel => exact ⟨m, m2, rfl, Lib.hid (by rw [H.out, Hst.out, HU.out])⟩
              case measure => simp [intOf]; omega
        · rw [if_neg c2] at hst
          have q2 : twoAt s k 45 45 = false := by simpa using c2
          clear c2
          by_cases c3 : twoAt s k 123 45 = true
          · rw [if_pos c3] at hst
            have Hst := Lib.hid hst
            have hfit := (two_fits c3).1
            clear hst
            go_wp2_with fail
            refine (rclass_at s k hlt _).mono ?_
            rintro e w' ⟨rfl, rfl⟩
            go_wp2_with fail
            refine (at_dash s hs k hk _).mono ?_
            rintro e w' ⟨rfl, rfl⟩
            go_wp2_with fail
            refine (at_open s hs k hk _).mono ?_
            rintro e w' ⟨rfl, rfl⟩
            go_wp2
            go_loop [1, 7, 8] (fun iv dv mv => ∃ (m d : Nat) (b : Bool), m ≤ s.size ∧ iv = .int .i64 m ∧ dv = .int .i64 d ∧ mv = .bool b ∧ d ≤ 100 ∧ (b = true → m < s.size) ∧ Hid (NoteRel s k m d b)) (fun iv _ _ => s.size + 1 - (intOf iv).toNat)
            case atStart => exact ⟨k, 0, true, hk, rfl, rfl, rfl, by omega, fun _ => hlt, Lib.hid ⟨fun _ => ⟨rfl, fun _ => c3⟩, fun h => by cases h⟩⟩
            case round =>
              obtain ⟨m, d, b, hm, rfl, rfl, rfl, hd, hbm, HR⟩ := hrel
              cases b
              · obtain ⟨hn, hkm⟩ := HR.out.2 rfl
                have HN := Lib.hid hn
                clear hn hbm
                go_wp2
                go_round
                case rel => exact ⟨m, hm, rfl, Lib.hid (by rw [H.out, Hst.out, HN.out]; rfl)⟩
                case measure => simp [intOf]; omega
              · have hmlt := hbm rfl
                obtain ⟨hn, h0⟩ := HR.out.1 rfl
                have hstep := note_step s d m hmlt
                clear hbm
                by_cases c4 : twoAt s m 123 45 = true
                · rw [if_pos c4] at hstep
                  have hf2 := (two_fits c4).1
                  by_cases c5 : 100 ≤ d
                  · rw [if_pos c5] at hstep
                    have HN := Lib.hid (hn.trans hstep)
                    clear hstep hn h0
                    go_wp2_with fail
                    refine (at_open s hs m hm _).mono ?_
                    rintro e w' ⟨rfl, rfl⟩
                    go_wp2
                    exact bodyPost_ret (v := .tuple #[.int .i64 k, .agg #[.int .i64 k, .int .i64 23]]) (by simp [results, Tryd.results20, go_sem]) rfl ⟨by rw [H.out, Hst.out, HN.out]; rfl, (Below.refl _ _).alloc (Nat.le_refl _) _⟩
                  · rw [if_neg c5] at hstep
                    by_cases c6 : m + 2 = s.size
                    · rw [note_end s (s.size - (m + 2)) (d + 1) (m + 2) (by omega)] at hstep
                      have HN := Lib.hid (hn.trans hstep)
                      have q6 : ((m : Int) + 2 == s.size) = true := by rw [beq_iff_eq]; omega
                      clear hstep hn h0 c6
                      go_wp2_with fail
                      refine (at_open s hs m hm _).mono ?_
                      rintro e w' ⟨rfl, rfl⟩
                      go_wp2
                      exact bodyPost_ret (v := .tuple #[.int .i64 k, .agg #[.int .i64 k, .int .i64 23]]) (by simp [results, Tryd.results20, go_sem]) rfl ⟨by rw [H.out, Hst.out, HN.out]; rfl, (Below.refl _ _).alloc (Nat.le_refl _) _⟩
                    · have HN := Lib.hid (hn.trans hstep)
                      have q6 : ((m : Int) + 2 == s.size) = false := by rw [beq_eq_false_iff_ne]; omega
                      clear hstep hn h0
                      go_wp2_with fail
                      refine (at_open s hs m hm _).mono ?_
                      rintro e w' ⟨rfl, rfl⟩
                      go_wp2
                      go_round
                      case rel => exact ⟨m + 2, d + 1, true, by omega, by go_num, by go_num, by first | rfl | (simp; done) | (simp; omega), by omega, fun _ => by omega, Lib.hid ⟨fun _ => ⟨HN.out, fun h => by omega⟩, fun h => by cases h⟩⟩
                      case measure => simp [intOf]; omega
                · rw [if_neg c4] at hstep
                  have q4 : twoAt s m 123 45 = false := by simpa using c4
                  have hd1 : 1 ≤ d := by
                    rcases Nat.lt_or_ge 0 d with h | h
                    · exact h
                    · exact absurd (h0 (by omega)) c4
                  by_cases c5 : twoAt s m 45 125 = true
                  · rw [if_pos c5] at hstep
                    have hf2 := (two_fits c5).1
                    by_cases c7 : d ≤ 1
                    · rw [if_pos c7] at hstep
                      have HN := Lib.hid (hn.trans hstep)
                      have hkm : k < m + 2 := (note_bound s _ _ _ _ (hn.trans hstep)).1
                      obtain rfl : d = 1 := by omega
                      clear hstep hn h0 c4
                      go_wp2_with fail
                      refine (at_open s hs m hm _).mono ?_
                      rintro e w' ⟨rfl, rfl⟩
                      go_wp2_with fail
                      refine (at_close s hs m hm _).mono ?_
                      rintro e w' ⟨rfl, rfl⟩
                      go_wp2
                      go_round
                      case rel => exact ⟨m + 2, 0, false, by omega, by go_num, rfl, rfl, by omega, (fun h => by cases h), Lib.hid ⟨(fun h => by cases h), fun _ => ⟨HN.out, hkm⟩⟩⟩
                      case measure => simp [intOf]; omega
                    · rw [if_neg c7] at hstep
                      by_cases c6 : m + 2 = s.size
                      · rw [note_end s (s.size - (m + 2)) (d - 1) (m + 2) (by omega)] at hstep
                        have HN := Lib.hid (hn.trans hstep)
                        have q6 : ((m : Int) + 2 == s.size) = true := by rw [beq_iff_eq]; omega
                        clear hstep hn h0 c6 c4
                        go_wp2_with fail
                        refine (at_open s hs m hm _).mono ?_
                        rintro e w' ⟨rfl, rfl⟩
                        go_wp2_with fail
                        refine (at_close s hs m hm _).mono ?_
                        rintro e w' ⟨rfl, rfl⟩
                        go_wp2
                        exact bodyPost_ret (v := .tuple #[.int .i64 k, .agg #[.int .i64 k, .int .i64 23]]) (by simp [results, Tryd.results20, go_sem]) rfl ⟨by rw [H.out, Hst.out, HN.out]; rfl, (Below.refl _ _).alloc (Nat.le_refl _) _⟩
                      · have HN := Lib.hid (hn.trans hstep)
                        have q6 : ((m : Int) + 2 == s.size) = false := by rw [beq_eq_false_iff_ne]; omega
                        clear hstep hn h0 c4
                        go_wp2_with fail
                        refine (at_open s hs m hm _).mono ?_
                        rintro e w' ⟨rfl, rfl⟩
                        go_wp2_with fail
                        refine (at_close s hs m hm _).mono ?_
                        rintro e w' ⟨rfl, rfl⟩
                        go_wp2
                        go_round
                        case rel => exact ⟨m + 2, d - 1, true, by omega, by go_num, by rw [show ((d - 1 : Nat) : Int) = (d : Int) - 1 from by omega], by first | rfl | (simp; done) | (simp; omega), by omega, fun _ => by omega, Lib.hid ⟨fun _ => ⟨HN.out, fun h => by omega⟩, fun h => by cases h⟩⟩
                        case measure => simp [intOf]; omega
                  · rw [if_neg c5] at hstep
                    have q5 : twoAt s m 45 125 = false := by simpa using c5
                    by_cases c6 : m + 1 = s.size
                    · rw [note_end s (s.size - (m + 1)) d (m + 1) (by omega)] at hstep
                      have HN := Lib.hid (hn.trans hstep)
                      have q6 : ((m : Int) + 1 == s.size) = true := by rw [beq_iff_eq]; omega
                      clear hstep hn h0 c6 c4 c5
                      go_wp2_with fail
                      refine (at_open s hs m hm _).mono ?_
                      rintro e w' ⟨rfl, rfl⟩
                      go_wp2_with fail
                      refine (at_close s hs m hm _).mono ?_
                      rintro e w' ⟨rfl, rfl⟩
                      go_wp2
                      exact bodyPost_ret (v := .tuple #[.int .i64 k, .agg #[.int .i64 k, .int .i64 23]]) (by simp [results, Tryd.results20, go_sem]) rfl ⟨by rw [H.out, Hst.out, HN.out]; rfl, (Below.refl _ _).alloc (Nat.le_refl _) _⟩
                    · have HN := Lib.hid (hn.trans hstep)
                      have q6 : ((m : Int) + 1 == s.size) = false := by rw [beq_eq_false_iff_ne]; omega
                      clear hstep hn h0 c4 c5
                      go_wp2_with fail
                      refine (at_open s hs m hm _).mono ?_
                      rintro e w' ⟨rfl, rfl⟩
                      go_wp2_with fail
                      refine (at_close s hs m hm _).mono ?_
                      rintro e w' ⟨rfl, rfl⟩
                      go_wp2
                      go_round
                      case rel => exact ⟨m + 1, d, true, by omega, by go_num, rfl, by first | rfl | (simp; done) | (simp; omega), hd, fun _ => by omega, Lib.hid ⟨fun _ => ⟨HN.out, fun h => by omega⟩, fun h => by cases h⟩⟩
                      case measure => simp [intOf]; omega
          · rw [if_neg c3] at hst
            have q3 : twoAt s k 123 45 = false := by simpa using c3
            have Hst := Lib.hid hst
            clear hst c3
            go_wp2_with fail
            refine (rclass_at s k hlt _).mono ?_
            rintro e w' ⟨rfl, rfl⟩
            go_wp2_with fail
            refine (at_dash s hs k hk _).mono ?_
            rintro e w' ⟨rfl, rfl⟩
            go_wp2_with fail
            refine (at_open s hs k hk _).mono ?_
            rintro e w' ⟨rfl, rfl⟩
            go_wp2
            exact bodyPost_ret (v := .tuple #[.int .i64 k, .agg #[.int .i64 0, .int .i64 0]]) (by simp [results, Tryd.results20, go_sem]) rfl ⟨by rw [H.out, Hst.out]; rfl, (Below.refl _ _).alloc (Nat.le_refl _) _⟩
    · have hst := skip_end s k (by omega)
      have Hst := Lib.hid hst
      clear hst
      go_wp2
      exact bodyPost_ret (v := .tuple #[.int .i64 k, .agg #[.int .i64 0, .int .i64 0]]) (by simp [results, Tryd.results20, go_sem]) rfl ⟨by rw [H.out, Hst.out]; rfl, (Below.refl _ _).alloc (Nat.le_refl _) _⟩
end Go.Proofs.YtifmbhcajlnhbaaDoor
