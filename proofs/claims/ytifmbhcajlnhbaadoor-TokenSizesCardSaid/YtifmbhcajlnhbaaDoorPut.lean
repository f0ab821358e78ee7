/-
  glyph.putEscape: a byte's escape behind a buffer.
-/
import Derived.Test.YtifmbhcajlnhbaaDoorBuf
import Derived.Test.YtifmbhcajlnhbaaDoorLetter
import Derived.StillTailTactics
namespace Go.Proofs.YtifmbhcajlnhbaaDoor
open Go.ChangeShapes Go.WideShapes Go.ChangeAt Go.RowKit

theorem cls7 (c : Int) : cls c = 7 ↔ c = 39 ∨ c = 34 := by
  constructor
  · intro h; unfold cls at h; repeat' (split at h); all_goals omega
  · intro h; unfold cls; repeat (first | rw [if_pos (by omega)] | rw [if_neg (by omega)])
theorem isShort_iff (c : Int) : isShort c = true ↔ (c = 10 ∨ c = 9 ∨ c = 92 ∨ c = 39 ∨ c = 34) := by simp [isShort]
theorem isShort_not (c : Int) : isShort c = false ↔ ¬ (c = 10 ∨ c = 9 ∨ c = 92 ∨ c = 39 ∨ c = 34) := by rw [← isShort_iff]; simp
theorem esc_short {c q : Int} (h : c = 10 ∨ c = 9 ∨ c = 92 ∨ c = quo q) (h' : c = 10 ∨ c = 9 ∨ c = 92 ∨ c = 39 ∨ c = 34) : esc c q = [92, shortL c] := by
  unfold esc shortL
  by_cases h1 : c = 10
  · rw [if_pos h1, if_pos h1]
  by_cases h2 : c = 9
  · rw [if_neg h1, if_pos h2, if_neg h1, if_pos h2]
  rw [if_neg h1, if_neg h2, if_pos (by omega), if_neg h1, if_neg h2]
  by_cases h3 : c = 92
  · rw [if_pos h3, h3]
  · by_cases h4 : c = 39
    · rw [if_neg h3, if_pos h4, h4]
    · rw [if_neg h3, if_neg h4, if_pos (by omega)]; congr 2; omega
theorem esc_hex {c q : Int} (h : ¬ (c = 10 ∨ c = 9 ∨ c = 92 ∨ c = quo q)) (h' : c < 32 ∨ 126 < c) : esc c q = [92, 120, hexd (c / 16), hexd (c % 16)] := by
  unfold esc; rw [if_neg (by omega), if_neg (by omega), if_neg (by omega), if_pos h']
theorem esc_bare {c q : Int} (h : ¬ (c = 10 ∨ c = 9 ∨ c = 92 ∨ c = quo q)) (h' : ¬ (c < 32 ∨ 126 < c)) : esc c q = [c] := by
  unfold esc; rw [if_neg (by omega), if_neg (by omega), if_neg (by omega), if_neg h']

set_option maxHeartbeats 2000000 in
theorem put_any (B : Nat) (v : Value) (xs : List Int) (c q : Int) (h0 : 0 ≤ c) (h1 : c ≤ 255) (w : World) (hb : Buf B w v xs) (hl : xs.length ≤ 140737488355320) :
    Calls Tryd.prog 59 #[v, .int .u8 c, .int .u8 q] w fun e w' => ∃ v', e = .returned v' ∧ Buf B w' v' (xs ++ esc c q) ∧ w.grownBy w' v.ownBlock := by
  have x1 := fun W : World => index_hex W .u8 (c / 16) (by omega) (by omega)
  have x2 := fun W : World => index_hex W .u8 (c % 16) (by omega) (by omega)
  have x3 := and15 c h0 h1
  go_enter Tryd.func59, Tryd.ntmps59
  go_wp2_with (first | (go_at_call 27; refine (class_any _ (by omega) (by omega) _).mono ?_; rintro e w' ⟨rfl, rfl⟩) | (go_at_call 69; refine (letter_any _ _).mono ?_; rintro e w1 ⟨rfl, hw1⟩; have hb1 := hb.below hw1) | (at_builtin; refine buf_append1 _ _ rfl _ _ rfl B v xs rfl (by assumption) rfl (by omega) ?_; intro v' w2 hb2 hg2) | (at_builtin; refine buf_append2 _ _ _ rfl _ _ rfl B v xs rfl (by assumption) rfl (by omega) ?_; intro v' w2 hb2 hg2))
  all_goals (try simp only [cls7, isShort_iff, Bool.not_eq_true', Bool.not_eq_false', bne_iff_ne, bne_eq_false_iff_eq, ne_eq] at *)
  all_goals (first | (exfalso; omega) | skip)
  all_goals (first | have hq := quo_ne (q := q) (by omega) | have hq := quo_eq (q := q) (by omega))
  all_goals have Hq := Lib.hid hq
  all_goals clear hq
  all_goals (try (go_region_law (refine step_buf4 _ _ _ _ _ rfl _ _ rfl B v xs rfl (hb1.below (Below.refl _ _).drew) rfl (by omega) ?_; intro v' w3 hb3 hg3)))
  all_goals (try go_wp2)
  all_goals go_ret
  all_goals (have hq := Hq.out; refine ⟨_, rfl, ?_, by first | exact grown_of_below hw1 (by assumption) | exact grown_of_below hw1.drew (by assumption)⟩)
  all_goals first | (rw [esc_short (by omega) (by omega)]; assumption) | (rw [esc_hex (by omega) (by omega)]; assumption) | (rw [esc_bare (by omega) (by omega)]; assumption)

set_option maxHeartbeats 1000000 in
theorem escape_any (c q : Int) (h0 : 0 ≤ c) (h1 : c ≤ 255) (w : World) :
    Calls Tryd.prog 41 #[.int .u8 c, .int .u8 q] w fun e w' => e = .returned (.string (strOfNums (esc c q))) ∧ Below w.heap.size w w' := by
  go_enter Tryd.func41, Tryd.ntmps41
  go_wp2_with fail
  refine (put_any _ _ [] c q h0 h1 _ (Buf.nil _) (by simp)).mono ?_
  rintro e w1 ⟨v, rfl, hb, hg⟩
  have hc := hb.text
  go_wp2
  go_ret
  exact ⟨rfl, (Below.refl _ _).grown hg (Nat.le_refl _) (fun k hk => by simp [Value.ownBlock] at hk)⟩
end Go.Proofs.YtifmbhcajlnhbaaDoor
