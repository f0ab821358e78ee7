/-
  The document's own escape: for every byte and quote.
-/
import Derived.Test.YtifmbhcajlnhbaaDoorBuf
import Derived.Test.YtifmbhcajlnhbaaDoorLetter
import Derived.StillTailTactics
namespace Go.Proofs.YtifmbhcajlnhbaaDoor
open Go.ChangeShapes Go.WideShapes Go.ChangeAt Go.RowKit

set_option maxHeartbeats 1000000 in
theorem hex_any (n : Int) (h0 : 0 ≤ n) (h1 : n ≤ 15) (w : World) :
    Calls Tryd.prog 44 #[.int .i64 n] w fun e w' => e = .returned (.int .u8 (hexd n)) ∧ w = w' := by
  have hlt : n < 16 := by omega
  go_enter Tryd.func44, Tryd.ntmps44
  go_wp2
  go_ret
  refine ⟨ret_int ?_, rfl⟩
  rw [hex_at n.toNat (by omega), show ((n.toNat : Nat) : Int) = n from by omega]

set_option maxHeartbeats 2000000 in
theorem resc_any (c q : Int) (h0 : 0 ≤ c) (h1 : c ≤ 255) (h2 : 0 ≤ q) (h3 : q ≤ 255) (w : World) :
    Calls Tryd.prog 24 #[.int .u8 c, .int .u8 q] w fun e w' => e = .returned (.string (strOfNums (esc c q))) ∧ Below w.heap.size w w' := by
  have k1 := conv1
  have k2 := conv2
  have k4 := conv4
  go_enter Tryd.func24, Tryd.ntmps24
  go_wp2_with (go_at_call 44; refine (hex_any _ (by omega) (by omega) _).mono ?_; rintro e w' ⟨rfl, rfl⟩)
  all_goals (go_ret; refine ⟨ret_str ?_, by first | exact Below.refl _ _ | exact (Below.refl _ _).alloc (Nat.le_refl _) _⟩)
  all_goals (try simp only [bne_iff_ne, bne_eq_false_iff_eq, beq_iff_eq, beq_eq_false_iff_ne, ne_eq] at *)
  all_goals (unfold esc; first | rw [quo_eq (by omega)] | rw [quo_ne (by omega)])
  all_goals (repeat (first | rw [if_pos (by omega)] | rw [if_neg (by omega)]))
  all_goals first | rfl | (subst_vars; rfl)

end Go.Proofs.YtifmbhcajlnhbaaDoor
