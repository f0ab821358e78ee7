/-
  The document's Unescape.
-/
import Derived.Test.YtifmbhcajlnhbaaDoorUn
namespace Go.Proofs.YtifmbhcajlnhbaaDoor
set_option linter.unusedVariables false
open Go.ChangeShapes Go.WideShapes Go.ChangeAt Go.RowKit

theorem isByteL_iff (c : Int) : isByteL c = true ↔ (c = 110 ∨ c = 116 ∨ c = 92 ∨ c = 39 ∨ c = 34) := by simp [isByteL]

set_option maxHeartbeats 2000000 in
theorem runescape_out (s : ByteArray) (hs : s.size ≤ 1000000) (at_ : Int) (h : at_ < 0 ∨ s.size ≤ at_) (w : World) :
    Calls Tryd.prog 58 #[.string s, .int .i64 at_] w fun e w' => e = .returned (unV none at_) ∧ w = w' := by
  rcases h with h | h
  · go_enter Tryd.func58, Tryd.ntmps58
    go_wp2
    go_ret3
    exact ⟨rfl, rfl⟩
  · have h' : ¬ at_ < 0 := by omega
    go_enter Tryd.func58, Tryd.ntmps58
    go_wp2
    go_ret3
    exact ⟨rfl, rfl⟩

/-- what is behind a backslash -/
def UnBehind (s : ByteArray) (k : Nat) : Prop := un s k = if isByteL (atB s (k + 1)) = true then some (byteL (atB s (k + 1)), (k : Int) + 2) else if k + 3 < s.size ∧ atB s (k + 1) = 120 ∧ 0 ≤ dig (atB s (k + 2)) ∧ 0 ≤ dig (atB s (k + 3)) then some (16 * dig (atB s (k + 2)) + dig (atB s (k + 3)), (k : Int) + 4) else none
theorem un_behind (s : ByteArray) (k : Nat) (h : atB s k = 92) (h2 : ¬ s.size ≤ k + 1) : UnBehind s k := by
  unfold UnBehind un; rw [if_neg (by omega), if_neg (by omega), if_neg h2]
theorem tail_size (s : ByteArray) (k : Nat) : (s.extract (k + 1) s.size).size = s.size - (k + 1) := by simp
theorem tail_at (s : ByteArray) (k j : Nat) (hk : k + 1 ≤ s.size) (h : j < (s.extract (k + 1) s.size).size) : ((s.extract (k + 1) s.size)[j].toNat : Int) = atB s (k + 1 + j) := by
  rw [← atB_eq _ j h, atB_tail s (k + 1) j]

set_option maxHeartbeats 4000000 in
theorem runescape_letter (s : ByteArray) (hs : s.size ≤ 1000000) (k : Nat) (hk : k < s.size) (h92 : atB s k = 92) (h4 : ¬ s.size ≤ k + 1) (h5 : isByteL (atB s (k + 1)) = true) (w : World) :
    Calls Tryd.prog 58 #[.string s, .int .i64 k] w fun e w' => e = .returned (unV (un s k) k) ∧ Below w.heap.size w w' := by
  have e0 := atB_eq s k hk
  have x1 : ¬ (s[k].toNat : Int) < 32 := by omega
  have x2 : ¬ 126 < (s[k].toNat : Int) := by omega
  have x3 : ((s[k].toNat : Int) != 92) = false := by rw [bne_eq_false_iff_eq]; omega
  have hlt : (k : Int) < s.size := by omega
  have hsz := tail_size s k
  have hpos : 0 < (s.extract (k + 1) s.size).size := by omega
  have hp2 : 0 < s.size - (k + 1) := by omega
  have hp3 : ((s.size - (k + 1) : Nat) : Int) ≠ 0 := by omega
  have hp4 : (((s.size - (k + 1) : Nat) : Int) == 0) = false := by rw [beq_eq_false_iff_ne]; exact hp3
  have t0 : ((s.extract (k + 1) s.size)[0].toNat : Int) = atB s (k + 1) := tail_at s k 0 (by omega) hpos
  have hn := un_behind s k h92 h4
  unfold UnBehind at hn
  rw [if_pos h5, ← t0] at hn
  have Hn := Lib.hid hn
  rw [← t0, isByteL_iff] at h5
  have H5 := Lib.hid h5
  clear e0 hsz t0 h92 h5 hp3 hn
  go_enter Tryd.func58, Tryd.ntmps58
  go_wp2_with fail
  all_goals (try simp only [beq_iff_eq, beq_eq_false_iff_ne, ne_eq] at *)
  all_goals (have h5 := H5.out; first | (exfalso; omega) | skip)
  all_goals (go_ret3; rw [Hn.out]; refine ⟨?_, Below.refl _ _⟩)
  all_goals (have e : ∀ c d : Int, c = d → Ending.returned (.tuple #[.int .u8 c, .int .i64 ((k : Int) + 2), .bool true]) = Ending.returned (unV (some (d, (k : Int) + 2)) k) := fun c d h => by rw [h]; rfl)
  all_goals (refine e _ _ ?_; unfold byteL; repeat (first | rw [if_pos (by omega)] | rw [if_neg (by omega)]))
  all_goals (try omega)

end Go.Proofs.YtifmbhcajlnhbaaDoor
