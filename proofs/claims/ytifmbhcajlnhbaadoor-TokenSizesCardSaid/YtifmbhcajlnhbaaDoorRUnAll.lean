/-
  The document's Unescape: whatever stands there.
-/
import Derived.Test.YtifmbhcajlnhbaaDoorRHex
namespace Go.Proofs.YtifmbhcajlnhbaaDoor
set_option linter.unusedVariables false
open Go.ChangeShapes Go.WideShapes Go.ChangeAt Go.RowKit

set_option maxHeartbeats 4000000 in
theorem runescape_in (s : ByteArray) (hs : s.size ≤ 1000000) (k : Nat) (hk : k < s.size) (w : World) :
    Calls Tryd.prog 58 #[.string s, .int .i64 k] w fun e w' => e = .returned (unV (un s k) k) ∧ Below w.heap.size w w' := by
  have e0 := atB_eq s k hk
  have hlt : (k : Int) < s.size := by omega
  by_cases h1 : atB s k < 32
  · have e : un s k = none := by unfold un; rw [if_pos (.inl h1)]
    have E := Lib.hid e
    have x : (s[k].toNat : Int) < 32 := by omega
    clear e e0 h1
    go_enter Tryd.func58, Tryd.ntmps58
    go_wp2
    go_ret3
    rw [E.out]
    exact ⟨rfl, Below.refl _ _⟩
  by_cases h2 : 126 < atB s k
  · have e : un s k = none := by unfold un; rw [if_pos (.inr h2)]
    have E := Lib.hid e
    have x1 : ¬ (s[k].toNat : Int) < 32 := by omega
    have x : 126 < (s[k].toNat : Int) := by omega
    clear e e0 h1 h2
    go_enter Tryd.func58, Tryd.ntmps58
    go_wp2
    go_ret3
    rw [E.out]
    exact ⟨rfl, Below.refl _ _⟩
  have x1 : ¬ (s[k].toNat : Int) < 32 := by omega
  have x2 : ¬ 126 < (s[k].toNat : Int) := by omega
  by_cases h3 : atB s k = 92
  · by_cases h4 : s.size ≤ k + 1
    · have x3 : ((s[k].toNat : Int) != 92) = false := by rw [bne_eq_false_iff_eq]; omega
      have e : un s k = none := by unfold un; rw [if_neg (by omega), if_neg (by omega), if_pos h4]
      have E := Lib.hid e
      have hp4 : s.size - (k + 1) = 0 := by omega
      clear e e0 h1 h2 h3
      go_enter Tryd.func58, Tryd.ntmps58
      go_wp2
      go_ret3
      rw [E.out]
      exact ⟨rfl, Below.refl _ _⟩
    · by_cases h5 : isByteL (atB s (k + 1)) = true
      · exact runescape_letter s hs k hk h3 h4 h5 w
      · exact runescape_hex s hs k hk h3 h4 h5 w
  · have e : un s k = some ((s[k].toNat : Int), (k : Int) + 1) := by unfold un; rw [if_neg (by omega), if_pos h3, e0]
    have E := Lib.hid e
    have x3 : ((s[k].toNat : Int) != 92) = true := by rw [bne_iff_ne]; omega
    clear e e0 h1 h2 h3
    go_enter Tryd.func58, Tryd.ntmps58
    go_wp2
    go_ret3
    rw [E.out]
    exact ⟨rfl, Below.refl _ _⟩
end Go.Proofs.YtifmbhcajlnhbaaDoor
