/-
  What each statement of the layer asks besides: a place, a quoted text, a class.
-/
import Derived.Test.YtdccedmfelpanaaPlace
import Derived.Test.YtdccedmfelpanaaQuote
import Derived.Test.YtdccedmfelpanaaHas
import Derived.Test.YtdccedmfelpanaaEsc
namespace Go.Proofs.Ytdccedmfelpanaa
open Go.ChangeShapes Go.WideShapes Go.ChangeAt Go.RowKit

theorem knows_place (w : World) : Calls Try.prog 13 #[.string ⟨#[97, 98, 10, 99]⟩, .int .i64 3] w fun e w' => e = .returned (.tuple #[.int .i64 2, .int .i64 1]) ∧ w = w' := by
  have h := place_in ⟨#[97, 98, 10, 99]⟩ (by decide) 3 (by decide) (by decide) w
  have e : Pl.plc ((⟨#[97, 98, 10, 99]⟩ : ByteArray).data.toList.take (3 : Int).toNat) = (2, 1) := by decide
  rw [e] at h
  exact h
theorem knows_quote (w : World) : Calls Try.prog 23 #[.string ⟨#[97, 10, 34]⟩] w fun e w' => e = .returned (.string ⟨#[34, 97, 92, 110, 92, 34, 34]⟩) ∧ Below w.heap.size w w' := by
  have h := quote_any ⟨#[97, 10, 34]⟩ (by decide) w
  have e : strOfNums (quoAll (⟨#[97, 10, 34]⟩ : ByteArray).data.toList) = ⟨#[34, 97, 92, 110, 92, 34, 34]⟩ := by decide
  rw [e] at h
  exact h
theorem knows_class (w : World) : Calls Try.prog 8 #[.int .u8 65] w fun e w' => e = .returned (.int .i64 4) ∧ w = w' := by
  have h := class_any 65 (by decide) (by decide) w
  have e : cls 65 = 4 := by decide
  rw [e] at h
  exact h

set_option maxHeartbeats 1000000 in
theorem knows_any (w : World) : Calls Try.prog 12 #[] w fun e w' => e = .returned (.bool true) ∧ Below w.heap.size w w' := by
  go_enter Try.func12, Try.ntmps12
  go_wp2_with (first | (go_at_call 13; refine (knows_place _).mono ?_; rintro e w' ⟨rfl, rfl⟩) | (go_at_call 23; refine (knows_quote _).mono ?_; rintro e w1 ⟨rfl, hb1⟩) | (go_at_call 8; refine (knows_class _).mono ?_; rintro e w' ⟨rfl, rfl⟩))
  go_ret
  exact ⟨rfl, by assumption⟩

set_option maxHeartbeats 1000000 in
theorem classes_any (c q : Int) (h0 : 0 ≤ c) (h1 : c ≤ 255) (h2 : 0 ≤ q) (h3 : q ≤ 255) (w : World) :
    Calls Try.prog 3 #[.int .u8 c, .int .u8 q] w fun e w' => e = .returned (.bool true) ∧ Below w.heap.size w w' := by
  go_enter Try.func3, Try.ntmps3
  go_wp2_with fail
  refine (class_any c h0 h1 _).mono ?_
  rintro e w' ⟨rfl, rfl⟩
  go_wp2_with fail
  refine (rclass_any c h0 h1 _).mono ?_
  rintro e w' ⟨rfl, rfl⟩
  go_wp2_with fail
  refine (escape_any c q h0 h1 _).mono ?_
  rintro e w1 ⟨rfl, hb1⟩
  go_wp2_with fail
  refine (resc_any c q h0 h1 h2 h3 _).mono ?_
  rintro e w2 ⟨rfl, hb2⟩
  go_wp2_with fail
  refine (knows_any _).mono ?_
  rintro e w3 ⟨rfl, hb3⟩
  go_wp2
  go_ret
  exact ⟨rfl, hb1.trans ((hb2.mono hb1.size).trans (hb3.mono (Nat.le_trans hb1.size hb2.size)))⟩
end Go.Proofs.Ytdccedmfelpanaa
