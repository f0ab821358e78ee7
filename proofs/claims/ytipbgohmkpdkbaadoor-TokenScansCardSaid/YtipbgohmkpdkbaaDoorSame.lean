/-
  Layer 2: the law's Own and Same: a token of the document's as the program's; the program's tokens are the document's.
-/
import Derived.Test.YtipbgohmkpdkbaaDoorTPlaces
import Derived.Test.YtipbgohmkpdkbaaDoorRScan
namespace Go.Proofs.YtipbgohmkpdkbaaDoor
set_option linter.unusedVariables false
open Go.ChangeShapes Go.WideShapes Go.ChangeAt Go.RowKit

set_option maxHeartbeats 1000000 in
set_option maxRecDepth 100000 in
theorem own_any (k a f n : Int) (t : ByteArray) (w : World) :
    Calls Tryd.prog 14 #[.agg #[.int .i64 k, .int .i64 a, .int .i64 f, .string t, .int .i64 n]] w fun e w' => e = .returned (.agg #[.int .i64 k, .int .i64 a, .int .i64 f, .string t, .int .i64 n]) ∧ Below w.heap.size w w' := by
  go_enter Tryd.func14, Tryd.ntmps14
  go_wp2
  exact bodyPost_ret (v := .agg #[.int .i64 k, .int .i64 a, .int .i64 f, .string t, .int .i64 n]) (by simp [results, Tryd.results14, go_sem]) rfl ⟨rfl, by first | exact (Below.refl _ _).alloc (Nat.le_refl _) _ | exact ((Below.refl _ _).alloc (Nat.le_refl _) _).alloc (by simp) _ | exact Below.refl _ _⟩

set_option maxHeartbeats 1000000 in
set_option maxRecDepth 100000 in
theorem same_nil (ao ao2 : Option Addr) (cap cap2 : Nat) (w : World) :
    Calls Tryd.prog 12 #[.slice ao 0 cap, .slice ao2 0 cap2] w fun e w' => e = .returned (.bool true) ∧ Below w.heap.size w w' := by
  go_enter Tryd.func12, Tryd.ntmps12
  go_wp2
  go_loopw [5] (fun iv wr => iv = .int .i64 0 ∧ wr = w) (fun iv _ => 0)
  case atStart => exact ⟨rfl, rfl⟩
  case round =>
    obtain ⟨rfl, rfl⟩ := hrel
    go_wp2
    go_ret
    exact ⟨rfl, Below.refl _ _⟩

set_option maxHeartbeats 4000000 in
set_option maxRecDepth 100000 in
theorem same_any (l : List Tk) (g g2 B B2 cap cap2 : Nat) (hcap : l.length ≤ cap) (hmax : cap ≤ maxLen) (hcap2 : l.length ≤ cap2) (hmax2 : cap2 ≤ maxLen) (hsm : l.length ≤ 1000000) (w : World) (h1 : TkRows w B g l) (h2 : TkRows w B2 g2 l) :
    Calls Tryd.prog 12 #[.slice (some ⟨g, 0, none⟩) l.length cap, .slice (some ⟨g2, 0, none⟩) l.length cap2] w fun e w' => e = .returned (.bool true) ∧ Below w.heap.size w w' := by
  go_enter Tryd.func12, Tryd.ntmps12
  go_wp2
  go_loopw [5] (fun iv wr => ∃ i : Nat, i ≤ l.length ∧ iv = .int .i64 i ∧ TkRows wr B g l ∧ TkRows wr B2 g2 l ∧ Below w.heap.size w wr) (fun iv _ => l.length - (intOf iv).toNat)
  case atStart => exact ⟨0, by omega, rfl, h1, h2, Below.refl _ _⟩
  case round =>
    obtain ⟨i, hi, rfl, hA, hB, hbr⟩ := hrel
    by_cases hil : i < l.length
    · obtain ⟨x, hx⟩ : ∃ x, l[i]? = some x := ⟨l[i], List.getElem?_eq_getElem hil⟩
      obtain ⟨a0, a1, a2, a3, a4⟩ := hA.cell i x hx
      obtain ⟨b0, b1, b2, b3, b4⟩ := hB.cell i x hx
      have i2 : (i : Int) < (l.length : Int) := by omega
      go_wp2
      go_region_held3 (fun W => (W.cell? ⟨g, i * 5, none⟩ = some (.int .i64 x.kind) ∧ W.cell? ⟨g, i * 5 + 1, none⟩ = some (.int .i64 x.at_) ∧ W.cell? ⟨g, i * 5 + 2, none⟩ = some (.int .i64 x.fin) ∧ W.cell? ⟨g, i * 5 + 3, none⟩ = some (.string x.text) ∧ W.cell? ⟨g, i * 5 + 4, none⟩ = some (.int .i64 x.n)) ∧
          (W.cell? ⟨g2, i * 5, none⟩ = some (.int .i64 x.kind) ∧ W.cell? ⟨g2, i * 5 + 1, none⟩ = some (.int .i64 x.at_) ∧ W.cell? ⟨g2, i * 5 + 2, none⟩ = some (.int .i64 x.fin) ∧ W.cell? ⟨g2, i * 5 + 3, none⟩ = some (.string x.text) ∧ W.cell? ⟨g2, i * 5 + 4, none⟩ = some (.int .i64 x.n)))
        (first | exact ⟨hA5.cell i x hx, hB5.cell i x hx⟩ | exact ⟨hA.drew.cell i x hx, hB.drew.cell i x hx⟩ | go_keep)
        ((first | (go_at_call 14
                   refine (own_any x.kind x.at_ x.fin x.n x.text _).mono ?_
                   rintro e w5 ⟨rfl, hb5⟩
                   have hA5 := hA.drew.below hb5
                   have hB5 := hB.drew.below hb5)))
      go_wp2
      try simp only [Act.put]
      go_roundw
      case rel => exact ⟨i + 1, by omega, by go_num, hA5, hB5, hbr.drew.trans (hb5.mono hbr.drew.size)⟩
      case measure => simp [intOf]; omega
    · go_wp2
      go_ret
      exact ⟨rfl, hbr⟩
end Go.Proofs.YtipbgohmkpdkbaaDoor
