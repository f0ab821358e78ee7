/- Texts of this proof, joined: Few2. No condition. -/
import Derived.Test.YtdiffpiapdghoaaGreatDoorSa29
/-
  Layer 3, the law's side: FewExprs, fewAlts, FewDecls count the parts, for every list; light.
-/
namespace Go.Proofs.YtdiffpiapdghoaaGreatDoor
set_option linter.unusedVariables false
open Go.ChangeShapes Go.WideShapes Go.ChangeAt Go.RowKit

theorem fewY_all : ∀ z, FewY z
  | 0 => ⟨fun l h v x w hv => fewE_stepB 0 l (fun hne => absurd h (by obtain ⟨t, r, rfl⟩ := List.exists_cons_of_ne_nil hne; have := Ex.wts_get (t :: r) 0 t rfl; omega)) (by omega) v x w hv,
      fun l h v x w hv => fewA_stepB 0 l (fun hne => absurd h (by obtain ⟨t, r, rfl⟩ := List.exists_cons_of_ne_nil hne; have := Al.wts_get (t :: r) 0 t rfl; omega)) (by omega) v x w hv,
      fun l h v x w hv => fewD_stepB 0 l (fun hne => absurd h (by obtain ⟨t, r, rfl⟩ := List.exists_cons_of_ne_nil hne; have := De.wts_get (t :: r) 0 t rfl; omega)) (by omega) v x w hv⟩
  | z + 1 => ⟨fun l h v x w hv => fewE_stepB z l (fun _ => fewY_all z) h v x w hv, fun l h v x w hv => fewA_stepB z l (fun _ => fewY_all z) h v x w hv, fun l h v x w hv => fewD_stepB z l (fun _ => fewY_all z) h v x w hv⟩
theorem fewE_numB (l : List Ex) (v : Value) (x : Int) (w : World) (hv : IsExs w Any v l) : Calls Tryz.prog 32 #[v, .int .i64 x] w (NumB (Ex.fits l) (Ex.nds l) x w) := (fewY_all _).ex l (Nat.le_refl _) v x w hv
/-- light says yes only of no more than 600 parts -/
theorem light_any (l : List Ex) (v : Value) (w : World) (hv : IsExs w Any v l) :
    Calls Tryz.prog 6 #[v] w fun e w' => (∃ b, e = .returned (.bool b) ∧ (b = true → Ex.fits l → Ex.nds l ≤ 600)) ∧ Below w.heap.size w w' := by
  obtain ⟨ao, cap, rfl, v1, v2⟩ := hv.form
  go_enter Tryz.func6, Tryz.ntmps6
  go_wp2_with fail
  refine (fewE_numB l _ _ _ hv).mono ?_
  rintro e w1 ⟨⟨r, rfl, hr⟩, hb⟩
  replace hr := Lib.hid hr
  by_cases h : 0 ≤ r
  · have hc : (decide (0 ≤ r)) = true := by simp [h]
    have HB := Lib.hid h
    clear hc
    go_wp2
    go_ret
    refine ⟨⟨true, by first | rfl | simp, fun _ hf => ?_⟩, hb⟩
    have h1 := (hr.out hf (by omega)).2 HB.out
    omega
  · have q : ¬ (0 : Int) ≤ r := h
    clear h
    go_wp2
    go_ret
    exact ⟨⟨false, by first | rfl | (simp; omega), fun h => absurd h (by simp)⟩, hb⟩
end Go.Proofs.YtdiffpiapdghoaaGreatDoor
