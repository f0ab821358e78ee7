/- Texts of this proof, joined: OwnAll, RSameAll. No condition. -/
import Derived.Test.YtdiffpiapdghoaaGreatDoorRa38
import Derived.Test.YtdiffpiapdghoaaGreatDoorRa22
import Derived.Test.YtdiffpiapdghoaaGreatDoorRa33
/-
  Layer 3, the law's side: OwnType, OwnPat, OwnExpr, OwnDecls of trees of no more than a million parts: the same trees, in blocks of their own.
-/
namespace Go.Proofs.YtdiffpiapdghoaaGreatDoor
set_option linter.unusedVariables false
open Go.ChangeShapes Go.WideShapes Go.ChangeAt Go.RowKit

theorem Ty.nds_len : ∀ l : List Ty, l.length ≤ Ty.nds l
  | [] => Nat.zero_le _
  | .mk a b c d :: r => by have := Ty.nds_len r; unfold Ty.nds Ty.nd; simp only [List.length_cons]; omega
theorem Pa.nds_len : ∀ l : List Pa, l.length ≤ Pa.nds l
  | [] => Nat.zero_le _
  | .mk a b c d e :: r => by have := Pa.nds_len r; unfold Pa.nds Pa.nd; simp only [List.length_cons]; omega
theorem Ex.nds_len : ∀ l : List Ex, l.length ≤ Ex.nds l
  | [] => Nat.zero_le _
  | .mk a b c d e f g h :: r => by have := Ex.nds_len r; unfold Ex.nds Ex.nd; simp only [List.length_cons]; omega
theorem Al.nds_len : ∀ l : List Al, l.length ≤ Al.nds l
  | [] => Nat.zero_le _
  | .mk a b :: r => by have := Al.nds_len r; unfold Al.nds Al.nd; simp only [List.length_cons]; omega
theorem De.nds_len : ∀ l : List De, l.length ≤ De.nds l
  | [] => Nat.zero_le _
  | .mk a b c d e f g h :: r => by have := De.nds_len r; unfold De.nds De.nd; simp only [List.length_cons]; omega
theorem Co.nds_len : ∀ l : List Co, l.length ≤ Co.nds l
  | [] => Nat.zero_le _
  | c :: r => by have := Co.nds_len r; unfold Co.nds; simp only [List.length_cons]; omega
mutual
theorem Ty.ok_nd : ∀ t : Ty, t.nd ≤ 1000000 → t.ok
  | .mk _ _ _ l, h => by
    unfold Ty.nd at h
    unfold Ty.ok
    exact ⟨by have := Ty.nds_len l; omega, Ty.oks_nds l (by omega)⟩
theorem Ty.oks_nds : ∀ l : List Ty, Ty.nds l ≤ 1000000 → Ty.oks l
  | [], _ => by unfold Ty.oks; trivial
  | t :: r, h => by
    unfold Ty.nds at h
    unfold Ty.oks
    exact ⟨Ty.ok_nd t (by omega), Ty.oks_nds r (by omega)⟩
end
mutual
theorem Pa.ok_nd : ∀ t : Pa, t.nd ≤ 1000000 → t.ok
  | .mk _ _ _ _ l, h => by
    unfold Pa.nd at h
    unfold Pa.ok
    exact ⟨by have := Pa.nds_len l; omega, Pa.oks_nds l (by omega)⟩
theorem Pa.oks_nds : ∀ l : List Pa, Pa.nds l ≤ 1000000 → Pa.oks l
  | [], _ => by unfold Pa.oks; trivial
  | t :: r, h => by
    unfold Pa.nds at h
    unfold Pa.oks
    exact ⟨Pa.ok_nd t (by omega), Pa.oks_nds r (by omega)⟩
end
theorem ownTs_nd (l : List Ty) (h : Ty.nds l ≤ 1000000) : OwnTs l := ownTs_all _ l (Nat.le_refl _) (by have := Ty.nds_len l; omega) (Ty.oks_nds l h)
theorem ownPs_nd (l : List Pa) (h : Pa.nds l ≤ 1000000) : OwnPs l := ownPs_all _ l (Nat.le_refl _) (by have := Pa.nds_len l; omega) (Pa.oks_nds l h)
theorem Ex.mem_nd {l : List Ex} {t : Ex} (h : t ∈ l) : t.nd ≤ Ex.nds l := by obtain ⟨k, hk⟩ := List.getElem?_of_mem h; exact Ex.nds_get l k t hk
theorem Al.mem_nd {l : List Al} {t : Al} (h : t ∈ l) : t.nd ≤ Al.nds l := by obtain ⟨k, hk⟩ := List.getElem?_of_mem h; exact Al.nds_get l k t hk
theorem De.mem_nd {l : List De} {t : De} (h : t ∈ l) : t.nd ≤ De.nds l := by obtain ⟨k, hk⟩ := List.getElem?_of_mem h; exact De.nds_get l k t hk
theorem Co.mem_nd {l : List Co} {t : Co} (h : t ∈ l) : Ty.nds t.args ≤ Co.nds l := by obtain ⟨k, hk⟩ := List.getElem?_of_mem h; exact Co.nds_get l k t hk
theorem ownD_of (n : Nat) (hn : n ≤ 1000000) (ih : ∀ t : Ex, t.nd ≤ n → OwnE t) (d : De) (h : d.nd ≤ n + 1) : OwnD d := by
  obtain ⟨k, p, m, vs, cs, ⟨tk, tp, tn, tl⟩, ps, e⟩ := d
  unfold De.nd Ty.nd at h
  have := Co.nds_len cs
  exact ⟨by omega, by omega, ownTs_nd tl (by omega), ownPs_nd ps (by omega), ih e (by omega), fun c hc => ownTs_nd c.args (by have := Co.mem_nd hc; omega)⟩
theorem ownE_nd : ∀ (n : Nat), n ≤ 1000000 → ∀ t : Ex, t.nd ≤ n → OwnE t
  | 0, _, .mk _ _ _ _ _ _ _ _, h => by unfold Ex.nd at h; omega
  | n + 1, hn, .mk k p m i l ps al ds, h => by
    unfold Ex.nd at h
    have ih := ownE_nd n (by omega)
    intro P vs w hvs
    obtain ⟨hnm, a4, a5, a6, a7, b4, b5, b6, b7, rfl, h4, h5, h6, h7⟩ := ex_vs hvs
    have := Ex.nds_len l
    have := Al.nds_len al
    have := De.nds_len ds
    exact ownE_step k p i m l ps al ds a4 a5 a6 a7 b4 b5 b6 b7 P w (ownPs_nd ps (by omega)) (ownDs_step ds (fun d hd => ownD_of n (by omega) ih d (by have := De.mem_nd hd; omega)) (by omega)) (fun t ht => ih t (by have := Ex.mem_nd ht; omega)) hnm (by omega)
      (fun t ht => by
        have h1 := Al.mem_nd ht
        obtain ⟨⟨pk, pp, pn, pm, pl⟩, e⟩ := t
        unfold Al.nd Pa.nd at h1
        exact ⟨ownPs_nd pl (by omega), ih e (by omega)⟩) (by omega) h4 h6 h5 h7
theorem ownDs_nd (l : List De) (h : De.nds l ≤ 1000000) : OwnDs l := ownDs_step l (fun d hd => ownD_of 1000000 (Nat.le_refl _) (ownE_nd 1000000 (Nat.le_refl _)) d (by have := De.mem_nd hd; omega)) (by have := De.nds_len l; omega)
end Go.Proofs.YtdiffpiapdghoaaGreatDoor
/-
  Layer 3, the document's side: SameType, SamePat, SameExpr, SameDecls of any trees.
-/
namespace Go.Proofs.YtdiffpiapdghoaaGreatDoor
set_option linter.unusedVariables false
open Go.ChangeShapes Go.WideShapes Go.ChangeAt Go.RowKit

theorem rsameE_all : ∀ (n : Nat) (t u : Ex), t.nd ≤ n → RSameE t u
  | 0, .mk _ _ _ _ _ _ _ _, u, h => by unfold Ex.nd at h; omega
  | n + 1, .mk xk xp xn xm xl xps xal xds, u, h => by
    unfold Ex.nd at h
    refine rsameE_step _ u (fun k x y hx hy => rsameE_all n x y ?_) (fun k x y hx hy => rsameE_all n x.body' y.body' ?_) (fun P Q v v' w hv hv' => rsameDs_step _ _ (fun k x y hx hy => rsameE_all n x.body' y.body' ?_) P Q v v' w hv hv')
    · have hx : xl[k]? = some x := hx
      have := Ex.nds_get xl k x hx
      omega
    · have hx : xal[k]? = some x := hx
      have h1 := Al.nds_get xal k x hx
      obtain ⟨p, e⟩ := x
      unfold Al.nd at h1
      show e.nd ≤ n
      omega
    · have hx : xds[k]? = some x := hx
      have h1 := De.nds_get xds k x hx
      obtain ⟨d1, d2, d3, d4, d5, d6, d7, d8⟩ := x
      unfold De.nd at h1
      show d8.nd ≤ n
      omega
theorem rsameE_any (t u : Ex) : RSameE t u := rsameE_all _ t u (Nat.le_refl _)
theorem rsameDs_any (l m : List De) (P Q : Nat → Prop) (v v' : Value) (w : World) (hs : IsDes w P v l) (ht : IsDes w Q v' m) :
    Calls Tryz.prog 28 #[v, v'] w fun e w' => e = .returned (.bool (De.sames l m)) ∧ Below w.heap.size w w' :=
  rsameDs_step l m (fun k t u _ _ => rsameE_any t.body' u.body') P Q v v' w hs ht
theorem rsameP_vs (t u : Pa) (P Q : Nat → Prop) (vs us : List Value) (w : World) (hv : IsVs w P t.row vs) (hu : IsVs w Q u.row us) :
    Calls Tryz.prog 22 #[.agg vs.toArray, .agg us.toArray] w fun e w' => e = .returned (.bool (t.same u)) ∧ Below w.heap.size w w' := by
  obtain ⟨tk, tp, tn, tm, tl⟩ := t
  obtain ⟨uk, up, un, um, ul⟩ := u
  obtain ⟨a, b, rfl, h1, h2⟩ := pa_vs hv
  obtain ⟨a', b', rfl, h3, h4⟩ := pa_vs hu
  exact rsameP_step tk tp tn tm tl uk up un um ul (rsamePs_all _ tl ul (Nat.le_refl _)) P Q _ _ w h2 h4
/-- a type, a pattern as the program's, as values -/
theorem ownT_vs (t : Ty) (hn : t.nd ≤ 1000000) (P : Nat → Prop) (vs : List Value) (w : World) (hv : IsVs w P t.row vs) :
    Calls Tryz.prog 10 #[.agg vs.toArray] w fun e w' => ∃ vs', e = .returned (.agg vs'.toArray) ∧ IsVs w' (Own w w') t.row vs' ∧ Below w.heap.size w w' := by
  obtain ⟨tk, tp, tn, tl⟩ := t
  unfold Ty.nd at hn
  obtain ⟨a, b, rfl, h1, h2⟩ := ty_vs hv
  refine (ownT_step tk tp tn tl (ownTs_nd tl (by omega)) P _ w h2).mono ?_
  rintro e w' ⟨v', rfl, h3, h4⟩
  refine ⟨[.int .i64 tk, .int .i64 tp, .string tn, v'], rfl, ?_, h4⟩
  unfold Ty.row
  exact ⟨_, _, rfl, (by unfold IsC; rfl), _, _, rfl, (by unfold IsC; rfl), _, _, rfl, (by unfold IsC; exact ⟨rfl, h1⟩), _, _, rfl, h3.out, rfl⟩
theorem ownP_vs (t : Pa) (hn : t.nd ≤ 1000000) (P : Nat → Prop) (vs : List Value) (w : World) (hv : IsVs w P t.row vs) :
    Calls Tryz.prog 13 #[.agg vs.toArray] w fun e w' => ∃ vs', e = .returned (.agg vs'.toArray) ∧ IsVs w' (Own w w') t.row vs' ∧ Below w.heap.size w w' := by
  obtain ⟨tk, tp, tn, tm, tl⟩ := t
  unfold Pa.nd at hn
  obtain ⟨a, b, rfl, h1, h2⟩ := pa_vs hv
  refine (ownP_step tk tp tn tm tl (ownPs_nd tl (by omega)) P _ w h2).mono ?_
  rintro e w' ⟨v', rfl, h3, h4⟩
  exact ⟨[.int .i64 tk, .int .i64 tp, .string tn, .int .i64 tm, v'], rfl, pa_vs_mk h1 h3, h4⟩
end Go.Proofs.YtdiffpiapdghoaaGreatDoor
