/- Texts of this proof, joined: OwnAll. No condition. -/
import Derived.Test.YtkdhoelabomgkaaGreatDoorMa35
import Derived.Test.YtkdhoelabomgkaaGreatDoorMa16
/-
  Layer 3, the law's side: OwnType, OwnPat, OwnExpr, OwnDecls of trees of no more than a million parts: the same trees, in blocks of their own.
-/
namespace Go.Proofs.YtkdhoelabomgkaaGreatDoor
set_option linter.unusedVariables false
open Go.ChangeShapes Go.WideShapes Go.ChangeAt Go.RowKit

theorem Ty.nds_len : ∀ l : List Ty, l.length ≤ Ty.nds l
  | [] => Nat.zero_le _
  | .mk a b c d :: r => by have := Ty.nds_len r; unfold Ty.nds Ty.nd; simp only [List.length_cons]; omega
theorem Pa.nds_len : ∀ l : List Pa, l.length ≤ Pa.nds l
  | [] => Nat.zero_le _
  | .mk a b c d e :: r => by have := Pa.nds_len r; unfold Pa.nds Pa.nd; simp only [List.length_cons]; omega
theorem Ex.nds_len : ∀ l : List Ex, l.length ≤ Ex.nds l
  | [] => Nat.zero_le _
  | .mk a b c d e f g h :: r => by have := Ex.nds_len r; unfold Ex.nds Ex.nd; simp only [List.length_cons]; omega
theorem Al.nds_len : ∀ l : List Al, l.length ≤ Al.nds l
  | [] => Nat.zero_le _
  | .mk a b :: r => by have := Al.nds_len r; unfold Al.nds Al.nd; simp only [List.length_cons]; omega
theorem De.nds_len : ∀ l : List De, l.length ≤ De.nds l
  | [] => Nat.zero_le _
  | .mk a b c d e f g h :: r => by have := De.nds_len r; unfold De.nds De.nd; simp only [List.length_cons]; omega
theorem Co.nds_len : ∀ l : List Co, l.length ≤ Co.nds l
  | [] => Nat.zero_le _
  | c :: r => by have := Co.nds_len r; unfold Co.nds; simp only [List.length_cons]; omega
mutual
theorem Ty.ok_nd : ∀ t : Ty, t.nd ≤ 1000000 → t.ok
  | .mk _ _ _ l, h => by
    unfold Ty.nd at h
    unfold Ty.ok
    exact ⟨by have := Ty.nds_len l; omega, Ty.oks_nds l (by omega)⟩
theorem Ty.oks_nds : ∀ l : List Ty, Ty.nds l ≤ 1000000 → Ty.oks l
  | [], _ => by unfold Ty.oks; trivial
  | t :: r, h => by
    unfold Ty.nds at h
    unfold Ty.oks
    exact ⟨Ty.ok_nd t (by omega), Ty.oks_nds r (by omega)⟩
end
mutual
theorem Pa.ok_nd : ∀ t : Pa, t.nd ≤ 1000000 → t.ok
  | .mk _ _ _ _ l, h => by
    unfold Pa.nd at h
    unfold Pa.ok
    exact ⟨by have := Pa.nds_len l; omega, Pa.oks_nds l (by omega)⟩
theorem Pa.oks_nds : ∀ l : List Pa, Pa.nds l ≤ 1000000 → Pa.oks l
  | [], _ => by unfold Pa.oks; trivial
  | t :: r, h => by
    unfold Pa.nds at h
    unfold Pa.oks
    exact ⟨Pa.ok_nd t (by omega), Pa.oks_nds r (by omega)⟩
end
theorem ownTs_nd (l : List Ty) (h : Ty.nds l ≤ 1000000) : OwnTs l := ownTs_all _ l (Nat.le_refl _) (by have := Ty.nds_len l; omega) (Ty.oks_nds l h)
theorem ownPs_nd (l : List Pa) (h : Pa.nds l ≤ 1000000) : OwnPs l := ownPs_all _ l (Nat.le_refl _) (by have := Pa.nds_len l; omega) (Pa.oks_nds l h)
theorem Ex.mem_nd {l : List Ex} {t : Ex} (h : t ∈ l) : t.nd ≤ Ex.nds l := by obtain ⟨k, hk⟩ := List.getElem?_of_mem h; exact Ex.nds_get l k t hk
theorem Al.mem_nd {l : List Al} {t : Al} (h : t ∈ l) : t.nd ≤ Al.nds l := by obtain ⟨k, hk⟩ := List.getElem?_of_mem h; exact Al.nds_get l k t hk
theorem De.mem_nd {l : List De} {t : De} (h : t ∈ l) : t.nd ≤ De.nds l := by obtain ⟨k, hk⟩ := List.getElem?_of_mem h; exact De.nds_get l k t hk
theorem Co.mem_nd {l : List Co} {t : Co} (h : t ∈ l) : Ty.nds t.args ≤ Co.nds l := by obtain ⟨k, hk⟩ := List.getElem?_of_mem h; exact Co.nds_get l k t hk
theorem ownD_of (n : Nat) (hn : n ≤ 1000000) (ih : ∀ t : Ex, t.nd ≤ n → OwnE t) (d : De) (h : d.nd ≤ n + 1) : OwnD d := by
  obtain ⟨k, p, m, vs, cs, ⟨tk, tp, tn, tl⟩, ps, e⟩ := d
  unfold De.nd Ty.nd at h
  have := Co.nds_len cs
  exact ⟨by omega, by omega, ownTs_nd tl (by omega), ownPs_nd ps (by omega), ih e (by omega), fun c hc => ownTs_nd c.args (by have := Co.mem_nd hc; omega)⟩
theorem ownE_nd : ∀ (n : Nat), n ≤ 1000000 → ∀ t : Ex, t.nd ≤ n → OwnE t
  | 0, _, .mk _ _ _ _ _ _ _ _, h => by unfold Ex.nd at h; omega
  | n + 1, hn, .mk k p m i l ps al ds, h => by
    unfold Ex.nd at h
    have ih := ownE_nd n (by omega)
    intro P vs w hvs
    obtain ⟨hnm, a4, a5, a6, a7, b4, b5, b6, b7, rfl, h4, h5, h6, h7⟩ := ex_vs hvs
    have := Ex.nds_len l
    have := Al.nds_len al
    have := De.nds_len ds
    exact ownE_step k p i m l ps al ds a4 a5 a6 a7 b4 b5 b6 b7 P w (ownPs_nd ps (by omega)) (ownDs_step ds (fun d hd => ownD_of n (by omega) ih d (by have := De.mem_nd hd; omega)) (by omega)) (fun t ht => ih t (by have := Ex.mem_nd ht; omega)) hnm (by omega)
      (fun t ht => by
        have h1 := Al.mem_nd ht
        obtain ⟨⟨pk, pp, pn, pm, pl⟩, e⟩ := t
        unfold Al.nd Pa.nd at h1
        exact ⟨ownPs_nd pl (by omega), ih e (by omega)⟩) (by omega) h4 h6 h5 h7
theorem ownDs_nd (l : List De) (h : De.nds l ≤ 1000000) : OwnDs l := ownDs_step l (fun d hd => ownD_of 1000000 (Nat.le_refl _) (ownE_nd 1000000 (Nat.le_refl _)) d (by have := De.mem_nd hd; omega)) (by have := De.nds_len l; omega)
end Go.Proofs.YtkdhoelabomgkaaGreatDoor
