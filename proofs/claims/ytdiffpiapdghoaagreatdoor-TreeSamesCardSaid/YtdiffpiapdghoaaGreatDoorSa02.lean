/- Texts of this proof, joined: Parts. No condition. -/
import Derived.Test.YtdiffpiapdghoaaGreatDoorSa01
/-
  Layer 3: how many parts a tree has; what the law's counts leave. No walk.
-/
namespace Go.Proofs.YtdiffpiapdghoaaGreatDoor
set_option linter.unusedVariables false
open Go.ChangeShapes Go.WideShapes Go.ChangeAt Go.RowKit

theorem take_100 (y : Int) (n : Nat) (h0 : 0 ≤ y) (hm : y ≤ 9223372036854775807) (hn : n ≤ maxLen) : wrap64 (wrap64 (y - 1) - (n : Int) / 100) = y - 1 - (n : Int) / 100 := by
  have hq := quo_100 n hn
  unfold wrap64
  omega

-- Ty: how many parts; names that memory holds
mutual
def Ty.nd : Ty → Nat
  | .mk _ _ _ l => Ty.nds l + 1
def Ty.nds : List Ty → Nat
  | [] => 0
  | t :: r => t.nd + Ty.nds r
end
mutual
def Ty.nm : Ty → Prop
  | .mk _ _ n l => n.size ≤ maxLen ∧ Ty.nms l
def Ty.nms : List Ty → Prop
  | [] => True
  | t :: r => t.nm ∧ Ty.nms r
end
theorem Ty.nms_of : ∀ (l : List Ty), (∀ (k : Nat) (t : Ty), l[k]? = some t → t.nm) → Ty.nms l
  | [], h => by unfold Ty.nms; trivial
  | t :: r, h => by unfold Ty.nms; exact ⟨h 0 t rfl, Ty.nms_of r fun k u hk => h (k + 1) u (by simpa using hk)⟩
theorem Ty.nms_is {P : Nat → Prop} {w : World} : ∀ (z : Nat) (l : List Ty) (ao : Option Addr) (cap : Nat), Ty.wts l ≤ z → IsTys w P (.slice ao l.length cap) l → Ty.nms l
  | 0, l, _, _, hz, _ => by cases l <;> (unfold Ty.wts at hz; omega)
  | z + 1, l, ao, cap, hz, h => Ty.nms_of l fun k t hk => by
    have hw := Ty.wts_get l k t hk
    obtain ⟨a, _, _, hrow⟩ := h.at hk
    obtain ⟨k1, p1, n1, l1⟩ := t
    obtain ⟨_, _, _, hn, ao, cap, _, _, _, hl⟩ := hrow.cells
    unfold Ty.wt at hw
    unfold Ty.nm
    exact ⟨hn, Ty.nms_is z l1 ao cap (by omega) hl⟩
mutual
theorem Ty.few_le : ∀ (t : Ty) (y : Int), t.nm → 0 ≤ y → y ≤ 9223372036854775807 → 0 ≤ t.few y → (t.nd : Int) + t.few y ≤ y
  | .mk _ _ n l, y, hn, h0, hm, hr => by
    unfold Ty.nm at hn
    unfold Ty.few at hr ⊢
    unfold Ty.nd
    rw [take_100 y n.size h0 hm hn.1] at hr ⊢
    have hq := quo_100 n.size hn.1
    have := Ty.fews_le l _ hn.2 (by omega) hr
    omega
theorem Ty.fews_le : ∀ (l : List Ty) (y : Int), Ty.nms l → y ≤ 9223372036854775807 → 0 ≤ Ty.fews l y → (Ty.nds l : Int) + Ty.fews l y ≤ y
  | [], y, hn, hm, hr => by unfold Ty.fews Ty.nds; omega
  | t :: r, y, hn, hm, hr => by
    unfold Ty.nms at hn
    unfold Ty.fews at hr ⊢
    by_cases hy : y < 0
    · rw [if_pos hy] at hr; omega
    · rw [if_neg hy] at hr ⊢
      unfold Ty.nds
      have h1 := Ty.few_le t y hn.1 (by omega) hm
      rcases Int.lt_or_le (t.few y) 0 with h2 | h2
      · have h3 := Ty.fews_le r _ hn.2 (by omega) hr
        omega
      · have h3 := Ty.fews_le r _ hn.2 (by have := h1 h2; omega) hr
        have := h1 h2
        omega
end

-- Pa: how many parts; names that memory holds
mutual
def Pa.nd : Pa → Nat
  | .mk _ _ _ _ l => Pa.nds l + 1
def Pa.nds : List Pa → Nat
  | [] => 0
  | t :: r => t.nd + Pa.nds r
end
mutual
def Pa.nm : Pa → Prop
  | .mk _ _ n _ l => n.size ≤ maxLen ∧ Pa.nms l
def Pa.nms : List Pa → Prop
  | [] => True
  | t :: r => t.nm ∧ Pa.nms r
end
theorem Pa.nms_of : ∀ (l : List Pa), (∀ (k : Nat) (t : Pa), l[k]? = some t → t.nm) → Pa.nms l
  | [], h => by unfold Pa.nms; trivial
  | t :: r, h => by unfold Pa.nms; exact ⟨h 0 t rfl, Pa.nms_of r fun k u hk => h (k + 1) u (by simpa using hk)⟩
theorem Pa.nms_is {P : Nat → Prop} {w : World} : ∀ (z : Nat) (l : List Pa) (ao : Option Addr) (cap : Nat), Pa.wts l ≤ z → IsPas w P (.slice ao l.length cap) l → Pa.nms l
  | 0, l, _, _, hz, _ => by cases l <;> (unfold Pa.wts at hz; omega)
  | z + 1, l, ao, cap, hz, h => Pa.nms_of l fun k t hk => by
    have hw := Pa.wts_get l k t hk
    obtain ⟨a, _, _, hrow⟩ := h.at hk
    obtain ⟨k1, p1, n1, m1, l1⟩ := t
    obtain ⟨_, _, _, hn, _, ao, cap, _, _, _, hl⟩ := hrow.cells
    unfold Pa.wt at hw
    unfold Pa.nm
    exact ⟨hn, Pa.nms_is z l1 ao cap (by omega) hl⟩
mutual
theorem Pa.few_le : ∀ (t : Pa) (y : Int), t.nm → 0 ≤ y → y ≤ 9223372036854775807 → 0 ≤ t.few y → (t.nd : Int) + t.few y ≤ y
  | .mk _ _ n _ l, y, hn, h0, hm, hr => by
    unfold Pa.nm at hn
    unfold Pa.few at hr ⊢
    unfold Pa.nd
    rw [take_100 y n.size h0 hm hn.1] at hr ⊢
    have hq := quo_100 n.size hn.1
    have := Pa.fews_le l _ hn.2 (by omega) hr
    omega
theorem Pa.fews_le : ∀ (l : List Pa) (y : Int), Pa.nms l → y ≤ 9223372036854775807 → 0 ≤ Pa.fews l y → (Pa.nds l : Int) + Pa.fews l y ≤ y
  | [], y, hn, hm, hr => by unfold Pa.fews Pa.nds; omega
  | t :: r, y, hn, hm, hr => by
    unfold Pa.nms at hn
    unfold Pa.fews at hr ⊢
    by_cases hy : y < 0
    · rw [if_pos hy] at hr; omega
    · rw [if_neg hy] at hr ⊢
      unfold Pa.nds
      have h1 := Pa.few_le t y hn.1 (by omega) hm
      rcases Int.lt_or_le (t.few y) 0 with h2 | h2
      · have h3 := Pa.fews_le r _ hn.2 (by omega) hr
        omega
      · have h3 := Pa.fews_le r _ hn.2 (by have := h1 h2; omega) hr
        have := h1 h2
        omega
end

-- expressions, alternatives, declarations
def Co.nds : List Co → Nat
  | [] => 0
  | c :: r => Ty.nds c.args + 1 + Co.nds r
mutual
def Ex.nd : Ex → Nat
  | .mk _ _ _ _ l ps al ds => Ex.nds l + Pa.nds ps + Al.nds al + De.nds ds + 1
def Ex.nds : List Ex → Nat
  | [] => 0
  | t :: r => t.nd + Ex.nds r
def Al.nd : Al → Nat
  | .mk p e => p.nd + e.nd + 1
def Al.nds : List Al → Nat
  | [] => 0
  | t :: r => t.nd + Al.nds r
def De.nd : De → Nat
  | .mk _ _ _ vs cs t ps e => vs.length + Co.nds cs + t.nd + Pa.nds ps + e.nd + 1
def De.nds : List De → Nat
  | [] => 0
  | t :: r => t.nd + De.nds r
end
-- Vars no longer than a million
mutual
def Ex.fit : Ex → Prop
  | .mk _ _ _ _ l _ al ds => Ex.fits l ∧ Al.fits al ∧ De.fits ds
def Ex.fits : List Ex → Prop
  | [] => True
  | t :: r => t.fit ∧ Ex.fits r
def Al.fit : Al → Prop
  | .mk _ e => e.fit
def Al.fits : List Al → Prop
  | [] => True
  | t :: r => t.fit ∧ Al.fits r
def De.fit : De → Prop
  | .mk _ _ _ vs _ _ _ e => vs.length ≤ 8796093022208 ∧ e.fit
def De.fits : List De → Prop
  | [] => True
  | t :: r => t.fit ∧ De.fits r
end
theorem Ex.fits_get : ∀ (l : List Ex) (k : Nat) (t : Ex), Ex.fits l → l[k]? = some t → t.fit
  | [], k, t, _, h => by simp at h
  | x :: r, 0, t, ho, h => by simp at h; subst h; unfold Ex.fits at ho; exact ho.1
  | x :: r, k + 1, t, ho, h => by unfold Ex.fits at ho; exact Ex.fits_get r k t ho.2 (by simpa using h)
theorem Ex.nds_take : ∀ (l : List Ex) (k : Nat) (t : Ex), l[k]? = some t → Ex.nds (l.take (k + 1)) = Ex.nds (l.take k) + t.nd
  | [], k, t, h => by simp at h
  | x :: r, 0, t, h => by simp at h; subst h; simp [Ex.nds]
  | x :: r, k + 1, t, h => by
    have := Ex.nds_take r k t (by simpa using h)
    rw [List.take_succ_cons, List.take_succ_cons]
    unfold Ex.nds
    rw [this]
    omega
theorem Al.fits_get : ∀ (l : List Al) (k : Nat) (t : Al), Al.fits l → l[k]? = some t → t.fit
  | [], k, t, _, h => by simp at h
  | x :: r, 0, t, ho, h => by simp at h; subst h; unfold Al.fits at ho; exact ho.1
  | x :: r, k + 1, t, ho, h => by unfold Al.fits at ho; exact Al.fits_get r k t ho.2 (by simpa using h)
theorem Al.nds_take : ∀ (l : List Al) (k : Nat) (t : Al), l[k]? = some t → Al.nds (l.take (k + 1)) = Al.nds (l.take k) + t.nd
  | [], k, t, h => by simp at h
  | x :: r, 0, t, h => by simp at h; subst h; simp [Al.nds]
  | x :: r, k + 1, t, h => by
    have := Al.nds_take r k t (by simpa using h)
    rw [List.take_succ_cons, List.take_succ_cons]
    unfold Al.nds
    rw [this]
    omega
theorem De.fits_get : ∀ (l : List De) (k : Nat) (t : De), De.fits l → l[k]? = some t → t.fit
  | [], k, t, _, h => by simp at h
  | x :: r, 0, t, ho, h => by simp at h; subst h; unfold De.fits at ho; exact ho.1
  | x :: r, k + 1, t, ho, h => by unfold De.fits at ho; exact De.fits_get r k t ho.2 (by simpa using h)
theorem De.nds_take : ∀ (l : List De) (k : Nat) (t : De), l[k]? = some t → De.nds (l.take (k + 1)) = De.nds (l.take k) + t.nd
  | [], k, t, h => by simp at h
  | x :: r, 0, t, h => by simp at h; subst h; simp [De.nds]
  | x :: r, k + 1, t, h => by
    have := De.nds_take r k t (by simpa using h)
    rw [List.take_succ_cons, List.take_succ_cons]
    unfold De.nds
    rw [this]
    omega
theorem Co.nds_take : ∀ (l : List Co) (k : Nat) (t : Co), l[k]? = some t → Co.nds (l.take (k + 1)) = Co.nds (l.take k) + (Ty.nds t.args + 1)
  | [], k, t, h => by simp at h
  | x :: r, 0, t, h => by simp at h; subst h; simp [Co.nds]
  | x :: r, k + 1, t, h => by
    have := Co.nds_take r k t (by simpa using h)
    rw [List.take_succ_cons, List.take_succ_cons]
    unfold Co.nds
    rw [this]
    omega
/-- it comes to a number, and where that is not negative it counts the parts -/
def NumB (F : Prop) (c : Nat) (x : Int) (w : World) (e : Ending) (w' : World) : Prop := (∃ r : Int, e = .returned (.int .i64 r) ∧ (F → x ≤ 9223372036854775807 → r ≤ 9223372036854775807 ∧ (0 ≤ r → (c : Int) + r ≤ x))) ∧ Below w.heap.size w w'
end Go.Proofs.YtdiffpiapdghoaaGreatDoor
