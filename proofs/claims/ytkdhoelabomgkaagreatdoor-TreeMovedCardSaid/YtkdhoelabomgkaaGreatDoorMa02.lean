/- Texts of this proof, joined: Parts, Opens. No condition. -/
import Derived.Test.YtkdhoelabomgkaaGreatDoorMa01
import Derived.Test.YtkdhoelabomgkaaGreatDoorRows
import Derived.Deep.Slices
import Derived.Deep.Fields
import Derived.ChangeSame
import Derived.ChangeArms
import Derived.Carry
/-
  Layer 3: how many parts a tree has; what the law's counts leave. No walk.
-/
namespace Go.Proofs.YtkdhoelabomgkaaGreatDoor
set_option linter.unusedVariables false
open Go.ChangeShapes Go.WideShapes Go.ChangeAt Go.RowKit

theorem take_100 (y : Int) (n : Nat) (h0 : 0 ≤ y) (hm : y ≤ 9223372036854775807) (hn : n ≤ maxLen) : wrap64 (wrap64 (y - 1) - (n : Int) / 100) = y - 1 - (n : Int) / 100 := by
  have hq := quo_100 n hn
  unfold wrap64
  omega

-- Ty: how many parts; names that memory holds
mutual
def Ty.nd : Ty → Nat
  | .mk _ _ _ l => Ty.nds l + 1
def Ty.nds : List Ty → Nat
  | [] => 0
  | t :: r => t.nd + Ty.nds r
end
mutual
def Ty.nm : Ty → Prop
  | .mk _ _ n l => n.size ≤ maxLen ∧ Ty.nms l
def Ty.nms : List Ty → Prop
  | [] => True
  | t :: r => t.nm ∧ Ty.nms r
end
theorem Ty.nms_of : ∀ (l : List Ty), (∀ (k : Nat) (t : Ty), l[k]? = some t → t.nm) → Ty.nms l
  | [], h => by unfold Ty.nms; trivial
  | t :: r, h => by unfold Ty.nms; exact ⟨h 0 t rfl, Ty.nms_of r fun k u hk => h (k + 1) u (by simpa using hk)⟩
theorem Ty.nms_is {P : Nat → Prop} {w : World} : ∀ (z : Nat) (l : List Ty) (ao : Option Addr) (cap : Nat), Ty.wts l ≤ z → IsTys w P (.slice ao l.length cap) l → Ty.nms l
  | 0, l, _, _, hz, _ => by cases l <;> (unfold Ty.wts at hz; omega)
  | z + 1, l, ao, cap, hz, h => Ty.nms_of l fun k t hk => by
    have hw := Ty.wts_get l k t hk
    obtain ⟨a, _, _, hrow⟩ := h.at hk
    obtain ⟨k1, p1, n1, l1⟩ := t
    obtain ⟨_, _, _, hn, ao, cap, _, _, _, hl⟩ := hrow.cells
    unfold Ty.wt at hw
    unfold Ty.nm
    exact ⟨hn, Ty.nms_is z l1 ao cap (by omega) hl⟩
mutual
theorem Ty.few_le : ∀ (t : Ty) (y : Int), t.nm → 0 ≤ y → y ≤ 9223372036854775807 → 0 ≤ t.few y → (t.nd : Int) + t.few y ≤ y
  | .mk _ _ n l, y, hn, h0, hm, hr => by
    unfold Ty.nm at hn
    unfold Ty.few at hr ⊢
    unfold Ty.nd
    rw [take_100 y n.size h0 hm hn.1] at hr ⊢
    have hq := quo_100 n.size hn.1
    have := Ty.fews_le l _ hn.2 (by omega) hr
    omega
theorem Ty.fews_le : ∀ (l : List Ty) (y : Int), Ty.nms l → y ≤ 9223372036854775807 → 0 ≤ Ty.fews l y → (Ty.nds l : Int) + Ty.fews l y ≤ y
  | [], y, hn, hm, hr => by unfold Ty.fews Ty.nds; omega
  | t :: r, y, hn, hm, hr => by
    unfold Ty.nms at hn
    unfold Ty.fews at hr ⊢
    by_cases hy : y < 0
    · rw [if_pos hy] at hr; omega
    · rw [if_neg hy] at hr ⊢
      unfold Ty.nds
      have h1 := Ty.few_le t y hn.1 (by omega) hm
      rcases Int.lt_or_le (t.few y) 0 with h2 | h2
      · have h3 := Ty.fews_le r _ hn.2 (by omega) hr
        omega
      · have h3 := Ty.fews_le r _ hn.2 (by have := h1 h2; omega) hr
        have := h1 h2
        omega
end

-- Pa: how many parts; names that memory holds
mutual
def Pa.nd : Pa → Nat
  | .mk _ _ _ _ l => Pa.nds l + 1
def Pa.nds : List Pa → Nat
  | [] => 0
  | t :: r => t.nd + Pa.nds r
end
mutual
def Pa.nm : Pa → Prop
  | .mk _ _ n _ l => n.size ≤ maxLen ∧ Pa.nms l
def Pa.nms : List Pa → Prop
  | [] => True
  | t :: r => t.nm ∧ Pa.nms r
end
theorem Pa.nms_of : ∀ (l : List Pa), (∀ (k : Nat) (t : Pa), l[k]? = some t → t.nm) → Pa.nms l
  | [], h => by unfold Pa.nms; trivial
  | t :: r, h => by unfold Pa.nms; exact ⟨h 0 t rfl, Pa.nms_of r fun k u hk => h (k + 1) u (by simpa using hk)⟩
theorem Pa.nms_is {P : Nat → Prop} {w : World} : ∀ (z : Nat) (l : List Pa) (ao : Option Addr) (cap : Nat), Pa.wts l ≤ z → IsPas w P (.slice ao l.length cap) l → Pa.nms l
  | 0, l, _, _, hz, _ => by cases l <;> (unfold Pa.wts at hz; omega)
  | z + 1, l, ao, cap, hz, h => Pa.nms_of l fun k t hk => by
    have hw := Pa.wts_get l k t hk
    obtain ⟨a, _, _, hrow⟩ := h.at hk
    obtain ⟨k1, p1, n1, m1, l1⟩ := t
    obtain ⟨_, _, _, hn, _, ao, cap, _, _, _, hl⟩ := hrow.cells
    unfold Pa.wt at hw
    unfold Pa.nm
    exact ⟨hn, Pa.nms_is z l1 ao cap (by omega) hl⟩
mutual
theorem Pa.few_le : ∀ (t : Pa) (y : Int), t.nm → 0 ≤ y → y ≤ 9223372036854775807 → 0 ≤ t.few y → (t.nd : Int) + t.few y ≤ y
  | .mk _ _ n _ l, y, hn, h0, hm, hr => by
    unfold Pa.nm at hn
    unfold Pa.few at hr ⊢
    unfold Pa.nd
    rw [take_100 y n.size h0 hm hn.1] at hr ⊢
    have hq := quo_100 n.size hn.1
    have := Pa.fews_le l _ hn.2 (by omega) hr
    omega
theorem Pa.fews_le : ∀ (l : List Pa) (y : Int), Pa.nms l → y ≤ 9223372036854775807 → 0 ≤ Pa.fews l y → (Pa.nds l : Int) + Pa.fews l y ≤ y
  | [], y, hn, hm, hr => by unfold Pa.fews Pa.nds; omega
  | t :: r, y, hn, hm, hr => by
    unfold Pa.nms at hn
    unfold Pa.fews at hr ⊢
    by_cases hy : y < 0
    · rw [if_pos hy] at hr; omega
    · rw [if_neg hy] at hr ⊢
      unfold Pa.nds
      have h1 := Pa.few_le t y hn.1 (by omega) hm
      rcases Int.lt_or_le (t.few y) 0 with h2 | h2
      · have h3 := Pa.fews_le r _ hn.2 (by omega) hr
        omega
      · have h3 := Pa.fews_le r _ hn.2 (by have := h1 h2; omega) hr
        have := h1 h2
        omega
end

-- expressions, alternatives, declarations
def Co.nds : List Co → Nat
  | [] => 0
  | c :: r => Ty.nds c.args + 1 + Co.nds r
mutual
def Ex.nd : Ex → Nat
  | .mk _ _ _ _ l ps al ds => Ex.nds l + Pa.nds ps + Al.nds al + De.nds ds + 1
def Ex.nds : List Ex → Nat
  | [] => 0
  | t :: r => t.nd + Ex.nds r
def Al.nd : Al → Nat
  | .mk p e => p.nd + e.nd + 1
def Al.nds : List Al → Nat
  | [] => 0
  | t :: r => t.nd + Al.nds r
def De.nd : De → Nat
  | .mk _ _ _ vs cs t ps e => vs.length + Co.nds cs + t.nd + Pa.nds ps + e.nd + 1
def De.nds : List De → Nat
  | [] => 0
  | t :: r => t.nd + De.nds r
end
-- Vars no longer than a million
mutual
def Ex.fit : Ex → Prop
  | .mk _ _ _ _ l _ al ds => Ex.fits l ∧ Al.fits al ∧ De.fits ds
def Ex.fits : List Ex → Prop
  | [] => True
  | t :: r => t.fit ∧ Ex.fits r
def Al.fit : Al → Prop
  | .mk _ e => e.fit
def Al.fits : List Al → Prop
  | [] => True
  | t :: r => t.fit ∧ Al.fits r
def De.fit : De → Prop
  | .mk _ _ _ vs _ _ _ e => vs.length ≤ 8796093022208 ∧ e.fit
def De.fits : List De → Prop
  | [] => True
  | t :: r => t.fit ∧ De.fits r
end
theorem Ex.fits_get : ∀ (l : List Ex) (k : Nat) (t : Ex), Ex.fits l → l[k]? = some t → t.fit
  | [], k, t, _, h => by simp at h
  | x :: r, 0, t, ho, h => by simp at h; subst h; unfold Ex.fits at ho; exact ho.1
  | x :: r, k + 1, t, ho, h => by unfold Ex.fits at ho; exact Ex.fits_get r k t ho.2 (by simpa using h)
theorem Ex.nds_take : ∀ (l : List Ex) (k : Nat) (t : Ex), l[k]? = some t → Ex.nds (l.take (k + 1)) = Ex.nds (l.take k) + t.nd
  | [], k, t, h => by simp at h
  | x :: r, 0, t, h => by simp at h; subst h; simp [Ex.nds]
  | x :: r, k + 1, t, h => by
    have := Ex.nds_take r k t (by simpa using h)
    rw [List.take_succ_cons, List.take_succ_cons]
    unfold Ex.nds
    rw [this]
    omega
theorem Al.fits_get : ∀ (l : List Al) (k : Nat) (t : Al), Al.fits l → l[k]? = some t → t.fit
  | [], k, t, _, h => by simp at h
  | x :: r, 0, t, ho, h => by simp at h; subst h; unfold Al.fits at ho; exact ho.1
  | x :: r, k + 1, t, ho, h => by unfold Al.fits at ho; exact Al.fits_get r k t ho.2 (by simpa using h)
theorem Al.nds_take : ∀ (l : List Al) (k : Nat) (t : Al), l[k]? = some t → Al.nds (l.take (k + 1)) = Al.nds (l.take k) + t.nd
  | [], k, t, h => by simp at h
  | x :: r, 0, t, h => by simp at h; subst h; simp [Al.nds]
  | x :: r, k + 1, t, h => by
    have := Al.nds_take r k t (by simpa using h)
    rw [List.take_succ_cons, List.take_succ_cons]
    unfold Al.nds
    rw [this]
    omega
theorem De.fits_get : ∀ (l : List De) (k : Nat) (t : De), De.fits l → l[k]? = some t → t.fit
  | [], k, t, _, h => by simp at h
  | x :: r, 0, t, ho, h => by simp at h; subst h; unfold De.fits at ho; exact ho.1
  | x :: r, k + 1, t, ho, h => by unfold De.fits at ho; exact De.fits_get r k t ho.2 (by simpa using h)
theorem De.nds_take : ∀ (l : List De) (k : Nat) (t : De), l[k]? = some t → De.nds (l.take (k + 1)) = De.nds (l.take k) + t.nd
  | [], k, t, h => by simp at h
  | x :: r, 0, t, h => by simp at h; subst h; simp [De.nds]
  | x :: r, k + 1, t, h => by
    have := De.nds_take r k t (by simpa using h)
    rw [List.take_succ_cons, List.take_succ_cons]
    unfold De.nds
    rw [this]
    omega
theorem Co.nds_take : ∀ (l : List Co) (k : Nat) (t : Co), l[k]? = some t → Co.nds (l.take (k + 1)) = Co.nds (l.take k) + (Ty.nds t.args + 1)
  | [], k, t, h => by simp at h
  | x :: r, 0, t, h => by simp at h; subst h; simp [Co.nds]
  | x :: r, k + 1, t, h => by
    have := Co.nds_take r k t (by simpa using h)
    rw [List.take_succ_cons, List.take_succ_cons]
    unfold Co.nds
    rw [this]
    omega
/-- it comes to a number, and where that is not negative it counts the parts -/
def NumB (F : Prop) (c : Nat) (x : Int) (w : World) (e : Ending) (w' : World) : Prop := (∃ r : Int, e = .returned (.int .i64 r) ∧ (F → x ≤ 9223372036854775807 → r ≤ 9223372036854775807 ∧ (0 ≤ r → (c : Int) + r ≤ x))) ∧ Below w.heap.size w w'
end Go.Proofs.YtkdhoelabomgkaaGreatDoor
/-
  Layer 3: arguments that are trees, opened: what was read of memory is a tree that lies there. No walk.
-/
namespace Go.Proofs.YtkdhoelabomgkaaGreatDoor
set_option linter.unusedVariables false
open Go.ChangeShapes Go.WideShapes Go.ChangeAt Go.RowKit Go.Deep

/-- values lie there -/
def LieAt (W : World) (E : Addr) (cs : List Value) : Prop := ∀ j v, cs[j]? = some v → W.cell? (E.add j) = some v
theorem LieAt.of_cells {W : World} {base : Nat} {E : Addr} {n : Nat} {cs : List Value} (h : W.cells? base E n = some cs) : cs.length = n ∧ LieAt W E cs := by
  obtain ⟨_, hl, hat⟩ := World.cells?_some h
  exact ⟨hl, fun j v hj => by rw [hat j (by have := (List.getElem?_eq_some_iff.1 hj).1; omega), hj]⟩
theorem LieAt.sub {W : World} {E : Addr} {cs : List Value} (h : LieAt W E cs) (o n : Nat) : LieAt W (E.add o) ((cs.drop o).take n) := fun j v hj => by
  rw [add_add2]
  refine h _ _ ?_
  rw [List.getElem?_take] at hj
  split at hj
  · rwa [List.getElem?_drop] at hj
  · cases hj
theorem IsRow.join {P : Nat → Prop} {w : World} : ∀ (r1 r2 : List Dt) (a : Addr), IsRow w P r1 a → IsRow w P r2 (a.add r1.length) → IsRow w P (r1 ++ r2) a
  | [], r2, a, _, h => by rw [show ([] : List Dt).length = 0 from rfl, add_zero2] at h; exact h
  | d :: r, r2, a, h1, h2 => by
    show IsRow w P (d :: (r ++ r2)) a
    unfold IsRow at h1 ⊢
    refine ⟨h1.1, IsRow.join r r2 _ h1.2 ?_⟩
    rw [add_add2]
    rwa [List.length_cons, Nat.add_comm] at h2
theorem list_of {α : Type} (p : Nat → α → Prop) : ∀ n, (∀ i, i < n → ∃ a, p i a) → ∃ l : List α, l.length = n ∧ ∀ i u, l[i]? = some u → p i u
  | 0, _ => ⟨[], rfl, fun i u h => by simp at h⟩
  | n + 1, h => by
    obtain ⟨l, h1, h2⟩ := list_of p n fun i hi => h i (by omega)
    obtain ⟨a, ha⟩ := h n (by omega)
    refine ⟨l ++ [a], by simp [h1], fun i u hu => ?_⟩
    by_cases hi : i < l.length
    · rw [List.getElem?_append_left hi] at hu; exact h2 i u hu
    · rw [List.getElem?_append_right (by omega)] at hu
      obtain ⟨hz, e⟩ := List.getElem?_eq_some_iff.1 hu
      have : i = n := by simp at hz; omega
      subst this
      simp at e
      subst e
      exact ha
/-- no string, no slice of it is greater than a machine holds -/
def WOk {H : Type} (t : TypeId) (d : DataW H) : Prop := (DataW.weights Tryz.prog t d).all (· ≤ reachBytes) = true
theorem wok_all {H : Type} {e : TypeId} {d : DataW H} : ∀ {l : List (DataW H)}, (DataW.weightsAll Tryz.prog e l).all (· ≤ reachBytes) = true → d ∈ l → WOk e d
  | x :: r, h, hd => by
    rw [DataW.weightsAll, List.all_append, Bool.and_eq_true] at h
    cases List.mem_cons.1 hd with
    | inl q => subst q; exact h.1
    | inr q => exact wok_all h.2 q
theorem wok_slice {H : Type} {t e : TypeId} {l r : List (DataW H)} (hu : Tryz.prog.underlying t = some (.slice e)) (h : WOk t (.slice l r)) : (l.length + r.length) * Tryz.prog.bytesOf e ≤ reachBytes ∧ ∀ d ∈ l, WOk e d := by
  unfold WOk at h
  rw [DataW.weights, hu] at h
  simp only [List.all_cons, List.all_append, Bool.and_eq_true, decide_eq_true_eq] at h
  exact ⟨h.1, fun d hd => wok_all h.2.1 hd⟩
theorem wok_each {H : Type} : ∀ (ts : List TypeId) (l : List (DataW H)) (i : Nat) (t : TypeId) (d : DataW H), (DataW.weightsEach Tryz.prog ts l).all (· ≤ reachBytes) = true → ts[i]? = some t → l[i]? = some d → WOk t d
  | [], _, _, _, _, _, ht, _ => by simp at ht
  | _ :: _, [], _, _, _, _, _, hd => by simp at hd
  | t :: ts, d :: r, i, t', d', h, ht, hd => by
    rw [DataW.weightsEach, List.all_append, Bool.and_eq_true] at h
    cases i with
    | zero =>
      simp at ht hd
      subst ht hd
      exact h.1
    | succ i => exact wok_each ts r i t' d' h.2 (by simpa using ht) (by simpa using hd)
theorem wok_part {H : Type} {t u : TypeId} {fs : Array Field} {xs : List (DataW H × List MemPlace)} {y : DataW H × List MemPlace} (hs : Tryz.prog.underlying t = some (.struct fs)) (i : Nat) (hf : (fs.toList.map (·.type))[i]? = some u) (hy : xs[i]? = some y) (h : WOk t (DataW.agg (xs.map (·.1)))) : WOk u y.1 := by
  unfold WOk at h
  rw [DataW.weights, hs] at h
  exact wok_each _ _ i _ _ h hf (by rw [List.getElem?_map, hy]; rfl)

/-- a slice of rows, opened -/
theorem rows_open {H : Type} {enc : TypeId × Value → H} {W : World} {base : Nat} {sp : Nat → Bool} {held : Bool} {α : Type} (f : α → List Dt) (F : α → Prop) {sz : Nat} {t e : TypeId}
    (hu : Tryz.prog.underlying t = some (.slice e)) (hc : Tryz.prog.cellsOf e = sz) {fuel : Nat} {cs : List Value} {x : DataW H × List MemPlace} (h : DataW.trod enc Tryz.prog W base sp held fuel t cs = some x)
    (key : ∀ n, n < fuel → ∀ (cs' : List Value) (x' : DataW H × List MemPlace) (E : Addr), LieAt W E cs' → cs'.length = sz → DataW.trod enc Tryz.prog W base sp held n e cs' = some x' → ∃ u : α, IsRow W Any (f u) E ∧ (WOk e x'.1 → F u)) :
    ∃ (v : Value) (l : List α), cs = [v] ∧ IsC W Any (.l sz (l.map f)) v ∧ (WOk t x.1 → l.length * Tryz.prog.bytesOf e ≤ reachBytes) ∧ ∀ u ∈ l, WOk t x.1 → F u := by
  rcases DataW.trod_slice hu h with ⟨rfl, rfl⟩ | ⟨a, len, cap, elems, rest, n, hn, rfl, rfl, hb, hl, hm, hlen, hel, _, _⟩
  · exact ⟨_, [], rfl, by unfold IsC; exact .inl ⟨rfl, rfl⟩, fun _ => by simp, fun u hu => by cases hu⟩
  · obtain ⟨l, h1, h2⟩ := list_of (fun i (u : α) => IsRow W Any (f u) (a.add (i * sz)) ∧ (WOk t (DataW.slice (elems.map (·.1)) (rest.map (·.1))) → F u)) len fun i hi => by
      have he := hel i hi
      rw [hc, List.getElem?_eq_getElem (by omega)] at he
      obtain ⟨cs', g1, g2⟩ := Option.bind_eq_some_iff.1 he
      obtain ⟨g3, g4⟩ := LieAt.of_cells g1
      obtain ⟨u, u1, u2⟩ := key n (by omega) cs' _ _ g4 g3 g2
      exact ⟨u, u1, fun hw => u2 ((wok_slice hu hw).2 _ (List.mem_map.2 ⟨_, List.getElem_mem _, rfl⟩))⟩
    refine ⟨_, l, rfl, ?_, fun hw => ?_, fun u hu => ?_⟩
    · unfold IsC
      refine .inr ⟨a, cap, by rw [List.length_map, h1], by rw [List.length_map, h1]; exact hl, hm, fun _ => trivial, IsRows.of_get _ _ fun k r hk => ?_⟩
      rw [List.getElem?_map] at hk
      obtain ⟨u, hu, rfl⟩ := Option.map_eq_some_iff.1 hk
      exact (h2 k u hu).1
    · have h3 := (wok_slice hu hw).1
      rw [List.length_map, List.length_map] at h3
      refine Nat.le_trans (Nat.mul_le_mul_right _ ?_) h3
      omega
    · obtain ⟨i, hi⟩ := List.getElem?_of_mem hu
      exact (h2 i u hi).2

theorem o_int : Tryz.prog.cellsOf 3 = 1 := by kernel_rfl
theorem o_str : Tryz.prog.cellsOf 9 = 1 := by kernel_rfl
theorem o_ty : Tryz.prog.cellsOf 24 = 4 := by kernel_rfl
theorem o_pa : Tryz.prog.cellsOf 27 = 5 := by kernel_rfl
theorem o_ex : Tryz.prog.cellsOf 32 = 8 := by kernel_rfl
theorem o_al : Tryz.prog.cellsOf 84 = 13 := by kernel_rfl
theorem o_co : Tryz.prog.cellsOf 97 = 3 := by kernel_rfl
theorem o_de : Tryz.prog.cellsOf 92 = 18 := by kernel_rfl
theorem o_tys : Tryz.prog.cellsOf 22 = 1 := by kernel_rfl
theorem o_pas : Tryz.prog.cellsOf 25 = 1 := by kernel_rfl
theorem o_exs : Tryz.prog.cellsOf 28 = 1 := by kernel_rfl
theorem o_als : Tryz.prog.cellsOf 29 = 1 := by kernel_rfl
theorem o_cos : Tryz.prog.cellsOf 90 = 1 := by kernel_rfl
theorem o_des : Tryz.prog.cellsOf 30 = 1 := by kernel_rfl
theorem o_txb : Tryz.prog.bytesOf 9 = 16 := by kernel_rfl
theorem o_txs : Tryz.prog.cellsOf 89 = 1 := by kernel_rfl

def anyF {α : Type} : α → Prop := fun _ => True

set_option maxRecDepth 100000 in
theorem ty_opens {H : Type} {enc : TypeId × Value → H} {W : World} {base : Nat} {sp : Nat → Bool} {held : Bool} : ∀ (z fuel : Nat), fuel ≤ z → ∀ (cs : List Value) (x : DataW H × List MemPlace) (E : Addr), LieAt W E cs → cs.length = 4 → DataW.trod enc Tryz.prog W base sp held fuel 24 cs = some x → ∃ t : Ty, IsRow W Any t.row E := by
  intro z
  induction z with
  | zero => intro fuel hz cs x E _ _ ht; obtain ⟨_, n, hn, _⟩ := DataW.trod_struct Tryz.underlying24 ht; omega
  | succ z ih =>
    intro fuel hz cs x E hat hcl ht
    obtain ⟨xs, n, hn, hx, hlen, hxl, hg⟩ := DataW.trod_struct Tryz.underlying24 ht
    match cs, hcl with
    | [c0, c1, c2, c3], _ =>
      match xs, hxl with
      | [y0, y1, y2, y3], _ =>
        have g0 := hg 0 _ rfl
        have g1 := hg 1 _ rfl
        have g2 := hg 2 _ rfl
        have g3 := hg 3 _ rfl
        simp only [List.getElem?_cons_zero, List.getElem?_cons_succ] at g0 g1 g2 g3
        obtain ⟨z0, e0, _, _⟩ := DataW.trod_int Tryz.underlying3 g0
        obtain ⟨z1, e1, _, _⟩ := DataW.trod_int Tryz.underlying3 g1
        obtain ⟨z2, e2, _, w2⟩ := DataW.trod_string Tryz.underlying9 g2
        obtain ⟨v3, l3, e3, w3, _, _⟩ := rows_open Ty.row anyF Tryz.underlying22 o_ty g3 fun m hm cs' x' E' h1 h2 h3 => by
          obtain ⟨u, hu⟩ := ih m (by omega) cs' x' E' h1 h2 h3
          exact ⟨u, hu, fun _ => trivial⟩
        obtain rfl := (List.cons.inj e0).1
        obtain rfl := (List.cons.inj e1).1
        obtain rfl := (List.cons.inj e2).1
        obtain rfl := (List.cons.inj e3).1
        refine ⟨.mk z0 z1 z2 l3, IsRow.of_vals _ _ _ ?_ hat⟩
        unfold Ty.row
        exact ⟨_, _, rfl, (by unfold IsC; rfl), _, _, rfl, (by unfold IsC; rfl), _, _, rfl, (by unfold IsC; exact ⟨rfl, w2⟩), _, _, rfl, (by rw [Ty.rows_map]; exact w3), rfl⟩
set_option maxRecDepth 100000 in
theorem pa_opens {H : Type} {enc : TypeId × Value → H} {W : World} {base : Nat} {sp : Nat → Bool} {held : Bool} : ∀ (z fuel : Nat), fuel ≤ z → ∀ (cs : List Value) (x : DataW H × List MemPlace) (E : Addr), LieAt W E cs → cs.length = 5 → DataW.trod enc Tryz.prog W base sp held fuel 27 cs = some x → ∃ t : Pa, IsRow W Any t.row E := by
  intro z
  induction z with
  | zero => intro fuel hz cs x E _ _ ht; obtain ⟨_, n, hn, _⟩ := DataW.trod_struct Tryz.underlying27 ht; omega
  | succ z ih =>
    intro fuel hz cs x E hat hcl ht
    obtain ⟨xs, n, hn, hx, hlen, hxl, hg⟩ := DataW.trod_struct Tryz.underlying27 ht
    match cs, hcl with
    | [c0, c1, c2, c3, c4], _ =>
      match xs, hxl with
      | [y0, y1, y2, y3, y4], _ =>
        have g0 := hg 0 _ rfl
        have g1 := hg 1 _ rfl
        have g2 := hg 2 _ rfl
        have g3 := hg 3 _ rfl
        have g4 := hg 4 _ rfl
        simp only [List.getElem?_cons_zero, List.getElem?_cons_succ] at g0 g1 g2 g3 g4
        obtain ⟨z0, e0, _, _⟩ := DataW.trod_int Tryz.underlying3 g0
        obtain ⟨z1, e1, _, _⟩ := DataW.trod_int Tryz.underlying3 g1
        obtain ⟨z2, e2, _, w2⟩ := DataW.trod_string Tryz.underlying9 g2
        obtain ⟨z3, e3, _, _⟩ := DataW.trod_int Tryz.underlying3 g3
        obtain ⟨v4, l4, e4, w4, _, _⟩ := rows_open Pa.row anyF Tryz.underlying25 o_pa g4 fun m hm cs' x' E' h1 h2 h3 => by
          obtain ⟨u, hu⟩ := ih m (by omega) cs' x' E' h1 h2 h3
          exact ⟨u, hu, fun _ => trivial⟩
        obtain rfl := (List.cons.inj e0).1
        obtain rfl := (List.cons.inj e1).1
        obtain rfl := (List.cons.inj e2).1
        obtain rfl := (List.cons.inj e3).1
        obtain rfl := (List.cons.inj e4).1
        refine ⟨.mk z0 z1 z2 z3 l4, IsRow.of_vals _ _ _ ?_ hat⟩
        unfold Pa.row
        exact ⟨_, _, rfl, (by unfold IsC; rfl), _, _, rfl, (by unfold IsC; rfl), _, _, rfl, (by unfold IsC; exact ⟨rfl, w2⟩), _, _, rfl, (by unfold IsC; rfl), _, _, rfl, (by rw [Pa.rows_map]; exact w4), rfl⟩
set_option maxRecDepth 100000 in
theorem co_opens {H : Type} {enc : TypeId × Value → H} {W : World} {base : Nat} {sp : Nat → Bool} {held : Bool} (fuel : Nat) (cs : List Value) (x : DataW H × List MemPlace) (E : Addr) (hat : LieAt W E cs) (hcl : cs.length = 3) (ht : DataW.trod enc Tryz.prog W base sp held fuel 97 cs = some x) : ∃ t : Co, IsRow W Any t.row E := by
  obtain ⟨xs, n, hn, hx, hlen, hxl, hg⟩ := DataW.trod_struct Tryz.underlying97 ht
  match cs, hcl with
  | [c0, c1, c2], _ =>
    match xs, hxl with
    | [y0, y1, y2], _ =>
      have g0 := hg 0 _ rfl
      have g1 := hg 1 _ rfl
      have g2 := hg 2 _ rfl
      simp only [List.getElem?_cons_zero, List.getElem?_cons_succ] at g0 g1 g2
      obtain ⟨z0, e0, _, _⟩ := DataW.trod_int Tryz.underlying3 g0
      obtain ⟨z1, e1, _, w1⟩ := DataW.trod_string Tryz.underlying9 g1
      obtain ⟨v2, l2, e2, w2, _, _⟩ := rows_open Ty.row anyF Tryz.underlying22 o_ty g2 fun m hm cs' x' E' h1 h2 h3 => by
        obtain ⟨u, hu⟩ := ty_opens m m (Nat.le_refl _) cs' x' E' h1 h2 h3
        exact ⟨u, hu, fun _ => trivial⟩
      obtain rfl := (List.cons.inj e0).1
      obtain rfl := (List.cons.inj e1).1
      obtain rfl := (List.cons.inj e2).1
      refine ⟨⟨z0, z1, l2⟩, IsRow.of_vals _ _ _ ?_ hat⟩
      unfold Co.row
      exact ⟨_, _, rfl, (by unfold IsC; rfl), _, _, rfl, (by unfold IsC; exact ⟨rfl, w1⟩), _, _, rfl, (by rw [Ty.rows_map]; exact w2), rfl⟩
set_option maxRecDepth 100000 in
theorem tx_opens {H : Type} {enc : TypeId × Value → H} {W : World} {base : Nat} {sp : Nat → Bool} {held : Bool} (fuel : Nat) (cs : List Value) (x : DataW H × List MemPlace) (E : Addr) (hat : LieAt W E cs) (hcl : cs.length = 1) (ht : DataW.trod enc Tryz.prog W base sp held fuel 9 cs = some x) : ∃ t : ByteArray, IsRow W Any ((fun v => [Dt.s v]) t) E := by
  obtain ⟨z0, e0, _, w0⟩ := DataW.trod_string Tryz.underlying9 ht
  subst e0
  refine ⟨z0, IsRow.of_vals _ _ _ ?_ hat⟩
  exact ⟨_, _, rfl, (by unfold IsC; exact ⟨rfl, w0⟩), rfl⟩

theorem Ex.fits_all : ∀ l : List Ex, (∀ u ∈ l, u.fit) → Ex.fits l
  | [], _ => by unfold Ex.fits; trivial
  | t :: r, h => by unfold Ex.fits; exact ⟨h t (by simp), Ex.fits_all r fun u hu => h u (by simp [hu])⟩
theorem Al.fits_all : ∀ l : List Al, (∀ u ∈ l, u.fit) → Al.fits l
  | [], _ => by unfold Al.fits; trivial
  | t :: r, h => by unfold Al.fits; exact ⟨h t (by simp), Al.fits_all r fun u hu => h u (by simp [hu])⟩
theorem De.fits_all : ∀ l : List De, (∀ u ∈ l, u.fit) → De.fits l
  | [], _ => by unfold De.fits; trivial
  | t :: r, h => by unfold De.fits; exact ⟨h t (by simp), De.fits_all r fun u hu => h u (by simp [hu])⟩
/-- expressions, ways, declarations of small fuel -/
structure OpensZ (H : Type) (enc : TypeId × Value → H) (W : World) (base : Nat) (sp : Nat → Bool) (held : Bool) (z : Nat) : Prop where
  ex : ∀ (fuel : Nat), fuel ≤ z → ∀ (cs : List Value) (x : DataW H × List MemPlace) (E : Addr), LieAt W E cs → cs.length = 8 → DataW.trod enc Tryz.prog W base sp held fuel 32 cs = some x → ∃ t : Ex, IsRow W Any t.row E ∧ (WOk 32 x.1 → t.fit)
  al : ∀ (fuel : Nat), fuel ≤ z → ∀ (cs : List Value) (x : DataW H × List MemPlace) (E : Addr), LieAt W E cs → cs.length = 13 → DataW.trod enc Tryz.prog W base sp held fuel 84 cs = some x → ∃ t : Al, IsRow W Any t.row E ∧ (WOk 84 x.1 → t.fit)
  de : ∀ (fuel : Nat), fuel ≤ z → ∀ (cs : List Value) (x : DataW H × List MemPlace) (E : Addr), LieAt W E cs → cs.length = 18 → DataW.trod enc Tryz.prog W base sp held fuel 92 cs = some x → ∃ t : De, IsRow W Any t.row E ∧ (WOk 92 x.1 → t.fit)

set_option maxHeartbeats 1000000 in
set_option maxRecDepth 100000 in
theorem ex_opens {H : Type} {enc : TypeId × Value → H} {W : World} {base : Nat} {sp : Nat → Bool} {held : Bool} (z : Nat) (ih : OpensZ H enc W base sp held z) (fuel : Nat) (hz : fuel ≤ z + 1) (cs : List Value) (x : DataW H × List MemPlace) (E : Addr) (hat : LieAt W E cs) (hcl : cs.length = 8) (ht : DataW.trod enc Tryz.prog W base sp held fuel 32 cs = some x) : ∃ t : Ex, IsRow W Any t.row E ∧ (WOk 32 x.1 → t.fit) := by
  obtain ⟨xs, n, hn, hx, hlen, hxl, hg⟩ := DataW.trod_struct Tryz.underlying32 ht
  match cs, hcl with
  | [c0, c1, c2, c3, c4, c5, c6, c7], _ =>
    match xs, hxl with
    | [y0, y1, y2, y3, y4, y5, y6, y7], _ =>
      have g0 := hg 0 _ rfl
      have g1 := hg 1 _ rfl
      have g2 := hg 2 _ rfl
      have g3 := hg 3 _ rfl
      have g4 := hg 4 _ rfl
      have g5 := hg 5 _ rfl
      have g6 := hg 6 _ rfl
      have g7 := hg 7 _ rfl
      have b4 : WOk 32 x.1 → WOk 28 y4.1 := fun hw => wok_part (xs := [y0, y1, y2, y3, y4, y5, y6, y7]) Tryz.underlying32 4 rfl rfl (by rw [hx] at hw; exact hw)
      have b6 : WOk 32 x.1 → WOk 29 y6.1 := fun hw => wok_part (xs := [y0, y1, y2, y3, y4, y5, y6, y7]) Tryz.underlying32 6 rfl rfl (by rw [hx] at hw; exact hw)
      have b7 : WOk 32 x.1 → WOk 30 y7.1 := fun hw => wok_part (xs := [y0, y1, y2, y3, y4, y5, y6, y7]) Tryz.underlying32 7 rfl rfl (by rw [hx] at hw; exact hw)
      simp only [List.getElem?_cons_zero, List.getElem?_cons_succ] at g0 g1 g2 g3 g4 g5 g6 g7
      obtain ⟨z0, e0, _, _⟩ := DataW.trod_int Tryz.underlying3 g0
      obtain ⟨z1, e1, _, _⟩ := DataW.trod_int Tryz.underlying3 g1
      obtain ⟨z2, e2, _, w2⟩ := DataW.trod_string Tryz.underlying9 g2
      obtain ⟨z3, e3, _, _⟩ := DataW.trod_int Tryz.underlying3 g3
      obtain ⟨v4, l4, e4, w4, _, q4⟩ := rows_open Ex.row Ex.fit Tryz.underlying28 o_ex g4 fun m hm cs' x' E' h1 h2 h3 => ih.ex m (by omega) cs' x' E' h1 h2 h3
      obtain ⟨v5, l5, e5, w5, _, _⟩ := rows_open Pa.row anyF Tryz.underlying25 o_pa g5 fun m hm cs' x' E' h1 h2 h3 => by
        obtain ⟨u, hu⟩ := pa_opens m m (Nat.le_refl _) cs' x' E' h1 h2 h3
        exact ⟨u, hu, fun _ => trivial⟩
      obtain ⟨v6, l6, e6, w6, _, q6⟩ := rows_open Al.row Al.fit Tryz.underlying29 o_al g6 fun m hm cs' x' E' h1 h2 h3 => ih.al m (by omega) cs' x' E' h1 h2 h3
      obtain ⟨v7, l7, e7, w7, _, q7⟩ := rows_open De.row De.fit Tryz.underlying30 o_de g7 fun m hm cs' x' E' h1 h2 h3 => ih.de m (by omega) cs' x' E' h1 h2 h3
      obtain rfl := (List.cons.inj e0).1
      obtain rfl := (List.cons.inj e1).1
      obtain rfl := (List.cons.inj e2).1
      obtain rfl := (List.cons.inj e3).1
      obtain rfl := (List.cons.inj e4).1
      obtain rfl := (List.cons.inj e5).1
      obtain rfl := (List.cons.inj e6).1
      obtain rfl := (List.cons.inj e7).1
      refine ⟨.mk z0 z1 z2 z3 l4 l5 l6 l7, IsRow.of_vals _ _ _ ?_ hat, fun hb => ?_⟩
      · unfold Ex.row
        exact ⟨_, _, rfl, (by unfold IsC; rfl), _, _, rfl, (by unfold IsC; rfl), _, _, rfl, (by unfold IsC; exact ⟨rfl, w2⟩), _, _, rfl, (by unfold IsC; rfl), _, _, rfl, (by rw [Ex.rows_map]; exact w4), _, _, rfl, (by rw [Pa.rows_map]; exact w5), _, _, rfl, (by rw [Al.rows_map]; exact w6), _, _, rfl, (by rw [De.rows_map]; exact w7), rfl⟩
      · unfold Ex.fit
        exact ⟨Ex.fits_all _ fun u hu => q4 u hu (b4 hb), Al.fits_all _ fun u hu => q6 u hu (b6 hb), De.fits_all _ fun u hu => q7 u hu (b7 hb)⟩
set_option maxHeartbeats 1000000 in
set_option maxRecDepth 100000 in
theorem al_opens {H : Type} {enc : TypeId × Value → H} {W : World} {base : Nat} {sp : Nat → Bool} {held : Bool} (z : Nat) (ih : OpensZ H enc W base sp held z) (fuel : Nat) (hz : fuel ≤ z + 1) (cs : List Value) (x : DataW H × List MemPlace) (E : Addr) (hat : LieAt W E cs) (hcl : cs.length = 13) (ht : DataW.trod enc Tryz.prog W base sp held fuel 84 cs = some x) : ∃ t : Al, IsRow W Any t.row E ∧ (WOk 84 x.1 → t.fit) := by
  obtain ⟨xs, n, hn, hx, hlen, hxl, hg⟩ := DataW.trod_struct Tryz.underlying84 ht
  match xs, hxl with
  | [y0, y1], _ =>
    have g0 := hg 0 _ rfl
    have g1 := hg 1 _ rfl
    have b1 : WOk 84 x.1 → WOk 32 y1.1 := fun hw => wok_part (xs := [y0, y1]) Tryz.underlying84 1 rfl rfl (by rw [hx] at hw; exact hw)
    simp only [List.getElem?_cons_zero, List.getElem?_cons_succ] at g0 g1
    obtain ⟨p, hp⟩ := pa_opens n n (Nat.le_refl _) _ _ _ (hat.sub 0 5) (by simp [hcl]) g0
    obtain ⟨e, he, qe⟩ := ih.ex n (by omega) _ _ _ (hat.sub 5 8) (by simp [hcl]) g1
    refine ⟨.mk p e, ?_, fun hb => ?_⟩
    · unfold Al.row
      rw [add_zero2] at hp
      refine IsRow.join _ _ _ hp ?_
      rw [Pa.row_len]
      exact he
    · unfold Al.fit
      exact qe (b1 hb)
set_option maxHeartbeats 1000000 in
set_option maxRecDepth 100000 in
theorem de_opens {H : Type} {enc : TypeId × Value → H} {W : World} {base : Nat} {sp : Nat → Bool} {held : Bool} (z : Nat) (ih : OpensZ H enc W base sp held z) (fuel : Nat) (hz : fuel ≤ z + 1) (cs : List Value) (x : DataW H × List MemPlace) (E : Addr) (hat : LieAt W E cs) (hcl : cs.length = 18) (ht : DataW.trod enc Tryz.prog W base sp held fuel 92 cs = some x) : ∃ t : De, IsRow W Any t.row E ∧ (WOk 92 x.1 → t.fit) := by
  obtain ⟨xs, n, hn, hx, hlen, hxl, hg⟩ := DataW.trod_struct Tryz.underlying92 ht
  match xs, hxl with
  | [y0, y1, y2, y3, y4, y5, y6, y7], _ =>
    have g0 := hg 0 _ rfl
    have g1 := hg 1 _ rfl
    have g2 := hg 2 _ rfl
    have g3 := hg 3 _ rfl
    have g4 := hg 4 _ rfl
    have g5 := hg 5 _ rfl
    have g6 := hg 6 _ rfl
    have g7 := hg 7 _ rfl
    have b3 : WOk 92 x.1 → WOk 89 y3.1 := fun hw => wok_part (xs := [y0, y1, y2, y3, y4, y5, y6, y7]) Tryz.underlying92 3 rfl rfl (by rw [hx] at hw; exact hw)
    have b7 : WOk 92 x.1 → WOk 32 y7.1 := fun hw => wok_part (xs := [y0, y1, y2, y3, y4, y5, y6, y7]) Tryz.underlying92 7 rfl rfl (by rw [hx] at hw; exact hw)
    simp only [List.getElem?_cons_zero, List.getElem?_cons_succ] at g0 g1 g2 g3 g4 g5 g6 g7
    obtain ⟨z0, e0, _, _⟩ := DataW.trod_int Tryz.underlying3 g0
    obtain ⟨z1, e1, _, _⟩ := DataW.trod_int Tryz.underlying3 g1
    obtain ⟨z2, e2, _, w2⟩ := DataW.trod_string Tryz.underlying9 g2
    obtain ⟨v3, l3, e3, w3, n3, _⟩ := rows_open (fun v => [Dt.s v]) anyF Tryz.underlying89 o_str g3 fun m hm cs' x' E' h1 h2 h3 => by
      obtain ⟨u, hu⟩ := tx_opens m cs' x' E' h1 h2 h3
      exact ⟨u, hu, fun _ => trivial⟩
    obtain ⟨v4, l4, e4, w4, _, _⟩ := rows_open Co.row anyF Tryz.underlying90 o_co g4 fun m hm cs' x' E' h1 h2 h3 => by
      obtain ⟨u, hu⟩ := co_opens m cs' x' E' h1 h2 h3
      exact ⟨u, hu, fun _ => trivial⟩
    obtain ⟨t5, h5⟩ := ty_opens n n (Nat.le_refl _) _ _ _ (hat.sub 5 4) (by simp [hcl]) g5
    obtain ⟨v6, l6, e6, w6, _, _⟩ := rows_open Pa.row anyF Tryz.underlying25 o_pa g6 fun m hm cs' x' E' h1 h2 h3 => by
      obtain ⟨u, hu⟩ := pa_opens m m (Nat.le_refl _) cs' x' E' h1 h2 h3
      exact ⟨u, hu, fun _ => trivial⟩
    obtain ⟨e, he, qe⟩ := ih.ex n (by omega) _ _ _ (hat.sub 10 8) (by simp [hcl]) g7
    have one : ∀ (o : Nat) (v : Value), (cs.drop o).take 1 = [v] → W.cell? (E.add o) = some v := fun o v h => by
      have := hat.sub o 1 0 v (by rw [h]; rfl)
      rwa [add_zero2] at this
    refine ⟨.mk z0 z1 z2 l3 l4 t5 l6 e, ?_, fun hb => ?_⟩
    · unfold De.row
      refine IsRow.join _ _ _ (IsRow.of_vals _ _ [.int .i64 z0, .int .i64 z1, .string z2, v3, v4] ?_ fun j u hj => ?_) ?_
      · exact ⟨_, _, rfl, (by unfold IsC; rfl), _, _, rfl, (by unfold IsC; rfl), _, _, rfl, (by unfold IsC; exact ⟨rfl, w2⟩), _, _, rfl, w3, _, _, rfl, w4, rfl⟩
      · match j, hj with
        | 0, hj => simp at hj; subst hj; exact one 0 _ e0
        | 1, hj => simp at hj; subst hj; exact one 1 _ e1
        | 2, hj => simp at hj; subst hj; exact one 2 _ e2
        | 3, hj => simp at hj; subst hj; exact one 3 _ e3
        | 4, hj => simp at hj; subst hj; exact one 4 _ e4
      · refine IsRow.join _ _ _ h5 ?_
        rw [Ty.row_len]
        simp only [add_add2, List.length_cons, List.length_nil, Nat.reduceAdd]
        unfold IsRow
        refine ⟨⟨v6, one 9 _ e6, by rw [Pa.rows_map]; exact w6⟩, ?_⟩
        simp only [add_add2, Nat.reduceAdd]
        exact he
    · unfold De.fit
      exact ⟨by have h9 := n3 (b3 hb); rw [o_txb] at h9; unfold reachBytes at h9; omega, qe (b7 hb)⟩
theorem opens_all {H : Type} {enc : TypeId × Value → H} {W : World} {base : Nat} {sp : Nat → Bool} {held : Bool} : ∀ z, OpensZ H enc W base sp held z
  | 0 => ⟨fun fuel hz cs x E _ _ ht => by obtain ⟨_, n, hn, _⟩ := DataW.trod_struct Tryz.underlying32 ht; omega,
      fun fuel hz cs x E _ _ ht => by obtain ⟨_, n, hn, _⟩ := DataW.trod_struct Tryz.underlying84 ht; omega,
      fun fuel hz cs x E _ _ ht => by obtain ⟨_, n, hn, _⟩ := DataW.trod_struct Tryz.underlying92 ht; omega⟩
  | z + 1 => ⟨fun fuel hz cs x E h1 h2 ht => ex_opens z (opens_all z) fuel hz cs x E h1 h2 ht, fun fuel hz cs x E h1 h2 ht => al_opens z (opens_all z) fuel hz cs x E h1 h2 ht, fun fuel hz cs x E h1 h2 ht => de_opens z (opens_all z) fuel hz cs x E h1 h2 ht⟩
end Go.Proofs.YtkdhoelabomgkaaGreatDoor
