/- Texts of this proof, joined: OwnAll, RSameAll, FewE2. No condition. -/
import Derived.Test.YtdiffpiapdghoaaGreatDoorSa27
import Derived.Test.YtdiffpiapdghoaaGreatDoorSa14
import Derived.Test.YtdiffpiapdghoaaGreatDoorSa24
import Derived.Test.YtdiffpiapdghoaaGreatDoorSa15
import Derived.Test.YtdiffpiapdghoaaGreatDoorSa02
/-
  Layer 3, the law's side: OwnType, OwnPat, OwnExpr, OwnDecls of trees of no more than a million parts: the same trees, in blocks of their own.
-/
namespace Go.Proofs.YtdiffpiapdghoaaGreatDoor
set_option linter.unusedVariables false
open Go.ChangeShapes Go.WideShapes Go.ChangeAt Go.RowKit

theorem Ty.nds_len : ∀ l : List Ty, l.length ≤ Ty.nds l
  | [] => Nat.zero_le _
  | .mk a b c d :: r => by have := Ty.nds_len r; unfold Ty.nds Ty.nd; simp only [List.length_cons]; omega
theorem Pa.nds_len : ∀ l : List Pa, l.length ≤ Pa.nds l
  | [] => Nat.zero_le _
  | .mk a b c d e :: r => by have := Pa.nds_len r; unfold Pa.nds Pa.nd; simp only [List.length_cons]; omega
theorem Ex.nds_len : ∀ l : List Ex, l.length ≤ Ex.nds l
  | [] => Nat.zero_le _
  | .mk a b c d e f g h :: r => by have := Ex.nds_len r; unfold Ex.nds Ex.nd; simp only [List.length_cons]; omega
theorem Al.nds_len : ∀ l : List Al, l.length ≤ Al.nds l
  | [] => Nat.zero_le _
  | .mk a b :: r => by have := Al.nds_len r; unfold Al.nds Al.nd; simp only [List.length_cons]; omega
theorem De.nds_len : ∀ l : List De, l.length ≤ De.nds l
  | [] => Nat.zero_le _
  | .mk a b c d e f g h :: r => by have := De.nds_len r; unfold De.nds De.nd; simp only [List.length_cons]; omega
theorem Co.nds_len : ∀ l : List Co, l.length ≤ Co.nds l
  | [] => Nat.zero_le _
  | c :: r => by have := Co.nds_len r; unfold Co.nds; simp only [List.length_cons]; omega
mutual
theorem Ty.ok_nd : ∀ t : Ty, t.nd ≤ 1000000 → t.ok
  | .mk _ _ _ l, h => by
    unfold Ty.nd at h
    unfold Ty.ok
    exact ⟨by have := Ty.nds_len l; omega, Ty.oks_nds l (by omega)⟩
theorem Ty.oks_nds : ∀ l : List Ty, Ty.nds l ≤ 1000000 → Ty.oks l
  | [], _ => by unfold Ty.oks; trivial
  | t :: r, h => by
    unfold Ty.nds at h
    unfold Ty.oks
    exact ⟨Ty.ok_nd t (by omega), Ty.oks_nds r (by omega)⟩
end
mutual
theorem Pa.ok_nd : ∀ t : Pa, t.nd ≤ 1000000 → t.ok
  | .mk _ _ _ _ l, h => by
    unfold Pa.nd at h
    unfold Pa.ok
    exact ⟨by have := Pa.nds_len l; omega, Pa.oks_nds l (by omega)⟩
theorem Pa.oks_nds : ∀ l : List Pa, Pa.nds l ≤ 1000000 → Pa.oks l
  | [], _ => by unfold Pa.oks; trivial
  | t :: r, h => by
    unfold Pa.nds at h
    unfold Pa.oks
    exact ⟨Pa.ok_nd t (by omega), Pa.oks_nds r (by omega)⟩
end
theorem ownTs_nd (l : List Ty) (h : Ty.nds l ≤ 1000000) : OwnTs l := ownTs_all _ l (Nat.le_refl _) (by have := Ty.nds_len l; omega) (Ty.oks_nds l h)
theorem ownPs_nd (l : List Pa) (h : Pa.nds l ≤ 1000000) : OwnPs l := ownPs_all _ l (Nat.le_refl _) (by have := Pa.nds_len l; omega) (Pa.oks_nds l h)
theorem Ex.mem_nd {l : List Ex} {t : Ex} (h : t ∈ l) : t.nd ≤ Ex.nds l := by obtain ⟨k, hk⟩ := List.getElem?_of_mem h; exact Ex.nds_get l k t hk
theorem Al.mem_nd {l : List Al} {t : Al} (h : t ∈ l) : t.nd ≤ Al.nds l := by obtain ⟨k, hk⟩ := List.getElem?_of_mem h; exact Al.nds_get l k t hk
theorem De.mem_nd {l : List De} {t : De} (h : t ∈ l) : t.nd ≤ De.nds l := by obtain ⟨k, hk⟩ := List.getElem?_of_mem h; exact De.nds_get l k t hk
theorem Co.mem_nd {l : List Co} {t : Co} (h : t ∈ l) : Ty.nds t.args ≤ Co.nds l := by obtain ⟨k, hk⟩ := List.getElem?_of_mem h; exact Co.nds_get l k t hk
theorem ownD_of (n : Nat) (hn : n ≤ 1000000) (ih : ∀ t : Ex, t.nd ≤ n → OwnE t) (d : De) (h : d.nd ≤ n + 1) : OwnD d := by
  obtain ⟨k, p, m, vs, cs, ⟨tk, tp, tn, tl⟩, ps, e⟩ := d
  unfold De.nd Ty.nd at h
  have := Co.nds_len cs
  exact ⟨by omega, by omega, ownTs_nd tl (by omega), ownPs_nd ps (by omega), ih e (by omega), fun c hc => ownTs_nd c.args (by have := Co.mem_nd hc; omega)⟩
theorem ownE_nd : ∀ (n : Nat), n ≤ 1000000 → ∀ t : Ex, t.nd ≤ n → OwnE t
  | 0, _, .mk _ _ _ _ _ _ _ _, h => by unfold Ex.nd at h; omega
  | n + 1, hn, .mk k p m i l ps al ds, h => by
    unfold Ex.nd at h
    have ih := ownE_nd n (by omega)
    intro P vs w hvs
    obtain ⟨hnm, a4, a5, a6, a7, b4, b5, b6, b7, rfl, h4, h5, h6, h7⟩ := ex_vs hvs
    have := Ex.nds_len l
    have := Al.nds_len al
    have := De.nds_len ds
    exact ownE_step k p i m l ps al ds a4 a5 a6 a7 b4 b5 b6 b7 P w (ownPs_nd ps (by omega)) (ownDs_step ds (fun d hd => ownD_of n (by omega) ih d (by have := De.mem_nd hd; omega)) (by omega)) (fun t ht => ih t (by have := Ex.mem_nd ht; omega)) hnm (by omega)
      (fun t ht => by
        have h1 := Al.mem_nd ht
        obtain ⟨⟨pk, pp, pn, pm, pl⟩, e⟩ := t
        unfold Al.nd Pa.nd at h1
        exact ⟨ownPs_nd pl (by omega), ih e (by omega)⟩) (by omega) h4 h6 h5 h7
theorem ownDs_nd (l : List De) (h : De.nds l ≤ 1000000) : OwnDs l := ownDs_step l (fun d hd => ownD_of 1000000 (Nat.le_refl _) (ownE_nd 1000000 (Nat.le_refl _)) d (by have := De.mem_nd hd; omega)) (by have := De.nds_len l; omega)
end Go.Proofs.YtdiffpiapdghoaaGreatDoor
/-
  Layer 3, the document's side: SameType, SamePat, SameExpr, SameDecls of any trees.
-/
namespace Go.Proofs.YtdiffpiapdghoaaGreatDoor
set_option linter.unusedVariables false
open Go.ChangeShapes Go.WideShapes Go.ChangeAt Go.RowKit

theorem rsameE_all : ∀ (n : Nat) (t u : Ex), t.nd ≤ n → RSameE t u
  | 0, .mk _ _ _ _ _ _ _ _, u, h => by unfold Ex.nd at h; omega
  | n + 1, .mk xk xp xn xm xl xps xal xds, u, h => by
    unfold Ex.nd at h
    refine rsameE_step _ u (fun k x y hx hy => rsameE_all n x y ?_) (fun k x y hx hy => rsameE_all n x.body' y.body' ?_) (fun P Q v v' w hv hv' => rsameDs_step _ _ (fun k x y hx hy => rsameE_all n x.body' y.body' ?_) P Q v v' w hv hv')
    · have hx : xl[k]? = some x := hx
      have := Ex.nds_get xl k x hx
      omega
    · have hx : xal[k]? = some x := hx
      have h1 := Al.nds_get xal k x hx
      obtain ⟨p, e⟩ := x
      unfold Al.nd at h1
      show e.nd ≤ n
      omega
    · have hx : xds[k]? = some x := hx
      have h1 := De.nds_get xds k x hx
      obtain ⟨d1, d2, d3, d4, d5, d6, d7, d8⟩ := x
      unfold De.nd at h1
      show d8.nd ≤ n
      omega
theorem rsameE_any (t u : Ex) : RSameE t u := rsameE_all _ t u (Nat.le_refl _)
theorem rsameDs_any (l m : List De) (P Q : Nat → Prop) (v v' : Value) (w : World) (hs : IsDes w P v l) (ht : IsDes w Q v' m) :
    Calls Tryz.prog 28 #[v, v'] w fun e w' => e = .returned (.bool (De.sames l m)) ∧ Below w.heap.size w w' :=
  rsameDs_step l m (fun k t u _ _ => rsameE_any t.body' u.body') P Q v v' w hs ht
theorem rsameP_vs (t u : Pa) (P Q : Nat → Prop) (vs us : List Value) (w : World) (hv : IsVs w P t.row vs) (hu : IsVs w Q u.row us) :
    Calls Tryz.prog 22 #[.agg vs.toArray, .agg us.toArray] w fun e w' => e = .returned (.bool (t.same u)) ∧ Below w.heap.size w w' := by
  obtain ⟨tk, tp, tn, tm, tl⟩ := t
  obtain ⟨uk, up, un, um, ul⟩ := u
  obtain ⟨a, b, rfl, h1, h2⟩ := pa_vs hv
  obtain ⟨a', b', rfl, h3, h4⟩ := pa_vs hu
  exact rsameP_step tk tp tn tm tl uk up un um ul (rsamePs_all _ tl ul (Nat.le_refl _)) P Q _ _ w h2 h4
/-- a type, a pattern as the program's, as values -/
theorem ownT_vs (t : Ty) (hn : t.nd ≤ 1000000) (P : Nat → Prop) (vs : List Value) (w : World) (hv : IsVs w P t.row vs) :
    Calls Tryz.prog 10 #[.agg vs.toArray] w fun e w' => ∃ vs', e = .returned (.agg vs'.toArray) ∧ IsVs w' (Own w w') t.row vs' ∧ Below w.heap.size w w' := by
  obtain ⟨tk, tp, tn, tl⟩ := t
  unfold Ty.nd at hn
  obtain ⟨a, b, rfl, h1, h2⟩ := ty_vs hv
  refine (ownT_step tk tp tn tl (ownTs_nd tl (by omega)) P _ w h2).mono ?_
  rintro e w' ⟨v', rfl, h3, h4⟩
  refine ⟨[.int .i64 tk, .int .i64 tp, .string tn, v'], rfl, ?_, h4⟩
  unfold Ty.row
  exact ⟨_, _, rfl, (by unfold IsC; rfl), _, _, rfl, (by unfold IsC; rfl), _, _, rfl, (by unfold IsC; exact ⟨rfl, h1⟩), _, _, rfl, h3.out, rfl⟩
theorem ownP_vs (t : Pa) (hn : t.nd ≤ 1000000) (P : Nat → Prop) (vs : List Value) (w : World) (hv : IsVs w P t.row vs) :
    Calls Tryz.prog 13 #[.agg vs.toArray] w fun e w' => ∃ vs', e = .returned (.agg vs'.toArray) ∧ IsVs w' (Own w w') t.row vs' ∧ Below w.heap.size w w' := by
  obtain ⟨tk, tp, tn, tm, tl⟩ := t
  unfold Pa.nd at hn
  obtain ⟨a, b, rfl, h1, h2⟩ := pa_vs hv
  refine (ownP_step tk tp tn tm tl (ownPs_nd tl (by omega)) P _ w h2).mono ?_
  rintro e w' ⟨v', rfl, h3, h4⟩
  exact ⟨[.int .i64 tk, .int .i64 tp, .string tn, .int .i64 tm, v'], rfl, pa_vs_mk h1 h3, h4⟩
end Go.Proofs.YtdiffpiapdghoaaGreatDoor
/-
  Layer 3, the law's side: FewExprs counts the parts (given the smaller ones).
-/
namespace Go.Proofs.YtdiffpiapdghoaaGreatDoor
set_option linter.unusedVariables false
open Go.ChangeShapes Go.WideShapes Go.ChangeAt Go.RowKit

theorem le_both {c : Nat} {r x : Int} (h : 0 ≤ r → (c : Int) + r ≤ x) (hx : x ≤ 9223372036854775807) : r ≤ 9223372036854775807 ∧ (0 ≤ r → (c : Int) + r ≤ x) :=
  ⟨by rcases Int.lt_or_le r 0 with h1 | h1 <;> (try have := h h1) <;> omega, h⟩
/-- counts of small weight, with what they say -/
structure FewY (z : Nat) : Prop where
  ex : ∀ (l : List Ex), Ex.wts l ≤ z → ∀ (v : Value) (x : Int) (w : World), IsExs w Any v l → Calls Tryz.prog 32 #[v, .int .i64 x] w (NumB (Ex.fits l) (Ex.nds l) x w)
  al : ∀ (l : List Al), Al.wts l ≤ z → ∀ (v : Value) (x : Int) (w : World), IsAls w Any v l → Calls Tryz.prog 53 #[v, .int .i64 x] w (NumB (Al.fits l) (Al.nds l) x w)
  de : ∀ (l : List De), De.wts l ≤ z → ∀ (v : Value) (x : Int) (w : World), IsDes w Any v l → Calls Tryz.prog 54 #[v, .int .i64 x] w (NumB (De.fits l) (De.nds l) x w)

theorem fewT_numB (l : List Ty) (v : Value) (x : Int) (w : World) (hv : IsTys w Any v l) : Calls Tryz.prog 7 #[v, .int .i64 x] w (NumB True (Ty.nds l) x w) := by
  obtain ⟨ao, cap, rfl, _, _⟩ := hv.form
  refine (fewT_any _ l (Nat.le_refl _) _ x w hv).mono ?_
  rintro e w' ⟨rfl, n, rfl⟩
  exact ⟨⟨_, rfl, fun _ hx => le_both (Ty.fews_le l x (Ty.nms_is _ l ao cap (Nat.le_refl _) hv) hx) hx⟩, drew_below w n⟩
theorem fewP_numB (l : List Pa) (v : Value) (x : Int) (w : World) (hv : IsPas w Any v l) : Calls Tryz.prog 52 #[v, .int .i64 x] w (NumB True (Pa.nds l) x w) := by
  obtain ⟨ao, cap, rfl, _, _⟩ := hv.form
  refine (fewP_any _ l (Nat.le_refl _) _ x w hv).mono ?_
  rintro e w' ⟨rfl, n, rfl⟩
  exact ⟨⟨_, rfl, fun _ hx => le_both (Pa.fews_le l x (Pa.nms_is _ l ao cap (Nat.le_refl _) hv) hx) hx⟩, drew_below w n⟩

set_option maxHeartbeats 8000000 in
set_option maxRecDepth 100000 in
theorem fewE_stepB (z : Nat) (l : List Ex) (hz : l ≠ [] → FewY z) (hl : Ex.wts l ≤ z + 1) (v : Value) (x : Int) (w : World) (hv : IsExs w Any v l) : Calls Tryz.prog 32 #[v, .int .i64 x] w (NumB (Ex.fits l) (Ex.nds l) x w) := by
  obtain ⟨ao, cap, rfl, v1, v2⟩ := hv.form
  have hlm : (l.length : Int) ≤ 9223372036854775807 := by unfold maxLen at v2; omega
  have HZ := Lib.hid hz
  clear hz
  go_enter Tryz.func32, Tryz.ntmps32
  go_wp2
  go_loopw [1, 5, 6] (fun lv iv _ wr => ∃ (k : Nat) (y : Int), k ≤ l.length ∧ iv = .int .i64 k ∧ lv = .int .i64 y ∧ Hid (Ex.fits l → x ≤ 9223372036854775807 → y ≤ 9223372036854775807 ∧ (0 ≤ y → (Ex.nds (l.take k) : Int) + y ≤ x)) ∧ Below w.heap.size w wr) (fun _ iv _ _ => l.length - (intOf iv).toNat)
  case atStart => exact ⟨0, x, Nat.zero_le _, rfl, rfl, Lib.hid (fun _ hx => ⟨hx, fun _ => by simp [Ex.nds]⟩), Below.refl _ _⟩
  case round =>
    obtain ⟨k, y, hk, rfl, rfl, HR, hbw⟩ := hrel
    by_cases hlt : k < l.length
    · have k1 : (k : Int) < l.length := by omega
      by_cases hy : y < 0
      · have q : ¬ (0 : Int) ≤ y := by omega
        clear hy
        go_wp2
        go_ret
        exact ⟨⟨_, rfl, fun hf hx => ⟨(HR.out hf hx).1, fun h => by omega⟩⟩, hbw⟩
      · have q : (0 : Int) ≤ y := by omega
        obtain ⟨t, ht⟩ : ∃ t, l[k]? = some t := ⟨l[k], List.getElem?_eq_getElem hlt⟩
        have hsz := Ex.wts_get l k t ht
        obtain ⟨a, rfl, _, hrow⟩ := hv.at ht
        have hrow := hrow.on hbw
        obtain ⟨tk, tp, tn, tm, tl, tps, tal, tds⟩ := t
        unfold Ex.wt at hsz
        obtain ⟨c0, c1, c2, c2', c3, ⟨a4, b4, c4, _, _, h4⟩, ⟨a5, b5, c5, _, _, h5⟩, ⟨a6, b6, c6, _, _, h6⟩, ⟨a7, b7, c7, _, _, h7⟩⟩ := hrow.cells
        have hO : ∀ W : World, ∃ o : Obj, o = .cells #[.int .i64 tk, .int .i64 tp, .string tn, .int .i64 tm, .slice a4 tl.length b4, .slice a5 tps.length b5, .slice a6 tal.length b6, .slice a7 tds.length b7] 32 := fun W => ⟨_, rfl⟩
        obtain ⟨o, ho⟩ := hO wr
        have hN := heap_alloc_new wr o
        have hb1 := (Below.refl wr.heap.size wr).alloc (Nat.le_refl _) o
        have hbb := hbw.trans (hb1.mono hbw.size)
        have g4 := h4.on hb1
        have g5 := h5.on hb1
        have g6 := h6.on hb1
        have g7 := h7.on hb1
        subst ho
        obtain ⟨hnb0, hnb⟩ := quo_100 tn.size c2'
        clear hv hrow h4 h5 h6 h7 hO
        go_wp2_with fail
        refine ((HZ.out (ne_nil hlt)).ex tl (by omega) _ (wrap64 (wrap64 (y - 1) - (tn.size : Int) / 100)) _ g4).mono ?_
        rintro e w1 ⟨⟨r1, rfl, R1⟩, hc1⟩
        replace R1 := Lib.hid R1
        have n1 := (hc1.block _ (heap_lt hN)).trans hN
        have e15 : w1.cell? ⟨wr.heap.size, 5, none⟩ = some (.slice a5 tps.length b5) := by rw [Lib.cell_of_heap n1]; rfl
        have e16 : w1.cell? ⟨wr.heap.size, 6, none⟩ = some (.slice a6 tal.length b6) := by rw [Lib.cell_of_heap n1]; rfl
        have e17 : w1.cell? ⟨wr.heap.size, 7, none⟩ = some (.slice a7 tds.length b7) := by rw [Lib.cell_of_heap n1]; rfl
        go_wp2_with fail
        refine (fewP_numB tps _ _ _ (g5.on hc1)).mono ?_
        rintro e w2 ⟨⟨r2, rfl, R2⟩, hc2⟩
        replace R2 := Lib.hid R2
        have n2 := (hc2.block _ (heap_lt n1)).trans n1
        have e26 : w2.cell? ⟨wr.heap.size, 6, none⟩ = some (.slice a6 tal.length b6) := by rw [Lib.cell_of_heap n2]; rfl
        have e27 : w2.cell? ⟨wr.heap.size, 7, none⟩ = some (.slice a7 tds.length b7) := by rw [Lib.cell_of_heap n2]; rfl
        have hc12 := hc1.trans (hc2.mono hc1.size)
        go_wp2_with fail
        refine ((HZ.out (ne_nil hlt)).al tal (by omega) _ _ _ (g6.on hc12)).mono ?_
        rintro e w3 ⟨⟨r3, rfl, R3⟩, hc3⟩
        replace R3 := Lib.hid R3
        have n3 := (hc3.block _ (heap_lt n2)).trans n2
        have e37 : w3.cell? ⟨wr.heap.size, 7, none⟩ = some (.slice a7 tds.length b7) := by rw [Lib.cell_of_heap n3]; rfl
        have hc13 := hc12.trans (hc3.mono hc12.size)
        go_wp2_with fail
        refine ((HZ.out (ne_nil hlt)).de tds (by omega) _ _ _ (g7.on hc13)).mono ?_
        rintro e w4 ⟨⟨r4, rfl, R4⟩, hc4⟩
        replace R4 := Lib.hid R4
        have hc14 := hc13.trans (hc4.mono hc13.size)
        go_wp2
        go_roundw
        case rel =>
          refine ⟨k + 1, _, by omega, by go_num, rfl, Lib.hid (fun hf hx => ?_), hbb.trans (hc14.mono hbb.size)⟩
          have h0 := HR.out hf hx
          have hft := Ex.fits_get l k _ hf ht
          unfold Ex.fit at hft
          have hx1 := take_100 y tn.size q h0.1 c2'
          have hq := quo_100 tn.size c2'
          have e1 := R1.out hft.1 (by rw [hx1]; omega)
          rw [hx1] at e1
          have e2 := R2.out trivial e1.1
          have e3 := R3.out hft.2.1 e2.1
          have e4 := R4.out hft.2.2 e3.1
          refine ⟨e4.1, fun h => ?_⟩
          rw [Ex.nds_take l k _ ht]
          unfold Ex.nd
          have f4 := e4.2 h
          have f3 := e3.2 (by omega)
          have f2 := e2.2 (by omega)
          have f1 := e1.2 (by omega)
          have f0 := h0.2 q
          omega
        case measure => simp [intOf]; omega
    · have k1 : ¬ (k : Int) < l.length := by omega
      go_wp2
      go_ret
      exact ⟨⟨_, rfl, fun hf hx => by have h9 := HR.out hf hx; rw [List.take_of_length_le (by omega)] at h9; exact h9⟩, hbw⟩
end Go.Proofs.YtdiffpiapdghoaaGreatDoor
