/- Texts of this proof, joined: PDecls5, PSame, OwnP. No condition. -/
import Derived.Test.YtkdhoelabomgkaaGreatDoorMa14
import Derived.Test.YtkdhoelabomgkaaGreatDoorMa11
import Derived.Test.YtkdhoelabomgkaaGreatDoorMa12
import Derived.Test.YtkdhoelabomgkaaGreatDoorMa13
import Derived.Test.YtkdhoelabomgkaaGreatDoorMa15
import Derived.Test.YtkdhoelabomgkaaGreatDoorMa10
import Derived.StillTailTactics
import Derived.Deep.RegionHeld3
/-
  Layer 3, the program's side: declarations, held against each other: what comes of the first 5 of their parts.
-/
namespace Go.Proofs.YtkdhoelabomgkaaGreatDoor
set_option linter.unusedVariables false
open Go.ChangeShapes Go.WideShapes Go.ChangeAt Go.RowKit

set_option maxHeartbeats 4000000 in
set_option maxRecDepth 100000 in
theorem decls_w5 (h a b : Addr) (lev : Int) (P Q : Nat → Prop) (w : World) (xk xp yp : Int) (xn : ByteArray) (xvs yvs : List ByteArray) (xcs ycs : List Co) (xt yt : Ty) (xps yps : List Pa) (xe ye : Ex) (b5 : Bool)
    (ha : IsDe w P a (.mk xk xp xn xvs xcs xt xps xe)) (hb : IsDe w Q b (.mk xk yp xn yvs ycs yt yps ye))
    (hc1 : ∀ (v v' : Value), IsTxs w P v xvs → IsTxs w Q v' yvs → Gives 88 #[v, v', .int .i64 lev, .func (.func 89) #[] #[]] w true)
    (hc2 : ∀ (v v' : Value), IsCos w P v xcs → IsCos w Q v' ycs → Gives 90 #[v, v', .int .i64 lev, .func (.func 91) #[.pointer (some h)] #[]] w true)
    (hc3 : IsTy w P (a.add 5) xt → IsTy w Q (b.add 5) yt → Gives 46 #[.pointer (some h), .pointer (some (a.add 5)), .pointer (some (b.add 5)), .int .i64 lev] w true)
    (hc4 : ∀ (v v' : Value), IsPas w P v xps → IsPas w Q v' yps → Gives 81 #[v, v', .int .i64 lev, .func (.func 43) #[.pointer (some h)] #[]] w true)
    (hc5 : IsEx w P (a.add 10) xe → IsEx w Q (b.add 10) ye → Gives 47 #[.pointer (some h), .pointer (some (a.add 10)), .pointer (some (b.add 10)), .int .i64 lev] w b5) :
    Calls Tryz.prog 49 #[.pointer (some h), .pointer (some a), .pointer (some b), .int .i64 lev] w fun e w' => e = .returned (.bool b5) ∧ Below w.heap.size w w' := by
  obtain ⟨c0, _, c2, c2', ⟨a3, b3, c3, _, _, x3⟩, ⟨a4, b4, c4, _, _, x4⟩, x5, ⟨a9, b9, c9, _, _, x9⟩, x10⟩ := ha.cells
  obtain ⟨d0, _, d2, d2', ⟨r3, s3, d3, _, _, y3⟩, ⟨r4, s4, d4, _, _, y4⟩, y5, ⟨r9, s9, d9, _, _, y9⟩, y10⟩ := hb.cells
  have f1 := hc1 _ _ x3 y3
  have C1 := Lib.hid f1
  have f2 := hc2 _ _ x4 y4
  have C2 := Lib.hid f2
  have f3 := hc3 x5 y5
  rw [add_off _ _ (by decide), add_off _ _ (by decide)] at f3
  have C3 := Lib.hid f3
  have f4 := hc4 _ _ x9 y9
  have C4 := Lib.hid f4
  have f5 := hc5 x10 y10
  rw [add_off _ _ (by decide), add_off _ _ (by decide)] at f5
  have C5 := Lib.hid f5
  clear ha hb x3 x4 x5 x9 x10 y3 y4 y5 y9 y10 hc1 f1 hc2 f2 hc3 f3 hc4 f4 hc5 f5
  have HF : Hid (∀ V : World, Below w.heap.size w V → V.cell? a = some (.int .i64 xk) ∧ V.cell? ⟨a.block, a.off + 2, none⟩ = some (.string xn) ∧ V.cell? ⟨a.block, a.off + 3, none⟩ = some (.slice a3 xvs.length b3) ∧ V.cell? ⟨a.block, a.off + 4, none⟩ = some (.slice a4 xcs.length b4) ∧ V.cell? ⟨a.block, a.off + 9, none⟩ = some (.slice a9 xps.length b9) ∧ V.cell? b = some (.int .i64 xk) ∧ V.cell? ⟨b.block, b.off + 2, none⟩ = some (.string xn) ∧ V.cell? ⟨b.block, b.off + 3, none⟩ = some (.slice r3 yvs.length s3) ∧ V.cell? ⟨b.block, b.off + 4, none⟩ = some (.slice r4 ycs.length s4) ∧ V.cell? ⟨b.block, b.off + 9, none⟩ = some (.slice r9 yps.length s9)) := Lib.hid (fun V hV => ⟨(hV.cell (Lib.lt_of_cell c0)).trans c0, (hV.cell (Lib.lt_of_cell c2)).trans c2, (hV.cell (Lib.lt_of_cell c3)).trans c3, (hV.cell (Lib.lt_of_cell c4)).trans c4, (hV.cell (Lib.lt_of_cell c9)).trans c9, (hV.cell (Lib.lt_of_cell d0)).trans d0, (hV.cell (Lib.lt_of_cell d2)).trans d2, (hV.cell (Lib.lt_of_cell d3)).trans d3, (hV.cell (Lib.lt_of_cell d4)).trans d4, (hV.cell (Lib.lt_of_cell d9)).trans d9⟩)
  clear c0 c2 c3 c4 c9 d0 d2 d3 d4 d9
  go_enter Tryz.func49, Tryz.ntmps49
  go_wp2
  have hw2 : Below w.heap.size w w.drew := (Below.refl _ _).drew
  simp only [List.append_eq, List.cons_append, List.nil_append]
  refine wp_region_plan [(30, 3), (11, 3), (8, 3), (11, 3), (8, 3)] (by kernel_rfl) (by kernel_rfl) ?_
  change Wrapped (wpPlan _ _ _ _ _ _ w.drew)
  generalize w.drew = w2 at hw2 ⊢
  obtain ⟨c0, c2, c3, c4, c9, d0, d2, d3, d4, d9⟩ := HF.out w2 hw2
  refine plan_step ?_
  simp only [List.take_succ_cons, List.take_zero, List.drop_succ_cons, List.drop_zero, Nat.reduceAdd]
  repeat (refine wst_step (fun K hK => ?_); go_simp; refine hK _ ?_; clear hK K)
  refine wst_nil ?_
  intro K hK
  have HK := Lib.hid hK
  clear hK
  go_wp2_with fail
  refine (C1.out w2 hw2).mono ?_
  rintro e w3 ⟨rfl, hw3⟩
  go_wp2
  refine HK.out _ _ ?_
  clear HK K c0 c2 c3 c4 c9 d0 d2 d3 d4 d9
  obtain ⟨c0, c2, c3, c4, c9, d0, d2, d3, d4, d9⟩ := HF.out w3 hw3
  refine plan_step ?_
  simp only [List.take_succ_cons, List.take_zero, List.drop_succ_cons, List.drop_zero, Nat.reduceAdd]
  repeat (refine wst_step (fun K hK => ?_); go_simp; refine hK _ ?_; clear hK K)
  refine wst_nil ?_
  intro K hK
  have HK := Lib.hid hK
  clear hK
  go_wp2_with fail
  refine (C2.out w3 hw3).mono ?_
  rintro e w4 ⟨rfl, hw4⟩
  go_wp2
  refine HK.out _ _ ?_
  clear HK K c0 c2 c3 c4 c9 d0 d2 d3 d4 d9
  obtain ⟨c0, c2, c3, c4, c9, d0, d2, d3, d4, d9⟩ := HF.out w4 hw4
  refine plan_step ?_
  simp only [List.take_succ_cons, List.take_zero, List.drop_succ_cons, List.drop_zero, Nat.reduceAdd]
  repeat (refine wst_step (fun K hK => ?_); go_simp; refine hK _ ?_; clear hK K)
  refine wst_nil ?_
  intro K hK
  have HK := Lib.hid hK
  clear hK
  go_wp2_with fail
  refine (C3.out w4 hw4).mono ?_
  rintro e w5 ⟨rfl, hw5⟩
  go_wp2
  refine HK.out _ _ ?_
  clear HK K c0 c2 c3 c4 c9 d0 d2 d3 d4 d9
  obtain ⟨c0, c2, c3, c4, c9, d0, d2, d3, d4, d9⟩ := HF.out w5 hw5
  refine plan_step ?_
  simp only [List.take_succ_cons, List.take_zero, List.drop_succ_cons, List.drop_zero, Nat.reduceAdd]
  repeat (refine wst_step (fun K hK => ?_); go_simp; refine hK _ ?_; clear hK K)
  refine wst_nil ?_
  intro K hK
  have HK := Lib.hid hK
  clear hK
  go_wp2_with fail
  refine (C4.out w5 hw5).mono ?_
  rintro e w6 ⟨rfl, hw6⟩
  go_wp2
  refine HK.out _ _ ?_
  clear HK K c0 c2 c3 c4 c9 d0 d2 d3 d4 d9
  obtain ⟨c0, c2, c3, c4, c9, d0, d2, d3, d4, d9⟩ := HF.out w6 hw6
  refine plan_step ?_
  simp only [List.take_succ_cons, List.take_zero, List.drop_succ_cons, List.drop_zero, Nat.reduceAdd]
  repeat (refine wst_step (fun K hK => ?_); go_simp; refine hK _ ?_; clear hK K)
  refine wst_nil ?_
  intro K hK
  have HK := Lib.hid hK
  clear hK
  go_wp2_with fail
  refine (C5.out w6 hw6).mono ?_
  rintro e w7 ⟨rfl, hw7⟩
  go_wp2
  refine HK.out _ _ ?_
  clear HK K c0 c2 c3 c4 c9 d0 d2 d3 d4 d9
  refine plan_end ?_
  go_wp2
  go_ret
  exact ⟨rfl, hw7⟩
end Go.Proofs.YtkdhoelabomgkaaGreatDoor
/-
  Layer 3, the program's side: trees held against each other by the holder, none deeper than the walk goes: they are the same just if the plain trees are.
-/
namespace Go.Proofs.YtkdhoelabomgkaaGreatDoor
set_option linter.unusedVariables false
open Go.ChangeShapes Go.WideShapes Go.ChangeAt Go.RowKit

theorem Ex.nds_get : ∀ (l : List Ex) (k : Nat) (t : Ex), l[k]? = some t → t.nd ≤ Ex.nds l
  | [], k, t, h => by simp at h
  | x :: r, 0, t, h => by simp at h; subst h; unfold Ex.nds; omega
  | x :: r, k + 1, t, h => by have := Ex.nds_get r k t (by simpa using h); unfold Ex.nds; omega
theorem Al.nds_get : ∀ (l : List Al) (k : Nat) (t : Al), l[k]? = some t → t.nd ≤ Al.nds l
  | [], k, t, h => by simp at h
  | x :: r, 0, t, h => by simp at h; subst h; unfold Al.nds; omega
  | x :: r, k + 1, t, h => by have := Al.nds_get r k t (by simpa using h); unfold Al.nds; omega
theorem De.nds_get : ∀ (l : List De) (k : Nat) (t : De), l[k]? = some t → t.nd ≤ De.nds l
  | [], k, t, h => by simp at h
  | x :: r, 0, t, h => by simp at h; subst h; unfold De.nds; omega
  | x :: r, k + 1, t, h => by have := De.nds_get r k t (by simpa using h); unfold De.nds; omega
theorem Co.nds_get : ∀ (l : List Co) (k : Nat) (t : Co), l[k]? = some t → Ty.nds t.args ≤ Co.nds l
  | [], k, t, h => by simp at h
  | x :: r, 0, t, h => by simp at h; subst h; unfold Co.nds; omega
  | x :: r, k + 1, t, h => by have := Co.nds_get r k t (by simpa using h); unfold Co.nds; omega

theorem ty_same (h : Addr) : ∀ (n : Nat) (lev : Int) (t u : Ty), 0 ≤ lev → lev + n ≤ 401 → t.nd ≤ n ∨ u.nd ≤ n → HoldsT h lev t u
  | 0, lev, .mk _ _ _ _, .mk _ _ _ _, h0, h4, hn => by unfold Ty.nd at hn; omega
  | n + 1, lev, .mk xk xp xn xl, .mk yk yp yn yl, h0, h4, hn => types_step h lev h0 (by omega) _ _ fun k x y hx hy => ty_same h n (lev + 1) x y (by omega) (by push_cast at h4; omega) (by
      have hx : xl[k]? = some x := hx
      have hy : yl[k]? = some y := hy
      have := Ty.nds_get xl k x hx
      have := Ty.nds_get yl k y hy
      unfold Ty.nd at hn
      omega)
theorem pa_same (h : Addr) : ∀ (n : Nat) (lev : Int) (t u : Pa), 0 ≤ lev → lev + n ≤ 401 → t.nd ≤ n ∨ u.nd ≤ n → HoldsP h lev t u
  | 0, lev, .mk _ _ _ _ _, .mk _ _ _ _ _, h0, h4, hn => by unfold Pa.nd at hn; omega
  | n + 1, lev, .mk xk xp xn xm xl, .mk yk yp yn ym yl, h0, h4, hn => pats_step h lev h0 (by omega) _ _ fun k x y hx hy => pa_same h n (lev + 1) x y (by omega) (by push_cast at h4; omega) (by
      have hx : xl[k]? = some x := hx
      have hy : yl[k]? = some y := hy
      have := Pa.nds_get xl k x hx
      have := Pa.nds_get yl k y hy
      unfold Pa.nd at hn
      omega)
theorem al_holds (h : Addr) (lev : Int) (p q : Pa) (e f : Ex) (hp : HoldsP h lev p q) (he : HoldsE h lev e f) : HoldsA h lev (.mk p e) (.mk q f) := by
  intro P Q a b w ha hb
  obtain ⟨h1, h2⟩ := ha.parts
  obtain ⟨g1, g2⟩ := hb.parts
  have := alts_step h lev (.mk p e) (.mk q f) P Q a b w (p.same q) (e.same f) (gives_mono fun W2 hW => hp P Q a b W2 (h1.on hW) (g1.on hW)) (fun _ => gives_mono fun W2 hW => he P Q _ _ W2 (h2.on hW) (g2.on hW))
  have e : Al.same (.mk p e) (.mk q f) = (p.same q && e.same f) := by unfold Al.same; rfl
  rw [e]
  exact this
theorem tx_holds (lev : Int) (t u : ByteArray) : HoldsX lev t u := by
  intro P Q a b w ha hb
  obtain ⟨c0, _⟩ := ha.cell
  obtain ⟨d0, _⟩ := hb.cell
  go_enter Tryz.func89, Tryz.ntmps89
  go_wp2
  go_quiet (fail)
  go_wp2
  go_ret
  exact ⟨by first | rfl | (rw [text_eq]; rfl) | (simp [text_eq]), drew_below w _⟩
theorem name_ne {a b : ByteArray} (h : ¬ a = b) : (a.data.toList == b.data.toList) = false := by
  rw [← text_eq]
  exact text_ne h
def De.cons' : De → List Co
  | .mk _ _ _ _ cs _ _ _ => cs
def De.type' : De → Ty
  | .mk _ _ _ _ _ t _ _ => t
def De.pats' : De → List Pa
  | .mk _ _ _ _ _ _ ps _ => ps
def De.body' : De → Ex
  | .mk _ _ _ _ _ _ _ e => e
theorem de_holds (h : Addr) (lev : Int) (d d' : De) (hc : ∀ (k : Nat) (x y : Co), d.cons'[k]? = some x → d'.cons'[k]? = some y → HoldsC h lev x y) (ht : HoldsT h lev d.type' d'.type') (hp : ∀ (k : Nat) (x y : Pa), d.pats'[k]? = some x → d'.pats'[k]? = some y → HoldsP h lev x y) (he : HoldsE h lev d.body' d'.body') : HoldsD h lev d d' := by
  obtain ⟨xk, xp, xn, xvs, xcs, xt, xps, xe⟩ := d
  obtain ⟨yk, yp, yn, yvs, ycs, yt, yps, ye⟩ := d'
  intro P Q a b w ha hb
  have G1 : ∀ (v v' : Value), IsTxs w P v xvs → IsTxs w Q v' yvs → Gives 88 #[v, v', .int .i64 lev, .func (.func 89) #[] #[]] w (Tx.sames xvs yvs) := fun v v' hv hv' => gives_mono fun W2 hW => listX lev xvs yvs (fun k t u _ _ => tx_holds lev t u) P Q v v' W2 (hv.on hW) (hv'.on hW)
  have G2 : ∀ (v v' : Value), IsCos w P v xcs → IsCos w Q v' ycs → Gives 90 #[v, v', .int .i64 lev, .func (.func 91) #[.pointer (some h)] #[]] w (Co.sames xcs ycs) := fun v v' hv hv' => gives_mono fun W2 hW => listC h lev xcs ycs hc P Q v v' W2 (hv.on hW) (hv'.on hW)
  have G3 : IsTy w P (a.add 5) xt → IsTy w Q (b.add 5) yt → Gives 46 #[.pointer (some h), .pointer (some (a.add 5)), .pointer (some (b.add 5)), .int .i64 lev] w (xt.same yt) := fun hv hv' => gives_mono fun W2 hW => ht P Q _ _ W2 (hv.on hW) (hv'.on hW)
  have G4 : ∀ (v v' : Value), IsPas w P v xps → IsPas w Q v' yps → Gives 81 #[v, v', .int .i64 lev, .func (.func 43) #[.pointer (some h)] #[]] w (Pa.sames xps yps) := fun v v' hv hv' => gives_mono fun W2 hW => listP h lev xps yps hp P Q v v' W2 (hv.on hW) (hv'.on hW)
  have G5 : IsEx w P (a.add 10) xe → IsEx w Q (b.add 10) ye → Gives 47 #[.pointer (some h), .pointer (some (a.add 10)), .pointer (some (b.add 10)), .int .i64 lev] w (xe.same ye) := fun hv hv' => gives_mono fun W2 hW => he P Q _ _ W2 (hv.on hW) (hv'.on hW)
  have hsame : De.same (.mk xk xp xn xvs xcs xt xps xe) (.mk yk yp yn yvs ycs yt yps ye) = (xk == yk && (xn.data.toList == yn.data.toList && (Tx.sames xvs yvs && (Co.sames xcs ycs && (xt.same yt && (Pa.sames xps yps && xe.same ye)))))) := by unfold De.same; rfl
  by_cases hne : xk = yk ∧ xn = yn
  · obtain ⟨rfl, rfl⟩ := hne
    rw [beq_self_eq_true, beq_self_eq_true, Bool.true_and, Bool.true_and] at hsame
    rw [hsame]
    cases e1 : Tx.sames xvs yvs
    · rw [e1] at G1
      exact decls_w1 h a b lev P Q w xk xp yp xn xvs yvs xcs ycs xt yt xps yps xe ye ha hb G1
    · rw [e1] at G1
      cases e2 : Co.sames xcs ycs
      · rw [e2] at G2
        exact decls_w2 h a b lev P Q w xk xp yp xn xvs yvs xcs ycs xt yt xps yps xe ye ha hb G1 G2
      · rw [e2] at G2
        cases e3 : xt.same yt
        · rw [e3] at G3
          exact decls_w3 h a b lev P Q w xk xp yp xn xvs yvs xcs ycs xt yt xps yps xe ye ha hb G1 G2 G3
        · rw [e3] at G3
          cases e4 : Pa.sames xps yps
          · rw [e4] at G4
            exact decls_w4 h a b lev P Q w xk xp yp xn xvs yvs xcs ycs xt yt xps yps xe ye ha hb G1 G2 G3 G4
          · rw [e4] at G4
            exact decls_w5 h a b lev P Q w xk xp yp xn xvs yvs xcs ycs xt yt xps yps xe ye _ ha hb G1 G2 G3 G4 G5
  · have : De.same (.mk xk xp xn xvs xcs xt xps xe) (.mk yk yp yn yvs ycs yt yps ye) = false := by
      rw [hsame]
      by_cases hk : xk = yk
      · rw [name_ne fun e => hne ⟨hk, e⟩]; simp
      · rw [show (xk == yk) = false by rw [beq_eq_false_iff_ne]; exact hk]; rfl
    rw [this]
    exact decls_w0 h a b lev P Q w xk xp yk yp xn yn xvs yvs xcs ycs xt yt xps yps xe ye ha hb hne
theorem ex_same (h : Addr) : ∀ (n : Nat) (lev : Int) (t u : Ex), 0 ≤ lev → lev + n ≤ 401 → t.nd ≤ n ∨ u.nd ≤ n → HoldsE h lev t u
  | 0, lev, .mk _ _ _ _ _ _ _ _, .mk _ _ _ _ _ _ _ _, h0, h4, hn => by unfold Ex.nd at hn; omega
  | n + 1, lev, .mk xk xp xn xm xl xps xal xds, .mk yk yp yn ym yl yps yal yds, h0, h4, hn => by
    have hn' : Ex.nds xl + Pa.nds xps + Al.nds xal + De.nds xds ≤ n ∨ Ex.nds yl + Pa.nds yps + Al.nds yal + De.nds yds ≤ n := by unfold Ex.nd at hn; omega
    have h5 : lev + 1 + (n : Int) ≤ 401 := by push_cast at h4; omega
    intro P Q a b w ha hb
    have G1 : ∀ (v v' : Value) (W : World), Below w.heap.size w W → IsExs W P v xl → IsExs W Q v' yl → Gives 85 #[v, v', .int .i64 (lev + 1), .func (.func 47) #[.pointer (some h)] #[]] W (Ex.sames xl yl) := fun v v' W _ hv hv' => gives_mono fun W2 hW => listE h (lev + 1) xl yl (fun k t u ht hu => ex_same h n (lev + 1) t u (by omega) h5 (by have := Ex.nds_get xl k t ht; have := Ex.nds_get yl k u hu; omega)) P Q v v' W2 (hv.on hW) (hv'.on hW)
    have G2 : ∀ (v v' : Value) (W : World), Below w.heap.size w W → IsPas W P v xps → IsPas W Q v' yps → Gives 81 #[v, v', .int .i64 (lev + 1), .func (.func 43) #[.pointer (some h)] #[]] W (Pa.sames xps yps) := fun v v' W _ hv hv' => gives_mono fun W2 hW => listP h (lev + 1) xps yps (fun k t u ht hu => pa_same h n (lev + 1) t u (by omega) h5 (by have := Pa.nds_get xps k t ht; have := Pa.nds_get yps k u hu; omega)) P Q v v' W2 (hv.on hW) (hv'.on hW)
    have G3 : ∀ (v v' : Value) (W : World), Below w.heap.size w W → IsAls W P v xal → IsAls W Q v' yal → Gives 86 #[v, v', .int .i64 (lev + 1), .func (.func 87) #[.pointer (some h)] #[]] W (Al.sames xal yal) := fun v v' W _ hv hv' => gives_mono fun W2 hW => listA h (lev + 1) xal yal (fun k t u ht hu => by
      have h1 := Al.nds_get xal k t ht
      have h2 := Al.nds_get yal k u hu
      obtain ⟨p, e⟩ := t
      obtain ⟨q, f⟩ := u
      unfold Al.nd at h1 h2
      exact al_holds h (lev + 1) p q e f (pa_same h n (lev + 1) p q (by omega) h5 (by omega)) (ex_same h n (lev + 1) e f (by omega) h5 (by omega))) P Q v v' W2 (hv.on hW) (hv'.on hW)
    have G4 : ∀ (v v' : Value) (W : World), Below w.heap.size w W → IsDes W P v xds → IsDes W Q v' yds → Gives 48 #[v, v', .int .i64 (lev + 1), .func (.func 49) #[.pointer (some h)] #[]] W (De.sames xds yds) := fun v v' W _ hv hv' => gives_mono fun W2 hW => listD h (lev + 1) xds yds (fun k t u ht hu => by
      have h1 := De.nds_get xds k t ht
      have h2 := De.nds_get yds k u hu
      obtain ⟨d1, d2, d3, d4, d5, d6, d7, d8⟩ := t
      obtain ⟨e1, e2, e3, e4, e5, e6, e7, e8⟩ := u
      unfold De.nd at h1 h2
      exact de_holds h (lev + 1) _ _
        (fun k x y hx hy => cons_step h (lev + 1) x y fun i p q hp hq => ty_same h n (lev + 1) p q (by omega) h5 (by
          have hx : d5[k]? = some x := hx
          have hy : e5[k]? = some y := hy
          have := Co.nds_get d5 k x hx
          have := Co.nds_get e5 k y hy
          have := Ty.nds_get x.args i p hp
          have := Ty.nds_get y.args i q hq
          omega))
        (ty_same h n (lev + 1) d6 e6 (by omega) h5 (by omega))
        (fun k x y hx hy => pa_same h n (lev + 1) x y (by omega) h5 (by
          have hx : d7[k]? = some x := hx
          have hy : e7[k]? = some y := hy
          have := Pa.nds_get d7 k x hx
          have := Pa.nds_get e7 k y hy
          omega))
        (ex_same h n (lev + 1) d8 e8 (by omega) h5 (by omega))) P Q v v' W2 (hv.on hW) (hv'.on hW)
    have hsame : Ex.same (.mk xk xp xn xm xl xps xal xds) (.mk yk yp yn ym yl yps yal yds) = (xk == yk && (xn.data.toList == yn.data.toList && (xm == ym && (Ex.sames xl yl && (Pa.sames xps yps && (Al.sames xal yal && De.sames xds yds)))))) := by unfold Ex.same; rfl
    by_cases hne : xk = yk ∧ xn = yn ∧ xm = ym
    · obtain ⟨rfl, rfl, rfl⟩ := hne
      rw [beq_self_eq_true, beq_self_eq_true, beq_self_eq_true, Bool.true_and, Bool.true_and, Bool.true_and] at hsame
      rw [hsame]
      cases e1 : Ex.sames xl yl
      · rw [e1] at G1
        exact exprs_w1 h a b lev h0 (by omega) P Q w xk xp xm yp xn xl yl xps yps xal yal xds yds ha hb G1
      · rw [e1] at G1
        cases e2 : Pa.sames xps yps
        · rw [e2] at G2
          exact exprs_w2 h a b lev h0 (by omega) P Q w xk xp xm yp xn xl yl xps yps xal yal xds yds ha hb G1 G2
        · rw [e2] at G2
          cases e3 : Al.sames xal yal
          · rw [e3] at G3
            exact exprs_w3 h a b lev h0 (by omega) P Q w xk xp xm yp xn xl yl xps yps xal yal xds yds ha hb G1 G2 G3
          · rw [e3] at G3
            exact exprs_w4 h a b lev h0 (by omega) P Q w xk xp xm yp xn xl yl xps yps xal yal xds yds _ ha hb G1 G2 G3 G4
    · have : Ex.same (.mk xk xp xn xm xl xps xal xds) (.mk yk yp yn ym yl yps yal yds) = false := by
        rw [hsame]
        by_cases hk : xk = yk
        · by_cases hm : xn = yn
          · rw [show (xm == ym) = false by rw [beq_eq_false_iff_ne]; exact fun e => hne ⟨hk, hm, e⟩]; simp
          · rw [name_ne hm]; simp
        · rw [show (xk == yk) = false by rw [beq_eq_false_iff_ne]; exact hk]; rfl
      rw [this]
      exact exprs_w0 h a b lev h0 (by omega) P Q w xk xp xm yk yp ym xn yn xl yl xps yps xal yal xds yds ha hb hne
end Go.Proofs.YtkdhoelabomgkaaGreatDoor
/-
  Layer 3, the law's side: OwnPat: the document's pattern as the program's: the same tree, in blocks of its own.
-/
namespace Go.Proofs.YtkdhoelabomgkaaGreatDoor
set_option linter.unusedVariables false
open Go.ChangeShapes Go.WideShapes Go.ChangeAt Go.RowKit

/-- some patterns as the program's -/
def OwnPs (l : List Pa) : Prop := ∀ (P : Nat → Prop) (v : Value) (w : World), IsPas w P v l →
  Calls Tryz.prog 37 #[v] w fun e w' => ∃ v', e = .returned v' ∧ IsPas w' (Own w w') v' l ∧ Below w.heap.size w w'

theorem set5 {w : World} {N : Nat} {x0 x1 x2 x3 x4 : Value} {t : TypeId} (a b c d e : Value) (h : w.heap[N]? = some (.cells #[x0, x1, x2, x3, x4] t (0, 0))) :
    (((((w.setCell ⟨N, 0, none⟩ a).setCell ⟨N, 1, none⟩ b).setCell ⟨N, 2, none⟩ c).setCell ⟨N, 3, none⟩ d).setCell ⟨N, 4, none⟩ e).heap[N]? = some (.cells #[a, b, c, d, e] t (0, 0)) := by
  have h1 := heap_setCell_same w N 0 _ t a h
  have h2 := heap_setCell_same _ N 1 _ t b h1
  have h3 := heap_setCell_same _ N 2 _ t c h2
  have h4 := heap_setCell_same _ N 3 _ t d h3
  exact heap_setCell_same _ N 4 _ t e h4
theorem set5_other {w : World} {N : Nat} (a b c d e : Value) (k : Nat) (hk : k ≠ N) : (((((w.setCell ⟨N, 0, none⟩ a).setCell ⟨N, 1, none⟩ b).setCell ⟨N, 2, none⟩ c).setCell ⟨N, 3, none⟩ d).setCell ⟨N, 4, none⟩ e).heap[k]? = w.heap[k]? := by
  rw [heap_setCell_other _ _ _ _ hk, heap_setCell_other _ _ _ _ hk, heap_setCell_other _ _ _ _ hk, heap_setCell_other _ _ _ _ hk, heap_setCell_other _ _ _ _ hk]
theorem set5_cell {w : World} {N k : Nat} (a b c d e : Value) (j : Nat) (hk : k ≠ N) : (((((w.setCell ⟨N, 0, none⟩ a).setCell ⟨N, 1, none⟩ b).setCell ⟨N, 2, none⟩ c).setCell ⟨N, 3, none⟩ d).setCell ⟨N, 4, none⟩ e).cell? ⟨k, j, none⟩ = w.cell? ⟨k, j, none⟩ := World.cell?_of_block (set5_other a b c d e k hk)
theorem IsPas.mono {P Q : Nat → Prop} {w : World} {v : Value} {l : List Pa} (h : IsPas w P v l) (hp : ∀ b, P b → Q b) : IsPas w Q v l := ⟨IsC.mono hp _ _ h.out⟩
theorem IsPas.stay {P : Nat → Prop} {w w' : World} {v : Value} {l : List Pa} (h : IsPas w P v l) (hs : Stay P w w') : IsPas w' P v l := ⟨IsC.stay hs _ _ h.out⟩

set_option maxHeartbeats 4000000 in
set_option maxRecDepth 100000 in
theorem ownP_step (k p : Int) (n : ByteArray) (m : Int) (l : List Pa) (hl : OwnPs l) (P : Nat → Prop) (v : Value) (w : World) (hv : IsPas w P v l) :
    Calls Tryz.prog 13 #[.agg #[.int .i64 k, .int .i64 p, .string n, .int .i64 m, v]] w fun e w' => ∃ v', e = .returned (.agg #[.int .i64 k, .int .i64 p, .string n, .int .i64 m, v']) ∧ IsPas w' (Own w w') v' l ∧ Below w.heap.size w w' := by
  obtain ⟨ao, cap, rfl, hc1, hc2⟩ := hv.form
  have HL := Lib.hid hl
  have HV := Lib.hid hv
  clear hl hv
  go_enter Tryz.func13, Tryz.ntmps13
  obtain ⟨o1, ho1⟩ : ∃ o : Obj, o = .cells #[.int .i64 k, .int .i64 p, .string n, .int .i64 m, .slice ao l.length cap] 27 := ⟨_, rfl⟩
  obtain ⟨o2, ho2⟩ : ∃ o : Obj, o = .cells #[.int .i64 0, .int .i64 0, .string ⟨#[]⟩, .int .i64 0, .slice none 0 0] 45 := ⟨_, rfl⟩
  have hb1 := ((Below.refl w.heap.size w).alloc (Nat.le_refl _) o1).alloc (by simp) o2
  have hN1 : ((w.alloc o1).alloc o2).heap[w.heap.size]? = some o1 := (Below.heap_alloc _ _ _ (by simp)).trans (heap_alloc_new w o1)
  have hN2 : ((w.alloc o1).alloc o2).heap[w.heap.size + 1]? = some o2 := by
    have := heap_alloc_new (w.alloc o1) o2
    rwa [show (w.alloc o1).heap.size = w.heap.size + 1 by simp] at this
  have hsz : ((w.alloc o1).alloc o2).heap.size = w.heap.size + 2 := by simp
  have HV1 := Lib.hid (HV.out.on hb1)
  go_wp2
  rw [← ho1, ← ho2]
  generalize (w.alloc o1).alloc o2 = W at hb1 hN1 hN2 hsz HV1 ⊢
  subst ho1 ho2
  have hd1 : W.drew.heap[w.heap.size]? = some (.cells #[.int .i64 k, .int .i64 p, .string n, .int .i64 m, .slice ao l.length cap] 27) := hN1
  have hd2 : W.drew.heap[w.heap.size + 1]? = some (.cells #[.int .i64 0, .int .i64 0, .string ⟨#[]⟩, .int .i64 0, .slice none 0 0] 45) := hN2
  have four : ∀ V : World, V.heap[w.heap.size]? = some (.cells #[.int .i64 k, .int .i64 p, .string n, .int .i64 m, .slice ao l.length cap] 27) → V.cell? ⟨w.heap.size, 0, none⟩ = some (.int .i64 k) ∧ V.cell? ⟨w.heap.size, 1, none⟩ = some (.int .i64 p) ∧ V.cell? ⟨w.heap.size, 2, none⟩ = some (.string n) ∧ V.cell? ⟨w.heap.size, 3, none⟩ = some (.int .i64 m) ∧ V.cell? ⟨w.heap.size, 4, none⟩ = some (.slice ao l.length cap) := fun V hV => by
    refine ⟨?_, ?_, ?_, ?_, ?_⟩ <;> (rw [Lib.cell_of_heap hV]; rfl)
  have HF := Lib.hid four
  clear four
  have x0 := HF.out _ hd1
  have hNN : w.heap.size ≠ w.heap.size + 1 := by omega
  go_region_held3 (fun V => V.cell? ⟨w.heap.size, 0, none⟩ = some (.int .i64 k) ∧ V.cell? ⟨w.heap.size, 1, none⟩ = some (.int .i64 p) ∧ V.cell? ⟨w.heap.size, 2, none⟩ = some (.string n) ∧ V.cell? ⟨w.heap.size, 3, none⟩ = some (.int .i64 m) ∧ V.cell? ⟨w.heap.size, 4, none⟩ = some (.slice ao l.length cap))
    (first | (simp only [set5_cell _ _ _ _ _ _ hNN]; exact HF.out wA ((hbA.block _ (heap_lt hd1)).trans hd1)) | exact HF.out wA ((hbA.block _ (heap_lt hd1)).trans hd1) | exact x0 | go_keep)
    ((first | (go_at_call 37
               refine (HL.out _ _ _ (HV1.out.on (Below.refl _ _).drew)).mono ?_
               rintro e wA ⟨v', rfl, hv', hbA⟩
               obtain ⟨ao', cap', rfl, hc1', hc2'⟩ := hv'.form
               have fr2 : wA.heap[w.heap.size + 1]? = some (.cells #[.int .i64 0, .int .i64 0, .string ⟨#[]⟩, .int .i64 0, .slice none 0 0] 45) := (hbA.block _ (heap_lt hd2)).trans hd2
               have f0 : wA.frozen? ⟨w.heap.size + 1, 0, none⟩ = false := Lib.frozen_of_heap fr2 0
               have f1 : wA.frozen? ⟨w.heap.size + 1, 1, none⟩ = false := Lib.frozen_of_heap fr2 1
               have f2 : wA.frozen? ⟨w.heap.size + 1, 2, none⟩ = false := Lib.frozen_of_heap fr2 2
               have f3 : wA.frozen? ⟨w.heap.size + 1, 3, none⟩ = false := Lib.frozen_of_heap fr2 3
               have f4 : wA.frozen? ⟨w.heap.size + 1, 4, none⟩ = false := Lib.frozen_of_heap fr2 4
               have c0 : wA.cell? ⟨w.heap.size + 1, 0, none⟩ = some (.int .i64 0) := by rw [Lib.cell_of_heap fr2]; rfl
               have c1 : wA.cell? ⟨w.heap.size + 1, 1, none⟩ = some (.int .i64 0) := by rw [Lib.cell_of_heap fr2]; rfl
               have c2 : wA.cell? ⟨w.heap.size + 1, 2, none⟩ = some (.string ⟨#[]⟩) := by rw [Lib.cell_of_heap fr2]; rfl
               have c3 : wA.cell? ⟨w.heap.size + 1, 3, none⟩ = some (.int .i64 0) := by rw [Lib.cell_of_heap fr2]; rfl
               have c4 : wA.cell? ⟨w.heap.size + 1, 4, none⟩ = some (.slice none 0 0) := by rw [Lib.cell_of_heap fr2]; rfl)))
  have hs5 := set5 (.int .i64 k) (.int .i64 p) (.string n) (.int .i64 m) (.slice ao' l.length cap') fr2
  have ho5 := fun j hj => set5_other (w := wA) (N := w.heap.size + 1) (.int .i64 k) (.int .i64 p) (.string n) (.int .i64 m) (.slice ao' l.length cap') j hj
  have hbd : Below w.heap.size w W.drew := hb1.drew
  have hb5 := (((((hbd.trans (hbA.mono hbd.size)).setCell (p := ⟨w.heap.size + 1, 0, none⟩) (Nat.le_succ _) (.int .i64 k)).setCell (p := ⟨w.heap.size + 1, 1, none⟩) (Nat.le_succ _) (.int .i64 p)).setCell (p := ⟨w.heap.size + 1, 2, none⟩) (Nat.le_succ _) (.string n)).setCell (p := ⟨w.heap.size + 1, 3, none⟩) (Nat.le_succ _) (.int .i64 m)).setCell (p := ⟨w.heap.size + 1, 4, none⟩) (Nat.le_succ _) (.slice ao' l.length cap')
  have hsz5 : (((((wA.setCell ⟨w.heap.size + 1, 0, none⟩ (.int .i64 k)).setCell ⟨w.heap.size + 1, 1, none⟩ (.int .i64 p)).setCell ⟨w.heap.size + 1, 2, none⟩ (.string n)).setCell ⟨w.heap.size + 1, 3, none⟩ (.int .i64 m)).setCell ⟨w.heap.size + 1, 4, none⟩ (.slice ao' l.length cap')).heap.size = wA.heap.size := by simp
  generalize ((((wA.setCell ⟨w.heap.size + 1, 0, none⟩ (.int .i64 k)).setCell ⟨w.heap.size + 1, 1, none⟩ (.int .i64 p)).setCell ⟨w.heap.size + 1, 2, none⟩ (.string n)).setCell ⟨w.heap.size + 1, 3, none⟩ (.int .i64 m)).setCell ⟨w.heap.size + 1, 4, none⟩ (.slice ao' l.length cap') = W5 at hs5 ho5 hb5 hsz5 ⊢
  have hdz : W.drew.heap.size = w.heap.size + 2 := hsz
  have hfin : IsPas W5 (Own w W5) (.slice ao' l.length cap') l := (hv'.stay (fun b hb _ => ho5 b (by have := hb.1; omega))).mono (fun b hb => ⟨by have := hb.1; omega, by have := hb.2; omega⟩)
  have HFin := Lib.hid hfin
  have r0 : W5.cell? ⟨w.heap.size + 1, 0, none⟩ = some (.int .i64 k) := by rw [Lib.cell_of_heap hs5]; rfl
  have r1 : W5.cell? ⟨w.heap.size + 1, 1, none⟩ = some (.int .i64 p) := by rw [Lib.cell_of_heap hs5]; rfl
  have r2 : W5.cell? ⟨w.heap.size + 1, 2, none⟩ = some (.string n) := by rw [Lib.cell_of_heap hs5]; rfl
  have r3 : W5.cell? ⟨w.heap.size + 1, 3, none⟩ = some (.int .i64 m) := by rw [Lib.cell_of_heap hs5]; rfl
  have r4 : W5.cell? ⟨w.heap.size + 1, 4, none⟩ = some (.slice ao' l.length cap') := by rw [Lib.cell_of_heap hs5]; rfl
  clear fr2 f0 f1 f2 f3 f4 c0 c1 c2 c3 c4 hv' hfin hs5 ho5
  go_wp2
  exact bodyPost_ret (v := .agg #[.int .i64 k, .int .i64 p, .string n, .int .i64 m, .slice ao' l.length cap']) (by simp [results, Tryz.results13, go_sem, *]) rfl ⟨_, rfl, HFin.out, hb5⟩
end Go.Proofs.YtkdhoelabomgkaaGreatDoor
