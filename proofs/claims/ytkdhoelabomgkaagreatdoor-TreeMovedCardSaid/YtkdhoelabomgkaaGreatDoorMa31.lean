/- Texts of this proof, joined: KDecls, KSame. No condition. -/
import Derived.Test.YtkdhoelabomgkaaGreatDoorMa30
import Derived.Test.YtkdhoelabomgkaaGreatDoorMa28
import Derived.Test.YtkdhoelabomgkaaGreatDoorMa29
import Derived.Test.YtkdhoelabomgkaaGreatDoorMa12
/-
  Layer 3, the program's side: declarations, held against each other, where parts are put off: those that are the same.
-/
namespace Go.Proofs.YtkdhoelabomgkaaGreatDoor
set_option linter.unusedVariables false
open Go.ChangeShapes Go.WideShapes Go.ChangeAt Go.RowKit

set_option maxHeartbeats 1600000 in
set_option maxRecDepth 100000 in
theorem decls_stepK (h : Nat) (lev : Int) (xk xp yp : Int) (xn : ByteArray) (xvs yvs : List ByteArray) (xcs ycs : List Co) (xt yt : Ty) (xps yps : List Pa) (xe ye : Ex)
    (q1 : Tx.sames xvs yvs = true) (q2 : Co.sames xcs ycs = true) (q4 : Pa.sames xps yps = true)
    (hc : ∀ (k : Nat) (x y : Co), xcs[k]? = some x → ycs[k]? = some y → HoldsCK h lev x y) (ht : HoldsTK h lev xt yt) (hp : ∀ (k : Nat) (x y : Pa), xps[k]? = some x → yps[k]? = some y → HoldsPK h lev x y) (he : HoldsEK h lev xe ye) :
    HoldsDK h lev (.mk xk xp xn xvs xcs xt xps xe) (.mk xk yp xn yvs ycs yt yps ye) := by
  intro a b w n ho hn hba hbb ha hb
  have hn : n + (xvs.length + Co.nds xcs + xt.nd + Pa.nds xps + xe.nd + 1) ≤ 1000000 := by unfold De.nd at hn; exact hn
  have hhi := ho.hi
  obtain ⟨c0, _, c2, c2', ⟨a3, b3, c3, _, _, x3⟩, ⟨a4, b4, c4, _, _, x4⟩, x5, ⟨a9, b9, c9, _, _, x9⟩, x10⟩ := ha.cells
  obtain ⟨d0, _, d2, d2', ⟨r3, s3, d3, _, _, y3⟩, ⟨r4, s4, d4, _, _, y4⟩, y5, ⟨r9, s9, d9, _, _, y9⟩, y10⟩ := hb.cells
  have f1 : ∀ V : World, Kp h w V → HoldOk h n V → Calls Tryz.prog 88 #[.slice a3 xvs.length b3, .slice r3 yvs.length s3, .int .i64 lev, .func (.func 89) #[] #[]] V fun e w' => e = .returned (.bool true) ∧ Kp h w w' ∧ HoldOk h n w' := fun V hK hO => (listX lev xvs yvs (fun k t u _ _ => tx_holds lev t u) _ _ _ _ V ⟨IsC.stay (hK.low hhi.1) _ _ x3.out⟩ ⟨IsC.stay (hK.low hhi.1) _ _ y3.out⟩).mono (fun e w' hq => ⟨by rw [hq.1, q1], hK.trans (Kp.of_below hO.hi.2 hq.2), hO.on hq.2⟩)
  have C1 := Lib.hid f1
  have f2 : ∀ V : World, Kp h w V → HoldOk h n V → Calls Tryz.prog 90 #[.slice a4 xcs.length b4, .slice r4 ycs.length s4, .int .i64 lev, .func (.func 91) #[.pointer (some ⟨h, 0, none⟩)] #[]] V fun e w' => e = .returned (.bool true) ∧ Kp h w w' ∧ HoldOk h (n + Co.nds xcs) w' := fun V hK hO => (listCK h lev xcs ycs q2 hc _ _ V n hO (by omega) ⟨IsC.stay (hK.low hhi.1) _ _ x4.out⟩ ⟨IsC.stay (hK.low hhi.1) _ _ y4.out⟩).mono (fun e w' hq => ⟨hq.1, hK.trans hq.2.1, hq.2.2⟩)
  have C2 := Lib.hid f2
  have f3 : ∀ V : World, Kp h w V → HoldOk h (n + Co.nds xcs) V → Calls Tryz.prog 46 #[.pointer (some ⟨h, 0, none⟩), .pointer (some (a.add 5)), .pointer (some (b.add 5)), .int .i64 lev] V fun e w' => e = .returned (.bool true) ∧ Kp h w w' ∧ HoldOk h ((n + Co.nds xcs) + xt.nd) w' := fun V hK hO => (ht _ _ V _ hO (by omega) (by rw [add_block2]; exact hba) (by rw [add_block2]; exact hbb) ⟨IsRow.stay (hK.low hhi.1) _ _ (by rw [add_block2]; exact hba) x5.out⟩ ⟨IsRow.stay (hK.low hhi.1) _ _ (by rw [add_block2]; exact hbb) y5.out⟩).mono (fun e w' hq => ⟨hq.1, hK.trans hq.2.1, hq.2.2⟩)
  rw [add_off _ _ (by decide), add_off _ _ (by decide)] at f3
  have C3 := Lib.hid f3
  have f4 : ∀ V : World, Kp h w V → HoldOk h ((n + Co.nds xcs) + xt.nd) V → Calls Tryz.prog 81 #[.slice a9 xps.length b9, .slice r9 yps.length s9, .int .i64 lev, .func (.func 43) #[.pointer (some ⟨h, 0, none⟩)] #[]] V fun e w' => e = .returned (.bool true) ∧ Kp h w w' ∧ HoldOk h (((n + Co.nds xcs) + xt.nd) + Pa.nds xps) w' := fun V hK hO => (listPK h lev xps yps q4 hp _ _ V _ hO (by omega) ⟨IsC.stay (hK.low hhi.1) _ _ x9.out⟩ ⟨IsC.stay (hK.low hhi.1) _ _ y9.out⟩).mono (fun e w' hq => ⟨hq.1, hK.trans hq.2.1, hq.2.2⟩)
  have C4 := Lib.hid f4
  have f5 : ∀ V : World, Kp h w V → HoldOk h (((n + Co.nds xcs) + xt.nd) + Pa.nds xps) V → Calls Tryz.prog 47 #[.pointer (some ⟨h, 0, none⟩), .pointer (some (a.add 10)), .pointer (some (b.add 10)), .int .i64 lev] V fun e w' => e = .returned (.bool true) ∧ Kp h w w' ∧ HoldOk h ((((n + Co.nds xcs) + xt.nd) + Pa.nds xps) + xe.nd) w' := fun V hK hO => (he _ _ V _ hO (by omega) (by rw [add_block2]; exact hba) (by rw [add_block2]; exact hbb) ⟨IsRow.stay (hK.low hhi.1) _ _ (by rw [add_block2]; exact hba) x10.out⟩ ⟨IsRow.stay (hK.low hhi.1) _ _ (by rw [add_block2]; exact hbb) y10.out⟩).mono (fun e w' hq => ⟨hq.1, hK.trans hq.2.1, hq.2.2⟩)
  rw [add_off _ _ (by decide), add_off _ _ (by decide)] at f5
  have C5 := Lib.hid f5
  have HF : Hid (∀ V : World, Kp h w V → V.cell? a = some (.int .i64 xk) ∧ V.cell? ⟨a.block, a.off + 2, none⟩ = some (.string xn) ∧ V.cell? ⟨a.block, a.off + 3, none⟩ = some (.slice a3 xvs.length b3) ∧ V.cell? ⟨a.block, a.off + 4, none⟩ = some (.slice a4 xcs.length b4) ∧ V.cell? ⟨a.block, a.off + 9, none⟩ = some (.slice a9 xps.length b9) ∧ V.cell? b = some (.int .i64 xk) ∧ V.cell? ⟨b.block, b.off + 2, none⟩ = some (.string xn) ∧ V.cell? ⟨b.block, b.off + 3, none⟩ = some (.slice r3 yvs.length s3) ∧ V.cell? ⟨b.block, b.off + 4, none⟩ = some (.slice r4 ycs.length s4) ∧ V.cell? ⟨b.block, b.off + 9, none⟩ = some (.slice r9 yps.length s9)) := Lib.hid (fun V hV => by
    have hlo : ∀ x : Addr, x.block < h → arr h w ≠ some x.block := fun x hx e => by
      have := (hhi.1 _ e).1
      omega
    exact ⟨hV.cell (by show a.block ≠ h; omega) (hlo a hba) c0, hV.cell (by show a.block ≠ h; omega) (hlo a hba) c2, hV.cell (by show a.block ≠ h; omega) (hlo a hba) c3, hV.cell (by show a.block ≠ h; omega) (hlo a hba) c4, hV.cell (by show a.block ≠ h; omega) (hlo a hba) c9, hV.cell (by show b.block ≠ h; omega) (hlo b hbb) d0, hV.cell (by show b.block ≠ h; omega) (hlo b hbb) d2, hV.cell (by show b.block ≠ h; omega) (hlo b hbb) d3, hV.cell (by show b.block ≠ h; omega) (hlo b hbb) d4, hV.cell (by show b.block ≠ h; omega) (hlo b hbb) d9⟩)
  have HW2 := Lib.hid (And.intro (Kp.of_below hhi.2 ((Below.refl _ _).drew : Below w.heap.size w w.drew)) (ho.on ((Below.refl _ _).drew : Below w.heap.size w w.drew)))
  clear ha hb x3 x4 x5 x9 x10 y3 y4 y5 y9 y10 f1 f2 f3 f4 f5 c0 c2 c3 c4 c9 d0 d2 d3 d4 d9 hhi ho hn hba hbb q1 q2 q4 hc ht hp he
  go_enter Tryz.func49, Tryz.ntmps49
  go_wp2
  simp only [List.append_eq, List.cons_append, List.nil_append]
  refine wp_region_plan [(30, 3), (11, 3), (8, 3), (11, 3), (8, 3)] (by kernel_rfl) (by kernel_rfl) ?_
  change Wrapped (wpPlan _ _ _ _ _ _ w.drew)
  generalize w.drew = w2 at HW2 ⊢
  obtain ⟨c0, c2, c3, c4, c9, d0, d2, d3, d4, d9⟩ := HF.out w2 HW2.out.1
  refine plan_step ?_
  simp only [List.take_succ_cons, List.take_zero, List.drop_succ_cons, List.drop_zero, Nat.reduceAdd]
  repeat (refine wst_step (fun K hK => ?_); go_simp; refine hK _ ?_; clear hK K)
  refine wst_nil ?_
  intro K hK
  have HK := Lib.hid hK
  clear hK
  go_wp2_with fail
  refine (C1.out w2 HW2.out.1 HW2.out.2).mono ?_
  rintro e w3 ⟨rfl, hw3⟩
  have HW3 := Lib.hid hw3
  clear hw3
  go_wp2
  refine HK.out _ _ ?_
  clear HK K c0 c2 c3 c4 c9 d0 d2 d3 d4 d9
  obtain ⟨c0, c2, c3, c4, c9, d0, d2, d3, d4, d9⟩ := HF.out w3 HW3.out.1
  refine plan_step ?_
  simp only [List.take_succ_cons, List.take_zero, List.drop_succ_cons, List.drop_zero, Nat.reduceAdd]
  repeat (refine wst_step (fun K hK => ?_); go_simp; refine hK _ ?_; clear hK K)
  refine wst_nil ?_
  intro K hK
  have HK := Lib.hid hK
  clear hK
  go_wp2_with fail
  refine (C2.out w3 HW3.out.1 HW3.out.2).mono ?_
  rintro e w4 ⟨rfl, hw4⟩
  have HW4 := Lib.hid hw4
  clear hw4
  go_wp2
  refine HK.out _ _ ?_
  clear HK K c0 c2 c3 c4 c9 d0 d2 d3 d4 d9
  obtain ⟨c0, c2, c3, c4, c9, d0, d2, d3, d4, d9⟩ := HF.out w4 HW4.out.1
  refine plan_step ?_
  simp only [List.take_succ_cons, List.take_zero, List.drop_succ_cons, List.drop_zero, Nat.reduceAdd]
  repeat (refine wst_step (fun K hK => ?_); go_simp; refine hK _ ?_; clear hK K)
  refine wst_nil ?_
  intro K hK
  have HK := Lib.hid hK
  clear hK
  go_wp2_with fail
  refine (C3.out w4 HW4.out.1 HW4.out.2).mono ?_
  rintro e w5 ⟨rfl, hw5⟩
  have HW5 := Lib.hid hw5
  clear hw5
  go_wp2
  refine HK.out _ _ ?_
  clear HK K c0 c2 c3 c4 c9 d0 d2 d3 d4 d9
  obtain ⟨c0, c2, c3, c4, c9, d0, d2, d3, d4, d9⟩ := HF.out w5 HW5.out.1
  refine plan_step ?_
  simp only [List.take_succ_cons, List.take_zero, List.drop_succ_cons, List.drop_zero, Nat.reduceAdd]
  repeat (refine wst_step (fun K hK => ?_); go_simp; refine hK _ ?_; clear hK K)
  refine wst_nil ?_
  intro K hK
  have HK := Lib.hid hK
  clear hK
  go_wp2_with fail
  refine (C4.out w5 HW5.out.1 HW5.out.2).mono ?_
  rintro e w6 ⟨rfl, hw6⟩
  have HW6 := Lib.hid hw6
  clear hw6
  go_wp2
  refine HK.out _ _ ?_
  clear HK K c0 c2 c3 c4 c9 d0 d2 d3 d4 d9
  obtain ⟨c0, c2, c3, c4, c9, d0, d2, d3, d4, d9⟩ := HF.out w6 HW6.out.1
  refine plan_step ?_
  simp only [List.take_succ_cons, List.take_zero, List.drop_succ_cons, List.drop_zero, Nat.reduceAdd]
  repeat (refine wst_step (fun K hK => ?_); go_simp; refine hK _ ?_; clear hK K)
  refine wst_nil ?_
  intro K hK
  have HK := Lib.hid hK
  clear hK
  go_wp2_with fail
  refine (C5.out w6 HW6.out.1 HW6.out.2).mono ?_
  rintro e w7 ⟨rfl, hw7⟩
  have HW7 := Lib.hid hw7
  clear hw7
  go_wp2
  refine HK.out _ _ ?_
  clear HK K c0 c2 c3 c4 c9 d0 d2 d3 d4 d9
  refine plan_end ?_
  go_wp2
  go_ret
  exact ⟨rfl, HW7.out.1, HW7.out.2.mono (by unfold De.nd; omega)⟩
end Go.Proofs.YtkdhoelabomgkaaGreatDoor
/-
  Layer 3, the program's side: trees held against each other where parts are put off: the whole walk of trees that are the same; SameExpr of trees of fewer than six hundred parts that are the same.
-/
namespace Go.Proofs.YtkdhoelabomgkaaGreatDoor
set_option linter.unusedVariables false
open Go.ChangeShapes Go.WideShapes Go.ChangeAt Go.RowKit

theorem Ty.sames_get {l m : List Ty} (h : Ty.sames l m = true) {k : Nat} {x y : Ty} (hx : l[k]? = some x) (hy : m[k]? = some y) : x.same y = true := by
  cases hq : x.same y with
  | true => rfl
  | false => rw [Ty.sames_not l m k x y hx hy hq] at h; cases h
theorem Pa.sames_get {l m : List Pa} (h : Pa.sames l m = true) {k : Nat} {x y : Pa} (hx : l[k]? = some x) (hy : m[k]? = some y) : x.same y = true := by
  cases hq : x.same y with
  | true => rfl
  | false => rw [Pa.sames_not l m k x y hx hy hq] at h; cases h
theorem Ex.sames_get {l m : List Ex} (h : Ex.sames l m = true) {k : Nat} {x y : Ex} (hx : l[k]? = some x) (hy : m[k]? = some y) : x.same y = true := by
  cases hq : x.same y with
  | true => rfl
  | false => rw [Ex.sames_not l m k x y hx hy hq] at h; cases h
theorem Al.sames_get {l m : List Al} (h : Al.sames l m = true) {k : Nat} {x y : Al} (hx : l[k]? = some x) (hy : m[k]? = some y) : x.same y = true := by
  cases hq : x.same y with
  | true => rfl
  | false => rw [Al.sames_not l m k x y hx hy hq] at h; cases h
theorem De.sames_get {l m : List De} (h : De.sames l m = true) {k : Nat} {x y : De} (hx : l[k]? = some x) (hy : m[k]? = some y) : x.same y = true := by
  cases hq : x.same y with
  | true => rfl
  | false => rw [De.sames_not l m k x y hx hy hq] at h; cases h
theorem Co.sames_get {l m : List Co} (h : Co.sames l m = true) {k : Nat} {x y : Co} (hx : l[k]? = some x) (hy : m[k]? = some y) : x.same y = true := by
  cases hq : x.same y with
  | true => rfl
  | false => rw [Co.sames_not l m k x y hx hy hq] at h; cases h
theorem ty_sameK (h : Nat) : ∀ (n : Nat) (lev : Int) (t u : Ty), 0 ≤ lev → lev ≤ 401 → lev + n ≤ 601 → t.nd ≤ n → t.same u = true → HoldsTK h lev t u
  | 0, lev, .mk _ _ _ _, _, h0, h1, h4, hn, hs => by unfold Ty.nd at hn; omega
  | n + 1, lev, .mk xk xp xn xl, .mk yk yp yn yl, h0, h1, h4, hn, hs => by
    push_cast at h4
    by_cases h5 : lev = 401
    · subst h5
      exact types_offK h _ _ hs (by omega)
    · have hq := hs
      unfold Ty.same at hq
      simp only [Bool.and_eq_true] at hq
      unfold Ty.nd at hn
      exact types_stepK h lev h0 (by omega) _ _ hs fun k x y hx hy => ty_sameK h n (lev + 1) x y (by omega) (by omega) (by omega) (by have hx : xl[k]? = some x := hx; have := Ty.nds_get xl k x hx; omega) (Ty.sames_get hq.2.2 hx hy)
theorem pa_sameK (h : Nat) : ∀ (n : Nat) (lev : Int) (t u : Pa), 0 ≤ lev → lev ≤ 401 → lev + n ≤ 601 → t.nd ≤ n → t.same u = true → HoldsPK h lev t u
  | 0, lev, .mk _ _ _ _ _, _, h0, h1, h4, hn, hs => by unfold Pa.nd at hn; omega
  | n + 1, lev, .mk xk xp xn xm xl, .mk yk yp yn ym yl, h0, h1, h4, hn, hs => by
    push_cast at h4
    by_cases h5 : lev = 401
    · subst h5
      exact pats_offK h _ _ hs (by omega)
    · have hq := hs
      unfold Pa.same at hq
      simp only [Bool.and_eq_true] at hq
      unfold Pa.nd at hn
      exact pats_stepK h lev h0 (by omega) _ _ hs fun k x y hx hy => pa_sameK h n (lev + 1) x y (by omega) (by omega) (by omega) (by have hx : xl[k]? = some x := hx; have := Pa.nds_get xl k x hx; omega) (Pa.sames_get hq.2.2.2 hx hy)
theorem name_eq {a b : ByteArray} (h : (a.data.toList == b.data.toList) = true) : a = b := by
  by_cases hq : a = b
  · exact hq
  · rw [name_ne hq] at h; cases h
theorem ex_sameK (h : Nat) : ∀ (n : Nat) (lev : Int) (t u : Ex), 0 ≤ lev → lev ≤ 401 → lev + n ≤ 601 → t.nd ≤ n → t.same u = true → HoldsEK h lev t u
  | 0, lev, .mk _ _ _ _ _ _ _ _, _, h0, h1, h4, hn, hs => by unfold Ex.nd at hn; omega
  | n + 1, lev, .mk xk xp xn xm xl xps xal xds, .mk yk yp yn ym yl yps yal yds, h0, h1, h4, hn, hs => by
    push_cast at h4
    by_cases h5 : lev = 401
    · subst h5
      exact exprs_offK h _ _ hs (by omega)
    · unfold Ex.same at hs
      simp only [Bool.and_eq_true, beq_iff_eq (α := Int)] at hs
      obtain ⟨rfl, q2, rfl, s1, s2, s3, s4⟩ := hs
      have q2 := name_eq q2
      subst q2
      unfold Ex.nd at hn
      refine exprs_stepK h lev h0 (by omega) xk xp xm yp xn xl yl xps yps xal yal xds yds s1 s2 s3 s4 (fun k t u ht hu => ?_) (fun k t u ht hu => ?_) (fun k t u ht hu => ?_) (fun k t u ht hu => ?_)
      · exact ex_sameK h n (lev + 1) t u (by omega) (by omega) (by omega) (by have := Ex.nds_get xl k t ht; omega) (Ex.sames_get s1 ht hu)
      · exact pa_sameK h n (lev + 1) t u (by omega) (by omega) (by omega) (by have := Pa.nds_get xps k t ht; omega) (Pa.sames_get s2 ht hu)
      · have h1 := Al.nds_get xal k t ht
        have hs := Al.sames_get s3 ht hu
        obtain ⟨p, e⟩ := t
        obtain ⟨q, f⟩ := u
        unfold Al.nd at h1
        unfold Al.same at hs
        simp only [Bool.and_eq_true] at hs
        exact alts_stepK h (lev + 1) p q e f (pa_sameK h n (lev + 1) p q (by omega) (by omega) (by omega) (by omega) hs.1) (ex_sameK h n (lev + 1) e f (by omega) (by omega) (by omega) (by omega) hs.2)
      · have h1 := De.nds_get xds k t ht
        have hs := De.sames_get s4 ht hu
        obtain ⟨d1, d2, d3, d4, d5, d6, d7, d8⟩ := t
        obtain ⟨e1, e2, e3, e4, e5, e6, e7, e8⟩ := u
        unfold De.nd at h1
        unfold De.same at hs
        simp only [Bool.and_eq_true, beq_iff_eq (α := Int)] at hs
        obtain ⟨rfl, q2, r1, r2, r3, r4, r5⟩ := hs
        have q2 := name_eq q2
        subst q2
        refine decls_stepK h (lev + 1) d1 d2 e2 d3 d4 e4 d5 e5 d6 e6 d7 e7 d8 e8 r1 r2 r4 (fun k x y hx hy => ?_) (ty_sameK h n (lev + 1) d6 e6 (by omega) (by omega) (by omega) (by omega) r3) (fun k x y hx hy => ?_) (ex_sameK h n (lev + 1) d8 e8 (by omega) (by omega) (by omega) (by omega) r5)
        · have h2 := Co.nds_get d5 k x hx
          have hs := Co.sames_get r2 hx hy
          refine cons_stepK h (lev + 1) x y hs fun i p q hp hq => ty_sameK h n (lev + 1) p q (by omega) (by omega) (by omega) (by have := Ty.nds_get x.args i p hp; omega) ?_
          unfold Co.same at hs
          simp only [Bool.and_eq_true] at hs
          exact Ty.sames_get hs.2 hp hq
        · exact pa_sameK h n (lev + 1) x y (by omega) (by omega) (by omega) (by have := Pa.nds_get d7 k x hx; omega) (Pa.sames_get r4 hx hy)
set_option maxHeartbeats 800000 in
set_option maxRecDepth 100000 in
theorem types_yes (h c4 c5 c6 : Nat) (a b : Addr) (w : World) (t u : Ty) (hs : t.same u = true) (hn : t.nd ≤ 200) (e4 : w.cell? ⟨c4, 0, none⟩ = some (.pointer (some ⟨h, 0, none⟩))) (e5 : w.cell? ⟨c5, 0, none⟩ = some (.pointer (some a))) (e6 : w.cell? ⟨c6, 0, none⟩ = some (.pointer (some b))) (ha : IsTy w (fun b => b < h) a t) (hb : IsTy w (fun b => b < h) b u) :
    Calls Tryz.prog 82 #[.pointer (some ⟨c4, 0, none⟩), .pointer (some ⟨c5, 0, none⟩), .pointer (some ⟨c6, 0, none⟩)] w fun e w' => e = .returned (.bool true) ∧ Below w.heap.size w w' := by
  have HC := Lib.hid (ty_same ⟨h, 0, none⟩ 200 1 t u (by omega) (by omega) (.inl hn) _ _ a b w ha hb)
  rw [hs] at HC
  clear ha hb hn hs
  go_enter Tryz.func82, Tryz.ntmps82
  go_wp2_with fail
  refine HC.out.mono ?_
  rintro e w' ⟨rfl, hb⟩
  go_wp2
  go_ret
  exact ⟨rfl, hb⟩
set_option maxHeartbeats 800000 in
set_option maxRecDepth 100000 in
theorem pats_yes (h c4 c5 c6 : Nat) (a b : Addr) (w : World) (t u : Pa) (hs : t.same u = true) (hn : t.nd ≤ 200) (e4 : w.cell? ⟨c4, 0, none⟩ = some (.pointer (some ⟨h, 0, none⟩))) (e5 : w.cell? ⟨c5, 0, none⟩ = some (.pointer (some a))) (e6 : w.cell? ⟨c6, 0, none⟩ = some (.pointer (some b))) (ha : IsPa w (fun b => b < h) a t) (hb : IsPa w (fun b => b < h) b u) :
    Calls Tryz.prog 80 #[.pointer (some ⟨c4, 0, none⟩), .pointer (some ⟨c5, 0, none⟩), .pointer (some ⟨c6, 0, none⟩)] w fun e w' => e = .returned (.bool true) ∧ Below w.heap.size w w' := by
  have HC := Lib.hid (pa_same ⟨h, 0, none⟩ 200 1 t u (by omega) (by omega) (.inl hn) _ _ a b w ha hb)
  rw [hs] at HC
  clear ha hb hn hs
  go_enter Tryz.func80, Tryz.ntmps80
  go_wp2_with fail
  refine HC.out.mono ?_
  rintro e w' ⟨rfl, hb⟩
  go_wp2
  go_ret
  exact ⟨rfl, hb⟩
set_option maxHeartbeats 800000 in
set_option maxRecDepth 100000 in
theorem exprs_yes (h c4 c5 c6 : Nat) (a b : Addr) (w : World) (t u : Ex) (hs : t.same u = true) (hn : t.nd ≤ 200) (e4 : w.cell? ⟨c4, 0, none⟩ = some (.pointer (some ⟨h, 0, none⟩))) (e5 : w.cell? ⟨c5, 0, none⟩ = some (.pointer (some a))) (e6 : w.cell? ⟨c6, 0, none⟩ = some (.pointer (some b))) (ha : IsEx w (fun b => b < h) a t) (hb : IsEx w (fun b => b < h) b u) :
    Calls Tryz.prog 84 #[.pointer (some ⟨c4, 0, none⟩), .pointer (some ⟨c5, 0, none⟩), .pointer (some ⟨c6, 0, none⟩)] w fun e w' => e = .returned (.bool true) ∧ Below w.heap.size w w' := by
  have HC := Lib.hid (ex_same ⟨h, 0, none⟩ 200 1 t u (by omega) (by omega) (.inl hn) _ _ a b w ha hb)
  rw [hs] at HC
  clear ha hb hn hs
  go_enter Tryz.func84, Tryz.ntmps84
  go_wp2_with fail
  refine HC.out.mono ?_
  rintro e w' ⟨rfl, hb⟩
  go_wp2
  go_ret
  exact ⟨rfl, hb⟩
/-- the last of a row is taken off -/
theorem own_pop1 {w : World} {B : Nat} {T : TypeId} {v : Option Addr} {n cap : Nat} {xs : List Value} {a : Value} (h : w.ownsRow B T 1 (.slice v (n + 1) cap) (n + 1) (xs ++ [a])) (hx : xs.length = n) :
    ∃ g, v = some ⟨g, 0, none⟩ ∧ B ≤ g ∧ g < w.heap.size ∧ cap ≤ maxLen ∧ n + 1 ≤ cap ∧ w.cell? ⟨g, n, none⟩ = some a ∧ w.ownsRow B T 1 (.slice (some ⟨g, 0, none⟩) n cap) n xs := by
  rcases h.2 with ⟨h1, h2⟩ | ⟨g, cap', cur, hv, h3, h4, h5, h6, h7, h8⟩
  · omega
  · injection hv with e1 e2 e3
    subst e1 e3
    refine ⟨g, rfl, h3, heap_lt h4, h6, h5, ?_, by omega, .inr ⟨g, cap, cur, rfl, h3, h4, by omega, h6, h7, ?_⟩⟩
    · rw [Lib.cell_of_heap h4]
      have h9 : (cur.toList.take ((n + 1) * 1))[n]? = (xs ++ [a])[n]? := by rw [h8]
      rw [List.getElem?_take, if_pos (by omega), List.getElem?_append_right (by omega), hx, Nat.sub_self, Array.getElem?_toList] at h9
      rw [h9]
      rfl
    · have h9 := congrArg (List.take (n * 1)) h8
      rw [List.take_take, Nat.min_eq_left (by omega)] at h9
      rw [h9, Nat.mul_one, ← hx]
      simp
set_option maxHeartbeats 1600000 in
set_option maxRecDepth 100000 in
/-- all that was put off says yes -/
theorem finish_allK (h n : Nat) (w : World) (ho : HoldOk h n w) :
    Calls Tryz.prog 44 #[.pointer (some ⟨h, 0, none⟩)] w fun e w' => e = .returned (.bool true) ∧ Kp h w w' := by
  have HO := Lib.hid ho
  clear ho
  go_enter Tryz.func44, Tryz.ntmps44
  go_wp2
  go_loopg [] n (fun k wr => Hid (HoldOk h k wr ∧ Kp h w wr))
  case atStart => exact Lib.hid ⟨HO.out, Kp.refl _ _⟩
  case round =>
    have HR := hrel
    clear hrel
    have hhi := HR.out.1.hi
    obtain ⟨lv, m, vals, h1, hown, hm, hall⟩ := HR.out.1
    have hlen : vals.length = m := by have := hown.1; omega
    obtain ⟨ao, cap, hlv⟩ := owns_form hown
    subst hlv
    have hc : wr.cell? ⟨h, 0, none⟩ = some (.slice ao m cap) := by rw [Lib.cell_of_heap h1]; rfl
    have hf : wr.frozen? ⟨h, 0, none⟩ = false := Lib.frozen_of_heap h1 0
    rcases List.eq_nil_or_concat vals with hv | ⟨rest, v, hv⟩
    · subst hv
      have hm0 : m = 0 := by simpa using hlen.symm
      subst hm0
      have HF := Lib.hid HR.out.2
      clear h1 hown hm hall hlen hf hhi
      go_wp2
      go_ret
      exact ⟨rfl, HF.out⟩
    · rw [List.concat_eq_append] at hv
      subst hv
      obtain ⟨k, rfl⟩ : ∃ k, m = k + 1 := ⟨rest.length, by simp at hlen; omega⟩
      obtain ⟨g, rfl, hgB, hgz, hcm, hcn, l0, hown2⟩ := own_pop1 hown (by simp at hlen; omega)
      have hml : (k : Int) + 1 ≤ 9223372036854775807 := by unfold maxLen at hcm; omega
      obtain ⟨f, c4, c5, c6, a, b, hve, B4, B5, B6, hba, hbb, hpair⟩ := hall v (by simp)
      subst hve
      have HH := Lib.hid h1
      have HM := Lib.hid hm
      have HAll := Lib.hid hall
      have HO2 := Lib.hid hown2
      have HB := Lib.hid (And.intro B4 (And.intro B5 B6))
      have HP := Lib.hid (And.intro hba hbb)
      have HPair := Lib.hid hpair
      have HHi := Lib.hid hhi
      clear h1 hm hall hown hown2 B4 B5 B6 hba hbb hpair hlen hhi
      have HCall : Hid (∀ X : World, Kp h wr X → Calls Tryz.prog f #[.pointer (some ⟨c4, 0, none⟩), .pointer (some ⟨c5, 0, none⟩), .pointer (some ⟨c6, 0, none⟩)] X fun e w' => e = .returned (.bool true) ∧ Below X.heap.size X w') := Lib.hid (fun X hkX => by
        have hst := hkX.low HHi.out.1
        have i4 := (HB.out.1.keep hkX).2.2
        have i5 := (HB.out.2.1.keep hkX).2.2
        have i6 := (HB.out.2.2.keep hkX).2.2
        rcases HPair.out with ⟨rfl, t, u, p1, p2, p3, p4⟩ | ⟨rfl, t, u, p1, p2, p3, p4⟩ | ⟨rfl, t, u, p1, p2, p3, p4⟩
        · exact types_yes h c4 c5 c6 a b X t u p1 p2 i4 i5 i6 ⟨IsRow.stay hst _ _ HP.out.1 p3.out⟩ ⟨IsRow.stay hst _ _ HP.out.2 p4.out⟩
        · exact pats_yes h c4 c5 c6 a b X t u p1 p2 i4 i5 i6 ⟨IsRow.stay hst _ _ HP.out.1 p3.out⟩ ⟨IsRow.stay hst _ _ HP.out.2 p4.out⟩
        · exact exprs_yes h c4 c5 c6 a b X t u p1 p2 i4 i5 i6 ⟨IsRow.stay hst _ _ HP.out.1 p3.out⟩ ⟨IsRow.stay hst _ _ HP.out.2 p4.out⟩)
      have hff : f = 82 ∨ f = 80 ∨ f = 84 := by
        rcases HPair.out with ⟨e, _⟩ | ⟨e, _⟩ | ⟨e, _⟩
        · exact .inl e
        · exact .inr (.inl e)
        · exact .inr (.inr e)
      clear HPair
      rcases hff with rfl | rfl | rfl
      all_goals
        go_wp2_with fail
        have hX1 : (wr.setCell ⟨h, 0, none⟩ (.slice (some ⟨g, 0, none⟩) k cap)).heap[h]? = some (.cells #[.slice (some ⟨g, 0, none⟩) k cap] 103 (0, 0)) := heap_setCell_same wr h 0 _ _ _ HH.out
        have hXo : ∀ j : Nat, j ≠ h → (wr.setCell ⟨h, 0, none⟩ (.slice (some ⟨g, 0, none⟩) k cap)).heap[j]? = wr.heap[j]? := fun j hj => heap_setCell_other _ _ _ _ hj
        have hXz : (wr.setCell ⟨h, 0, none⟩ (.slice (some ⟨g, 0, none⟩) k cap)).heap.size = wr.heap.size := by simp
        have hXr : (wr.setCell ⟨h, 0, none⟩ (.slice (some ⟨g, 0, none⟩) k cap)).os = wr.os ∧ (wr.setCell ⟨h, 0, none⟩ (.slice (some ⟨g, 0, none⟩) k cap)).tape = wr.tape ∧ (wr.setCell ⟨h, 0, none⟩ (.slice (some ⟨g, 0, none⟩) k cap)).output = wr.output := by simp [World.setCell]
        generalize wr.setCell ⟨h, 0, none⟩ (.slice (some ⟨g, 0, none⟩) k cap) = X at hX1 hXo hXz hXr ⊢
        have hax : arr h X = arr h wr := by rw [arr_of (by rw [Lib.cell_of_heap hX1]; rfl : X.cell? ⟨h, 0, none⟩ = some (.slice (some ⟨g, 0, none⟩) k cap)), arr_of hc]; rfl
        have hkX : Kp h wr X := ⟨fun j _ h2 _ => hXo j h2, .inl hax, by omega, hXr⟩
        have hst := hkX.low HHi.out.1
        have hOX : HoldOk h k X := ⟨_, k, rest, hX1, owns_move HO2.out (fun b hb _ => hXo b (by omega)), Nat.le_refl _, fun v hv => (HAll.out v (by simp [hv])).keep hkX HHi.out.1⟩
        have HX := Lib.hid (And.intro hOX (HR.out.2.trans hkX))
        have HK := Lib.hid HM.out
        have hcall := HCall.out X hkX
        refine hcall.mono ?_
        rintro e' V ⟨rfl, hbV⟩
        have HN := Lib.hid (And.intro (HX.out.1.on hbV) (HX.out.2.trans (Kp.of_below HX.out.1.hi.2 hbV)))
        clear hX1 hXo hXz hXr hax hkX hst hOX HX hcall hbV HH HAll HO2 HB HP HCall HHi HM hc hf l0
        go_wp2
        go_roundg k
        case measure => have := HK.out; omega
        case rel => exact HN
set_option maxHeartbeats 1600000 in
set_option maxRecDepth 100000 in
theorem sameE_eq (t u : Ex) (hs : t.same u = true) (hn : t.nd ≤ 599) (P Q : Nat → Prop) (vs us : List Value) (w : World) (hvs : IsVs w (fun b => P b ∧ b < w.heap.size) t.row vs) (hus : IsVs w (fun b => Q b ∧ b < w.heap.size) u.row us) :
    Calls Tryz.prog 25 #[.agg vs.toArray, .agg us.toArray] w fun e w' => e = .returned (.bool true) ∧ Below w.heap.size w w' := by
  obtain ⟨o4, ho4⟩ : ∃ o : Obj, o = .cells vs.toArray 53 := ⟨_, rfl⟩
  obtain ⟨o5, ho5⟩ : ∃ o : Obj, o = .cells us.toArray 53 := ⟨_, rfl⟩
  obtain ⟨o6, ho6⟩ : ∃ o : Obj, o = .cells #[.slice none 0 0] 103 := ⟨_, rfl⟩
  obtain ⟨hbW, g4, g5, g6⟩ := three_boxes w o4 o5 o6
  have HW := Lib.hid (And.intro g4 (And.intro g5 g6))
  have HS := Lib.hid hs
  clear g4 g5 g6 hs
  obtain ⟨tk, tp, tn, tm, tl, tps, tal, tds⟩ := t
  obtain ⟨uk, up, un, um, ul, ups, ual, uds⟩ := u
  obtain ⟨_, a4, a5, a6, a7, b4, b5, b6, b7, rfl, _⟩ := ex_vs hvs
  obtain ⟨_, r4, r5, r6, r7, s4, s5, s6, s7, rfl, _⟩ := ex_vs hus
  have HV := Lib.hid hvs
  have HU := Lib.hid hus
  clear hvs hus
  go_enter Tryz.func25, Tryz.ntmps25
  go_wp2_with fail
  rw [← ho4, ← ho5, ← ho6]
  generalize ((w.alloc o4).alloc o5).alloc o6 = W at hbW HW ⊢
  obtain ⟨g4, g5, g6⟩ := HW.out
  subst ho4 ho5 ho6
  have hO : HoldOk (w.heap.size + 1 + 1) 0 W := ⟨_, 0, [], g6, World.ownsRow_nil _ _ _ _, Nat.le_refl _, by simp⟩
  refine (ex_sameK (w.heap.size + 1 + 1) 600 1 _ _ (by omega) (by omega) (by omega) (by omega) HS.out ⟨w.heap.size, 0, none⟩ ⟨w.heap.size + 1, 0, none⟩ W 0 hO (by omega) (by show w.heap.size < _; omega) (by show w.heap.size + 1 < _; omega) ⟨row_at (IsVs.mono (fun b hb => by have := hb.2; omega) _ _ (IsVs.on hbW _ _ HV.out)) g4⟩ ⟨row_at (IsVs.mono (fun b hb => by have := hb.2; omega) _ _ (IsVs.on hbW _ _ HU.out)) g5⟩).mono ?_
  rintro e w1 ⟨rfl, hk1, ho1⟩
  have HF := Lib.hid (And.intro hk1 ho1)
  have HHi := Lib.hid hO.hi
  clear g4 g5 g6 hk1 ho1 HW hO
  go_wp2_with fail
  refine (finish_allK _ _ _ HF.out.2).mono ?_
  rintro e w2 ⟨rfl, hk2⟩
  have hk := HF.out.1.trans hk2
  have hst := hk.low HHi.out.1
  have hbF : Below w.heap.size w w2 := ⟨hk.rest.1.trans hbW.os, hk.rest.2.1.trans hbW.tape, hk.rest.2.2.trans hbW.output, Nat.le_trans hbW.size hk.size, fun j hj => (hst j (by omega) (by have := hbW.size; omega)).trans (hbW.block j hj)⟩
  clear hk hk2 hst HF HHi
  go_wp2
  go_ret
  exact ⟨rfl, hbF⟩
end Go.Proofs.YtkdhoelabomgkaaGreatDoor
