/- Texts of this proof, joined: PListC, PCons, PAlts, PListX, PDecls0. No condition. -/
import Derived.Test.YtdiffpiapdghoaaGreatDoorSa07
import Derived.StillTailTactics
import Derived.Deep.RegionHeld3
import Derived.Test.YtdiffpiapdghoaaGreatDoorSa08
import Derived.Test.YtdiffpiapdghoaaGreatDoorSa10
/-
  Layer 3, the program's side: sameList, at one of its kinds of list, given what holds two of its parts.
-/
namespace Go.Proofs.YtdiffpiapdghoaaGreatDoor
set_option linter.unusedVariables false
open Go.ChangeShapes Go.WideShapes Go.ChangeAt Go.RowKit


/-- two parts are held against each other at this level -/
def HoldsC (h : Addr) (lev : Int) (t u : Co) : Prop := ∀ (P Q : Nat → Prop) (a b : Addr) (w : World), IsCo w P a t → IsCo w Q b u →
  Calls Tryz.prog 91 #[.pointer (some h), .pointer (some a), .pointer (some b), .int .i64 lev] w fun e w' => e = .returned (.bool (t.same u)) ∧ Below w.heap.size w w'
set_option maxHeartbeats 800000 in
set_option maxRecDepth 100000 in
theorem listC (h : Addr) (lev : Int) (sl tl : List Co) (hall : ∀ (k : Nat) (t u : Co), sl[k]? = some t → tl[k]? = some u → HoldsC h lev t u) (P Q : Nat → Prop) (v v' : Value) (w : World) (hs : IsCos w P v sl) (ht : IsCos w Q v' tl) :
    Calls Tryz.prog 90 #[v, v', .int .i64 lev, .func (.func 91) #[.pointer (some h)] #[]] w fun e w' => e = .returned (.bool (Co.sames sl tl)) ∧ Below w.heap.size w w' := by
  obtain ⟨ao, cap, rfl, v1, v2⟩ := hs.form
  obtain ⟨bo, cap2, rfl, u1, u2⟩ := ht.form
  have HI := Lib.hid hall
  have HS1 := Lib.hid hs
  have HT1 := Lib.hid ht
  have hlm : (sl.length : Int) ≤ 9223372036854775807 := by unfold maxLen at v2; omega
  clear hall hs ht
  by_cases hl : sl.length = tl.length
  · have q3 : ((sl.length : Int) != tl.length) = false := by rw [bne_eq_false_iff_eq]; omega
    have HLn := Lib.hid hl
    clear hl
    go_enter Tryz.func90, Tryz.ntmps90
    go_wp2
    go_loopw [17] (fun iv wr => ∃ k : Nat, k ≤ sl.length ∧ iv = .int .i64 k ∧ Hid (∀ (j : Nat) (s t : Co), j < k → sl[j]? = some s → tl[j]? = some t → (s.same t) = true) ∧ Below w.heap.size w wr) (fun iv _ => sl.length - (intOf iv).toNat)
    case atStart => exact ⟨0, Nat.zero_le _, rfl, Lib.hid (fun j s t hj => by omega), Below.refl _ _⟩
    case round =>
      obtain ⟨i, hi, rfl, H, hbw⟩ := hrel
      by_cases hlt : i < sl.length
      · have i1 : (i : Int) < sl.length := by omega
        have i2 : (i : Int) < tl.length := by have := HLn.out; omega
        obtain ⟨x, hx⟩ : ∃ x, sl[i]? = some x := ⟨sl[i], List.getElem?_eq_getElem hlt⟩
        obtain ⟨y, hy⟩ : ∃ y, tl[i]? = some y := ⟨tl[i]'(by have := HLn.out; omega), List.getElem?_eq_getElem (by have := HLn.out; omega)⟩
        obtain ⟨a, rfl, _, hrow⟩ := HS1.out.at hx
        obtain ⟨b, rfl, _, hrow'⟩ := HT1.out.at hy
        have HR := Lib.hid (hrow.on hbw)
        have HR' := Lib.hid (hrow'.on hbw)
        have HX := Lib.hid hx
        have HY := Lib.hid hy
        have HXY := Lib.hid (HI.out i x y hx hy)
        clear hrow hrow' hx hy
        go_wp2
        go_still_tail 8, (by kernel_rfl)
        change wpList _ _ _ _ _ wr.drew
        have hbd : Below wr.heap.size wr wr.drew := (Below.refl _ _).drew
        have HXA2 := Lib.hid (HR.out.on hbd)
        have HYA2 := Lib.hid (HR'.out.on hbd)
        have hbw2 := hbw.trans (hbd.mono hbw.size)
        generalize wr.drew = w2 at HXA2 HYA2 hbw2 ⊢
        go_wp2_with fail
        refine (HXY.out P Q _ _ w2 HXA2.out HYA2.out).mono ?_
        rintro e w3 ⟨rfl, hb3⟩
        have hbw3 := hbw2.trans (hb3.mono hbw2.size)
        by_cases hr : (x.same y) = true
        · rw [hr]
          have HN : Hid (∀ (j : Nat) (s t : Co), j < i + 1 → sl[j]? = some s → tl[j]? = some t → (s.same t) = true) := Lib.hid (fun j s t hj h1 h2 => by
            by_cases hji : j = i
            · subst hji
              rw [HX.out] at h1
              rw [HY.out] at h2
              cases h1; cases h2; exact hr
            · exact H.out j s t (by omega) h1 h2)
          clear hr
          go_wp2
          go_roundw
          case rel => exact ⟨i + 1, by omega, by go_num, HN, hbw3⟩
          case measure => simp [intOf]; omega
        · have hr : (x.same y) = false := by simpa using hr
          have HF : Hid (Co.sames sl tl = false) := Lib.hid (Co.sames_not sl tl i _ _ HX.out HY.out hr)
          rw [hr]
          clear hr
          go_wp2
          go_ret
          exact ⟨by rw [HF.out]; rfl, hbw3⟩
      · have i1 : ¬ (i : Int) < sl.length := by omega
        have HF : Hid (Co.sames sl tl = true) := Lib.hid (Co.sames_all sl tl HLn.out (fun j s t h1 h2 => H.out j s t (by have := (List.getElem?_eq_some_iff.1 h1).1; omega) h1 h2))
        go_wp2
        go_ret
        exact ⟨by rw [HF.out]; rfl, hbw⟩
  · have q3 : ((sl.length : Int) != tl.length) = true := by rw [bne_iff_ne]; omega
    have HE : Hid (Co.sames sl tl = false) := Lib.hid (by
      cases hq : Co.sames sl tl with
      | false => rfl
      | true => exact absurd (Co.sames_len sl tl hq) hl)
    clear hl
    go_enter Tryz.func90, Tryz.ntmps90
    go_wp2
    go_ret
    exact ⟨by rw [HE.out]; rfl, Below.refl _ _⟩

end Go.Proofs.YtdiffpiapdghoaaGreatDoor
/-
  Layer 3, the program's side: cons, held against each other.
-/
namespace Go.Proofs.YtdiffpiapdghoaaGreatDoor
set_option linter.unusedVariables false
open Go.ChangeShapes Go.WideShapes Go.ChangeAt Go.RowKit

set_option maxHeartbeats 1600000 in
set_option maxRecDepth 100000 in
theorem cons_step (h : Addr) (lev : Int) (t u : Co) (hl : ∀ (k : Nat) (x y : Ty), t.args[k]? = some x → u.args[k]? = some y → HoldsT h lev x y) : HoldsC h lev t u := by
  intro P Q a b w ha hb
  obtain ⟨xp, xn, xl⟩ := t
  obtain ⟨yp, yn, yl⟩ := u
  have HL := Lib.hid hl
  have hsame : Co.same ⟨xp, xn, xl⟩ ⟨yp, yn, yl⟩ = (xn.data.toList == yn.data.toList && Ty.sames xl yl) := rfl
  have HS := Lib.hid hsame
  obtain ⟨_, c1, c1', ca, cb, c2, _, _, hxa⟩ := ha.cells
  obtain ⟨_, d1, d1', da, db, d2, _, _, hya⟩ := hb.cells
  have HXA := Lib.hid hxa
  have HYA := Lib.hid hya
  clear hl hsame ha hb hxa hya
  go_enter Tryz.func91, Tryz.ntmps91
  go_wp2
  by_cases hn : xn = yn
  · subst hn
    have HE : Hid (Co.same ⟨xp, xn, xl⟩ ⟨yp, xn, yl⟩ = Ty.sames xl yl) := Lib.hid (by rw [HS.out]; simp)
    go_still_tail 21, (by kernel_rfl)
    change wpList _ _ _ _ _ w.drew
    have hbd : Below w.heap.size w w.drew := (Below.refl _ _).drew
    have HXA2 := Lib.hid (HXA.out.on hbd)
    have HYA2 := Lib.hid (HYA.out.on hbd)
    generalize w.drew = w2 at HXA2 HYA2 hbd ⊢
    go_wp2_with fail
    refine (listT h lev xl yl HL.out P Q _ _ w2 HXA2.out HYA2.out).mono ?_
    rintro e w3 ⟨rfl, hb3⟩
    have hbw3 := hbd.trans (hb3.mono hbd.size)
    go_wp2
    go_ret
    exact ⟨by rw [HE.out]; rfl, hbw3⟩
  · have q2 := text_ne hn
    have HE : Hid (Co.same ⟨xp, xn, xl⟩ ⟨yp, yn, yl⟩ = false) := Lib.hid (by rw [HS.out, ← text_eq, q2]; simp)
    clear hn
    go_quiet (fail)
    go_wp2
    go_ret
    exact ⟨by rw [HE.out]; rfl, drew_below w _⟩
end Go.Proofs.YtdiffpiapdghoaaGreatDoor
/-
  Layer 3, the program's side: ways, held against each other.
-/
namespace Go.Proofs.YtdiffpiapdghoaaGreatDoor
set_option linter.unusedVariables false
open Go.ChangeShapes Go.WideShapes Go.ChangeAt Go.RowKit

/-- a call that holds two parts against each other, from wherever above W -/
theorem gives_mono {f : Nat} {args : Array Value} {W : World} {b : Bool} (h : ∀ W2 : World, Below W.heap.size W W2 → Calls Tryz.prog f args W2 fun e w' => e = .returned (.bool b) ∧ Below W2.heap.size W2 w') : Gives f args W b := fun W2 hW => (h W2 hW).mono fun e w' ⟨h1, h2⟩ => ⟨h1, hW.trans (h2.mono hW.size)⟩

set_option maxHeartbeats 1600000 in
set_option maxRecDepth 100000 in
theorem alts_step (h : Addr) (lev : Int) (t u : Al) (P Q : Nat → Prop) (a b : Addr) (w : World) (b1 b2 : Bool)
    (hc1 : Gives 43 #[.pointer (some h), .pointer (some a), .pointer (some b), .int .i64 lev] w b1)
    (hc2 : b1 = true → Gives 47 #[.pointer (some h), .pointer (some (a.add 5)), .pointer (some (b.add 5)), .int .i64 lev] w b2) :
    Calls Tryz.prog 87 #[.pointer (some h), .pointer (some a), .pointer (some b), .int .i64 lev] w fun e w' => e = .returned (.bool (b1 && b2)) ∧ Below w.heap.size w w' := by
  rw [add_off _ _ (by decide), add_off _ _ (by decide)] at hc2
  have C1 := Lib.hid hc1
  have D2 := Lib.hid hc2
  clear hc1 hc2
  go_enter Tryz.func87, Tryz.ntmps87
  go_wp2
  have hw2 : Below w.heap.size w w.drew := (Below.refl _ _).drew
  refine wp_region_plan [(8, 2), (8, 3)] (by kernel_rfl) (by kernel_rfl) ?_
  change Wrapped (wpPlan _ _ _ _ _ _ w.drew)
  generalize w.drew = w2 at hw2 ⊢
  cases b1
  · refine plan_step ?_
    simp only [List.take_succ_cons, List.take_zero, List.drop_succ_cons, List.drop_zero, Nat.reduceAdd]
    repeat (refine wst_step (fun K hK => ?_); go_simp; refine hK _ ?_; clear hK K)
    refine wst_nil ?_
    intro K hK
    have HK := Lib.hid hK
    clear hK
    go_wp2_with fail
    refine (C1.out w2 hw2).mono ?_
    rintro e w3 ⟨rfl, hw3⟩
    go_wp2
    refine HK.out _ _ ?_
    clear HK K 
    refine plan_step ?_
    simp only [List.take_succ_cons, List.take_zero, List.drop_succ_cons, List.drop_zero, Nat.reduceAdd]
    repeat (refine wst_step (fun K hK => ?_); go_simp; refine hK _ ?_; clear hK K)
    refine wst_nil ?_
    intro K hK
    have HK := Lib.hid hK
    clear hK
    go_wp2_with fail
    refine HK.out _ _ ?_
    clear HK K 
    refine plan_end ?_
    go_wp2
    go_ret
    exact ⟨rfl, hw3⟩
  · have C2 := Lib.hid (D2.out rfl)
    clear D2
    refine plan_step ?_
    simp only [List.take_succ_cons, List.take_zero, List.drop_succ_cons, List.drop_zero, Nat.reduceAdd]
    repeat (refine wst_step (fun K hK => ?_); go_simp; refine hK _ ?_; clear hK K)
    refine wst_nil ?_
    intro K hK
    have HK := Lib.hid hK
    clear hK
    go_wp2_with fail
    refine (C1.out w2 hw2).mono ?_
    rintro e w3 ⟨rfl, hw3⟩
    go_wp2
    refine HK.out _ _ ?_
    clear HK K 
    refine plan_step ?_
    simp only [List.take_succ_cons, List.take_zero, List.drop_succ_cons, List.drop_zero, Nat.reduceAdd]
    repeat (refine wst_step (fun K hK => ?_); go_simp; refine hK _ ?_; clear hK K)
    refine wst_nil ?_
    intro K hK
    have HK := Lib.hid hK
    clear hK
    go_wp2_with fail
    refine (C2.out w3 hw3).mono ?_
    rintro e w4 ⟨rfl, hw4⟩
    go_wp2
    refine HK.out _ _ ?_
    clear HK K 
    refine plan_end ?_
    go_wp2
    go_ret
    exact ⟨rfl, hw4⟩
end Go.Proofs.YtdiffpiapdghoaaGreatDoor
/-
  Layer 3, the program's side: sameList, at one of its kinds of list, given what holds two of its parts.
-/
namespace Go.Proofs.YtdiffpiapdghoaaGreatDoor
set_option linter.unusedVariables false
open Go.ChangeShapes Go.WideShapes Go.ChangeAt Go.RowKit


/-- two parts are held against each other at this level -/
def HoldsX (lev : Int) (t u : ByteArray) : Prop := ∀ (P Q : Nat → Prop) (a b : Addr) (w : World), IsTx w P a t → IsTx w Q b u →
  Calls Tryz.prog 89 #[.pointer (some a), .pointer (some b), .int .i64 lev] w fun e w' => e = .returned (.bool ((t.data.toList == u.data.toList))) ∧ Below w.heap.size w w'
set_option maxHeartbeats 800000 in
set_option maxRecDepth 100000 in
theorem listX (lev : Int) (sl tl : List ByteArray) (hall : ∀ (k : Nat) (t u : ByteArray), sl[k]? = some t → tl[k]? = some u → HoldsX lev t u) (P Q : Nat → Prop) (v v' : Value) (w : World) (hs : IsTxs w P v sl) (ht : IsTxs w Q v' tl) :
    Calls Tryz.prog 88 #[v, v', .int .i64 lev, .func (.func 89) #[] #[]] w fun e w' => e = .returned (.bool (Tx.sames sl tl)) ∧ Below w.heap.size w w' := by
  obtain ⟨ao, cap, rfl, v1, v2⟩ := hs.form
  obtain ⟨bo, cap2, rfl, u1, u2⟩ := ht.form
  have HI := Lib.hid hall
  have HS1 := Lib.hid hs
  have HT1 := Lib.hid ht
  have hlm : (sl.length : Int) ≤ 9223372036854775807 := by unfold maxLen at v2; omega
  clear hall hs ht
  by_cases hl : sl.length = tl.length
  · have q3 : ((sl.length : Int) != tl.length) = false := by rw [bne_eq_false_iff_eq]; omega
    have HLn := Lib.hid hl
    clear hl
    go_enter Tryz.func88, Tryz.ntmps88
    go_wp2
    go_loopw [17] (fun iv wr => ∃ k : Nat, k ≤ sl.length ∧ iv = .int .i64 k ∧ Hid (∀ (j : Nat) (s t : ByteArray), j < k → sl[j]? = some s → tl[j]? = some t → ((s.data.toList == t.data.toList)) = true) ∧ Below w.heap.size w wr) (fun iv _ => sl.length - (intOf iv).toNat)
    case atStart => exact ⟨0, Nat.zero_le _, rfl, Lib.hid (fun j s t hj => by omega), Below.refl _ _⟩
    case round =>
      obtain ⟨i, hi, rfl, H, hbw⟩ := hrel
      by_cases hlt : i < sl.length
      · have i1 : (i : Int) < sl.length := by omega
        have i2 : (i : Int) < tl.length := by have := HLn.out; omega
        obtain ⟨x, hx⟩ : ∃ x, sl[i]? = some x := ⟨sl[i], List.getElem?_eq_getElem hlt⟩
        obtain ⟨y, hy⟩ : ∃ y, tl[i]? = some y := ⟨tl[i]'(by have := HLn.out; omega), List.getElem?_eq_getElem (by have := HLn.out; omega)⟩
        obtain ⟨a, rfl, _, hrow⟩ := HS1.out.at hx
        obtain ⟨b, rfl, _, hrow'⟩ := HT1.out.at hy
        rw [Nat.mul_one] at hrow hrow'
        have HR := Lib.hid (hrow.on hbw)
        have HR' := Lib.hid (hrow'.on hbw)
        have HX := Lib.hid hx
        have HY := Lib.hid hy
        have HXY := Lib.hid (HI.out i x y hx hy)
        clear hrow hrow' hx hy
        go_wp2
        go_still_tail 8, (by kernel_rfl)
        change wpList _ _ _ _ _ wr.drew
        have hbd : Below wr.heap.size wr wr.drew := (Below.refl _ _).drew
        have HXA2 := Lib.hid (HR.out.on hbd)
        have HYA2 := Lib.hid (HR'.out.on hbd)
        have hbw2 := hbw.trans (hbd.mono hbw.size)
        generalize wr.drew = w2 at HXA2 HYA2 hbw2 ⊢
        go_wp2_with fail
        refine (HXY.out P Q _ _ w2 HXA2.out HYA2.out).mono ?_
        rintro e w3 ⟨rfl, hb3⟩
        have hbw3 := hbw2.trans (hb3.mono hbw2.size)
        by_cases hr : ((x.data.toList == y.data.toList)) = true
        · rw [hr]
          have HN : Hid (∀ (j : Nat) (s t : ByteArray), j < i + 1 → sl[j]? = some s → tl[j]? = some t → ((s.data.toList == t.data.toList)) = true) := Lib.hid (fun j s t hj h1 h2 => by
            by_cases hji : j = i
            · subst hji
              rw [HX.out] at h1
              rw [HY.out] at h2
              cases h1; cases h2; exact hr
            · exact H.out j s t (by omega) h1 h2)
          clear hr
          go_wp2
          go_roundw
          case rel => exact ⟨i + 1, by omega, by go_num, HN, hbw3⟩
          case measure => simp [intOf]; omega
        · have hr : ((x.data.toList == y.data.toList)) = false := by simpa using hr
          have HF : Hid (Tx.sames sl tl = false) := Lib.hid (Tx.sames_not sl tl i _ _ HX.out HY.out hr)
          rw [hr]
          clear hr
          go_wp2
          go_ret
          exact ⟨by rw [HF.out]; rfl, hbw3⟩
      · have i1 : ¬ (i : Int) < sl.length := by omega
        have HF : Hid (Tx.sames sl tl = true) := Lib.hid (Tx.sames_all sl tl HLn.out (fun j s t h1 h2 => H.out j s t (by have := (List.getElem?_eq_some_iff.1 h1).1; omega) h1 h2))
        go_wp2
        go_ret
        exact ⟨by rw [HF.out]; rfl, hbw⟩
  · have q3 : ((sl.length : Int) != tl.length) = true := by rw [bne_iff_ne]; omega
    have HE : Hid (Tx.sames sl tl = false) := Lib.hid (by
      cases hq : Tx.sames sl tl with
      | false => rfl
      | true => exact absurd (Tx.sames_len sl tl hq) hl)
    clear hl
    go_enter Tryz.func88, Tryz.ntmps88
    go_wp2
    go_ret
    exact ⟨by rw [HE.out]; rfl, Below.refl _ _⟩
end Go.Proofs.YtdiffpiapdghoaaGreatDoor
/-
  Layer 3, the program's side: declarations, held against each other: such as differ in themselves.
-/
namespace Go.Proofs.YtdiffpiapdghoaaGreatDoor
set_option linter.unusedVariables false
open Go.ChangeShapes Go.WideShapes Go.ChangeAt Go.RowKit

set_option maxHeartbeats 4000000 in
set_option maxRecDepth 100000 in
theorem decls_w0 (h a b : Addr) (lev : Int) (P Q : Nat → Prop) (w : World) (xk xp yk yp : Int) (xn yn : ByteArray) (xvs yvs : List ByteArray) (xcs ycs : List Co) (xt yt : Ty) (xps yps : List Pa) (xe ye : Ex)
    (ha : IsDe w P a (.mk xk xp xn xvs xcs xt xps xe)) (hb : IsDe w Q b (.mk yk yp yn yvs ycs yt yps ye))
    (hne : ¬ (xk = yk ∧ xn = yn)) :
    Calls Tryz.prog 49 #[.pointer (some h), .pointer (some a), .pointer (some b), .int .i64 lev] w fun e w' => e = .returned (.bool false) ∧ Below w.heap.size w w' := by
  obtain ⟨c0, _, c2, c2', ⟨a3, b3, c3, _, _, x3⟩, ⟨a4, b4, c4, _, _, x4⟩, x5, ⟨a9, b9, c9, _, _, x9⟩, x10⟩ := ha.cells
  obtain ⟨d0, _, d2, d2', ⟨r3, s3, d3, _, _, y3⟩, ⟨r4, s4, d4, _, _, y4⟩, y5, ⟨r9, s9, d9, _, _, y9⟩, y10⟩ := hb.cells
  have HNE := Lib.hid hne
  clear hne
  clear ha hb x3 x4 x5 x9 x10 y3 y4 y5 y9 y10
  have HF : Hid (∀ V : World, Below w.heap.size w V → V.cell? a = some (.int .i64 xk) ∧ V.cell? ⟨a.block, a.off + 2, none⟩ = some (.string xn) ∧ V.cell? ⟨a.block, a.off + 3, none⟩ = some (.slice a3 xvs.length b3) ∧ V.cell? ⟨a.block, a.off + 4, none⟩ = some (.slice a4 xcs.length b4) ∧ V.cell? ⟨a.block, a.off + 9, none⟩ = some (.slice a9 xps.length b9) ∧ V.cell? b = some (.int .i64 yk) ∧ V.cell? ⟨b.block, b.off + 2, none⟩ = some (.string yn) ∧ V.cell? ⟨b.block, b.off + 3, none⟩ = some (.slice r3 yvs.length s3) ∧ V.cell? ⟨b.block, b.off + 4, none⟩ = some (.slice r4 ycs.length s4) ∧ V.cell? ⟨b.block, b.off + 9, none⟩ = some (.slice r9 yps.length s9)) := Lib.hid (fun V hV => ⟨(hV.cell (Lib.lt_of_cell c0)).trans c0, (hV.cell (Lib.lt_of_cell c2)).trans c2, (hV.cell (Lib.lt_of_cell c3)).trans c3, (hV.cell (Lib.lt_of_cell c4)).trans c4, (hV.cell (Lib.lt_of_cell c9)).trans c9, (hV.cell (Lib.lt_of_cell d0)).trans d0, (hV.cell (Lib.lt_of_cell d2)).trans d2, (hV.cell (Lib.lt_of_cell d3)).trans d3, (hV.cell (Lib.lt_of_cell d4)).trans d4, (hV.cell (Lib.lt_of_cell d9)).trans d9⟩)
  clear c0 c2 c3 c4 c9 d0 d2 d3 d4 d9
  go_enter Tryz.func49, Tryz.ntmps49
  go_wp2
  have hw2 : Below w.heap.size w w.drew := (Below.refl _ _).drew
  simp only [List.append_eq, List.cons_append, List.nil_append]
  refine wp_region_plan [(30, 3), (11, 3), (8, 3), (11, 3), (8, 3)] (by kernel_rfl) (by kernel_rfl) ?_
  change Wrapped (wpPlan _ _ _ _ _ _ w.drew)
  generalize w.drew = w2 at hw2 ⊢
  by_cases hk : xk = yk
  · subst hk
    have hn : ¬ xn = yn := fun e => HNE.out ⟨rfl, e⟩
    have q2 := text_ne hn
    clear hn
    obtain ⟨c0, c2, c3, c4, c9, d0, d2, d3, d4, d9⟩ := HF.out w2 hw2
    refine plan_step ?_
    simp only [List.take_succ_cons, List.take_zero, List.drop_succ_cons, List.drop_zero, Nat.reduceAdd]
    repeat (refine wst_step (fun K hK => ?_); go_simp; refine hK _ ?_; clear hK K)
    refine wst_nil ?_
    intro K hK
    have HK := Lib.hid hK
    clear hK
    go_wp2_with fail
    refine HK.out _ _ ?_
    clear HK K c0 c2 c3 c4 c9 d0 d2 d3 d4 d9
    obtain ⟨c0, c2, c3, c4, c9, d0, d2, d3, d4, d9⟩ := HF.out w2 hw2
    refine plan_step ?_
    simp only [List.take_succ_cons, List.take_zero, List.drop_succ_cons, List.drop_zero, Nat.reduceAdd]
    repeat (refine wst_step (fun K hK => ?_); go_simp; refine hK _ ?_; clear hK K)
    refine wst_nil ?_
    intro K hK
    have HK := Lib.hid hK
    clear hK
    go_wp2_with fail
    refine HK.out _ _ ?_
    clear HK K c0 c2 c3 c4 c9 d0 d2 d3 d4 d9
    obtain ⟨c0, c2, c3, c4, c9, d0, d2, d3, d4, d9⟩ := HF.out w2 hw2
    refine plan_step ?_
    simp only [List.take_succ_cons, List.take_zero, List.drop_succ_cons, List.drop_zero, Nat.reduceAdd]
    repeat (refine wst_step (fun K hK => ?_); go_simp; refine hK _ ?_; clear hK K)
    refine wst_nil ?_
    intro K hK
    have HK := Lib.hid hK
    clear hK
    go_wp2_with fail
    refine HK.out _ _ ?_
    clear HK K c0 c2 c3 c4 c9 d0 d2 d3 d4 d9
    obtain ⟨c0, c2, c3, c4, c9, d0, d2, d3, d4, d9⟩ := HF.out w2 hw2
    refine plan_step ?_
    simp only [List.take_succ_cons, List.take_zero, List.drop_succ_cons, List.drop_zero, Nat.reduceAdd]
    repeat (refine wst_step (fun K hK => ?_); go_simp; refine hK _ ?_; clear hK K)
    refine wst_nil ?_
    intro K hK
    have HK := Lib.hid hK
    clear hK
    go_wp2_with fail
    refine HK.out _ _ ?_
    clear HK K c0 c2 c3 c4 c9 d0 d2 d3 d4 d9
    obtain ⟨c0, c2, c3, c4, c9, d0, d2, d3, d4, d9⟩ := HF.out w2 hw2
    refine plan_step ?_
    simp only [List.take_succ_cons, List.take_zero, List.drop_succ_cons, List.drop_zero, Nat.reduceAdd]
    repeat (refine wst_step (fun K hK => ?_); go_simp; refine hK _ ?_; clear hK K)
    refine wst_nil ?_
    intro K hK
    have HK := Lib.hid hK
    clear hK
    go_wp2_with fail
    refine HK.out _ _ ?_
    clear HK K c0 c2 c3 c4 c9 d0 d2 d3 d4 d9
    refine plan_end ?_
    go_wp2
    go_ret
    exact ⟨rfl, hw2⟩
  · have q1 : (xk == yk) = false := by rw [beq_eq_false_iff_ne]; exact hk
    clear hk
    obtain ⟨c0, c2, c3, c4, c9, d0, d2, d3, d4, d9⟩ := HF.out w2 hw2
    refine plan_step ?_
    simp only [List.take_succ_cons, List.take_zero, List.drop_succ_cons, List.drop_zero, Nat.reduceAdd]
    repeat (refine wst_step (fun K hK => ?_); go_simp; refine hK _ ?_; clear hK K)
    refine wst_nil ?_
    intro K hK
    have HK := Lib.hid hK
    clear hK
    go_wp2_with fail
    refine HK.out _ _ ?_
    clear HK K c0 c2 c3 c4 c9 d0 d2 d3 d4 d9
    obtain ⟨c0, c2, c3, c4, c9, d0, d2, d3, d4, d9⟩ := HF.out w2 hw2
    refine plan_step ?_
    simp only [List.take_succ_cons, List.take_zero, List.drop_succ_cons, List.drop_zero, Nat.reduceAdd]
    repeat (refine wst_step (fun K hK => ?_); go_simp; refine hK _ ?_; clear hK K)
    refine wst_nil ?_
    intro K hK
    have HK := Lib.hid hK
    clear hK
    go_wp2_with fail
    refine HK.out _ _ ?_
    clear HK K c0 c2 c3 c4 c9 d0 d2 d3 d4 d9
    obtain ⟨c0, c2, c3, c4, c9, d0, d2, d3, d4, d9⟩ := HF.out w2 hw2
    refine plan_step ?_
    simp only [List.take_succ_cons, List.take_zero, List.drop_succ_cons, List.drop_zero, Nat.reduceAdd]
    repeat (refine wst_step (fun K hK => ?_); go_simp; refine hK _ ?_; clear hK K)
    refine wst_nil ?_
    intro K hK
    have HK := Lib.hid hK
    clear hK
    go_wp2_with fail
    refine HK.out _ _ ?_
    clear HK K c0 c2 c3 c4 c9 d0 d2 d3 d4 d9
    obtain ⟨c0, c2, c3, c4, c9, d0, d2, d3, d4, d9⟩ := HF.out w2 hw2
    refine plan_step ?_
    simp only [List.take_succ_cons, List.take_zero, List.drop_succ_cons, List.drop_zero, Nat.reduceAdd]
    repeat (refine wst_step (fun K hK => ?_); go_simp; refine hK _ ?_; clear hK K)
    refine wst_nil ?_
    intro K hK
    have HK := Lib.hid hK
    clear hK
    go_wp2_with fail
    refine HK.out _ _ ?_
    clear HK K c0 c2 c3 c4 c9 d0 d2 d3 d4 d9
    obtain ⟨c0, c2, c3, c4, c9, d0, d2, d3, d4, d9⟩ := HF.out w2 hw2
    refine plan_step ?_
    simp only [List.take_succ_cons, List.take_zero, List.drop_succ_cons, List.drop_zero, Nat.reduceAdd]
    repeat (refine wst_step (fun K hK => ?_); go_simp; refine hK _ ?_; clear hK K)
    refine wst_nil ?_
    intro K hK
    have HK := Lib.hid hK
    clear hK
    go_wp2_with fail
    refine HK.out _ _ ?_
    clear HK K c0 c2 c3 c4 c9 d0 d2 d3 d4 d9
    refine plan_end ?_
    go_wp2
    go_ret
    exact ⟨rfl, hw2⟩
end Go.Proofs.YtdiffpiapdghoaaGreatDoor
