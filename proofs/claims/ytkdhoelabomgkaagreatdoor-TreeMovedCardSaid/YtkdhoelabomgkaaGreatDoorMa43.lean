/- Texts of this proof, joined: PRtE. No condition. -/
import Derived.Test.YtkdhoelabomgkaaGreatDoorMa42
import Derived.Test.YtkdhoelabomgkaaGreatDoorMa34
import Derived.Test.YtkdhoelabomgkaaGreatDoorMa40
/-
  Layer 3, the program's side: an expression that may be; RightType, RightPat, RightExpr, RightDecls.
-/
namespace Go.Proofs.YtkdhoelabomgkaaGreatDoor
set_option linter.unusedVariables false
open Go.ChangeShapes Go.WideShapes Go.ChangeAt Go.RowKit

def alB (b : Ex → Bool) : Al → Bool
  | .mk p e => p.rt 400 && b e
set_option maxHeartbeats 800000 in
theorem sayE (c : Addr) (lev : Int) (h0 : 0 ≤ lev) (h1 : lev ≤ 1000) (t : Ex) (b : Bool) (w0 : World) (hR : RtE (lev + 1) t b) (hr : RangeOk w0) (hc : w0.cell? c = some (.int .i64 lev)) : SaysX c t b w0 := by
  intro P a w hb ha
  have H := Lib.hid (hR P a w (hr.on hb) ha)
  have hc := bel_cell hb hc
  clear ha hr hR hb
  go_enter Tryz.func66, Tryz.ntmps66
  go_wp2_with fail
  refine H.out.mono ?_
  rintro e w' ⟨rfl, hb⟩
  go_wp2
  go_ret
  exact ⟨rfl, hb⟩
set_option maxHeartbeats 1600000 in
set_option maxRecDepth 100000 in
theorem sayA (c : Addr) (lev : Int) (h0 : 0 ≤ lev) (h1 : lev ≤ 1000) (t : Al) (b : Ex → Bool) (w0 : World) (hR : RtE (lev + 1) t.body' (b t.body')) (hr : RangeOk w0) (hc : w0.cell? c = some (.int .i64 lev)) : SaysA c t (alB b t) w0 := by
  intro P a w hb ha
  obtain ⟨p, e⟩ := t
  have hc := bel_cell hb hc
  obtain ⟨hp, he⟩ := ha.parts
  rw [add_off _ _ (by decide)] at he
  have HP := Lib.hid hp
  have HE := Lib.hid he
  have HR := Lib.hid (hr.on hb)
  have HA : Hid (RtE (lev + 1) e (b e)) := Lib.hid hR
  have HQ := Lib.hid (rtP_all 400 p (Nat.le_refl _))
  clear ha hr hR hb hp he
  simp only [alB]
  generalize b e = be at HA ⊢
  cases h1 : p.rt 400 with
  | false =>
    go_enter Tryz.func69, Tryz.ntmps69
    go_wp2
    have hw0 : Below w.heap.size w w.drew := (Below.refl _ _).drew
    refine wp_region_gate (fun V => Below w.heap.size w V) 100 (by kernel_rfl) hw0 ?_
    change AtG _ _ _ _ _ _ _ _ _ w.drew
    generalize w.drew = W0 at hw0 ⊢
    refine G_hold (i := 0) (v := ?_) rfl (by kernel_rfl) (fun _ _ _ h => h) (Or.inl ⟨by rfl, fun V hV => ?_⟩) ?_
    rotate_left
    · go_simp; with_reducible rfl
    simp only [Act.put, List.setIfInBounds_toArray, List.set_cons_zero, List.set_cons_succ]
    refine G_hold (i := 1) (v := ?_) rfl (by kernel_rfl) (fun _ _ _ h => h) (Or.inl ⟨by rfl, fun V hV => ?_⟩) ?_
    rotate_left
    · go_simp; with_reducible rfl
    simp only [Act.put, List.setIfInBounds_toArray, List.set_cons_zero, List.set_cons_succ]
    refine G_hold (i := 2) (v := ?_) rfl (by kernel_rfl) (fun _ _ _ h => h) (Or.inl ⟨by rfl, fun V hV => ?_⟩) ?_
    rotate_left
    · go_simp; with_reducible rfl
    simp only [Act.put, List.setIfInBounds_toArray, List.set_cons_zero, List.set_cons_succ]
    refine G_one (k := 3) rfl (by kernel_rfl) (fun K hK => ?_)
    have HK := Lib.hid hK
    clear hK
    go_wp2_with fail
    refine (HQ.out P _ W0 (HR.out.on hw0) (HP.out.on hw0)).mono ?_
    rw [h1]
    rintro e W1 ⟨rfl, hb1⟩
    have hw1 := hw0.trans (hb1.mono hw0.size)
    clear hb1
    go_wp2
    refine HK.out _ _ (fun _ => hw1) ?_
    clear HK K
    refine G_hold (i := 4) (v := ?_) rfl (by kernel_rfl) (fun _ _ _ h => h) (Or.inl ⟨by rfl, fun V hV => ?_⟩) ?_
    rotate_left
    · go_simp; with_reducible rfl
    simp only [Act.put, List.setIfInBounds_toArray, List.set_cons_zero, List.set_cons_succ]
    refine G_hold (i := 5) (v := undef) rfl (by kernel_rfl) (fun _ _ _ h => h) (Or.inr ⟨by rfl, rfl⟩) ?_
    simp only [Act.put, List.setIfInBounds_toArray, List.set_cons_zero, List.set_cons_succ]
    refine G_hold (i := 6) (v := undef) rfl (by kernel_rfl) (fun _ _ _ h => h) (Or.inr ⟨by rfl, rfl⟩) ?_
    simp only [Act.put, List.setIfInBounds_toArray, List.set_cons_zero, List.set_cons_succ]
    refine G_hold (i := 7) (v := undef) rfl (by kernel_rfl) (fun _ _ _ h => h) (Or.inr ⟨by rfl, rfl⟩) ?_
    simp only [Act.put, List.setIfInBounds_toArray, List.set_cons_zero, List.set_cons_succ]
    refine G_hold (i := 8) (v := undef) rfl (by kernel_rfl) (fun _ _ _ h => h) (Or.inr ⟨by rfl, rfl⟩) ?_
    simp only [Act.put, List.setIfInBounds_toArray, List.set_cons_zero, List.set_cons_succ]
    refine G_hold (i := 9) (v := undef) rfl (by kernel_rfl) (fun _ _ _ h => h) (Or.inr ⟨by rfl, rfl⟩) ?_
    simp only [Act.put, List.setIfInBounds_toArray, List.set_cons_zero, List.set_cons_succ]
    refine G_one (k := 10) rfl (by kernel_rfl) (fun K hK => ?_)
    have HK := Lib.hid hK
    clear hK
    go_wp2
    refine HK.out _ _ (fun _ => hw1) ?_
    clear HK K
    refine G_hold (i := 11) (v := ?_) rfl (by kernel_rfl) (fun _ _ _ h => h) (Or.inl ⟨by rfl, fun V hV => ?_⟩) ?_
    rotate_left
    · go_simp; with_reducible rfl
    simp only [Act.put, List.setIfInBounds_toArray, List.set_cons_zero, List.set_cons_succ]
    refine G_hold (i := 12) (v := ?_) rfl (by kernel_rfl) (fun _ _ _ h => h) (Or.inl ⟨by rfl, fun V hV => ?_⟩) ?_
    rotate_left
    · go_simp; with_reducible rfl
    simp only [Act.put, List.setIfInBounds_toArray, List.set_cons_zero, List.set_cons_succ]
    refine G_done (by kernel_rfl) ?_
    go_wp2
    go_ret
    exact ⟨rfl, hw1⟩
  | true =>
    go_enter Tryz.func69, Tryz.ntmps69
    go_wp2
    have hw0 : Below w.heap.size w w.drew := (Below.refl _ _).drew
    refine wp_region_gate (fun V => Below w.heap.size w V) 100 (by kernel_rfl) hw0 ?_
    change AtG _ _ _ _ _ _ _ _ _ w.drew
    generalize w.drew = W0 at hw0 ⊢
    refine G_hold (i := 0) (v := ?_) rfl (by kernel_rfl) (fun _ _ _ h => h) (Or.inl ⟨by rfl, fun V hV => ?_⟩) ?_
    rotate_left
    · go_simp; with_reducible rfl
    simp only [Act.put, List.setIfInBounds_toArray, List.set_cons_zero, List.set_cons_succ]
    refine G_hold (i := 1) (v := ?_) rfl (by kernel_rfl) (fun _ _ _ h => h) (Or.inl ⟨by rfl, fun V hV => ?_⟩) ?_
    rotate_left
    · go_simp; with_reducible rfl
    simp only [Act.put, List.setIfInBounds_toArray, List.set_cons_zero, List.set_cons_succ]
    refine G_hold (i := 2) (v := ?_) rfl (by kernel_rfl) (fun _ _ _ h => h) (Or.inl ⟨by rfl, fun V hV => ?_⟩) ?_
    rotate_left
    · go_simp; with_reducible rfl
    simp only [Act.put, List.setIfInBounds_toArray, List.set_cons_zero, List.set_cons_succ]
    refine G_one (k := 3) rfl (by kernel_rfl) (fun K hK => ?_)
    have HK := Lib.hid hK
    clear hK
    go_wp2_with fail
    refine (HQ.out P _ W0 (HR.out.on hw0) (HP.out.on hw0)).mono ?_
    rw [h1]
    rintro e W1 ⟨rfl, hb1⟩
    have hw1 := hw0.trans (hb1.mono hw0.size)
    clear hb1
    go_wp2
    refine HK.out _ _ (fun _ => hw1) ?_
    clear HK K
    refine G_hold (i := 4) (v := ?_) rfl (by kernel_rfl) (fun _ _ _ h => h) (Or.inl ⟨by rfl, fun V hV => ?_⟩) ?_
    rotate_left
    · go_simp; with_reducible rfl
    simp only [Act.put, List.setIfInBounds_toArray, List.set_cons_zero, List.set_cons_succ]
    refine G_hold (i := 5) (v := ?_) rfl (by kernel_rfl) (fun _ _ _ h => h) (Or.inl ⟨by rfl, fun V hV => ?_⟩) ?_
    rotate_left
    · go_simp; with_reducible rfl
    simp only [Act.put, List.setIfInBounds_toArray, List.set_cons_zero, List.set_cons_succ]
    refine G_hold (i := 6) (v := ?_) rfl (by kernel_rfl) (fun _ _ _ h => h) (Or.inl ⟨by rfl, fun V hV => ?_⟩) ?_
    rotate_left
    · go_simp; with_reducible rfl
    simp only [Act.put, List.setIfInBounds_toArray, List.set_cons_zero, List.set_cons_succ]
    refine G_hold (i := 7) (v := ?_) rfl (by kernel_rfl) (fun _ _ _ h => h) (Or.inl ⟨by rfl, fun V hV => ?_⟩) ?_
    rotate_left
    · go_simp; with_reducible rfl
    simp only [Act.put, List.setIfInBounds_toArray, List.set_cons_zero, List.set_cons_succ]
    refine G_hold (i := 8) (v := ?_) rfl (by kernel_rfl) (fun _ _ _ h => h) (Or.inl ⟨by rfl, fun V hV => ?_⟩) ?_
    rotate_left
    · have hc := bel_cell hV hc; go_simp; with_reducible rfl
    simp only [Act.put, List.setIfInBounds_toArray, List.set_cons_zero, List.set_cons_succ]
    refine G_hold (i := 9) (v := ?_) rfl (by kernel_rfl) (fun _ _ _ h => h) (Or.inl ⟨by rfl, fun V hV => ?_⟩) ?_
    rotate_left
    · go_simp; with_reducible rfl
    simp only [Act.put, List.setIfInBounds_toArray, List.set_cons_zero, List.set_cons_succ]
    refine G_one (k := 10) rfl (by kernel_rfl) (fun K hK => ?_)
    have HK := Lib.hid hK
    clear hK
    go_wp2_with fail
    refine (HA.out P _ W1 (HR.out.on hw1) (HE.out.on hw1)).mono ?_
    rintro e W2 ⟨rfl, hb2⟩
    have hw2 := hw1.trans (hb2.mono hw1.size)
    clear hb2
    go_wp2
    refine HK.out _ _ (fun _ => hw2) ?_
    clear HK K
    refine G_hold (i := 11) (v := ?_) rfl (by kernel_rfl) (fun _ _ _ h => h) (Or.inl ⟨by rfl, fun V hV => ?_⟩) ?_
    rotate_left
    · go_simp; with_reducible rfl
    simp only [Act.put, List.setIfInBounds_toArray, List.set_cons_zero, List.set_cons_succ]
    refine G_hold (i := 12) (v := ?_) rfl (by kernel_rfl) (fun _ _ _ h => h) (Or.inl ⟨by rfl, fun V hV => ?_⟩) ?_
    rotate_left
    · go_simp; with_reducible rfl
    simp only [Act.put, List.setIfInBounds_toArray, List.set_cons_zero, List.set_cons_succ]
    refine G_done (by kernel_rfl) ?_
    go_wp2
    go_ret
    exact ⟨rfl, hw2⟩
set_option maxHeartbeats 800000 in
theorem rtE_zero (lev : Int) (h : 400 < lev) (t : Ex) : RtE lev t false := by
  intro P a w hr ha
  clear hr ha
  go_enter Tryz.func39, Tryz.ntmps39
  go_wp2
  go_ret
  exact ⟨rfl, bl_alloc _ (Below.refl _ _)⟩
set_option maxHeartbeats 6400000 in
set_option maxRecDepth 100000 in
theorem rtE_succ (k p m : Int) (n : ByteArray) (l : List Ex) (ps : List Pa) (al : List Al) (ds : List De) (lev : Int) (h1 : 1 ≤ lev) (h2 : lev ≤ 400) (b : Ex → Bool) (hall : ∀ t : Ex, RtE (lev + 1) t (b t)) :
    RtE lev (.mk k p n m l ps al ds) (exHd k n m l.length ps.length al.length ds.length && (l.all b && (patsB ps && (al.all (alB b) && (decide ((ds.length : Int) ≤ 512) && ds.all (deB false b)))))) := by
  intro P a w hr h
  have hb1 : Below w.heap.size w (w.alloc (.cells #[.int .i64 lev] 3)) := bl_alloc _ (Below.refl _ _)
  have hI := h.on hb1
  have hr1 := hr.on hb1
  have hc : (w.alloc (.cells #[.int .i64 lev] 3)).cell? ⟨w.heap.size, 0, none⟩ = some (.int .i64 lev) := by rw [Lib.cell_of_heap (heap_alloc_new _ _)]; rfl
  have hsz : w.heap.size < (w.alloc (.cells #[.int .i64 lev] 3)).heap.size := by simp
  go_enter Tryz.func39, Tryz.ntmps39
  go_upto_region 1 with fail
  generalize (w.alloc (.cells #[.int .i64 lev] 3)) = w1 at hb1 hI hr1 hc hsz ⊢
  have q1 : ¬ (400 : Int) < lev := by omega
  have HI := Lib.hid hI
  have HA := Lib.hid hall
  have HR1 := Lib.hid hr1
  have HB1 := Lib.hid hb1
  clear h hr hI hall hr1 hb1 hsz
  go_wp2_with fail
  refine (exhd_any k p m n l ps al ds P a w1 HR1.out HI.out).mono ?_
  rintro e w2 ⟨rfl, hw2⟩
  have hbz := HB1.out.trans (hw2.mono HB1.out.size)
  cases hhd : exHd k n m l.length ps.length al.length ds.length with
  | false =>
    go_wp2
    go_ret
    exact ⟨by rw [hhd]; rfl, hbz⟩
  | true =>
    have HH := Lib.hid hhd
    obtain ⟨_, _, _, _, _, ⟨a4, b4, c4, _, m4, x4⟩, ⟨a5, b5, c5, _, m5, x5⟩, ⟨a6, b6, c6, _, m6, x6⟩, ⟨a7, b7, c7, _, m7, x7⟩⟩ := (HI.out.on hw2).cells
    have d1 := bel_cell hw2 hc
    have HR := Lib.hid (HR1.out.on hw2)
    have X4 := Lib.hid x4
    have X5 := Lib.hid x5
    have X6 := Lib.hid x6
    have X7 := Lib.hid x7
    have HB := Lib.hid hbz
    clear hc x4 x5 x6 x7 hhd hbz hw2
    cases h1 : l.all b with
    | false =>
      have H1 := Lib.hid h1
      clear h1
      go_wp2
      have hd2 : Below w2.heap.size w2 w2.drew := (Below.refl _ _).drew
      have hw0 : Below w2.heap.size w2 w2.drew := hd2
      refine wp_region_gate (fun V => Below w2.heap.size w2 V) 100 (by kernel_rfl) hw0 ?_
      change AtG _ _ _ _ _ _ _ _ _ w2.drew
      clear hd2
      have hd2 := Below.refl w2.heap.size w2
      generalize w2.drew = W0 at hw0 ⊢
      refine G_hold (i := 0) (v := ?_) rfl (by kernel_rfl) (fun _ _ _ h => h) (Or.inl ⟨by rfl, fun V hV => ?_⟩) ?_
      rotate_left
      · go_simp; with_reducible rfl
      simp only [Act.put, List.setIfInBounds_toArray, List.set_cons_zero, List.set_cons_succ]
      refine G_hold (i := 1) (v := ?_) rfl (by kernel_rfl) (fun _ _ _ h => h) (Or.inl ⟨by rfl, fun V hV => ?_⟩) ?_
      rotate_left
      · go_simp; with_reducible rfl
      simp only [Act.put, List.setIfInBounds_toArray, List.set_cons_zero, List.set_cons_succ]
      refine G_hold (i := 2) (v := ?_) rfl (by kernel_rfl) (fun _ _ _ h => h) (Or.inl ⟨by rfl, fun V hV => ?_⟩) ?_
      rotate_left
      · go_simp; with_reducible rfl
      simp only [Act.put, List.setIfInBounds_toArray, List.set_cons_zero, List.set_cons_succ]
      refine G_hold (i := 3) (v := ?_) rfl (by kernel_rfl) (fun _ _ _ h => h) (Or.inl ⟨by rfl, fun V hV => ?_⟩) ?_
      rotate_left
      · have c4 := bel_cell hV c4; go_simp; with_reducible rfl
      simp only [Act.put, List.setIfInBounds_toArray, List.set_cons_zero, List.set_cons_succ]
      refine G_hold (i := 4) (v := ?_) rfl (by kernel_rfl) (fun _ _ _ h => h) (Or.inl ⟨by rfl, fun V hV => ?_⟩) ?_
      rotate_left
      · go_simp; with_reducible rfl
      simp only [Act.put, List.setIfInBounds_toArray, List.set_cons_zero, List.set_cons_succ]
      refine G_one (k := 5) rfl (by kernel_rfl) (fun K hK => ?_)
      have HK := Lib.hid hK
      clear hK
      go_wp2_with fail
      refine (allX ⟨w.heap.size, 0, none⟩ (fun t : Ex => b t) l W0 (fun j t hj => sayE _ lev (by omega) (by omega) t (b t) _ (HA.out t) (HR.out.on hw0) (bel_cell hw0 d1)) P _ (X4.out.on hw0)).mono ?_
      rw [H1.out]
      rintro e W1 ⟨rfl, hb1⟩
      have hw1 := hw0.trans (hb1.mono hw0.size)
      clear hb1
      go_wp2
      refine HK.out _ _ (fun _ => hw1) ?_
      clear HK K
      refine G_hold (i := 6) (v := ?_) rfl (by kernel_rfl) (fun _ _ _ h => h) (Or.inl ⟨by rfl, fun V hV => ?_⟩) ?_
      rotate_left
      · go_simp; with_reducible rfl
      simp only [Act.put, List.setIfInBounds_toArray, List.set_cons_zero, List.set_cons_succ]
      refine G_hold (i := 7) (v := undef) rfl (by kernel_rfl) (fun _ _ _ h => h) (Or.inr ⟨by rfl, rfl⟩) ?_
      simp only [Act.put, List.setIfInBounds_toArray, List.set_cons_zero, List.set_cons_succ]
      refine G_hold (i := 8) (v := undef) rfl (by kernel_rfl) (fun _ _ _ h => h) (Or.inr ⟨by rfl, rfl⟩) ?_
      simp only [Act.put, List.setIfInBounds_toArray, List.set_cons_zero, List.set_cons_succ]
      refine G_hold (i := 9) (v := undef) rfl (by kernel_rfl) (fun _ _ _ h => h) (Or.inr ⟨by rfl, rfl⟩) ?_
      simp only [Act.put, List.setIfInBounds_toArray, List.set_cons_zero, List.set_cons_succ]
      refine G_hold (i := 10) (v := undef) rfl (by kernel_rfl) (fun _ _ _ h => h) (Or.inr ⟨by rfl, rfl⟩) ?_
      simp only [Act.put, List.setIfInBounds_toArray, List.set_cons_zero, List.set_cons_succ]
      refine G_one (k := 11) rfl (by kernel_rfl) (fun K hK => ?_)
      have HK := Lib.hid hK
      clear hK
      go_wp2
      refine HK.out _ _ (fun _ => hw1) ?_
      clear HK K
      refine G_hold (i := 12) (v := ?_) rfl (by kernel_rfl) (fun _ _ _ h => h) (Or.inl ⟨by rfl, fun V hV => ?_⟩) ?_
      rotate_left
      · go_simp; with_reducible rfl
      simp only [Act.put, List.setIfInBounds_toArray, List.set_cons_zero, List.set_cons_succ]
      refine G_hold (i := 13) (v := ?_) rfl (by kernel_rfl) (fun _ _ _ h => h) (Or.inl ⟨by rfl, fun V hV => ?_⟩) ?_
      rotate_left
      · go_simp; with_reducible rfl
      simp only [Act.put, List.setIfInBounds_toArray, List.set_cons_zero, List.set_cons_succ]
      refine G_hold (i := 14) (v := undef) rfl (by kernel_rfl) (fun _ _ _ h => h) (Or.inr ⟨by rfl, rfl⟩) ?_
      simp only [Act.put, List.setIfInBounds_toArray, List.set_cons_zero, List.set_cons_succ]
      refine G_hold (i := 15) (v := undef) rfl (by kernel_rfl) (fun _ _ _ h => h) (Or.inr ⟨by rfl, rfl⟩) ?_
      simp only [Act.put, List.setIfInBounds_toArray, List.set_cons_zero, List.set_cons_succ]
      refine G_hold (i := 16) (v := undef) rfl (by kernel_rfl) (fun _ _ _ h => h) (Or.inr ⟨by rfl, rfl⟩) ?_
      simp only [Act.put, List.setIfInBounds_toArray, List.set_cons_zero, List.set_cons_succ]
      refine G_hold (i := 17) (v := undef) rfl (by kernel_rfl) (fun _ _ _ h => h) (Or.inr ⟨by rfl, rfl⟩) ?_
      simp only [Act.put, List.setIfInBounds_toArray, List.set_cons_zero, List.set_cons_succ]
      refine G_hold (i := 18) (v := undef) rfl (by kernel_rfl) (fun _ _ _ h => h) (Or.inr ⟨by rfl, rfl⟩) ?_
      simp only [Act.put, List.setIfInBounds_toArray, List.set_cons_zero, List.set_cons_succ]
      refine G_one (k := 19) rfl (by kernel_rfl) (fun K hK => ?_)
      have HK := Lib.hid hK
      clear hK
      go_wp2
      refine HK.out _ _ (fun _ => hw1) ?_
      clear HK K
      refine G_hold (i := 20) (v := ?_) rfl (by kernel_rfl) (fun _ _ _ h => h) (Or.inl ⟨by rfl, fun V hV => ?_⟩) ?_
      rotate_left
      · go_simp; with_reducible rfl
      simp only [Act.put, List.setIfInBounds_toArray, List.set_cons_zero, List.set_cons_succ]
      refine G_hold (i := 21) (v := ?_) rfl (by kernel_rfl) (fun _ _ _ h => h) (Or.inl ⟨by rfl, fun V hV => ?_⟩) ?_
      rotate_left
      · go_simp; with_reducible rfl
      simp only [Act.put, List.setIfInBounds_toArray, List.set_cons_zero, List.set_cons_succ]
      refine G_hold (i := 22) (v := undef) rfl (by kernel_rfl) (fun _ _ _ h => h) (Or.inr ⟨by rfl, rfl⟩) ?_
      simp only [Act.put, List.setIfInBounds_toArray, List.set_cons_zero, List.set_cons_succ]
      refine G_hold (i := 23) (v := undef) rfl (by kernel_rfl) (fun _ _ _ h => h) (Or.inr ⟨by rfl, rfl⟩) ?_
      simp only [Act.put, List.setIfInBounds_toArray, List.set_cons_zero, List.set_cons_succ]
      refine G_hold (i := 24) (v := undef) rfl (by kernel_rfl) (fun _ _ _ h => h) (Or.inr ⟨by rfl, rfl⟩) ?_
      simp only [Act.put, List.setIfInBounds_toArray, List.set_cons_zero, List.set_cons_succ]
      refine G_hold (i := 25) (v := undef) rfl (by kernel_rfl) (fun _ _ _ h => h) (Or.inr ⟨by rfl, rfl⟩) ?_
      simp only [Act.put, List.setIfInBounds_toArray, List.set_cons_zero, List.set_cons_succ]
      refine G_hold (i := 26) (v := undef) rfl (by kernel_rfl) (fun _ _ _ h => h) (Or.inr ⟨by rfl, rfl⟩) ?_
      simp only [Act.put, List.setIfInBounds_toArray, List.set_cons_zero, List.set_cons_succ]
      refine G_hold (i := 27) (v := undef) rfl (by kernel_rfl) (fun _ _ _ h => h) (Or.inr ⟨by rfl, rfl⟩) ?_
      simp only [Act.put, List.setIfInBounds_toArray, List.set_cons_zero, List.set_cons_succ]
      refine G_one (k := 28) rfl (by kernel_rfl) (fun K hK => ?_)
      have HK := Lib.hid hK
      clear hK
      go_wp2
      refine HK.out _ _ (fun _ => hw1) ?_
      clear HK K
      refine G_hold (i := 29) (v := ?_) rfl (by kernel_rfl) (fun _ _ _ h => h) (Or.inl ⟨by rfl, fun V hV => ?_⟩) ?_
      rotate_left
      · go_simp; with_reducible rfl
      simp only [Act.put, List.setIfInBounds_toArray, List.set_cons_zero, List.set_cons_succ]
      refine G_hold (i := 30) (v := ?_) rfl (by kernel_rfl) (fun _ _ _ h => h) (Or.inl ⟨by rfl, fun V hV => ?_⟩) ?_
      rotate_left
      · go_simp; with_reducible rfl
      simp only [Act.put, List.setIfInBounds_toArray, List.set_cons_zero, List.set_cons_succ]
      refine G_done (by kernel_rfl) ?_
      have hz := HB.out.trans ((hd2.trans (hw1.mono hd2.size)).mono HB.out.size)
      go_wp2
      go_ret
      exact ⟨by rw [HH.out, H1.out]; rfl, hz⟩
    | true =>
      have H1 := Lib.hid h1
      clear h1
      cases h2 : patsB ps with
      | false =>
        have H2 := Lib.hid h2
        clear h2
        go_wp2
        have hd2 : Below w2.heap.size w2 w2.drew := (Below.refl _ _).drew
        have hw0 : Below w2.heap.size w2 w2.drew := hd2
        refine wp_region_gate (fun V => Below w2.heap.size w2 V) 100 (by kernel_rfl) hw0 ?_
        change AtG _ _ _ _ _ _ _ _ _ w2.drew
        clear hd2
        have hd2 := Below.refl w2.heap.size w2
        generalize w2.drew = W0 at hw0 ⊢
        refine G_hold (i := 0) (v := ?_) rfl (by kernel_rfl) (fun _ _ _ h => h) (Or.inl ⟨by rfl, fun V hV => ?_⟩) ?_
        rotate_left
        · go_simp; with_reducible rfl
        simp only [Act.put, List.setIfInBounds_toArray, List.set_cons_zero, List.set_cons_succ]
        refine G_hold (i := 1) (v := ?_) rfl (by kernel_rfl) (fun _ _ _ h => h) (Or.inl ⟨by rfl, fun V hV => ?_⟩) ?_
        rotate_left
        · go_simp; with_reducible rfl
        simp only [Act.put, List.setIfInBounds_toArray, List.set_cons_zero, List.set_cons_succ]
        refine G_hold (i := 2) (v := ?_) rfl (by kernel_rfl) (fun _ _ _ h => h) (Or.inl ⟨by rfl, fun V hV => ?_⟩) ?_
        rotate_left
        · go_simp; with_reducible rfl
        simp only [Act.put, List.setIfInBounds_toArray, List.set_cons_zero, List.set_cons_succ]
        refine G_hold (i := 3) (v := ?_) rfl (by kernel_rfl) (fun _ _ _ h => h) (Or.inl ⟨by rfl, fun V hV => ?_⟩) ?_
        rotate_left
        · have c4 := bel_cell hV c4; go_simp; with_reducible rfl
        simp only [Act.put, List.setIfInBounds_toArray, List.set_cons_zero, List.set_cons_succ]
        refine G_hold (i := 4) (v := ?_) rfl (by kernel_rfl) (fun _ _ _ h => h) (Or.inl ⟨by rfl, fun V hV => ?_⟩) ?_
        rotate_left
        · go_simp; with_reducible rfl
        simp only [Act.put, List.setIfInBounds_toArray, List.set_cons_zero, List.set_cons_succ]
        refine G_one (k := 5) rfl (by kernel_rfl) (fun K hK => ?_)
        have HK := Lib.hid hK
        clear hK
        go_wp2_with fail
        refine (allX ⟨w.heap.size, 0, none⟩ (fun t : Ex => b t) l W0 (fun j t hj => sayE _ lev (by omega) (by omega) t (b t) _ (HA.out t) (HR.out.on hw0) (bel_cell hw0 d1)) P _ (X4.out.on hw0)).mono ?_
        rw [H1.out]
        rintro e W1 ⟨rfl, hb1⟩
        have hw1 := hw0.trans (hb1.mono hw0.size)
        clear hb1
        go_wp2
        refine HK.out _ _ (fun _ => hw1) ?_
        clear HK K
        refine G_hold (i := 6) (v := ?_) rfl (by kernel_rfl) (fun _ _ _ h => h) (Or.inl ⟨by rfl, fun V hV => ?_⟩) ?_
        rotate_left
        · go_simp; with_reducible rfl
        simp only [Act.put, List.setIfInBounds_toArray, List.set_cons_zero, List.set_cons_succ]
        refine G_hold (i := 7) (v := ?_) rfl (by kernel_rfl) (fun _ _ _ h => h) (Or.inl ⟨by rfl, fun V hV => ?_⟩) ?_
        rotate_left
        · go_simp; with_reducible rfl
        simp only [Act.put, List.setIfInBounds_toArray, List.set_cons_zero, List.set_cons_succ]
        refine G_hold (i := 8) (v := ?_) rfl (by kernel_rfl) (fun _ _ _ h => h) (Or.inl ⟨by rfl, fun V hV => ?_⟩) ?_
        rotate_left
        · go_simp; with_reducible rfl
        simp only [Act.put, List.setIfInBounds_toArray, List.set_cons_zero, List.set_cons_succ]
        refine G_hold (i := 9) (v := ?_) rfl (by kernel_rfl) (fun _ _ _ h => h) (Or.inl ⟨by rfl, fun V hV => ?_⟩) ?_
        rotate_left
        · go_simp; with_reducible rfl
        simp only [Act.put, List.setIfInBounds_toArray, List.set_cons_zero, List.set_cons_succ]
        refine G_hold (i := 10) (v := ?_) rfl (by kernel_rfl) (fun _ _ _ h => h) (Or.inl ⟨by rfl, fun V hV => ?_⟩) ?_
        rotate_left
        · have c5 := bel_cell hV c5; go_simp; with_reducible rfl
        simp only [Act.put, List.setIfInBounds_toArray, List.set_cons_zero, List.set_cons_succ]
        refine G_one (k := 11) rfl (by kernel_rfl) (fun K hK => ?_)
        have HK := Lib.hid hK
        clear hK
        go_wp2_with fail
        refine (pats_any ps P _ W1 (HR.out.on hw1) (X5.out.on hw1)).mono ?_
        rw [H2.out]
        rintro e W2 ⟨rfl, hb2⟩
        have hw2 := hw1.trans (hb2.mono hw1.size)
        clear hb2
        go_wp2
        refine HK.out _ _ (fun _ => hw2) ?_
        clear HK K
        refine G_hold (i := 12) (v := ?_) rfl (by kernel_rfl) (fun _ _ _ h => h) (Or.inl ⟨by rfl, fun V hV => ?_⟩) ?_
        rotate_left
        · go_simp; with_reducible rfl
        simp only [Act.put, List.setIfInBounds_toArray, List.set_cons_zero, List.set_cons_succ]
        refine G_hold (i := 13) (v := ?_) rfl (by kernel_rfl) (fun _ _ _ h => h) (Or.inl ⟨by rfl, fun V hV => ?_⟩) ?_
        rotate_left
        · go_simp; with_reducible rfl
        simp only [Act.put, List.setIfInBounds_toArray, List.set_cons_zero, List.set_cons_succ]
        refine G_hold (i := 14) (v := undef) rfl (by kernel_rfl) (fun _ _ _ h => h) (Or.inr ⟨by rfl, rfl⟩) ?_
        simp only [Act.put, List.setIfInBounds_toArray, List.set_cons_zero, List.set_cons_succ]
        refine G_hold (i := 15) (v := undef) rfl (by kernel_rfl) (fun _ _ _ h => h) (Or.inr ⟨by rfl, rfl⟩) ?_
        simp only [Act.put, List.setIfInBounds_toArray, List.set_cons_zero, List.set_cons_succ]
        refine G_hold (i := 16) (v := undef) rfl (by kernel_rfl) (fun _ _ _ h => h) (Or.inr ⟨by rfl, rfl⟩) ?_
        simp only [Act.put, List.setIfInBounds_toArray, List.set_cons_zero, List.set_cons_succ]
        refine G_hold (i := 17) (v := undef) rfl (by kernel_rfl) (fun _ _ _ h => h) (Or.inr ⟨by rfl, rfl⟩) ?_
        simp only [Act.put, List.setIfInBounds_toArray, List.set_cons_zero, List.set_cons_succ]
        refine G_hold (i := 18) (v := undef) rfl (by kernel_rfl) (fun _ _ _ h => h) (Or.inr ⟨by rfl, rfl⟩) ?_
        simp only [Act.put, List.setIfInBounds_toArray, List.set_cons_zero, List.set_cons_succ]
        refine G_one (k := 19) rfl (by kernel_rfl) (fun K hK => ?_)
        have HK := Lib.hid hK
        clear hK
        go_wp2
        refine HK.out _ _ (fun _ => hw2) ?_
        clear HK K
        refine G_hold (i := 20) (v := ?_) rfl (by kernel_rfl) (fun _ _ _ h => h) (Or.inl ⟨by rfl, fun V hV => ?_⟩) ?_
        rotate_left
        · go_simp; with_reducible rfl
        simp only [Act.put, List.setIfInBounds_toArray, List.set_cons_zero, List.set_cons_succ]
        refine G_hold (i := 21) (v := ?_) rfl (by kernel_rfl) (fun _ _ _ h => h) (Or.inl ⟨by rfl, fun V hV => ?_⟩) ?_
        rotate_left
        · go_simp; with_reducible rfl
        simp only [Act.put, List.setIfInBounds_toArray, List.set_cons_zero, List.set_cons_succ]
        refine G_hold (i := 22) (v := undef) rfl (by kernel_rfl) (fun _ _ _ h => h) (Or.inr ⟨by rfl, rfl⟩) ?_
        simp only [Act.put, List.setIfInBounds_toArray, List.set_cons_zero, List.set_cons_succ]
        refine G_hold (i := 23) (v := undef) rfl (by kernel_rfl) (fun _ _ _ h => h) (Or.inr ⟨by rfl, rfl⟩) ?_
        simp only [Act.put, List.setIfInBounds_toArray, List.set_cons_zero, List.set_cons_succ]
        refine G_hold (i := 24) (v := undef) rfl (by kernel_rfl) (fun _ _ _ h => h) (Or.inr ⟨by rfl, rfl⟩) ?_
        simp only [Act.put, List.setIfInBounds_toArray, List.set_cons_zero, List.set_cons_succ]
        refine G_hold (i := 25) (v := undef) rfl (by kernel_rfl) (fun _ _ _ h => h) (Or.inr ⟨by rfl, rfl⟩) ?_
        simp only [Act.put, List.setIfInBounds_toArray, List.set_cons_zero, List.set_cons_succ]
        refine G_hold (i := 26) (v := undef) rfl (by kernel_rfl) (fun _ _ _ h => h) (Or.inr ⟨by rfl, rfl⟩) ?_
        simp only [Act.put, List.setIfInBounds_toArray, List.set_cons_zero, List.set_cons_succ]
        refine G_hold (i := 27) (v := undef) rfl (by kernel_rfl) (fun _ _ _ h => h) (Or.inr ⟨by rfl, rfl⟩) ?_
        simp only [Act.put, List.setIfInBounds_toArray, List.set_cons_zero, List.set_cons_succ]
        refine G_one (k := 28) rfl (by kernel_rfl) (fun K hK => ?_)
        have HK := Lib.hid hK
        clear hK
        go_wp2
        refine HK.out _ _ (fun _ => hw2) ?_
        clear HK K
        refine G_hold (i := 29) (v := ?_) rfl (by kernel_rfl) (fun _ _ _ h => h) (Or.inl ⟨by rfl, fun V hV => ?_⟩) ?_
        rotate_left
        · go_simp; with_reducible rfl
        simp only [Act.put, List.setIfInBounds_toArray, List.set_cons_zero, List.set_cons_succ]
        refine G_hold (i := 30) (v := ?_) rfl (by kernel_rfl) (fun _ _ _ h => h) (Or.inl ⟨by rfl, fun V hV => ?_⟩) ?_
        rotate_left
        · go_simp; with_reducible rfl
        simp only [Act.put, List.setIfInBounds_toArray, List.set_cons_zero, List.set_cons_succ]
        refine G_done (by kernel_rfl) ?_
        have hz := HB.out.trans ((hd2.trans (hw2.mono hd2.size)).mono HB.out.size)
        go_wp2
        go_ret
        exact ⟨by rw [HH.out, H1.out, H2.out]; rfl, hz⟩
      | true =>
        have H2 := Lib.hid h2
        clear h2
        cases h3 : al.all (alB b) with
        | false =>
          have H3 := Lib.hid h3
          clear h3
          go_wp2
          have hd2 : Below w2.heap.size w2 w2.drew := (Below.refl _ _).drew
          have hw0 : Below w2.heap.size w2 w2.drew := hd2
          refine wp_region_gate (fun V => Below w2.heap.size w2 V) 100 (by kernel_rfl) hw0 ?_
          change AtG _ _ _ _ _ _ _ _ _ w2.drew
          clear hd2
          have hd2 := Below.refl w2.heap.size w2
          generalize w2.drew = W0 at hw0 ⊢
          refine G_hold (i := 0) (v := ?_) rfl (by kernel_rfl) (fun _ _ _ h => h) (Or.inl ⟨by rfl, fun V hV => ?_⟩) ?_
          rotate_left
          · go_simp; with_reducible rfl
          simp only [Act.put, List.setIfInBounds_toArray, List.set_cons_zero, List.set_cons_succ]
          refine G_hold (i := 1) (v := ?_) rfl (by kernel_rfl) (fun _ _ _ h => h) (Or.inl ⟨by rfl, fun V hV => ?_⟩) ?_
          rotate_left
          · go_simp; with_reducible rfl
          simp only [Act.put, List.setIfInBounds_toArray, List.set_cons_zero, List.set_cons_succ]
          refine G_hold (i := 2) (v := ?_) rfl (by kernel_rfl) (fun _ _ _ h => h) (Or.inl ⟨by rfl, fun V hV => ?_⟩) ?_
          rotate_left
          · go_simp; with_reducible rfl
          simp only [Act.put, List.setIfInBounds_toArray, List.set_cons_zero, List.set_cons_succ]
          refine G_hold (i := 3) (v := ?_) rfl (by kernel_rfl) (fun _ _ _ h => h) (Or.inl ⟨by rfl, fun V hV => ?_⟩) ?_
          rotate_left
          · have c4 := bel_cell hV c4; go_simp; with_reducible rfl
          simp only [Act.put, List.setIfInBounds_toArray, List.set_cons_zero, List.set_cons_succ]
          refine G_hold (i := 4) (v := ?_) rfl (by kernel_rfl) (fun _ _ _ h => h) (Or.inl ⟨by rfl, fun V hV => ?_⟩) ?_
          rotate_left
          · go_simp; with_reducible rfl
          simp only [Act.put, List.setIfInBounds_toArray, List.set_cons_zero, List.set_cons_succ]
          refine G_one (k := 5) rfl (by kernel_rfl) (fun K hK => ?_)
          have HK := Lib.hid hK
          clear hK
          go_wp2_with fail
          refine (allX ⟨w.heap.size, 0, none⟩ (fun t : Ex => b t) l W0 (fun j t hj => sayE _ lev (by omega) (by omega) t (b t) _ (HA.out t) (HR.out.on hw0) (bel_cell hw0 d1)) P _ (X4.out.on hw0)).mono ?_
          rw [H1.out]
          rintro e W1 ⟨rfl, hb1⟩
          have hw1 := hw0.trans (hb1.mono hw0.size)
          clear hb1
          go_wp2
          refine HK.out _ _ (fun _ => hw1) ?_
          clear HK K
          refine G_hold (i := 6) (v := ?_) rfl (by kernel_rfl) (fun _ _ _ h => h) (Or.inl ⟨by rfl, fun V hV => ?_⟩) ?_
          rotate_left
          · go_simp; with_reducible rfl
          simp only [Act.put, List.setIfInBounds_toArray, List.set_cons_zero, List.set_cons_succ]
          refine G_hold (i := 7) (v := ?_) rfl (by kernel_rfl) (fun _ _ _ h => h) (Or.inl ⟨by rfl, fun V hV => ?_⟩) ?_
          rotate_left
          · go_simp; with_reducible rfl
          simp only [Act.put, List.setIfInBounds_toArray, List.set_cons_zero, List.set_cons_succ]
          refine G_hold (i := 8) (v := ?_) rfl (by kernel_rfl) (fun _ _ _ h => h) (Or.inl ⟨by rfl, fun V hV => ?_⟩) ?_
          rotate_left
          · go_simp; with_reducible rfl
          simp only [Act.put, List.setIfInBounds_toArray, List.set_cons_zero, List.set_cons_succ]
          refine G_hold (i := 9) (v := ?_) rfl (by kernel_rfl) (fun _ _ _ h => h) (Or.inl ⟨by rfl, fun V hV => ?_⟩) ?_
          rotate_left
          · go_simp; with_reducible rfl
          simp only [Act.put, List.setIfInBounds_toArray, List.set_cons_zero, List.set_cons_succ]
          refine G_hold (i := 10) (v := ?_) rfl (by kernel_rfl) (fun _ _ _ h => h) (Or.inl ⟨by rfl, fun V hV => ?_⟩) ?_
          rotate_left
          · have c5 := bel_cell hV c5; go_simp; with_reducible rfl
          simp only [Act.put, List.setIfInBounds_toArray, List.set_cons_zero, List.set_cons_succ]
          refine G_one (k := 11) rfl (by kernel_rfl) (fun K hK => ?_)
          have HK := Lib.hid hK
          clear hK
          go_wp2_with fail
          refine (pats_any ps P _ W1 (HR.out.on hw1) (X5.out.on hw1)).mono ?_
          rw [H2.out]
          rintro e W2 ⟨rfl, hb2⟩
          have hw2 := hw1.trans (hb2.mono hw1.size)
          clear hb2
          go_wp2
          refine HK.out _ _ (fun _ => hw2) ?_
          clear HK K
          refine G_hold (i := 12) (v := ?_) rfl (by kernel_rfl) (fun _ _ _ h => h) (Or.inl ⟨by rfl, fun V hV => ?_⟩) ?_
          rotate_left
          · go_simp; with_reducible rfl
          simp only [Act.put, List.setIfInBounds_toArray, List.set_cons_zero, List.set_cons_succ]
          refine G_hold (i := 13) (v := ?_) rfl (by kernel_rfl) (fun _ _ _ h => h) (Or.inl ⟨by rfl, fun V hV => ?_⟩) ?_
          rotate_left
          · go_simp; with_reducible rfl
          simp only [Act.put, List.setIfInBounds_toArray, List.set_cons_zero, List.set_cons_succ]
          refine G_hold (i := 14) (v := ?_) rfl (by kernel_rfl) (fun _ _ _ h => h) (Or.inl ⟨by rfl, fun V hV => ?_⟩) ?_
          rotate_left
          · go_simp; with_reducible rfl
          simp only [Act.put, List.setIfInBounds_toArray, List.set_cons_zero, List.set_cons_succ]
          refine G_hold (i := 15) (v := ?_) rfl (by kernel_rfl) (fun _ _ _ h => h) (Or.inl ⟨by rfl, fun V hV => ?_⟩) ?_
          rotate_left
          · go_simp; with_reducible rfl
          simp only [Act.put, List.setIfInBounds_toArray, List.set_cons_zero, List.set_cons_succ]
          refine G_hold (i := 16) (v := ?_) rfl (by kernel_rfl) (fun _ _ _ h => h) (Or.inl ⟨by rfl, fun V hV => ?_⟩) ?_
          rotate_left
          · go_simp; with_reducible rfl
          simp only [Act.put, List.setIfInBounds_toArray, List.set_cons_zero, List.set_cons_succ]
          refine G_hold (i := 17) (v := ?_) rfl (by kernel_rfl) (fun _ _ _ h => h) (Or.inl ⟨by rfl, fun V hV => ?_⟩) ?_
          rotate_left
          · have c6 := bel_cell hV c6; go_simp; with_reducible rfl
          simp only [Act.put, List.setIfInBounds_toArray, List.set_cons_zero, List.set_cons_succ]
          refine G_hold (i := 18) (v := ?_) rfl (by kernel_rfl) (fun _ _ _ h => h) (Or.inl ⟨by rfl, fun V hV => ?_⟩) ?_
          rotate_left
          · go_simp; with_reducible rfl
          simp only [Act.put, List.setIfInBounds_toArray, List.set_cons_zero, List.set_cons_succ]
          refine G_one (k := 19) rfl (by kernel_rfl) (fun K hK => ?_)
          have HK := Lib.hid hK
          clear hK
          go_wp2_with fail
          refine (allA ⟨w.heap.size, 0, none⟩ (alB b) al W2 (fun j t hj => sayA _ lev (by omega) (by omega) t b _ (HA.out t.body') (HR.out.on hw2) (bel_cell hw2 d1)) P _ (X6.out.on hw2)).mono ?_
          rw [H3.out]
          rintro e W3 ⟨rfl, hb3⟩
          have hw3 := hw2.trans (hb3.mono hw2.size)
          clear hb3
          go_wp2
          refine HK.out _ _ (fun _ => hw3) ?_
          clear HK K
          refine G_hold (i := 20) (v := ?_) rfl (by kernel_rfl) (fun _ _ _ h => h) (Or.inl ⟨by rfl, fun V hV => ?_⟩) ?_
          rotate_left
          · go_simp; with_reducible rfl
          simp only [Act.put, List.setIfInBounds_toArray, List.set_cons_zero, List.set_cons_succ]
          refine G_hold (i := 21) (v := ?_) rfl (by kernel_rfl) (fun _ _ _ h => h) (Or.inl ⟨by rfl, fun V hV => ?_⟩) ?_
          rotate_left
          · go_simp; with_reducible rfl
          simp only [Act.put, List.setIfInBounds_toArray, List.set_cons_zero, List.set_cons_succ]
          refine G_hold (i := 22) (v := undef) rfl (by kernel_rfl) (fun _ _ _ h => h) (Or.inr ⟨by rfl, rfl⟩) ?_
          simp only [Act.put, List.setIfInBounds_toArray, List.set_cons_zero, List.set_cons_succ]
          refine G_hold (i := 23) (v := undef) rfl (by kernel_rfl) (fun _ _ _ h => h) (Or.inr ⟨by rfl, rfl⟩) ?_
          simp only [Act.put, List.setIfInBounds_toArray, List.set_cons_zero, List.set_cons_succ]
          refine G_hold (i := 24) (v := undef) rfl (by kernel_rfl) (fun _ _ _ h => h) (Or.inr ⟨by rfl, rfl⟩) ?_
          simp only [Act.put, List.setIfInBounds_toArray, List.set_cons_zero, List.set_cons_succ]
          refine G_hold (i := 25) (v := undef) rfl (by kernel_rfl) (fun _ _ _ h => h) (Or.inr ⟨by rfl, rfl⟩) ?_
          simp only [Act.put, List.setIfInBounds_toArray, List.set_cons_zero, List.set_cons_succ]
          refine G_hold (i := 26) (v := undef) rfl (by kernel_rfl) (fun _ _ _ h => h) (Or.inr ⟨by rfl, rfl⟩) ?_
          simp only [Act.put, List.setIfInBounds_toArray, List.set_cons_zero, List.set_cons_succ]
          refine G_hold (i := 27) (v := undef) rfl (by kernel_rfl) (fun _ _ _ h => h) (Or.inr ⟨by rfl, rfl⟩) ?_
          simp only [Act.put, List.setIfInBounds_toArray, List.set_cons_zero, List.set_cons_succ]
          refine G_one (k := 28) rfl (by kernel_rfl) (fun K hK => ?_)
          have HK := Lib.hid hK
          clear hK
          go_wp2
          refine HK.out _ _ (fun _ => hw3) ?_
          clear HK K
          refine G_hold (i := 29) (v := ?_) rfl (by kernel_rfl) (fun _ _ _ h => h) (Or.inl ⟨by rfl, fun V hV => ?_⟩) ?_
          rotate_left
          · go_simp; with_reducible rfl
          simp only [Act.put, List.setIfInBounds_toArray, List.set_cons_zero, List.set_cons_succ]
          refine G_hold (i := 30) (v := ?_) rfl (by kernel_rfl) (fun _ _ _ h => h) (Or.inl ⟨by rfl, fun V hV => ?_⟩) ?_
          rotate_left
          · go_simp; with_reducible rfl
          simp only [Act.put, List.setIfInBounds_toArray, List.set_cons_zero, List.set_cons_succ]
          refine G_done (by kernel_rfl) ?_
          have hz := HB.out.trans ((hd2.trans (hw3.mono hd2.size)).mono HB.out.size)
          go_wp2
          go_ret
          exact ⟨by rw [HH.out, H1.out, H2.out, H3.out]; rfl, hz⟩
        | true =>
          have H3 := Lib.hid h3
          clear h3
          go_wp2
          have hd2 : Below w2.heap.size w2 w2.drew := (Below.refl _ _).drew
          have hw0 : Below w2.heap.size w2 w2.drew := hd2
          refine wp_region_gate (fun V => Below w2.heap.size w2 V) 100 (by kernel_rfl) hw0 ?_
          change AtG _ _ _ _ _ _ _ _ _ w2.drew
          clear hd2
          have hd2 := Below.refl w2.heap.size w2
          generalize w2.drew = W0 at hw0 ⊢
          refine G_hold (i := 0) (v := ?_) rfl (by kernel_rfl) (fun _ _ _ h => h) (Or.inl ⟨by rfl, fun V hV => ?_⟩) ?_
          rotate_left
          · go_simp; with_reducible rfl
          simp only [Act.put, List.setIfInBounds_toArray, List.set_cons_zero, List.set_cons_succ]
          refine G_hold (i := 1) (v := ?_) rfl (by kernel_rfl) (fun _ _ _ h => h) (Or.inl ⟨by rfl, fun V hV => ?_⟩) ?_
          rotate_left
          · go_simp; with_reducible rfl
          simp only [Act.put, List.setIfInBounds_toArray, List.set_cons_zero, List.set_cons_succ]
          refine G_hold (i := 2) (v := ?_) rfl (by kernel_rfl) (fun _ _ _ h => h) (Or.inl ⟨by rfl, fun V hV => ?_⟩) ?_
          rotate_left
          · go_simp; with_reducible rfl
          simp only [Act.put, List.setIfInBounds_toArray, List.set_cons_zero, List.set_cons_succ]
          refine G_hold (i := 3) (v := ?_) rfl (by kernel_rfl) (fun _ _ _ h => h) (Or.inl ⟨by rfl, fun V hV => ?_⟩) ?_
          rotate_left
          · have c4 := bel_cell hV c4; go_simp; with_reducible rfl
          simp only [Act.put, List.setIfInBounds_toArray, List.set_cons_zero, List.set_cons_succ]
          refine G_hold (i := 4) (v := ?_) rfl (by kernel_rfl) (fun _ _ _ h => h) (Or.inl ⟨by rfl, fun V hV => ?_⟩) ?_
          rotate_left
          · go_simp; with_reducible rfl
          simp only [Act.put, List.setIfInBounds_toArray, List.set_cons_zero, List.set_cons_succ]
          refine G_one (k := 5) rfl (by kernel_rfl) (fun K hK => ?_)
          have HK := Lib.hid hK
          clear hK
          go_wp2_with fail
          refine (allX ⟨w.heap.size, 0, none⟩ (fun t : Ex => b t) l W0 (fun j t hj => sayE _ lev (by omega) (by omega) t (b t) _ (HA.out t) (HR.out.on hw0) (bel_cell hw0 d1)) P _ (X4.out.on hw0)).mono ?_
          rw [H1.out]
          rintro e W1 ⟨rfl, hb1⟩
          have hw1 := hw0.trans (hb1.mono hw0.size)
          clear hb1
          go_wp2
          refine HK.out _ _ (fun _ => hw1) ?_
          clear HK K
          refine G_hold (i := 6) (v := ?_) rfl (by kernel_rfl) (fun _ _ _ h => h) (Or.inl ⟨by rfl, fun V hV => ?_⟩) ?_
          rotate_left
          · go_simp; with_reducible rfl
          simp only [Act.put, List.setIfInBounds_toArray, List.set_cons_zero, List.set_cons_succ]
          refine G_hold (i := 7) (v := ?_) rfl (by kernel_rfl) (fun _ _ _ h => h) (Or.inl ⟨by rfl, fun V hV => ?_⟩) ?_
          rotate_left
          · go_simp; with_reducible rfl
          simp only [Act.put, List.setIfInBounds_toArray, List.set_cons_zero, List.set_cons_succ]
          refine G_hold (i := 8) (v := ?_) rfl (by kernel_rfl) (fun _ _ _ h => h) (Or.inl ⟨by rfl, fun V hV => ?_⟩) ?_
          rotate_left
          · go_simp; with_reducible rfl
          simp only [Act.put, List.setIfInBounds_toArray, List.set_cons_zero, List.set_cons_succ]
          refine G_hold (i := 9) (v := ?_) rfl (by kernel_rfl) (fun _ _ _ h => h) (Or.inl ⟨by rfl, fun V hV => ?_⟩) ?_
          rotate_left
          · go_simp; with_reducible rfl
          simp only [Act.put, List.setIfInBounds_toArray, List.set_cons_zero, List.set_cons_succ]
          refine G_hold (i := 10) (v := ?_) rfl (by kernel_rfl) (fun _ _ _ h => h) (Or.inl ⟨by rfl, fun V hV => ?_⟩) ?_
          rotate_left
          · have c5 := bel_cell hV c5; go_simp; with_reducible rfl
          simp only [Act.put, List.setIfInBounds_toArray, List.set_cons_zero, List.set_cons_succ]
          refine G_one (k := 11) rfl (by kernel_rfl) (fun K hK => ?_)
          have HK := Lib.hid hK
          clear hK
          go_wp2_with fail
          refine (pats_any ps P _ W1 (HR.out.on hw1) (X5.out.on hw1)).mono ?_
          rw [H2.out]
          rintro e W2 ⟨rfl, hb2⟩
          have hw2 := hw1.trans (hb2.mono hw1.size)
          clear hb2
          go_wp2
          refine HK.out _ _ (fun _ => hw2) ?_
          clear HK K
          refine G_hold (i := 12) (v := ?_) rfl (by kernel_rfl) (fun _ _ _ h => h) (Or.inl ⟨by rfl, fun V hV => ?_⟩) ?_
          rotate_left
          · go_simp; with_reducible rfl
          simp only [Act.put, List.setIfInBounds_toArray, List.set_cons_zero, List.set_cons_succ]
          refine G_hold (i := 13) (v := ?_) rfl (by kernel_rfl) (fun _ _ _ h => h) (Or.inl ⟨by rfl, fun V hV => ?_⟩) ?_
          rotate_left
          · go_simp; with_reducible rfl
          simp only [Act.put, List.setIfInBounds_toArray, List.set_cons_zero, List.set_cons_succ]
          refine G_hold (i := 14) (v := ?_) rfl (by kernel_rfl) (fun _ _ _ h => h) (Or.inl ⟨by rfl, fun V hV => ?_⟩) ?_
          rotate_left
          · go_simp; with_reducible rfl
          simp only [Act.put, List.setIfInBounds_toArray, List.set_cons_zero, List.set_cons_succ]
          refine G_hold (i := 15) (v := ?_) rfl (by kernel_rfl) (fun _ _ _ h => h) (Or.inl ⟨by rfl, fun V hV => ?_⟩) ?_
          rotate_left
          · go_simp; with_reducible rfl
          simp only [Act.put, List.setIfInBounds_toArray, List.set_cons_zero, List.set_cons_succ]
          refine G_hold (i := 16) (v := ?_) rfl (by kernel_rfl) (fun _ _ _ h => h) (Or.inl ⟨by rfl, fun V hV => ?_⟩) ?_
          rotate_left
          · go_simp; with_reducible rfl
          simp only [Act.put, List.setIfInBounds_toArray, List.set_cons_zero, List.set_cons_succ]
          refine G_hold (i := 17) (v := ?_) rfl (by kernel_rfl) (fun _ _ _ h => h) (Or.inl ⟨by rfl, fun V hV => ?_⟩) ?_
          rotate_left
          · have c6 := bel_cell hV c6; go_simp; with_reducible rfl
          simp only [Act.put, List.setIfInBounds_toArray, List.set_cons_zero, List.set_cons_succ]
          refine G_hold (i := 18) (v := ?_) rfl (by kernel_rfl) (fun _ _ _ h => h) (Or.inl ⟨by rfl, fun V hV => ?_⟩) ?_
          rotate_left
          · go_simp; with_reducible rfl
          simp only [Act.put, List.setIfInBounds_toArray, List.set_cons_zero, List.set_cons_succ]
          refine G_one (k := 19) rfl (by kernel_rfl) (fun K hK => ?_)
          have HK := Lib.hid hK
          clear hK
          go_wp2_with fail
          refine (allA ⟨w.heap.size, 0, none⟩ (alB b) al W2 (fun j t hj => sayA _ lev (by omega) (by omega) t b _ (HA.out t.body') (HR.out.on hw2) (bel_cell hw2 d1)) P _ (X6.out.on hw2)).mono ?_
          rw [H3.out]
          rintro e W3 ⟨rfl, hb3⟩
          have hw3 := hw2.trans (hb3.mono hw2.size)
          clear hb3
          go_wp2
          refine HK.out _ _ (fun _ => hw3) ?_
          clear HK K
          refine G_hold (i := 20) (v := ?_) rfl (by kernel_rfl) (fun _ _ _ h => h) (Or.inl ⟨by rfl, fun V hV => ?_⟩) ?_
          rotate_left
          · go_simp; with_reducible rfl
          simp only [Act.put, List.setIfInBounds_toArray, List.set_cons_zero, List.set_cons_succ]
          refine G_hold (i := 21) (v := ?_) rfl (by kernel_rfl) (fun _ _ _ h => h) (Or.inl ⟨by rfl, fun V hV => ?_⟩) ?_
          rotate_left
          · go_simp; with_reducible rfl
          simp only [Act.put, List.setIfInBounds_toArray, List.set_cons_zero, List.set_cons_succ]
          refine G_hold (i := 22) (v := ?_) rfl (by kernel_rfl) (fun _ _ _ h => h) (Or.inl ⟨by rfl, fun V hV => ?_⟩) ?_
          rotate_left
          · go_simp; with_reducible rfl
          simp only [Act.put, List.setIfInBounds_toArray, List.set_cons_zero, List.set_cons_succ]
          refine G_hold (i := 23) (v := ?_) rfl (by kernel_rfl) (fun _ _ _ h => h) (Or.inl ⟨by rfl, fun V hV => ?_⟩) ?_
          rotate_left
          · go_simp; with_reducible rfl
          simp only [Act.put, List.setIfInBounds_toArray, List.set_cons_zero, List.set_cons_succ]
          refine G_hold (i := 24) (v := ?_) rfl (by kernel_rfl) (fun _ _ _ h => h) (Or.inl ⟨by rfl, fun V hV => ?_⟩) ?_
          rotate_left
          · go_simp; with_reducible rfl
          simp only [Act.put, List.setIfInBounds_toArray, List.set_cons_zero, List.set_cons_succ]
          refine G_hold (i := 25) (v := ?_) rfl (by kernel_rfl) (fun _ _ _ h => h) (Or.inl ⟨by rfl, fun V hV => ?_⟩) ?_
          rotate_left
          · have c7 := bel_cell hV c7; go_simp; with_reducible rfl
          simp only [Act.put, List.setIfInBounds_toArray, List.set_cons_zero, List.set_cons_succ]
          refine G_hold (i := 26) (v := ?_) rfl (by kernel_rfl) (fun _ _ _ h => h) (Or.inl ⟨by rfl, fun V hV => ?_⟩) ?_
          rotate_left
          · have d1 := bel_cell hV d1; go_simp; with_reducible rfl
          simp only [Act.put, List.setIfInBounds_toArray, List.set_cons_zero, List.set_cons_succ]
          refine G_hold (i := 27) (v := ?_) rfl (by kernel_rfl) (fun _ _ _ h => h) (Or.inl ⟨by rfl, fun V hV => ?_⟩) ?_
          rotate_left
          · go_simp; with_reducible rfl
          simp only [Act.put, List.setIfInBounds_toArray, List.set_cons_zero, List.set_cons_succ]
          refine G_one (k := 28) rfl (by kernel_rfl) (fun K hK => ?_)
          have HK := Lib.hid hK
          clear hK
          go_wp2_with fail
          refine (des_any ds false (lev + 1) b (fun j d _ => HA.out d.body') P _ W3 (HR.out.on hw3) (X7.out.on hw3)).mono ?_
          rintro e W4 ⟨rfl, hb4⟩
          have hw4 := hw3.trans (hb4.mono hw3.size)
          clear hb4
          go_wp2
          refine HK.out _ _ (fun _ => hw4) ?_
          clear HK K
          refine G_hold (i := 29) (v := ?_) rfl (by kernel_rfl) (fun _ _ _ h => h) (Or.inl ⟨by rfl, fun V hV => ?_⟩) ?_
          rotate_left
          · go_simp; with_reducible rfl
          simp only [Act.put, List.setIfInBounds_toArray, List.set_cons_zero, List.set_cons_succ]
          refine G_hold (i := 30) (v := ?_) rfl (by kernel_rfl) (fun _ _ _ h => h) (Or.inl ⟨by rfl, fun V hV => ?_⟩) ?_
          rotate_left
          · go_simp; with_reducible rfl
          simp only [Act.put, List.setIfInBounds_toArray, List.set_cons_zero, List.set_cons_succ]
          refine G_done (by kernel_rfl) ?_
          have hz := HB.out.trans ((hd2.trans (hw4.mono hd2.size)).mono HB.out.size)
          go_wp2
          go_ret
          exact ⟨by rw [HH.out, H1.out, H2.out, H3.out]; rfl, hz⟩
theorem al_rt (t : Al) (left : Nat) : t.rt left = alB (fun e => e.rt left) t := by cases t; rw [Al.rt]; rfl
theorem de_rt (t : De) (top : Bool) (left : Nat) : t.rt top left = deB top (fun e => e.rt left) t := by cases t; rw [De.rt]; rfl
theorem rtE_all : ∀ (left : Nat) (t : Ex), left ≤ 400 → RtE (401 - (left : Int)) t (t.rt left)
  | 0, t, _ => by
    have e : t.rt 0 = false := by cases t; rw [Ex.rt]; rfl
    rw [e]
    exact rtE_zero _ (by omega) t
  | left + 1, .mk k p n m l ps al ds, h => by
    have e : (Ex.mk k p n m l ps al ds).rt (left + 1) = (exHd k n m l.length ps.length al.length ds.length && (l.all (fun t => t.rt left) && (patsB ps && (al.all (alB fun t => t.rt left) && (decide ((ds.length : Int) ≤ 512) && ds.all (deB false fun t => t.rt left)))))) := by
      rw [Ex.rt, decide_eq_true (by omega : 1 ≤ left + 1), Bool.true_and, Nat.add_sub_cancel, Ex.rts_all, Al.rts_all, De.rts_all]
      simp only [al_rt, de_rt]
    rw [e]
    refine rtE_succ k p m n l ps al ds _ (by omega) (by omega) (fun t => t.rt left) fun t => ?_
    rw [show (401 - ((left + 1 : Nat) : Int)) + 1 = 401 - (left : Int) by omega]
    exact rtE_all left t (by omega)
set_option maxHeartbeats 1600000 in
set_option maxRecDepth 100000 in
theorem rightT_any (t : Ty) (P : Nat → Prop) (vs : List Value) (w : World) (hr : RangeOk w) (hv : IsVs w P t.row vs) :
    Calls Tryz.prog 9 #[.agg vs.toArray] w fun e' w' => e' = .returned (.bool (t.rt 400)) ∧ Below w.heap.size w w' := by
  obtain ⟨o1, ho1⟩ : ∃ o : Obj, o = .cells vs.toArray 39 := ⟨_, rfl⟩
  have hb1 := bl_alloc o1 (Below.refl w.heap.size w)
  have hv1 := IsVs.on hb1 _ _ hv
  have hr1 := hr.on hb1
  have g1 := heap_alloc_new w o1
  have HK := Lib.hid (rtT_all 400 t (Nat.le_refl _))
  obtain ⟨tk, tp, tn, tl⟩ := t
  obtain ⟨a, b, rfl, _⟩ := ty_vs hv
  clear hv hr
  go_enter Tryz.func9, Tryz.ntmps9
  go_upto_region 1 with fail
  rw [← ho1]
  generalize w.alloc o1 = W at hb1 hv1 hr1 g1 ⊢
  subst ho1
  have HH := Lib.hid (HK.out P ⟨w.heap.size, 0, none⟩ W hr1 ⟨row_at hv1 g1⟩)
  clear g1 hv1 hr1
  go_wp2_with fail
  refine HH.out.mono ?_
  rintro e' w' ⟨rfl, hb2⟩
  go_wp2
  go_ret
  exact ⟨rfl, hb1.trans (hb2.mono hb1.size)⟩
set_option maxHeartbeats 1600000 in
set_option maxRecDepth 100000 in
theorem rightP_any (t : Pa) (P : Nat → Prop) (vs : List Value) (w : World) (hr : RangeOk w) (hv : IsVs w P t.row vs) :
    Calls Tryz.prog 12 #[.agg vs.toArray] w fun e' w' => e' = .returned (.bool (t.rt 400)) ∧ Below w.heap.size w w' := by
  obtain ⟨o1, ho1⟩ : ∃ o : Obj, o = .cells vs.toArray 45 := ⟨_, rfl⟩
  have hb1 := bl_alloc o1 (Below.refl w.heap.size w)
  have hv1 := IsVs.on hb1 _ _ hv
  have hr1 := hr.on hb1
  have g1 := heap_alloc_new w o1
  have HK := Lib.hid (rtP_all 400 t (Nat.le_refl _))
  obtain ⟨tk, tp, tn, tm, tl⟩ := t
  obtain ⟨a, b, rfl, _⟩ := pa_vs hv
  clear hv hr
  go_enter Tryz.func12, Tryz.ntmps12
  go_upto_region 1 with fail
  rw [← ho1]
  generalize w.alloc o1 = W at hb1 hv1 hr1 g1 ⊢
  subst ho1
  have HH := Lib.hid (HK.out P ⟨w.heap.size, 0, none⟩ W hr1 ⟨row_at hv1 g1⟩)
  clear g1 hv1 hr1
  go_wp2_with fail
  refine HH.out.mono ?_
  rintro e' w' ⟨rfl, hb2⟩
  go_wp2
  go_ret
  exact ⟨rfl, hb1.trans (hb2.mono hb1.size)⟩
set_option maxHeartbeats 1600000 in
set_option maxRecDepth 100000 in
theorem rightE_any (t : Ex) (P : Nat → Prop) (vs : List Value) (w : World) (hr : RangeOk w) (hv : IsVs w P t.row vs) :
    Calls Tryz.prog 15 #[.agg vs.toArray] w fun e' w' => e' = .returned (.bool (t.rt 400)) ∧ Below w.heap.size w w' := by
  obtain ⟨o1, ho1⟩ : ∃ o : Obj, o = .cells vs.toArray 53 := ⟨_, rfl⟩
  have hb1 := bl_alloc o1 (Below.refl w.heap.size w)
  have hv1 := IsVs.on hb1 _ _ hv
  have hr1 := hr.on hb1
  have g1 := heap_alloc_new w o1
  have HK := Lib.hid (rtE_all 400 t (Nat.le_refl _))
  obtain ⟨xk, xp, xn, xm, xl, xps, xal, xds⟩ := t
  obtain ⟨_, a4, a5, a6, a7, b4, b5, b6, b7, rfl, _⟩ := ex_vs hv
  clear hv hr
  go_enter Tryz.func15, Tryz.ntmps15
  go_upto_region 1 with fail
  rw [← ho1]
  generalize w.alloc o1 = W at hb1 hv1 hr1 g1 ⊢
  subst ho1
  have HH := Lib.hid (HK.out P ⟨w.heap.size, 0, none⟩ W hr1 ⟨row_at hv1 g1⟩)
  clear g1 hv1 hr1
  go_wp2_with fail
  refine HH.out.mono ?_
  rintro e' w' ⟨rfl, hb2⟩
  go_wp2
  go_ret
  exact ⟨rfl, hb1.trans (hb2.mono hb1.size)⟩
set_option maxHeartbeats 800000 in
theorem rightDs_any (l : List De) (top : Bool) (P : Nat → Prop) (v : Value) (w : World) (hr : RangeOk w) (hs : IsDes w P v l) :
    Calls Tryz.prog 18 #[v, .bool top] w fun e' w' => e' = .returned (.bool (desB l top 400)) ∧ Below w.heap.size w w' := by
  obtain ⟨ao, cap, rfl, v1, v2⟩ := hs.form
  have e : desB l top 400 = (decide ((l.length : Int) ≤ 512) && l.all (deB top fun t => t.rt 400)) := by
    unfold desB
    simp only [de_rt]
  rw [e]
  have HQ := Lib.hid (des_any l top 1 (fun t => t.rt 400) (fun j d _ => rtE_all 400 d.body' (Nat.le_refl _)) P _ w hr hs)
  clear hs hr
  go_enter Tryz.func18, Tryz.ntmps18
  go_wp2_with fail
  refine HQ.out.mono ?_
  rintro e' w' ⟨rfl, hb2⟩
  go_wp2
  go_ret
  exact ⟨rfl, hb2⟩
end Go.Proofs.YtkdhoelabomgkaaGreatDoor
