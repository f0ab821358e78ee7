/- Texts of this proof, joined: OwnT2, RSameT, RSameP. No condition. -/
import Derived.Test.YtkdhoelabomgkaaGreatDoorMa09
import Derived.Maps.AppendAt
import Derived.Test.YtkdhoelabomgkaaGreatDoorMa01
/-
  Layer 3, the law's side: ownTypes, OwnType.
-/
namespace Go.Proofs.YtkdhoelabomgkaaGreatDoor
set_option linter.unusedVariables false
open Go.ChangeShapes Go.WideShapes Go.ChangeAt Go.RowKit

theorem info_parts' {o : Option TypeInfo} {z : Value} {sz by_ : Nat} (h : o.map (fun i => (i.zero, i.size, i.bytes)) = some (some z, sz, by_)) : ∃ i, o = some i ∧ i.zero = some z ∧ i.size = sz ∧ i.bytes = by_ := by
  cases o with
  | none => cases h
  | some i =>
    simp only [Option.map_some, Option.some.injEq, Prod.mk.injEq] at h
    exact ⟨i, rfl, h.1, h.2.1, h.2.2⟩
theorem info_ty : (Tryz.prog.info? 39).map (fun i => (i.zero, i.size, i.bytes)) = some (some (.agg #[.int .i64 0, .int .i64 0, .string ⟨#[]⟩, .slice none 0 0]), 4, 56) := by kernel_rfl
theorem cell_four_new (W : World) (a b c d : Value) (t : TypeId) : ∀ j u, [a, b, c, d][j]? = some u → (W.alloc (.cells #[a, b, c, d] t)).cell? ((⟨W.heap.size, 0, none⟩ : Addr).add j) = some u := by
  intro j u hj
  have h := heap_alloc_new W (.cells #[a, b, c, d] t (0, 0))
  match j, hj with
  | 0, hj => simp at hj; subst hj; rw [add_zero2, Lib.cell_of_heap h]; rfl
  | 1, hj => simp at hj; subst hj; rw [add_off _ _ (by decide), Lib.cell_of_heap h]; rfl
  | 2, hj => simp at hj; subst hj; rw [add_off _ _ (by decide), Lib.cell_of_heap h]; rfl
  | 3, hj => simp at hj; subst hj; rw [add_off _ _ (by decide), Lib.cell_of_heap h]; rfl
/-- rows that have been gathered: their cells; what these lead to lies in blocks of the call's own, but not in this row's -/
def Gath {α : Type} (f : α → List Dt) (sz : Nat) (B : Nat) (w : World) (v : Value) (l : List α) (k : Nat) (vals : List Value) : Prop :=
  ∀ j t, j < k → l[j]? = some t → ∃ vs, IsVs w (fun b => (B ≤ b ∧ b < w.heap.size) ∧ v.ownBlock ≠ some b) (f t) vs ∧ vs.length = sz ∧ ∀ i u, vs[i]? = some u → vals[j * sz + i]? = some u
/-- one row more -/
theorem Gath.next {α : Type} {f : α → List Dt} {sz B : Nat} {w w1 w2 : World} {o : Obj} {v v' : Value} {l : List α} {k : Nat} {vals vs : List Value} {t : α} (h : Gath f sz B w v l k vals) (hB : B ≤ w.heap.size)
    (ht : l[k]? = some t) (hlen : vals.length = k * sz) (hvl : vs.length = sz) (hvs : IsVs w1 (Own w w1) (f t) vs) (hown : ∀ g, v.ownBlock = some g → g < w.heap.size)
    (hb : Below w.heap.size w w1) (hg : (w1.alloc o).grownBy w2 v.ownBlock) (hat : v'.ownBlock = v.ownBlock ∨ v'.ownBlock = some (w1.alloc o).heap.size) : Gath f sz B w2 v' l (k + 1) (vals ++ vs) := by
  have hz1 := hb.size
  have ha1 : (w1.alloc o).heap.size = w1.heap.size + 1 := by simp
  have hz2 := hg.size
  have keep : ∀ b, b < w1.heap.size → some b ≠ v.ownBlock → w2.heap[b]? = w1.heap[b]? := fun b hb1 hb2 => by
    rw [hg.block b (by omega) hb2]
    exact Below.heap_alloc w1 o b hb1
  have fresh : ∀ b, b < w1.heap.size → v.ownBlock ≠ some b → v'.ownBlock ≠ some b := fun b hb1 hb2 => by
    rcases hat with e | e
    · rw [e]; exact hb2
    · rw [e]; intro e2; have := Option.some.inj e2; omega
  intro j x hj hx
  by_cases hjk : j < k
  · obtain ⟨us, u1, u2, u3⟩ := h j x hjk hx
    refine ⟨us, ?_, u2, fun i u hi => ?_⟩
    · have hst : IsVs w2 (fun b => (B ≤ b ∧ b < w.heap.size) ∧ v.ownBlock ≠ some b) (f x) us := IsVs.stay (fun b hP hbw => by
        rw [keep b (by omega) (fun e => hP.2 e.symm)]
        exact hb.block b hbw) _ _ u1
      exact IsVs.mono (fun b hP => ⟨⟨hP.1.1, by have := hP.1.2; omega⟩, fresh b (by have := hP.1.2; omega) hP.2⟩) _ _ hst
    · have := u3 i u hi
      have hlt : j * sz + i < vals.length := (List.getElem?_eq_some_iff.1 this).1
      rw [List.getElem?_append_left hlt]
      exact this
  · obtain rfl : j = k := by omega
    obtain rfl : t = x := Option.some.inj (ht.symm.trans hx)
    refine ⟨vs, ?_, hvl, fun i u hi => ?_⟩
    · have hne : ∀ b, Own w w1 b → v.ownBlock ≠ some b := fun b hb1 e => by have := hown b e; have := hb1.1; omega
      have hst : IsVs w2 (Own w w1) (f t) vs := IsVs.stay (fun b hP hbw => keep b hbw (fun e => hne b hP e.symm)) _ _ hvs
      exact IsVs.mono (fun b hP => ⟨⟨by have := hP.1; omega, by have := hP.2; omega⟩, fresh b hP.2 (hne b hP)⟩) _ _ hst
    · rw [List.getElem?_append_right (by omega), hlen, Nat.add_sub_cancel_left]
      exact hi
/-- all rows gathered -/
theorem Gath.done {α : Type} {f : α → List Dt} {sz B : Nat} {w : World} {e : TypeId} {v : Value} {l : List α} {vals : List Value} (h : Gath f sz B w v l l.length vals) (ho : w.ownsRow B e sz v l.length vals) :
    IsC w (fun b => B ≤ b ∧ b < w.heap.size) (.l sz (l.map f)) v := by
  unfold IsC
  rw [List.length_map]
  have hlt := ho.lt
  have hcells := @World.ownsRow.cells w B e sz v l.length vals ho
  rcases ho.2 with ⟨h1, h2⟩ | ⟨g, cap, cur, hv, h3, h4, h5, h6, _⟩
  · have : l = [] := List.length_eq_zero_iff.1 h2
    subst this
    exact .inl ⟨h1, rfl⟩
  · subst hv
    refine .inr ⟨⟨g, 0, none⟩, cap, rfl, h5, h6, fun _ => hlt g rfl, IsRows.of_get _ _ fun k r hk => ?_⟩
    rw [List.getElem?_map] at hk
    obtain ⟨t, ht, rfl⟩ := Option.map_eq_some_iff.1 hk
    obtain ⟨vs, u1, u2, u3⟩ := h k t (List.getElem?_eq_some_iff.1 ht).1 ht
    refine IsRow.of_vals _ _ vs (IsVs.mono (fun b hP => hP.1) _ _ u1) fun j u hj => ?_
    rw [add_add2]
    exact hcells rfl _ _ (u3 j u hj)

set_option maxHeartbeats 8000000 in
set_option maxRecDepth 100000 in
theorem ownTs_all : ∀ (z : Nat) (l : List Ty), Ty.wts l ≤ z → l.length ≤ 1000000 → Ty.oks l → OwnTs l := by
  intro z
  induction z with
  | zero => intro l hz; cases l <;> (unfold Ty.wts at hz; omega)
  | succ z ih =>
    intro l hz hlen hok P v w hv
    obtain ⟨ao, cap, rfl, v1, v2⟩ := hv.form
    have HI := Lib.hid ih
    have HO := Lib.hid hok
    have HV := Lib.hid hv
    clear ih hok hv
    obtain ⟨i0, hi, hz0, hz1, hz2⟩ := info_parts' info_ty
    go_enter Tryz.func34, Tryz.ntmps34
    go_wp2
    go_loopw [3, 4] (fun xu iv wr => ∃ (k : Nat) (xv : Value) (vals : List Value), k ≤ l.length ∧ xv = xu ∧ iv = .int .i64 k ∧ wr.ownsRow w.heap.size 39 4 xv k vals ∧ Hid (Gath Ty.row 4 w.heap.size wr xv l k vals) ∧ Below w.heap.size w wr) (fun _ iv _ => l.length - (intOf iv).toNat)
    case atStart => exact ⟨0, _, [], Nat.zero_le _, rfl, rfl, World.ownsRow_nil _ _ _ _, Lib.hid (fun j t hj => by omega), Below.refl _ _⟩
    case round =>
      obtain ⟨k, xv, vals, hk, hx, rfl, hown, HG, hbw⟩ := hrel
      subst hx
      by_cases hlt : k < l.length
      · have k1 : (k : Int) < l.length := by omega
        obtain ⟨t, ht⟩ : ∃ t, l[k]? = some t := ⟨l[k], List.getElem?_eq_getElem hlt⟩
        have hsz := Ty.wts_get l k t ht
        have htok := Ty.oks_get l k t HO.out ht
        obtain ⟨a, rfl, _, hrow⟩ := HV.out.at ht
        have hrow := hrow.on hbw
        obtain ⟨tk, tp, tn, ta⟩ := t
        unfold Ty.wt at hsz
        unfold Ty.ok at htok
        obtain ⟨c0, c1, c2, c2', bo, bcap, c3, b1, b2, hargs⟩ := hrow.cells
        have HA := Lib.hid (HI.out ta (by omega) htok.1 htok.2)
        clear hrow htok
        go_wp2_with fail
        refine (ownT_step tk tp tn ta HA.out P _ _ hargs).mono ?_
        rintro e w1 ⟨v', rfl, hv', hb1⟩
        obtain ⟨ao', cap', rfl, hc1', hc2'⟩ := hv'.form
        have hown1 : w1.ownsRow w.heap.size 39 4 xv k vals := by
          refine ⟨hown.1, ?_⟩
          rcases hown.2 with h2 | ⟨g, cap2, cur, hv2, h3, h4, h5⟩
          · exact .inl h2
          · exact .inr ⟨g, cap2, cur, hv2, h3, (hb1.block g (heap_lt h4)).trans h4, h5⟩
        have hb2 := hbw.trans (hb1.mono hbw.size)
        have hzb := hb2.size
        have hvs : IsVs w1 (Own wr w1) (Ty.row (.mk tk tp tn ta)) [.int .i64 tk, .int .i64 tp, .string tn, .slice ao' ta.length cap'] := by
          unfold Ty.row
          exact ⟨_, _, rfl, (by unfold IsC; rfl), _, _, rfl, (by unfold IsC; rfl), _, _, rfl, (by unfold IsC; exact ⟨rfl, c2'⟩), _, _, rfl, hv'.out, rfl⟩
        have HVS := Lib.hid hvs
        have hlen1 := hown.1
        clear c0 c1 c2 c3 hv' hvs hargs
        go_wp2_with (at_builtin; refine wpList_append_own_at _ rfl _ _ 37 rfl w.heap.size 39 i0 (.agg #[.int .i64 0, .int .i64 0, .string ⟨#[]⟩, .slice none 0 0]) 4 56 Tryz.underlying37 hi hz0 hz1 hz2 rfl (by decide) _ _ _ rfl (hown1.alloc _) ⟨w1.heap.size, 0, none⟩ 1 1 [.int .i64 tk, .int .i64 tp, .string tn, .slice ao' ta.length cap'] rfl rfl (cell_four_new _ _ _ _ _ _) (by simp [Value.oneCell']) (by unfold maxLen; omega) (by omega) (by simp; omega) ?_; intro v2' w2 hown2 hgrow _ hat)
        have hgrow' : (w1.alloc (.cells #[.int .i64 tk, .int .i64 tp, .string tn, .slice ao' ta.length cap'] 39)).grownBy w2 xv.ownBlock := hgrow
        have hat' : v2'.ownBlock = xv.ownBlock ∨ v2'.ownBlock = some (w1.alloc (.cells #[.int .i64 tk, .int .i64 tp, .string tn, .slice ao' ta.length cap'] 39)).heap.size := hat
        have HG2 := Lib.hid (HG.out.next hbw.size ht hlen1 rfl HVS.out (fun g hg => (hown.lt g hg).2) hb1 hgrow' hat')
        have hb3 : Below w.heap.size w w2 := (hb2.alloc hb2.size _).grown hgrow' (by simp; omega) (fun j hj => (hown.lt j hj).1)
        clear hgrow hgrow' hat hat' hown hown1
        go_wp2
        go_roundw
        case rel => exact ⟨k + 1, _, _, by omega, rfl, by go_num, hown2, HG2, hb3⟩
        case measure => simp [intOf]; omega
      · have hkk : k = l.length := by omega
        have k1 : ¬ (k : Int) < l.length := by omega
        subst hkk
        have HD := Lib.hid (HG.out.done hown)
        go_wp2
        go_ret
        exact ⟨_, rfl, ⟨by rw [Ty.rows_map]; exact HD.out⟩, hbw⟩
end Go.Proofs.YtkdhoelabomgkaaGreatDoor
/-
  Layer 3, the document's side: SameType.
-/
namespace Go.Proofs.YtkdhoelabomgkaaGreatDoor
set_option linter.unusedVariables false
open Go.ChangeShapes Go.WideShapes Go.ChangeAt Go.RowKit

theorem Ty.sames_len : ∀ (l m : List Ty), Ty.sames l m = true → l.length = m.length
  | [], [], _ => rfl
  | [], _ :: _, h => by unfold Ty.sames at h; cases h
  | _ :: _, [], h => by unfold Ty.sames at h; cases h
  | t :: r, t' :: r', h => by
    unfold Ty.sames at h
    rw [Bool.and_eq_true] at h
    simp [Ty.sames_len r r' h.2]
/-- up to k they are the same -/
theorem Ty.sames_all : ∀ (l m : List Ty), l.length = m.length → (∀ (k : Nat) (s t : Ty), l[k]? = some s → m[k]? = some t → s.same t = true) → Ty.sames l m = true
  | [], [], _, _ => by unfold Ty.sames; rfl
  | [], _ :: _, h, _ => by cases h
  | _ :: _, [], h, _ => by cases h
  | t :: r, t' :: r', h, ha => by
    unfold Ty.sames
    rw [ha 0 t t' rfl rfl, Ty.sames_all r r' (by simpa using h) (fun k s u h1 h2 => ha (k + 1) s u (by simpa using h1) (by simpa using h2))]
    rfl
theorem Ty.sames_not : ∀ (l m : List Ty) (k : Nat) (s t : Ty), l[k]? = some s → m[k]? = some t → s.same t = false → Ty.sames l m = false
  | [], _, k, s, t, h, _, _ => by simp at h
  | _ :: _, [], k, s, t, _, h, _ => by simp at h
  | x :: r, y :: r', 0, s, t, h1, h2, h => by
    simp at h1 h2
    subst h1 h2
    unfold Ty.sames
    rw [h]; rfl
  | x :: r, y :: r', k + 1, s, t, h1, h2, h => by
    unfold Ty.sames
    rw [Ty.sames_not r r' k s t (by simpa using h1) (by simpa using h2) h, Bool.and_false]
/-- a type as a value -/
def tyV (k p : Int) (n : ByteArray) (v : Value) : Value := .agg #[.int .i64 k, .int .i64 p, .string n, v]
theorem text_eq (a b : ByteArray) : (a.toList == b.toList) = (a.data.toList == b.data.toList) := by rw [ByteArray.toList_eq, ByteArray.toList_eq]

/-- two types held against each other -/
def RSame (s t : Ty) : Prop := ∀ (P Q : Nat → Prop) (v v' : Value) (w : World), (match s with | .mk _ _ n l => n.size ≤ maxLen ∧ IsTys w P v l) → (match t with | .mk _ _ n l => n.size ≤ maxLen ∧ IsTys w Q v' l) →
  Calls Tryz.prog 24 #[match s with | .mk k p n _ => tyV k p n v, match t with | .mk k p n _ => tyV k p n v'] w fun e w' => e = .returned (.bool (s.same t)) ∧ Below w.heap.size w w'

set_option maxHeartbeats 8000000 in
set_option maxRecDepth 100000 in
theorem rsameT_all : ∀ (z : Nat) (s t : Ty), s.wt ≤ z → RSame s t := by
  intro z
  induction z with
  | zero => intro s t hz; cases s; unfold Ty.wt at hz; omega
  | succ z ih =>
    intro s t hz P Q v v' w hs ht
    obtain ⟨sk, sp, sn, sl⟩ := s
    obtain ⟨tk, tp, tn, tl⟩ := t
    obtain ⟨s1, s2⟩ := hs
    obtain ⟨t1, t2⟩ := ht
    obtain ⟨ao, cap, rfl, v1, v2⟩ := s2.form
    obtain ⟨bo, cap2, rfl, u1, u2⟩ := t2.form
    unfold tyV
    unfold Ty.wt at hz
    have HI := Lib.hid ih
    have HS := Lib.hid s2
    have HT := Lib.hid t2
    have hlm : (sl.length : Int) ≤ 9223372036854775807 := by unfold maxLen at v2; omega
    clear ih s2 t2
    obtain ⟨o1, ho1⟩ : ∃ o : Obj, o = .cells #[.int .i64 sk, .int .i64 sp, .string sn, .slice ao sl.length cap] 24 := ⟨_, rfl⟩
    obtain ⟨o2, ho2⟩ : ∃ o : Obj, o = .cells #[.int .i64 tk, .int .i64 tp, .string tn, .slice bo tl.length cap2] 24 := ⟨_, rfl⟩
    have hb1 := ((Below.refl w.heap.size w).alloc (Nat.le_refl _) o1).alloc (by simp) o2
    have hN1 : ((w.alloc o1).alloc o2).heap[w.heap.size]? = some o1 := (Below.heap_alloc _ _ _ (by simp)).trans (heap_alloc_new w o1)
    have hN2 : ((w.alloc o1).alloc o2).heap[w.heap.size + 1]? = some o2 := by
      have := heap_alloc_new (w.alloc o1) o2
      rwa [show (w.alloc o1).heap.size = w.heap.size + 1 by simp] at this
    have hsame : Ty.same (.mk sk sp sn sl) (.mk tk tp tn tl) = (sk == tk && (sn.data.toList == tn.data.toList && Ty.sames sl tl)) := by unfold Ty.same; rfl
    by_cases hk : sk = tk
    · have q1 : (sk != tk) = false := by rw [bne_eq_false_iff_eq]; exact hk
      by_cases hn : sn = tn
      · by_cases hl : sl.length = tl.length
        · have q3 : ((sl.length : Int) != tl.length) = false := by rw [bne_eq_false_iff_eq]; omega
          have HE : Hid (Ty.same (.mk sk sp sn sl) (.mk tk tp tn tl) = Ty.sames sl tl) := Lib.hid (by rw [hsame, hk, hn]; simp)
          have HLn := Lib.hid hl
          subst hn
          clear hsame hk hl
          go_enter Tryz.func24, Tryz.ntmps24
          go_wp2
          rw [← ho1, ← ho2]
          generalize (w.alloc o1).alloc o2 = W at hb1 hN1 hN2 ⊢
          subst ho1 ho2
          have HS1 := Lib.hid (HS.out.on hb1)
          have HT1 := Lib.hid (HT.out.on hb1)
          go_loopw [5] (fun iv wr => ∃ k : Nat, k ≤ sl.length ∧ iv = .int .i64 k ∧ Hid (∀ (j : Nat) (s t : Ty), j < k → sl[j]? = some s → tl[j]? = some t → s.same t = true) ∧ Below W.heap.size W wr) (fun iv _ => sl.length - (intOf iv).toNat)
          case atStart => exact ⟨0, Nat.zero_le _, rfl, Lib.hid (fun j s t hj => by omega), Below.refl _ _⟩
          case round =>
            obtain ⟨i, hi, rfl, H, hbw⟩ := hrel
            have n1 := (hbw.block _ (heap_lt hN1)).trans hN1
            have n2 := (hbw.block _ (heap_lt hN2)).trans hN2
            have e1 : wr.cell? ⟨w.heap.size, 3, none⟩ = some (.slice ao sl.length cap) := by rw [Lib.cell_of_heap n1]; rfl
            have e2 : wr.cell? ⟨w.heap.size + 1, 3, none⟩ = some (.slice bo tl.length cap2) := by rw [Lib.cell_of_heap n2]; rfl
            by_cases hlt : i < sl.length
            · have i1 : (i : Int) < sl.length := by omega
              have i2 : (i : Int) < tl.length := by have := HLn.out; omega
              obtain ⟨x, hx⟩ : ∃ x, sl[i]? = some x := ⟨sl[i], List.getElem?_eq_getElem hlt⟩
              obtain ⟨y, hy⟩ : ∃ y, tl[i]? = some y := ⟨tl[i]'(by have := HLn.out; omega), List.getElem?_eq_getElem (by have := HLn.out; omega)⟩
              have hsz := Ty.wts_get sl i x hx
              obtain ⟨a, rfl, _, hrow⟩ := HS1.out.at hx
              obtain ⟨b, rfl, _, hrow'⟩ := HT1.out.at hy
              have hrow := hrow.on hbw
              have hrow' := hrow'.on hbw
              have HXY := Lib.hid (HI.out x y (by omega))
              have HX := Lib.hid hx
              have HY := Lib.hid hy
              obtain ⟨xk, xp, xn, xl⟩ := x
              obtain ⟨yk, yp, yn, yl⟩ := y
              obtain ⟨c0, c1, c2, c2', ca, cb, c3, _, _, hxa⟩ := hrow.cells
              obtain ⟨d0, d1, d2, d2', da, db, d3, _, _, hya⟩ := hrow'.cells
              have HXA := Lib.hid hxa
              have HYA := Lib.hid hya
              clear hrow hrow' hxa hya hsz hx hy n1 n2
              go_wp2
              go_still_tail 10, (by kernel_rfl)
              change wpList _ _ _ _ _ wr.drew
              have hbd : Below wr.heap.size wr wr.drew := (Below.refl _ _).drew
              have HXA2 := Lib.hid (HXA.out.on hbd)
              have HYA2 := Lib.hid (HYA.out.on hbd)
              have hbw2 := hbw.trans (hbd.mono hbw.size)
              generalize wr.drew = w2 at HXA2 HYA2 hbw2 ⊢
              go_wp2_with fail
              refine (HXY.out P Q (.slice ca xl.length cb) (.slice da yl.length db) w2 ⟨c2', HXA2.out⟩ ⟨d2', HYA2.out⟩).mono ?_
              rintro e w3 ⟨rfl, hb3⟩
              have hbw3 := hbw2.trans (hb3.mono hbw2.size)
              by_cases hr : Ty.same (.mk xk xp xn xl) (.mk yk yp yn yl) = true
              · rw [hr]
                have HN : Hid (∀ (j : Nat) (s t : Ty), j < i + 1 → sl[j]? = some s → tl[j]? = some t → s.same t = true) := Lib.hid (fun j s t hj h1 h2 => by
                  by_cases hji : j = i
                  · subst hji
                    rw [HX.out] at h1
                    rw [HY.out] at h2
                    cases h1; cases h2; exact hr
                  · exact H.out j s t (by omega) h1 h2)
                clear hr
                go_wp2
                go_roundw
                case rel => exact ⟨i + 1, by omega, by go_num, HN, hbw3⟩
                case measure => simp [intOf]; omega
              · have hr : Ty.same (.mk xk xp xn xl) (.mk yk yp yn yl) = false := by simpa using hr
                have HF : Hid (Ty.sames sl tl = false) := Lib.hid (Ty.sames_not sl tl i _ _ HX.out HY.out hr)
                rw [hr]
                clear hr
                go_wp2
                go_ret
                exact ⟨by rw [HE.out, HF.out]; rfl, hb1.trans (hbw3.mono hb1.size)⟩
            · have i1 : ¬ (i : Int) < sl.length := by omega
              have HF : Hid (Ty.sames sl tl = true) := Lib.hid (Ty.sames_all sl tl HLn.out (fun j s t h1 h2 => H.out j s t (by have := (List.getElem?_eq_some_iff.1 h1).1; omega) h1 h2))
              go_wp2
              go_ret
              exact ⟨by rw [HE.out, HF.out]; rfl, hb1.trans (hbw.mono hb1.size)⟩
        · have q3 : ((sl.length : Int) != tl.length) = true := by rw [bne_iff_ne]; omega
          have HE : Hid (Ty.same (.mk sk sp sn sl) (.mk tk tp tn tl) = false) := Lib.hid (by
            rw [hsame]
            have : Ty.sames sl tl = false := by
              cases hq : Ty.sames sl tl with
              | false => rfl
              | true => exact absurd (Ty.sames_len sl tl hq) hl
            rw [this]; simp)
          subst hn
          clear hsame hk
          subst ho1 ho2
          go_enter Tryz.func24, Tryz.ntmps24
          go_wp2
          go_ret
          exact ⟨by rw [HE.out]; rfl, hb1⟩
      · have q2 : (sn.toList == tn.toList) = false := by
          rw [text_eq, beq_eq_false_iff_ne]
          intro e
          refine hn ?_
          cases sn; cases tn
          exact congrArg ByteArray.mk (Array.toList_inj.1 e)
        have HE : Hid (Ty.same (.mk sk sp sn sl) (.mk tk tp tn tl) = false) := Lib.hid (by rw [hsame, ← text_eq, q2]; simp)
        clear hsame hk hn
        subst ho1 ho2
        go_enter Tryz.func24, Tryz.ntmps24
        go_wp2
        go_ret
        exact ⟨by rw [HE.out]; rfl, hb1⟩
    · have q1 : (sk != tk) = true := by rw [bne_iff_ne]; exact hk
      have HE : Hid (Ty.same (.mk sk sp sn sl) (.mk tk tp tn tl) = false) := Lib.hid (by rw [hsame, show (sk == tk) = false from by rw [beq_eq_false_iff_ne]; exact hk]; rfl)
      clear hsame hk
      subst ho1 ho2
      go_enter Tryz.func24, Tryz.ntmps24
      go_wp2
      go_ret
      exact ⟨by rw [HE.out]; rfl, hb1⟩
end Go.Proofs.YtkdhoelabomgkaaGreatDoor
/-
  Layer 3, the document's side: SamePat, samePats.
-/
namespace Go.Proofs.YtkdhoelabomgkaaGreatDoor
set_option linter.unusedVariables false
open Go.ChangeShapes Go.WideShapes Go.ChangeAt Go.RowKit

theorem Pa.sames_len : ∀ (l m : List Pa), Pa.sames l m = true → l.length = m.length
  | [], [], _ => rfl
  | [], _ :: _, h => by unfold Pa.sames at h; cases h
  | _ :: _, [], h => by unfold Pa.sames at h; cases h
  | t :: r, t' :: r', h => by
    unfold Pa.sames at h
    rw [Bool.and_eq_true] at h
    simp [Pa.sames_len r r' h.2]
/-- up to k they are the same -/
theorem Pa.sames_all : ∀ (l m : List Pa), l.length = m.length → (∀ (k : Nat) (s t : Pa), l[k]? = some s → m[k]? = some t → s.same t = true) → Pa.sames l m = true
  | [], [], _, _ => by unfold Pa.sames; rfl
  | [], _ :: _, h, _ => by cases h
  | _ :: _, [], h, _ => by cases h
  | t :: r, t' :: r', h, ha => by
    unfold Pa.sames
    rw [ha 0 t t' rfl rfl, Pa.sames_all r r' (by simpa using h) (fun k s u h1 h2 => ha (k + 1) s u (by simpa using h1) (by simpa using h2))]
    rfl
theorem Pa.sames_not : ∀ (l m : List Pa) (k : Nat) (s t : Pa), l[k]? = some s → m[k]? = some t → s.same t = false → Pa.sames l m = false
  | [], _, k, s, t, h, _, _ => by simp at h
  | _ :: _, [], k, s, t, _, h, _ => by simp at h
  | x :: r, y :: r', 0, s, t, h1, h2, h => by
    simp at h1 h2
    subst h1 h2
    unfold Pa.sames
    rw [h]; rfl
  | x :: r, y :: r', k + 1, s, t, h1, h2, h => by
    unfold Pa.sames
    rw [Pa.sames_not r r' k s t (by simpa using h1) (by simpa using h2) h, Bool.and_false]
/-- a pattern as a value -/
def paV (k p : Int) (n : ByteArray) (m : Int) (v : Value) : Value := .agg #[.int .i64 k, .int .i64 p, .string n, .int .i64 m, v]
theorem text_ne {a b : ByteArray} (h : ¬ a = b) : (a.toList == b.toList) = false := by
  rw [text_eq, beq_eq_false_iff_ne]
  intro e
  refine h ?_
  cases a; cases b
  exact congrArg ByteArray.mk (Array.toList_inj.1 e)
/-- patterns held against each other -/
def RSamePs (l m : List Pa) : Prop := ∀ (P Q : Nat → Prop) (v v' : Value) (w : World), IsPas w P v l → IsPas w Q v' m →
  Calls Tryz.prog 45 #[v, v'] w fun e w' => e = .returned (.bool (Pa.sames l m)) ∧ Below w.heap.size w w'

set_option maxHeartbeats 8000000 in
set_option maxRecDepth 100000 in
theorem rsameP_step (sk sp : Int) (sn : ByteArray) (sm : Int) (sl : List Pa) (tk tp : Int) (tn : ByteArray) (tm : Int) (tl : List Pa) (hz : RSamePs sl tl) (P Q : Nat → Prop) (v v' : Value) (w : World) (hs : IsPas w P v sl) (ht : IsPas w Q v' tl) :
    Calls Tryz.prog 22 #[paV sk sp sn sm v, paV tk tp tn tm v'] w fun e w' => e = .returned (.bool (Pa.same (.mk sk sp sn sm sl) (.mk tk tp tn tm tl))) ∧ Below w.heap.size w w' := by
  obtain ⟨ao, cap, rfl, v1, v2⟩ := hs.form
  obtain ⟨bo, cap2, rfl, u1, u2⟩ := ht.form
  unfold paV
  have HI := Lib.hid hz
  have HS := Lib.hid hs
  have HT := Lib.hid ht
  clear hz hs ht
  obtain ⟨o1, ho1⟩ : ∃ o : Obj, o = .cells #[.int .i64 sk, .int .i64 sp, .string sn, .int .i64 sm, .slice ao sl.length cap] 27 := ⟨_, rfl⟩
  obtain ⟨o2, ho2⟩ : ∃ o : Obj, o = .cells #[.int .i64 tk, .int .i64 tp, .string tn, .int .i64 tm, .slice bo tl.length cap2] 27 := ⟨_, rfl⟩
  have hb1 := ((Below.refl w.heap.size w).alloc (Nat.le_refl _) o1).alloc (by simp) o2
  have hsame : Pa.same (.mk sk sp sn sm sl) (.mk tk tp tn tm tl) = (sk == tk && (sn.data.toList == tn.data.toList && (sm == tm && Pa.sames sl tl))) := by unfold Pa.same; rfl
  have HS1 := Lib.hid (HS.out.on hb1)
  have HT1 := Lib.hid (HT.out.on hb1)
  by_cases hk : sk = tk
  · have q1 : (sk == tk) = true := by rw [beq_iff_eq]; exact hk
    by_cases hn : sn = tn
    · by_cases hm : sm = tm
      · have q3 : (sm == tm) = true := by rw [beq_iff_eq]; exact hm
        have HE : Hid (Pa.same (.mk sk sp sn sm sl) (.mk tk tp tn tm tl) = Pa.sames sl tl) := Lib.hid (by rw [hsame, hk, hn, hm]; simp)
        subst hn
        clear hsame hk hm
        subst ho1 ho2
        go_enter Tryz.func22, Tryz.ntmps22
        go_wp2_with fail
        refine (HI.out P Q _ _ _ HS1.out HT1.out).mono ?_
        rintro e w1 ⟨rfl, hb2⟩
        go_wp2
        go_ret
        exact ⟨by rw [HE.out]; rfl, hb1.trans (hb2.mono hb1.size)⟩
      · have q3 : (sm == tm) = false := by rw [beq_eq_false_iff_ne]; exact hm
        have HE : Hid (Pa.same (.mk sk sp sn sm sl) (.mk tk tp tn tm tl) = false) := Lib.hid (by rw [hsame, q3]; simp)
        subst hn
        clear hsame hk hm
        subst ho1 ho2
        go_enter Tryz.func22, Tryz.ntmps22
        go_wp2
        go_ret
        exact ⟨by rw [HE.out]; rfl, hb1⟩
    · have q2 := text_ne hn
      have HE : Hid (Pa.same (.mk sk sp sn sm sl) (.mk tk tp tn tm tl) = false) := Lib.hid (by rw [hsame, ← text_eq, q2]; simp)
      clear hsame hk hn
      subst ho1 ho2
      go_enter Tryz.func22, Tryz.ntmps22
      go_wp2
      go_ret
      exact ⟨by rw [HE.out]; rfl, hb1⟩
  · have q1 : (sk == tk) = false := by rw [beq_eq_false_iff_ne]; exact hk
    have HE : Hid (Pa.same (.mk sk sp sn sm sl) (.mk tk tp tn tm tl) = false) := Lib.hid (by rw [hsame, q1]; rfl)
    clear hsame hk
    subst ho1 ho2
    go_enter Tryz.func22, Tryz.ntmps22
    go_wp2
    go_ret
    exact ⟨by rw [HE.out]; rfl, hb1⟩

set_option maxHeartbeats 8000000 in
set_option maxRecDepth 100000 in
theorem rsamePs_all : ∀ (z : Nat) (l m : List Pa), Pa.wts l ≤ z → RSamePs l m := by
  intro z
  induction z with
  | zero => intro l m hz; cases l <;> (unfold Pa.wts at hz; omega)
  | succ z ih =>
    intro sl tl hz P Q v v' w hs ht
    obtain ⟨ao, cap, rfl, v1, v2⟩ := hs.form
    obtain ⟨bo, cap2, rfl, u1, u2⟩ := ht.form
    have HI := Lib.hid ih
    have HS1 := Lib.hid hs
    have HT1 := Lib.hid ht
    have hlm : (sl.length : Int) ≤ 9223372036854775807 := by unfold maxLen at v2; omega
    clear ih hs ht
    by_cases hl : sl.length = tl.length
    · have q3 : ((sl.length : Int) != tl.length) = false := by rw [bne_eq_false_iff_eq]; omega
      have HLn := Lib.hid hl
      clear hl
      go_enter Tryz.func45, Tryz.ntmps45
      go_wp2
      go_loopw [5] (fun iv wr => ∃ k : Nat, k ≤ sl.length ∧ iv = .int .i64 k ∧ Hid (∀ (j : Nat) (s t : Pa), j < k → sl[j]? = some s → tl[j]? = some t → s.same t = true) ∧ Below w.heap.size w wr) (fun iv _ => sl.length - (intOf iv).toNat)
      case atStart => exact ⟨0, Nat.zero_le _, rfl, Lib.hid (fun j s t hj => by omega), Below.refl _ _⟩
      case round =>
        obtain ⟨i, hi, rfl, H, hbw⟩ := hrel
        by_cases hlt : i < sl.length
        · have i1 : (i : Int) < sl.length := by omega
          have i2 : (i : Int) < tl.length := by have := HLn.out; omega
          obtain ⟨x, hx⟩ : ∃ x, sl[i]? = some x := ⟨sl[i], List.getElem?_eq_getElem hlt⟩
          obtain ⟨y, hy⟩ : ∃ y, tl[i]? = some y := ⟨tl[i]'(by have := HLn.out; omega), List.getElem?_eq_getElem (by have := HLn.out; omega)⟩
          have hsz := Pa.wts_get sl i x hx
          obtain ⟨a, rfl, _, hrow⟩ := HS1.out.at hx
          obtain ⟨b, rfl, _, hrow'⟩ := HT1.out.at hy
          have hrow := hrow.on hbw
          have hrow' := hrow'.on hbw
          have HX := Lib.hid hx
          have HY := Lib.hid hy
          obtain ⟨xk, xp, xn, xm, xl⟩ := x
          obtain ⟨yk, yp, yn, ym, yl⟩ := y
          have HXY := Lib.hid (HI.out xl yl (by unfold Pa.wt at hsz; omega))
          obtain ⟨c0, c1, c2, c2', c3, ca, cb, c4, _, _, hxa⟩ := hrow.cells
          obtain ⟨d0, d1, d2, d2', d3, da, db, d4, _, _, hya⟩ := hrow'.cells
          have HXA := Lib.hid hxa
          have HYA := Lib.hid hya
          clear hrow hrow' hxa hya hsz hx hy
          go_wp2
          go_still_tail 8, (by kernel_rfl)
          change wpList _ _ _ _ _ wr.drew
          have hbd : Below wr.heap.size wr wr.drew := (Below.refl _ _).drew
          have HXA2 := Lib.hid (HXA.out.on hbd)
          have HYA2 := Lib.hid (HYA.out.on hbd)
          have hbw2 := hbw.trans (hbd.mono hbw.size)
          generalize wr.drew = w2 at HXA2 HYA2 hbw2 ⊢
          go_wp2_with fail
          refine (rsameP_step xk xp xn xm xl yk yp yn ym yl HXY.out P Q (.slice ca xl.length cb) (.slice da yl.length db) w2 HXA2.out HYA2.out).mono ?_
          rintro e w3 ⟨rfl, hb3⟩
          have hbw3 := hbw2.trans (hb3.mono hbw2.size)
          by_cases hr : Pa.same (.mk xk xp xn xm xl) (.mk yk yp yn ym yl) = true
          · rw [hr]
            have HN : Hid (∀ (j : Nat) (s t : Pa), j < i + 1 → sl[j]? = some s → tl[j]? = some t → s.same t = true) := Lib.hid (fun j s t hj h1 h2 => by
              by_cases hji : j = i
              · subst hji
                rw [HX.out] at h1
                rw [HY.out] at h2
                cases h1; cases h2; exact hr
              · exact H.out j s t (by omega) h1 h2)
            clear hr
            go_wp2
            go_roundw
            case rel => exact ⟨i + 1, by omega, by go_num, HN, hbw3⟩
            case measure => simp [intOf]; omega
          · have hr : Pa.same (.mk xk xp xn xm xl) (.mk yk yp yn ym yl) = false := by simpa using hr
            have HF : Hid (Pa.sames sl tl = false) := Lib.hid (Pa.sames_not sl tl i _ _ HX.out HY.out hr)
            rw [hr]
            clear hr
            go_wp2
            go_ret
            exact ⟨by rw [HF.out]; rfl, hbw3⟩
        · have i1 : ¬ (i : Int) < sl.length := by omega
          have HF : Hid (Pa.sames sl tl = true) := Lib.hid (Pa.sames_all sl tl HLn.out (fun j s t h1 h2 => H.out j s t (by have := (List.getElem?_eq_some_iff.1 h1).1; omega) h1 h2))
          go_wp2
          go_ret
          exact ⟨by rw [HF.out]; rfl, hbw⟩
    · have q3 : ((sl.length : Int) != tl.length) = true := by rw [bne_iff_ne]; omega
      have HE : Hid (Pa.sames sl tl = false) := Lib.hid (by
        cases hq : Pa.sames sl tl with
        | false => rfl
        | true => exact absurd (Pa.sames_len sl tl hq) hl)
      clear hl
      go_enter Tryz.func45, Tryz.ntmps45
      go_wp2
      go_ret
      exact ⟨by rw [HE.out]; rfl, Below.refl _ _⟩
end Go.Proofs.YtkdhoelabomgkaaGreatDoor
