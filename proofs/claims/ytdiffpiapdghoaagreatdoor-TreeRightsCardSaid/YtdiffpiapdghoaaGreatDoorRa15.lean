/- Texts of this proof, joined: RSameT, RSameP, SameM. No condition. -/
import Derived.Test.YtdiffpiapdghoaaGreatDoorRa14
import Derived.Test.YtdiffpiapdghoaaGreatDoorRa01
import Derived.Test.YtdiffpiapdghoaaGreatDoorRa02
/-
  Layer 3, the document's side: SameType.
-/
namespace Go.Proofs.YtdiffpiapdghoaaGreatDoor
set_option linter.unusedVariables false
open Go.ChangeShapes Go.WideShapes Go.ChangeAt Go.RowKit

theorem Ty.sames_len : ∀ (l m : List Ty), Ty.sames l m = true → l.length = m.length
  | [], [], _ => rfl
  | [], _ :: _, h => by unfold Ty.sames at h; cases h
  | _ :: _, [], h => by unfold Ty.sames at h; cases h
  | t :: r, t' :: r', h => by
    unfold Ty.sames at h
    rw [Bool.and_eq_true] at h
    simp [Ty.sames_len r r' h.2]
/-- up to k they are the same -/
theorem Ty.sames_all : ∀ (l m : List Ty), l.length = m.length → (∀ (k : Nat) (s t : Ty), l[k]? = some s → m[k]? = some t → s.same t = true) → Ty.sames l m = true
  | [], [], _, _ => by unfold Ty.sames; rfl
  | [], _ :: _, h, _ => by cases h
  | _ :: _, [], h, _ => by cases h
  | t :: r, t' :: r', h, ha => by
    unfold Ty.sames
    rw [ha 0 t t' rfl rfl, Ty.sames_all r r' (by simpa using h) (fun k s u h1 h2 => ha (k + 1) s u (by simpa using h1) (by simpa using h2))]
    rfl
theorem Ty.sames_not : ∀ (l m : List Ty) (k : Nat) (s t : Ty), l[k]? = some s → m[k]? = some t → s.same t = false → Ty.sames l m = false
  | [], _, k, s, t, h, _, _ => by simp at h
  | _ :: _, [], k, s, t, _, h, _ => by simp at h
  | x :: r, y :: r', 0, s, t, h1, h2, h => by
    simp at h1 h2
    subst h1 h2
    unfold Ty.sames
    rw [h]; rfl
  | x :: r, y :: r', k + 1, s, t, h1, h2, h => by
    unfold Ty.sames
    rw [Ty.sames_not r r' k s t (by simpa using h1) (by simpa using h2) h, Bool.and_false]
/-- a type as a value -/
def tyV (k p : Int) (n : ByteArray) (v : Value) : Value := .agg #[.int .i64 k, .int .i64 p, .string n, v]
theorem text_eq (a b : ByteArray) : (a.toList == b.toList) = (a.data.toList == b.data.toList) := by rw [ByteArray.toList_eq, ByteArray.toList_eq]

/-- two types held against each other -/
def RSame (s t : Ty) : Prop := ∀ (P Q : Nat → Prop) (v v' : Value) (w : World), (match s with | .mk _ _ n l => n.size ≤ maxLen ∧ IsTys w P v l) → (match t with | .mk _ _ n l => n.size ≤ maxLen ∧ IsTys w Q v' l) →
  Calls Tryz.prog 24 #[match s with | .mk k p n _ => tyV k p n v, match t with | .mk k p n _ => tyV k p n v'] w fun e w' => e = .returned (.bool (s.same t)) ∧ Below w.heap.size w w'

set_option maxHeartbeats 8000000 in
set_option maxRecDepth 100000 in
theorem rsameT_all : ∀ (z : Nat) (s t : Ty), s.wt ≤ z → RSame s t := by
  intro z
  induction z with
  | zero => intro s t hz; cases s; unfold Ty.wt at hz; omega
  | succ z ih =>
    intro s t hz P Q v v' w hs ht
    obtain ⟨sk, sp, sn, sl⟩ := s
    obtain ⟨tk, tp, tn, tl⟩ := t
    obtain ⟨s1, s2⟩ := hs
    obtain ⟨t1, t2⟩ := ht
    obtain ⟨ao, cap, rfl, v1, v2⟩ := s2.form
    obtain ⟨bo, cap2, rfl, u1, u2⟩ := t2.form
    unfold tyV
    unfold Ty.wt at hz
    have HI := Lib.hid ih
    have HS := Lib.hid s2
    have HT := Lib.hid t2
    have hlm : (sl.length : Int) ≤ 9223372036854775807 := by unfold maxLen at v2; omega
    clear ih s2 t2
    obtain ⟨o1, ho1⟩ : ∃ o : Obj, o = .cells #[.int .i64 sk, .int .i64 sp, .string sn, .slice ao sl.length cap] 24 := ⟨_, rfl⟩
    obtain ⟨o2, ho2⟩ : ∃ o : Obj, o = .cells #[.int .i64 tk, .int .i64 tp, .string tn, .slice bo tl.length cap2] 24 := ⟨_, rfl⟩
    have hb1 := ((Below.refl w.heap.size w).alloc (Nat.le_refl _) o1).alloc (by simp) o2
    have hN1 : ((w.alloc o1).alloc o2).heap[w.heap.size]? = some o1 := (Below.heap_alloc _ _ _ (by simp)).trans (heap_alloc_new w o1)
    have hN2 : ((w.alloc o1).alloc o2).heap[w.heap.size + 1]? = some o2 := by
      have := heap_alloc_new (w.alloc o1) o2
      rwa [show (w.alloc o1).heap.size = w.heap.size + 1 by simp] at this
    have hsame : Ty.same (.mk sk sp sn sl) (.mk tk tp tn tl) = (sk == tk && (sn.data.toList == tn.data.toList && Ty.sames sl tl)) := by unfold Ty.same; rfl
    by_cases hk : sk = tk
    · have q1 : (sk != tk) = false := by rw [bne_eq_false_iff_eq]; exact hk
      by_cases hn : sn = tn
      · by_cases hl : sl.length = tl.length
        · have q3 : ((sl.length : Int) != tl.length) = false := by rw [bne_eq_false_iff_eq]; omega
          have HE : Hid (Ty.same (.mk sk sp sn sl) (.mk tk tp tn tl) = Ty.sames sl tl) := Lib.hid (by rw [hsame, hk, hn]; simp)
          have HLn := Lib.hid hl
          subst hn
          clear hsame hk hl
          go_enter Tryz.func24, Tryz.ntmps24
          go_wp2
          rw [← ho1, ← ho2]
          generalize (w.alloc o1).alloc o2 = W at hb1 hN1 hN2 ⊢
          subst ho1 ho2
          have HS1 := Lib.hid (HS.out.on hb1)
          have HT1 := Lib.hid (HT.out.on hb1)
          go_loopw [5] (fun iv wr => ∃ k : Nat, k ≤ sl.length ∧ iv = .int .i64 k ∧ Hid (∀ (j : Nat) (s t : Ty), j < k → sl[j]? = some s → tl[j]? = some t → s.same t = true) ∧ Below W.heap.size W wr) (fun iv _ => sl.length - (intOf iv).toNat)
          case atStart => exact ⟨0, Nat.zero_le _, rfl, Lib.hid (fun j s t hj => by omega), Below.refl _ _⟩
          case round =>
            obtain ⟨i, hi, rfl, H, hbw⟩ := hrel
            have n1 := (hbw.block _ (heap_lt hN1)).trans hN1
            have n2 := (hbw.block _ (heap_lt hN2)).trans hN2
            have e1 : wr.cell? ⟨w.heap.size, 3, none⟩ = some (.slice ao sl.length cap) := by rw [Lib.cell_of_heap n1]; rfl
            have e2 : wr.cell? ⟨w.heap.size + 1, 3, none⟩ = some (.slice bo tl.length cap2) := by rw [Lib.cell_of_heap n2]; rfl
            by_cases hlt : i < sl.length
            · have i1 : (i : Int) < sl.length := by omega
              have i2 : (i : Int) < tl.length := by have := HLn.out; omega
              obtain ⟨x, hx⟩ : ∃ x, sl[i]? = some x := ⟨sl[i], List.getElem?_eq_getElem hlt⟩
              obtain ⟨y, hy⟩ : ∃ y, tl[i]? = some y := ⟨tl[i]'(by have := HLn.out; omega), List.getElem?_eq_getElem (by have := HLn.out; omega)⟩
              have hsz := Ty.wts_get sl i x hx
              obtain ⟨a, rfl, _, hrow⟩ := HS1.out.at hx
              obtain ⟨b, rfl, _, hrow'⟩ := HT1.out.at hy
              have hrow := hrow.on hbw
              have hrow' := hrow'.on hbw
              have HXY := Lib.hid (HI.out x y (by omega))
              have HX := Lib.hid hx
              have HY := Lib.hid hy
              obtain ⟨xk, xp, xn, xl⟩ := x
              obtain ⟨yk, yp, yn, yl⟩ := y
              obtain ⟨c0, c1, c2, c2', ca, cb, c3, _, _, hxa⟩ := hrow.cells
              obtain ⟨d0, d1, d2, d2', da, db, d3, _, _, hya⟩ := hrow'.cells
              have HXA := Lib.hid hxa
              have HYA := Lib.hid hya
              clear hrow hrow' hxa hya hsz hx hy n1 n2
              go_wp2
              go_still_tail 10, (by kernel_rfl)
              change wpList _ _ _ _ _ wr.drew
              have hbd : Below wr.heap.size wr wr.drew := (Below.refl _ _).drew
              have HXA2 := Lib.hid (HXA.out.on hbd)
              have HYA2 := Lib.hid (HYA.out.on hbd)
              have hbw2 := hbw.trans (hbd.mono hbw.size)
              generalize wr.drew = w2 at HXA2 HYA2 hbw2 ⊢
              go_wp2_with fail
              refine (HXY.out P Q (.slice ca xl.length cb) (.slice da yl.length db) w2 ⟨c2', HXA2.out⟩ ⟨d2', HYA2.out⟩).mono ?_
              rintro e w3 ⟨rfl, hb3⟩
              have hbw3 := hbw2.trans (hb3.mono hbw2.size)
              by_cases hr : Ty.same (.mk xk xp xn xl) (.mk yk yp yn yl) = true
              · rw [hr]
                have HN : Hid (∀ (j : Nat) (s t : Ty), j < i + 1 → sl[j]? = some s → tl[j]? = some t → s.same t = true) := Lib.hid (fun j s t hj h1 h2 => by
                  by_cases hji : j = i
                  · subst hji
                    rw [HX.out] at h1
                    rw [HY.out] at h2
                    cases h1; cases h2; exact hr
                  · exact H.out j s t (by omega) h1 h2)
                clear hr
                go_wp2
                go_roundw
                case rel => exact ⟨i + 1, by omega, by go_num, HN, hbw3⟩
                case measure => simp [intOf]; omega
              · have hr : Ty.same (.mk xk xp xn xl) (.mk yk yp yn yl) = false := by simpa using hr
                have HF : Hid (Ty.sames sl tl = false) := Lib.hid (Ty.sames_not sl tl i _ _ HX.out HY.out hr)
                rw [hr]
                clear hr
                go_wp2
                go_ret
                exact ⟨by rw [HE.out, HF.out]; rfl, hb1.trans (hbw3.mono hb1.size)⟩
            · have i1 : ¬ (i : Int) < sl.length := by omega
              have HF : Hid (Ty.sames sl tl = true) := Lib.hid (Ty.sames_all sl tl HLn.out (fun j s t h1 h2 => H.out j s t (by have := (List.getElem?_eq_some_iff.1 h1).1; omega) h1 h2))
              go_wp2
              go_ret
              exact ⟨by rw [HE.out, HF.out]; rfl, hb1.trans (hbw.mono hb1.size)⟩
        · have q3 : ((sl.length : Int) != tl.length) = true := by rw [bne_iff_ne]; omega
          have HE : Hid (Ty.same (.mk sk sp sn sl) (.mk tk tp tn tl) = false) := Lib.hid (by
            rw [hsame]
            have : Ty.sames sl tl = false := by
              cases hq : Ty.sames sl tl with
              | false => rfl
              | true => exact absurd (Ty.sames_len sl tl hq) hl
            rw [this]; simp)
          subst hn
          clear hsame hk
          subst ho1 ho2
          go_enter Tryz.func24, Tryz.ntmps24
          go_wp2
          go_ret
          exact ⟨by rw [HE.out]; rfl, hb1⟩
      · have q2 : (sn.toList == tn.toList) = false := by
          rw [text_eq, beq_eq_false_iff_ne]
          intro e
          refine hn ?_
          cases sn; cases tn
          exact congrArg ByteArray.mk (Array.toList_inj.1 e)
        have HE : Hid (Ty.same (.mk sk sp sn sl) (.mk tk tp tn tl) = false) := Lib.hid (by rw [hsame, ← text_eq, q2]; simp)
        clear hsame hk hn
        subst ho1 ho2
        go_enter Tryz.func24, Tryz.ntmps24
        go_wp2
        go_ret
        exact ⟨by rw [HE.out]; rfl, hb1⟩
    · have q1 : (sk != tk) = true := by rw [bne_iff_ne]; exact hk
      have HE : Hid (Ty.same (.mk sk sp sn sl) (.mk tk tp tn tl) = false) := Lib.hid (by rw [hsame, show (sk == tk) = false from by rw [beq_eq_false_iff_ne]; exact hk]; rfl)
      clear hsame hk
      subst ho1 ho2
      go_enter Tryz.func24, Tryz.ntmps24
      go_wp2
      go_ret
      exact ⟨by rw [HE.out]; rfl, hb1⟩
end Go.Proofs.YtdiffpiapdghoaaGreatDoor
/-
  Layer 3, the document's side: SamePat, samePats.
-/
namespace Go.Proofs.YtdiffpiapdghoaaGreatDoor
set_option linter.unusedVariables false
open Go.ChangeShapes Go.WideShapes Go.ChangeAt Go.RowKit

theorem Pa.sames_len : ∀ (l m : List Pa), Pa.sames l m = true → l.length = m.length
  | [], [], _ => rfl
  | [], _ :: _, h => by unfold Pa.sames at h; cases h
  | _ :: _, [], h => by unfold Pa.sames at h; cases h
  | t :: r, t' :: r', h => by
    unfold Pa.sames at h
    rw [Bool.and_eq_true] at h
    simp [Pa.sames_len r r' h.2]
/-- up to k they are the same -/
theorem Pa.sames_all : ∀ (l m : List Pa), l.length = m.length → (∀ (k : Nat) (s t : Pa), l[k]? = some s → m[k]? = some t → s.same t = true) → Pa.sames l m = true
  | [], [], _, _ => by unfold Pa.sames; rfl
  | [], _ :: _, h, _ => by cases h
  | _ :: _, [], h, _ => by cases h
  | t :: r, t' :: r', h, ha => by
    unfold Pa.sames
    rw [ha 0 t t' rfl rfl, Pa.sames_all r r' (by simpa using h) (fun k s u h1 h2 => ha (k + 1) s u (by simpa using h1) (by simpa using h2))]
    rfl
theorem Pa.sames_not : ∀ (l m : List Pa) (k : Nat) (s t : Pa), l[k]? = some s → m[k]? = some t → s.same t = false → Pa.sames l m = false
  | [], _, k, s, t, h, _, _ => by simp at h
  | _ :: _, [], k, s, t, _, h, _ => by simp at h
  | x :: r, y :: r', 0, s, t, h1, h2, h => by
    simp at h1 h2
    subst h1 h2
    unfold Pa.sames
    rw [h]; rfl
  | x :: r, y :: r', k + 1, s, t, h1, h2, h => by
    unfold Pa.sames
    rw [Pa.sames_not r r' k s t (by simpa using h1) (by simpa using h2) h, Bool.and_false]
/-- a pattern as a value -/
def paV (k p : Int) (n : ByteArray) (m : Int) (v : Value) : Value := .agg #[.int .i64 k, .int .i64 p, .string n, .int .i64 m, v]
theorem text_ne {a b : ByteArray} (h : ¬ a = b) : (a.toList == b.toList) = false := by
  rw [text_eq, beq_eq_false_iff_ne]
  intro e
  refine h ?_
  cases a; cases b
  exact congrArg ByteArray.mk (Array.toList_inj.1 e)
/-- patterns held against each other -/
def RSamePs (l m : List Pa) : Prop := ∀ (P Q : Nat → Prop) (v v' : Value) (w : World), IsPas w P v l → IsPas w Q v' m →
  Calls Tryz.prog 45 #[v, v'] w fun e w' => e = .returned (.bool (Pa.sames l m)) ∧ Below w.heap.size w w'

set_option maxHeartbeats 8000000 in
set_option maxRecDepth 100000 in
theorem rsameP_step (sk sp : Int) (sn : ByteArray) (sm : Int) (sl : List Pa) (tk tp : Int) (tn : ByteArray) (tm : Int) (tl : List Pa) (hz : RSamePs sl tl) (P Q : Nat → Prop) (v v' : Value) (w : World) (hs : IsPas w P v sl) (ht : IsPas w Q v' tl) :
    Calls Tryz.prog 22 #[paV sk sp sn sm v, paV tk tp tn tm v'] w fun e w' => e = .returned (.bool (Pa.same (.mk sk sp sn sm sl) (.mk tk tp tn tm tl))) ∧ Below w.heap.size w w' := by
  obtain ⟨ao, cap, rfl, v1, v2⟩ := hs.form
  obtain ⟨bo, cap2, rfl, u1, u2⟩ := ht.form
  unfold paV
  have HI := Lib.hid hz
  have HS := Lib.hid hs
  have HT := Lib.hid ht
  clear hz hs ht
  obtain ⟨o1, ho1⟩ : ∃ o : Obj, o = .cells #[.int .i64 sk, .int .i64 sp, .string sn, .int .i64 sm, .slice ao sl.length cap] 27 := ⟨_, rfl⟩
  obtain ⟨o2, ho2⟩ : ∃ o : Obj, o = .cells #[.int .i64 tk, .int .i64 tp, .string tn, .int .i64 tm, .slice bo tl.length cap2] 27 := ⟨_, rfl⟩
  have hb1 := ((Below.refl w.heap.size w).alloc (Nat.le_refl _) o1).alloc (by simp) o2
  have hsame : Pa.same (.mk sk sp sn sm sl) (.mk tk tp tn tm tl) = (sk == tk && (sn.data.toList == tn.data.toList && (sm == tm && Pa.sames sl tl))) := by unfold Pa.same; rfl
  have HS1 := Lib.hid (HS.out.on hb1)
  have HT1 := Lib.hid (HT.out.on hb1)
  by_cases hk : sk = tk
  · have q1 : (sk == tk) = true := by rw [beq_iff_eq]; exact hk
    by_cases hn : sn = tn
    · by_cases hm : sm = tm
      · have q3 : (sm == tm) = true := by rw [beq_iff_eq]; exact hm
        have HE : Hid (Pa.same (.mk sk sp sn sm sl) (.mk tk tp tn tm tl) = Pa.sames sl tl) := Lib.hid (by rw [hsame, hk, hn, hm]; simp)
        subst hn
        clear hsame hk hm
        subst ho1 ho2
        go_enter Tryz.func22, Tryz.ntmps22
        go_wp2_with fail
        refine (HI.out P Q _ _ _ HS1.out HT1.out).mono ?_
        rintro e w1 ⟨rfl, hb2⟩
        go_wp2
        go_ret
        exact ⟨by rw [HE.out]; rfl, hb1.trans (hb2.mono hb1.size)⟩
      · have q3 : (sm == tm) = false := by rw [beq_eq_false_iff_ne]; exact hm
        have HE : Hid (Pa.same (.mk sk sp sn sm sl) (.mk tk tp tn tm tl) = false) := Lib.hid (by rw [hsame, q3]; simp)
        subst hn
        clear hsame hk hm
        subst ho1 ho2
        go_enter Tryz.func22, Tryz.ntmps22
        go_wp2
        go_ret
        exact ⟨by rw [HE.out]; rfl, hb1⟩
    · have q2 := text_ne hn
      have HE : Hid (Pa.same (.mk sk sp sn sm sl) (.mk tk tp tn tm tl) = false) := Lib.hid (by rw [hsame, ← text_eq, q2]; simp)
      clear hsame hk hn
      subst ho1 ho2
      go_enter Tryz.func22, Tryz.ntmps22
      go_wp2
      go_ret
      exact ⟨by rw [HE.out]; rfl, hb1⟩
  · have q1 : (sk == tk) = false := by rw [beq_eq_false_iff_ne]; exact hk
    have HE : Hid (Pa.same (.mk sk sp sn sm sl) (.mk tk tp tn tm tl) = false) := Lib.hid (by rw [hsame, q1]; rfl)
    clear hsame hk
    subst ho1 ho2
    go_enter Tryz.func22, Tryz.ntmps22
    go_wp2
    go_ret
    exact ⟨by rw [HE.out]; rfl, hb1⟩

set_option maxHeartbeats 8000000 in
set_option maxRecDepth 100000 in
theorem rsamePs_all : ∀ (z : Nat) (l m : List Pa), Pa.wts l ≤ z → RSamePs l m := by
  intro z
  induction z with
  | zero => intro l m hz; cases l <;> (unfold Pa.wts at hz; omega)
  | succ z ih =>
    intro sl tl hz P Q v v' w hs ht
    obtain ⟨ao, cap, rfl, v1, v2⟩ := hs.form
    obtain ⟨bo, cap2, rfl, u1, u2⟩ := ht.form
    have HI := Lib.hid ih
    have HS1 := Lib.hid hs
    have HT1 := Lib.hid ht
    have hlm : (sl.length : Int) ≤ 9223372036854775807 := by unfold maxLen at v2; omega
    clear ih hs ht
    by_cases hl : sl.length = tl.length
    · have q3 : ((sl.length : Int) != tl.length) = false := by rw [bne_eq_false_iff_eq]; omega
      have HLn := Lib.hid hl
      clear hl
      go_enter Tryz.func45, Tryz.ntmps45
      go_wp2
      go_loopw [5] (fun iv wr => ∃ k : Nat, k ≤ sl.length ∧ iv = .int .i64 k ∧ Hid (∀ (j : Nat) (s t : Pa), j < k → sl[j]? = some s → tl[j]? = some t → s.same t = true) ∧ Below w.heap.size w wr) (fun iv _ => sl.length - (intOf iv).toNat)
      case atStart => exact ⟨0, Nat.zero_le _, rfl, Lib.hid (fun j s t hj => by omega), Below.refl _ _⟩
      case round =>
        obtain ⟨i, hi, rfl, H, hbw⟩ := hrel
        by_cases hlt : i < sl.length
        · have i1 : (i : Int) < sl.length := by omega
          have i2 : (i : Int) < tl.length := by have := HLn.out; omega
          obtain ⟨x, hx⟩ : ∃ x, sl[i]? = some x := ⟨sl[i], List.getElem?_eq_getElem hlt⟩
          obtain ⟨y, hy⟩ : ∃ y, tl[i]? = some y := ⟨tl[i]'(by have := HLn.out; omega), List.getElem?_eq_getElem (by have := HLn.out; omega)⟩
          have hsz := Pa.wts_get sl i x hx
          obtain ⟨a, rfl, _, hrow⟩ := HS1.out.at hx
          obtain ⟨b, rfl, _, hrow'⟩ := HT1.out.at hy
          have hrow := hrow.on hbw
          have hrow' := hrow'.on hbw
          have HX := Lib.hid hx
          have HY := Lib.hid hy
          obtain ⟨xk, xp, xn, xm, xl⟩ := x
          obtain ⟨yk, yp, yn, ym, yl⟩ := y
          have HXY := Lib.hid (HI.out xl yl (by unfold Pa.wt at hsz; omega))
          obtain ⟨c0, c1, c2, c2', c3, ca, cb, c4, _, _, hxa⟩ := hrow.cells
          obtain ⟨d0, d1, d2, d2', d3, da, db, d4, _, _, hya⟩ := hrow'.cells
          have HXA := Lib.hid hxa
          have HYA := Lib.hid hya
          clear hrow hrow' hxa hya hsz hx hy
          go_wp2
          go_still_tail 8, (by kernel_rfl)
          change wpList _ _ _ _ _ wr.drew
          have hbd : Below wr.heap.size wr wr.drew := (Below.refl _ _).drew
          have HXA2 := Lib.hid (HXA.out.on hbd)
          have HYA2 := Lib.hid (HYA.out.on hbd)
          have hbw2 := hbw.trans (hbd.mono hbw.size)
          generalize wr.drew = w2 at HXA2 HYA2 hbw2 ⊢
          go_wp2_with fail
          refine (rsameP_step xk xp xn xm xl yk yp yn ym yl HXY.out P Q (.slice ca xl.length cb) (.slice da yl.length db) w2 HXA2.out HYA2.out).mono ?_
          rintro e w3 ⟨rfl, hb3⟩
          have hbw3 := hbw2.trans (hb3.mono hbw2.size)
          by_cases hr : Pa.same (.mk xk xp xn xm xl) (.mk yk yp yn ym yl) = true
          · rw [hr]
            have HN : Hid (∀ (j : Nat) (s t : Pa), j < i + 1 → sl[j]? = some s → tl[j]? = some t → s.same t = true) := Lib.hid (fun j s t hj h1 h2 => by
              by_cases hji : j = i
              · subst hji
                rw [HX.out] at h1
                rw [HY.out] at h2
                cases h1; cases h2; exact hr
              · exact H.out j s t (by omega) h1 h2)
            clear hr
            go_wp2
            go_roundw
            case rel => exact ⟨i + 1, by omega, by go_num, HN, hbw3⟩
            case measure => simp [intOf]; omega
          · have hr : Pa.same (.mk xk xp xn xm xl) (.mk yk yp yn ym yl) = false := by simpa using hr
            have HF : Hid (Pa.sames sl tl = false) := Lib.hid (Pa.sames_not sl tl i _ _ HX.out HY.out hr)
            rw [hr]
            clear hr
            go_wp2
            go_ret
            exact ⟨by rw [HF.out]; rfl, hbw3⟩
        · have i1 : ¬ (i : Int) < sl.length := by omega
          have HF : Hid (Pa.sames sl tl = true) := Lib.hid (Pa.sames_all sl tl HLn.out (fun j s t h1 h2 => H.out j s t (by have := (List.getElem?_eq_some_iff.1 h1).1; omega) h1 h2))
          go_wp2
          go_ret
          exact ⟨by rw [HF.out]; rfl, hbw⟩
    · have q3 : ((sl.length : Int) != tl.length) = true := by rw [bne_iff_ne]; omega
      have HE : Hid (Pa.sames sl tl = false) := Lib.hid (by
        cases hq : Pa.sames sl tl with
        | false => rfl
        | true => exact absurd (Pa.sames_len sl tl hq) hl)
      clear hl
      go_enter Tryz.func45, Tryz.ntmps45
      go_wp2
      go_ret
      exact ⟨by rw [HE.out]; rfl, Below.refl _ _⟩
end Go.Proofs.YtdiffpiapdghoaaGreatDoor
/-
  Layer 3: when expressions, ways, declarations are the same but for places; how many parts they have. No walk.
-/
namespace Go.Proofs.YtdiffpiapdghoaaGreatDoor
set_option linter.unusedVariables false
open Go.RowKit

def Tx.sames : List ByteArray → List ByteArray → Bool
  | [], [] => true
  | t :: r, t' :: r' => t.data.toList == t'.data.toList && Tx.sames r r'
  | _, _ => false
def Co.same (c d : Co) : Bool := c.name.data.toList == d.name.data.toList && Ty.sames c.args d.args
def Co.sames : List Co → List Co → Bool
  | [], [] => true
  | t :: r, t' :: r' => t.same t' && Co.sames r r'
  | _, _ => false
mutual
def Ex.same : Ex → Ex → Bool
  | .mk k _ n m l ps al ds, .mk k' _ n' m' l' ps' al' ds' => k == k' && (n.data.toList == n'.data.toList && (m == m' && (Ex.sames l l' && (Pa.sames ps ps' && (Al.sames al al' && De.sames ds ds')))))
def Ex.sames : List Ex → List Ex → Bool
  | [], [] => true
  | t :: r, t' :: r' => t.same t' && Ex.sames r r'
  | _, _ => false
def Al.same : Al → Al → Bool
  | .mk p e, .mk p' e' => p.same p' && e.same e'
def Al.sames : List Al → List Al → Bool
  | [], [] => true
  | t :: r, t' :: r' => t.same t' && Al.sames r r'
  | _, _ => false
def De.same : De → De → Bool
  | .mk k _ n vs cs t ps e, .mk k' _ n' vs' cs' t' ps' e' => k == k' && (n.data.toList == n'.data.toList && (Tx.sames vs vs' && (Co.sames cs cs' && (t.same t' && (Pa.sames ps ps' && e.same e')))))
def De.sames : List De → List De → Bool
  | [], [] => true
  | t :: r, t' :: r' => t.same t' && De.sames r r'
  | _, _ => false
end

theorem Co.sames_len : ∀ (l m : List Co), Co.sames l m = true → l.length = m.length
  | [], [], _ => rfl
  | [], _ :: _, h => by unfold Co.sames at h; cases h
  | _ :: _, [], h => by unfold Co.sames at h; cases h
  | t :: r, t' :: r', h => by
    unfold Co.sames at h
    rw [Bool.and_eq_true] at h
    simp [Co.sames_len r r' h.2]
theorem Co.sames_all : ∀ (l m : List Co), l.length = m.length → (∀ (k : Nat) (s t : Co), l[k]? = some s → m[k]? = some t → s.same t = true) → Co.sames l m = true
  | [], [], _, _ => by unfold Co.sames; rfl
  | [], _ :: _, h, _ => by cases h
  | _ :: _, [], h, _ => by cases h
  | t :: r, t' :: r', h, ha => by
    unfold Co.sames
    rw [ha 0 t t' rfl rfl, Co.sames_all r r' (by simpa using h) (fun k s u h1 h2 => ha (k + 1) s u (by simpa using h1) (by simpa using h2))]
    rfl
theorem Co.sames_not : ∀ (l m : List Co) (k : Nat) (s t : Co), l[k]? = some s → m[k]? = some t → s.same t = false → Co.sames l m = false
  | [], _, k, s, t, h, _, _ => by simp at h
  | _ :: _, [], k, s, t, _, h, _ => by simp at h
  | x :: r, y :: r', 0, s, t, h1, h2, h => by
    simp at h1 h2
    subst h1 h2
    unfold Co.sames
    rw [h]; rfl
  | x :: r, y :: r', k + 1, s, t, h1, h2, h => by
    unfold Co.sames
    rw [Co.sames_not r r' k s t (by simpa using h1) (by simpa using h2) h, Bool.and_false]

theorem Ex.sames_len : ∀ (l m : List Ex), Ex.sames l m = true → l.length = m.length
  | [], [], _ => rfl
  | [], _ :: _, h => by unfold Ex.sames at h; cases h
  | _ :: _, [], h => by unfold Ex.sames at h; cases h
  | t :: r, t' :: r', h => by
    unfold Ex.sames at h
    rw [Bool.and_eq_true] at h
    simp [Ex.sames_len r r' h.2]
theorem Ex.sames_all : ∀ (l m : List Ex), l.length = m.length → (∀ (k : Nat) (s t : Ex), l[k]? = some s → m[k]? = some t → s.same t = true) → Ex.sames l m = true
  | [], [], _, _ => by unfold Ex.sames; rfl
  | [], _ :: _, h, _ => by cases h
  | _ :: _, [], h, _ => by cases h
  | t :: r, t' :: r', h, ha => by
    unfold Ex.sames
    rw [ha 0 t t' rfl rfl, Ex.sames_all r r' (by simpa using h) (fun k s u h1 h2 => ha (k + 1) s u (by simpa using h1) (by simpa using h2))]
    rfl
theorem Ex.sames_not : ∀ (l m : List Ex) (k : Nat) (s t : Ex), l[k]? = some s → m[k]? = some t → s.same t = false → Ex.sames l m = false
  | [], _, k, s, t, h, _, _ => by simp at h
  | _ :: _, [], k, s, t, _, h, _ => by simp at h
  | x :: r, y :: r', 0, s, t, h1, h2, h => by
    simp at h1 h2
    subst h1 h2
    unfold Ex.sames
    rw [h]; rfl
  | x :: r, y :: r', k + 1, s, t, h1, h2, h => by
    unfold Ex.sames
    rw [Ex.sames_not r r' k s t (by simpa using h1) (by simpa using h2) h, Bool.and_false]

theorem Al.sames_len : ∀ (l m : List Al), Al.sames l m = true → l.length = m.length
  | [], [], _ => rfl
  | [], _ :: _, h => by unfold Al.sames at h; cases h
  | _ :: _, [], h => by unfold Al.sames at h; cases h
  | t :: r, t' :: r', h => by
    unfold Al.sames at h
    rw [Bool.and_eq_true] at h
    simp [Al.sames_len r r' h.2]
theorem Al.sames_all : ∀ (l m : List Al), l.length = m.length → (∀ (k : Nat) (s t : Al), l[k]? = some s → m[k]? = some t → s.same t = true) → Al.sames l m = true
  | [], [], _, _ => by unfold Al.sames; rfl
  | [], _ :: _, h, _ => by cases h
  | _ :: _, [], h, _ => by cases h
  | t :: r, t' :: r', h, ha => by
    unfold Al.sames
    rw [ha 0 t t' rfl rfl, Al.sames_all r r' (by simpa using h) (fun k s u h1 h2 => ha (k + 1) s u (by simpa using h1) (by simpa using h2))]
    rfl
theorem Al.sames_not : ∀ (l m : List Al) (k : Nat) (s t : Al), l[k]? = some s → m[k]? = some t → s.same t = false → Al.sames l m = false
  | [], _, k, s, t, h, _, _ => by simp at h
  | _ :: _, [], k, s, t, _, h, _ => by simp at h
  | x :: r, y :: r', 0, s, t, h1, h2, h => by
    simp at h1 h2
    subst h1 h2
    unfold Al.sames
    rw [h]; rfl
  | x :: r, y :: r', k + 1, s, t, h1, h2, h => by
    unfold Al.sames
    rw [Al.sames_not r r' k s t (by simpa using h1) (by simpa using h2) h, Bool.and_false]

theorem De.sames_len : ∀ (l m : List De), De.sames l m = true → l.length = m.length
  | [], [], _ => rfl
  | [], _ :: _, h => by unfold De.sames at h; cases h
  | _ :: _, [], h => by unfold De.sames at h; cases h
  | t :: r, t' :: r', h => by
    unfold De.sames at h
    rw [Bool.and_eq_true] at h
    simp [De.sames_len r r' h.2]
theorem De.sames_all : ∀ (l m : List De), l.length = m.length → (∀ (k : Nat) (s t : De), l[k]? = some s → m[k]? = some t → s.same t = true) → De.sames l m = true
  | [], [], _, _ => by unfold De.sames; rfl
  | [], _ :: _, h, _ => by cases h
  | _ :: _, [], h, _ => by cases h
  | t :: r, t' :: r', h, ha => by
    unfold De.sames
    rw [ha 0 t t' rfl rfl, De.sames_all r r' (by simpa using h) (fun k s u h1 h2 => ha (k + 1) s u (by simpa using h1) (by simpa using h2))]
    rfl
theorem De.sames_not : ∀ (l m : List De) (k : Nat) (s t : De), l[k]? = some s → m[k]? = some t → s.same t = false → De.sames l m = false
  | [], _, k, s, t, h, _, _ => by simp at h
  | _ :: _, [], k, s, t, _, h, _ => by simp at h
  | x :: r, y :: r', 0, s, t, h1, h2, h => by
    simp at h1 h2
    subst h1 h2
    unfold De.sames
    rw [h]; rfl
  | x :: r, y :: r', k + 1, s, t, h1, h2, h => by
    unfold De.sames
    rw [De.sames_not r r' k s t (by simpa using h1) (by simpa using h2) h, Bool.and_false]

theorem Tx.sames_len : ∀ (l m : List ByteArray), Tx.sames l m = true → l.length = m.length
  | [], [], _ => rfl
  | [], _ :: _, h => by unfold Tx.sames at h; cases h
  | _ :: _, [], h => by unfold Tx.sames at h; cases h
  | t :: r, t' :: r', h => by
    unfold Tx.sames at h
    rw [Bool.and_eq_true] at h
    simp [Tx.sames_len r r' h.2]
theorem Tx.sames_all : ∀ (l m : List ByteArray), l.length = m.length → (∀ (k : Nat) (s t : ByteArray), l[k]? = some s → m[k]? = some t → (s.data.toList == t.data.toList) = true) → Tx.sames l m = true
  | [], [], _, _ => by unfold Tx.sames; rfl
  | [], _ :: _, h, _ => by cases h
  | _ :: _, [], h, _ => by cases h
  | t :: r, t' :: r', h, ha => by
    unfold Tx.sames
    rw [ha 0 t t' rfl rfl, Tx.sames_all r r' (by simpa using h) (fun k s u h1 h2 => ha (k + 1) s u (by simpa using h1) (by simpa using h2))]
    rfl
theorem Tx.sames_not : ∀ (l m : List ByteArray) (k : Nat) (s t : ByteArray), l[k]? = some s → m[k]? = some t → (s.data.toList == t.data.toList) = false → Tx.sames l m = false
  | [], _, k, s, t, h, _, _ => by simp at h
  | _ :: _, [], k, s, t, _, h, _ => by simp at h
  | x :: r, y :: r', 0, s, t, h1, h2, h => by
    simp at h1 h2
    subst h1 h2
    unfold Tx.sames
    rw [h]; rfl
  | x :: r, y :: r', k + 1, s, t, h1, h2, h => by
    unfold Tx.sames
    rw [Tx.sames_not r r' k s t (by simpa using h1) (by simpa using h2) h, Bool.and_false]
end Go.Proofs.YtdiffpiapdghoaaGreatDoor
