/-
  Layer 7, the program's side: walk: from a node that is not met all that it leads to.
-/
import Derived.Test.YtmoebpebahhbeaaGK
import Derived.Deep.LoopGhost
namespace Go.Proofs.Ytmoebpebahhbeaa
set_option linter.unusedVariables false
open Go.ChangeShapes Go.WideShapes Go.ChangeAt Go.RowKit

/-- of each node those that it needs, in memory -/
structure ARep (w : World) (B : Nat) (O : Nat → Nat) (av : Value) (adj : List (List Nat)) (vs : List Value) : Prop where
  out : w.ownsRow B 30 1 av adj.length vs
  rows : Rws w B (fun b => O b = 9) vs adj
  tag : ∀ b, av.ownBlock = some b → O b = 9
theorem ARep.fx {S : Nat → Prop} {w w' : World} {B : Nat} {O : Nat → Nat} {av : Value} {adj : List (List Nat)} {vs : List Value} (h : ARep w B O av adj vs) (hf : Fx S w w') (hn : ∀ b, O b = 9 → ¬ S b) : ARep w' B O av adj vs :=
  ⟨fx_row h.out hf fun b hb => hn b (h.tag b hb), h.rows.fx hf hn, h.tag⟩
theorem ARep.mv {w w' : World} {B : Nat} {O O' : Nat → Nat} {av : Value} {adj : List (List Nat)} {vs : List Value} (h : ARep w B O av adj vs) (hm : Mv O O' w w') : ARep w' B O' av adj vs := by
  have h1 := h.fx hm.fx fun b hb hM => by unfold Mine at hM; omega
  have h2 := h.rows.mono (P' := fun b => O' b = 9) fun b hb h9 => by rw [hm.tag b hb]; exact h9
  refine ⟨h1.out, ⟨h1.rows.len, h1.rows.row, h2.tag⟩, fun b hb => ?_⟩
  rw [hm.tag b (h.out.lt b hb).2]
  exact h.tag b hb
/-- where the walk's loop stands -/
def WLoop (B : Nat) (O0 : Nat → Nat) (p : Nat) (av : Value) (adj : List (List Nat)) (vs : List Value) (s0 : St) (a D : Nat) (w0 : World) (k : Nat) (wr : World) : Prop :=
  ∃ s O L, k = mu adj D s ∧ SRep B O p av L s wr ∧ ARep wr B O av adj vs ∧ Gd adj s ∧ Mv O0 O w0 wr ∧ (∀ x, at0 s0.met x ≠ 0 → at0 s.met x ≠ 0) ∧ at0 s.met a ≠ 0
/-- what the walk leaves -/
def Walked (B : Nat) (O0 : Nat → Nat) (p : Nat) (av : Value) (adj : List (List Nat)) (s0 : St) (a : Nat) (w0 : World) (w' : World) : Prop :=
  ∃ s O L, SRep B O p av L s w' ∧ Gd adj s ∧ s.road = [] ∧ Mv O0 O w0 w' ∧ (∀ x, at0 s0.met x ≠ 0 → at0 s.met x ≠ 0) ∧ at0 s.met a ≠ 0

set_option maxHeartbeats 1000000 in
set_option maxRecDepth 100000 in
theorem leave_gather (B p a k : Nat) (l : List (Nat × Nat)) (pre post : List Nat) (O : Nat → Nat) (av : Value) (L : Loc) (s : St) (w : World) (h : SRep B O p av L s w) (hs : Sml s) (ha : a < s.met.length) (hr : s.road = l ++ [(a, k)]) (hne : at0 s.fst a = at0 s.met a)
    (ho : s.opn = pre ++ a :: post) (hna : a ∉ post) (hlt : ∀ b ∈ a :: post, b < s.grp.length) (hgl : s.grps.length ≤ 1023) :
    Calls Try.prog 37 #[.pointer (some ⟨p, 0, none⟩), .int .i64 (a : Int)] w fun e w' => e = .returned (.tuple #[]) ∧ Stood B O p av w (St.gather { s with road := l } pre (sortN (a :: post))) w' := by
  have hlen : s.road.length = l.length + 1 := by rw [hr]; simp
  obtain ⟨br, cr, er, -⟩ := owns_some h.r (by omega)
  obtain ⟨bm, cm, em, -⟩ := owns_some h.m (by omega)
  obtain ⟨bf, cf, ef, -⟩ := owns_some h.f (by have := hs.f; omega)
  have hfa : a < s.fst.length := by have := hs.f; omega
  have d5 := h.c5
  have or_ := h.r
  rw [er] at d5 or_
  rw [hlen] at d5 or_
  have hcap := (owns_cap or_).1
  have hcut := owns_cut or_ l.length (by omega)
  have z5 := h.frz 5
  have EM := Lib.hid em
  have EF := Lib.hid ef
  have TR := Lib.hid h.tr
  have hrl : l.length ≤ 1023 := by have := hs.r; omega
  have ER := Lib.hid er
  have HH := Lib.hid h
  have HR := Lib.hid hr
  have OC := Lib.hid hcut
  have HO := Lib.hid ho
  have HN := Lib.hid hna
  have HL := Lib.hid hlt
  have HG := Lib.hid hgl
  have e1 : (((at0 s.fst a : Nat) : Int) == ((at0 s.met a : Nat) : Int)) = true := by rw [hne]; simp
  have ham : (a : Int) < (s.met.length : Int) := by omega
  have haf : (a : Int) < (s.fst.length : Int) := by omega
  have HFA := Lib.hid hfa
  have HA := Lib.hid ha
  have HS2 : Hid (Sml { s with road := l }) := Lib.hid ⟨hs.m, hs.f, hs.q, hs.o, by show l.length ≤ 1024; omega, hs.c, hs.g⟩
  clear h hs er em ef or_ hcut hr hlen hne hfa ha ho hna hlt hgl
  go_enter Try.func37, Try.ntmps37
  go_wp2_with fail
  go_region
  rename_i K hK
  refine hK _ _ ?_
  clear hK K
  have h1 := HH.out.head_r (O' := O) (w1 := w) (w' := w.setCell ⟨p, 5, none⟩ (.slice (some ⟨br, 0, none⟩) l.length cr)) (v' := .slice (some ⟨br, 0, none⟩) l.length cr) (l := l) (Fx.refl _ w) (by
    have := OC.out
    rw [HR.out, rv_append, List.take_left' (by rw [rv_len])] at this
    exact this) (fun _ _ => rfl) (fun b hb => TR.out b (by rw [ER.out]; exact hb)) HH.out.low rfl
  have H1 := Lib.hid h1.1.drew
  have X1 := Lib.hid h1.2.fx.drew
  clear h1 d5 z5
  generalize (w.setCell _ _).drew = W1 at H1 X1 ⊢
  have d1 : W1.cell? ⟨p, 1, none⟩ = some L.vm := H1.out.c1
  have d2 : W1.cell? ⟨p, 2, none⟩ = some L.vf := H1.out.c2
  have om : W1.ownsRow B 3 1 L.vm s.met.length (nv s.met) := H1.out.m
  have of_ : W1.ownsRow B 3 1 L.vf s.fst.length (nv s.fst) := H1.out.f
  rw [EM.out] at d1 om
  rw [EF.out] at d2 of_
  have gm := num_cell om HA.out
  have gf := num_cell of_ HFA.out
  clear om of_
  go_wp2_with fail
  go_quiet (fail)
  go_wp2_with fail
  refine (gather_any B p a pre post O av _ { s with road := l } _ (H1.out.drewN _) HS2.out HO.out HN.out HL.out HG.out).mono ?_
  rintro e w2 ⟨rfl, O2, L2, h2, x2⟩
  have h3 := (Mv.of_fx (X1.out.drewN _)).trans x2
  have H2 := Lib.hid h2
  have H3 := Lib.hid h3
  clear h2 x2 h3
  go_wp2_with fail
  exact bodyPost_ret (v := .tuple #[]) (by simp [results, Try.results37, go_sem]) rfl ⟨rfl, _, _, H2.out, H3.out⟩

theorem ats_lt {adj : List (List Nat)} {a i b : Nat} (h : (ats adj a)[i]? = some b) : a < adj.length := by
  refine Classical.byContradiction fun hn => ?_
  have e : ats adj a = [] := by unfold ats; rw [List.getD_eq_getElem?_getD, List.getElem?_eq_none (by omega)]; rfl
  rw [e] at h
  simp at h

set_option maxHeartbeats 2000000 in
set_option maxRecDepth 100000 in
theorem walk_any (B p a D : Nat) (adj : List (List Nat)) (vs : List Value) (O : Nat → Nat) (av : Value) (L : Loc) (s : St) (w : World) (h : SRep B O p av L s w) (hA : ARep w B O av adj vs) (hg : Gd adj s) (ok : Oks adj) (hn : adj.length ≤ 1024) (hD : ∀ a, (ats adj a).length ≤ D) (hD2 : D ≤ 100000)
    (hr : s.road = []) (ha : a < adj.length) (h0 : at0 s.met a = 0) :
    Calls Try.prog 29 #[.pointer (some ⟨p, 0, none⟩), .int .i64 (a : Int)] w fun e w' => e = .returned (.tuple #[]) ∧ Walked B O p av adj s a w w' := by
  have hs := hg.sml hn
  have hHE := hg.enter h0 ha (fun q hq => by rw [hr] at hq; simp at hq)
  have hmo := enter_mono hg ha
  have hma : at0 (s.enter a).met a ≠ 0 := by
    show at0 (s.met.set a (s.cnt + 1)) a ≠ 0
    rw [at0_set (by rw [hg.lm]; exact ha), upd_eq]
    omega
  have HE := Lib.hid hHE
  have HMO := Lib.hid hmo
  have HMA := Lib.hid hma
  have HH := Lib.hid h
  have HA := Lib.hid hA
  have HS := Lib.hid hs
  have HAL := Lib.hid (show a < s.met.length by rw [hg.lm]; exact ha)
  have OK := Lib.hid ok
  have HN := Lib.hid hn
  have HD := Lib.hid hD
  clear h hA hg ok hn hD hr ha h0 hs hHE hmo hma
  go_enter Try.func29, Try.ntmps29
  go_wp2_with fail
  refine (enter_any B p a O av L s w HH.out HS.out HAL.out).mono ?_
  rintro e w1 ⟨rfl, O1, L1, h1, x1⟩
  have h2 : WLoop B O p av adj vs s a D w (mu adj D (s.enter a)) w1 := ⟨_, O1, L1, rfl, h1, HA.out.mv x1, HE.out, x1, HMO.out, HMA.out⟩
  have H2 := Lib.hid h2
  clear h1 x1 h2
  go_wp2_with fail
  go_loopg [] (mu adj D (s.enter a)) (fun k wr => WLoop B O p av adj vs s a D w k wr)
  case atStart => exact H2.out
  case round =>
    obtain ⟨s1, O1, L1, hk, h1, hA1, hg1, x1, hmo1, hma1⟩ := hrel
    have HK := Lib.hid hk
    have H1 := Lib.hid h1
    have HA1 := Lib.hid hA1
    have HG1 := Lib.hid hg1
    have X1 := Lib.hid x1
    have HMO1 := Lib.hid hmo1
    have HMA1 := Lib.hid hma1
    clear hk h1 hA1 hg1 x1 hmo1 hma1
    rcases List.eq_nil_or_concat s1.road with hr1 | ⟨l, ⟨t, i⟩, hr1⟩
    · obtain ⟨ar, cr, er⟩ := owns_form H1.out.r
      have d5 := H1.out.c5
      rw [er, hr1] at d5
      have HR1 := Lib.hid hr1
      clear hr1 er
      go_wp2_with fail
      exact bodyPost_end (v := .tuple #[]) (by simp [results, Try.results29, go_sem]) rfl ⟨rfl, _, _, _, H1.out, HG1.out, HR1.out, X1.out, HMO1.out, HMA1.out⟩
    · rw [List.concat_eq_append] at hr1
      have hlen : s1.road.length = l.length + 1 := by rw [hr1]; simp
      obtain ⟨br, cr, er, -⟩ := owns_some H1.out.r (by omega)
      have d5 := H1.out.c5
      have d0 := H1.out.c0
      have or_ := H1.out.r
      rw [er] at d5 or_
      rw [hlen] at d5 or_
      have gr0 : wr.cell? ⟨br, l.length * 2, none⟩ = some (.int .i64 (t : Int)) := by rw [or_.cellAt _ (by omega), hr1, rv_snoc0]
      have gr1 : wr.cell? ⟨br, l.length * 2 + 1, none⟩ = some (.int .i64 (i : Int)) := by rw [or_.cellAt _ (by omega), hr1, rv_snoc1]
      have zr1 := or_.frozenAt (l.length * 2 + 1)
      have hrl : l.length ≤ 1023 := by have := (HG1.out.sml HN.out).r; omega
      have hto : t ∈ s1.opn := HG1.out.road_open (q := (t, i)) (by rw [hr1]; simp)
      have htn := HG1.out.open_lt hto
      have hi := HG1.out.j.rle (t, i) (by rw [hr1]; simp)
      simp only at hi
      have hdb := HD.out t
      obtain ⟨ba, ca, ea, -⟩ := owns_some HA1.out.out (by omega)
      obtain ⟨vt, hvt, hot, htt⟩ := HA1.out.rows.at htn
      have oa := HA1.out.out
      rw [ea] at oa d0
      have gt := val_cell oa hvt
      have htni : (t : Int) < (adj.length : Int) := by omega
      have ER := Lib.hid er
      have HR1 := Lib.hid hr1
      have HLEN := Lib.hid hlen
      have HTN := Lib.hid htn
      have HTO := Lib.hid hto
      by_cases hlt : i < (ats adj t).length
      · obtain ⟨bt, ct, et, -⟩ := owns_some hot (by omega)
        rw [et] at hot gt
        have gb := num_cell hot hlt
        have hb : (ats adj t)[i]? = some (at0 (ats adj t) i) := by simp [at0, List.getD, List.getElem?_eq_getElem hlt]
        have HB := Lib.hid hb
        have hiI : (i : Int) < ((ats adj t).length : Int) := by omega
        have hstep := HG1.out.along OK.out (D := D) HD.out hr1 hb
        have HST := Lib.hid hstep
        have hbn := OK.out t _ (ed_at.2 ⟨i, hb⟩)
        have HBN := Lib.hid hbn
        have hib : i ≤ 100000 := by omega
        clear oa or_ hot hvt htt er hr1 hlen ea et hto hb hstep hbn htn hdb
        go_wp2_with fail
        go_quiet (fail)
        go_wp2_with fail
        go_quiet (fail)
        go_wp2_with fail
        go_quiet (fail)
        go_wp2_with fail
        obtain ⟨h2, x2⟩ := (H1.out.drewN _).put_next (w' := _) ER.out l t i (i + 1) HR1.out rfl rfl
        have HS2 : Sml { s1 with road := l ++ [(t, i + 1)] } := by
          have hh := HG1.out.sml HN.out
          exact ⟨hh.m, hh.f, hh.q, hh.o, by show (l ++ [(t, i + 1)]).length ≤ 1024; simp; omega, hh.c, hh.g⟩
        refine (along_any B p t (at0 (ats adj t) i) O1 av L1 { s1 with road := l ++ [(t, i + 1)] } _ h2 HS2 (by show t < s1.met.length; rw [HG1.out.lm]; exact HTN.out) (by show _ < s1.met.length; rw [HG1.out.lm]; exact HBN.out)).mono ?_
        rintro e W3 ⟨rfl, O3, L3, h3, x3⟩
        have x4 := (Mv.of_fx ((Fx.refl (Mine O1) wr).drewN _ |>.trans x2 fun _ _ h => h)).trans x3
        have hx : WLoop B O p av adj vs s a D w (mu adj D (St.along { s1 with road := l ++ [(t, i + 1)] } t (at0 (ats adj t) i))) W3 := ⟨_, O3, L3, rfl, h3, HA1.out.mv x4, HST.out.1, X1.out.trans x4, fun x hx => HST.out.2.1 x (HMO1.out x hx), HST.out.2.1 a HMA1.out⟩
        have HX := Lib.hid hx
        clear h2 x2 h3 x3 x4 hx HS2
        go_wp2_with fail
        go_roundg (mu adj D (St.along { s1 with road := l ++ [(t, i + 1)] } t (at0 (ats adj t) i)))
        case measure => rw [HK.out]; exact HST.out.2.2
        case rel => exact HX.out
      · have hie : i = (ats adj t).length := by omega
        obtain ⟨at_, ct, et⟩ := owns_form hot
        rw [et] at gt
        have hiI : ¬ (i : Int) < ((ats adj t).length : Int) := by omega
        have hdi : decide ((i : Int) < ((ats adj t).length : Int)) = false := by rw [decide_eq_false_iff_not]; exact hiI
        have HIE := Lib.hid hie
        have HSM := Lib.hid (HG1.out.sml HN.out)
        have HTM := Lib.hid (show t < s1.met.length by rw [HG1.out.lm]; exact htn)
        clear oa or_ hot hvt htt er hr1 hlen ea et hto htn hlt hie
        by_cases hft : at0 s1.fst t = at0 s1.met t
        · obtain ⟨pre, post, g1, g2, g3, g4, g5, g6⟩ := HG1.out.gather (D := D) HR1.out HIE.out hft
          have HF := Lib.hid hft
          have G1 := Lib.hid g1
          have G2 := Lib.hid g2
          have G3 := Lib.hid g3
          have G4 := Lib.hid (show s1.grps.length ≤ 1023 by have := HN.out; omega)
          have G5 := Lib.hid g5
          have G6 := Lib.hid g6
          clear hft g1 g2 g3 g4 g5 g6
          go_wp2_with fail
          go_quiet (fail)
          go_wp2_with fail
          go_quiet (fail)
          go_wp2_with fail
          refine (leave_gather B p t i l pre post O1 av L1 s1 _ (H1.out.drewN _) HSM.out HTM.out HR1.out HF.out G1.out G2.out G3.out G4.out).mono ?_
          rintro e W3 ⟨rfl, O3, L3, h3, x3⟩
          have x4 := (Mv.of_fx ((Fx.refl (Mine O1) wr).drewN _)).trans x3
          have hx : WLoop B O p av adj vs s a D w (mu adj D (St.gather { s1 with road := l } pre (sortN (t :: post)))) W3 := ⟨_, O3, L3, rfl, h3, HA1.out.mv x4, G5.out, X1.out.trans x4, HMO1.out, HMA1.out⟩
          have HX := Lib.hid hx
          clear h3 x3 x4 hx
          go_wp2_with fail
          go_roundg (mu adj D (St.gather { s1 with road := l } pre (sortN (t :: post))))
          case measure => rw [HK.out]; exact G6.out
          case rel => exact HX.out
        · obtain ⟨l', c, j, g1, g2, g3, g4⟩ := HG1.out.up (D := D) HR1.out HIE.out hft
          have HF := Lib.hid hft
          have G2 := Lib.hid (show c < s1.met.length by rw [HG1.out.lm]; exact g2)
          have G3 := Lib.hid g3
          have G4 := Lib.hid g4
          have G1 := Lib.hid (show s1.road = (l' ++ [(c, j)]) ++ [(t, i)] by rw [HR1.out, g1])
          clear hft g1 g2 g3 g4
          go_wp2_with fail
          go_quiet (fail)
          go_wp2_with fail
          go_quiet (fail)
          go_wp2_with fail
          refine (leave_up B p t i c j l' O1 av L1 s1 _ (H1.out.drewN _) HSM.out HTM.out G2.out G1.out HF.out).mono ?_
          rintro e W3 ⟨rfl, O3, L3, h3, x3⟩
          have x4 := (Mv.of_fx ((Fx.refl (Mine O1) wr).drewN _)).trans x3
          have hx : WLoop B O p av adj vs s a D w (mu adj D { s1 with road := l' ++ [(c, j)], fst := s1.fst.set c (min (at0 s1.fst c) (at0 s1.fst t)) }) W3 := ⟨_, O3, L3, rfl, h3, HA1.out.mv x4, G3.out, X1.out.trans x4, HMO1.out, HMA1.out⟩
          have HX := Lib.hid hx
          clear h3 x3 x4 hx
          go_wp2_with fail
          go_roundg (mu adj D { s1 with road := l' ++ [(c, j)], fst := s1.fst.set c (min (at0 s1.fst c) (at0 s1.fst t)) })
          case measure => rw [HK.out]; exact G4.out
          case rel => exact HX.out
end Go.Proofs.Ytmoebpebahhbeaa
