/-
  Layer 7, the program's side: gather: what is open since a node is its group.
-/
import Derived.Test.YtmoebpebahhbeaaLeave
import Derived.LoopTactic
namespace Go.Proofs.Ytmoebpebahhbeaa
set_option linter.unusedVariables false
open Go.ChangeShapes Go.WideShapes Go.ChangeAt Go.RowKit

def St.gather (s : St) (pre g : List Nat) : St := { s with opn := pre, grps := s.grps ++ [g], grp := setAll s.grp g (s.grps.length + 1) }
theorem at_pre {pre post : List Nat} {a : Nat} : at0 (pre ++ a :: post) pre.length = a := by simp [at0, List.getD]
theorem at_post {pre post : List Nat} {a j : Nat} (hn : a ∉ post) (h1 : pre.length ≤ j) (h2 : j < pre.length + (post.length + 1)) (h : at0 (pre ++ a :: post) j = a) : j = pre.length := by
  by_cases e : j = pre.length
  · exact e
  · exfalso
    obtain ⟨i, rfl⟩ : ∃ i, j = pre.length + (i + 1) := ⟨j - pre.length - 1, by omega⟩
    have hi : i < post.length := by omega
    unfold at0 at h
    rw [List.getD_eq_getElem?_getD, List.getElem?_append_right (by omega), show pre.length + (i + 1) - pre.length = i + 1 by omega, List.getElem?_cons_succ, List.getElem?_eq_getElem hi] at h
    simp at h
    exact hn (h ▸ List.getElem_mem hi)
theorem at_off {pre post : List Nat} {a j : Nat} (h : j < (a :: post).length) : at0 (pre ++ a :: post) (pre.length + j) = at0 (a :: post) j := by
  unfold at0
  rw [List.getD_eq_getElem?_getD, List.getD_eq_getElem?_getD, List.getElem?_append_right (by omega), show pre.length + j - pre.length = j by omega]

/-- where the second loop stands: so many of the group's nodes are told their group -/
structure GLoop (B : Nat) (O O3 : Nat → Nat) (p : Nat) (av : Value) (L : Loc) (s : St) (w : World) (g cg n : Nat) (srt : List Nat) (i : Nat) (wr : World) : Prop where
  rep : SRep B O3 p av L { s with grp := setAll s.grp (srt.take i) (s.grps.length + 1) } wr
  fx : Fx (Mine O) w wr
  own : wr.ownsRow B 3 1 (.slice (some ⟨g, 0, none⟩) n cg) n (nv srt)
theorem take_snoc_at {l : List Nat} {i : Nat} (h : i < l.length) : l.take (i + 1) = l.take i ++ [at0 l i] := by
  rw [List.take_succ_eq_append_getElem h]
  simp [at0, List.getD, List.getElem?_eq_getElem h]
theorem GLoop.next {B : Nat} {O O3 : Nat → Nat} {p : Nat} {av : Value} {L : Loc} {s : St} {w : World} {g cg n : Nat} {srt : List Nat} {i : Nat} {wr : World} (h : GLoop B O O3 p av L s w g cg n srt i wr) (hi : i < srt.length) {bq cq : Nat} (hq : L.vq = .slice (some ⟨bq, 0, none⟩) s.grp.length cq) (hz : w.heap.size ≤ g) (hO : ∀ b, b < w.heap.size → O3 b = O b) (ht : O3 g = 8) :
    GLoop B O O3 p av L s w g cg n srt (i + 1) (wr.setCell ⟨bq, at0 srt i, none⟩ (.int .i64 (s.grps.length : Int))) := by
  obtain ⟨h2, x2⟩ := h.rep.put_q (w' := wr.setCell ⟨bq, at0 srt i, none⟩ (.int .i64 (s.grps.length : Int))) hq (by show _ = (setAll _ _ _).length; rw [setAll_len]) (at0 srt i) (s.grps.length + 1) (by congr 2; omega)
  refine ⟨?_, h.fx.trans (x2.mono (T := fun b => Mine O3 b) fun _ _ h => h) fun b hb hm => by unfold Mine at hm ⊢; rw [hO b hb] at hm; exact hm, fx_row h.own x2 fun b hb => ?_⟩
  · rw [take_snoc_at hi, setAll_snoc]
    exact h2
  · have e : g = b := by simpa [Value.ownBlock] using hb
    subst e
    unfold Mine
    omega

theorem GLoop.drew {B : Nat} {O O3 : Nat → Nat} {p : Nat} {av : Value} {L : Loc} {s : St} {w : World} {g cg n : Nat} {srt : List Nat} {i : Nat} {wr : World} (h : GLoop B O O3 p av L s w g cg n srt i wr) : GLoop B O O3 p av L s w g cg n srt i wr.drew := ⟨h.rep.drew, h.fx.drew, h.own⟩

set_option maxHeartbeats 2000000 in
set_option maxRecDepth 100000 in
theorem gather_any (B p a : Nat) (pre post : List Nat) (O : Nat → Nat) (av : Value) (L : Loc) (s : St) (w : World) (h : SRep B O p av L s w) (hs : Sml s) (ho : s.opn = pre ++ a :: post) (hna : a ∉ post) (hlt : ∀ b ∈ a :: post, b < s.grp.length) (hgl : s.grps.length ≤ 1023) :
    Calls Try.prog 41 #[.pointer (some ⟨p, 0, none⟩), .int .i64 (a : Int)] w fun e w' => e = .returned (.tuple #[]) ∧ Stood B O p av w (s.gather pre (sortN (a :: post))) w' := by
  have hlen : s.opn.length = pre.length + (post.length + 1) := by rw [ho]; simp
  obtain ⟨bo, co, eo, -⟩ := owns_some h.o (by omega)
  have hol := hs.o
  have d3 := h.c3
  have oo := h.o
  rw [eo] at d3 oo
  rw [hlen] at d3 oo hol
  have hcap := (owns_cap oo).1
  have hcells : ∀ j, j < pre.length + (post.length + 1) → w.cell? ⟨bo, j, none⟩ = some (.int .i64 (at0 s.opn j : Nat)) := fun j hj => num_cell oo (by rw [hlen]; exact hj)
  have CL := Lib.hid hcells
  have HH := Lib.hid h
  have HO := Lib.hid ho
  have HN := Lib.hid hna
  have HL := Lib.hid hlt
  have HS := Lib.hid hs
  have OO := Lib.hid oo
  have EO := Lib.hid eo
  clear h ho hna hlt hs oo eo hcells hlen
  go_enter Try.func41, Try.ntmps41
  go_wp2_with fail
  go_loop [4] (fun v => ∃ j : Nat, pre.length ≤ j ∧ j < pre.length + (post.length + 1) ∧ v = .int .i64 (j : Int)) (fun v => (intOf v).toNat)
  case atStart => exact ⟨pre.length + post.length, by omega, by omega, by go_num⟩
  case round =>
    obtain ⟨j, hj1, hj2, rfl⟩ := hrel
    have gj := CL.out j hj2
    have hji : (j : Int) < ((pre.length + (post.length + 1) : Nat) : Int) := by omega
    by_cases e : at0 s.opn j = a
    · have et : (((at0 s.opn j : Nat) : Int) != (a : Int)) = false := by rw [e]; simp
      obtain rfl : j = pre.length := at_post HN.out hj1 hj2 (by rw [← HO.out]; exact e)
      have hE := Lib.hid e
      clear e
      go_wp2_with fail
      have hl0 : (a :: post).length ≤ 100000 := by have := HS.out.o; rw [HO.out] at this; simp at this ⊢; omega
      refine (clone_any (l := a :: post) hl0 (fun i hi => by rw [CL.out _ (by simp at hi; omega), HO.out, at_off hi])).mono ?_
      rintro e w1 ⟨v1, rfl, ho1, hb1⟩
      obtain ⟨g, cg, rfl, -⟩ := owns_some ho1 (by simp)
      have hgw : w.heap.size ≤ g := (ho1.lt g rfl).1
      have hBw := HH.out.size
      have h1 := (HH.out.retag (O' := retag O w.heap.size 20) (fun b hb _ _ => retag_old hb) (retag_low HH.out.low hBw)).fx (S := fun _ => False) (Fx.of_below hb1) (fun _ _ _ => id)
      have hO1 := owns_base ho1 hBw
      have h2 := h1.head_o (O' := retag O w.heap.size 20) (w1 := w1) (w' := w1.setCell ⟨p, 3, none⟩ (.slice (some ⟨bo, 0, none⟩) pre.length co)) (v' := .slice (some ⟨bo, 0, none⟩) pre.length co) (l := pre) (Fx.refl _ w1) (by
        have := owns_cut OO.out pre.length (by omega)
        rw [HO.out, nv_append, List.take_left' (by rw [nv_len]; omega)] at this
        exact fx_row this (Fx.of_below (S := fun _ => False) hb1) fun _ _ => id) (fun _ _ => rfl) (fun b hb => h1.tw b (by rw [EO.out]; exact hb)) h1.low rfl
      have d31 := h1.c3
      have z31 := h1.frz 3
      rw [EO.out] at d31
      rw [show s.opn.length = pre.length + (post.length + 1) by rw [HO.out]; simp] at d31
      have H2 := Lib.hid h2.1
      have X2 := Lib.hid h2.2.fx
      have G1 := Lib.hid hO1
      have B1 := Lib.hid hb1
      have GW := Lib.hid hgw
      have BW := Lib.hid hBw
      have HL0 := Lib.hid hl0
      clear h2 h1 hO1 hb1 ho1 hgw hBw hl0
      go_wp2_with fail
      have ho2 := fx_row G1.out X2.out (fun b hb => by
        have e : g = b := by simpa [Value.ownBlock] using hb
        subst e
        unfold Mine
        rw [retag_new GW.out]
        omega)
      have HG2 := Lib.hid ho2
      clear ho2 d31 z31
      generalize w1.setCell _ _ = W2 at H2 X2 HG2 ⊢
      refine (sort_any HG2.out HL0.out).mono ?_
      rintro e W3 ⟨rfl, ho3, hx3⟩
      have h3 := (H2.out.fx hx3 (fun b hb1 hb2 e => by rw [e, retag_new GW.out] at hb2; omega)).retag (O' := retag O w.heap.size 8) (fun b hb hb1 hb2 => by
        by_cases hbw : b < w.heap.size
        · rw [retag_old hbw, retag_old hbw]
        · rw [retag_new (by omega)] at hb2; omega) (retag_low HH.out.low BW.out)
      have H3 := Lib.hid h3
      have HG3 := Lib.hid ho3
      have hx30 : Fx (Mine O) w W3 := by
        have x1 : Fx (fun _ => False) w w1 := Fx.of_below B1.out
        refine ((x1.mono (T := Mine O) fun _ _ h => h.elim).trans X2.out fun b hb hm => ?_).trans hx3 fun b hb e => ?_
        · unfold Mine at hm ⊢; rw [retag_old hb] at hm; exact hm
        · have := GW.out; omega
      have X30 := Lib.hid hx30
      clear h3 ho3 hx3 hx30
      go_wp2_with fail
      obtain ⟨bq, cq, eq, -⟩ := owns_some HH.out.q (by have := HL.out a (by simp); omega)
      obtain ⟨ag, cag, eg⟩ := owns_form HH.out.g
      have EQ := Lib.hid eq
      have EG := Lib.hid eg
      have hsl : (sortN (a :: post)).length = post.length + 1 := by rw [sortN_len]; simp
      have HSL := Lib.hid hsl
      have hmem : ∀ i, i < post.length + 1 → at0 (sortN (a :: post)) i < s.grp.length := fun i hi => by
        refine HL.out _ ((sortN_perm (a :: post)).mem_iff.1 ?_)
        have hi' : i < (sortN (a :: post)).length := by rw [HSL.out]; exact hi
        rw [show at0 (sortN (a :: post)) i = (sortN (a :: post))[i] by simp [at0, List.getD, List.getElem?_eq_getElem hi']]
        exact List.getElem_mem hi'
      have HM := Lib.hid hmem
      have h0 : GLoop B O (retag O w.heap.size 8) p av { L with vo := .slice (some ⟨bo, 0, none⟩) pre.length co } { s with opn := pre } w g cg (post.length + 1) (sortN (a :: post)) 0 W3 := ⟨H3.out, X30.out, HG3.out⟩
      have H0 := Lib.hid h0
      have hbp : post.length ≤ 100000 := by have := HL0.out; simp at this; omega
      have hgb : s.grps.length ≤ 100000 := by have := HS.out.g; omega
      clear h0 hmem hsl eq eg
      generalize hsr : sortN (a :: post) = srt at HG3 HSL HM H0 ⊢
      have HSR := Lib.hid hsr
      clear hsr
      go_loopw [45] (fun v wr => ∃ i : Nat, i ≤ post.length + 1 ∧ v = .int .i64 (i : Int) ∧ GLoop B O (retag O w.heap.size 8) p av { L with vo := .slice (some ⟨bo, 0, none⟩) pre.length co } { s with opn := pre } w g cg (post.length + 1) srt i wr) (fun v _ => post.length + 1 - (intOf v).toNat)
      case atStart => exact ⟨0, Nat.zero_le _, rfl, H0.out⟩
      case round =>
        obtain ⟨i, hi, rfl, hrel⟩ := hrel
        have HR := Lib.hid hrel
        clear hrel
        by_cases hlt : i < post.length + 1
        · have gi := num_cell HR.out.own (show i < srt.length by rw [HSL.out]; exact hlt)
          have hm := HM.out i hlt
          have c7 : wr.cell? ⟨p, 7, none⟩ = some L.vq := HR.out.rep.c7
          have c6 : wr.cell? ⟨p, 6, none⟩ = some L.vg := HR.out.rep.c6
          have oq : wr.ownsRow B 3 1 L.vq (setAll s.grp (srt.take i) (s.grps.length + 1)).length (gv (setAll s.grp (srt.take i) (s.grps.length + 1))) := HR.out.rep.q
          rw [setAll_len, EQ.out] at oq
          rw [EQ.out] at c7
          rw [EG.out] at c6
          have gq := grp_cell oq (show at0 srt i < (setAll s.grp (srt.take i) (s.grps.length + 1)).length by rw [setAll_len]; exact hm)
          have zq := oq.frozenAt (at0 srt i)
          have hmi : (at0 srt i : Int) < (s.grp.length : Int) := by omega
          have hii : (i : Int) < ((post.length + 1 : Nat) : Int) := by omega
          have HN2 := Lib.hid (HR.out.next (by rw [HSL.out]; exact hlt) EQ.out GW.out (retag_agree _ _ _) (retag_new GW.out))
          clear oq
          go_wp2_with fail
          go_region
          go_wp2_with fail
          go_roundw
          case rel => exact ⟨i + 1, by omega, by go_num, HN2.out.drew⟩
          case measure => simp [intOf]; omega
        · have c6 : wr.cell? ⟨p, 6, none⟩ = some L.vg := HR.out.rep.c6
          have z6 := HR.out.rep.frz 6
          have og : wr.ownsRow B 30 1 L.vg s.grps.length L.gs := HR.out.rep.g
          have tg : ∀ b, L.vg.ownBlock = some b → retag O w.heap.size 8 b = 6 := HR.out.rep.tg
          rw [EG.out] at c6 og tg
          have OG := Lib.hid og
          have TG := Lib.hid tg
          have hBr := HR.out.rep.size
          have hie : i = post.length + 1 := by omega
          have HI := Lib.hid hie
          clear og tg hie
          go_wp2_with (at_builtin; refine wp_app info_ints Try.underlying24 rfl (by decide) (by decide) rfl _ _ rfl OG.out hBr hgb [.slice (some ⟨g, 0, none⟩) (post.length + 1) cg] rfl (by simp [Value.oneCell']) rfl rfl ?_; intro v5 W5 o5 x5 a5; obtain ⟨a6, c7, rfl⟩ := owns_form o5; obtain ⟨dc5, dz5, y5⟩ := HR.out.rep.behind TG.out (by decide) x5 c6; clear c6 z6)
          have hgr : g < wr.heap.size := (HR.out.own.lt g rfl).2
          have ho5 : W5.ownsRow B 3 1 (.slice (some ⟨g, 0, none⟩) (post.length + 1) cg) (post.length + 1) (nv srt) := fx_row HR.out.own y5 fun b hb => by
            have e : g = b := by simpa [Value.ownBlock] using hb
            subst e
            rw [retag_new GW.out]
            omega
          have h9 := HR.out.rep.head_g (O' := retag (retag O w.heap.size 8) wr.heap.size 6) (l := srt) (u := .slice (some ⟨g, 0, none⟩) (post.length + 1) cg) y5 (by rw [List.length_append]; exact o5) (by rw [HSL.out]; exact ho5) (fun b hb => by
            have e : g = b := by simpa [Value.ownBlock] using hb
            subst e
            rw [retag_old hgr, retag_new GW.out]) (retag_agree _ _ _) (retag_own TG.out (fun b hb => (OG.out.lt b hb).2) a5) (retag_low HR.out.rep.low hBr) rfl
          have hx := (Mv.retag (O' := retag O w.heap.size 8) HR.out.fx (retag_agree _ _ _)).trans h9.2
          have h10 := h9.1
          rw [HI.out, ← HSL.out, List.take_length] at h10
          rw [HSR.out]
          exact bodyPost_end (v := .tuple #[]) (by simp [results, Try.results41, go_sem]) rfl ⟨rfl, _, _, h10, hx⟩
    · have et : (((at0 s.opn j : Nat) : Int) != (a : Int)) = true := by rw [bne_iff_ne]; omega
      have hne : j ≠ pre.length := fun e2 => e (by rw [HO.out, e2]; exact at_pre)
      have hj3 : pre.length < j := by omega
      clear hne e
      go_wp2_with fail
      go_round
      case rel => exact ⟨j - 1, by omega, by omega, by go_num⟩
      case measure => simp [intOf]; omega
end Go.Proofs.Ytmoebpebahhbeaa
