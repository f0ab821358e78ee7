/-
  Layer 7, the program's side: groups.
-/
import Derived.Test.YtmoebpebahhbeaaGrp1
import Derived.Test.YtmoebpebahhbeaaNew
import Derived.Test.YtmoebpebahhbeaaG4
import Derived.Deep.LoopGhost
namespace Go.Proofs.Ytmoebpebahhbeaa
set_option linter.unusedVariables false
open Go.ChangeShapes Go.WideShapes Go.ChangeAt Go.RowKit

theorem Gd.closed_all {adj : List (List Nat)} {s : St} (h : Gd adj s) (hr : s.road = []) (hm : ∀ x, x < adj.length → at0 s.met x ≠ 0) : ∀ x, x < adj.length → at0 s.grp x ≠ 0 := fun x hx hg => by
  obtain ⟨q, hq, _⟩ := h.j.cover x ((h.j.opn x).2 ⟨hm x hx, hg⟩)
  rw [hr] at hq
  simp at hq
theorem Gd.start (adj : List (List Nat)) : Gd adj (s0 adj.length) := by
  have e : at0 (List.replicate adj.length 0) = fun _ => 0 := by funext i; exact at0_zero _ _
  refine ⟨?_, by simp [s0], by simp [s0], by simp [s0], ⟨[], List.nodup_nil, rfl, fun x h => by simp at h⟩, ⟨[], List.nodup_nil, rfl, fun x h => by simp at h⟩, fun i l h => by simp [s0] at h⟩
  show Jn adj (at0 (List.replicate adj.length 0)) (at0 (List.replicate adj.length 0)) (at0 (List.replicate adj.length 0)) 0 0 [] []
  rw [e]
  exact Jn.none adj
theorem remN_le {us : List (List Nat)} {D : List Nat} {g M : Nat} (h : ∀ t, (ats us t).length ≤ M) : ∀ n, remN us D g n ≤ n * M := by
  intro n
  induction n with
  | zero => simp [remN]
  | succ n ih =>
    unfold remN
    have h1 := h n
    have h2 : (ats us n).count g ≤ (ats us n).length := List.count_le_length
    rw [Nat.add_mul]
    split <;> omega
theorem Gd.groups_pos {adj : List (List Nat)} {s : St} (h : Gd adj s) {x : Nat} (hx : x < s.grps.length) : 0 < adj.length := by
  obtain ⟨_, h2, h3⟩ := h.gmem x _ (List.getElem?_eq_getElem hx)
  obtain ⟨y, hy⟩ := List.exists_mem_of_ne_nil _ h2
  have := at0_lt (l := s.grp) (x := y) (by rw [(h3 y).1 hy]; omega)
  rw [h.lq] at this
  omega
/-- where the first loop stands: so many nodes are met -/
def G1 (B p : Nat) (av : Value) (adj : List (List Nat)) (vs : List Value) (w : World) (k : Nat) (wr : World) : Prop :=
  ∃ O s L, SRep B O p av L s wr ∧ ARep wr B O av adj vs ∧ Gd adj s ∧ s.road = [] ∧ (∀ x, x < k → at0 s.met x ≠ 0) ∧ Below B w wr
/-- what groups leaves -/
def Grouped (B : Nat) (adj : List (List Nat)) (v : Value) (w w' : World) : Prop :=
  ∃ s us D vs, Gd adj s ∧ (∀ x, x < adj.length → at0 s.grp x ≠ 0) ∧ (∀ g t, g ∈ ats us t ↔ ∃ a x, a < adj.length ∧ Ed adj a x ∧ at0 s.grp x - 1 ≠ at0 s.grp a - 1 ∧ t = at0 s.grp x - 1 ∧ g = at0 s.grp a - 1) ∧
    D.Nodup ∧ (∀ g, g ∈ D ↔ g < s.grps.length) ∧ Seqd us s.grps.length (kf s) D ∧
    w'.ownsRow B 30 1 v D.length vs ∧ Rws w' B (fun _ => True) vs (D.map (ats s.grps)) ∧ Below B w w'

set_option maxHeartbeats 4000000 in
set_option maxRecDepth 100000 in
theorem groups_any (B : Nat) (O0 : Nat → Nat) (av : Value) (adj : List (List Nat)) (vs : List Value) (w : World) (hA : ARep w B O0 av adj vs) (hO0 : ∀ b, O0 b = 0 ∨ O0 b = 9) (hB : B ≤ w.heap.size) (hn : adj.length ≤ 1024) (hD : ∀ a, (ats adj a).length ≤ 16384) (ok : Oks adj) :
    Calls Try.prog 20 #[av] w fun e w' => ∃ v, e = .returned v ∧ Grouped B adj v w w' := by
  obtain ⟨aa, ca, rfl⟩ := owns_form hA.out
  have HA := Lib.hid hA
  have HO0 := Lib.hid hO0
  have HB := Lib.hid hB
  have HD := Lib.hid hD
  have OK := Lib.hid ok
  clear hA hO0 hB hD ok
  go_enter Try.func20, Try.ntmps20
  go_wp2_with fail
  refine (new_any B adj.length O0 aa ca w hn HB.out HO0.out).mono ?_
  rintro e w1 ⟨O1, p, L1, rfl, h1, t1, b1⟩
  have h0 : G1 B p (.slice aa adj.length ca) adj vs w 0 w1 := ⟨O1, _, L1, h1, (HA.out.tags (O' := O1) (fun b hb h9 => by rw [t1 b hb]; exact h9)).fx (S := fun _ => False) (Fx.of_below b1) (fun _ _ => id), Gd.start adj, rfl, fun x hx => by omega, b1.mono HB.out⟩
  have H0 := Lib.hid h0
  clear h0 h1 t1 b1
  go_wp2_with fail
  go_loopw [18] (fun v wr => ∃ k : Nat, k ≤ adj.length ∧ v = .int .i64 (k : Int) ∧ G1 B p (.slice aa adj.length ca) adj vs w k wr) (fun v _ => adj.length - (intOf v).toNat)
  case atStart => exact ⟨0, Nat.zero_le _, rfl, H0.out⟩
  case round =>
    obtain ⟨k, hk, rfl, O2, s2, L2, h2, hA2, hg2, hr2, hm2, hb2⟩ := hrel
    have H2 := Lib.hid h2
    have HA2 := Lib.hid hA2
    have HG2 := Lib.hid hg2
    have HR2 := Lib.hid hr2
    have HM2 := Lib.hid hm2
    have HB2 := Lib.hid hb2
    clear h2 hA2 hg2 hr2 hm2 hb2
    by_cases hlt : k < adj.length
    · have hkm : k < s2.met.length := by rw [HG2.out.lm]; exact hlt
      obtain ⟨bm, cm, em, -⟩ := owns_some H2.out.m (by omega)
      have c1 := H2.out.c1
      have om := H2.out.m
      rw [em] at c1 om
      have gm := num_cell om hkm
      have hkI : (k : Int) < (adj.length : Int) := by omega
      have hkmI : (k : Int) < (s2.met.length : Int) := by omega
      clear om em hkm
      by_cases hz : at0 s2.met k = 0
      · have ez : (((at0 s2.met k : Nat) : Int) == 0) = true := by rw [hz]; rfl
        have HZ := Lib.hid hz
        clear hz
        go_wp2_with fail
        refine (walk_any B p k 16384 adj vs O2 _ L2 s2 wr H2.out HA2.out HG2.out OK.out hn HD.out (by omega) HR2.out hlt HZ.out).mono ?_
        rintro e w3 ⟨rfl, s3, O3, L3, h3, hg3, hr3, x3, hm3, ha3⟩
        have hst : G1 B p (.slice aa adj.length ca) adj vs w (k + 1) w3 := ⟨O3, s3, L3, h3, HA2.out.mv x3, hg3, hr3, fun x hx => by
          by_cases e : x = k
          · rw [e]; exact ha3
          · exact hm3 x (HM2.out x (by omega)), HB2.out.trans (x3.fx.below H2.out.size fun b hb hM => by have := H2.out.low b hM.1 hM.2; omega)⟩
        have HST := Lib.hid hst
        clear hst h3 hg3 hr3 x3 hm3 ha3
        go_wp2_with fail
        go_roundw
        case rel => exact ⟨k + 1, by omega, by go_num, HST.out⟩
        case measure => simp [intOf]; omega
      · have ez : (((at0 s2.met k : Nat) : Int) == 0) = false := by rw [beq_eq_false_iff_ne]; omega
        have hst : G1 B p (.slice aa adj.length ca) adj vs w (k + 1) wr := ⟨O2, s2, L2, H2.out, HA2.out, HG2.out, HR2.out, fun x hx => by
          by_cases e : x = k
          · rw [e]; exact hz
          · exact HM2.out x (by omega), HB2.out⟩
        have HST := Lib.hid hst
        clear hst hz
        go_wp2_with fail
        go_roundw
        case rel => exact ⟨k + 1, by omega, by go_num, HST.out⟩
        case measure => simp [intOf]; omega
    · have hke : k = adj.length := by omega
      subst hke
      have hcl := HG2.out.closed_all HR2.out HM2.out
      have HCL := Lib.hid hcl
      have hgl : s2.grps.length ≤ 1024 := (HG2.out.sml hn).g
      clear hcl
      go_wp2_with fail
      refine (between_any B p O2 _ adj vs L2 s2 wr H2.out HA2.out hn HG2.out.lq HD.out OK.out HCL.out HG2.out.j.grb hgl).mono ?_
      rintro e w3 ⟨vw, vu, rfl, O3, us3, hb3, bl3, sm3⟩
      obtain ⟨aw, cw, rfl⟩ := owns_form hb3.wt
      obtain ⟨au, cu, rfl⟩ := owns_form hb3.ut
      have HB3 := Lib.hid hb3
      have BL3 := Lib.hid bl3
      have SM3 := Lib.hid sm3
      have h3 := H2.out.fx (S := fun _ => False) (Fx.of_below bl3) (fun _ _ _ => id)
      have H3 := Lib.hid h3
      obtain ⟨ag, cg, eg⟩ := owns_form H2.out.g
      have c6 := h3.c6
      rw [eg] at c6
      have EG := Lib.hid eg
      clear hb3 bl3 sm3 h3 eg
      obtain ⟨bt, hbt⟩ : ∃ bt, bt = Bt.nodes s2.grp adj (bt0 s2.grps.length) adj.length := ⟨_, rfl⟩
      have HBT := Lib.hid hbt
      have hlen := Bt.nodes_len s2.grp adj (bt0 s2.grps.length) adj.length
      rw [← hbt] at hlen HB3 SM3 ⊢
      have hwl : bt.waits.length = s2.grps.length := by rw [hlen.1]; simp [bt0]
      have hul : bt.users.length = s2.grps.length := by rw [hlen.2]; simp [bt0]
      rw [hwl] at HB3 ⊢
      rw [hul] at HB3 ⊢
      have HWL := Lib.hid hwl
      have HUL := Lib.hid hul
      have hnf := nodes_facts (grp := s2.grp) (adj := adj) (G := s2.grps.length) (fun a ha => by have := HCL.out a ha; have := HG2.out.j.grb a; omega) OK.out (bt0 s2.grps.length) (by simp [bt0]) (by simp [bt0]) (fun g => by
        show at0 (List.replicate s2.grps.length 0) g = remN (List.replicate s2.grps.length []) [] g (List.replicate s2.grps.length []).length
        rw [at0_zero]
        symm
        exact remN_zero.2 fun t _ _ => by rw [ats_none]; simp) adj.length (Nat.le_refl _)
      rw [← hbt] at hnf
      have HNF := Lib.hid hnf
      have hne : ∀ i, i < s2.grps.length → ats s2.grps i ≠ [] := fun i hi => (HG2.out.gmem i _ (by unfold ats; simp [List.getD, List.getElem?_eq_getElem hi])).2.1
      have HNE := Lib.hid hne
      have hcb := combine H2.out HB3.out BL3.out HB2.out
      have HC := Lib.hid hcb
      have qB := fun (o o2 : Obj) => fx_cell (S := fun _ => False) c6 ((Fx.alloc w3 o).trans (Fx.alloc _ o2) fun _ _ h => h) id
      clear hbt hlen hwl hul hnf hne hcb c6
      go_upto_region 10 with fail
      have c6 := qB (.cells #[] 30) (.cells #[.slice (some ⟨w3.heap.size, 0, none⟩) 0 0] 66)
      obtain ⟨h, hh⟩ : ∃ h, h = w3.heap.size + 1 := ⟨_, rfl⟩
      rw [← hh] at HC ⊢
      clear qB hh
      generalize World.alloc (World.alloc w3 _) _ = W4 at HC c6 ⊢
      go_wp2_with fail
      go_loopw [45] (fun v wr => ∃ k : Nat, k ≤ s2.grps.length ∧ v = .int .i64 (k : Int) ∧ K2 B w p h (.slice aa adj.length ca) L2 s2 (.slice aw s2.grps.length cw) (.slice au s2.grps.length cu) us3 bt k wr) (fun v _ => s2.grps.length - (intOf v).toNat)
      case atStart => exact ⟨0, Nat.zero_le _, rfl, HC.out⟩
      case round =>
        obtain ⟨k, hk, rfl, hK2⟩ := hrel
        by_cases hlt : k < s2.grps.length
        · obtain ⟨O5, v5, Z5, hk5, ho5, hnd5, hz5⟩ := hK2
          obtain ⟨bw, cw2, ew, -⟩ := owns_some hk5.rb.wt (by rw [HWL.out]; omega)
          simp only [Value.slice.injEq] at ew
          obtain ⟨rfl, hj1, rfl⟩ := ew
          clear hj1
          have ow := hk5.rb.wt
          rw [HWL.out] at ow
          have gw := num_cell ow (show k < bt.waits.length by rw [HWL.out]; exact hlt)
          have hgv := gvl_row hk5.rs hlt
          obtain ⟨bg, cg2, eg2, -⟩ := owns_some hk5.rs.g (by omega)
          rw [EG.out] at eg2
          simp only [Value.slice.injEq] at eg2
          obtain ⟨rfl, hj2, rfl⟩ := eg2
          clear hj2
          have og := hk5.rs.g
          rw [EG.out] at og
          have gg := val_cell og hgv.2.2
          obtain ⟨av, mv, cv, ev⟩ := gvl_form hk5.rs k
          rw [ev] at gg
          have hkI : (k : Int) < (s2.grps.length : Int) := by omega
          have hzl := nodup_le s2.grps.length Z5 hnd5 fun x hx => by have := ((hz5 x).1 hx).1; omega
          have HK5 := Lib.hid hk5
          have HO5 := Lib.hid ho5
          have HND5 := Lib.hid hnd5
          have HZ5 := Lib.hid hz5
          have EV := Lib.hid ev
          clear hk5 ho5 hnd5 hz5 ow hgv og ev
          by_cases hz : at0 bt.waits k = 0
          · have ez : (((at0 bt.waits k : Nat) : Int) == 0) = true := by rw [hz]; rfl
            have HZ := Lib.hid hz
            clear hz
            go_wp2_with fail
            have hp := hpush_any (i := k) (key := kf s2) (ok := (· < s2.grps.length)) HK5.out.rh HO5.out (keys_of HK5.out.rs HNE.out) (fun x hx => by have := ((HZ5.out x).1 hx).1; omega) hlt (gvl_form HK5.out.rs) (by omega)
            rw [EV.out] at hp
            refine hp.mono ?_
            rintro e w5 ⟨rfl, O6, v6, Z6, hr6, hp6, ho6, hk6, hx6, ht6⟩
            have hst : K2 B w p h (.slice aa adj.length ca) L2 s2 (.slice (some ⟨bw, 0, none⟩) s2.grps.length cw) (.slice au s2.grps.length cu) us3 bt (k + 1) w5 := by
              refine ⟨O6, v6, Z6, HK5.out.heap hr6 hx6 ht6, ho6, hp6.nodup_iff.2 (List.nodup_append.2 ⟨HND5.out, by simp, fun a ha b hb e => ?_⟩), fun g => ?_⟩
              · rw [List.mem_singleton.1 hb] at e
                have := ((HZ5.out a).1 ha).1
                omega
              · rw [hp6.mem_iff, List.mem_append, List.mem_singleton, HZ5.out g]
                constructor
                · rintro (⟨h1, h2⟩ | rfl)
                  · exact ⟨by omega, h2⟩
                  · exact ⟨by omega, HZ.out⟩
                · rintro ⟨h1, h2⟩
                  by_cases e : g = k
                  · exact .inr e
                  · exact .inl ⟨by omega, h2⟩
            have HST := Lib.hid hst
            clear hst hr6 hp6 ho6 hk6 hx6 ht6 hp
            go_wp2_with fail
            go_roundw
            case rel => exact ⟨k + 1, by omega, by go_num, HST.out⟩
            case measure => simp [intOf]; omega
          · have ez : (((at0 bt.waits k : Nat) : Int) == 0) = false := by rw [beq_eq_false_iff_ne]; omega
            have hst : K2 B w p h (.slice aa adj.length ca) L2 s2 (.slice (some ⟨bw, 0, none⟩) s2.grps.length cw) (.slice au s2.grps.length cu) us3 bt (k + 1) wr := by
              refine ⟨_, _, _, HK5.out, HO5.out, HND5.out, fun g => ?_⟩
              rw [HZ5.out g]
              constructor
              · rintro ⟨h1, h2⟩; exact ⟨by omega, h2⟩
              · rintro ⟨h1, h2⟩
                by_cases e : g = k
                · rw [e] at h2; exact absurd h2 hz
                · exact ⟨by omega, h2⟩
            have HST := Lib.hid hst
            clear hst hz
            go_wp2_with fail
            go_roundw
            case rel => exact ⟨k + 1, by omega, by go_num, HST.out⟩
            case measure => simp [intOf]; omega
        · have hke : k = s2.grps.length := by omega
          subst hke
          obtain ⟨O5, v5, Z5, hk5, ho5, hn5⟩ := hK2.kn HNF.out.1 HUL.out
          have c6' : wr.cell? ⟨p, 6, none⟩ = some (.slice ag s2.grps.length cg) := by have := hk5.rs.c6; rw [EG.out] at this; exact this
          have HK5 := Lib.hid hk5
          have HO5 := Lib.hid ho5
          have HN5 := Lib.hid hn5
          obtain ⟨i0, hi, hz0, hz1, hz2⟩ := info_parts info_ints
          have HI := Lib.hid hi
          have HZ0 := Lib.hid hz0
          have HZ1 := Lib.hid hz1
          have HZ2 := Lib.hid hz2
          clear hK2 hk5 ho5 hn5 hi hz0 hz1 hz2 c6
          have hcy := HUL.out
          have hG := hgl
          go_wp2_with (refine wpList_make_own _ rfl _ _ 24 rfl wr.heap.size 30 i0 (.slice none 0 0) 1 Try.underlying24 HI.out HZ0.out HZ1.out .i64 .i64 _ s2.grps.length rfl rfl rfl (by rw [HZ2.out]; omega) (by unfold maxLen; omega) (Nat.le_refl _) ?_; intro w5 hown5 hg5; obtain ⟨O6, hk6⟩ := HK5.out.newl hown5 hg5)
          have hk4 : K4 B w p h (.slice aa adj.length ca) L2 s2 (.slice aw s2.grps.length cw) (.slice au s2.grps.length cu) us3 bt.users (.slice (some ⟨wr.heap.size, 0, none⟩) 0 s2.grps.length) [] [] w5 := ⟨O6, bt.waits, v5, Z5, hk6, HO5.out, HN5.out, HWL.out⟩
          have HK4 := Lib.hid hk4
          clear hk4 hk6 hown5 hg5 c6'
          go_loopg [10] s2.grps.length (fun q lv wr => ∃ (D : List Nat) (al : Option Addr) (cl : Nat), lv = .slice al D.length cl ∧ q = s2.grps.length - D.length ∧ Seqd bt.users s2.grps.length (kf s2) D ∧ K4 B w p h (.slice aa adj.length ca) L2 s2 (.slice aw s2.grps.length cw) (.slice au s2.grps.length cu) us3 bt.users lv D [] wr)
          case atStart => exact ⟨[], _, _, rfl, by simp, Seqd.nil, HK4.out⟩
          case round =>
            obtain ⟨D, al, cl, rfl, hq, hseq, O7, W7, v7, Z7, hk7, ho7, hn7, hw7⟩ := hrel
            obtain ⟨av7, cv7, ev7⟩ := owns_form hk7.rh.row
            have ch := hk7.rh.c0
            rw [ev7] at ch
            have HK7 := Lib.hid hk7
            have HO7 := Lib.hid ho7
            have HN7 := Lib.hid hn7
            have HW7 := Lib.hid hw7
            have HSQ := Lib.hid hseq
            have HQ := Lib.hid hq
            have hzl := hn7.zlen
            have hdl := hn7.len
            clear hk7 ho7 hn7 hw7 hseq hq ev7
            cases Z7 with
            | nil =>
              go_wp2_with fail
              refine (len_any _ _ _ _ (by omega)).mono ?_
              rintro e w8 ⟨rfl, rfl⟩
              go_wp2_with fail
              go_ret
              have hlt : ∀ g u, g ∈ ats bt.users u → u < g := fun g u hm => by
                rcases (HNF.out.2 g u).1 hm with hm | ⟨a, x, ha, hE, h1, h2, h3⟩
                · rw [show (bt0 s2.grps.length).users = List.replicate s2.grps.length [] from rfl, ats_none] at hm; simp at hm
                · have h4 := HG2.out.j.og a x (HCL.out a ha) hE
                  have h5 := HCL.out x (OK.out a x hE)
                  omega
              have hall : ∀ g, g ∈ D ↔ g < s2.grps.length := fun g => by
                have h1 := HN7.out
                exact ⟨fun hd => (h1.din g hd).1, fun hd => h1.all hlt (g + 1) g (by omega) hd⟩
              refine ⟨_, rfl, s2, bt.users, D, D.map (gvl L2), HG2.out, HCL.out, fun g t => ?_, HN7.out.dnd, hall, HSQ.out, HK7.out.rl, ⟨by simp, fun j v l h1 h2 => ?_, fun _ _ _ _ _ => trivial⟩, HK7.out.bl⟩
              · have hm := HNF.out.2 g t
                rw [show (bt0 s2.grps.length).users = List.replicate s2.grps.length [] from rfl, ats_none] at hm
                simpa using hm
              · rw [List.getElem?_map] at h1 h2
                obtain ⟨x, hx, rfl⟩ := Option.map_eq_some_iff.1 h1
                rw [hx] at h2
                obtain rfl := Option.some.inj h2
                exact (gvl_row HK7.out.rs ((hall x).1 (List.mem_of_getElem? hx))).1
            | cons z7 zs7 =>
              have HNN := Lib.hid (show (z7 :: zs7).length = zs7.length + 1 from rfl)
              have ta := fun (v : Value) (w : World) => assert_ints v w
              have hzl2 : zs7.length + 1 ≤ s2.grps.length := hzl
              go_wp2_with fail
              refine (len_any _ _ _ _ (by omega)).mono ?_
              rintro e w8 ⟨rfl, rfl⟩
              go_wp2_with fail
              refine (hpop_any (key := kf s2) (ok := (· < s2.grps.length)) HK7.out.rh HO7.out (keys_of HK7.out.rs HNE.out) (fun x hx => ((HN7.out.zin x).1 hx).1) (gvl_form HK7.out.rs) (by omega) HNN.out).mono ?_
              rintro e w8 ⟨x, v8, Z8, rfl, hr8, hp8, ho8, hmin8, hky8, hx8⟩
              have hxz : x ∈ z7 :: zs7 := hp8.mem_iff.2 (by simp)
              have hxG : x < s2.grps.length := ((HN7.out.zin x).1 hxz).1
              have hk8 := HK7.out.heap hr8 hx8 (fun _ _ => rfl)
              have hn8 := HN7.out.pop hp8
              have hs8 := HSQ.out.snoc HN7.out hxz hmin8
              have hdl8 := hn8.len
              rw [List.length_append, List.length_singleton] at hdl8
              have hgx := gvl_row hk8.rs hxG
              have hlx : 0 < (ats s2.grps x).length := List.length_pos_iff.2 (HNE.out x hxG)
              obtain ⟨bx, cx, ex, -⟩ := owns_some hgx.1 hlx
              have gx0 := hgx.1
              rw [ex] at gx0 ⊢
              have gx := num_cell gx0 hlx
              have hol := hk8.rl
              have HOL := Lib.hid hol
              have hB8 := hk8.size
              have HK8 := Lib.hid hk8
              have HN8 := Lib.hid hn8
              have HS8 := Lib.hid hs8
              have HO8 := Lib.hid ho8
              have EX := Lib.hid ex
              have hdl9 : D.length ≤ 100000000 := by omega
              have TL8 := Lib.hid hk8.tl
              have HGX := Lib.hid hgx
              clear hr8 hp8 ho8 hmin8 hky8 hx8 hxz hk8 hn8 hs8 hgx gx0 hol ex
              go_wp2_with (at_builtin; refine wp_appL info_ints Try.underlying24 rfl (by decide) (by decide) rfl _ _ rfl HOL.out hB8 hdl9 [.slice (some ⟨bx, 0, none⟩) (ats s2.grps x).length cx] rfl (by simp [Value.oneCell']) rfl rfl ?_; intro v9 W9 o9 x9 a9; obtain ⟨a10, c10, rfl⟩ := owns_form o9)
              rw [← EX.out] at o9
              have hk9 := HK8.out.out (i := x) o9 x9 a9
              have HK9 := Lib.hid hk9
              have c7 := hk9.rs.c7
              obtain ⟨bq, cq, eq, -⟩ := owns_some hk9.rs.q (by rw [HG2.out.lq]; have := HG2.out.groups_pos hxG; omega)
              have oq := hk9.rs.q
              rw [eq] at c7 oq
              have hgm := HG2.out.gmem x _ (by unfold ats; simp [List.getD, List.getElem?_eq_getElem hxG] : s2.grps[x]? = some (ats s2.grps x))
              have hhd : at0 (ats s2.grps x) 0 ∈ ats s2.grps x := by
                rw [show at0 (ats s2.grps x) 0 = (ats s2.grps x)[0] by simp [at0, List.getD, List.getElem?_eq_getElem hlx]]
                exact List.getElem_mem hlx
              have hgr : at0 s2.grp (at0 (ats s2.grps x) 0) = x + 1 := (hgm.2.2 _).1 hhd
              have hnq : at0 (ats s2.grps x) 0 < s2.grp.length := at0_lt (by rw [hgr]; omega)
              have gq := grp_cell oq hnq
              rw [hgr] at gq
              have eqx : ((x + 1 : Nat) : Int) - 1 = (x : Int) := by omega
              rw [eqx] at gq
              have gx9 := num_cell (by have := (gvl_row hk9.rs hxG).1; rw [EX.out] at this; exact this) hlx
              have ou := hk9.rb.ut
              have ou2 : W9.ownsRow B 30 1 (.slice au s2.grps.length cu) s2.grps.length us3 := by have := ou; rw [show (⟨W7, bt.users⟩ : Bt).users.length = s2.grps.length from HUL.out] at this; exact this
              obtain ⟨bu, cu2, eu, -⟩ := owns_some ou2 (by omega)
              simp only [Value.slice.injEq] at eu
              obtain ⟨rfl, hj3, rfl⟩ := eu
              clear hj3
              have hxu : x < us3.length := by rw [hk9.rb.ulen]; show x < bt.users.length; rw [HUL.out]; exact hxG
              obtain ⟨ux, hux⟩ : ∃ ux, us3[x]? = some ux := ⟨_, List.getElem?_eq_getElem hxu⟩
              have gu := val_cell ou2 hux
              have hrow := hk9.rb.row x ux (ats bt.users x) hux (by unfold ats; show bt.users[x]? = _; simp [List.getD, List.getElem?_eq_getElem (show x < bt.users.length by rw [HUL.out]; exact hxG)])
              obtain ⟨ax, cux, eux⟩ := owns_form hrow
              rw [eux] at gu
              have EUX := Lib.hid eux
              have HUX := Lib.hid hux
              have hlxI : (0 : Int) < ((ats s2.grps x).length : Int) := by omega
              have hnqI : ((at0 (ats s2.grps x) 0 : Nat) : Int) < (s2.grp.length : Int) := by omega
              have hxGI : (x : Int) < (s2.grps.length : Int) := by omega
              have hk40 : K4 B w p h (.slice aa adj.length ca) L2 s2 (.slice aw s2.grps.length cw) (.slice (some ⟨bu, 0, none⟩) s2.grps.length cu) us3 bt.users (.slice a10 (D.length + 1) c10) (D ++ [x]) ((ats bt.users x).drop 0) W9 := ⟨_, W7, v8, Z8, hk9, HO8.out, HN8.out, HW7.out⟩
              have HK40 := Lib.hid hk40
              have hul9 : (ats bt.users x).length ≤ 20000000 := by have := SM3.out.2 x; omega
              clear hk9 o9 x9 a9 eq oq hgm hhd hgr hnq ou ou2 hux hrow eux hk40 eqx gx hxu ch
              go_wp2_with fail
              go_quiet (fail)
              have HK4q : Hid (K4 B w p h (.slice aa adj.length ca) L2 s2 (.slice aw s2.grps.length cw) (.slice (some ⟨bu, 0, none⟩) s2.grps.length cu) us3 bt.users (.slice a10 (D.length + 1) c10) (D ++ [x]) ((ats bt.users x).drop 0) (W9.drewN nq)) := by
                obtain ⟨O, W, v, Z, h1, h2, h3, h4⟩ := HK40.out
                exact Lib.hid ⟨O, W, v, Z, h1.drewN nq, h2, h3, h4⟩
              clear HK40 gq gx9 gu c7
              generalize W9.drewN nq = W10 at HK4q ⊢
              go_wp2_with fail
              go_loopw [93] (fun v wr => ∃ j : Nat, j ≤ (ats bt.users x).length ∧ v = .int .i64 (j : Int) ∧ K4 B w p h (.slice aa adj.length ca) L2 s2 (.slice aw s2.grps.length cw) (.slice (some ⟨bu, 0, none⟩) s2.grps.length cu) us3 bt.users (.slice a10 (D.length + 1) c10) (D ++ [x]) ((ats bt.users x).drop j) wr) (fun v _ => (ats bt.users x).length - (intOf v).toNat)
              case atStart => exact ⟨0, Nat.zero_le _, rfl, HK4q.out⟩
              case round =>
                obtain ⟨j, hj, rfl, O11, W11, v11, Z11, hk11, ho11, hn11, hw11⟩ := hrel
                by_cases hjl : j < (ats bt.users x).length
                · obtain ⟨y, hy⟩ : ∃ y, y = at0 (ats bt.users x) j := ⟨_, rfl⟩
                  have hdrop : (ats bt.users x).drop j = y :: (ats bt.users x).drop (j + 1) := by
                    rw [List.drop_eq_getElem_cons hjl, hy]; simp [at0, List.getD, List.getElem?_eq_getElem hjl]
                  rw [hdrop] at hn11
                  have hym : y ∈ ats bt.users x := by
                    rw [hy, show at0 (ats bt.users x) j = (ats bt.users x)[j] by simp [at0, List.getD, List.getElem?_eq_getElem hjl]]; exact List.getElem_mem hjl
                  have hyG : y < s2.grps.length := by
                    rcases (HNF.out.2 y x).1 hym with hm | ⟨a, b, ha, hE, h1, h2, h3⟩
                    · rw [show (bt0 s2.grps.length).users = List.replicate s2.grps.length [] from rfl, ats_none] at hm; simp at hm
                    · have h4 := HCL.out a ha
                      have h5 := HG2.out.j.grb a
                      omega
                  have hpos := hn11.pos
                  have hrow := hk11.rb.row x ux (ats bt.users x) HUX.out (by unfold ats; show bt.users[x]? = _; simp [List.getD, List.getElem?_eq_getElem (show x < bt.users.length by rw [HUL.out]; exact hxG)])
                  obtain ⟨bux, cux2, eux2, -⟩ := owns_some hrow (by omega)
                  rw [EUX.out] at eux2
                  simp only [Value.slice.injEq] at eux2
                  obtain ⟨rfl, hj4, rfl⟩ := eux2
                  clear hj4
                  rw [EUX.out] at hrow
                  have gj := num_cell hrow hjl
                  rw [← hy] at gj
                  have ow : wr.ownsRow B 3 1 (.slice aw s2.grps.length cw) s2.grps.length (nv W11) := by have := hk11.rb.wt; rw [show (⟨W11, bt.users⟩ : Bt).waits.length = s2.grps.length from hw11] at this; exact this
                  obtain ⟨bw, cw2, ew, -⟩ := owns_some ow (by omega)
                  simp only [Value.slice.injEq] at ew
                  obtain ⟨rfl, hj5, rfl⟩ := ew
                  clear hj5
                  have gw := num_cell ow (show y < W11.length by omega)
                  have zw := ow.frozenAt y
                  have hyI : (y : Int) < (s2.grps.length : Int) := by omega
                  have hjI : (j : Int) < ((ats bt.users x).length : Int) := by omega
                  have HY := Lib.hid hy
                  have HDR := Lib.hid hdrop
                  have HK11 := Lib.hid hk11
                  have HO11 := Lib.hid ho11
                  have HN11 := Lib.hid hn11
                  have HW11 := Lib.hid hw11
                  have hwB : at0 W11 y ≤ 20000000000 := by
                    have h1 := hn11.wt y
                    have h2 := remN_le (us := bt.users) (D := D ++ [x]) (g := y) (M := 16384 * adj.length) (fun t => SM3.out.2 t) s2.grps.length
                    have h3 : (y :: (ats bt.users x).drop (j + 1)).count y ≤ (y :: (ats bt.users x).drop (j + 1)).length := List.count_le_length
                    rw [← hdrop, List.length_drop] at h3
                    rw [← hdrop] at h1
                    have h4 : s2.grps.length * (16384 * adj.length) ≤ 1024 * (16384 * 1024) := Nat.mul_le_mul hgl (Nat.mul_le_mul (Nat.le_refl _) hn)
                    omega
                  clear hy hdrop hym hrow ow hk11 ho11 hn11 hw11
                  go_upto_region 24 with fail
                  have hk12 := HK11.out.wait (gw := bw) (cap := cw) (g := y) (by show _ = Value.slice _ W11.length _; rw [HW11.out]) (at0 W11 y - 1)
                  rw [show ((at0 W11 y - 1 : Nat) : Int) = ((at0 W11 y : Nat) : Int) - 1 by omega] at hk12
                  have HK12 := Lib.hid hk12
                  clear hk12 gw zw gj
                  generalize wr.setCell _ _ = W12 at HK12 ⊢
                  have ow2 : W12.ownsRow B 3 1 (.slice (some ⟨bw, 0, none⟩) s2.grps.length cw) s2.grps.length (nv (W11.set y (at0 W11 y - 1))) := by have := HK12.out.rb.wt; rw [show (⟨W11.set y (at0 W11 y - 1), bt.users⟩ : Bt).waits.length = s2.grps.length by show (W11.set y _).length = _; rw [List.length_set]; exact HW11.out] at this; exact this
                  have gw2 := num_cell ow2 (show y < (W11.set y (at0 W11 y - 1)).length by rw [List.length_set]; have := HW11.out; omega)
                  rw [at0_set (by have := HW11.out; omega), upd_eq] at gw2
                  clear ow2
                  by_cases h1 : at0 W11 y = 1
                  · have ez : (((at0 W11 y - 1 : Nat) : Int) == 0) = true := by rw [h1]; rfl
                    have H1 := Lib.hid h1
                    obtain ⟨bg, cg2, eg2, -⟩ := owns_some HK12.out.rs.g (by omega)
                    rw [EG.out] at eg2
                    simp only [Value.slice.injEq] at eg2
                    obtain ⟨rfl, hj6, rfl⟩ := eg2
                    clear hj6
                    have c6 := HK12.out.rs.c6
                    rw [EG.out] at c6
                    have og := HK12.out.rs.g
                    rw [EG.out] at og
                    have gg := val_cell og (gvl_row HK12.out.rs hyG).2.2
                    obtain ⟨avy, mvy, cvy, evy⟩ := gvl_form HK12.out.rs y
                    rw [evy] at gg
                    have EVY := Lib.hid evy
                    clear h1 og evy
                    go_wp2_with fail
                    have hp := hpush_any (i := y) (key := kf s2) (ok := (· < s2.grps.length)) HK12.out.rh HO11.out (keys_of HK12.out.rs HNE.out) (fun q hq => ((HN11.out.zin q).1 hq).1) hyG (gvl_form HK12.out.rs) (by have := HN11.out.zlen; omega)
                    rw [EVY.out] at hp
                    refine hp.mono ?_
                    rintro e w13 ⟨rfl, O13, v13, Z13, hr13, hp13, ho13, hky13, hx13, ht13⟩
                    have hst : K4 B w p h (.slice aa adj.length ca) L2 s2 (.slice (some ⟨bw, 0, none⟩) s2.grps.length cw) (.slice (some ⟨bu, 0, none⟩) s2.grps.length cu) us3 bt.users (.slice a10 (D.length + 1) c10) (D ++ [x]) ((ats bt.users x).drop (j + 1)) w13 :=
                      ⟨O13, W11.set y (at0 W11 y - 1), v13, Z13, HK12.out.heap hr13 hx13 ht13, ho13, HN11.out.push hyG (by have := HW11.out; omega) H1.out hp13, by rw [List.length_set]; exact HW11.out⟩
                    have HST := Lib.hid hst
                    clear hst hp hr13 hp13 ho13 hky13 hx13 ht13
                    go_wp2_with fail
                    go_roundw
                    case rel => exact ⟨j + 1, by omega, by go_num, HST.out⟩
                    case measure => simp [intOf]; omega
                  · have ez : (((at0 W11 y - 1 : Nat) : Int) == 0) = false := by rw [beq_eq_false_iff_ne]; omega
                    have hst : K4 B w p h (.slice aa adj.length ca) L2 s2 (.slice (some ⟨bw, 0, none⟩) s2.grps.length cw) (.slice (some ⟨bu, 0, none⟩) s2.grps.length cu) us3 bt.users (.slice a10 (D.length + 1) c10) (D ++ [x]) ((ats bt.users x).drop (j + 1)) W12 :=
                      ⟨_, W11.set y (at0 W11 y - 1), _, _, HK12.out, HO11.out, HN11.out.less (by have := HW11.out; omega) h1, by rw [List.length_set]; exact HW11.out⟩
                    have HST := Lib.hid hst
                    clear hst h1
                    go_wp2_with fail
                    go_roundw
                    case rel => exact ⟨j + 1, by omega, by go_num, HST.out⟩
                    case measure => simp [intOf]; omega
                · have hje : j = (ats bt.users x).length := by omega
                  rw [hje, List.drop_length] at hn11
                  have HST : Hid (K4 B w p h (.slice aa adj.length ca) L2 s2 (.slice aw s2.grps.length cw) (.slice (some ⟨bu, 0, none⟩) s2.grps.length cu) us3 bt.users (.slice a10 (D.length + 1) c10) (D ++ [x]) [] wr) := Lib.hid ⟨O11, W11, v11, Z11, hk11, ho11, hn11, hw11⟩
                  clear hk11 ho11 hn11 hw11 hje
                  go_wp2_with fail
                  go_roundg (s2.grps.length - (D.length + 1))
                  case measure => rw [HQ.out]; omega
                  case rel => exact ⟨D ++ [x], a10, c10, by simp, by simp, HS8.out, HST.out⟩
end Go.Proofs.Ytmoebpebahhbeaa
