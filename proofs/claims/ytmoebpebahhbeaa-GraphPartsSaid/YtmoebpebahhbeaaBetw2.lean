/-
  Layer 7, the program's side: between, walked.
-/
import Derived.Test.YtmoebpebahhbeaaBetw
import Derived.Test.YtmoebpebahhbeaaG4
import Derived.BigRegion
namespace Go.Proofs.Ytmoebpebahhbeaa
set_option linter.unusedVariables false
open Go.ChangeShapes Go.WideShapes Go.ChangeAt Go.RowKit

theorem make_ints2 (n : Nat) (hn : n ≤ 100000) (w : World) : (Instr.makeSlice 30 (.int .i64 (n : Int)) (.int .i64 (n : Int))).run Try.prog w = .ok (.slice (some ⟨w.heap.size, 0, none⟩) n n) (w.alloc (.cells (madeCells #[.int .i64 0] n) 3)) := by
  obtain ⟨i0, hi, hz0, hz1, hz2⟩ := info_parts info_int
  have hr := run_make (P := Try.prog) w 30 3 i0 (.int .i64 0) Try.underlying30 hi hz0 .i64 .i64 n n (by omega) (by omega) (by rw [hz2]; omega) (by omega)
  rw [hz1] at hr
  simpa [Value.cells] using hr
theorem make_rows (n : Nat) (hn : n ≤ 100000) (w : World) : (Instr.makeSlice 24 (.int .i64 (n : Int)) (.int .i64 (n : Int))).run Try.prog w = .ok (.slice (some ⟨w.heap.size, 0, none⟩) n n) (w.alloc (.cells (madeCells #[.slice none 0 0] n) 30)) := by
  obtain ⟨i0, hi, hz0, hz1, hz2⟩ := info_parts info_ints
  have hr := run_make (P := Try.prog) w 24 30 i0 (.slice none 0 0) Try.underlying24 hi hz0 .i64 .i64 n n (by omega) (by omega) (by rw [hz2]; omega) (by omega)
  rw [hz1] at hr
  simpa [Value.cells] using hr
def bt0 (G : Nat) : Bt := ⟨List.replicate G 0, List.replicate G []⟩
/-- both were made, in whatever order -/
theorem brep0 {G m u : Nat} {w w1 : World} (hG : G ≤ 100000) (hb : Fx (fun _ => False) w w1) (hm : w1.heap[m]? = some (.cells (madeCells #[.int .i64 0] G) 3 (0, 0))) (hu : w1.heap[u]? = some (.cells (madeCells #[.slice none 0 0] G) 30 (0, 0))) (hmw : w.heap.size ≤ m) (huw : w.heap.size ≤ u) (hmu : m ≠ u) :
    ∃ O us, BRep w.heap.size O (.slice (some ⟨m, 0, none⟩) G G) (.slice (some ⟨u, 0, none⟩) G G) us (bt0 G) w1 := by
  refine ⟨fun b => if b = m then 12 else if b = u then 13 else 0, List.replicate G (.slice none 0 0), ⟨?_, ?_, fun i v l h1 h2 => ?_, fun k hk => ?_, fun k hk => ?_, fun i v h1 k hk => ?_, fun k hk => ?_⟩⟩
  · show w1.ownsRow _ _ 1 _ (List.replicate G 0).length (nv (List.replicate G 0))
    rw [List.length_replicate, show nv (List.replicate G 0) = List.replicate G (.int .i64 0) by simp [nv]]
    exact ⟨by simp, .inr ⟨m, G, _, rfl, hmw, hm, Nat.le_refl _, by unfold maxLen; omega, by simp [madeCells], by rw [Nat.mul_one, toList_madeCells_one]; exact List.take_of_length_le (by simp)⟩⟩
  · show w1.ownsRow _ _ 1 _ (List.replicate G []).length _
    rw [List.length_replicate]
    exact ⟨by simp, .inr ⟨u, G, _, rfl, huw, hu, Nat.le_refl _, by unfold maxLen; omega, by simp [madeCells], by rw [Nat.mul_one, toList_madeCells_one]; exact List.take_of_length_le (by simp)⟩⟩
  · have e1 := List.eq_of_mem_replicate (List.mem_of_getElem? h1)
    have e2 := List.eq_of_mem_replicate (List.mem_of_getElem? h2)
    subst e1 e2
    exact World.ownsRow_nil _ _ _ _
  · have e : m = k := by simpa [Value.ownBlock] using hk
    rw [if_pos e.symm]
  · have e : u = k := by simpa [Value.ownBlock] using hk
    subst e
    rw [if_neg (Ne.symm hmu), if_pos rfl]
  · have e1 := List.eq_of_mem_replicate (List.mem_of_getElem? h1)
    subst e1
    simp [Value.ownBlock] at hk
  · by_cases e1 : k = m
    · omega
    · by_cases e2 : k = u
      · omega
      · rw [if_neg e1, if_neg e2] at hk
        omega
theorem ARep.tags {w : World} {B : Nat} {O O' : Nat → Nat} {av : Value} {adj : List (List Nat)} {vs : List Value} (h : ARep w B O av adj vs) (hO : ∀ b, b < w.heap.size → O b = 9 → O' b = 9) : ARep w B O' av adj vs := by
  have h2 := h.rows.mono (P' := fun b => O' b = 9) fun b hb h9 => hO b hb h9
  exact ⟨h.out, ⟨h.rows.len, h.rows.row, h2.tag⟩, fun b hb => hO b (h.out.lt b hb).2 (h.tag b hb)⟩
/-- where between's loops stand -/
def BLoop (w : World) (vw vu : Value) (b : Bt) (k : Nat) (wr : World) : Prop := ∃ O us, BRep w.heap.size O vw vu us b wr ∧ Below w.heap.size w wr ∧ b.Sm k

/-- where between begins: both were made, in the one order or the other -/
theorem at0_zero (G i : Nat) : at0 (List.replicate G 0) i = 0 := by
  unfold at0
  rw [List.getD_eq_getElem?_getD, List.getElem?_replicate]
  split <;> rfl
theorem ats_none (G i : Nat) : ats (List.replicate G []) i = [] := by
  unfold ats
  rw [List.getD_eq_getElem?_getD, List.getElem?_replicate]
  split <;> rfl
theorem bt0_sm (G : Nat) : (bt0 G).Sm 0 := ⟨fun i => by show at0 (List.replicate G 0) i ≤ 0; rw [at0_zero]; exact Nat.le_refl _, fun i => by show (ats (List.replicate G []) i).length ≤ 0; rw [ats_none]; exact Nat.le_refl _⟩
theorem bl0a (G : Nat) (w : World) (hG : G ≤ 100000) : ∃ m u, m = w.heap.size ∧ u = w.heap.size + 1 ∧ BLoop w (.slice (some ⟨m, 0, none⟩) G G) (.slice (some ⟨u, 0, none⟩) G G) (bt0 G) 0 ((w.alloc (.cells (madeCells #[.int .i64 0] G) 3)).alloc (.cells (madeCells #[.slice none 0 0] G) 30)).drew := by
  have hx : Fx (fun _ => False) w ((w.alloc (.cells (madeCells #[.int .i64 0] G) 3)).alloc (.cells (madeCells #[.slice none 0 0] G) 30)).drew := ((Fx.alloc w _).trans (Fx.alloc _ _) fun _ _ h => h).drew
  obtain ⟨O1, us1, h1⟩ := brep0 (G := G) (m := w.heap.size) (u := w.heap.size + 1) hG hx ((Below.heap_alloc _ _ _ (by simp)).trans (heap_alloc_new w _)) (by
    have := heap_alloc_new (w.alloc (.cells (madeCells #[.int .i64 0] G) 3)) (.cells (madeCells #[.slice none 0 0] G) 30)
    rwa [show (w.alloc (.cells (madeCells #[.int .i64 0] G) 3)).heap.size = w.heap.size + 1 by simp] at this) (Nat.le_refl _) (by omega) (by omega)
  exact ⟨_, _, rfl, rfl, O1, us1, h1, hx.none fun _ _ => id, bt0_sm G⟩
theorem bl0b (G : Nat) (w : World) (hG : G ≤ 100000) : ∃ m u, m = w.heap.size + 1 ∧ u = w.heap.size ∧ BLoop w (.slice (some ⟨m, 0, none⟩) G G) (.slice (some ⟨u, 0, none⟩) G G) (bt0 G) 0 ((w.alloc (.cells (madeCells #[.slice none 0 0] G) 30)).alloc (.cells (madeCells #[.int .i64 0] G) 3)).drew := by
  have hx : Fx (fun _ => False) w ((w.alloc (.cells (madeCells #[.slice none 0 0] G) 30)).alloc (.cells (madeCells #[.int .i64 0] G) 3)).drew := ((Fx.alloc w _).trans (Fx.alloc _ _) fun _ _ h => h).drew
  obtain ⟨O1, us1, h1⟩ := brep0 (G := G) (m := w.heap.size + 1) (u := w.heap.size) hG hx (by
    have := heap_alloc_new (w.alloc (.cells (madeCells #[.slice none 0 0] G) 30)) (.cells (madeCells #[.int .i64 0] G) 3)
    rwa [show (w.alloc (.cells (madeCells #[.slice none 0 0] G) 30)).heap.size = w.heap.size + 1 by simp] at this) ((Below.heap_alloc _ _ _ (by simp)).trans (heap_alloc_new w _)) (by omega) (Nat.le_refl _) (by omega)
  exact ⟨_, _, rfl, rfl, O1, us1, h1, hx.none fun _ _ => id, bt0_sm G⟩
set_option maxHeartbeats 4000000 in
set_option maxRecDepth 100000 in
theorem between_any (B p : Nat) (O : Nat → Nat) (av : Value) (adj : List (List Nat)) (vs : List Value) (L : Loc) (s : St) (w : World) (h : SRep B O p av L s w) (hA : ARep w B O av adj vs) (hn : adj.length ≤ 1024) (hlq : s.grp.length = adj.length) (hD : ∀ a, (ats adj a).length ≤ 16384) (ok : Oks adj)
    (hg1 : ∀ a, a < adj.length → at0 s.grp a ≠ 0) (hg2 : ∀ a, at0 s.grp a ≤ s.grps.length) (hG : s.grps.length ≤ 1024) :
    Calls Try.prog 30 #[.pointer (some ⟨p, 0, none⟩)] w fun e w' => ∃ vw vu, e = .returned (.tuple #[vw, vu]) ∧ BLoop w vw vu (Bt.nodes s.grp adj (bt0 s.grps.length) adj.length) (16384 * adj.length) w' := by
  have HH := Lib.hid h
  have HA := Lib.hid hA
  have HD := Lib.hid hD
  have OK := Lib.hid ok
  have HG1 := Lib.hid hg1
  have HG2 := Lib.hid hg2
  have HLQ := Lib.hid hlq
  obtain ⟨ag, cg, eg⟩ := owns_form h.g
  have c6 := h.c6
  have c0 := h.c0
  obtain ⟨aa, ca, ea⟩ := owns_form hA.out
  rw [eg] at c6
  rw [ea] at c0
  have EA := Lib.hid ea
  have hmk1 := make_ints2 s.grps.length (by omega)
  have hmk2 := make_rows s.grps.length (by omega)
  have qa := fun (o : Obj) => fx_cell (S := fun _ => False) c6 (Fx.alloc w o) id
  clear h hA hD ok hg1 hg2 eg ea hlq
  go_enter Try.func30, Try.ntmps30
  go_wp2_with fail
  go_region
  all_goals
    rename_i K hK
    refine hK _ _ ?_
    clear hK K qa hmk1 hmk2
  · obtain ⟨m, u, hm, hu, hbl⟩ := bl0a s.grps.length w (by omega)
    rw [← hu, ← hm]
    have HBL := Lib.hid hbl
    clear hbl hm hu
    generalize World.drew _ = W at HBL ⊢
    have HS := Lib.hid (fun (W : World) (hb : Below w.heap.size w W) => HH.out.fx (S := fun _ => False) (Fx.of_below hb) (fun _ _ _ => id))
    have HAA := Lib.hid (fun (W : World) (hb : Below w.heap.size w W) => HA.out.fx (S := fun _ => False) (Fx.of_below hb) (fun _ _ => id))
    obtain ⟨O1, us1, h1, hbel, _⟩ := id HBL.out
    have c0 := (HS.out _ hbel).c0
    rw [EA.out] at c0
    clear h1 hbel c6
    go_wp2_with fail
    go_loopw [27] (fun v wr => ∃ k : Nat, k ≤ adj.length ∧ v = .int .i64 (k : Int) ∧ BLoop w (.slice (some ⟨m, 0, none⟩) s.grps.length s.grps.length) (.slice (some ⟨u, 0, none⟩) s.grps.length s.grps.length) (Bt.nodes s.grp adj (bt0 s.grps.length) k) (16384 * k) wr) (fun v _ => adj.length - (intOf v).toNat)
    case atStart => exact ⟨0, Nat.zero_le _, rfl, HBL.out⟩
    case round =>
      obtain ⟨k, hk, rfl, hbl⟩ := hrel
      obtain ⟨w1, hw1⟩ : ∃ w1, w1 = wr := ⟨_, rfl⟩
      subst hw1
      have HL := Lib.hid hbl
      obtain ⟨_, _, _, hbel, _⟩ := id hbl
      have HBE := Lib.hid hbel
      clear hbl hbel c0
      by_cases hlt : k < adj.length
      · have hS1 := HS.out _ HBE.out
        have hA1 := HAA.out _ HBE.out
        obtain ⟨ba, cb, ea2, -⟩ := owns_some HA.out.out (by omega)
        rw [EA.out] at ea2
        simp only [Value.slice.injEq] at ea2
        obtain ⟨rfl, _, rfl⟩ := ea2
        obtain ⟨vk, hvk, hok, htk⟩ := hA1.rows.at hlt
        have oa := hA1.out
        rw [EA.out] at oa
        have gk := val_cell oa hvk
        obtain ⟨ak, ck, ek⟩ := owns_form hok
        rw [ek] at gk
        have EK := Lib.hid ek
        obtain ⟨bq, cq, eq, -⟩ := owns_some hS1.q (by rw [HLQ.out]; omega)
        have c7 := hS1.c7
        have oq := hS1.q
        rw [eq] at c7 oq
        have hkq : k < s.grp.length := by rw [HLQ.out]; exact hlt
        have gg := grp_cell oq hkq
        obtain ⟨x, hx⟩ : ∃ x, x = at0 s.grp k - 1 := ⟨_, rfl⟩
        have hxe : ((at0 s.grp k : Nat) : Int) - 1 = (x : Int) := by have := HG1.out k hlt; omega
        have hxG : x < s.grps.length := by have := HG1.out k hlt; have := HG2.out k; omega
        rw [hxe] at gg
        have HX := Lib.hid hx
        have EQ := Lib.hid eq
        have HVK := Lib.hid hvk
        have hkI : (k : Int) < (adj.length : Int) := by omega
        have hkqI : (k : Int) < (s.grp.length : Int) := by omega
        have hDk := HD.out k
        clear hS1 hA1 oa hok htk ek oq eq hx hxe hvk
        go_wp2_with fail
        have h0 : BLoop w (.slice (some ⟨m, 0, none⟩) s.grps.length s.grps.length) (.slice (some ⟨u, 0, none⟩) s.grps.length s.grps.length) (Bt.node s.grp (Bt.nodes s.grp adj (bt0 s.grps.length) k) k ((ats adj k).take 0)) (16384 * k + 0) w1 := HL.out
        have H0 := Lib.hid h0
        clear h0
        go_loopw [41] (fun v wr => ∃ i : Nat, i ≤ (ats adj k).length ∧ v = .int .i64 (i : Int) ∧ BLoop w (.slice (some ⟨m, 0, none⟩) s.grps.length s.grps.length) (.slice (some ⟨u, 0, none⟩) s.grps.length s.grps.length) (Bt.node s.grp (Bt.nodes s.grp adj (bt0 s.grps.length) k) k ((ats adj k).take i)) (16384 * k + i) wr) (fun v _ => (ats adj k).length - (intOf v).toNat)
        case atStart => exact ⟨0, Nat.zero_le _, rfl, H0.out⟩
        case round =>
          obtain ⟨i, hi, rfl, hbl⟩ := hrel
          obtain ⟨O2, us2, hB2, hbel2, hsm2⟩ := hbl
          clear gk gg c7
          by_cases hlt2 : i < (ats adj k).length
          · have hS1 := HS.out _ hbel2
            have hA1 := HAA.out _ hbel2
            obtain ⟨vk', hvk', hok, htk⟩ := hA1.rows.at hlt
            obtain rfl : vk' = vk := Option.some.inj (hvk'.symm.trans HVK.out)
            obtain ⟨bk, ck2, ek2, -⟩ := owns_some hok (by omega)
            rw [EK.out] at ek2
            simp only [Value.slice.injEq] at ek2
            obtain ⟨rfl, _, rfl⟩ := ek2
            rw [EK.out] at hok
            have gi := num_cell hok hlt2
            obtain ⟨b, hb⟩ : ∃ b, b = at0 (ats adj k) i := ⟨_, rfl⟩
            rw [← hb] at gi
            have hbE : Ed adj k b := ed_at.2 ⟨i, by rw [hb]; simp [at0, List.getD, List.getElem?_eq_getElem hlt2]⟩
            have hbn := OK.out k b hbE
            have c7 := hS1.c7
            have oq := hS1.q
            rw [EQ.out] at c7 oq
            have hbq : b < s.grp.length := by rw [HLQ.out]; exact hbn
            have gb := grp_cell oq hbq
            obtain ⟨y, hy⟩ : ∃ y, y = at0 s.grp b - 1 := ⟨_, rfl⟩
            have hye : ((at0 s.grp b : Nat) : Int) - 1 = (y : Int) := by have := HG1.out b hbn; omega
            have hyG : y < s.grps.length := by have := HG1.out b hbn; have := HG2.out b; omega
            rw [hye] at gb
            have hnext : Bt.node s.grp (Bt.nodes s.grp adj (bt0 s.grps.length) k) k ((ats adj k).take (i + 1)) = (Bt.node s.grp (Bt.nodes s.grp adj (bt0 s.grps.length) k) k ((ats adj k).take i)).add x y := by
              rw [take_snoc_at hlt2, Bt.node_snoc, ← hb, ← hy, HX.out]
            have HNX := Lib.hid hnext
            obtain ⟨bt, hbt⟩ : ∃ bt, bt = Bt.node s.grp (Bt.nodes s.grp adj (bt0 s.grps.length) k) k ((ats adj k).take i) := ⟨_, rfl⟩
            rw [← hbt] at hB2 hsm2
            have hwl : bt.waits.length = s.grps.length := by
              rw [hbt, (Bt.node_len _ _ _ _).1, (Bt.nodes_len _ _ _ _).1]; simp [bt0]
            have hul : bt.users.length = s.grps.length := by
              rw [hbt, (Bt.node_len _ _ _ _).2, (Bt.nodes_len _ _ _ _).2]; simp [bt0]
            have HBT := Lib.hid hbt
            have hiI : (i : Int) < ((ats adj k).length : Int) := by omega
            have hbqI : (b : Int) < (s.grp.length : Int) := by omega
            have hxI : (x : Int) < (s.grps.length : Int) := by omega
            have hyI : (y : Int) < (s.grps.length : Int) := by omega
            have HB2 := Lib.hid hB2
            have HBEL2 := Lib.hid hbel2
            have HSM2 := Lib.hid hsm2
            have HWL := Lib.hid hwl
            have HUL := Lib.hid hul
            have hDD : 16384 * k + i ≤ 20000000 := by omega
            clear hS1 hA1 hok htk hvk' oq hb hbE hy hye hnext hbt hB2 hbel2 hsm2 hwl hul hbn
            by_cases hxy : y = x
            · have exy : ((y : Int) != (x : Int)) = false := by rw [hxy]; simp
              have HXY := Lib.hid hxy
              clear hxy
              have hst : BLoop w (.slice (some ⟨m, 0, none⟩) s.grps.length s.grps.length) (.slice (some ⟨u, 0, none⟩) s.grps.length s.grps.length) (Bt.node s.grp (Bt.nodes s.grp adj (bt0 s.grps.length) k) k ((ats adj k).take (i + 1))) (16384 * k + (i + 1)) wr := by
                rw [HNX.out, ← HBT.out]
                unfold Bt.add
                rw [if_pos HXY.out]
                exact ⟨_, _, HB2.out, HBEL2.out, fun j => by have := HSM2.out.1 j; omega, fun j => by have := HSM2.out.2 j; omega⟩
              have HST := Lib.hid hst
              clear hst
              go_wp2_with fail
              go_roundw
              case rel => exact ⟨i + 1, by omega, by go_num, HST.out⟩
              case measure => simp [intOf]; omega
            · have exy : ((y : Int) != (x : Int)) = true := by rw [bne_iff_ne]; omega
              have HXY := Lib.hid hxy
              have ow := HB2.out.wt
              rw [HWL.out] at ow
              have gw := num_cell ow (show x < bt.waits.length by rw [HWL.out]; exact hxG)
              have zw := ow.frozenAt x
              have hwx := HSM2.out.1 x
              clear hxy ow
              go_upto_region 12 with fail
              have hw1 := HB2.out.wait (gw := m) (cap := s.grps.length) (g := x) (by rw [HWL.out]) (at0 bt.waits x + 1)
              rw [show ((at0 bt.waits x + 1 : Nat) : Int) = ((at0 bt.waits x : Nat) : Int) + 1 by omega] at hw1
              obtain ⟨hw1, hfx1⟩ := hw1
              have hbel3 : Below w.heap.size w (wr.setCell ⟨m, x, none⟩ (.int .i64 (((at0 bt.waits x : Nat) : Int) + 1))) := HBEL2.out.trans (hfx1.below HBEL2.out.size fun q hq hh => by
                have h3 : 12 ≤ O2 q := by unfold BMine at hh; omega
                have := HB2.out.low q (by unfold BMine at hh; exact hh)
                omega)
              have HW1 := Lib.hid hw1
              have HBEL3 := Lib.hid hbel3
              clear hw1 hfx1 hbel3 gw zw
              generalize wr.setCell _ _ = W3 at HW1 HBEL3 ⊢
              have ou := HW1.out.ut
              have hul3 : bt.users.length = s.grps.length := HUL.out
              have hyl : y < us2.length := by rw [HW1.out.ulen]; show y < bt.users.length; omega
              obtain ⟨uy, huy⟩ : ∃ uy, us2[y]? = some uy := ⟨_, List.getElem?_eq_getElem hyl⟩
              have hl : bt.users[y]? = some (ats bt.users y) := by unfold ats; simp [List.getD, List.getElem?_eq_getElem (show y < bt.users.length by omega)]
              have hrow := HW1.out.row y uy _ huy hl
              have hty := HW1.out.tr y uy huy
              have ou2 : W3.ownsRow w.heap.size 30 1 (.slice (some ⟨u, 0, none⟩) s.grps.length s.grps.length) s.grps.length us2 := by have := ou; rw [show (⟨bt.waits.set x (at0 bt.waits x + 1), bt.users⟩ : Bt).users.length = s.grps.length from hul3] at this; exact this
              have gy := val_cell ou2 huy
              have zy := ou2.frozenAt y
              obtain ⟨ay, cy, ey⟩ := owns_form hrow
              rw [ey] at gy hrow
              have hly := HSM2.out.2 y
              have hly2 : (ats bt.users y).length ≤ 100000000 := by omega
              have hBW : w.heap.size ≤ W3.heap.size := HBEL3.out.size
              have HROW := Lib.hid hrow
              have EY := Lib.hid ey
              have HTY := Lib.hid hty
              have HUY := Lib.hid huy
              have OU2 := Lib.hid ou2
              have HNE : Hid (¬ (Value.slice ay (ats bt.users y).length cy).ownBlock = some u) := Lib.hid (fun e => by
                have h1 := HTY.out u (by rw [EY.out]; exact e)
                have h2 := HW1.out.tu u rfl
                omega)
              clear ou hyl hl hrow hty ou2 ey huy hul3
              go_wp2_with (at_builtin; refine wp_appL info_int Try.underlying30 rfl (by decide) (by decide) rfl _ _ rfl HROW.out hBW hly2 [.int .i64 (x : Int)] rfl (by simp [Value.oneCell']) rfl rfl ?_; intro v5 W5 o5 x5 a5; obtain ⟨a6, c6, rfl⟩ := owns_form o5; have dc5 := fx_cell gy x5 HNE.out; have dz5 := (fx_row OU2.out x5 (fun b hb e => HNE.out (e.trans hb.symm))).frozenAt y; clear gy zy)
              obtain ⟨hu1, hfx2⟩ := HW1.out.user (gu := u) (cap := s.grps.length) (t := y) (g := x) (u := uy) (u' := .slice a6 ((ats bt.users y).length + 1) c6) (w1 := W5) (by show _ = Value.slice _ bt.users.length _; rw [HUL.out]) HUY.out o5 (by rw [EY.out]; exact x5) (by rw [EY.out]; exact a5) hBW
              have hst : BLoop w (.slice (some ⟨m, 0, none⟩) s.grps.length s.grps.length) (.slice (some ⟨u, 0, none⟩) s.grps.length s.grps.length) (Bt.node s.grp (Bt.nodes s.grp adj (bt0 s.grps.length) k) k ((ats adj k).take (i + 1))) (16384 * k + (i + 1)) (W5.setCell ⟨u, y, none⟩ (.slice a6 ((ats bt.users y).length + 1) c6)) := by
                rw [HNX.out, ← HBT.out]
                have hs3 := HSM2.out.add (g := x) (t := y) (by rw [HWL.out]; exact hxG) (by rw [HUL.out]; exact hyG)
                unfold Bt.add at hs3 ⊢
                rw [if_neg HXY.out] at hs3 ⊢
                exact ⟨_, _, hu1, HBEL3.out.trans (hfx2.below hBW fun q hq hh => by have := HW1.out.low q (by unfold BMine at hh; exact hh); omega), hs3⟩
              have HST := Lib.hid hst
              clear hst hu1 hfx2 o5 x5 a5 dc5 dz5
              go_wp2_with fail
              go_roundw
              case rel => exact ⟨i + 1, by omega, by go_num, HST.out⟩
              case measure => simp [intOf]; omega
          · have hie : i = (ats adj k).length := by omega
            have hst : BLoop w (.slice (some ⟨m, 0, none⟩) s.grps.length s.grps.length) (.slice (some ⟨u, 0, none⟩) s.grps.length s.grps.length) (Bt.nodes s.grp adj (bt0 s.grps.length) (k + 1)) (16384 * (k + 1)) wr := by
              rw [Bt.nodes_succ]
              rw [hie, List.take_length] at hB2 hsm2
              exact ⟨_, _, hB2, hbel2, fun j => by have := hsm2.1 j; omega, fun j => by have := hsm2.2 j; omega⟩
            have HST := Lib.hid hst
            clear hst hB2 hbel2 hsm2 hie
            go_wp2_with fail
            go_roundw
            case rel => exact ⟨k + 1, by omega, by go_num, HST.out⟩
            case measure => simp [intOf]; omega
      · have hke : k = adj.length := by omega
        have HKE := Lib.hid hke
        clear hke
        go_wp2_with fail
        go_ret2
        exact ⟨_, _, rfl, by have := HL.out; rw [HKE.out] at this; exact this⟩
  · obtain ⟨m, u, hm, hu, hbl⟩ := bl0b s.grps.length w (by omega)
    rw [← hm, ← hu]
    have HBL := Lib.hid hbl
    clear hbl hm hu
    generalize World.drew _ = W at HBL ⊢
    have HS := Lib.hid (fun (W : World) (hb : Below w.heap.size w W) => HH.out.fx (S := fun _ => False) (Fx.of_below hb) (fun _ _ _ => id))
    have HAA := Lib.hid (fun (W : World) (hb : Below w.heap.size w W) => HA.out.fx (S := fun _ => False) (Fx.of_below hb) (fun _ _ => id))
    obtain ⟨O1, us1, h1, hbel, _⟩ := id HBL.out
    have c0 := (HS.out _ hbel).c0
    rw [EA.out] at c0
    clear h1 hbel c6
    go_wp2_with fail
    go_loopw [27] (fun v wr => ∃ k : Nat, k ≤ adj.length ∧ v = .int .i64 (k : Int) ∧ BLoop w (.slice (some ⟨m, 0, none⟩) s.grps.length s.grps.length) (.slice (some ⟨u, 0, none⟩) s.grps.length s.grps.length) (Bt.nodes s.grp adj (bt0 s.grps.length) k) (16384 * k) wr) (fun v _ => adj.length - (intOf v).toNat)
    case atStart => exact ⟨0, Nat.zero_le _, rfl, HBL.out⟩
    case round =>
      obtain ⟨k, hk, rfl, hbl⟩ := hrel
      obtain ⟨w1, hw1⟩ : ∃ w1, w1 = wr := ⟨_, rfl⟩
      subst hw1
      have HL := Lib.hid hbl
      obtain ⟨_, _, _, hbel, _⟩ := id hbl
      have HBE := Lib.hid hbel
      clear hbl hbel c0
      by_cases hlt : k < adj.length
      · have hS1 := HS.out _ HBE.out
        have hA1 := HAA.out _ HBE.out
        obtain ⟨ba, cb, ea2, -⟩ := owns_some HA.out.out (by omega)
        rw [EA.out] at ea2
        simp only [Value.slice.injEq] at ea2
        obtain ⟨rfl, _, rfl⟩ := ea2
        obtain ⟨vk, hvk, hok, htk⟩ := hA1.rows.at hlt
        have oa := hA1.out
        rw [EA.out] at oa
        have gk := val_cell oa hvk
        obtain ⟨ak, ck, ek⟩ := owns_form hok
        rw [ek] at gk
        have EK := Lib.hid ek
        obtain ⟨bq, cq, eq, -⟩ := owns_some hS1.q (by rw [HLQ.out]; omega)
        have c7 := hS1.c7
        have oq := hS1.q
        rw [eq] at c7 oq
        have hkq : k < s.grp.length := by rw [HLQ.out]; exact hlt
        have gg := grp_cell oq hkq
        obtain ⟨x, hx⟩ : ∃ x, x = at0 s.grp k - 1 := ⟨_, rfl⟩
        have hxe : ((at0 s.grp k : Nat) : Int) - 1 = (x : Int) := by have := HG1.out k hlt; omega
        have hxG : x < s.grps.length := by have := HG1.out k hlt; have := HG2.out k; omega
        rw [hxe] at gg
        have HX := Lib.hid hx
        have EQ := Lib.hid eq
        have HVK := Lib.hid hvk
        have hkI : (k : Int) < (adj.length : Int) := by omega
        have hkqI : (k : Int) < (s.grp.length : Int) := by omega
        have hDk := HD.out k
        clear hS1 hA1 oa hok htk ek oq eq hx hxe hvk
        go_wp2_with fail
        have h0 : BLoop w (.slice (some ⟨m, 0, none⟩) s.grps.length s.grps.length) (.slice (some ⟨u, 0, none⟩) s.grps.length s.grps.length) (Bt.node s.grp (Bt.nodes s.grp adj (bt0 s.grps.length) k) k ((ats adj k).take 0)) (16384 * k + 0) w1 := HL.out
        have H0 := Lib.hid h0
        clear h0
        go_loopw [41] (fun v wr => ∃ i : Nat, i ≤ (ats adj k).length ∧ v = .int .i64 (i : Int) ∧ BLoop w (.slice (some ⟨m, 0, none⟩) s.grps.length s.grps.length) (.slice (some ⟨u, 0, none⟩) s.grps.length s.grps.length) (Bt.node s.grp (Bt.nodes s.grp adj (bt0 s.grps.length) k) k ((ats adj k).take i)) (16384 * k + i) wr) (fun v _ => (ats adj k).length - (intOf v).toNat)
        case atStart => exact ⟨0, Nat.zero_le _, rfl, H0.out⟩
        case round =>
          obtain ⟨i, hi, rfl, hbl⟩ := hrel
          obtain ⟨O2, us2, hB2, hbel2, hsm2⟩ := hbl
          clear gk gg c7
          by_cases hlt2 : i < (ats adj k).length
          · have hS1 := HS.out _ hbel2
            have hA1 := HAA.out _ hbel2
            obtain ⟨vk', hvk', hok, htk⟩ := hA1.rows.at hlt
            obtain rfl : vk' = vk := Option.some.inj (hvk'.symm.trans HVK.out)
            obtain ⟨bk, ck2, ek2, -⟩ := owns_some hok (by omega)
            rw [EK.out] at ek2
            simp only [Value.slice.injEq] at ek2
            obtain ⟨rfl, _, rfl⟩ := ek2
            rw [EK.out] at hok
            have gi := num_cell hok hlt2
            obtain ⟨b, hb⟩ : ∃ b, b = at0 (ats adj k) i := ⟨_, rfl⟩
            rw [← hb] at gi
            have hbE : Ed adj k b := ed_at.2 ⟨i, by rw [hb]; simp [at0, List.getD, List.getElem?_eq_getElem hlt2]⟩
            have hbn := OK.out k b hbE
            have c7 := hS1.c7
            have oq := hS1.q
            rw [EQ.out] at c7 oq
            have hbq : b < s.grp.length := by rw [HLQ.out]; exact hbn
            have gb := grp_cell oq hbq
            obtain ⟨y, hy⟩ : ∃ y, y = at0 s.grp b - 1 := ⟨_, rfl⟩
            have hye : ((at0 s.grp b : Nat) : Int) - 1 = (y : Int) := by have := HG1.out b hbn; omega
            have hyG : y < s.grps.length := by have := HG1.out b hbn; have := HG2.out b; omega
            rw [hye] at gb
            have hnext : Bt.node s.grp (Bt.nodes s.grp adj (bt0 s.grps.length) k) k ((ats adj k).take (i + 1)) = (Bt.node s.grp (Bt.nodes s.grp adj (bt0 s.grps.length) k) k ((ats adj k).take i)).add x y := by
              rw [take_snoc_at hlt2, Bt.node_snoc, ← hb, ← hy, HX.out]
            have HNX := Lib.hid hnext
            obtain ⟨bt, hbt⟩ : ∃ bt, bt = Bt.node s.grp (Bt.nodes s.grp adj (bt0 s.grps.length) k) k ((ats adj k).take i) := ⟨_, rfl⟩
            rw [← hbt] at hB2 hsm2
            have hwl : bt.waits.length = s.grps.length := by
              rw [hbt, (Bt.node_len _ _ _ _).1, (Bt.nodes_len _ _ _ _).1]; simp [bt0]
            have hul : bt.users.length = s.grps.length := by
              rw [hbt, (Bt.node_len _ _ _ _).2, (Bt.nodes_len _ _ _ _).2]; simp [bt0]
            have HBT := Lib.hid hbt
            have hiI : (i : Int) < ((ats adj k).length : Int) := by omega
            have hbqI : (b : Int) < (s.grp.length : Int) := by omega
            have hxI : (x : Int) < (s.grps.length : Int) := by omega
            have hyI : (y : Int) < (s.grps.length : Int) := by omega
            have HB2 := Lib.hid hB2
            have HBEL2 := Lib.hid hbel2
            have HSM2 := Lib.hid hsm2
            have HWL := Lib.hid hwl
            have HUL := Lib.hid hul
            have hDD : 16384 * k + i ≤ 20000000 := by omega
            clear hS1 hA1 hok htk hvk' oq hb hbE hy hye hnext hbt hB2 hbel2 hsm2 hwl hul hbn
            by_cases hxy : y = x
            · have exy : ((y : Int) != (x : Int)) = false := by rw [hxy]; simp
              have HXY := Lib.hid hxy
              clear hxy
              have hst : BLoop w (.slice (some ⟨m, 0, none⟩) s.grps.length s.grps.length) (.slice (some ⟨u, 0, none⟩) s.grps.length s.grps.length) (Bt.node s.grp (Bt.nodes s.grp adj (bt0 s.grps.length) k) k ((ats adj k).take (i + 1))) (16384 * k + (i + 1)) wr := by
                rw [HNX.out, ← HBT.out]
                unfold Bt.add
                rw [if_pos HXY.out]
                exact ⟨_, _, HB2.out, HBEL2.out, fun j => by have := HSM2.out.1 j; omega, fun j => by have := HSM2.out.2 j; omega⟩
              have HST := Lib.hid hst
              clear hst
              go_wp2_with fail
              go_roundw
              case rel => exact ⟨i + 1, by omega, by go_num, HST.out⟩
              case measure => simp [intOf]; omega
            · have exy : ((y : Int) != (x : Int)) = true := by rw [bne_iff_ne]; omega
              have HXY := Lib.hid hxy
              have ow := HB2.out.wt
              rw [HWL.out] at ow
              have gw := num_cell ow (show x < bt.waits.length by rw [HWL.out]; exact hxG)
              have zw := ow.frozenAt x
              have hwx := HSM2.out.1 x
              clear hxy ow
              go_upto_region 12 with fail
              have hw1 := HB2.out.wait (gw := m) (cap := s.grps.length) (g := x) (by rw [HWL.out]) (at0 bt.waits x + 1)
              rw [show ((at0 bt.waits x + 1 : Nat) : Int) = ((at0 bt.waits x : Nat) : Int) + 1 by omega] at hw1
              obtain ⟨hw1, hfx1⟩ := hw1
              have hbel3 : Below w.heap.size w (wr.setCell ⟨m, x, none⟩ (.int .i64 (((at0 bt.waits x : Nat) : Int) + 1))) := HBEL2.out.trans (hfx1.below HBEL2.out.size fun q hq hh => by
                have h3 : 12 ≤ O2 q := by unfold BMine at hh; omega
                have := HB2.out.low q (by unfold BMine at hh; exact hh)
                omega)
              have HW1 := Lib.hid hw1
              have HBEL3 := Lib.hid hbel3
              clear hw1 hfx1 hbel3 gw zw
              generalize wr.setCell _ _ = W3 at HW1 HBEL3 ⊢
              have ou := HW1.out.ut
              have hul3 : bt.users.length = s.grps.length := HUL.out
              have hyl : y < us2.length := by rw [HW1.out.ulen]; show y < bt.users.length; omega
              obtain ⟨uy, huy⟩ : ∃ uy, us2[y]? = some uy := ⟨_, List.getElem?_eq_getElem hyl⟩
              have hl : bt.users[y]? = some (ats bt.users y) := by unfold ats; simp [List.getD, List.getElem?_eq_getElem (show y < bt.users.length by omega)]
              have hrow := HW1.out.row y uy _ huy hl
              have hty := HW1.out.tr y uy huy
              have ou2 : W3.ownsRow w.heap.size 30 1 (.slice (some ⟨u, 0, none⟩) s.grps.length s.grps.length) s.grps.length us2 := by have := ou; rw [show (⟨bt.waits.set x (at0 bt.waits x + 1), bt.users⟩ : Bt).users.length = s.grps.length from hul3] at this; exact this
              have gy := val_cell ou2 huy
              have zy := ou2.frozenAt y
              obtain ⟨ay, cy, ey⟩ := owns_form hrow
              rw [ey] at gy hrow
              have hly := HSM2.out.2 y
              have hly2 : (ats bt.users y).length ≤ 100000000 := by omega
              have hBW : w.heap.size ≤ W3.heap.size := HBEL3.out.size
              have HROW := Lib.hid hrow
              have EY := Lib.hid ey
              have HTY := Lib.hid hty
              have HUY := Lib.hid huy
              have OU2 := Lib.hid ou2
              have HNE : Hid (¬ (Value.slice ay (ats bt.users y).length cy).ownBlock = some u) := Lib.hid (fun e => by
                have h1 := HTY.out u (by rw [EY.out]; exact e)
                have h2 := HW1.out.tu u rfl
                omega)
              clear ou hyl hl hrow hty ou2 ey huy hul3
              go_wp2_with (at_builtin; refine wp_appL info_int Try.underlying30 rfl (by decide) (by decide) rfl _ _ rfl HROW.out hBW hly2 [.int .i64 (x : Int)] rfl (by simp [Value.oneCell']) rfl rfl ?_; intro v5 W5 o5 x5 a5; obtain ⟨a6, c6, rfl⟩ := owns_form o5; have dc5 := fx_cell gy x5 HNE.out; have dz5 := (fx_row OU2.out x5 (fun b hb e => HNE.out (e.trans hb.symm))).frozenAt y; clear gy zy)
              obtain ⟨hu1, hfx2⟩ := HW1.out.user (gu := u) (cap := s.grps.length) (t := y) (g := x) (u := uy) (u' := .slice a6 ((ats bt.users y).length + 1) c6) (w1 := W5) (by show _ = Value.slice _ bt.users.length _; rw [HUL.out]) HUY.out o5 (by rw [EY.out]; exact x5) (by rw [EY.out]; exact a5) hBW
              have hst : BLoop w (.slice (some ⟨m, 0, none⟩) s.grps.length s.grps.length) (.slice (some ⟨u, 0, none⟩) s.grps.length s.grps.length) (Bt.node s.grp (Bt.nodes s.grp adj (bt0 s.grps.length) k) k ((ats adj k).take (i + 1))) (16384 * k + (i + 1)) (W5.setCell ⟨u, y, none⟩ (.slice a6 ((ats bt.users y).length + 1) c6)) := by
                rw [HNX.out, ← HBT.out]
                have hs3 := HSM2.out.add (g := x) (t := y) (by rw [HWL.out]; exact hxG) (by rw [HUL.out]; exact hyG)
                unfold Bt.add at hs3 ⊢
                rw [if_neg HXY.out] at hs3 ⊢
                exact ⟨_, _, hu1, HBEL3.out.trans (hfx2.below hBW fun q hq hh => by have := HW1.out.low q (by unfold BMine at hh; exact hh); omega), hs3⟩
              have HST := Lib.hid hst
              clear hst hu1 hfx2 o5 x5 a5 dc5 dz5
              go_wp2_with fail
              go_roundw
              case rel => exact ⟨i + 1, by omega, by go_num, HST.out⟩
              case measure => simp [intOf]; omega
          · have hie : i = (ats adj k).length := by omega
            have hst : BLoop w (.slice (some ⟨m, 0, none⟩) s.grps.length s.grps.length) (.slice (some ⟨u, 0, none⟩) s.grps.length s.grps.length) (Bt.nodes s.grp adj (bt0 s.grps.length) (k + 1)) (16384 * (k + 1)) wr := by
              rw [Bt.nodes_succ]
              rw [hie, List.take_length] at hB2 hsm2
              exact ⟨_, _, hB2, hbel2, fun j => by have := hsm2.1 j; omega, fun j => by have := hsm2.2 j; omega⟩
            have HST := Lib.hid hst
            clear hst hB2 hbel2 hsm2 hie
            go_wp2_with fail
            go_roundw
            case rel => exact ⟨k + 1, by omega, by go_num, HST.out⟩
            case measure => simp [intOf]; omega
      · have hke : k = adj.length := by omega
        have HKE := Lib.hid hke
        clear hke
        go_wp2_with fail
        go_ret2
        exact ⟨_, _, rfl, by have := HL.out; rw [HKE.out] at this; exact this⟩
end Go.Proofs.Ytmoebpebahhbeaa
