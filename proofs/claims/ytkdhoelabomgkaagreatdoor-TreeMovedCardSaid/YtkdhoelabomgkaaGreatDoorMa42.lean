/- Texts of this proof, joined: PRtD. No condition. -/
import Derived.Test.YtkdhoelabomgkaaGreatDoorMa41
/-
  Layer 3, the program's side: a declaration that may be.
-/
namespace Go.Proofs.YtkdhoelabomgkaaGreatDoor
set_option linter.unusedVariables false
open Go.ChangeShapes Go.WideShapes Go.ChangeAt Go.RowKit

/-- a declaration's cells, all of them -/
theorem de_flat {P : Nat → Prop} {w : World} {E : Addr} {k p : Int} {n : ByteArray} {vs : List ByteArray} {cs : List Co} {tk tp : Int} {tn : ByteArray} {tl : List Ty} {ps : List Pa} {ek ep em : Int} {en : ByteArray} {el : List Ex} {eps : List Pa} {eal : List Al} {eds : List De}
    (h : IsDe w P E (.mk k p n vs cs (.mk tk tp tn tl) ps (.mk ek ep en em el eps eal eds))) :
    ∃ (va ca ta pa a4 a5 a6 a7 : Option Addr) (vb cb tb pb b4 b5 b6 b7 : Nat), n.size ≤ maxLen ∧ IsTxs w P (.slice va vs.length vb) vs ∧ IsCos w P (.slice ca cs.length cb) cs ∧ IsPas w P (.slice pa ps.length pb) ps ∧
      IsVs w P (Ty.row (.mk tk tp tn tl)) [.int .i64 tk, .int .i64 tp, .string tn, .slice ta tl.length tb] ∧ IsVs w P (Ex.row (.mk ek ep en em el eps eal eds)) [.int .i64 ek, .int .i64 ep, .string en, .int .i64 em, .slice a4 el.length b4, .slice a5 eps.length b5, .slice a6 eal.length b6, .slice a7 eds.length b7] ∧
      w.cell? E = some (.int .i64 k) ∧ w.cell? ⟨E.block, E.off + 2, none⟩ = some (.string n) ∧ w.cell? ⟨E.block, E.off + 3, none⟩ = some (.slice va vs.length vb) ∧ w.cell? ⟨E.block, E.off + 4, none⟩ = some (.slice ca cs.length cb) ∧
      w.cell? ⟨E.block, E.off + 5, none⟩ = some (.int .i64 tk) ∧ w.cell? ⟨E.block, E.off + 6, none⟩ = some (.int .i64 tp) ∧ w.cell? ⟨E.block, E.off + 7, none⟩ = some (.string tn) ∧ w.cell? ⟨E.block, E.off + 8, none⟩ = some (.slice ta tl.length tb) ∧ w.cell? ⟨E.block, E.off + 9, none⟩ = some (.slice pa ps.length pb) ∧
      w.cell? ⟨E.block, E.off + 10, none⟩ = some (.int .i64 ek) ∧ w.cell? ⟨E.block, E.off + 11, none⟩ = some (.int .i64 ep) ∧ w.cell? ⟨E.block, E.off + 12, none⟩ = some (.string en) ∧ w.cell? ⟨E.block, E.off + 13, none⟩ = some (.int .i64 em) ∧ w.cell? ⟨E.block, E.off + 14, none⟩ = some (.slice a4 el.length b4) ∧ w.cell? ⟨E.block, E.off + 15, none⟩ = some (.slice a5 eps.length b5) ∧ w.cell? ⟨E.block, E.off + 16, none⟩ = some (.slice a6 eal.length b6) ∧ w.cell? ⟨E.block, E.off + 17, none⟩ = some (.slice a7 eds.length b7) := by
  obtain ⟨c0, _, c2, hn, ⟨va, vb, c3, _, _, hvs⟩, ⟨ca, cb, c4, _, _, hcs⟩, ht, ⟨pa, pb, c9, _, _, hps⟩, he⟩ := h.cells
  obtain ⟨tvs, t1, _, t3⟩ := IsRow.vals _ _ ht.out
  obtain ⟨evs, e1, _, e3⟩ := IsRow.vals _ _ he.out
  obtain ⟨ta, tb, rfl, _⟩ := ty_vs t1
  obtain ⟨_, a4, a5, a6, a7, b4, b5, b6, b7, rfl, _⟩ := ex_vs e1
  have kt : ∀ j v, [.int .i64 tk, .int .i64 tp, .string tn, .slice ta tl.length tb][j]? = some v → w.cell? ⟨E.block, E.off + (5 + j), none⟩ = some v := fun j v hj => by
    have := t3 j v hj
    rwa [add_add2, add_off _ _ (by omega)] at this
  have ke : ∀ j v, [.int .i64 ek, .int .i64 ep, .string en, .int .i64 em, .slice a4 el.length b4, .slice a5 eps.length b5, .slice a6 eal.length b6, .slice a7 eds.length b7][j]? = some v → w.cell? ⟨E.block, E.off + (10 + j), none⟩ = some v := fun j v hj => by
    have := e3 j v hj
    rwa [add_add2, add_off _ _ (by omega)] at this
  exact ⟨va, ca, ta, pa, a4, a5, a6, a7, vb, cb, tb, pb, b4, b5, b6, b7, hn, hvs, hcs, hps, t1, e1, c0, c2, c3, c4, kt 0 _ rfl, kt 1 _ rfl, kt 2 _ rfl, kt 3 _ rfl, c9, ke 0 _ rfl, ke 1 _ rfl, ke 2 _ rfl, ke 3 _ rfl, ke 4 _ rfl, ke 5 _ rfl, ke 6 _ rfl, ke 7 _ rfl⟩
set_option maxHeartbeats 8000000 in
set_option maxRecDepth 100000 in
theorem data_any (k p : Int) (n : ByteArray) (vs : List ByteArray) (cs : List Co) (t : Ty) (ps : List Pa) (e : Ex) (P : Nat → Prop) (E : Addr) (w : World) (hr : RangeOk w) (h : IsDe w P E (.mk k p n vs cs t ps e)) :
    Calls Tryz.prog 75 #[.pointer (some E)] w fun e' w' => e' = .returned (.bool (dataB n vs cs t ps e)) ∧ Below w.heap.size w w' := by
  obtain ⟨tk, tp, tn, tl⟩ := t
  obtain ⟨ek, ep, en, em, el, eps, eal, eds⟩ := e
  obtain ⟨va, ca, ta, pa, a4, a5, a6, a7, vb, cb, tb, pb, b4, b5, b6, b7, hn, hvs, hcs, hps, ht, he, c0, c2, c3, c4, c5, c6, c7, c8, c9, c10, c11, c12, c13, c14, c15, c16, c17⟩ := de_flat h
  have HV := Lib.hid hvs
  have HC := Lib.hid hcs
  have HP := Lib.hid hps
  have HT := Lib.hid ht
  have HE := Lib.hid he
  have hacc := Below.refl w.heap.size w
  have HR := Lib.hid hr
  clear h hvs hcs hps ht he hr
  go_enter Tryz.func75, Tryz.ntmps75
  go_wp2_with (first
    | (go_at_call 95; refine (iscon_any n hn _ (HR.out.on hacc)).mono ?_; rintro e w' ⟨rfl, hb⟩; replace hacc := hacc.trans (hb.mono hacc.size); replace c0 := bel_cell hb c0; replace c2 := bel_cell hb c2; replace c3 := bel_cell hb c3; replace c4 := bel_cell hb c4; replace c5 := bel_cell hb c5; replace c6 := bel_cell hb c6; replace c7 := bel_cell hb c7; replace c8 := bel_cell hb c8; replace c9 := bel_cell hb c9; replace c10 := bel_cell hb c10; replace c11 := bel_cell hb c11; replace c12 := bel_cell hb c12; replace c13 := bel_cell hb c13; replace c14 := bel_cell hb c14; replace c15 := bel_cell hb c15; replace c16 := bel_cell hb c16; replace c17 := bel_cell hb c17)
    | (go_at_call 105; refine (vars_any vs P _ _ (HV.out.on hacc)).mono ?_; rintro e w' ⟨rfl, rfl⟩)
    | (go_at_call 106; refine (cons_any cs P _ _ (HR.out.on hacc) (HC.out.on hacc)).mono ?_; rintro e w' ⟨rfl, hb⟩; replace hacc := hacc.trans (hb.mono hacc.size); replace c0 := bel_cell hb c0; replace c2 := bel_cell hb c2; replace c3 := bel_cell hb c3; replace c4 := bel_cell hb c4; replace c5 := bel_cell hb c5; replace c6 := bel_cell hb c6; replace c7 := bel_cell hb c7; replace c8 := bel_cell hb c8; replace c9 := bel_cell hb c9; replace c10 := bel_cell hb c10; replace c11 := bel_cell hb c11; replace c12 := bel_cell hb c12; replace c13 := bel_cell hb c13; replace c14 := bel_cell hb c14; replace c15 := bel_cell hb c15; replace c16 := bel_cell hb c16; replace c17 := bel_cell hb c17)
    | (go_at_call 107; refine (notype_any (.mk tk tp tn tl) P [.int .i64 tk, .int .i64 tp, .string tn, .slice ta tl.length tb] _ (IsVs.on hacc _ _ HT.out)).mono ?_; rintro e w' ⟨rfl, hb⟩; replace hacc := hacc.trans (hb.mono hacc.size); replace c0 := bel_cell hb c0; replace c2 := bel_cell hb c2; replace c3 := bel_cell hb c3; replace c4 := bel_cell hb c4; replace c5 := bel_cell hb c5; replace c6 := bel_cell hb c6; replace c7 := bel_cell hb c7; replace c8 := bel_cell hb c8; replace c9 := bel_cell hb c9; replace c10 := bel_cell hb c10; replace c11 := bel_cell hb c11; replace c12 := bel_cell hb c12; replace c13 := bel_cell hb c13; replace c14 := bel_cell hb c14; replace c15 := bel_cell hb c15; replace c16 := bel_cell hb c16; replace c17 := bel_cell hb c17)
    | (go_at_call 108; refine (noexpr_any (.mk ek ep en em el eps eal eds) P [.int .i64 ek, .int .i64 ep, .string en, .int .i64 em, .slice a4 el.length b4, .slice a5 eps.length b5, .slice a6 eal.length b6, .slice a7 eds.length b7] _ (IsVs.on hacc _ _ HE.out)).mono ?_; rintro e w' ⟨rfl, hb⟩; replace hacc := hacc.trans (hb.mono hacc.size); replace c0 := bel_cell hb c0; replace c2 := bel_cell hb c2; replace c3 := bel_cell hb c3; replace c4 := bel_cell hb c4; replace c5 := bel_cell hb c5; replace c6 := bel_cell hb c6; replace c7 := bel_cell hb c7; replace c8 := bel_cell hb c8; replace c9 := bel_cell hb c9; replace c10 := bel_cell hb c10; replace c11 := bel_cell hb c11; replace c12 := bel_cell hb c12; replace c13 := bel_cell hb c13; replace c14 := bel_cell hb c14; replace c15 := bel_cell hb c15; replace c16 := bel_cell hb c16; replace c17 := bel_cell hb c17))
  all_goals (go_ret; refine ⟨ret_bool ?_, hacc⟩)
  all_goals (unfold dataB; first | (simp [*]; done) | (simp_all; done) | (simp [*]; omega) | (simp_all; omega))
set_option maxHeartbeats 8000000 in
set_option maxRecDepth 100000 in
theorem sig_any (k p : Int) (n : ByteArray) (vs : List ByteArray) (cs : List Co) (t : Ty) (ps : List Pa) (e : Ex) (P : Nat → Prop) (E : Addr) (w : World) (hr : RangeOk w) (h : IsDe w P E (.mk k p n vs cs t ps e)) :
    Calls Tryz.prog 76 #[.pointer (some E)] w fun e' w' => e' = .returned (.bool (sigB n vs cs t ps e)) ∧ Below w.heap.size w w' := by
  have HTy : Hid (IsTy w P ⟨E.block, E.off + 5, none⟩ t) := Lib.hid (by
    obtain ⟨_, _, _, _, _, _, ht, _⟩ := h.cells
    rwa [add_off _ _ (by decide)] at ht)
  have HRt : Hid (RtT 1 t (t.rt 400)) := Lib.hid (rtT_all 400 t (Nat.le_refl _))
  obtain ⟨tk, tp, tn, tl⟩ := t
  obtain ⟨ek, ep, en, em, el, eps, eal, eds⟩ := e
  obtain ⟨va, ca, ta, pa, a4, a5, a6, a7, vb, cb, tb, pb, b4, b5, b6, b7, hn, hvs, hcs, hps, ht, he, c0, c2, c3, c4, c5, c6, c7, c8, c9, c10, c11, c12, c13, c14, c15, c16, c17⟩ := de_flat h
  have HV := Lib.hid hvs
  have HC := Lib.hid hcs
  have HP := Lib.hid hps
  have HT := Lib.hid ht
  have HE := Lib.hid he
  have hacc := Below.refl w.heap.size w
  have HR := Lib.hid hr
  clear h hvs hcs hps ht he hr
  unfold sigB
  generalize (Ty.mk tk tp tn tl).rt 400 = tb' at HRt ⊢
  go_enter Tryz.func76, Tryz.ntmps76
  go_wp2_with (first
    | (go_at_call 94; refine (pisname_any n hn _).mono ?_; rintro e w' ⟨rfl, rfl⟩)
    | (go_at_call 33; refine (HRt.out P _ _ (HR.out.on hacc) (HTy.out.on hacc)).mono ?_; rintro e w' ⟨rfl, hb⟩; replace hacc := hacc.trans (hb.mono hacc.size); replace c0 := bel_cell hb c0; replace c2 := bel_cell hb c2; replace c3 := bel_cell hb c3; replace c4 := bel_cell hb c4; replace c5 := bel_cell hb c5; replace c6 := bel_cell hb c6; replace c7 := bel_cell hb c7; replace c8 := bel_cell hb c8; replace c9 := bel_cell hb c9; replace c10 := bel_cell hb c10; replace c11 := bel_cell hb c11; replace c12 := bel_cell hb c12; replace c13 := bel_cell hb c13; replace c14 := bel_cell hb c14; replace c15 := bel_cell hb c15; replace c16 := bel_cell hb c16; replace c17 := bel_cell hb c17)
    | (go_at_call 108; refine (noexpr_any (.mk ek ep en em el eps eal eds) P [.int .i64 ek, .int .i64 ep, .string en, .int .i64 em, .slice a4 el.length b4, .slice a5 eps.length b5, .slice a6 eal.length b6, .slice a7 eds.length b7] _ (IsVs.on hacc _ _ HE.out)).mono ?_; rintro e w' ⟨rfl, hb⟩; replace hacc := hacc.trans (hb.mono hacc.size); replace c0 := bel_cell hb c0; replace c2 := bel_cell hb c2; replace c3 := bel_cell hb c3; replace c4 := bel_cell hb c4; replace c5 := bel_cell hb c5; replace c6 := bel_cell hb c6; replace c7 := bel_cell hb c7; replace c8 := bel_cell hb c8; replace c9 := bel_cell hb c9; replace c10 := bel_cell hb c10; replace c11 := bel_cell hb c11; replace c12 := bel_cell hb c12; replace c13 := bel_cell hb c13; replace c14 := bel_cell hb c14; replace c15 := bel_cell hb c15; replace c16 := bel_cell hb c16; replace c17 := bel_cell hb c17))
  all_goals (go_ret; refine ⟨ret_bool ?_, hacc⟩)
  all_goals (first | (simp [*]; done) | (simp_all; done) | (simp [*]; omega) | (simp_all; omega))
/-- whether an expression may be on this level -/
def RtE (lev : Int) (t : Ex) (b : Bool) : Prop := ∀ (P : Nat → Prop) (a : Addr) (w : World), RangeOk w → IsEx w P a t →
  Calls Tryz.prog 39 #[.pointer (some a), .int .i64 lev] w fun e w' => e = .returned (.bool b) ∧ Below w.heap.size w w'
set_option maxHeartbeats 8000000 in
set_option maxRecDepth 100000 in
theorem def_any (k p : Int) (n : ByteArray) (vs : List ByteArray) (cs : List Co) (t : Ty) (ps : List Pa) (e : Ex) (lev : Int) (b : Bool) (hb : RtE lev e b) (P : Nat → Prop) (E : Addr) (w : World) (hr : RangeOk w) (h : IsDe w P E (.mk k p n vs cs t ps e)) :
    Calls Tryz.prog 77 #[.pointer (some E), .int .i64 lev] w fun e' w' => e' = .returned (.bool (defB n vs cs t ps b)) ∧ Below w.heap.size w w' := by
  have HEx : Hid (IsEx w P ⟨E.block, E.off + 10, none⟩ e) := Lib.hid (by
    obtain ⟨_, _, _, _, _, _, _, _, he⟩ := h.cells
    rwa [add_off _ _ (by decide)] at he)
  have HB := Lib.hid hb
  obtain ⟨tk, tp, tn, tl⟩ := t
  obtain ⟨ek, ep, en, em, el, eps, eal, eds⟩ := e
  obtain ⟨va, ca, ta, pa, a4, a5, a6, a7, vb, cb, tb, pb, b4, b5, b6, b7, hn, hvs, hcs, hps, ht, he, c0, c2, c3, c4, c5, c6, c7, c8, c9, c10, c11, c12, c13, c14, c15, c16, c17⟩ := de_flat h
  have HV := Lib.hid hvs
  have HC := Lib.hid hcs
  have HP := Lib.hid hps
  have HT := Lib.hid ht
  have HE := Lib.hid he
  have hacc := Below.refl w.heap.size w
  have HR := Lib.hid hr
  clear h hvs hcs hps ht he hr hb
  unfold defB
  go_enter Tryz.func77, Tryz.ntmps77
  go_wp2_with (first
    | (go_at_call 94; refine (pisname_any n hn _).mono ?_; rintro e w' ⟨rfl, rfl⟩)
    | (go_at_call 67; refine (pats_any ps P _ _ (HR.out.on hacc) (HP.out.on hacc)).mono ?_; rintro e w' ⟨rfl, hb⟩; replace hacc := hacc.trans (hb.mono hacc.size); replace c0 := bel_cell hb c0; replace c2 := bel_cell hb c2; replace c3 := bel_cell hb c3; replace c4 := bel_cell hb c4; replace c5 := bel_cell hb c5; replace c6 := bel_cell hb c6; replace c7 := bel_cell hb c7; replace c8 := bel_cell hb c8; replace c9 := bel_cell hb c9; replace c10 := bel_cell hb c10; replace c11 := bel_cell hb c11; replace c12 := bel_cell hb c12; replace c13 := bel_cell hb c13; replace c14 := bel_cell hb c14; replace c15 := bel_cell hb c15; replace c16 := bel_cell hb c16; replace c17 := bel_cell hb c17)
    | (go_at_call 39; refine (HB.out P _ _ (HR.out.on hacc) (HEx.out.on hacc)).mono ?_; rintro e w' ⟨rfl, hb⟩; replace hacc := hacc.trans (hb.mono hacc.size); replace c0 := bel_cell hb c0; replace c2 := bel_cell hb c2; replace c3 := bel_cell hb c3; replace c4 := bel_cell hb c4; replace c5 := bel_cell hb c5; replace c6 := bel_cell hb c6; replace c7 := bel_cell hb c7; replace c8 := bel_cell hb c8; replace c9 := bel_cell hb c9; replace c10 := bel_cell hb c10; replace c11 := bel_cell hb c11; replace c12 := bel_cell hb c12; replace c13 := bel_cell hb c13; replace c14 := bel_cell hb c14; replace c15 := bel_cell hb c15; replace c16 := bel_cell hb c16; replace c17 := bel_cell hb c17)
    | (go_at_call 107; refine (notype_any (.mk tk tp tn tl) P [.int .i64 tk, .int .i64 tp, .string tn, .slice ta tl.length tb] _ (IsVs.on hacc _ _ HT.out)).mono ?_; rintro e w' ⟨rfl, hb⟩; replace hacc := hacc.trans (hb.mono hacc.size); replace c0 := bel_cell hb c0; replace c2 := bel_cell hb c2; replace c3 := bel_cell hb c3; replace c4 := bel_cell hb c4; replace c5 := bel_cell hb c5; replace c6 := bel_cell hb c6; replace c7 := bel_cell hb c7; replace c8 := bel_cell hb c8; replace c9 := bel_cell hb c9; replace c10 := bel_cell hb c10; replace c11 := bel_cell hb c11; replace c12 := bel_cell hb c12; replace c13 := bel_cell hb c13; replace c14 := bel_cell hb c14; replace c15 := bel_cell hb c15; replace c16 := bel_cell hb c16; replace c17 := bel_cell hb c17))
  all_goals (go_ret; refine ⟨ret_bool ?_, hacc⟩)
  all_goals (first | (simp [*]; done) | (simp_all; done) | (simp [*]; omega) | (simp_all; omega))
/-- a declaration -/
def deB (top : Bool) (b : Ex → Bool) : De → Bool
  | .mk k _ n vs cs t ps e => cond (k == 1) (top && dataB n vs cs t ps e) (cond (k == 2) (sigB n vs cs t ps e) (cond (k == 3) (defB n vs cs t ps (b e)) false))
set_option maxHeartbeats 2000000 in
set_option maxRecDepth 100000 in
theorem de_any (c0 c1 : Addr) (top : Bool) (lev : Int) (d : De) (b : Ex → Bool) (hb : RtE lev d.body' (b d.body')) (w0 : World) (hr : RangeOk w0) (h0 : w0.cell? c0 = some (.bool top)) (h1 : w0.cell? c1 = some (.int .i64 lev)) : SaysD c0 c1 d (deB top b d) w0 := by
  intro P E w hbw hd
  have h0 := bel_cell hbw h0
  have h1 := bel_cell hbw h1
  have HR := Lib.hid (hr.on hbw)
  obtain ⟨k, p, n, vs, cs, t, ps, e⟩ := d
  have HB : Hid (RtE lev e (b e)) := Lib.hid hb
  have HD := Lib.hid hd
  have c0 := (hd.cells).1
  clear hd hr hbw hb
  simp only [deB]
  generalize b e = be at HB ⊢
  go_enter Tryz.func74, Tryz.ntmps74
  go_wp2_with (first
    | (go_at_call 75; refine (data_any k p n vs cs t ps e P E _ HR.out HD.out).mono ?_; rintro e w' ⟨rfl, hb⟩)
    | (go_at_call 76; refine (sig_any k p n vs cs t ps e P E _ HR.out HD.out).mono ?_; rintro e w' ⟨rfl, hb⟩)
    | (go_at_call 77; refine (def_any k p n vs cs t ps e lev be HB.out P E _ HR.out HD.out).mono ?_; rintro e w' ⟨rfl, hb⟩))
  all_goals (go_ret; refine ⟨ret_bool ?_, ?_⟩)
  all_goals (first | exact Below.refl _ _ | assumption | skip)
  all_goals (first | (simp [*]; done) | (simp_all; done))
set_option maxHeartbeats 2000000 in
set_option maxRecDepth 100000 in
theorem des_any (l : List De) (top : Bool) (lev : Int) (b : Ex → Bool) (hall : ∀ (j : Nat) (d : De), l[j]? = some d → RtE lev d.body' (b d.body')) (P : Nat → Prop) (v : Value) (w : World) (hr : RangeOk w) (hs : IsDes w P v l) :
    Calls Tryz.prog 41 #[v, .bool top, .int .i64 lev] w fun e' w' => e' = .returned (.bool (decide ((l.length : Int) ≤ 512) && l.all (deB top b))) ∧ Below w.heap.size w w' := by
  obtain ⟨ao, cap, rfl, v1, v2⟩ := hs.form
  have hb2 : Below w.heap.size w ((w.alloc (.cells #[.bool top] 4)).alloc (.cells #[.int .i64 lev] 3)) := bl_alloc _ (bl_alloc _ (Below.refl _ _))
  have k0 : ((w.alloc (.cells #[.bool top] 4)).alloc (.cells #[.int .i64 lev] 3)).cell? ⟨w.heap.size, 0, none⟩ = some (.bool top) := bel_cell (bl_alloc _ (Below.refl _ _)) (by rw [Lib.cell_of_heap (heap_alloc_new _ _)]; rfl)
  have k1 : ((w.alloc (.cells #[.bool top] 4)).alloc (.cells #[.int .i64 lev] 3)).cell? ⟨w.heap.size + 1, 0, none⟩ = some (.int .i64 lev) := by
    have := heap_alloc_new (w.alloc (.cells #[.bool top] 4)) (.cells #[.int .i64 lev] 3)
    rw [show (w.alloc (.cells #[.bool top] 4)).heap.size = w.heap.size + 1 by simp] at this
    rw [Lib.cell_of_heap this]; rfl
  have HS := Lib.hid (hs.on hb2)
  have HR := Lib.hid (hr.on hb2)
  have HA := Lib.hid hall
  have HB := Lib.hid hb2
  clear hs hr hall hb2
  by_cases h5 : (512 : Int) < l.length
  · rw [decide_eq_false (by omega), Bool.false_and]
    clear k0 k1
    go_enter Tryz.func41, Tryz.ntmps41
    go_wp2
    go_ret
    exact ⟨rfl, HB.out⟩
  rw [decide_eq_true (by omega), Bool.true_and]
  go_enter Tryz.func41, Tryz.ntmps41
  go_upto_region 1 with fail
  generalize ((w.alloc (.cells #[.bool top] 4)).alloc (.cells #[.int .i64 lev] 3)) = W at k0 k1 HS HR HB ⊢
  have HQ := Lib.hid (allD ⟨w.heap.size, 0, none⟩ ⟨w.heap.size + 1, 0, none⟩ (deB top b) l W (fun j d hj => de_any _ _ top lev d b (HA.out j d hj) W HR.out k0 k1) P _ HS.out)
  clear k0 k1
  go_wp2_with fail
  refine HQ.out.mono ?_
  rintro e w' ⟨rfl, hb⟩
  go_wp2
  go_ret
  exact ⟨rfl, HB.out.trans (hb.mono HB.out.size)⟩
end Go.Proofs.YtkdhoelabomgkaaGreatDoor
