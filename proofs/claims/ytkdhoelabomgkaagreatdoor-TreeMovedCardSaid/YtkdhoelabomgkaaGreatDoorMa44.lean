/- Texts of this proof, joined: MovTold, Knows, RowsAt, FewE2. No condition. -/
import Derived.Test.YtkdhoelabomgkaaGreatDoorMa31
import Derived.Test.YtkdhoelabomgkaaGreatDoorMa37
import Derived.Test.YtkdhoelabomgkaaGreatDoorMa27
import Derived.Test.YtkdhoelabomgkaaGreatDoorMa24
import Derived.Test.YtkdhoelabomgkaaGreatDoorMa43
import Derived.Test.YtkdhoelabomgkaaGreatDoorMa34
import Derived.Test.YtkdhoelabomgkaaGreatDoorMa41
import Derived.Test.YtkdhoelabomgkaaGreatDoorMa17
import Derived.Test.YtkdhoelabomgkaaGreatDoorMa02
/-
  Layer 3, the law's side: what the program tells of three expressions, of which the third is the first one moved. No walk.
-/
namespace Go.Proofs.YtkdhoelabomgkaaGreatDoor
set_option linter.unusedVariables false
open Go.ChangeShapes Go.WideShapes Go.ChangeAt Go.RowKit

def SameIs (V : World) (x y : List Value) (s : Bool) : Prop := Calls Tryz.prog 25 #[.agg x.toArray, .agg y.toArray] V fun e w' => e = .returned (.bool s) ∧ Below V.heap.size V w'
def SizeIs (V : World) (x : List Value) (n : Int) : Prop := Calls Tryz.prog 30 #[.agg x.toArray] V fun e w' => e = .returned (.int .i64 n) ∧ Below V.heap.size V w'
def DeepIs (V : World) (x : List Value) (n : Int) : Prop := Calls Tryz.prog 31 #[.agg x.toArray] V fun e w' => e = .returned (.int .i64 n) ∧ Below V.heap.size V w'
def RightIs (V : World) (x : List Value) (s : Bool) : Prop := Calls Tryz.prog 15 #[.agg x.toArray] V fun e w' => e = .returned (.bool s) ∧ Below V.heap.size V w'

/-- what is told of a, b and c, in every world behind this one -/
structure Told (W : World) (a b c : List Value) (s r : Bool) (n d : Int) : Prop where
  ac : ∀ V, Below W.heap.size W V → SameIs V a c true
  ca : ∀ V, Below W.heap.size W V → SameIs V c a true
  ab : ∀ V, Below W.heap.size W V → SameIs V a b s
  cb : ∀ V, Below W.heap.size W V → SameIs V c b s
  ba : ∀ V, Below W.heap.size W V → SameIs V b a s
  na : ∀ V, Below W.heap.size W V → SizeIs V a n
  nc : ∀ V, Below W.heap.size W V → SizeIs V c n
  nb : s = true → ∀ V, Below W.heap.size W V → SizeIs V b n
  da : ∀ V, Below W.heap.size W V → DeepIs V a d
  dc : ∀ V, Below W.heap.size W V → DeepIs V c d
  ra : ∀ V, Below W.heap.size W V → RightIs V a r
  rc : ∀ V, Below W.heap.size W V → RightIs V c r
  rb : s = true → ∀ V, Below W.heap.size W V → RightIs V b r
  dn : d ≤ n
  d1 : 1 ≤ d

theorem here {W V : World} {r : List Dt} {vs : List Value} (h : IsVs W (fun b => b < W.heap.size) r vs) (hv : Below W.heap.size W V) : IsVs V (fun b => Any b ∧ b < V.heap.size) r vs :=
  IsVs.mono (fun b hb => ⟨trivial, Nat.lt_of_lt_of_le hb hv.size⟩) _ _ (IsVs.on hv _ _ h)

theorem dm_st' {t u : Ex} (h : t.st = u.st) (lev d : Int) : t.dm lev d = u.dm lev d := by rw [← Ex.dm_st t, ← Ex.dm_st u, h]

/-- of trees of at most 600 parts together -/
theorem told (x y : Ex) (by' : Int) (hn : x.nd + y.nd ≤ 600) (hx1 : 1 ≤ x.nd) (hy1 : 1 ≤ y.nd) (a b c : List Value) (W : World) (hr : RangeOk W)
    (ha : IsVs W (fun b => b < W.heap.size) x.row a) (hb : IsVs W (fun b => b < W.heap.size) y.row b) (hc : IsVs W (fun b => b < W.heap.size) (x.mv by').row c) :
    Told W a b c (x.same y) (x.rt 400) (x.sz : Int) (x.dm 1 0) := by
  have hst := Ex.mv_st x by'
  have hnd := Ex.mv_nd x by'
  have hxc : x.same (x.mv by') = true := Ex.same_of hst.symm
  have hcx : (x.mv by').same x = true := Ex.same_of hst
  have hcy : (x.mv by').same y = x.same y := Ex.same_left hst
  have hd := Ex.dm_sz x 1 0 (by decide) (by decide)
  have hp := Ex.dm_pos x 1 0 (by decide) (by decide)
  have hle : x.nd ≤ 400 ∨ y.nd ≤ 400 := by omega
  refine ⟨fun V hV => ?_, fun V hV => ?_, fun V hV => ?_, fun V hV => ?_, fun V hV => ?_, fun V hV => ?_, fun V hV => ?_, fun hs V hV => ?_, fun V hV => ?_, fun V hV => ?_, fun V hV => ?_, fun V hV => ?_, fun hs V hV => ?_, ?_, hd.2.1⟩
  · exact sameE_eq x (x.mv by') hxc (by omega) Any Any a c V (here ha hV) (here hc hV)
  · exact sameE_eq (x.mv by') x hcx (by omega) Any Any c a V (here hc hV) (here ha hV)
  · exact sameE_any x y hle _ _ a b V (here ha hV) (here hb hV)
  · have := sameE_any (x.mv by') y (by omega) _ _ c b V (here hc hV) (here hb hV)
    rw [hcy] at this
    exact this
  · have := sameE_any y x (by omega) _ _ b a V (here hb hV) (here ha hV)
    rw [Ex.same_comm y x] at this
    exact this
  · exact size_big x (by omega) Any a V (here ha hV)
  · have := size_big (x.mv by') (by omega) Any c V (here hc hV)
    rw [Ex.sz_same hcx] at this
    exact this
  · have := size_big y (by omega) Any b V (here hb hV)
    rw [← Ex.sz_same hs] at this
    exact this
  · exact deep_big x (by omega) Any a V (here ha hV)
  · have := deep_big (x.mv by') (by omega) Any c V (here hc hV)
    rw [dm_st' hst] at this
    exact this
  · exact rightE_any x _ a V (hr.on hV) (here ha hV)
  · have := rightE_any (x.mv by') _ c V (hr.on hV) (here hc hV)
    rw [Ex.rt_same hcx] at this
    exact this
  · have := rightE_any y _ b V (hr.on hV) (here hb hV)
    rw [← Ex.rt_same hs] at this
    exact this
  · have := hd.1
    omega
end Go.Proofs.YtkdhoelabomgkaaGreatDoor
/-
  Layer 3, the law's side: knows: the constants.
-/
namespace Go.Proofs.YtkdhoelabomgkaaGreatDoor
set_option linter.unusedVariables false
open Go.ChangeShapes Go.WideShapes Go.ChangeAt Go.RowKit

theorem Below.heap_eq {w w' : World} (h : Below w.heap.size w w') {b : Nat} {o : Obj} (g : w.heap[b]? = some o) : w'.heap[b]? = some o := (h.block b (heap_lt g)).trans g

set_option maxHeartbeats 1600000 in
set_option maxRecDepth 100000 in
theorem knows_any (w : World) : Calls Tryz.prog 8 #[] w fun e w' => e = .returned (.bool true) ∧ Below w.heap.size w w' := by
  go_enter Tryz.func8, Tryz.ntmps8
  go_upto_region 4 with fail
  have hF := five_boxes w (.cells (nameVs ⟨#[102]⟩).toArray 53) (.cells (nameVs ⟨#[102]⟩ ++ numVs 7 3).toArray 53) (.cells (callVs 0 (w.heap.size + 1)).toArray 53) (.cells (nameVs ⟨#[102]⟩ ++ numVs 7 0).toArray 53) (.cells (callVs 9 (w.heap.size + 1 + 1 + 1)).toArray 53)
  change _ at hF ⊢
  simp only [nameVs, numVs, callVs, List.cons_append, List.nil_append] at hF
  generalize ((((w.alloc _).alloc _).alloc _).alloc _).alloc _ = W at hF ⊢
  obtain ⟨hb, gF, gA, gE, gB, gG, hsz⟩ := hF
  have vE := Lib.hid (call_vs (P := fun b => True ∧ b < W.heap.size) W 0 3 7 ⟨#[102]⟩ (by decide) (w.heap.size + 1) ⟨trivial, by omega⟩ _ gA)
  have GF := Lib.hid gF
  have GE := Lib.hid gE
  have GG := Lib.hid gG
  have GB := Lib.hid gB
  have GA := Lib.hid gA
  have HB := Lib.hid (And.intro hb hsz)
  obtain ⟨e0, e1, e2, e3, e4, e5, e6, e7⟩ := cells_of_block gE
  clear gF gA gE gB gG hb hsz
  go_wp2_with fail
  refine (size_any (callC 0 3 ⟨#[102]⟩ 7) (by decide) _ _ W vE.out).mono ?_
  rintro e' w1 ⟨rfl, h1⟩
  rw [show ((callC 0 3 ⟨#[102]⟩ 7).sz : Int) = 3 by decide]
  have e0 := bel_cell h1 e0
  have e1 := bel_cell h1 e1
  have e2 := bel_cell h1 e2
  have e3 := bel_cell h1 e3
  have e4 := bel_cell h1 e4
  have e5 := bel_cell h1 e5
  have e6 := bel_cell h1 e6
  have e7 := bel_cell h1 e7
  have hv1 := Lib.hid (call_vs (P := fun b => True ∧ b < w1.heap.size) w1 0 3 7 ⟨#[102]⟩ (by decide) (w.heap.size + 1) ⟨trivial, by have := h1.size; have := HB.out.2; omega⟩ _ ((Below.heap_eq h1 GA.out)))
  go_wp2_with fail
  refine (deep_any (callC 0 3 ⟨#[102]⟩ 7) (by decide) _ _ w1 hv1.out).mono ?_
  rintro e' w2 ⟨rfl, h2⟩
  rw [show (callC 0 3 ⟨#[102]⟩ 7).dm 1 0 = 2 by decide]
  have e0 := bel_cell h2 e0
  have e1 := bel_cell h2 e1
  have e2 := bel_cell h2 e2
  have e3 := bel_cell h2 e3
  have e4 := bel_cell h2 e4
  have e5 := bel_cell h2 e5
  have e6 := bel_cell h2 e6
  have e7 := bel_cell h2 e7
  have hv2 := Lib.hid (IsVs.on h2 _ _ hv1.out)
  go_wp2_with fail
  refine (rightE_of (callC 0 3 ⟨#[102]⟩ 7) true (right_call 0 3 7 (by decide) _ name_f) _ _ w2 hv2.out).mono ?_
  rintro e' w3 ⟨rfl, h3⟩
  have e0 := bel_cell h3 e0
  have e1 := bel_cell h3 e1
  have e2 := bel_cell h3 e2
  have e3 := bel_cell h3 e3
  have e4 := bel_cell h3 e4
  have e5 := bel_cell h3 e5
  have e6 := bel_cell h3 e6
  have e7 := bel_cell h3 e7
  have hv3 := Lib.hid (IsVs.on h3 _ _ hv2.out)
  have GG3 := Lib.hid (Below.heap_eq h3 (Below.heap_eq h2 (Below.heap_eq h1 GG.out)))
  have GB3 := Lib.hid (Below.heap_eq h3 (Below.heap_eq h2 (Below.heap_eq h1 GB.out)))
  have GF3 := Lib.hid (Below.heap_eq h3 (Below.heap_eq h2 (Below.heap_eq h1 GF.out)))
  obtain ⟨g0, g1, g2, g3, g4, g5, g6, g7⟩ := cells_of_block GG3.out
  have vG := Lib.hid (call_vs (P := fun _ => True) w3 9 0 7 ⟨#[102]⟩ (by decide) (w.heap.size + 1 + 1 + 1) trivial _ GB3.out)
  go_wp2_with fail
  refine (sameE_any (callC 0 3 ⟨#[102]⟩ 7) (callC 9 0 ⟨#[102]⟩ 7) (.inl (by decide)) _ _ _ _ w3 hv3.out vG.out).mono ?_
  rintro e' w4 ⟨rfl, h4⟩
  rw [show (callC 0 3 ⟨#[102]⟩ 7).same (callC 9 0 ⟨#[102]⟩ 7) = true by first | kernel_rfl | simp [callC, nameC, numC, Ex.same, Ex.sames, Pa.sames, Al.sames, De.sames]]
  clear g0 g1 g2 g3 g4 g5 g6 g7
  have e0 := bel_cell h4 e0
  have e1 := bel_cell h4 e1
  have e2 := bel_cell h4 e2
  have e3 := bel_cell h4 e3
  have e4 := bel_cell h4 e4
  have e5 := bel_cell h4 e5
  have e6 := bel_cell h4 e6
  have e7 := bel_cell h4 e7
  have hv4 := Lib.hid (IsVs.on h4 _ _ hv3.out)
  have GF4 := Lib.hid (Below.heap_eq h4 GF3.out)
  obtain ⟨g0, g1, g2, g3, g4, g5, g6, g7⟩ := cells_of_block GF4.out
  have vF := Lib.hid (name_vs (P := fun _ => True) w4 ⟨#[102]⟩ (by decide))
  go_wp2_with fail
  refine (sameE_any (callC 0 3 ⟨#[102]⟩ 7) (nameC ⟨#[102]⟩) (.inl (by decide)) _ _ _ _ w4 hv4.out vF.out).mono ?_
  rintro e' w5 ⟨rfl, h5⟩
  rw [show (callC 0 3 ⟨#[102]⟩ 7).same (nameC ⟨#[102]⟩) = false by first | kernel_rfl | simp [callC, nameC, numC, Ex.same]]
  go_wp2
  go_ret
  have k1 := HB.out.1.trans (h1.mono HB.out.1.size)
  have k2 := k1.trans (h2.mono k1.size)
  have k3 := k2.trans (h3.mono k2.size)
  have k4 := k3.trans (h4.mono k3.size)
  have k5 := k4.trans (h5.mono k4.size)
  exact ⟨rfl, k5⟩
end Go.Proofs.YtkdhoelabomgkaaGreatDoor
/-
  Layer 3: rows that lie one behind the other in one block.
-/
namespace Go.Proofs.YtkdhoelabomgkaaGreatDoor
set_option linter.unusedVariables false
open Go.ChangeShapes Go.WideShapes Go.ChangeAt Go.RowKit

/-- values of rows, one list each, of this length -/
inductive AllVs (w : World) (P : Nat → Prop) (n : Nat) : List (List Dt) → List (List Value) → Prop
  | nil : AllVs w P n [] []
  | cons {r : List Dt} {vs : List Value} {rs : List (List Dt)} {vss : List (List Value)} : IsVs w P r vs → vs.length = n → AllVs w P n rs vss → AllVs w P n (r :: rs) (vs :: vss)
theorem rows_flat {P : Nat → Prop} {W : World} {N n : Nat} {T : TypeId} : ∀ (rs : List (List Dt)) (vss : List (List Value)) (pre : List Value), AllVs W P n rs vss → W.heap[N]? = some (.cells (pre ++ vss.flatten).toArray T (0, 0)) → IsRows W P n rs ⟨N, pre.length, none⟩
  | [], _, pre, h, g => by unfold IsRows; trivial
  | r :: rs, vs :: vss, pre, h, g => by
    cases h with
    | cons h1 h2 h3 =>
      unfold IsRows
      refine ⟨IsRow.of_vals _ _ vs h1 fun j v hj => ?_, ?_⟩
      · have hlt := (List.getElem?_eq_some_iff.1 hj).1
        have ha : ((⟨N, pre.length, none⟩ : Addr).add j) = ⟨N, pre.length + j, none⟩ := by
          unfold Addr.add; split <;> simp_all
        rw [ha, Lib.cell_of_heap g, List.getElem?_toArray, List.getElem?_append_right (by omega), Nat.add_sub_cancel_left, List.flatten_cons, List.getElem?_append_left hlt]
        exact hj
      · have ha : ((⟨N, pre.length, none⟩ : Addr).add n) = ⟨N, (pre ++ vs).length, none⟩ := by
          rw [List.length_append, h2]; unfold Addr.add; split <;> simp_all
        rw [ha]
        exact rows_flat (T := T) rs vss (pre ++ vs) h3 (by rw [g]; simp)
theorem exs_at {P : Nat → Prop} {W : World} {N : Nat} {T : TypeId} (l : List Ex) (vss : List (List Value)) (h : AllVs W P 8 (l.map Ex.row) vss) (g : W.heap[N]? = some (.cells vss.flatten.toArray T (0, 0))) (hP : P N) (hl : l.length ≤ maxLen) : IsExs W P (.slice (some ⟨N, 0, none⟩) l.length l.length) l := by
  refine ⟨?_⟩
  unfold IsC
  refine .inr ⟨⟨N, 0, none⟩, l.length, by simp, by simp, hl, fun _ => hP, ?_⟩
  exact rows_flat _ vss [] h (by simpa using g)
end Go.Proofs.YtkdhoelabomgkaaGreatDoor
/-
  Layer 3, the law's side: FewExprs counts the parts (given the smaller ones).
-/
namespace Go.Proofs.YtkdhoelabomgkaaGreatDoor
set_option linter.unusedVariables false
open Go.ChangeShapes Go.WideShapes Go.ChangeAt Go.RowKit

theorem le_both {c : Nat} {r x : Int} (h : 0 ≤ r → (c : Int) + r ≤ x) (hx : x ≤ 9223372036854775807) : r ≤ 9223372036854775807 ∧ (0 ≤ r → (c : Int) + r ≤ x) :=
  ⟨by rcases Int.lt_or_le r 0 with h1 | h1 <;> (try have := h h1) <;> omega, h⟩
/-- counts of small weight, with what they say -/
structure FewY (z : Nat) : Prop where
  ex : ∀ (l : List Ex), Ex.wts l ≤ z → ∀ (v : Value) (x : Int) (w : World), IsExs w Any v l → Calls Tryz.prog 32 #[v, .int .i64 x] w (NumB (Ex.fits l) (Ex.nds l) x w)
  al : ∀ (l : List Al), Al.wts l ≤ z → ∀ (v : Value) (x : Int) (w : World), IsAls w Any v l → Calls Tryz.prog 53 #[v, .int .i64 x] w (NumB (Al.fits l) (Al.nds l) x w)
  de : ∀ (l : List De), De.wts l ≤ z → ∀ (v : Value) (x : Int) (w : World), IsDes w Any v l → Calls Tryz.prog 54 #[v, .int .i64 x] w (NumB (De.fits l) (De.nds l) x w)

theorem fewT_numB (l : List Ty) (v : Value) (x : Int) (w : World) (hv : IsTys w Any v l) : Calls Tryz.prog 7 #[v, .int .i64 x] w (NumB True (Ty.nds l) x w) := by
  obtain ⟨ao, cap, rfl, _, _⟩ := hv.form
  refine (fewT_any _ l (Nat.le_refl _) _ x w hv).mono ?_
  rintro e w' ⟨rfl, n, rfl⟩
  exact ⟨⟨_, rfl, fun _ hx => le_both (Ty.fews_le l x (Ty.nms_is _ l ao cap (Nat.le_refl _) hv) hx) hx⟩, drew_below w n⟩
theorem fewP_numB (l : List Pa) (v : Value) (x : Int) (w : World) (hv : IsPas w Any v l) : Calls Tryz.prog 52 #[v, .int .i64 x] w (NumB True (Pa.nds l) x w) := by
  obtain ⟨ao, cap, rfl, _, _⟩ := hv.form
  refine (fewP_any _ l (Nat.le_refl _) _ x w hv).mono ?_
  rintro e w' ⟨rfl, n, rfl⟩
  exact ⟨⟨_, rfl, fun _ hx => le_both (Pa.fews_le l x (Pa.nms_is _ l ao cap (Nat.le_refl _) hv) hx) hx⟩, drew_below w n⟩

set_option maxHeartbeats 8000000 in
set_option maxRecDepth 100000 in
theorem fewE_stepB (z : Nat) (l : List Ex) (hz : l ≠ [] → FewY z) (hl : Ex.wts l ≤ z + 1) (v : Value) (x : Int) (w : World) (hv : IsExs w Any v l) : Calls Tryz.prog 32 #[v, .int .i64 x] w (NumB (Ex.fits l) (Ex.nds l) x w) := by
  obtain ⟨ao, cap, rfl, v1, v2⟩ := hv.form
  have hlm : (l.length : Int) ≤ 9223372036854775807 := by unfold maxLen at v2; omega
  have HZ := Lib.hid hz
  clear hz
  go_enter Tryz.func32, Tryz.ntmps32
  go_wp2
  go_loopw [1, 5, 6] (fun lv iv _ wr => ∃ (k : Nat) (y : Int), k ≤ l.length ∧ iv = .int .i64 k ∧ lv = .int .i64 y ∧ Hid (Ex.fits l → x ≤ 9223372036854775807 → y ≤ 9223372036854775807 ∧ (0 ≤ y → (Ex.nds (l.take k) : Int) + y ≤ x)) ∧ Below w.heap.size w wr) (fun _ iv _ _ => l.length - (intOf iv).toNat)
  case atStart => exact ⟨0, x, Nat.zero_le _, rfl, rfl, Lib.hid (fun _ hx => ⟨hx, fun _ => by simp [Ex.nds]⟩), Below.refl _ _⟩
  case round =>
    obtain ⟨k, y, hk, rfl, rfl, HR, hbw⟩ := hrel
    by_cases hlt : k < l.length
    · have k1 : (k : Int) < l.length := by omega
      by_cases hy : y < 0
      · have q : ¬ (0 : Int) ≤ y := by omega
        clear hy
        go_wp2
        go_ret
        exact ⟨⟨_, rfl, fun hf hx => ⟨(HR.out hf hx).1, fun h => by omega⟩⟩, hbw⟩
      · have q : (0 : Int) ≤ y := by omega
        obtain ⟨t, ht⟩ : ∃ t, l[k]? = some t := ⟨l[k], List.getElem?_eq_getElem hlt⟩
        have hsz := Ex.wts_get l k t ht
        obtain ⟨a, rfl, _, hrow⟩ := hv.at ht
        have hrow := hrow.on hbw
        obtain ⟨tk, tp, tn, tm, tl, tps, tal, tds⟩ := t
        unfold Ex.wt at hsz
        obtain ⟨c0, c1, c2, c2', c3, ⟨a4, b4, c4, _, _, h4⟩, ⟨a5, b5, c5, _, _, h5⟩, ⟨a6, b6, c6, _, _, h6⟩, ⟨a7, b7, c7, _, _, h7⟩⟩ := hrow.cells
        have hO : ∀ W : World, ∃ o : Obj, o = .cells #[.int .i64 tk, .int .i64 tp, .string tn, .int .i64 tm, .slice a4 tl.length b4, .slice a5 tps.length b5, .slice a6 tal.length b6, .slice a7 tds.length b7] 32 := fun W => ⟨_, rfl⟩
        obtain ⟨o, ho⟩ := hO wr
        have hN := heap_alloc_new wr o
        have hb1 := (Below.refl wr.heap.size wr).alloc (Nat.le_refl _) o
        have hbb := hbw.trans (hb1.mono hbw.size)
        have g4 := h4.on hb1
        have g5 := h5.on hb1
        have g6 := h6.on hb1
        have g7 := h7.on hb1
        subst ho
        obtain ⟨hnb0, hnb⟩ := quo_100 tn.size c2'
        clear hv hrow h4 h5 h6 h7 hO
        go_wp2_with fail
        refine ((HZ.out (ne_nil hlt)).ex tl (by omega) _ (wrap64 (wrap64 (y - 1) - (tn.size : Int) / 100)) _ g4).mono ?_
        rintro e w1 ⟨⟨r1, rfl, R1⟩, hc1⟩
        replace R1 := Lib.hid R1
        have n1 := (hc1.block _ (heap_lt hN)).trans hN
        have e15 : w1.cell? ⟨wr.heap.size, 5, none⟩ = some (.slice a5 tps.length b5) := by rw [Lib.cell_of_heap n1]; rfl
        have e16 : w1.cell? ⟨wr.heap.size, 6, none⟩ = some (.slice a6 tal.length b6) := by rw [Lib.cell_of_heap n1]; rfl
        have e17 : w1.cell? ⟨wr.heap.size, 7, none⟩ = some (.slice a7 tds.length b7) := by rw [Lib.cell_of_heap n1]; rfl
        go_wp2_with fail
        refine (fewP_numB tps _ _ _ (g5.on hc1)).mono ?_
        rintro e w2 ⟨⟨r2, rfl, R2⟩, hc2⟩
        replace R2 := Lib.hid R2
        have n2 := (hc2.block _ (heap_lt n1)).trans n1
        have e26 : w2.cell? ⟨wr.heap.size, 6, none⟩ = some (.slice a6 tal.length b6) := by rw [Lib.cell_of_heap n2]; rfl
        have e27 : w2.cell? ⟨wr.heap.size, 7, none⟩ = some (.slice a7 tds.length b7) := by rw [Lib.cell_of_heap n2]; rfl
        have hc12 := hc1.trans (hc2.mono hc1.size)
        go_wp2_with fail
        refine ((HZ.out (ne_nil hlt)).al tal (by omega) _ _ _ (g6.on hc12)).mono ?_
        rintro e w3 ⟨⟨r3, rfl, R3⟩, hc3⟩
        replace R3 := Lib.hid R3
        have n3 := (hc3.block _ (heap_lt n2)).trans n2
        have e37 : w3.cell? ⟨wr.heap.size, 7, none⟩ = some (.slice a7 tds.length b7) := by rw [Lib.cell_of_heap n3]; rfl
        have hc13 := hc12.trans (hc3.mono hc12.size)
        go_wp2_with fail
        refine ((HZ.out (ne_nil hlt)).de tds (by omega) _ _ _ (g7.on hc13)).mono ?_
        rintro e w4 ⟨⟨r4, rfl, R4⟩, hc4⟩
        replace R4 := Lib.hid R4
        have hc14 := hc13.trans (hc4.mono hc13.size)
        go_wp2
        go_roundw
        case rel =>
          refine ⟨k + 1, _, by omega, by go_num, rfl, Lib.hid (fun hf hx => ?_), hbb.trans (hc14.mono hbb.size)⟩
          have h0 := HR.out hf hx
          have hft := Ex.fits_get l k _ hf ht
          unfold Ex.fit at hft
          have hx1 := take_100 y tn.size q h0.1 c2'
          have hq := quo_100 tn.size c2'
          have e1 := R1.out hft.1 (by rw [hx1]; omega)
          rw [hx1] at e1
          have e2 := R2.out trivial e1.1
          have e3 := R3.out hft.2.1 e2.1
          have e4 := R4.out hft.2.2 e3.1
          refine ⟨e4.1, fun h => ?_⟩
          rw [Ex.nds_take l k _ ht]
          unfold Ex.nd
          have f4 := e4.2 h
          have f3 := e3.2 (by omega)
          have f2 := e2.2 (by omega)
          have f1 := e1.2 (by omega)
          have f0 := h0.2 q
          omega
        case measure => simp [intOf]; omega
    · have k1 : ¬ (k : Int) < l.length := by omega
      go_wp2
      go_ret
      exact ⟨⟨_, rfl, fun hf hx => by have h9 := HR.out hf hx; rw [List.take_of_length_le (by omega)] at h9; exact h9⟩, hbw⟩
end Go.Proofs.YtkdhoelabomgkaaGreatDoor
