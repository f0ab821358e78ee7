/-
  Layer 7: what groups holds in memory: the search, the heap, who waits, what is out. No walk.
-/
import Derived.Test.YtmoebpebahhbeaaGrpM
import Derived.Test.YtmoebpebahhbeaaHp4
import Derived.Test.YtmoebpebahhbeaaBetw2
namespace Go.Proofs.Ytmoebpebahhbeaa
set_option linter.unusedVariables false
open Go.ChangeShapes Go.WideShapes Go.ChangeAt Go.RowKit

/-- a group's slice, its key -/
def gvl (L : Loc) (i : Nat) : Value := L.gs.getD i (.slice none 0 0)
def kf (s : St) (i : Nat) : Nat := at0 (ats s.grps i) 0
structure KRep (B : Nat) (w0 : World) (O : Nat → Nat) (p h : Nat) (av : Value) (L : Loc) (s : St) (vw vu : Value) (us : List Value) (bt : Bt) (vl v : Value) (Z D : List Nat) (w : World) : Prop where
  rs : SRep B O p av L s w
  rh : HRep B O h (gvl L) v Z w
  rb : BRep B O vw vu us bt w
  rl : w.ownsRow B 30 1 vl D.length (D.map (gvl L))
  tl : ∀ k, vl.ownBlock = some k → O k = 14
  bl : Below B w0 w
theorem gvl_form {B p : Nat} {O : Nat → Nat} {av : Value} {L : Loc} {s : St} {w : World} (h : SRep B O p av L s w) (i : Nat) : ∃ a m c, gvl L i = .slice a m c := by
  unfold gvl
  by_cases hi : i < s.grps.length
  · obtain ⟨v, hv, ho, _⟩ := h.rows.at hi
    obtain ⟨a, c, e⟩ := owns_form ho
    exact ⟨a, _, c, by rw [List.getD_eq_getElem?_getD, hv]; exact e⟩
  · refine ⟨none, 0, 0, ?_⟩
    rw [List.getD_eq_getElem?_getD, List.getElem?_eq_none (by rw [h.rows.len]; omega)]
    rfl
theorem gvl_row {B p : Nat} {O : Nat → Nat} {av : Value} {L : Loc} {s : St} {w : World} (h : SRep B O p av L s w) {i : Nat} (hi : i < s.grps.length) : w.ownsRow B 3 1 (gvl L i) (ats s.grps i).length (nv (ats s.grps i)) ∧ (∀ b, (gvl L i).ownBlock = some b → O b = 8) ∧ L.gs[i]? = some (gvl L i) := by
  obtain ⟨v, hv, ho, ht⟩ := h.rows.at hi
  have e : gvl L i = v := by unfold gvl; rw [List.getD_eq_getElem?_getD, hv]; rfl
  rw [e]
  exact ⟨ho, ht, hv⟩
theorem keys_of {B p : Nat} {O : Nat → Nat} {av : Value} {L : Loc} {s : St} {w : World} (h : SRep B O p av L s w) (hne : ∀ i, i < s.grps.length → ats s.grps i ≠ []) : Keys w O (gvl L) (kf s) (· < s.grps.length) := fun i hi => by
  obtain ⟨h1, h2, _⟩ := gvl_row h hi
  have hl : 0 < (ats s.grps i).length := List.length_pos_iff.2 (hne i hi)
  obtain ⟨g, c, e, eo⟩ := owns_some h1 hl
  refine ⟨g, _, c, e, hl, ?_, h2 g eo⟩
  rw [e] at h1
  exact num_cell h1 hl
theorem agree_low {P : Nat → Prop} {O O' : Nat → Nat} {B : Nat} {w : World} (low : ∀ b, P (O b) → B ≤ b) (hO : ∀ b, b < w.heap.size → O' b = O b) (hB : B ≤ w.heap.size) : ∀ b, P (O' b) → B ≤ b := fun b hb => by
  by_cases h : b < w.heap.size
  · rw [hO b h] at hb; exact low b hb
  · omega
theorem BRep.tags {B : Nat} {O O' : Nat → Nat} {vw vu : Value} {us : List Value} {b : Bt} {w : World} (h : BRep B O vw vu us b w) (hO : ∀ k, k < w.heap.size → O' k = O k) (hlow : ∀ k, O' k = 12 ∨ O' k = 13 ∨ 100 ≤ O' k → B ≤ k) : BRep B O' vw vu us b w := by
  refine ⟨h.wt, h.ut, h.row, fun k hk => by rw [hO k (h.wt.lt k hk).2]; exact h.tw k hk, fun k hk => by rw [hO k (h.ut.lt k hk).2]; exact h.tu k hk, fun i u h1 k hk => ?_, hlow⟩
  have hi := (List.getElem?_eq_some_iff.1 h1).1
  rw [hO k ((h.row i u _ h1 (List.getElem?_eq_getElem (by rw [← h.ulen]; exact hi))).lt k hk).2]
  exact h.tr i u h1 k hk
section
variable {B p h : Nat} {O O' : Nat → Nat} {av : Value} {L : Loc} {s : St} {vw vu : Value} {us : List Value} {bt : Bt} {vl v v' : Value} {Z Z' D : List Nat} {w0 w w' : World}
theorem KRep.size (k : KRep B w0 O p h av L s vw vu us bt vl v Z D w) : B ≤ w.heap.size := k.rs.size
/-- the heap alone was written -/
theorem KRep.heap (k : KRep B w0 O p h av L s vw vu us bt vl v Z D w) (hh : HRep B O' h (gvl L) v' Z' w') (hf : Fx (Heaps O) w w') (hO : ∀ b, b < w.heap.size → O' b = O b) : KRep B w0 O' p h av L s vw vu us bt vl v' Z' D w' := by
  have hB := k.size
  refine ⟨?_, hh, ?_, ?_, fun q hq => ?_, ?_⟩
  · refine (k.rs.retag (O' := O') (fun b hb _ _ => hO b hb) (fun b h1 h2 => agree_low (P := fun x => 1 ≤ x ∧ x ≤ 7) (fun b hb => k.rs.low b hb.1 hb.2) hO hB b ⟨h1, h2⟩)).fx (S := fun b => b < w.heap.size ∧ Heaps O b) ⟨hf.os, hf.tape, hf.output, hf.size, fun b hb hn => hf.block b hb fun hh => hn ⟨hb, hh⟩⟩ fun b h1 h2 hh => ?_
    rw [hO b hh.1] at h1 h2
    have := hh.2
    unfold Heaps at this
    omega
  · refine (k.rb.tags (O' := O') hO (agree_low (P := fun x => x = 12 ∨ x = 13 ∨ 100 ≤ x) k.rb.low hO hB)).fx (S := fun b => b < w.heap.size ∧ Heaps O b) ⟨hf.os, hf.tape, hf.output, hf.size, fun b hb hn => hf.block b hb fun hh => hn ⟨hb, hh⟩⟩ fun b h1 hh => ?_
    unfold BMine at h1
    rw [hO b hh.1] at h1
    have := hh.2
    unfold Heaps at this
    omega
  · exact fx_row k.rl hf fun q hq hh => by unfold Heaps at hh; rw [k.tl q hq] at hh; omega
  · rw [hO q (k.rl.lt q hq).2]; exact k.tl q hq
  · exact k.bl.trans (hf.below hB fun b hb hh => by have := k.rh.low b hh; omega)
/-- one waits for less -/
theorem KRep.wait (k : KRep B w0 O p h av L s vw vu us bt vl v Z D w) {gw cap g : Nat} (hv : vw = .slice (some ⟨gw, 0, none⟩) bt.waits.length cap) (x : Nat) : KRep B w0 O p h av L s vw vu us ⟨bt.waits.set g x, bt.users⟩ vl v Z D (w.setCell ⟨gw, g, none⟩ (.int .i64 (x : Int))) := by
  have hg : O gw = 12 := k.rb.tw gw (by rw [hv]; rfl)
  have hx : Fx (fun q => O q = 12) w (w.setCell ⟨gw, g, none⟩ (.int .i64 (x : Int))) := Fx.set w gw g _ hg
  exact ⟨k.rs.fx hx fun b h1 h2 h3 => by omega, k.rh.fx hx fun b h1 h2 => by unfold Heaps at h1; omega, (k.rb.wait hv x).1, fx_row k.rl hx fun q hq => by rw [k.tl q hq]; omega, k.tl, k.bl.trans (hx.below k.size fun b hb h3 => by have := k.rb.low b (.inl h3); omega)⟩
/-- one more is out -/
theorem KRep.out (k : KRep B w0 O p h av L s vw vu us bt vl v Z D w) {i : Nat} {W2 : World} {vl' : Value} (o5 : W2.ownsRow B 30 1 vl' (D.length + 1) (D.map (gvl L) ++ [gvl L i])) (x5 : Fx (fun q => vl.ownBlock = some q) w W2) (a5 : ∀ q, vl'.ownBlock = some q → vl.ownBlock = some q ∨ w.heap.size ≤ q) :
    KRep B w0 (retag O w.heap.size 14) p h av L s vw vu us bt vl' v Z (D ++ [i]) W2 := by
  have hB := k.size
  have hO := retag_agree O w.heap.size 14
  have hx : Fx (fun q => q < w.heap.size ∧ O q = 14) w W2 := ⟨x5.os, x5.tape, x5.output, x5.size, fun b hb hn => x5.block b hb fun e => hn ⟨hb, k.tl b e⟩⟩
  refine ⟨?_, ?_, ?_, by rw [List.length_append, List.map_append]; exact o5, retag_own k.tl (fun q hq => (k.rl.lt q hq).2) a5, ?_⟩
  · exact (k.rs.retag (O' := retag O w.heap.size 14) (fun b hb _ _ => hO b hb) (fun b h1 h2 => agree_low (P := fun x => 1 ≤ x ∧ x ≤ 7) (fun b hb => k.rs.low b hb.1 hb.2) hO hB b ⟨h1, h2⟩)).fx hx fun b h1 h2 hh => by rw [hO b hh.1] at h1 h2; omega
  · exact (k.rh.tags hO (agree_low (P := fun x => x = 10 ∨ x = 11) k.rh.low hO hB)).fx hx fun b h1 hh => by unfold Heaps at h1; rw [hO b hh.1] at h1; omega
  · exact (k.rb.tags hO (agree_low (P := fun x => x = 12 ∨ x = 13 ∨ 100 ≤ x) k.rb.low hO hB)).fx hx fun b h1 hh => by unfold BMine at h1; rw [hO b hh.1] at h1; omega
  · exact k.bl.trans (x5.below hB fun b hb hh => by have := (k.rl.lt b hh).1; omega)
theorem KRep.drewN (k : KRep B w0 O p h av L s vw vu us bt vl v Z D w) (q : Nat) : KRep B w0 O p h av L s vw vu us bt vl v Z D (w.drewN q) := by
  have hx : Fx (fun _ => False) w (w.drewN q) := (Fx.refl _ w).drewN q
  exact ⟨k.rs.fx hx fun _ _ _ => id, k.rh.fx hx fun _ _ => id, k.rb.fx hx fun _ _ => id, fx_row k.rl hx fun _ _ => id, k.tl, k.bl.trans (hx.below k.size fun _ _ => id)⟩
end
end Go.Proofs.Ytmoebpebahhbeaa
