/-
  Layer 7: where groups' loops stand. No walk.
-/
import Derived.Test.YtmoebpebahhbeaaGrp0
namespace Go.Proofs.Ytmoebpebahhbeaa
set_option linter.unusedVariables false
open Go.ChangeShapes Go.WideShapes Go.ChangeAt Go.RowKit

/-- so many groups were asked whether they wait -/
def K2 (B : Nat) (w0 : World) (p h : Nat) (av : Value) (L : Loc) (s : St) (vw vu : Value) (us : List Value) (bt : Bt) (k : Nat) (wr : World) : Prop :=
  ∃ O v Z, KRep B w0 O p h av L s vw vu us bt (.slice none 0 0) v Z [] wr ∧ HeapOk (kf s) Z Z.length ∧ Z.Nodup ∧ ∀ g, g ∈ Z ↔ g < k ∧ at0 bt.waits g = 0
/-- D are out; E are still to be told -/
def K4 (B : Nat) (w0 : World) (p h : Nat) (av : Value) (L : Loc) (s : St) (vw vu : Value) (us : List Value) (users : List (List Nat)) (vl : Value) (D E : List Nat) (wr : World) : Prop :=
  ∃ O W v Z, KRep B w0 O p h av L s vw vu us ⟨W, users⟩ vl v Z D wr ∧ HeapOk (kf s) Z Z.length ∧ Kn users s.grps.length W Z D E ∧ W.length = s.grps.length
theorem combine {B p : Nat} {O2 O3 : Nat → Nat} {av : Value} {L : Loc} {s : St} {vw vu : Value} {us : List Value} {bt : Bt} {w0 w w3 : World} (h : SRep B O2 p av L s w) (hb : BRep w.heap.size O3 vw vu us bt w3) (hbel : Below w.heap.size w w3) (h0 : Below B w0 w) :
    K2 B w0 p (w3.heap.size + 1) av L s vw vu us bt 0 ((w3.alloc (.cells #[] 30)).alloc (.cells #[.slice (some ⟨w3.heap.size, 0, none⟩) 0 0] 66)) := by
  have hB := h.size
  have hx0 : Fx (fun _ => False) w w3 := Fx.of_below hbel
  have hx1 : Fx (fun _ => False) w3 ((w3.alloc (.cells #[] 30)).alloc (.cells #[.slice (some ⟨w3.heap.size, 0, none⟩) 0 0] 66)) := (Fx.alloc w3 _).trans (Fx.alloc _ _) fun _ _ h => h
  have hsz := hbel.size
  refine ⟨fun b => if b < w.heap.size then (if O2 b ≤ 9 then O2 b else 0) else if b < w3.heap.size then (if 12 ≤ O3 b then O3 b else 0) else if b = w3.heap.size then 11 else if b = w3.heap.size + 1 then 10 else 0, .slice (some ⟨w3.heap.size, 0, none⟩) 0 0, [], ⟨?_, ⟨?_, ?_, ?_, ?_, ?_⟩, ?_, World.ownsRow_nil _ _ _ _, fun k hk => by simp [Value.ownBlock] at hk, ?_⟩, fun x hx hn => by simp at hn, List.nodup_nil, fun g => by simp⟩
  · refine ((h.retag (fun b hb h1 h2 => ?_) (fun b h1 h2 => ?_)).fx hx0 fun _ _ _ => id).fx hx1 fun _ _ _ => id
    · rw [if_pos hb, if_pos (by omega)]
    · by_cases hbw : b < w.heap.size
      · rw [if_pos hbw] at h1 h2
        by_cases h9 : O2 b ≤ 9
        · rw [if_pos h9] at h1 h2; exact h.low b h1 h2
        · rw [if_neg h9] at h1; omega
      · omega
  · have := heap_alloc_new (w3.alloc (.cells #[] 30)) (.cells #[.slice (some ⟨w3.heap.size, 0, none⟩) 0 0] 66)
    rwa [show (w3.alloc (.cells #[] 30)).heap.size = w3.heap.size + 1 by simp] at this
  · refine ⟨by simp, .inr ⟨w3.heap.size, 0, #[], rfl, by omega, (Below.heap_alloc _ _ _ (by simp)).trans (heap_alloc_new w3 _), Nat.le_refl _, by unfold maxLen; omega, by simp, by simp⟩⟩
  · show (if w3.heap.size + 1 < w.heap.size then _ else if w3.heap.size + 1 < w3.heap.size then _ else if w3.heap.size + 1 = w3.heap.size then _ else if w3.heap.size + 1 = w3.heap.size + 1 then 10 else 0) = 10
    rw [if_neg (by omega), if_neg (by omega), if_neg (by omega), if_pos rfl]
  · intro b hb
    have e : w3.heap.size = b := by simpa [Value.ownBlock] using hb
    subst e
    show (if w3.heap.size < w.heap.size then _ else if w3.heap.size < w3.heap.size then _ else if w3.heap.size = w3.heap.size then 11 else _) = 11
    rw [if_neg (by omega), if_neg (by omega), if_pos rfl]
  · intro b hb
    by_cases hbw : b < w.heap.size
    · rw [if_pos hbw] at hb
      by_cases h9 : O2 b ≤ 9
      · rw [if_pos h9] at hb; omega
      · rw [if_neg h9] at hb; omega
    · omega
  · have hb1 : BRep B (fun b => if b < w.heap.size then (if O2 b ≤ 9 then O2 b else 0) else if b < w3.heap.size then (if 12 ≤ O3 b then O3 b else 0) else if b = w3.heap.size then 11 else if b = w3.heap.size + 1 then 10 else 0) vw vu us bt w3 := by
      have tg : ∀ {v : Value} {e sz n : Nat} {xs : List Value} {t : Nat}, w3.ownsRow w.heap.size e sz v n xs → 12 ≤ t → (∀ k, v.ownBlock = some k → O3 k = t) → ∀ k, v.ownBlock = some k → (if k < w.heap.size then (if O2 k ≤ 9 then O2 k else 0) else if k < w3.heap.size then (if 12 ≤ O3 k then O3 k else 0) else if k = w3.heap.size then 11 else if k = w3.heap.size + 1 then 10 else 0) = t := fun hr ht hk k hb => by
        have h1 := hr.lt k hb
        rw [if_neg (by omega), if_pos h1.2, hk k hb, if_pos ht]
      refine ⟨owns_base hb.wt hB, owns_base hb.ut hB, fun i u l h1 h2 => owns_base (hb.row i u l h1 h2) hB, tg hb.wt (by omega) hb.tw, tg hb.ut (by omega) hb.tu, fun i u h1 => ?_, fun k hk => ?_⟩
      · have hi := (List.getElem?_eq_some_iff.1 h1).1
        exact tg (hb.row i u _ h1 (List.getElem?_eq_getElem (by rw [← hb.ulen]; exact hi))) (by omega) (hb.tr i u h1)
      · by_cases hbw : k < w.heap.size
        · rw [if_pos hbw] at hk
          by_cases h9 : O2 k ≤ 9
          · rw [if_pos h9] at hk; omega
          · rw [if_neg h9] at hk; omega
        · omega
    exact hb1.fx hx1 fun _ _ => id
  · exact h0.trans ((hbel.mono hB).trans (hx1.below (by omega) fun _ _ => id))
/-- the row of what is out was made -/
theorem KRep.newl {B p h : Nat} {O : Nat → Nat} {av : Value} {L : Loc} {s : St} {vw vu : Value} {us : List Value} {bt : Bt} {v vl' : Value} {Z : List Nat} {w0 w W2 : World} (k : KRep B w0 O p h av L s vw vu us bt (.slice none 0 0) v Z [] w) (o5 : W2.ownsRow w.heap.size 30 1 vl' 0 []) (x5 : w.grownBy W2 none) :
    ∃ O', KRep B w0 O' p h av L s vw vu us bt vl' v Z [] W2 := by
  have hB := k.size
  have hO := retag_agree O w.heap.size 14
  have hx : Fx (fun _ => False) w W2 := Fx.grown x5 fun k hk => by simp at hk
  refine ⟨retag O w.heap.size 14, ?_, ?_, ?_, owns_base o5 hB, fun q hq => retag_new (o5.lt q hq).1, k.bl.trans (hx.below hB fun _ _ => id)⟩
  · exact (k.rs.retag (O' := retag O w.heap.size 14) (fun b hb _ _ => hO b hb) (fun b h1 h2 => agree_low (P := fun x => 1 ≤ x ∧ x ≤ 7) (fun b hb => k.rs.low b hb.1 hb.2) hO hB b ⟨h1, h2⟩)).fx hx fun b h1 h2 => id
  · exact (k.rh.tags hO (agree_low (P := fun x => x = 10 ∨ x = 11) k.rh.low hO hB)).fx hx fun b h1 => id
  · exact (k.rb.tags hO (agree_low (P := fun x => x = 12 ∨ x = 13 ∨ 100 ≤ x) k.rb.low hO hB)).fx hx fun b h1 => id
theorem K2.kn {B : Nat} {w0 : World} {p h : Nat} {av : Value} {L : Loc} {s : St} {vw vu : Value} {us : List Value} {bt : Bt} {wr : World} (hk : K2 B w0 p h av L s vw vu us bt s.grps.length wr) (hbal : Bal bt) (hu : bt.users.length = s.grps.length) : ∃ O v Z, KRep B w0 O p h av L s vw vu us bt (.slice none 0 0) v Z [] wr ∧ HeapOk (kf s) Z Z.length ∧ Kn bt.users s.grps.length bt.waits Z [] [] := by
  obtain ⟨O, v, Z, h1, h2, h3, h4⟩ := hk
  exact ⟨O, v, Z, h1, h2, ⟨fun g => by rw [hbal g, hu]; simp, h3, List.nodup_nil, fun g => by rw [h4 g]; simp, fun g hg => by simp at hg⟩⟩
end Go.Proofs.Ytmoebpebahhbeaa
