/-
  Layer 7, the program's side: along: an edge of the walk.
-/
import Derived.Test.YtmoebpebahhbeaaEnter
namespace Go.Proofs.Ytmoebpebahhbeaa
set_option linter.unusedVariables false
open Go.ChangeShapes Go.WideShapes Go.ChangeAt Go.RowKit

def St.along (s : St) (a b : Nat) : St := if at0 s.met b = 0 then s.enter b else if at0 s.grp b = 0 then { s with fst := s.fst.set a (min (at0 s.fst a) (at0 s.met b)) } else s
theorem Stood.same {B p : Nat} {O : Nat → Nat} {av : Value} {L : Loc} {s : St} {w : World} (h : SRep B O p av L s w) : Stood B O p av w s w := ⟨O, L, h, Mv.refl O w⟩
theorem min_cast (x y : Nat) : (if y < x then (y : Int) else (x : Int)) = ((min x y : Nat) : Int) := by
  split <;> omega

set_option maxHeartbeats 1000000 in
set_option maxRecDepth 100000 in
theorem along_any (B p a b : Nat) (O : Nat → Nat) (av : Value) (L : Loc) (s : St) (w : World) (h : SRep B O p av L s w) (hs : Sml s) (ha : a < s.met.length) (hb : b < s.met.length) :
    Calls Try.prog 36 #[.pointer (some ⟨p, 0, none⟩), .int .i64 (a : Int), .int .i64 (b : Int)] w fun e w' => e = .returned (.tuple #[]) ∧ Stood B O p av w (s.along a b) w' := by
  obtain ⟨bm, cm, em, -⟩ := owns_some h.m (by omega)
  obtain ⟨bf, cf, ef, -⟩ := owns_some h.f (by have := hs.f; omega)
  obtain ⟨bq, cq, eq, -⟩ := owns_some h.q (by have := hs.q; omega)
  have hfa : a < s.fst.length := by have := hs.f; omega
  have hqb : b < s.grp.length := by have := hs.q; omega
  have d1 := h.c1
  have d2 := h.c2
  have d7 := h.c7
  have om := h.m
  have of_ := h.f
  have oq := h.q
  rw [em] at d1 om
  rw [ef] at d2 of_
  rw [eq] at d7 oq
  have gm := num_cell om hb
  have gf := num_cell of_ hfa
  have gq := grp_cell oq hqb
  have zf := of_.frozenAt a
  have ham : (b : Int) < (s.met.length : Int) := by omega
  have haf : (a : Int) < (s.fst.length : Int) := by omega
  have haq : (b : Int) < (s.grp.length : Int) := by omega
  have EF := Lib.hid ef
  have HH := Lib.hid h
  have HS := Lib.hid hs
  have HB := Lib.hid hb
  clear om of_ oq em ef eq h hs hfa hqb hb ha
  by_cases h0 : at0 s.met b = 0
  · have e0 : (((at0 s.met b : Nat) : Int) == 0) = true := by rw [h0]; rfl
    have H0 := Lib.hid h0
    clear h0
    go_enter Try.func36, Try.ntmps36
    go_wp2_with fail
    refine (enter_any B p b O av L s w HH.out HS.out HB.out).mono ?_
    rintro e w1 ⟨rfl, hst⟩
    have HT := Lib.hid hst
    clear hst
    go_wp2_with fail
    exact bodyPost_end (v := .tuple #[]) (by simp [results, Try.results36, go_sem]) rfl ⟨rfl, by rw [St.along, if_pos H0.out]; exact HT.out⟩
  · have e0 : (((at0 s.met b : Nat) : Int) == 0) = false := by rw [beq_eq_false_iff_ne]; omega
    have H0 := Lib.hid h0
    clear h0
    by_cases h1 : at0 s.grp b = 0
    · have e1 : decide (((at0 s.grp b : Nat) : Int) - 1 < 0) = true := by rw [h1]; rfl
      have H1 := Lib.hid h1
      clear h1
      go_enter Try.func36, Try.ntmps36
      go_upto_region 3 with fail
      go_region
      obtain ⟨h2, x2⟩ := HH.out.put_f (w' := w.setCell ⟨bf, a, none⟩ (.int .i64 (if at0 s.met b < at0 s.fst a then ((at0 s.met b : Nat) : Int) else ((at0 s.fst a : Nat) : Int)))) EF.out rfl a (min (at0 s.fst a) (at0 s.met b)) (by rw [min_cast])
      have h3 := h2.drew
      exact bodyPost_end (v := .tuple #[]) (by simp [results, Try.results36, go_sem]) rfl ⟨rfl, by rw [St.along, if_neg H0.out, if_pos H1.out]; exact ⟨_, _, h3, Mv.of_fx x2.drew⟩⟩
    · have e1 : decide (((at0 s.grp b : Nat) : Int) - 1 < 0) = false := by rw [decide_eq_false_iff_not]; omega
      have H1 := Lib.hid h1
      clear h1
      go_enter Try.func36, Try.ntmps36
      go_wp2_with fail
      exact bodyPost_end (v := .tuple #[]) (by simp [results, Try.results36, go_sem]) rfl ⟨rfl, by rw [St.along, if_neg H0.out, if_neg H1.out]; exact Stood.same HH.out⟩
end Go.Proofs.Ytmoebpebahhbeaa
