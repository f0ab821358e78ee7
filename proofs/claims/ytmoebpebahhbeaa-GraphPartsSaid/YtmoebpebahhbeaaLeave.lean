/-
  Layer 7, the program's side: leave: the walk goes back from a node that leads to one that was met ahead of it.
-/
import Derived.Test.YtmoebpebahhbeaaAlong
import Derived.Test.YtmoebpebahhbeaaG3
namespace Go.Proofs.Ytmoebpebahhbeaa
set_option linter.unusedVariables false
open Go.ChangeShapes Go.WideShapes Go.ChangeAt Go.RowKit

theorem stood_f {B p : Nat} {O : Nat → Nat} {av : Value} {L : Loc} {s : St} {w w1 : World} (h : SRep B O p av L s w1) (hx : Fx (Mine O) w w1) {g n cap : Nat} (hv : L.vf = .slice (some ⟨g, 0, none⟩) n cap) (hn : n = s.fst.length) (j x : Nat) {v : Value} (hv2 : v = .int .i64 (x : Int)) : Stood B O p av w { s with fst := s.fst.set j x } (w1.setCell ⟨g, j, none⟩ v) := by
  subst hv2
  obtain ⟨h2, x2⟩ := h.put_f hv hn j x rfl
  exact ⟨_, _, h2, Mv.of_fx (hx.trans x2 fun _ _ h => h)⟩
theorem min_int (x y : Nat) : min (x : Int) (y : Int) = ((min x y : Nat) : Int) := by omega

set_option maxHeartbeats 1000000 in
set_option maxRecDepth 100000 in
theorem leave_up (B p a k c j : Nat) (l : List (Nat × Nat)) (O : Nat → Nat) (av : Value) (L : Loc) (s : St) (w : World) (h : SRep B O p av L s w) (hs : Sml s) (ha : a < s.met.length) (hc : c < s.met.length) (hr : s.road = (l ++ [(c, j)]) ++ [(a, k)]) (hne : at0 s.fst a ≠ at0 s.met a) :
    Calls Try.prog 37 #[.pointer (some ⟨p, 0, none⟩), .int .i64 (a : Int)] w fun e w' => e = .returned (.tuple #[]) ∧ Stood B O p av w { s with road := l ++ [(c, j)], fst := s.fst.set c (min (at0 s.fst c) (at0 s.fst a)) } w' := by
  have hlen : s.road.length = l.length + 2 := by rw [hr]; simp
  obtain ⟨br, cr, er, -⟩ := owns_some h.r (by omega)
  obtain ⟨bm, cm, em, -⟩ := owns_some h.m (by omega)
  obtain ⟨bf, cf, ef, -⟩ := owns_some h.f (by have := hs.f; omega)
  have hfa : a < s.fst.length := by have := hs.f; omega
  have hfc : c < s.fst.length := by have := hs.f; omega
  have d5 := h.c5
  have or_ := h.r
  rw [er] at d5 or_
  rw [hlen] at d5 or_
  have hcap := (owns_cap or_).1
  have hcut := owns_cut or_ (l.length + 1) (by omega)
  have z5 := h.frz 5
  have EM := Lib.hid em
  have EF := Lib.hid ef
  have TR := Lib.hid h.tr
  have hrl : l.length ≤ 1022 := by have := hs.r; omega
  have ER := Lib.hid er
  have HH := Lib.hid h
  have HR := Lib.hid hr
  have OC := Lib.hid hcut
  have e1 : (((at0 s.fst a : Nat) : Int) == ((at0 s.met a : Nat) : Int)) = false := by rw [beq_eq_false_iff_ne]; omega
  have ham : (a : Int) < (s.met.length : Int) := by omega
  have haf : (a : Int) < (s.fst.length : Int) := by omega
  have hcf : (c : Int) < (s.fst.length : Int) := by omega
  have HFA := Lib.hid hfa
  have HFC := Lib.hid hfc
  have HA := Lib.hid ha
  clear h hs er em ef or_ hcut hr hlen hne hfa hfc ha hc
  go_enter Try.func37, Try.ntmps37
  go_wp2_with fail
  go_region
  rename_i K hK
  refine hK _ _ ?_
  clear hK K
  have h1 := HH.out.head_r (O' := O) (w1 := w) (w' := w.setCell ⟨p, 5, none⟩ (.slice (some ⟨br, 0, none⟩) (l.length + 1) cr)) (v' := .slice (some ⟨br, 0, none⟩) (l.length + 1) cr) (l := l ++ [(c, j)]) (Fx.refl _ w) (by
    have := OC.out
    rw [HR.out, rv_append, List.take_left' (by rw [rv_len]; simp)] at this
    simpa using this) (fun _ _ => rfl) (fun b hb => TR.out b (by rw [ER.out]; exact hb)) HH.out.low rfl
  have H1 := Lib.hid h1.1.drew
  have X1 := Lib.hid h1.2.fx.drew
  clear h1 d5 z5
  generalize (w.setCell _ _).drew = W1 at H1 X1 ⊢
  have d1 : W1.cell? ⟨p, 1, none⟩ = some L.vm := H1.out.c1
  have d2 : W1.cell? ⟨p, 2, none⟩ = some L.vf := H1.out.c2
  have d5 := H1.out.c5
  have om : W1.ownsRow B 3 1 L.vm s.met.length (nv s.met) := H1.out.m
  have of_ : W1.ownsRow B 3 1 L.vf s.fst.length (nv s.fst) := H1.out.f
  have or_ := H1.out.r
  rw [EM.out] at d1 om
  rw [EF.out] at d2 of_
  have gm := num_cell om HA.out
  have gf := num_cell of_ HFA.out
  have gc := num_cell of_ HFC.out
  have zf := of_.frozenAt c
  have gr : W1.cell? ⟨br, l.length * 2, none⟩ = some (.int .i64 (c : Int)) := by
    have o2 : W1.ownsRow B 73 2 (.slice (some ⟨br, 0, none⟩) (l.length + 1) cr) (l.length + 1) (rv (l ++ [(c, j)])) := by simpa using or_
    rw [o2.cellAt _ (by omega), rv_snoc0]
  clear om of_ or_
  go_wp2_with fail
  go_quiet (fail)
  go_wp2_with fail
  go_quiet (fail)
  go_wp2_with fail
  go_region
  exact bodyPost_end (v := .tuple #[]) (by simp [results, Try.results37, go_sem]) rfl ⟨rfl, stood_f (H1.out.drewN _) (X1.out.drewN _) EF.out rfl c (min (at0 s.fst c) (at0 s.fst a)) (congrArg (Value.int .i64) (min_int _ _))⟩
end Go.Proofs.Ytmoebpebahhbeaa
