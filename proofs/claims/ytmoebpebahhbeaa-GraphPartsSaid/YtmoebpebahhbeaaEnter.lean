/-
  Layer 7, the program's side: enter: a node is met.
-/
import Derived.Test.YtmoebpebahhbeaaG2
import Derived.BigRegion
namespace Go.Proofs.Ytmoebpebahhbeaa
set_option linter.unusedVariables false
open Go.ChangeShapes Go.WideShapes Go.ChangeAt Go.RowKit

def St.enter (s : St) (a : Nat) : St := { s with met := s.met.set a (s.cnt + 1), fst := s.fst.set a (s.cnt + 1), opn := s.opn ++ [a], cnt := s.cnt + 1, road := s.road ++ [(a, 0)] }
/-- the search stands so, and what else was there stays -/
def Stood (B : Nat) (O : Nat → Nat) (p : Nat) (av : Value) (w : World) (s : St) (w' : World) : Prop := ∃ O' L', SRep B O' p av L' s w' ∧ Mv O O' w w'
/-- no row is longer than so -/
structure Sml (s : St) : Prop where
  m : s.met.length ≤ 1024
  f : s.fst.length = s.met.length
  q : s.grp.length = s.met.length
  o : s.opn.length ≤ 1024
  r : s.road.length ≤ 1024
  c : s.cnt ≤ 1024
  g : s.grps.length ≤ 1024

set_option maxHeartbeats 1000000 in
set_option maxRecDepth 100000 in
theorem enter_any (B p a : Nat) (O : Nat → Nat) (av : Value) (L : Loc) (s : St) (w : World) (h : SRep B O p av L s w) (hs : Sml s) (ha : a < s.met.length) :
    Calls Try.prog 35 #[.pointer (some ⟨p, 0, none⟩), .int .i64 (a : Int)] w fun e w' => e = .returned (.tuple #[]) ∧ Stood B O p av w (s.enter a) w' := by
  have hc4 := h.c4
  have hfz := h.frz 4
  have hcc := hs.c
  go_enter Try.func35, Try.ntmps35
  go_upto_region 1 with fail
  obtain ⟨h1, x1⟩ := h.put_cnt (s.cnt + 1) (w' := w.setCell ⟨p, 4, none⟩ (.int .i64 ((s.cnt : Int) + 1))) (by simp)
  clear hc4 hfz
  generalize w.setCell _ _ = W at h1 x1 ⊢
  have H1 := Lib.hid h1
  have X1 := Lib.hid x1
  have d1 := h1.c1
  have d2 := h1.c2
  have d4 := h1.c4
  have hfa : a < s.fst.length := by have := hs.f; omega
  obtain ⟨bm, cm, em, -⟩ := owns_some h1.m (by show 0 < s.met.length; omega)
  obtain ⟨bf, cf, ef, -⟩ := owns_some h1.f (by show 0 < s.fst.length; omega)
  have om := h1.m
  have of_ := h1.f
  have tm := h1.tm bm (by rw [em]; rfl)
  have tf := h1.tf bf (by rw [ef]; rfl)
  have tp := h1.tp
  rw [em] at d1 om
  rw [ef] at d2 of_
  have nmp : bm ≠ p := fun e => by rw [e, tp] at tm; omega
  have npm : p ≠ bm := fun e => by rw [e, tm] at tp; omega
  have nfp : bf ≠ p := fun e => by rw [e, tp] at tf; omega
  have npf : p ≠ bf := fun e => by rw [e, tf] at tp; omega
  have nmf : bm ≠ bf := fun e => by rw [e, tf] at tm; omega
  have nfm : bf ≠ bm := fun e => by rw [e, tm] at tf; omega
  have zm := om.frozenAt a
  have zf := of_.frozenAt a
  have gm := num_cell om (show a < s.met.length from ha)
  have gf := num_cell of_ (show a < s.fst.length from hfa)
  have ham : (a : Int) < (s.met.length : Int) := by omega
  have haf : (a : Int) < (s.fst.length : Int) := by omega
  have EM := Lib.hid em
  have EF := Lib.hid ef
  have HH := Lib.hid h
  have HS := Lib.hid hs
  clear h1 x1 om of_ tm tf tp em ef h hs ha hfa
  go_region
  rename_i K hK
  refine hK _ _ ?_
  clear hK K
  obtain ⟨h2, x2⟩ := H1.out.put_m (w' := W.setCell ⟨bm, a, none⟩ (.int .i64 ((s.cnt : Int) + 1))) EM.out rfl a (s.cnt + 1) (by simp)
  obtain ⟨h3, x3⟩ := h2.put_f (w' := (W.setCell ⟨bm, a, none⟩ (.int .i64 ((s.cnt : Int) + 1))).setCell ⟨bf, a, none⟩ (.int .i64 ((s.cnt : Int) + 1))) EF.out rfl a (s.cnt + 1) (by simp)
  have H4 := Lib.hid h3.drew
  have X4 := Lib.hid (X1.out.trans (x2.trans x3.drew fun _ _ h => h) fun _ _ h => h)
  clear h2 x2 h3 x3 d1 d2 d4 zm zf gm gf
  generalize ((W.setCell _ _).setCell _ _).drew = W4 at H4 X4 ⊢
  have o4 : W4.ownsRow B 3 1 L.vo s.opn.length (nv s.opn) := H4.out.o
  obtain ⟨ao, co, eo⟩ := owns_form o4
  have d3 : W4.cell? ⟨p, 3, none⟩ = some L.vo := H4.out.c3
  have EO := Lib.hid eo
  have hB := H4.out.size
  have hol : s.opn.length ≤ 100000 := Nat.le_trans HS.out.o (by decide)
  have dz := H4.out.frz 3
  have nhp : p < W4.heap.size := heap_lt H4.out.box
  have ts := H4.out.tw
  rw [eo] at d3 o4 ts
  have O4 := Lib.hid o4
  have TS := Lib.hid ts
  clear o4 eo ts
  go_upto_region 3 with (at_builtin; refine wp_app info_int Try.underlying30 rfl (by decide) (by decide) rfl _ _ rfl O4.out hB hol [.int .i64 (a : Int)] rfl (by simp [Value.oneCell']) rfl rfl ?_; intro v5 W5 o5 x5 a5; obtain ⟨a6, c6, rfl⟩ := owns_form o5; obtain ⟨dc5, dz5, y5⟩ := H4.out.behind TS.out (by decide) x5 d3; clear d3 dz)
  have h6 := H4.out.head_o (O' := retag O W4.heap.size 4) (l := s.opn ++ [a]) y5 (by rw [nv_append, List.length_append]; exact o5) (retag_agree _ _ _) (retag_own TS.out (fun b hb => (O4.out.lt b hb).2) a5) (retag_low H4.out.low hB) rfl
  have H6 := Lib.hid h6.1
  have X6 := Lib.hid ((Mv.of_fx X4.out).trans h6.2)
  clear h6 o5 x5 a5 dc5 dz5 y5
  generalize W5.setCell _ _ = W6 at H6 X6 ⊢
  have hB6 := H6.out.size
  have o7 : W6.ownsRow B 73 2 L.vr s.road.length (rv s.road) := H6.out.r
  obtain ⟨ar, cr, er⟩ := owns_form o7
  have d5 : W6.cell? ⟨p, 5, none⟩ = some L.vr := H6.out.c5
  have hrl : s.road.length ≤ 100000 := Nat.le_trans HS.out.r (by decide)
  have tr : ∀ b, L.vr.ownBlock = some b → _ := H6.out.tr
  rw [er] at d5 o7 tr
  have O7 := Lib.hid o7
  have TR := Lib.hid tr
  clear o7 er tr
  go_wp2_with (at_builtin; refine wp_app info_step Try.underlying59 rfl (by decide) (by decide) rfl _ _ rfl O7.out hB6 hrl [.int .i64 (a : Int), .int .i64 0] rfl (by simp [Value.oneCell']) rfl rfl ?_; intro v8 W8 o8 x8 a8; obtain ⟨a9, c9, rfl⟩ := owns_form o8; obtain ⟨dc8, dz8, y8⟩ := H6.out.behind TR.out (by decide) x8 d5; clear d5)
  have h9 := H6.out.head_r (O' := retag (retag O W4.heap.size 4) W6.heap.size 5) (l := s.road ++ [(a, 0)]) y8 (by rw [rv_append, List.length_append]; exact o8) (retag_agree _ _ _) (retag_own TR.out (fun b hb => (O7.out.lt b hb).2) a8) (retag_low H6.out.low hB6) rfl
  have h10 := X6.out.trans h9.2
  exact bodyPost_end (v := .tuple #[]) (by simp [results, Try.results35, go_sem]) rfl ⟨rfl, _, _, h9.1, h10⟩
end Go.Proofs.Ytmoebpebahhbeaa
