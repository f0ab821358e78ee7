/-
  Layer 7, the program's side: the heap's own methods (Len, Less, Swap, Push, Pop of ready).
-/
import Derived.Test.YtmoebpebahhbeaaHp0
import Derived.BigRegion
import Derived.Deep.RegionLaw
namespace Go.Proofs.Ytmoebpebahhbeaa
set_option linter.unusedVariables false
open Go.ChangeShapes Go.WideShapes Go.ChangeAt Go.RowKit

/-- groups by their numbers: each is a slice whose first item is its key -/
def Keys (w : World) (O : Nat → Nat) (gval : Nat → Value) (key : Nat → Nat) (ok : Nat → Prop) : Prop :=
  ∀ i, ok i → ∃ g n cap, gval i = .slice (some ⟨g, 0, none⟩) n cap ∧ 0 < n ∧ w.cell? ⟨g, 0, none⟩ = some (.int .i64 (key i : Nat)) ∧ O g = 8
/-- the heap in memory: block h holds the slice, Z are the groups' numbers -/
structure HRep (B : Nat) (O : Nat → Nat) (h : Nat) (gval : Nat → Value) (v : Value) (Z : List Nat) (w : World) : Prop where
  box : w.heap[h]? = some (.cells #[v] 66 (0, 0))
  row : w.ownsRow B 30 1 v Z.length (Z.map gval)
  th : O h = 10
  tv : ∀ b, v.ownBlock = some b → O b = 11
  low : ∀ b, O b = 10 ∨ O b = 11 → B ≤ b
/-- what the heap's methods may write -/
def Heaps (O : Nat → Nat) (b : Nat) : Prop := O b = 10 ∨ O b = 11
theorem Keys.fx {S : Nat → Prop} {w w' : World} {O : Nat → Nat} {gval : Nat → Value} {key : Nat → Nat} {ok : Nat → Prop} (h : Keys w O gval key ok) (hf : Fx S w w') (hn : ∀ b, O b = 8 → ¬ S b) : Keys w' O gval key ok := fun i hi => by
  obtain ⟨g, n, cap, h1, h2, h3, h4⟩ := h i hi
  exact ⟨g, n, cap, h1, h2, fx_cell h3 hf (hn g h4), h4⟩
theorem Keys.tag {w : World} {O O' : Nat → Nat} {gval : Nat → Value} {key : Nat → Nat} {ok : Nat → Prop} (h : Keys w O gval key ok) (hO : ∀ b, b < w.heap.size → O' b = O b) : Keys w O' gval key ok := fun i hi => by
  obtain ⟨g, n, cap, h1, h2, h3, h4⟩ := h i hi
  exact ⟨g, n, cap, h1, h2, h3, by rw [hO g (World.block_lt_of_cell? w _ h3)]; exact h4⟩
theorem HRep.fx {S : Nat → Prop} {B h : Nat} {O : Nat → Nat} {gval : Nat → Value} {v : Value} {Z : List Nat} {w w' : World} (hh : HRep B O h gval v Z w) (hf : Fx S w w') (hn : ∀ b, Heaps O b → ¬ S b) : HRep B O h gval v Z w' :=
  ⟨fx_heap hh.box hf (hn h (.inl hh.th)), fx_row hh.row hf fun b hb => hn b (.inr (hh.tv b hb)), hh.th, hh.tv, hh.low⟩
theorem HRep.c0 {B h : Nat} {O : Nat → Nat} {gval : Nat → Value} {v : Value} {Z : List Nat} {w : World} (hh : HRep B O h gval v Z w) : w.cell? ⟨h, 0, none⟩ = some v := by rw [Lib.cell_of_heap hh.box]; rfl
theorem HRep.tags {B h : Nat} {O O' : Nat → Nat} {gval : Nat → Value} {v : Value} {Z : List Nat} {w : World} (hh : HRep B O h gval v Z w) (hO : ∀ b, b < w.heap.size → O' b = O b) (hlow : ∀ b, O' b = 10 ∨ O' b = 11 → B ≤ b) : HRep B O' h gval v Z w :=
  ⟨hh.box, hh.row, by rw [hO h (heap_lt hh.box)]; exact hh.th, fun b hb => by rw [hO b (hh.row.lt b hb).2]; exact hh.tv b hb, hlow⟩
theorem HRep.size {B h : Nat} {O : Nat → Nat} {gval : Nat → Value} {v : Value} {Z : List Nat} {w : World} (hh : HRep B O h gval v Z w) : B ≤ w.heap.size := by have := heap_lt hh.box; have := hh.low h (.inl hh.th); omega

theorem load_ready {w : World} {a : Addr} {v : Value} (h : w.cell? a = some v) : (loadVar 66 a).run Try.prog w = .ok v w := by
  obtain ⟨d, hd⟩ : ∃ d, Try.prog.underlying 66 = some d := ⟨_, Try.underlying66⟩
  simp [loadVar, Sem.run_bind, h, go_sem]
theorem meth_len (w : World) (h : Nat) (v : Value) (hc : w.cell? ⟨h, 0, none⟩ = some v) : (method 228 65 (.pointer (some ⟨h, 0, none⟩)) "Len").run Try.prog w = .ok (32, v) w :=
  meth_val (by kernel_rfl) Try.underlying65 (load_ready hc) 227
theorem meth_less (w : World) (h : Nat) (v : Value) (hc : w.cell? ⟨h, 0, none⟩ = some v) : (method 228 65 (.pointer (some ⟨h, 0, none⟩)) "Less").run Try.prog w = .ok (82, v) w :=
  meth_val (by kernel_rfl) Try.underlying65 (load_ready hc) 227
theorem meth_swap (w : World) (h : Nat) (v : Value) (hc : w.cell? ⟨h, 0, none⟩ = some v) : (method 228 65 (.pointer (some ⟨h, 0, none⟩)) "Swap").run Try.prog w = .ok (85, v) w :=
  meth_val (by kernel_rfl) Try.underlying65 (load_ready hc) 227
theorem meth_push (a : Addr) (w : World) : (method 228 65 (.pointer (some a)) "Push").run Try.prog w = .ok (84, .pointer (some a)) w := by kernel_rfl
theorem meth_pop (a : Addr) (w : World) : (method 228 65 (.pointer (some a)) "Pop").run Try.prog w = .ok (83, .pointer (some a)) w := by kernel_rfl

theorem len_any (a : Option Addr) (n c : Nat) (w : World) (hn : n ≤ 100000) : Calls Try.prog 32 #[.slice a n c] w fun e w' => e = .returned (.int .i64 (n : Int)) ∧ w = w' := by
  go_enter Try.func32, Try.ntmps32
  go_wp2
  go_ret
  exact ⟨rfl, rfl⟩
set_option maxHeartbeats 1000000 in
theorem less_any {B g n cap : Nat} {O : Nat → Nat} {gval : Nat → Value} {key : Nat → Nat} {ok : Nat → Prop} {Z : List Nat} {w : World} (hr : w.ownsRow B 30 1 (.slice (some ⟨g, 0, none⟩) n cap) n (Z.map gval)) (hk : Keys w O gval key ok) (hZ : ∀ i ∈ Z, ok i) (i j : Nat) (hi : i < n) (hj : j < n) :
    Calls Try.prog 82 #[.slice (some ⟨g, 0, none⟩) n cap, .int .i64 (i : Int), .int .i64 (j : Int)] w fun e w' => e = .returned (.bool (decide (key (at0 Z i) < key (at0 Z j)))) ∧ ∃ q, w' = w.drewN q := by
  have hlen : Z.length = n := by have := hr.1; simp at this; exact this
  have at_ : ∀ i, i < n → (Z.map gval)[i]? = some (gval (at0 Z i)) ∧ ok (at0 Z i) := fun i hi => by
    have hi' : i < Z.length := by omega
    refine ⟨by simp [at0, List.getD, List.getElem?_eq_getElem hi'], hZ _ ?_⟩
    rw [show at0 Z i = Z[i] by simp [at0, List.getD, List.getElem?_eq_getElem hi']]
    exact List.getElem_mem hi'
  have c1 := val_cell hr (at_ i hi).1
  have c2 := val_cell hr (at_ j hj).1
  obtain ⟨g1, n1, p1, e1, l1, k1, _⟩ := hk _ (at_ i hi).2
  obtain ⟨g2, n2, p2, e2, l2, k2, _⟩ := hk _ (at_ j hj).2
  rw [e1] at c1
  rw [e2] at c2
  have hiI : (i : Int) < (n : Int) := by omega
  have hjI : (j : Int) < (n : Int) := by omega
  have h1I : (0 : Int) < (n1 : Int) := by omega
  have h2I : (0 : Int) < (n2 : Int) := by omega
  generalize key (at0 Z i) = x at k1 ⊢
  generalize key (at0 Z j) = y at k2 ⊢
  clear hr hk hZ at_ e1 e2 hlen
  go_enter Try.func82, Try.ntmps82
  go_wp2_with fail
  go_quiet (fail)
  go_wp2
  go_ret
  exact ⟨ret_bool (by simp), _, rfl⟩
/-- two items change places -/
def swp (Z : List Nat) (i j : Nat) : List Nat := (Z.set i (at0 Z j)).set j (at0 Z i)
set_option maxHeartbeats 1000000 in
theorem swap_any {B g n cap : Nat} {gval : Nat → Value} {Z : List Nat} {w : World} (hg : ∀ i, ∃ a m c, gval i = .slice a m c) (hr : w.ownsRow B 30 1 (.slice (some ⟨g, 0, none⟩) n cap) n (Z.map gval)) (i j : Nat) (hi : i < n) (hj : j < n) :
    Calls Try.prog 85 #[.slice (some ⟨g, 0, none⟩) n cap, .int .i64 (i : Int), .int .i64 (j : Int)] w fun e w' => e = .returned (.tuple #[]) ∧ w'.ownsRow B 30 1 (.slice (some ⟨g, 0, none⟩) n cap) n ((swp Z i j).map gval) ∧ Fx (fun b => b = g) w w' := by
  have hlen : Z.length = n := by have := hr.1; simp at this; exact this
  have at_ : ∀ i, i < n → (Z.map gval)[i]? = some (gval (at0 Z i)) := fun i hi => by
    have hi' : i < Z.length := by omega
    simp [at0, List.getD, List.getElem?_eq_getElem hi']
  have c1 := val_cell hr (at_ i hi)
  have c2 := val_cell hr (at_ j hj)
  obtain ⟨a1, m1, p1, e1⟩ := hg (at0 Z i)
  obtain ⟨a2, m2, p2, e2⟩ := hg (at0 Z j)
  rw [e1] at c1
  rw [e2] at c2
  have z1 := hr.frozenAt i
  have z2 := hr.frozenAt j
  have hiI : (i : Int) < (n : Int) := by omega
  have hjI : (j : Int) < (n : Int) := by omega
  have hfin : ∀ W : World, W = (w.setCell ⟨g, i, none⟩ (gval (at0 Z j))).setCell ⟨g, j, none⟩ (gval (at0 Z i)) → W.ownsRow B 30 1 (.slice (some ⟨g, 0, none⟩) n cap) n ((swp Z i j).map gval) ∧ Fx (fun b => b = g) w W := fun W hW => by
    subst hW
    have s1 := hr.stored i (gval (at0 Z j))
    have s2 := s1.1.stored j (gval (at0 Z i))
    refine ⟨?_, (Fx.grown s1.2 fun k hk => (Option.some.inj hk).symm).trans (Fx.grown (S := fun b => b = g) s2.2 fun k hk => (Option.some.inj hk).symm) fun _ _ h => h⟩
    have := s2.1
    rw [swp, List.map_set, List.map_set]
    exact this
  have HF := Lib.hid hfin
  have E1 := Lib.hid e1
  have E2 := Lib.hid e2
  clear hr hg at_ e1 e2 hlen hfin
  by_cases hij : i = j
  · subst hij
    clear c2 E2 z2 hjI
    go_enter Try.func85, Try.ntmps85
    go_wp2_with fail
    go_region
    have hW := HF.out ((w.setCell ⟨g, i, none⟩ (.slice a1 m1 p1)).setCell ⟨g, i, none⟩ (.slice a1 m1 p1)) (by rw [E1.out])
    exact bodyPost_end (v := .tuple #[]) (by simp [results, Try.results85, go_sem]) rfl ⟨rfl, hW.1, hW.2.drew⟩
  · go_enter Try.func85, Try.ntmps85
    go_wp2_with fail
    go_region
    have hW := HF.out ((w.setCell ⟨g, i, none⟩ (.slice a2 m2 p2)).setCell ⟨g, j, none⟩ (.slice a1 m1 p1)) (by rw [E1.out, E2.out])
    exact bodyPost_end (v := .tuple #[]) (by simp [results, Try.results85, go_sem]) rfl ⟨rfl, hW.1, hW.2.drew⟩

/-- 'append(v, x)' as a step of a region that draws its order -/
theorem step_app {P : Program} {ops : Array Oper} {o : Oper} {a : Act} {K : Act → World → Prop} {Q : Exit → Act → World → Prop} {E : Prop} {t e : TypeId} {z : Value} {size bytes : Nat}
    (hi : (P.info? e).map (fun i => (i.zero, i.size, i.bytes)) = some (some z, size, bytes)) (ht : P.underlying t = some (.slice e)) (hzs : z.cells.size = size) (hsz : 0 < size) (hby : bytes ≤ 1000)
    (hgd : o.guard = none) (sO xO : Operand) (ho : o.op = .call { callee := .builtin .append, args := #[sO, xO], argTypes := #[t, t] })
    {B n : Nat} {w : World} {v : Value} {xs : List Value} (hown : w.ownsRow B e size v n xs) (hB : B ≤ w.heap.size) (hn : n ≤ 100000) (news : List Value) (hl : news.length = size) (h1 : ∀ u ∈ news, u.oneCell' = true)
    (hs : a.eval sO = v) (hx : a.eval xO = .slice (some ⟨w.heap.size, 0, none⟩) 1 1)
    (h : ∀ v' W2, W2.ownsRow B e size v' (n + 1) (xs ++ news) → Fx (fun b => v.ownBlock = some b) w W2 → (∀ b, v'.ownBlock = some b → v.ownBlock = some b ∨ w.heap.size ≤ b) → K (a.put o.dst v') W2) :
    if Region.wanted o (yielded ops a.tmps) = true then o.wp P a (w.alloc (.cells news.toArray e)) K Q else E := by
  have hw : Region.wanted o (yielded ops a.tmps) = true := by simp [Region.wanted, hgd]
  rw [if_pos hw]
  obtain ⟨i0, hi0, hz0, hz1, hz2⟩ := info_parts hi
  have hmul : (n + 1) * bytes ≤ 100001 * 1000 := Nat.mul_le_mul (by omega) hby
  obtain ⟨v', W2, hr, hown2, hg, _, hat⟩ := run_append_own_at (P := P) (w.alloc (.cells news.toArray e)) B t o.type e i0 z size bytes ht hi0 hz0 hz1 hz2 hzs hsz v n xs (hown.alloc _) ⟨w.heap.size, 0, none⟩ 1 1 news (by omega) (cells_new w news e) h1 (by unfold maxLen; omega) (by omega) (by simp; omega)
  unfold Oper.wp
  simp only [execOp, ho, resolve, invoke, builtin, Sem.run_bind, Sem.run_pure, Result.andThen_ok, List.map_toArray, List.map_cons, List.map_nil, hs, hx, hr]
  refine h v' W2 hown2 ((Fx.alloc w _).trans (Fx.grown (S := fun b => v.ownBlock = some b) hg fun k hk => hk) fun b _ hb => hb) fun b hb => ?_
  rcases hat with e1 | e1
  · exact .inl (by rw [← e1]; exact hb)
  · rw [e1] at hb
    have := Option.some.inj hb
    simp at this
    exact .inr (by omega)
theorem assert_ints (v : Value) (w : World) : (Instr.typeAssert (.iface 30 v) 20 30 false).run Try.prog w = .ok v w := by kernel_rfl
set_option maxHeartbeats 1000000 in
set_option maxRecDepth 100000 in
theorem push_any {B h i : Nat} {O : Nat → Nat} {gval : Nat → Value} {v : Value} {Z : List Nat} {w : World} (hh : HRep B O h gval v Z w) (hg : ∃ a m c, gval i = .slice a m c) (hl : Z.length ≤ 100000) :
    Calls Try.prog 84 #[.pointer (some ⟨h, 0, none⟩), .iface 30 (gval i)] w fun e w' => e = .returned (.tuple #[]) ∧ ∃ O' v', HRep B O' h gval v' (Z ++ [i]) w' ∧ Fx (Heaps O) w w' ∧ ∀ b, b < w.heap.size → O' b = O b := by
  obtain ⟨a1, m1, c1, e1⟩ := hg
  rw [e1]
  have hc := hh.c0
  have hr := hh.row
  have hB := hh.size
  have tv := hh.tv
  obtain ⟨ao, co, eo⟩ := owns_form hr
  rw [eo] at hc hr tv
  have HR := Lib.hid hr
  have HH := Lib.hid hh
  have TV := Lib.hid tv
  have E1 := Lib.hid e1
  clear hr hh e1 eo tv
  have ta := fun (v : Value) (w : World) => assert_ints v w
  have hcA : ∀ o : Obj, (w.alloc o).cell? ⟨h, 0, none⟩ = some (.slice ao Z.length co) := fun o => fx_cell (S := fun _ => False) hc (Fx.alloc w o) id
  have HNE : Hid (¬ (Value.slice ao Z.length co).ownBlock = some h) := Lib.hid (fun e => by have := TV.out h e; rw [HH.out.th] at this; omega)
  go_enter Try.func84, Try.ntmps84
  go_wp2_with fail
  go_region_law (refine step_app info_ints Try.underlying66 rfl (by decide) (by decide) rfl _ _ rfl HR.out.drew hB hl [.slice a1 m1 c1] rfl (by simp [Value.oneCell']) rfl rfl ?_; intro v5 W5 o5 x5 a5; obtain ⟨a6, c6, rfl⟩ := owns_form o5; have dc5 := fx_cell (show w.drew.cell? ⟨h, 0, none⟩ = some (.slice ao Z.length co) from hc) x5 HNE.out; have dz5 := Lib.frozen_of_heap (fx_heap (show w.drew.heap[h]? = some (.cells #[v] 66 (0, 0)) from HH.out.box) x5 HNE.out) 0)
  all_goals
    have hO : ∀ b, b < w.heap.size → retag O w.heap.size 11 b = O b := retag_agree _ _ _
    have hx5 : Fx (fun b => O b = 11) w W5 := (Fx.refl _ w).drew.trans (x5.mono (T := fun b => O b = 11) fun b _ hb => TV.out b hb) fun _ _ h => h
    have hb5 : W5.heap[h]? = some (.cells #[v] 66 (0, 0)) := fx_heap HH.out.box hx5 (by rw [HH.out.th]; omega)
    have hx6 : Fx (fun b => O b = 10) W5 (W5.setCell ⟨h, 0, none⟩ (.slice a6 (Z.length + 1) c6)) := Fx.set W5 h 0 _ HH.out.th
    have tv5 := retag_own (k := 11) TV.out (fun b hb => (HR.out.lt b hb).2) a5
    have hh' : HRep B (retag O w.heap.size 11) h gval (.slice a6 (Z.length + 1) c6) (Z ++ [i]) (W5.setCell ⟨h, 0, none⟩ (.slice a6 (Z.length + 1) c6)) := by
      refine ⟨heap_setCell_same W5 h 0 _ _ _ hb5, ?_, by rw [retag_old (heap_lt HH.out.box)]; exact HH.out.th, tv5, fun b hb => ?_⟩
      · rw [List.map_append, List.length_append]
        refine fx_row (by rw [List.map_singleton, E1.out]; exact o5) (Fx.set (S := fun b => b = h) W5 h 0 _ rfl) fun b hb e => ?_
        have h11 := tv5 b hb
        rw [e, retag_old (heap_lt HH.out.box), HH.out.th] at h11
        omega
      · by_cases hbw : b < w.heap.size
        · rw [retag_old hbw] at hb; exact HH.out.low b hb
        · omega
    exact bodyPost_end (v := .tuple #[]) (by simp [results, Try.results84, go_sem]) rfl ⟨rfl, _, _, hh', (hx5.mono (T := Heaps O) fun b _ hb => .inr hb).trans (hx6.mono (T := Heaps O) fun b _ hb => .inl hb) fun _ _ h => h, hO⟩

set_option maxHeartbeats 1000000 in
set_option maxRecDepth 100000 in
theorem pop_any {B h i : Nat} {O : Nat → Nat} {gval : Nat → Value} {v : Value} {Z : List Nat} {w : World} (hh : HRep B O h gval v (Z ++ [i]) w) (hg : ∃ a m c, gval i = .slice a m c) (hl : Z.length ≤ 100000) :
    Calls Try.prog 83 #[.pointer (some ⟨h, 0, none⟩)] w fun e w' => e = .returned (.iface 30 (gval i)) ∧ ∃ v', HRep B O h gval v' Z w' ∧ Fx (Heaps O) w w' := by
  obtain ⟨a1, m1, c1, e1⟩ := hg
  have hc := hh.c0
  have hr := hh.row
  have hlen : (Z ++ [i]).length = Z.length + 1 := by simp
  rw [hlen] at hr
  obtain ⟨g, co, eo, -⟩ := owns_some hr (by omega)
  have tv := hh.tv
  rw [eo] at hc hr tv
  have hcap := (owns_cap hr).1
  have hz := Lib.frozen_of_heap hh.box 0
  have gi : w.cell? ⟨g, Z.length, none⟩ = some (gval i) := val_cell hr (by rw [List.map_append, List.getElem?_append_right (by simp)]; simp)
  rw [e1] at gi
  have hcut := owns_cut hr Z.length (by omega)
  rw [List.map_append, List.take_left' (by simp)] at hcut
  have HR := Lib.hid hcut
  have HH := Lib.hid hh
  have TV := Lib.hid tv
  have E1 := Lib.hid e1
  clear hr hh e1 eo tv hcut hlen
  go_enter Try.func83, Try.ntmps83
  go_wp2_with fail
  have hx6 : Fx (fun b => O b = 10) w (w.setCell ⟨h, 0, none⟩ (.slice (some ⟨g, 0, none⟩) Z.length co)) := Fx.set w h 0 _ HH.out.th
  have hh' : HRep B O h gval (.slice (some ⟨g, 0, none⟩) Z.length co) Z (w.setCell ⟨h, 0, none⟩ (.slice (some ⟨g, 0, none⟩) Z.length co)) :=
    ⟨heap_setCell_same w h 0 _ _ _ HH.out.box, fx_row HR.out hx6 fun b hb => by rw [TV.out b hb]; omega, HH.out.th, TV.out, HH.out.low⟩
  go_ret
  exact ⟨by rw [E1.out]; rfl, _, hh', hx6.mono fun b _ hb => .inl hb⟩
end Go.Proofs.Ytmoebpebahhbeaa
