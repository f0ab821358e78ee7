/- Texts of this proof, joined: PScan, TKnows, RHead. No condition. -/
import Derived.Test.YtkdhoelabomgkaaGreatDoorMa23
import Derived.Maps.AppendAt
import Derived.Laws.OwnMore
import Derived.Test.YtkdhoelabomgkaaGreatDoorMa18
/-
  Layer 2, the program's side: Scan.
-/
namespace Go.Proofs.YtkdhoelabomgkaaGreatDoor
set_option linter.unusedVariables false
open Go.ChangeShapes Go.WideShapes Go.ChangeAt Go.RowKit Go.Shelf
attribute [local go_sem] Oper.semAt_some

theorem tokens_in (F : Fence) (hF : Open F) (n : Nat) (s : ByteArray) (w : World) :
    CallsIn F n Tryz.prog 123 #[.string s] w fun e w' => e = .returned (.func (.func 127) #[] #[.pointer (some ⟨w.heap.size, 0, none⟩)]) ∧ w' = w.alloc (.cells #[.string s] 9) := by
  have hro := hF.round
  refine callsIn_of_wp Tryz.func123 rfl (hF.fn _) ?_ hro
  simp only [Tryz.ntmps123, List.size_toArray, List.length_cons, List.length_nil, Nat.reduceAdd, Nat.reduceSub, Array.replicate_succ, Array.replicate_zero, List.push_toArray, List.append_toArray, List.nil_append, List.cons_append]
  gi_wp2
  go_ret
  exact ⟨rfl, rfl⟩

theorem info_tk : (Tryz.prog.info? 166).map (fun i => (i.zero, i.size, i.bytes)) = some (some (.agg #[.int .i64 0, .int .i64 0, .int .i64 0, .string ⟨#[]⟩, .int .i64 0]), 5, 48) := by kernel_rfl

/-- a slice and a fault stored into the two rows of the results -/
theorem two_rows {w W : World} {N : Nat} {v0 v x0 x1 a e : Value} (b2 : W.heap[N]? = some (.cells #[v0] 159 (0, 0))) (b3 : W.heap[N + 1]? = some (.cells #[x0, x1] 162 (0, 0))) (hb : Below N w W) :
    let W3 := (((W.setCell ⟨N, 0, none⟩ v).setCell ⟨N + 1, 0, none⟩ a).setCell ⟨N + 1, 1, none⟩ e)
    W3.heap[N]? = some (.cells #[v] 159 (0, 0)) ∧ W3.heap[N + 1]? = some (.cells #[a, e] 162 (0, 0)) ∧ Below N w W3 ∧ ∀ k, N + 1 < k → W3.heap[k]? = W.heap[k]? := by
  refine ⟨?_, ?_, ((hb.setCell (p := ⟨N, 0, none⟩) (Nat.le_refl _) _).setCell (p := ⟨N + 1, 0, none⟩) (Nat.le_succ _) _).setCell (p := ⟨N + 1, 1, none⟩) (Nat.le_succ _) _, fun k hk => ?_⟩
  · rw [Below.heap_setCell _ _ _ _ (by show N ≠ N + 1; omega), Below.heap_setCell _ _ _ _ (by show N ≠ N + 1; omega)]
    simp [World.setCell, Array.getElem?_modify, b2]
  · have h : (W.setCell ⟨N, 0, none⟩ v).heap[N + 1]? = some (.cells #[x0, x1] 162 (0, 0)) := (Below.heap_setCell _ _ _ _ (by show N + 1 ≠ N; omega)).trans b3
    generalize W.setCell ⟨N, 0, none⟩ v = V at h
    simp [World.setCell, Array.getElem?_modify, h]
  · rw [Below.heap_setCell _ _ _ _ (by show k ≠ N + 1; omega), Below.heap_setCell _ _ _ _ (by show k ≠ N + 1; omega), Below.heap_setCell _ _ _ _ (by show k ≠ N; omega)]
theorem cell_ft {W : World} {N : Nat} {x0 x1 : Value} {t : TypeId} (b3 : W.heap[N]? = some (.cells #[x0, x1] t (0, 0))) : W.cell? ⟨N, 0, none⟩ = some x0 ∧ W.cell? ⟨N, 1, none⟩ = some x1 ∧ W.frozen? ⟨N, 0, none⟩ = false ∧ W.frozen? ⟨N, 1, none⟩ = false :=
  ⟨by rw [World.cell?, b3]; rfl, by rw [World.cell?, b3]; rfl, by rw [World.frozen?, b3]; rfl, by rw [World.frozen?, b3]; rfl⟩
theorem cell_sl {W : World} {N : Nat} {x0 : Value} {t : TypeId} (b : W.heap[N]? = some (.cells #[x0] t (0, 0))) : W.cell? ⟨N, 0, none⟩ = some x0 ∧ W.frozen? ⟨N, 0, none⟩ = false :=
  ⟨by rw [World.cell?, b]; rfl, by rw [World.frozen?, b]; rfl⟩

theorem own_mono {W : World} {b b' : Nat} {e : TypeId} {sz : Nat} {v : Value} {n : Nat} {xs : List Value} (h : W.ownsRow b e sz v n xs) (hb : b' ≤ b) : W.ownsRow b' e sz v n xs := by
  refine ⟨h.1, ?_⟩
  rcases h.2 with h2 | ⟨g, cap, cur, hv, h3, h4⟩
  · exact .inl h2
  · exact .inr ⟨g, cap, cur, hv, Nat.le_trans hb h3, h4⟩
theorem ownsRow_same {W W' : World} {b : Nat} {e : TypeId} {sz : Nat} {v : Value} {n : Nat} {xs : List Value} (h : W.ownsRow b e sz v n xs) (hs : ∀ k, v.ownBlock = some k → W'.heap[k]? = W.heap[k]?) : W'.ownsRow b e sz v n xs := by
  refine ⟨h.1, ?_⟩
  rcases h.2 with h2 | ⟨g, cap, cur, hv, h3, h4, h5⟩
  · exact .inl h2
  · exact .inr ⟨g, cap, cur, hv, h3, (hs g (by rw [hv]; rfl)).trans h4, h5⟩
/-- behind an append, and what it is stored into -/
theorem after_app {W w1 : World} {X : Obj} {vb : Option Nat} {n c : Nat} (u : Value) (hc : c = n + 4) (hlt : c + 2 < W.heap.size) (hg : (W.alloc X).grownBy w1 vb) (hnb : ∀ k, vb = some k → c + 3 ≤ k) :
    Below n W (w1.setCell ⟨n + 2, 0, none⟩ u) ∧ ∀ k, k ≠ n + 2 → k < c + 3 → (w1.setCell ⟨n + 2, 0, none⟩ u).heap[k]? = W.heap[k]? := by
  have key : ∀ k, k ≠ n + 2 → k < c + 3 → (w1.setCell ⟨n + 2, 0, none⟩ u).heap[k]? = W.heap[k]? := fun k hk hk2 => by
    rw [Below.heap_setCell _ _ _ _ hk, hg.block k (by simp; omega) (fun e => by have := hnb k e.symm; omega), Below.heap_alloc _ _ _ (by omega)]
  exact ⟨((((Below.refl n W).alloc (by omega) X).grown hg (by simp; omega) (fun k e => by have := hnb k e; omega)).setCell (p := ⟨n + 2, 0, none⟩) (by show n ≤ n + 2; omega) u), key⟩
theorem cell_five_new (W : World) (a b c d e : Value) (t : TypeId) : ∀ j u, [a, b, c, d, e][j]? = some u → (W.alloc (.cells #[a, b, c, d, e] t)).cell? ((⟨W.heap.size, 0, none⟩ : Addr).add j) = some u := by
  intro j u hj
  have h5 := cells5 (heap_alloc_new W (.cells #[a, b, c, d, e] t (0, 0)))
  match j, hj with
  | 0, hj => simp at hj; subst hj; rw [add_plain]; exact h5.1
  | 1, hj => simp at hj; subst hj; rw [add_plain]; exact h5.2.1
  | 2, hj => simp at hj; subst hj; rw [add_plain]; exact h5.2.2.1
  | 3, hj => simp at hj; subst hj; rw [add_plain]; exact h5.2.2.2.1
  | 4, hj => simp at hj; subst hj; rw [add_plain]; exact h5.2.2.2.2
  | (j + 5), hj => simp at hj

set_option maxHeartbeats 16000000 in
set_option maxRecDepth 100000 in
theorem scan_in (F : Fence) (hF : Open F) (n : Nat) (hn : 3 ≤ n) (s : ByteArray) (hs : s.size ≤ 1000000) (h64 : s.size ≤ 65536) (w : World) (hw : RangeOk w) :
    CallsIn F n Tryz.prog 111 #[.string s] w (ScanOut (coll 0 (items s 0)) w) := by
  have hro := hF.round
  have h1 : 1 ≤ n := by omega
  refine callsIn_of_wp_marks Tryz.func111 rfl (hF.fn _) ?_ hro
  simp only [Tryz.ntmps111, List.size_toArray, List.length_cons, List.length_nil, Nat.reduceAdd, Nat.reduceSub, Array.replicate_succ, Array.replicate_zero, List.push_toArray, List.append_toArray, List.nil_append, List.cons_append]
  gi_wp2_with fail
  refine ⟨hF.fn _, (tokens_in F hF _ s _).mono ?_⟩
  rintro e w' ⟨rfl, rfl⟩
  obtain ⟨W0, hW0⟩ : ∃ W0, ((((w.alloc (.cells #[.slice none 0 0] 159)).alloc (.cells #[.int .i64 0, .int .i64 0] 162)).alloc (.cells #[.slice none 0 0] 159)).alloc (.cells #[.string s] 9)) = W0 := ⟨_, rfl⟩
  have hsz : W0.heap.size = w.heap.size + 4 := by rw [← hW0]; simp
  have g0 : W0.heap[w.heap.size]? = some (.cells #[.slice none 0 0] 159 (0, 0)) := by
    rw [← hW0, Below.heap_alloc _ _ _ (by simp; omega), Below.heap_alloc _ _ _ (by simp; omega), Below.heap_alloc _ _ _ (by simp)]; exact heap_alloc_new w _
  have g1 : W0.heap[w.heap.size + 1]? = some (.cells #[.int .i64 0, .int .i64 0] 162 (0, 0)) := by
    rw [← hW0, Below.heap_alloc _ _ _ (by first | (simp; done) | (simp; omega)), Below.heap_alloc _ _ _ (by simp)]
    have := heap_alloc_new (w.alloc (.cells #[.slice none 0 0] 159)) (.cells #[.int .i64 0, .int .i64 0] 162)
    rwa [World.size_alloc] at this
  have g2 : W0.heap[w.heap.size + 2]? = some (.cells #[.slice none 0 0] 159 (0, 0)) := by
    rw [← hW0, Below.heap_alloc _ _ _ (by simp)]
    have := heap_alloc_new ((w.alloc (.cells #[.slice none 0 0] 159)).alloc (.cells #[.int .i64 0, .int .i64 0] 162)) (.cells #[.slice none 0 0] 159)
    rwa [World.size_alloc, World.size_alloc] at this
  have g3 : W0.heap[w.heap.size + 3]? = some (.cells #[.string s] 9 (0, 0)) := by
    rw [← hW0]
    have := heap_alloc_new (((w.alloc (.cells #[.slice none 0 0] 159)).alloc (.cells #[.int .i64 0, .int .i64 0] 162)).alloc (.cells #[.slice none 0 0] 159)) (.cells #[.string s] 9)
    rwa [World.size_alloc, World.size_alloc, World.size_alloc] at this
  have hB0 : Below w.heap.size w W0 := by
    rw [← hW0]; exact ((((Below.refl _ w).alloc (Nat.le_refl _) _).alloc (by simp) _).alloc (by simp; omega) _).alloc (by simp; omega) _
  rw [hW0]
  clear hW0
  gi_wp2
  refine range_cell hro h1 (gf := 127) (lb := #[.pointer (some ⟨w.heap.size + 3, 0, none⟩)]) rfl (hF.fn _) (enters_of Tryz.func127 (by kernel_rfl) rfl)
    (n₀ := w.heap.size) (Bs := w.heap.size + 3) (by omega) (by omega)
    (iter_stops F hF (n - 1) (by omega) s hs w.heap.size (w.heap.size + 3) W0 (hw.below hB0 (Nat.le_refl _)) (by obtain ⟨ev, h, _⟩ := hw; exact Lib.lt_of_cell h) (by omega) (by rw [World.cell?, g3]; rfl) (by omega)) (fun _ => rfl)
    (fun pre W => (∃ v, Boxed W (w.heap.size + 2) 159 v ∧ W.ownsRow (W0.heap.size + 3) 166 5 v pre.length (rowL (pre.map (·.1)))) ∧ W.heap[w.heap.size]? = some (.cells #[.slice none 0 0] 159 (0, 0)) ∧ W.heap[w.heap.size + 1]? = some (.cells #[.int .i64 0, .int .i64 0] 162 (0, 0)) ∧ Below w.heap.size w W ∧ AllOk 0 pre)
    (fun c pre W => c = .ret ∧ ∃ (pre' : List (Tk × Int)) (x : Tk × Int), pre = pre' ++ [x] ∧ AllOk 0 pre' ∧ verd pre'.length x ≠ 0 ∧ W.heap[w.heap.size]? = some (.cells #[.slice none 0 0] 159 (0, 0)) ∧ W.heap[w.heap.size + 1]? = some (.cells #[.int .i64 x.1.at_, .int .i64 (verd pre'.length x)] 162 (0, 0)) ∧ Below w.heap.size w W)
    ?own ?own2 ?start
    (fun x a' W => ∃ (Bx : Nat) (u1 u7 u8 u9 u10 u11 : Value), W0.heap.size + 2 < Bx ∧ W.heap[Bx]? = some (TkObj x.1) ∧ a' = { tmps := #[.string s, u1, .pointer (some ⟨w.heap.size, 0, none⟩), .pointer (some ⟨w.heap.size + 1, 0, none⟩), .pointer (some ⟨w.heap.size + 2, 0, none⟩), .pointer (some ⟨Bx, 0, none⟩), .int .i64 x.2, u7, u8, u9, u10, u11, .func (.func 127) #[] #[.pointer (some ⟨w.heap.size + 3, 0, none⟩)], .agg #[.int .i64 x.1.kind, .int .i64 x.1.at_, .int .i64 x.1.fin, .string x.1.text, .int .i64 x.1.n], .int .i64 x.2, undef, undef, undef, undef, undef, undef, undef, undef, undef, undef, undef, undef, undef, undef, undef, undef, undef, undef, undef, undef, undef, undef, undef, undef], defers := [] })
    ?ax ?assign ?body ?done ?stop
  case own =>
    rintro pre A B row ⟨⟨v, hv, hr⟩, b2, b3, hb, hok⟩ hg hrow
    have hne : ∀ k, k < W0.heap.size → some k ≠ row := fun k hk e => by have := hrow k e.symm; omega
    refine ⟨⟨v, hv.kept hg (hne _ (by omega)), hr.kept hg ?_⟩, (hg.block _ (lt_heap b2) (hne _ (by omega))).trans b2, (hg.block _ (lt_heap b3) (hne _ (by omega))).trans b3, hb.grown hg hb.size (fun k e => by have := hrow k e; omega), hok⟩
    cases hvo : v.ownBlock with
    | none => exact .inl rfl
    | some k => exact .inr (fun e => by have := hr.lt k hvo; have := hrow k e.symm; omega)
  case own2 =>
    rintro c pre A B row ⟨hc, pre', x, h1, h2, h3, b2, b3, hb⟩ hg hrow
    have hne : ∀ k, k < W0.heap.size → some k ≠ row := fun k hk e => by have := hrow k e.symm; omega
    exact ⟨hc, pre', x, h1, h2, h3, (hg.block _ (lt_heap b2) (hne _ (by omega))).trans b2, (hg.block _ (lt_heap b3) (hne _ (by omega))).trans b3, hb.grown hg hb.size (fun k e => by have := hrow k e; omega)⟩
  case start => exact ⟨⟨_, g2, World.ownsRow_nil _ _ _ _⟩, g0, g1, hB0, fun i hi => by simp at hi⟩
  case ax =>
    rintro x a' u A B row ⟨Bx, u1, u7, u8, u9, u10, u11, h1, h2, h3⟩ hg hrow
    exact ⟨Bx, u1, u7, u8, u9, u10, u11, h1, (hg.block _ (lt_heap h2) (fun e => by have := hrow _ e.symm; omega)).trans h2, h3⟩
  case assign =>
    rintro l pre x W K ⟨⟨v, hv, hr⟩, b2, b3, hb, hok⟩ hlt hK
    gi_wp2
    refine hK _ _ (KeptC.grown (row := none) (by omega) (fun k hk => by simp only [List.mem_cons, List.not_mem_nil, or_false] at hk; omega) (World.grownBy_alloc W _ none) (fun r e => by cases e)) ⟨⟨v, hv.alloc _, hr.alloc _⟩, (Below.heap_alloc W _ _ (lt_heap b2)).trans b2, (Below.heap_alloc W _ _ (lt_heap b3)).trans b3, hb.alloc hb.size _, hok⟩ ⟨W.heap.size, _, _, _, _, _, _, hlt, heap_alloc_new W _, rfl⟩
  case body =>
    rintro l pre x a' W hlt ⟨⟨v, hv, hr⟩, b2, b3, hb, hok⟩ ⟨Bx, u1, u7, u8, u9, u10, u11, hBx, hx, rfl⟩ hM
    have hc := hv.cell
    have hf := hv.frozen
    obtain ⟨a0, a1, a2, a3, a4⟩ := cells5 hx
    obtain ⟨ao, cap, rfl⟩ : ∃ ao cap, v = .slice ao pre.length cap := by
      rcases hr.2 with ⟨hv', h0⟩ | ⟨g, cap, cur, hv', _⟩
      · exact ⟨none, 0, by rw [hv', h0]⟩
      · exact ⟨_, _, hv'⟩
    obtain ⟨e20, f20⟩ := cell_sl b2
    obtain ⟨e30, e31, f30, f31⟩ := cell_ft b3
    have hmx : Tryz.prog.follows .mixedOrders = true := by kernel_rfl
    have hlen := items_len s (s.size + 1) 0 (Nat.zero_le _)
    have hlen2 : pre.length < s.size + 1 := Nat.lt_of_lt_of_le hM hlen
    have hkeep : ∀ k, k ∈ [w.heap.size + 3, W0.heap.size, W0.heap.size + 1, W0.heap.size + 2] → w.heap.size + 1 < k ∧ k < W.heap.size ∧ k < W0.heap.size + 3 ∧ k ≠ w.heap.size + 2 := fun k hk => by simp only [List.mem_cons, List.not_mem_nil, or_false] at hk; omega
    by_cases he : x.2 = 0
    · have qe : (x.2 == 0) = true := by rw [beq_iff_eq]; exact he
      have qe2 : (x.2 != 0) = false := by rw [bne_eq_false_iff_eq]; exact he
      by_cases hl : pre.length = 16384 ∧ x.1.kind ≠ 9
      · have hv6 : verd pre.length x = 6 := by unfold verd; rw [if_pos ⟨he, hl⟩]
        have ql : ((pre.length : Int) == 16384) = true := by rw [beq_iff_eq]; omega
        have qk : (x.1.kind != 9) = true := by rw [bne_iff_ne]; exact hl.2
        have HV := Lib.hid hv6
        clear hv6 hl he
        gi_wp2
        gi_region
        all_goals gi_wp2
        all_goals (obtain ⟨r1, r2, r3, r4⟩ := two_rows (v := .slice none 0 0) (a := .int .i64 x.1.at_) (e := .int .i64 6) b2 b3 hb; exact ⟨⟨(Below.refl _ _).trans ⟨rfl, rfl, rfl, by simp [World.setCell, World.drew], fun k hk => (r3.block k hk).trans (hb.block k hk).symm⟩, fun k hk => r4 k (hkeep k hk).1⟩, rfl, pre, x, rfl, hok, by rw [HV.out]; decide, r1, by rw [HV.out]; exact r2, r3.drew⟩)
      · have hv0 : verd pre.length x = 0 := by unfold verd; rw [if_neg (fun h => hl h.2)]; exact he
        have hqk : pre.length = 16384 → x.1.kind = 9 := fun h => by
          rcases Decidable.em (x.1.kind = 9) with h9 | h9
          · exact h9
          · exact absurd ⟨h, h9⟩ hl
        have HV := Lib.hid hv0
        clear hv0 hl he
        have hnb : ∀ k, (Value.slice ao pre.length cap).ownBlock = some k → W0.heap.size + 3 ≤ k := fun k hk => (hr.lt k hk).1
        obtain ⟨i0, hi, hz0, hz1, hz2⟩ := info_parts info_tk
        by_cases hq : pre.length = 16384
        · have ql : ((pre.length : Int) == 16384) = true := by rw [beq_iff_eq]; omega
          have qk : (x.1.kind != 9) = false := by rw [bne_eq_false_iff_eq]; exact hqk hq
          clear hqk hq
          gi_wp2_with (gi_at_builtin; refine wpListIn_append_own _ rfl _ _ 159 rfl (W0.heap.size + 3) 166 i0 (.agg #[.int .i64 0, .int .i64 0, .int .i64 0, .string ⟨#[]⟩, .int .i64 0]) 5 48 Tryz.underlying159 hi hz0 hz1 hz2 rfl (by decide) _ _ _ rfl (hr.alloc _) ⟨W.heap.size, 0, none⟩ 1 1 [.int .i64 x.1.kind, .int .i64 x.1.at_, .int .i64 x.1.fin, .string x.1.text, .int .i64 x.1.n] rfl rfl (cell_five_new _ _ _ _ _ _ _) (by simp [Value.oneCell']) (by unfold maxLen; omega) (by omega) (by simp; omega) ?_; intro v' w1 hown' hgrow _; obtain ⟨g', cap', rfl⟩ := ownsRow_succ hown'; have hv1 := (hv.alloc _).kept hgrow (fun e => by have := hnb _ e.symm; omega); have hc1 := hv1.cell; have hf1 := hv1.frozen)
          obtain ⟨r1, r2⟩ := after_app (n := w.heap.size) (c := W0.heap.size) (.slice (some ⟨g', 0, none⟩) (pre.length + 1) cap') (by omega) hlt hgrow hnb
          refine ⟨⟨r1, fun k hk => r2 k (hkeep k hk).2.2.2 (hkeep k hk).2.2.1⟩, ⟨⟨_, hv1.set _, ?_⟩, (r2 _ (by omega) (by omega)).trans b2, (r2 _ (by omega) (by omega)).trans b3, hb.trans r1, hok.snoc (by rw [Nat.zero_add]; exact HV.out)⟩⟩
          rw [List.map_append, List.map_singleton, rowL_snoc, List.length_append]
          exact hown'.kept (grownBy_setCell' w1 _ _) (.inr (fun e => by have := (hown'.lt _ e).1; omega))
        · have ql : ((pre.length : Int) == 16384) = false := by rw [beq_eq_false_iff_ne]; omega
          clear hqk hq
          gi_wp2_with (gi_at_builtin; refine wpListIn_append_own _ rfl _ _ 159 rfl (W0.heap.size + 3) 166 i0 (.agg #[.int .i64 0, .int .i64 0, .int .i64 0, .string ⟨#[]⟩, .int .i64 0]) 5 48 Tryz.underlying159 hi hz0 hz1 hz2 rfl (by decide) _ _ _ rfl (hr.alloc _) ⟨W.heap.size, 0, none⟩ 1 1 [.int .i64 x.1.kind, .int .i64 x.1.at_, .int .i64 x.1.fin, .string x.1.text, .int .i64 x.1.n] rfl rfl (cell_five_new _ _ _ _ _ _ _) (by simp [Value.oneCell']) (by unfold maxLen; omega) (by omega) (by simp; omega) ?_; intro v' w1 hown' hgrow _; obtain ⟨g', cap', rfl⟩ := ownsRow_succ hown'; have hv1 := (hv.alloc _).kept hgrow (fun e => by have := hnb _ e.symm; omega); have hc1 := hv1.cell; have hf1 := hv1.frozen)
          obtain ⟨r1, r2⟩ := after_app (n := w.heap.size) (c := W0.heap.size) (.slice (some ⟨g', 0, none⟩) (pre.length + 1) cap') (by omega) hlt hgrow hnb
          refine ⟨⟨r1, fun k hk => r2 k (hkeep k hk).2.2.2 (hkeep k hk).2.2.1⟩, ⟨⟨_, hv1.set _, ?_⟩, (r2 _ (by omega) (by omega)).trans b2, (r2 _ (by omega) (by omega)).trans b3, hb.trans r1, hok.snoc (by rw [Nat.zero_add]; exact HV.out)⟩⟩
          rw [List.map_append, List.map_singleton, rowL_snoc, List.length_append]
          exact hown'.kept (grownBy_setCell' w1 _ _) (.inr (fun e => by have := (hown'.lt _ e).1; omega))
    · have qe : (x.2 == 0) = false := by rw [beq_eq_false_iff_ne]; exact he
      have qe2 : (x.2 != 0) = true := by rw [bne_iff_ne]; exact he
      have hv6 : verd pre.length x = x.2 := by unfold verd; rw [if_neg (fun h => he h.1)]
      have HV := Lib.hid hv6
      have HE := Lib.hid he
      clear hv6 he
      gi_wp2
      gi_region
      all_goals gi_wp2
      all_goals (obtain ⟨r1, r2, r3, r4⟩ := two_rows (v := .slice none 0 0) (a := .int .i64 x.1.at_) (e := .int .i64 x.2) b2 b3 hb; exact ⟨⟨(Below.refl _ _).trans ⟨rfl, rfl, rfl, by simp [World.setCell, World.drew], fun k hk => (r3.block k hk).trans (hb.block k hk).symm⟩, fun k hk => r4 k (hkeep k hk).1⟩, rfl, pre, x, rfl, hok, by rw [HV.out]; exact HE.out, r1, by rw [HV.out]; exact r2, r3.drew⟩)
  case done =>
    rintro xs W rfl ⟨⟨v, hv, hr⟩, b2, b3, hb, hok⟩ hK
    have hc := hv.cell
    have hf := hv.frozen
    obtain ⟨ao, cap, rfl⟩ : ∃ ao cap, v = .slice ao (items s 0).length cap := by
      rcases hr.2 with ⟨hv', h0⟩ | ⟨g, cap, cur, hv', _⟩
      · exact ⟨none, 0, by rw [hv', h0]⟩
      · exact ⟨_, _, hv'⟩
    obtain ⟨e20, f20⟩ := cell_sl b2
    obtain ⟨e30, e31, f30, f31⟩ := cell_ft b3
    gi_wp2
    obtain ⟨r1, r2, r3, r4⟩ := two_rows (v := .slice ao (items s 0).length cap) (a := .int .i64 0) (e := .int .i64 0) b2 b3 hb
    generalize (((W.setCell ⟨w.heap.size, 0, none⟩ (.slice ao (items s 0).length cap)).setCell ⟨w.heap.size + 1, 0, none⟩ (.int .i64 0)).setCell ⟨w.heap.size + 1, 1, none⟩ (.int .i64 0)) = W3 at r1 r2 r3 r4 ⊢
    have hK3 := (r4 W0.heap.size (by omega)).trans hK
    refine ⟨by simp, .inl ⟨_, _, rfl, run_takeDeferred hK3, ?_⟩⟩
    have p2 : (W3.putObj W0.heap.size (.deferred none)).heap[w.heap.size]? = _ := (World.putObj_heap_other (by omega)).trans r1
    have p3 : (W3.putObj W0.heap.size (.deferred none)).heap[w.heap.size + 1]? = _ := (World.putObj_heap_other (by omega)).trans r2
    obtain ⟨e20, f20⟩ := cell_sl p2
    obtain ⟨e30, e31, f30, f31⟩ := cell_ft p3
    refine ⟨.tuple #[.slice ao (items s 0).length cap, .agg #[.int .i64 0, .int .i64 0]], by simp [results, Tryz.results111, go_sem, e20, e30, e31], ?_⟩
    have hcoll := coll_ok (items s 0) 0 hok
    refine ⟨.slice ao (items s 0).length cap, by rw [hcoll]; rfl, ?_, r3.trans ⟨rfl, rfl, rfl, by simp, fun k hk => World.putObj_heap_other (by omega)⟩⟩
    rw [hcoll]
    simp only [Sum.elim_inl, List.length_map]
    refine ownsRow_same (own_mono hr (by omega)) (fun k hk => ?_)
    have := (hr.lt k hk).1
    exact (World.putObj_heap_other (by omega)).trans (r4 k (by omega))
  case stop =>
    rintro c pre W hpre ⟨rfl, pre', x, rfl, h2, h3, b2, b3, hb⟩ hK
    gi_wp2
    refine ⟨by simp, .inl ⟨_, _, rfl, run_takeDeferred hK, ?_⟩⟩
    have p2 : (W.putObj W0.heap.size (.deferred none)).heap[w.heap.size]? = _ := (World.putObj_heap_other (by omega)).trans b2
    have p3 : (W.putObj W0.heap.size (.deferred none)).heap[w.heap.size + 1]? = _ := (World.putObj_heap_other (by omega)).trans b3
    obtain ⟨e20, f20⟩ := cell_sl p2
    obtain ⟨e30, e31, f30, f31⟩ := cell_ft p3
    refine ⟨.tuple #[.slice none 0 0, .agg #[.int .i64 x.1.at_, .int .i64 (verd pre'.length x)]], by simp [results, Tryz.results111, go_sem, e20, e30, e31], ?_⟩
    obtain ⟨r, hr⟩ := hpre
    have hcoll : coll 0 (items s 0) = .inr (x.1.at_, verd pre'.length x) := by
      rw [← hr, List.append_assoc, List.singleton_append, coll_bad pre' 0 x r h2 (by rw [Nat.zero_add]; exact h3), Nat.zero_add]
    refine ⟨.slice none 0 0, by rw [hcoll]; rfl, ?_, hb.trans ⟨rfl, rfl, rfl, by simp, fun k hk => World.putObj_heap_other (by omega)⟩⟩
    rw [hcoll]
    exact World.ownsRow_nil _ _ _ _

set_option maxHeartbeats 2000000 in
theorem scan_big (s : ByteArray) (h64 : 65536 < s.size) (hs : s.size ≤ 1000000) (w : World) : Calls Tryz.prog 111 #[.string s] w (ScanOut (.inr (0, 6)) w) := by
  have h6 : (65536 : Int) < s.size := by omega
  go_enter Tryz.func111, Tryz.ntmps111
  go_wp2
  exact bodyPost_ret (v := .tuple #[.slice none 0 0, .agg #[.int .i64 0, .int .i64 6]]) (by simp [results, Tryz.results111, go_sem]) rfl ⟨.slice none 0 0, rfl, World.ownsRow_nil _ _ _ _, ((Below.refl _ _).alloc (Nat.le_refl _) _).alloc (by simp) _⟩
/-- **Scan, of any text** -/
theorem scan_any (s : ByteArray) (hs : s.size ≤ 1000000) (w : World) (hw : RangeOk w) : Calls Tryz.prog 111 #[.string s] w (ScanOut (scanP s) w) := by
  unfold scanP
  by_cases h : 65536 < s.size
  · rw [if_pos h]; exact scan_big s h hs w
  · rw [if_neg h]; exact callsIn_wide.1 (scan_in Fence.wide open_wide 3 (by omega) s hs (by omega) w hw)
end Go.Proofs.YtkdhoelabomgkaaGreatDoor
/-
  Layer 2, the laws' side: what must come; a scan's tokens as rows.
-/
namespace Go.Proofs.YtkdhoelabomgkaaGreatDoor
set_option linter.unusedVariables false
open Go.ChangeShapes Go.WideShapes Go.ChangeAt Go.RowKit

/-- tokens in a row of the call's own, block g -/
structure TkRows (w : World) (B g : Nat) (l : List Tk) : Prop where
  lo : B ≤ g
  hi : g < w.heap.size
  cell : ∀ (i : Nat) (t : Tk), l[i]? = some t → w.cell? ⟨g, i * 5, none⟩ = some (.int .i64 t.kind) ∧ w.cell? ⟨g, i * 5 + 1, none⟩ = some (.int .i64 t.at_) ∧ w.cell? ⟨g, i * 5 + 2, none⟩ = some (.int .i64 t.fin) ∧ w.cell? ⟨g, i * 5 + 3, none⟩ = some (.string t.text) ∧ w.cell? ⟨g, i * 5 + 4, none⟩ = some (.int .i64 t.n)
theorem TkRows.below {w w' : World} {B g : Nat} {l : List Tk} (h : TkRows w B g l) (hb : Below w.heap.size w w') : TkRows w' B g l :=
  ⟨h.lo, Nat.lt_of_lt_of_le h.hi hb.size, fun i t ht => by
    obtain ⟨a, b, c, d, e⟩ := h.cell i t ht
    exact ⟨(hb.cell (p := ⟨g, i * 5, none⟩) h.hi).trans a, (hb.cell (p := ⟨g, i * 5 + 1, none⟩) h.hi).trans b, (hb.cell (p := ⟨g, i * 5 + 2, none⟩) h.hi).trans c, (hb.cell (p := ⟨g, i * 5 + 3, none⟩) h.hi).trans d, (hb.cell (p := ⟨g, i * 5 + 4, none⟩) h.hi).trans e⟩⟩
theorem TkRows.alloc {w : World} {B g : Nat} {l : List Tk} (h : TkRows w B g l) (o : Obj) : TkRows (w.alloc o) B g l := h.below ((Below.refl _ w).alloc (Nat.le_refl _) o)
theorem rowL_at : ∀ (l : List Tk) (i : Nat) (t : Tk), l[i]? = some t → (rowL l)[i * 5]? = some (.int .i64 t.kind) ∧ (rowL l)[i * 5 + 1]? = some (.int .i64 t.at_) ∧ (rowL l)[i * 5 + 2]? = some (.int .i64 t.fin) ∧ (rowL l)[i * 5 + 3]? = some (.string t.text) ∧ (rowL l)[i * 5 + 4]? = some (.int .i64 t.n)
  | [], i, t, h => by simp at h
  | x :: l, 0, t, h => by
    simp at h
    subst h
    simp [rowL]
  | x :: l, i + 1, t, h => by
    have ih := rowL_at l i t (by simpa using h)
    have e : rowL (x :: l) = [.int .i64 x.kind, .int .i64 x.at_, .int .i64 x.fin, .string x.text, .int .i64 x.n] ++ rowL l := by simp [rowL]
    have key : ∀ m, (rowL (x :: l))[(i + 1) * 5 + m]? = (rowL l)[i * 5 + m]? := fun m => by
      rw [e, List.getElem?_append_right (by simp; omega)]
      congr 1
      simp
      omega
    exact ⟨(key 0).trans ih.1, (key 1).trans ih.2.1, (key 2).trans ih.2.2.1, (key 3).trans ih.2.2.2.1, (key 4).trans ih.2.2.2.2⟩
/-- **a scan that tells tokens** -/
theorem scan_yes {s : ByteArray} {l : List Tk} (hs : s.size ≤ 1000000) (h : scanP s = .inl l) (hl : l ≠ []) (w : World) (hw : RangeOk w) :
    Calls Tryz.prog 111 #[.string s] w fun e w' => ∃ g cap, e = .returned (.tuple #[.slice (some ⟨g, 0, none⟩) l.length cap, .agg #[.int .i64 0, .int .i64 0]]) ∧ l.length ≤ cap ∧ cap ≤ maxLen ∧ TkRows w' w.heap.size g l ∧ Below w.heap.size w w' := by
  have hc := scan_any s hs w hw
  rw [h] at hc
  refine hc.mono ?_
  rintro e w' ⟨v, rfl, hr, hb⟩
  simp only [Sum.elim_inl] at hr ⊢
  obtain ⟨hlen, ⟨hv, h0⟩ | ⟨g, cap, cur, rfl, hg, hcur, h1, h2, h3, h4⟩⟩ := hr
  · exact absurd (List.length_eq_zero_iff.1 h0) hl
  · refine ⟨g, cap, rfl, h1, h2, ⟨hg, lt_heap hcur, fun i t ht => ?_⟩, hb⟩
    have hi : i < l.length := by
      rcases Nat.lt_or_ge i l.length with q | q
      · exact q
      · rw [List.getElem?_eq_none q] at ht; cases ht
    have hat : ∀ j u, j < l.length * 5 → (rowL l)[j]? = some u → w'.cell? ⟨g, j, none⟩ = some u := fun j u hj hu => by
      rw [← h4, List.getElem?_take_of_lt hj] at hu
      rw [cell_of_row w' g j _ _ _ hcur]
      simpa using hu
    obtain ⟨a, b, c, d, f⟩ := rowL_at l i t ht
    exact ⟨hat _ _ (by omega) a, hat _ _ (by omega) b, hat _ _ (by omega) c, hat _ _ (by omega) d, hat _ _ (by omega) f⟩
/-- a scan that tells a fault -/
theorem scan_no {s : ByteArray} {p : Nat × Int} (hs : s.size ≤ 1000000) (h : scanP s = .inr p) (w : World) (hw : RangeOk w) :
    Calls Tryz.prog 111 #[.string s] w fun e w' => ∃ ao cap, e = .returned (.tuple #[.slice ao 0 cap, .agg #[.int .i64 p.1, .int .i64 p.2]]) ∧ Below w.heap.size w w' := by
  have hc := scan_any s hs w hw
  rw [h] at hc
  refine hc.mono ?_
  rintro e w' ⟨v, rfl, hr, hb⟩
  simp only [Sum.elim_inr] at hr ⊢
  obtain ⟨hlen, ⟨rfl, h0⟩ | ⟨g, cap, cur, rfl, hg, hcur, h1, h2, h3, h4⟩⟩ := hr
  · exact ⟨_, _, rfl, hb⟩
  · exact ⟨_, _, rfl, hb⟩

abbrev knowL : List Tk := [⟨1, 0, 1, ⟨#[120]⟩, 0⟩, ⟨6, 1, 2, ⟨#[43]⟩, 0⟩, ⟨3, 2, 3, ⟨#[49]⟩, 1⟩, ⟨9, 3, 3, ⟨#[]⟩, 0⟩]
theorem know_scan : scanP ⟨#[120, 43, 49]⟩ = .inl knowL := by kernel_rfl

/-- the fault's row: none -/
abbrev ftO (a e : Int) : Obj := .cells #[.int .i64 a, .int .i64 e] 162 (0, 0)

end Go.Proofs.YtkdhoelabomgkaaGreatDoor/-
  Layer 3, the program's side: RightExpr of the constants' trees (names, numbers, calls).
-/
namespace Go.Proofs.YtkdhoelabomgkaaGreatDoor
set_option linter.unusedVariables false
open Go.ChangeShapes Go.WideShapes Go.ChangeAt Go.RowKit

set_option maxHeartbeats 1600000 in
set_option maxRecDepth 100000 in
theorem rhead_int (p m : Int) (hm : 0 ≤ m) (P : Nat → Prop) (E : Addr) (w : World) (h : IsEx w P E (.mk 3 p ⟨#[]⟩ m [] [] [] [])) :
    Calls Tryz.prog 64 #[.pointer (some E)] w fun e w' => e = .returned (.bool true) ∧ Below w.heap.size w w' := by
  obtain ⟨c0, _, c2, _, c3, ⟨a4, b4, c4, _, m4, x4⟩, ⟨a5, b5, c5, _, m5, x5⟩, ⟨a6, b6, c6, _, m6, x6⟩, ⟨a7, b7, c7, _, m7, x7⟩⟩ := h.cells
  clear h x4 x5 x6 x7
  go_enter Tryz.func64, Tryz.ntmps64
  go_wp2
  go_quiet (fail)
  go_wp2
  go_quiet (fail)
  go_wp2
  try (go_quiet (fail))
  go_ret
  exact ⟨rfl, by first | exact Below.refl _ _ | exact drew_below w _ | exact (drew_below w _).trans (drew_below _ _)⟩

set_option maxHeartbeats 1600000 in
set_option maxRecDepth 100000 in
theorem rhead_call (p : Int) (x y : Ex) (P : Nat → Prop) (E : Addr) (w : World) (h : IsEx w P E (.mk 6 p ⟨#[]⟩ 0 [x, y] [] [] [])) :
    Calls Tryz.prog 64 #[.pointer (some E)] w fun e w' => e = .returned (.bool true) ∧ Below w.heap.size w w' := by
  obtain ⟨c0, _, c2, _, c3, ⟨a4, b4, c4, _, m4, x4⟩, ⟨a5, b5, c5, _, m5, x5⟩, ⟨a6, b6, c6, _, m6, x6⟩, ⟨a7, b7, c7, _, m7, x7⟩⟩ := h.cells
  clear h x4 x5 x6 x7
  go_enter Tryz.func64, Tryz.ntmps64
  go_wp2
  go_quiet (fail)
  go_wp2
  go_quiet (fail)
  go_wp2
  try (go_quiet (fail))
  go_ret
  exact ⟨rfl, by first | exact Below.refl _ _ | exact drew_below w _ | exact (drew_below w _).trans (drew_below _ _)⟩

set_option maxHeartbeats 1600000 in
set_option maxRecDepth 100000 in
theorem rhead_name (p : Int) (n : ByteArray) (hn : nameB n = true) (P : Nat → Prop) (E : Addr) (w : World) (h : IsEx w P E (.mk 1 p n 0 [] [] [] [])) :
    Calls Tryz.prog 64 #[.pointer (some E)] w fun e w' => e = .returned (.bool true) ∧ Below w.heap.size w w' := by
  obtain ⟨c0, _, c2, _, c3, ⟨a4, b4, c4, _, m4, x4⟩, ⟨a5, b5, c5, _, m5, x5⟩, ⟨a6, b6, c6, _, m6, x6⟩, ⟨a7, b7, c7, _, m7, x7⟩⟩ := h.cells
  have hs : n.size ≤ maxLen := by
    unfold maxLen
    unfold nameB wordB at hn
    simp only [Bool.and_eq_true, decide_eq_true_eq] at hn
    omega
  have HN := Lib.hid hn
  clear h x4 x5 x6 x7 hn
  go_enter Tryz.func64, Tryz.ntmps64
  go_wp2_with fail
  go_quiet (fail)
  go_wp2_with fail
  go_quiet (fail)
  go_wp2_with fail
  refine (pisname_any n hs _).mono ?_
  rw [HN.out]
  rintro e w' ⟨rfl, rfl⟩
  go_wp2
  go_ret
  exact ⟨rfl, by first | exact Below.refl _ _ | exact drew_below w _ | exact (drew_below w _).trans (drew_below _ _)⟩
end Go.Proofs.YtkdhoelabomgkaaGreatDoor
