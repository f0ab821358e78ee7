/-
  Layer 2: the document's one at a Name, a Con or a Key, and at a quote.
-/
import Derived.Test.YtifmbhcajlnhbaaDoorOne
import Derived.Test.YtifmbhcajlnhbaaDoorPReadAll
import Derived.Deep.DeepCutAuto
namespace Go.Proofs.YtifmbhcajlnhbaaDoor
set_option linter.unusedVariables false
open Go.ChangeShapes Go.WideShapes Go.ChangeAt Go.RowKit

/-- a struct is stored into a row of the call's own -/
theorem store_any {ops : Array Oper} {rest : List Oper} {o : Oper} {a : Act} {w0 w : World} {Q : Exit → Act → World → Prop} (ty : TypeId) (cs : Array Value) (B N : Nat) (old : Array Value)
    (hN : w.heap[N]? = some (.cells old ty (0, 0))) (hb : Below B w0 w) (hBN : B ≤ N) (hi : (Tryd.prog.info? ty).map (·.size) = some cs.size) (hold : old.size = cs.size) (h1 : cs.all (·.oneCell') = true) (hgd : o.guard = none) (x y : Operand) (ho : o.op = .store ty x y)
    (hx : a.eval x = .pointer (some ⟨N, 0, none⟩)) (hy : a.eval y = .agg cs)
    (h : ∀ W2, W2.heap[N]? = some (.cells cs ty (0, 0)) → Below B w0 W2 → (∀ k, k ≠ N → W2.heap[k]? = w.heap[k]?) → wpList Tryd.prog ops Q rest (a.put o.dst undef) W2) : wpList Tryd.prog ops Q (o :: rest) a w :=
  wpList_store_row hgd ty x y ho N cs hx hy ty old hN hi hold h1 (h _ (row_store w N old _ _ hN) (below_row hb _ _ hBN) (fun k hk => setRow_other w N k cs hk))
theorem frozen5 {w : World} {g : Nat} {cs : Array Value} {t : TypeId} (h : w.heap[g]? = some (.cells cs t (0, 0))) (j : Nat) : w.frozen? ⟨g, j, none⟩ = false := by
  rw [World.frozen?, h]; simp
theorem info_rt : (Tryd.prog.info? 39).map (·.size) = some 5 := by kernel_rfl
theorem info_rf : (Tryd.prog.info? 32).map (·.size) = some 2 := by kernel_rfl
theorem two_cells {w : World} {g : Nat} {a b : Value} {t : TypeId} {fr : Nat × Nat} (h : w.heap[g]? = some (.cells #[a, b] t fr)) : w.cell? ⟨g, 0, none⟩ = some a ∧ w.cell? ⟨g, 1, none⟩ = some b :=
  ⟨by rw [cell_of_row w g 0 _ t fr h]; rfl, by rw [cell_of_row w g 1 _ t fr h]; rfl⟩
/-- three rows of the call's own, behind a callee -/
theorem three_rows {w w1 : World} {a b c : Obj} (hb1 : Below (((w.alloc a).alloc b).alloc c).heap.size (((w.alloc a).alloc b).alloc c) w1) :
    w1.heap[w.heap.size]? = some a ∧ w1.heap[w.heap.size + 1]? = some b ∧ w1.heap[w.heap.size + 2]? = some c ∧ Below w.heap.size w w1 := by
  have h1 := heap_alloc_new w a
  have h2 := heap_alloc_new (w.alloc a) b
  have h3 := heap_alloc_new ((w.alloc a).alloc b) c
  rw [show (w.alloc a).heap.size = w.heap.size + 1 by simp] at h2
  rw [show ((w.alloc a).alloc b).heap.size = w.heap.size + 2 by simp] at h3
  have s3 : (((w.alloc a).alloc b).alloc c).heap.size = w.heap.size + 3 := by simp
  rw [s3] at hb1
  refine ⟨(hb1.block _ (by omega)).trans ?_, (hb1.block _ (by omega)).trans ?_, (hb1.block _ (by omega)).trans h3, ((((Below.refl w.heap.size w).alloc (Nat.le_refl _) a).alloc (by simp) b).alloc (by simp; omega) c).trans (hb1.mono (by omega))⟩
  · rw [Below.heap_alloc _ _ _ (by simp; omega), Below.heap_alloc _ _ _ (by simp)]; exact h1
  · rw [Below.heap_alloc _ _ _ (by simp)]; exact h2
/-- a token, the document's -/
abbrev rTk (k a f : Int) (t : ByteArray) (n : Int) : Obj := .cells (tkC k a f t n) 39 (0, 0)
abbrev rFt (a e : Int) : Obj := .cells #[.int .i64 a, .int .i64 e] 32 (0, 0)

set_option maxHeartbeats 8000000 in
set_option maxRecDepth 100000 in
theorem one_name (s : ByteArray) (hs : s.size ≤ 1000000) (i : Nat) (hi : i < s.size) (c : Int) (hc : cls (atB s i) = c) (h34 : c = 3 ∨ c = 4) (w : World) :
    Calls Tryd.prog 21 #[.string s, .int .i64 i] w fun e w' => e = .returned (oneV (oneAt s i)) ∧ Below w.heap.size w w' := by
  have h34' : cls (atB s i) = 3 ∨ cls (atB s i) = 4 := by rw [hc]; exact h34
  have hw := wordEnd_more hi (cls34 h34')
  have hrun : ∀ w, Calls Tryd.prog 31 #[.string s, .int .i64 i] w fun e w' => e = .returned (.int .i64 (wordEnd s i)) ∧ w = w' := fun w =>
    (run_any s hs i (by omega) w).mono fun e w' ⟨m, h1, h2, h3⟩ => ⟨by rw [h1, h2.unique (wordEnd_ok s i (by omega))], h3⟩
  have HR := Lib.hid hrun
  have hO : oneAt s i = nameAt s i := by unfold oneAt; rw [if_pos h34']
  clear hrun h34'
  by_cases hl : 32 < wordEnd s i - i
  · have HE : Hid (oneAt s i = .inr (i, 6)) := Lib.hid (by rw [hO]; unfold nameAt; rw [if_pos hl])
    have hl2 : (32 : Int) < (wordEnd s i : Int) - i := by omega
    clear hO
    rcases h34 with rfl | rfl
    all_goals
      go_enter Tryd.func21, Tryd.ntmps21
      go_wp2_with fail
      refine (rclass_at s i hi _).mono ?_
      rw [hc]
      rintro e w' ⟨rfl, rfl⟩
      go_wp2_with fail
      refine (HR.out _).mono ?_
      rintro e w' ⟨rfl, rfl⟩
      go_wp2_with fail
      refine (rclass_at s i hi _).mono ?_
      rw [hc]
      rintro e w' ⟨rfl, rfl⟩
      go_wp2
      exact bodyPost_ret (v := .tuple #[.agg #[.int .i64 0, .int .i64 0, .int .i64 0, .string ⟨#[]⟩, .int .i64 0], .agg #[.int .i64 i, .int .i64 6]]) (by simp [results, Tryd.results21, go_sem]) rfl ⟨by rw [HE.out]; rfl, (((Below.refl _ _).alloc (Nat.le_refl _) _).alloc (by simp) _).alloc (by first | (simp; done) | (simp; omega)) _⟩
  · have hl2 : ¬ (32 : Int) < (wordEnd s i : Int) - i := by omega
    obtain ⟨T, hT⟩ : ∃ T, T = s.extract i (wordEnd s i) := ⟨_, rfl⟩
    have HK := Lib.hid fun w => key_any T w
    by_cases hk : inL keysL T = true
    · have HE : Hid (oneAt s i = .inl ⟨8, i, wordEnd s i, T, 0⟩) := Lib.hid (by rw [hO]; unfold nameAt; rw [if_neg hl, ← hT, if_pos hk])
      rw [hT] at HK HE hk
      clear hO hT
      rcases h34 with rfl | rfl
      all_goals
        go_enter Tryd.func21, Tryd.ntmps21
        go_wp2_with fail
        refine (rclass_at s i hi _).mono ?_
        rw [hc]
        rintro e w' ⟨rfl, rfl⟩
        go_wp2_with fail
        refine (HR.out _).mono ?_
        rintro e w' ⟨rfl, rfl⟩
        go_wp2_with fail
        refine (rclass_at s i hi _).mono ?_
        rw [hc]
        rintro e w' ⟨rfl, rfl⟩
        go_wp2_with fail
        refine (HK.out _).mono ?_
        rintro e w1 ⟨rfl, hb1⟩
        obtain ⟨h0, h1, h2, hb⟩ := three_rows hb1
        obtain ⟨c0, c1, c2, c3, c4⟩ := cells5 h2
        have f0 := frozen5 h2 0
        have H0 : ∀ v, (w1.setCell ⟨w.heap.size + 2, 0, none⟩ v).heap[w.heap.size]? = some (rTk 0 0 0 ⟨#[]⟩ 0) := fun v => (Below.heap_setCell _ _ _ _ (by show w.heap.size ≠ w.heap.size + 2; omega)).trans h0
        have H1 : ∀ v, (w1.setCell ⟨w.heap.size + 2, 0, none⟩ v).heap[w.heap.size + 1]? = some (rFt 0 0) := fun v => (Below.heap_setCell _ _ _ _ (by show w.heap.size + 1 ≠ w.heap.size + 2; omega)).trans h1
        have HB : ∀ v, Below w.heap.size w (w1.setCell ⟨w.heap.size + 2, 0, none⟩ v) := fun v => hb.setCell (p := ⟨w.heap.size + 2, 0, none⟩) (by show w.heap.size ≤ w.heap.size + 2; omega) v
        go_wp2_with (first | (refine store_any 39 (tkC 8 i (wordEnd s i) (s.extract i (wordEnd s i)) 0) w.heap.size w.heap.size _ (H0 _) (HB _) (Nat.le_refl _) info_rt rfl (by simp [Value.oneCell']) rfl _ _ rfl rfl rfl ?_; intro W2 k2 hb2 ho2) | (refine store_any 32 #[.int .i64 0, .int .i64 0] w.heap.size (w.heap.size + 1) _ ((ho2 _ (by omega)).trans (H1 _)) hb2 (by omega) info_rf rfl (by simp [Value.oneCell']) rfl _ _ rfl rfl rfl ?_; intro W3 k3 hb3 ho3))
        obtain ⟨a0, a1, a2, a3, a4⟩ := cells5 ((ho3 _ (by omega)).trans k2)
        obtain ⟨b0, b1⟩ := two_cells k3
        refine bodyPost_ret (v := .tuple #[.agg #[.int .i64 8, .int .i64 i, .int .i64 (wordEnd s i), .string (s.extract i (wordEnd s i)), .int .i64 0], .agg #[.int .i64 0, .int .i64 0]]) (by simp [results, Tryd.results21, go_sem, a0, a1, a2, a3, a4, b0, b1]) rfl ⟨?_, hb3⟩
        rw [HE.out]; rfl
    · have hk' : inL keysL T = false := by simpa using hk
      have HE : Hid (oneAt s i = .inl ⟨if c = 3 then 1 else 2, i, wordEnd s i, T, 0⟩) := Lib.hid (by rw [hO]; unfold nameAt; rw [if_neg hl, ← hT, if_neg hk, hc])
      rw [hT] at HK HE hk'
      clear hO hT hk
      rcases h34 with rfl | rfl
      · go_enter Tryd.func21, Tryd.ntmps21
        go_wp2_with fail
        refine (rclass_at s i hi _).mono ?_
        rw [hc]
        rintro e w' ⟨rfl, rfl⟩
        go_wp2_with fail
        refine (HR.out _).mono ?_
        rintro e w' ⟨rfl, rfl⟩
        go_wp2_with fail
        refine (rclass_at s i hi _).mono ?_
        rw [hc]
        rintro e w' ⟨rfl, rfl⟩
        go_wp2_with fail
        refine (HK.out _).mono ?_
        rintro e w1 ⟨rfl, hb1⟩
        obtain ⟨h0, h1, h2, hb⟩ := three_rows hb1
        obtain ⟨c0, c1, c2, c3, c4⟩ := cells5 h2
        go_wp2_with (first | (refine store_any 39 (tkC 1 i (wordEnd s i) (s.extract i (wordEnd s i)) 0) w.heap.size w.heap.size _ h0 hb (Nat.le_refl _) info_rt rfl (by simp [Value.oneCell']) rfl _ _ rfl rfl rfl ?_; intro W2 k2 hb2 ho2) | (refine store_any 32 #[.int .i64 0, .int .i64 0] w.heap.size (w.heap.size + 1) _ ((ho2 _ (by omega)).trans h1) hb2 (by omega) info_rf rfl (by simp [Value.oneCell']) rfl _ _ rfl rfl rfl ?_; intro W3 k3 hb3 ho3))
        obtain ⟨a0, a1, a2, a3, a4⟩ := cells5 ((ho3 _ (by omega)).trans k2)
        obtain ⟨b0, b1⟩ := two_cells k3
        refine bodyPost_ret (v := .tuple #[.agg #[.int .i64 1, .int .i64 i, .int .i64 (wordEnd s i), .string (s.extract i (wordEnd s i)), .int .i64 0], .agg #[.int .i64 0, .int .i64 0]]) (by simp [results, Tryd.results21, go_sem, a0, a1, a2, a3, a4, b0, b1]) rfl ⟨?_, hb3⟩
        rw [HE.out]; rfl
      · go_enter Tryd.func21, Tryd.ntmps21
        go_wp2_with fail
        refine (rclass_at s i hi _).mono ?_
        rw [hc]
        rintro e w' ⟨rfl, rfl⟩
        go_wp2_with fail
        refine (HR.out _).mono ?_
        rintro e w' ⟨rfl, rfl⟩
        go_wp2_with fail
        refine (rclass_at s i hi _).mono ?_
        rw [hc]
        rintro e w' ⟨rfl, rfl⟩
        go_wp2_with fail
        refine (HK.out _).mono ?_
        rintro e w1 ⟨rfl, hb1⟩
        obtain ⟨h0, h1, h2, hb⟩ := three_rows hb1
        obtain ⟨c0, c1, c2, c3, c4⟩ := cells5 h2
        go_wp2_with (first | (refine store_any 39 (tkC 2 i (wordEnd s i) (s.extract i (wordEnd s i)) 0) w.heap.size w.heap.size _ h0 hb (Nat.le_refl _) info_rt rfl (by simp [Value.oneCell']) rfl _ _ rfl rfl rfl ?_; intro W2 k2 hb2 ho2) | (refine store_any 32 #[.int .i64 0, .int .i64 0] w.heap.size (w.heap.size + 1) _ ((ho2 _ (by omega)).trans h1) hb2 (by omega) info_rf rfl (by simp [Value.oneCell']) rfl _ _ rfl rfl rfl ?_; intro W3 k3 hb3 ho3))
        obtain ⟨a0, a1, a2, a3, a4⟩ := cells5 ((ho3 _ (by omega)).trans k2)
        obtain ⟨b0, b1⟩ := two_cells k3
        refine bodyPost_ret (v := .tuple #[.agg #[.int .i64 2, .int .i64 i, .int .i64 (wordEnd s i), .string (s.extract i (wordEnd s i)), .int .i64 0], .agg #[.int .i64 0, .int .i64 0]]) (by simp [results, Tryd.results21, go_sem, a0, a1, a2, a3, a4, b0, b1]) rfl ⟨?_, hb3⟩
        rw [HE.out]; rfl

set_option maxHeartbeats 8000000 in
set_option maxRecDepth 100000 in
theorem one_bad (s : ByteArray) (hs : s.size ≤ 1000000) (i : Nat) (hi : i < s.size) (hc : cls (atB s i) = 7) (hq : quotedAt s i = none) (w : World) :
    Calls Tryd.prog 21 #[.string s, .int .i64 i] w fun e w' => e = .returned (oneV (oneAt s i)) ∧ Below w.heap.size w w' := by
  have HE : Hid (oneAt s i = .inr (i, 22)) := Lib.hid (by unfold oneAt; rw [if_neg (by omega), if_neg (by omega), if_pos hc]; unfold textAt; rw [hq]; rfl)
  have HQ := Lib.hid fun w => quoted_any s hs i hi w
  rw [hq] at HQ
  clear hq
  go_enter Tryd.func21, Tryd.ntmps21
  go_wp2_with fail
  refine (rclass_at s i hi _).mono ?_
  rw [hc]
  rintro e w' ⟨rfl, rfl⟩
  go_wp2_with fail
  refine (HQ.out _).mono ?_
  rintro e w1 ⟨rfl, hb1⟩
  unfold qdV
  obtain ⟨h0, h1, h2, hb⟩ := three_rows hb1
  go_wp2_with (first | (refine store_any 39 (tkC 0 0 0 ⟨#[]⟩ 0) w.heap.size w.heap.size _ h0 hb (Nat.le_refl _) info_rt rfl (by simp [Value.oneCell']) rfl _ _ rfl rfl rfl ?_; intro W2 k2 hb2 ho2) | (refine store_any 32 #[.int .i64 i, .int .i64 22] w.heap.size (w.heap.size + 1) _ ((ho2 _ (by omega)).trans h1) hb2 (by omega) info_rf rfl (by simp [Value.oneCell']) rfl _ _ rfl rfl rfl ?_; intro W3 k3 hb3 ho3))
  obtain ⟨a0, a1, a2, a3, a4⟩ := cells5 ((ho3 _ (by omega)).trans k2)
  obtain ⟨b0, b1⟩ := two_cells k3
  refine bodyPost_ret (v := .tuple #[.agg #[.int .i64 0, .int .i64 0, .int .i64 0, .string ⟨#[]⟩, .int .i64 0], .agg #[.int .i64 i, .int .i64 22]]) (by simp [results, Tryd.results21, go_sem, a0, a1, a2, a3, a4, b0, b1]) rfl ⟨?_, hb3⟩
  rw [HE.out]; rfl

/-- the world behind stores into one row's cells: others lie as they lay -/
theorem set_row {w w1 : World} {M : Nat} (hb : Below w.heap.size w w1) (hM : w.heap.size ≤ M) : ∀ (l : List (Nat × Value)) , Below w.heap.size w (l.foldl (fun v p => v.setCell ⟨M, p.1, none⟩ p.2) w1) ∧ ∀ k, k ≠ M → (l.foldl (fun v p => v.setCell ⟨M, p.1, none⟩ p.2) w1).heap[k]? = w1.heap[k]? := by
  intro l
  induction l generalizing w1 with
  | nil => exact ⟨hb, fun _ _ => rfl⟩
  | cons p l ih =>
    obtain ⟨h1, h2⟩ := ih (hb.setCell (p := ⟨M, p.1, none⟩) hM p.2)
    exact ⟨h1, fun k hk => (h2 k hk).trans (Below.heap_setCell _ _ _ _ hk)⟩

set_option maxHeartbeats 8000000 in
set_option maxRecDepth 100000 in
theorem one_text (s : ByteArray) (hs : s.size ≤ 1000000) (i : Nat) (hi : i < s.size) (hc : cls (atB s i) = 7) (h39 : atB s i ≠ 39) (L : List UInt8) (k : Nat) (hq : quotedAt s i = some (numsL L, k)) (w : World) :
    Calls Tryd.prog 21 #[.string s, .int .i64 i] w fun e w' => e = .returned (oneV (oneAt s i)) ∧ Below w.heap.size w w' := by
  have ei := atB_eq s i hi
  have q : ((s[i].toNat : Int) == 39) = false := by rw [beq_eq_false_iff_ne, ← ei]; exact h39
  have HQ := Lib.hid fun w => quoted_any s hs i hi w
  rw [hq] at HQ
  obtain ⟨T, hT⟩ : ∃ T, T = strOfNums (numsL L) := ⟨_, rfl⟩
  have HE : Hid (oneAt s i = .inl ⟨5, i, k, T, 0⟩) := Lib.hid (by unfold oneAt; rw [if_neg (by omega), if_neg (by omega), if_pos hc]; unfold textAt; rw [hq]; simp only [Option.elim_some]; rw [if_neg h39, if_neg h39, hT])
  unfold qdV at HQ
  simp only [← hT] at HQ
  clear hq hT ei h39
  go_enter Tryd.func21, Tryd.ntmps21
  go_wp2_with fail
  refine (rclass_at s i hi _).mono ?_
  rw [hc]
  rintro e w' ⟨rfl, rfl⟩
  go_wp2_with fail
  refine (HQ.out _).mono ?_
  rintro e w1 ⟨rfl, hb1⟩
  obtain ⟨h0, h1, h2, hb⟩ := three_rows hb1
  obtain ⟨c0, c1, c2, c3, c4⟩ := cells5 h2
  have f0 := frozen5 h2 0
  have f2 := frozen5 h2 2
  have f3 := frozen5 h2 3
  obtain ⟨s1, s2⟩ := set_row hb (show w.heap.size ≤ w.heap.size + 2 by omega) [(0, .int .i64 5), (3, .string T), (2, .int .i64 k)]
  simp only [List.foldl_cons, List.foldl_nil] at s1 s2
  go_wp2_with (first | (refine store_any 39 (tkC 5 i k T 0) w.heap.size w.heap.size _ ((s2 _ (by omega)).trans h0) s1 (Nat.le_refl _) info_rt rfl (by simp [Value.oneCell']) rfl _ _ rfl rfl rfl ?_; intro W2 k2 hb2 ho2) | (refine store_any 32 #[.int .i64 0, .int .i64 0] w.heap.size (w.heap.size + 1) _ ((ho2 _ (by omega)).trans ((s2 _ (by omega)).trans h1)) hb2 (by omega) info_rf rfl (by simp [Value.oneCell']) rfl _ _ rfl rfl rfl ?_; intro W3 k3 hb3 ho3))
  obtain ⟨a0, a1, a2, a3, a4⟩ := cells5 ((ho3 _ (by omega)).trans k2)
  obtain ⟨b0, b1⟩ := two_cells k3
  refine bodyPost_ret (v := .tuple #[.agg #[.int .i64 5, .int .i64 i, .int .i64 k, .string T, .int .i64 0], .agg #[.int .i64 0, .int .i64 0]]) (by simp [results, Tryd.results21, go_sem, a0, a1, a2, a3, a4, b0, b1]) rfl ⟨?_, hb3⟩
  rw [HE.out]; rfl

set_option maxHeartbeats 8000000 in
set_option maxRecDepth 100000 in
theorem one_letter (s : ByteArray) (hs : s.size ≤ 1000000) (i : Nat) (hi : i < s.size) (hc : cls (atB s i) = 7) (h39 : atB s i = 39) (x : UInt8) (L : List UInt8) (k : Nat) (hq : quotedAt s i = some (numsL (x :: L), k)) (w : World) :
    Calls Tryd.prog 21 #[.string s, .int .i64 i] w fun e w' => e = .returned (oneV (oneAt s i)) ∧ Below w.heap.size w w' := by
  have ei := atB_eq s i hi
  have q : ((s[i].toNat : Int) == 39) = true := by rw [beq_iff_eq, ← ei]; exact h39
  have HQ := Lib.hid fun w => quoted_any s hs i hi w
  rw [hq] at HQ
  obtain ⟨T, hT⟩ : ∃ T, T = strOfNums (numsL (x :: L)) := ⟨_, rfl⟩
  have hT2 : T = ⟨(x :: L).toArray⟩ := by rw [hT, str_nums]
  have hsz : 0 < T.size := by rw [hT2]; show 0 < (x :: L).toArray.size; simp
  obtain ⟨b0, rb⟩ : ∃ b0 : UInt8, T[0] = b0 := ⟨_, rfl⟩
  have hx : b0 = x := by rw [← rb]; subst hT2; rfl
  have hn1 : 0 ≤ (b0.toNat : Int) := by omega
  have hn2 : (b0.toNat : Int) ≤ 255 := by have := b0.toNat_lt; omega
  have hwr := wrap64_small (b0.toNat : Int) hn1 hn2
  have HE : Hid (oneAt s i = .inl ⟨4, i, k, T, (b0.toNat : Int)⟩) := Lib.hid (by unfold oneAt; rw [if_neg (by omega), if_neg (by omega), if_pos hc]; unfold textAt; rw [hq]; simp only [Option.elim_some]; rw [if_pos h39, if_pos h39, ← hT, hx]; rfl)
  unfold qdV at HQ
  simp only [← hT] at HQ
  clear hq hT ei h39 hT2 hx
  go_enter Tryd.func21, Tryd.ntmps21
  go_wp2_with fail
  refine (rclass_at s i hi _).mono ?_
  rw [hc]
  rintro e w' ⟨rfl, rfl⟩
  go_wp2_with fail
  refine (HQ.out _).mono ?_
  rintro e w1 ⟨rfl, hb1⟩
  obtain ⟨h0, h1, h2, hb⟩ := three_rows hb1
  obtain ⟨c0, c1, c2, c3, c4⟩ := cells5 h2
  have f0 := frozen5 h2 0
  have f2 := frozen5 h2 2
  have f3 := frozen5 h2 3
  have f4 := frozen5 h2 4
  have hsz2 : (0 : Int) < (T.size : Int) := by omega
  go_upto_region 27 with fail
  obtain ⟨s1, s2⟩ := set_row hb (show w.heap.size ≤ w.heap.size + 1 + 1 by omega) [(0, .int .i64 5), (0, .int .i64 4), (4, .int .i64 (b0.toNat : Int)), (3, .string T), (2, .int .i64 k)]
  simp only [List.foldl_cons, List.foldl_nil] at s1 s2
  have h2' : w1.heap[w.heap.size + 1 + 1]? = some (rTk 0 i (i + 1) ⟨#[]⟩ 0) := h2
  have g2 : (((((w1.setCell ⟨w.heap.size + 1 + 1, 0, none⟩ (.int .i64 5)).setCell ⟨w.heap.size + 1 + 1, 0, none⟩ (.int .i64 4)).setCell ⟨w.heap.size + 1 + 1, 4, none⟩ (.int .i64 (b0.toNat : Int))).setCell ⟨w.heap.size + 1 + 1, 3, none⟩ (.string T)).setCell ⟨w.heap.size + 1 + 1, 2, none⟩ (.int .i64 k)).heap[w.heap.size + 1 + 1]? = some (rTk 4 i k T (b0.toNat : Int)) := by simp [World.setCell, Array.getElem?_modify, h2', tkC]
  have g0 := (s2 w.heap.size (by omega)).trans h0
  have g1 := (s2 (w.heap.size + 1) (by omega)).trans h1
  clear c0 c1 c2 c3 c4 f0 f2 f3 f4 h0 h1 h2 h2' s2 hb hb1
  generalize (((((w1.setCell ⟨w.heap.size + 1 + 1, 0, none⟩ (.int .i64 5)).setCell ⟨w.heap.size + 1 + 1, 0, none⟩ (.int .i64 4)).setCell ⟨w.heap.size + 1 + 1, 4, none⟩ (.int .i64 (b0.toNat : Int))).setCell ⟨w.heap.size + 1 + 1, 3, none⟩ (.string T)).setCell ⟨w.heap.size + 1 + 1, 2, none⟩ (.int .i64 k)) = W at s1 g0 g1 g2 ⊢
  obtain ⟨c0, c1, c2, c3, c4⟩ := cells5 g2
  go_wp2_with (first | (refine store_any 39 (tkC 4 i k T (b0.toNat : Int)) w.heap.size w.heap.size _ g0 s1 (Nat.le_refl _) info_rt rfl (by simp [Value.oneCell']) rfl _ _ rfl rfl rfl ?_; intro W2 k2 hb2 ho2) | (refine store_any 32 #[.int .i64 0, .int .i64 0] w.heap.size (w.heap.size + 1) _ ((ho2 _ (by omega)).trans g1) hb2 (by omega) info_rf rfl (by simp [Value.oneCell']) rfl _ _ rfl rfl rfl ?_; intro W3 k3 hb3 ho3))
  obtain ⟨a0, a1, a2, a3, a4⟩ := cells5 ((ho3 _ (by omega)).trans k2)
  obtain ⟨b0', b1⟩ := two_cells k3
  refine bodyPost_ret (v := .tuple #[.agg #[.int .i64 4, .int .i64 i, .int .i64 k, .string T, .int .i64 (b0.toNat : Int)], .agg #[.int .i64 0, .int .i64 0]]) (by simp [results, Tryd.results21, go_sem, a0, a1, a2, a3, a4, b0', b1]) rfl ⟨?_, hb3⟩
  rw [HE.out]; rfl
theorem one_quoted (s : ByteArray) (hs : s.size ≤ 1000000) (i : Nat) (hi : i < s.size) (hc : cls (atB s i) = 7) (w : World) :
    Calls Tryd.prog 21 #[.string s, .int .i64 i] w fun e w' => e = .returned (oneV (oneAt s i)) ∧ Below w.heap.size w w' := by
  by_cases h39 : atB s i = 39
  · have h1 := letter_one s i h39
    cases hq : qtM s 39 1 (i + 1) 0 with
    | none => rw [hq] at h1; exact one_bad s hs i hi hc h1 w
    | some r =>
      obtain ⟨xs, k⟩ := r
      obtain ⟨L, hL⟩ := qtM_bytes hq
      simp only at hL
      subst hL
      rw [hq] at h1
      cases L with
      | nil => exact one_bad s hs i hi hc h1 w
      | cons x L => exact one_letter s hs i hi hc h39 x L (k + 1) h1 w
  · have h1 := text_any s i h39
    cases hq : qtM s (atB s i) 256 (i + 1) 0 with
    | none => rw [hq] at h1; exact one_bad s hs i hi hc h1 w
    | some r =>
      obtain ⟨xs, k⟩ := r
      obtain ⟨L, hL⟩ := qtM_bytes hq
      simp only at hL
      subst hL
      rw [hq] at h1
      exact one_text s hs i hi hc h39 L (k + 1) h1 w
end Go.Proofs.YtifmbhcajlnhbaaDoor
