/- Texts of this proof, joined: PNum, LaidR. No condition. -/
import Derived.Test.YtdiffpiapdghoaaGreatDoorRa08
import Derived.Lib.AtoiAllCases
import Derived.Test.YtdiffpiapdghoaaGreatDoorRa00
import Derived.Stop.LaidErr
/-
  Layer 2, the program's side: a Number.
-/
namespace Go.Proofs.YtdiffpiapdghoaaGreatDoor
set_option linter.unusedVariables false
open Go.ChangeShapes Go.WideShapes Go.ChangeAt Go.RowKit

theorem parse_ge : ∀ (l : List UInt8) (acc u : Nat), Lib.parseUint10 acc l = .ok u → acc ≤ u
  | [], acc, u, h => by
    simp only [Lib.parseUint10] at h
    injection h with h
    omega
  | c :: r, acc, u, h => by
    simp only [Lib.parseUint10] at h
    split at h
    · split at h
      · cases h
      · split at h
        · cases h
        · have := parse_ge r _ u h
          omega
    · cases h

theorem parse_or : ∀ (l : List UInt8) (a : Nat), (∀ x ∈ l, 48 ≤ x.toNat ∧ x.toNat ≤ 57) → (∃ u, Lib.parseUint10 a l = .ok u) ∨ Lib.parseUint10 a l = .range
  | [], a, _ => .inl ⟨a, rfl⟩
  | x :: r, a, h => by
    simp only [Lib.parseUint10, if_pos (h x (by simp))]
    split
    · exact .inr rfl
    · split
      · exact .inr rfl
      · exact parse_or r _ (fun y hy => h y (by simp [hy]))
/-- the digits from k up to m, acc told ahead: as a numeral -/
theorem parse_dgs (s : ByteArray) (m : Nat) (hm : m ≤ s.size) (stop : m = s.size ∨ cls (atB s m) ≠ 2) : ∀ (d k acc : Nat), m - k = d → k ≤ m → (∀ j, k ≤ j → j < m → cls (atB s j) = 2) → acc ≤ 9223372036854775807 →
    (∃ u : Nat, Lib.parseUint10 acc ((s.data.toList.drop k).take (m - k)) = .ok u ∧ ((u ≤ 9223372036854775807 ∧ dgsAt s k acc = some (m, (u : Int))) ∨ (9223372036854775807 < u ∧ dgsAt s k acc = none))) ∨
    (Lib.parseUint10 acc ((s.data.toList.drop k).take (m - k)) = .range ∧ dgsAt s k acc = none) := by
  have hl : s.data.toList.length = s.size := Array.length_toList
  intro d
  induction d with
  | zero =>
    intro k acc hd hk hj ha
    obtain rfl : k = m := by omega
    refine .inl ⟨acc, ?_, .inl ⟨ha, ?_⟩⟩
    · rw [Nat.sub_self]; rfl
    · rcases stop with h | h
      · exact dgsAt_end s k acc (by omega)
      · rcases Nat.lt_or_ge k s.size with hlt | hge
        · rw [dgsAt_step s k acc hlt, if_neg h]
        · exact dgsAt_end s k acc hge
  | succ d ih =>
    intro k acc hd hk hj ha
    have hlt : k < s.size := by omega
    have hc := hj k (Nat.le_refl _) (by omega)
    have hcb := (cls2 _).1 hc
    rw [dgsAt_step s k acc hlt, if_pos hc, List.drop_eq_getElem_cons (by omega), show m - k = (m - (k + 1)) + 1 from by omega, List.take_succ_cons]
    have ek : atB s k = (s.data.toList[k].toNat : Int) := by unfold atB; rw [List.getD_eq_getElem?_getD, List.getElem?_eq_getElem (by omega)]; rfl
    rw [ek] at hcb ⊢
    generalize s.data.toList[k] = c at hcb ⊢
    have hcn : 48 ≤ c.toNat ∧ c.toNat ≤ 57 := by omega
    have hcast : 10 * (acc : Int) + ((c.toNat : Int) - 48) = ((acc * 10 + (c.toNat - 48) : Nat) : Int) := by omega
    rw [hcast]
    have htg : tooGreat acc ((c.toNat : Int) - 48) = true ↔ 9223372036854775807 < acc * 10 + (c.toNat - 48) := by
      unfold tooGreat
      rw [decide_eq_true_iff]
      omega
    simp only [Lib.parseUint10, if_pos hcn]
    by_cases h1 : 9223372036854775807 < acc * 10 + (c.toNat - 48)
    · rw [if_pos (htg.2 h1)]
      by_cases h2 : 1844674407370955162 ≤ acc
      · rw [if_pos h2]; exact .inr ⟨rfl, rfl⟩
      rw [if_neg h2]
      by_cases h3 : 18446744073709551616 ≤ acc * 10 + (c.toNat - 48)
      · rw [if_pos h3]; exact .inr ⟨rfl, rfl⟩
      rw [if_neg h3]
      rcases parse_or ((s.data.toList.drop (k + 1)).take (m - (k + 1))) (acc * 10 + (c.toNat - 48)) (fun x hx => by
        obtain ⟨j, hj2, rfl⟩ := List.mem_iff_getElem.1 hx
        have hjl : j < m - (k + 1) := by
          have := hj2
          rw [List.length_take] at this
          omega
        have := hj (k + 1 + j) (by omega) (by omega)
        have h4 := (cls2 _).1 this
        have e4 : atB s (k + 1 + j) = (s.data.toList[k + 1 + j].toNat : Int) := by unfold atB; rw [List.getD_eq_getElem?_getD, List.getElem?_eq_getElem (by omega)]; rfl
        rw [e4] at h4
        rw [List.getElem_take, List.getElem_drop]
        omega) with ⟨u, hp⟩ | hp
      · exact .inl ⟨u, hp, .inr ⟨by have := parse_ge _ _ _ hp; omega, rfl⟩⟩
      · exact .inr ⟨hp, rfl⟩
    · rw [if_neg (fun h => h1 (htg.1 h)), if_neg (by omega), if_neg (by omega)]
      exact ih (k + 1) (acc * 10 + (c.toNat - 48)) (by omega) (by omega) (fun j h h' => hj j (by omega) h') (by omega)

/-- the digits from i up to m, as strconv has them -/
theorem atoi_dgs (s : ByteArray) (i m : Nat) (hi : i < m) (hm : m ≤ s.size) (hj : ∀ j, i ≤ j → j < m → cls (atB s j) = 2) (stop : m = s.size ∨ cls (atB s m) ≠ 2) :
    (∃ u : Nat, u ≤ 9223372036854775807 ∧ Lib.atoiAll (s.extract i m).data.toList = .ok u ∧ dgsAt s i 0 = some (m, (u : Int))) ∨ (Lib.atoiAll (s.extract i m).data.toList = .range ∧ dgsAt s i 0 = none) := by
  have hl : s.data.toList.length = s.size := Array.length_toList
  have h := parse_dgs s m hm stop (m - i) i 0 rfl (by omega) hj (by omega)
  rw [Lib.extract_data]
  have hcons : (s.data.toList.drop i).take (m - i) = s.data.toList[i] :: (s.data.toList.drop (i + 1)).take (m - (i + 1)) := by
    rw [List.drop_eq_getElem_cons (by omega), show m - i = (m - (i + 1)) + 1 from by omega, List.take_succ_cons]
  rw [hcons] at h ⊢
  have hc := (cls2 _).1 (hj i (Nat.le_refl _) hi)
  have ek : atB s i = (s.data.toList[i].toNat : Int) := by unfold atB; rw [List.getD_eq_getElem?_getD, List.getElem?_eq_getElem (by omega)]; rfl
  rw [ek] at hc
  rw [Lib.atoiAll_plain _ _ (by omega) (by omega)]
  unfold Lib.parseMag
  rw [if_neg (by simp)]
  rcases h with ⟨u, h1, ⟨h2, h3⟩ | ⟨h2, h3⟩⟩ | ⟨h1, h3⟩
  · refine .inl ⟨u, h2, ?_, h3⟩
    rw [h1]; unfold Lib.signless; simp only; rw [if_neg (by omega)]
  · refine .inr ⟨?_, h3⟩
    rw [h1]; unfold Lib.signless; simp only; rw [if_pos (by omega)]
  · exact .inr ⟨by rw [h1]; rfl, h3⟩

theorem lt_heap {b : Nat} {w : World} {o : Obj} (h : w.heap[b]? = some o) : b < w.heap.size := (Array.getElem?_eq_some_iff.1 h).1
/-- a row of the call's own, and what lay ahead, behind one callee more -/
theorem next_row {B N : Nat} {w w1 w2 : World} {o : Obj} (h0 : w1.heap[N]? = some o) (hb : Below B w w1) (hB : B ≤ w.heap.size) (h : Below w1.heap.size w1 w2) : w2.heap[N]? = some o ∧ Below B w w2 :=
  ⟨(h.block N (lt_heap h0)).trans h0, hb.trans (h.mono (Nat.le_trans hB hb.size))⟩
/-- .. and behind one block more -/
theorem alloc_row {B N : Nat} {w w1 : World} {o : Obj} (h0 : w1.heap[N]? = some o) (hb : Below B w w1) (hB : B ≤ w.heap.size) (x : Obj) : (w1.alloc x).heap[N]? = some o ∧ Below B w (w1.alloc x) :=
  ⟨(Below.heap_alloc w1 x N (lt_heap h0)).trans h0, hb.alloc (Nat.le_trans hB hb.size) x⟩

/-- the variable of strconv's error is there -/
def RangeOk (w : World) : Prop := ∃ ev, w.cell? ⟨2, 0, none⟩ = some ev ∧ (ev = .nilIface ∨ ∃ te pe, ev = .iface te pe)
theorem RangeOk.below {B : Nat} {w w' : World} (h : RangeOk w) (hb : Below B w w') (hB : w.heap.size ≤ B) : RangeOk w' := by
  obtain ⟨ev, h1, h2⟩ := h
  exact ⟨ev, (hb.cell (Nat.lt_of_lt_of_le (Lib.lt_of_cell h1) hB)).trans h1, h2⟩

theorem atoi_yes (s : ByteArray) (u : Nat) (hs : s.size ≤ 1000000) (h : Lib.atoiAll s.data.toList = .ok (u : Int)) (w : World) :
    Calls Tryz.prog 142 #[.string s] w fun e w' => e = .returned (.tuple #[.int .i64 u, .nilIface]) ∧ Below w.heap.size w w' :=
  (Tryz.strconv_Atoi_ok s (by omega) u h w).mono fun e w' ⟨h1, h2⟩ => ⟨h1, by
    rcases h2 with rfl | ⟨t, rfl⟩
    · exact Below.refl _ _
    · exact Lib.bytesWorld_below _ _ _⟩
theorem atoi_no (s : ByteArray) (hs : s.size ≤ 1000000) (h : Lib.atoiAll s.data.toList = .range) (w : World) (hw : RangeOk w) :
    Calls Tryz.prog 142 #[.string s] w fun e w' => ∃ (x : Int) (N : Nat), e = .returned (.tuple #[.int .i64 x, .iface 207 (.pointer (some ⟨N, 0, none⟩))]) ∧ Below w.heap.size w w' := by
  obtain ⟨ev, h1, h2⟩ := hw
  exact (Tryz.strconv_Atoi_range s (by omega) h ev w h1 h2).mono fun e w' ⟨N, h3, _, _, h4⟩ => ⟨_, N, h3, h4⟩

set_option maxHeartbeats 4000000 in
set_option maxRecDepth 100000 in
theorem pnum_any (s : ByteArray) (hs : s.size ≤ 1000000) (i : Nat) (hi : i < s.size) (hc : cls (atB s i) = 2) (w : World) (hw : RangeOk w) :
    Calls Tryz.prog 134 #[.string s, .int .i64 i] w fun e w' => e = .returned (rdV (numP s i)) ∧ Below w.heap.size w w' := by
  have hw2 : ∀ o, RangeOk (w.alloc o) := fun o => hw.below ((Below.refl w.heap.size w).alloc (Nat.le_refl _) o) (Nat.le_refl _)
  have HW := Lib.hid hw2
  have HC := Lib.hid hc
  clear hw hw2 hc
  go_enter Tryz.func134, Tryz.ntmps134
  go_wp2
  go_loop [6] (fun mv => ∃ m : Nat, i ≤ m ∧ m ≤ s.size ∧ mv = .int .i64 m ∧ Hid (∀ j, i ≤ j → j < m → cls (atB s j) = 2)) (fun mv => s.size - (intOf mv).toNat)
  case atStart => exact ⟨i, Nat.le_refl _, by omega, rfl, Lib.hid fun j h1 h2 => by omega⟩
  case round =>
    obtain ⟨m, m1, m2, rfl, H⟩ := hrel
    have key : ∀ (hstop : m = s.size ∨ cls (atB s m) ≠ 2), i < m := by
      intro hstop
      rcases Nat.lt_or_ge i m with h | h
      · exact h
      · obtain rfl : m = i := by omega
        rcases hstop with h' | h'
        · omega
        · exact absurd HC.out h'
    by_cases hlt : m < s.size
    · by_cases hd : cls (atB s m) = 2
      · have q : (cls (atB s m) == 2) = true := by rw [beq_iff_eq]; exact hd
        have HD := Lib.hid hd
        clear hd key
        go_wp2_with fail
        refine (class_at s m hlt _).mono ?_
        rintro e w' ⟨rfl, rfl⟩
        go_wp2
        go_round
        case rel =>
          refine ⟨m + 1, by omega, by omega, by go_num, Lib.hid fun j h1 h2 => ?_⟩
          by_cases hjm : j = m
          · rw [hjm]; exact HD.out
          · exact H.out j h1 (by omega)
        case measure => simp [intOf]; omega
      · have q : (cls (atB s m) == 2) = false := by rw [beq_eq_false_iff_ne]; exact hd
        have him := key (.inr hd)
        have hres := atoi_dgs s i m him m2 H.out (.inr hd)
        clear hd key
        rcases hres with ⟨u, hu, ha, hg⟩ | ⟨ha, hg⟩
        · have HN : Hid (numP s i = .inl ⟨3, i, m, s.extract i m, u⟩) := Lib.hid (by unfold numP; rw [hg]; rfl)
          clear hg
          go_wp2_with fail
          refine (class_at s m hlt _).mono ?_
          rintro e w' ⟨rfl, rfl⟩
          go_wp2_with fail
          refine (atoi_yes _ u (by simp; omega) ha _).mono ?_
          rintro e w1 ⟨rfl, hb1⟩
          obtain ⟨h0, hb⟩ := first_row hb1
          go_wp2_with fail
          refine (plain_any _ s hs i m _ _ rfl rfl m1 m2 _).mono ?_
          rintro e w2 ⟨rfl, hb2⟩
          obtain ⟨h1, hb3⟩ := next_row h0 hb (Nat.le_refl _) hb2
          have H1 := fun o => (alloc_row h1 hb3 (Nat.le_refl _) o).1
          have H2 := fun o => (alloc_row h1 hb3 (Nat.le_refl _) o).2
          go_wp2_with (refine store_tk 3 i m (s.extract i m) u w.heap.size w.heap.size _ (H1 _) (H2 _) (Nat.le_refl _) rfl rfl _ _ rfl rfl rfl ?_; intro W2 k0 hb2)
          obtain ⟨a0, a1, a2, a3, a4⟩ := cells5 k0
          refine bodyPost_ret (v := .tuple #[.agg #[.int .i64 3, .int .i64 i, .int .i64 m, .string (s.extract i m), .int .i64 u], .int .i64 0]) (by simp [results, Tryz.results134, go_sem, a0, a1, a2, a3, a4]) rfl ⟨?_, hb2⟩
          rw [HN.out]; rfl
        · have HN : Hid (numP s i = .inr (i, 21)) := Lib.hid (by unfold numP; rw [hg]; rfl)
          clear hg
          go_wp2_with fail
          refine (class_at s m hlt _).mono ?_
          rintro e w' ⟨rfl, rfl⟩
          go_wp2_with fail
          refine (atoi_no _ (by simp; omega) ha _ (HW.out _)).mono ?_
          rintro e w1 ⟨x, M, rfl, hb1⟩
          obtain ⟨h0, hb⟩ := first_row hb1
          go_wp2_with fail
          refine (fault_any _ _ _).mono ?_
          rintro e w2 ⟨rfl, hb2⟩
          obtain ⟨h1, hb3⟩ := next_row h0 hb (Nat.le_refl _) hb2
          go_wp2_with (refine store_tk 0 i 0 ⟨#[]⟩ 0 w.heap.size w.heap.size _ h1 hb3 (Nat.le_refl _) rfl rfl _ _ rfl rfl rfl ?_; intro W2 k0 hb2)
          obtain ⟨a0, a1, a2, a3, a4⟩ := cells5 k0
          refine bodyPost_ret (v := .tuple #[.agg #[.int .i64 0, .int .i64 i, .int .i64 0, .string ⟨#[]⟩, .int .i64 0], .int .i64 21]) (by simp [results, Tryz.results134, go_sem, a0, a1, a2, a3, a4]) rfl ⟨?_, hb2⟩
          rw [HN.out]; rfl
    · have him := key (.inl (by omega))
      have hres := atoi_dgs s i m him m2 H.out (.inl (by omega))
      clear key
      rcases hres with ⟨u, hu, ha, hg⟩ | ⟨ha, hg⟩
      · have HN : Hid (numP s i = .inl ⟨3, i, m, s.extract i m, u⟩) := Lib.hid (by unfold numP; rw [hg]; rfl)
        clear hg
        go_wp2_with fail
        refine (atoi_yes _ u (by simp; omega) ha _).mono ?_
        rintro e w1 ⟨rfl, hb1⟩
        obtain ⟨h0, hb⟩ := first_row hb1
        go_wp2_with fail
        refine (plain_any _ s hs i m _ _ rfl rfl m1 m2 _).mono ?_
        rintro e w2 ⟨rfl, hb2⟩
        obtain ⟨h1, hb3⟩ := next_row h0 hb (Nat.le_refl _) hb2
        have H1 := fun o => (alloc_row h1 hb3 (Nat.le_refl _) o).1
        have H2 := fun o => (alloc_row h1 hb3 (Nat.le_refl _) o).2
        go_wp2_with (refine store_tk 3 i m (s.extract i m) u w.heap.size w.heap.size _ (H1 _) (H2 _) (Nat.le_refl _) rfl rfl _ _ rfl rfl rfl ?_; intro W2 k0 hb2)
        obtain ⟨a0, a1, a2, a3, a4⟩ := cells5 k0
        refine bodyPost_ret (v := .tuple #[.agg #[.int .i64 3, .int .i64 i, .int .i64 m, .string (s.extract i m), .int .i64 u], .int .i64 0]) (by simp [results, Tryz.results134, go_sem, a0, a1, a2, a3, a4]) rfl ⟨?_, hb2⟩
        rw [HN.out]; rfl
      · have HN : Hid (numP s i = .inr (i, 21)) := Lib.hid (by unfold numP; rw [hg]; rfl)
        clear hg
        go_wp2_with fail
        refine (atoi_no _ (by simp; omega) ha _ (HW.out _)).mono ?_
        rintro e w1 ⟨x, M, rfl, hb1⟩
        obtain ⟨h0, hb⟩ := first_row hb1
        go_wp2_with fail
        refine (fault_any _ _ _).mono ?_
        rintro e w2 ⟨rfl, hb2⟩
        obtain ⟨h1, hb3⟩ := next_row h0 hb (Nat.le_refl _) hb2
        go_wp2_with (refine store_tk 0 i 0 ⟨#[]⟩ 0 w.heap.size w.heap.size _ h1 hb3 (Nat.le_refl _) rfl rfl _ _ rfl rfl rfl ?_; intro W2 k0 hb2)
        obtain ⟨a0, a1, a2, a3, a4⟩ := cells5 k0
        refine bodyPost_ret (v := .tuple #[.agg #[.int .i64 0, .int .i64 i, .int .i64 0, .string ⟨#[]⟩, .int .i64 0], .int .i64 21]) (by simp [results, Tryz.results134, go_sem, a0, a1, a2, a3, a4]) rfl ⟨?_, hb2⟩
        rw [HN.out]; rfl
end Go.Proofs.YtdiffpiapdghoaaGreatDoor
/-
  The trees' rows: the error's variable is there. No walk.
-/
namespace Go.Proofs.YtdiffpiapdghoaaGreatDoor
set_option linter.unusedVariables false
open Go.ChangeShapes Go.WideShapes Go.ChangeAt Go.RowKit

theorem gRange : Tryz.prog.globalNamed "strconv.ErrRange" = some 2 := by kernel_rfl
theorem gRangeT : (Tryz.prog.globals[2]?).map (·.type) = some 188 := by kernel_rfl
theorem star : "*" ++ "errors.errorString" = "*errors.errorString" := by decide
theorem cellsES : Tryz.prog.cellsOf 231 = 1 := by kernel_rfl
theorem cellsS : Tryz.prog.cellsOf 9 = 1 := by kernel_rfl
theorem laid_tail {P : Program} {x : String × DataW Unit} {r : List (String × DataW Unit)} {W : World} (h : laidMet P (x :: r) W) : laidMet P r W := by
  obtain ⟨ps, ⟨g, t, cs, fu, p, q, _, _, _, _, hr, rfl⟩, hnd, hc⟩ := h
  exact ⟨q, hr, (List.nodup_append.1 hnd).2.1, fun b off hm => hc b off (List.mem_append_right _ hm)⟩
/-- what is listed -/
theorem laid_list {W : World} (h : laidMetH Tryz.prog Rows.treeRightsRow.laid W) : laidMet Tryz.prog Rows.treeRightsRow.laid W := by
  rw [MakeChecks.laidMetH_plain _ _ _ (by kernel_rfl)] at h
  exact h
theorem rowES (u : TypeId) (h : Tryz.prog.typeName? 3 u = some "*errors.errorString") : u = 229 :=
  typeName_ptr_named (nm := "errors.errorString") (by rw [star]; kernel_rfl) (by kernel_rfl) (by decide) u (by rw [star]; exact h)
/-- **the error's variable is there** -/
theorem range_ok {W : World} (h : laidMetH Tryz.prog Rows.treeRightsRow.laid W) : RangeOk W := by
  obtain ⟨a, s, hv, _⟩ := laid_sentinel (laid_tail (laid_tail (laid_tail (laid_list h)))) gRange gRangeT Tryz.underlying188 rowES Tryz.underlying229 Tryz.underlying231 rfl rfl Tryz.underlying9 cellsES cellsS
  exact ⟨.iface 229 (.pointer (some a)), by simpa using World.var?_cell gRange hv 0, .inr ⟨_, _, rfl⟩⟩
end Go.Proofs.YtdiffpiapdghoaaGreatDoor
