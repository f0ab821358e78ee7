/- Texts of this proof, joined: PNum, LaidR, FewE, OwnT. No condition. -/
import Derived.Test.YtkdhoelabomgkaaGreatDoorMa08
import Derived.Lib.AtoiAllCases
import Derived.Test.YtkdhoelabomgkaaGreatDoorMa00
import Derived.Stop.LaidErr
import Derived.Test.YtkdhoelabomgkaaGreatDoorMa01
import Derived.StillTailTactics
import Derived.Deep.RegionHeld3
/-
  Layer 2, the program's side: a Number.
-/
namespace Go.Proofs.YtkdhoelabomgkaaGreatDoor
set_option linter.unusedVariables false
open Go.ChangeShapes Go.WideShapes Go.ChangeAt Go.RowKit

theorem parse_ge : ∀ (l : List UInt8) (acc u : Nat), Lib.parseUint10 acc l = .ok u → acc ≤ u
  | [], acc, u, h => by
    simp only [Lib.parseUint10] at h
    injection h with h
    omega
  | c :: r, acc, u, h => by
    simp only [Lib.parseUint10] at h
    split at h
    · split at h
      · cases h
      · split at h
        · cases h
        · have := parse_ge r _ u h
          omega
    · cases h

theorem parse_or : ∀ (l : List UInt8) (a : Nat), (∀ x ∈ l, 48 ≤ x.toNat ∧ x.toNat ≤ 57) → (∃ u, Lib.parseUint10 a l = .ok u) ∨ Lib.parseUint10 a l = .range
  | [], a, _ => .inl ⟨a, rfl⟩
  | x :: r, a, h => by
    simp only [Lib.parseUint10, if_pos (h x (by simp))]
    split
    · exact .inr rfl
    · split
      · exact .inr rfl
      · exact parse_or r _ (fun y hy => h y (by simp [hy]))
/-- the digits from k up to m, acc told ahead: as a numeral -/
theorem parse_dgs (s : ByteArray) (m : Nat) (hm : m ≤ s.size) (stop : m = s.size ∨ cls (atB s m) ≠ 2) : ∀ (d k acc : Nat), m - k = d → k ≤ m → (∀ j, k ≤ j → j < m → cls (atB s j) = 2) → acc ≤ 9223372036854775807 →
    (∃ u : Nat, Lib.parseUint10 acc ((s.data.toList.drop k).take (m - k)) = .ok u ∧ ((u ≤ 9223372036854775807 ∧ dgsAt s k acc = some (m, (u : Int))) ∨ (9223372036854775807 < u ∧ dgsAt s k acc = none))) ∨
    (Lib.parseUint10 acc ((s.data.toList.drop k).take (m - k)) = .range ∧ dgsAt s k acc = none) := by
  have hl : s.data.toList.length = s.size := Array.length_toList
  intro d
  induction d with
  | zero =>
    intro k acc hd hk hj ha
    obtain rfl : k = m := by omega
    refine .inl ⟨acc, ?_, .inl ⟨ha, ?_⟩⟩
    · rw [Nat.sub_self]; rfl
    · rcases stop with h | h
      · exact dgsAt_end s k acc (by omega)
      · rcases Nat.lt_or_ge k s.size with hlt | hge
        · rw [dgsAt_step s k acc hlt, if_neg h]
        · exact dgsAt_end s k acc hge
  | succ d ih =>
    intro k acc hd hk hj ha
    have hlt : k < s.size := by omega
    have hc := hj k (Nat.le_refl _) (by omega)
    have hcb := (cls2 _).1 hc
    rw [dgsAt_step s k acc hlt, if_pos hc, List.drop_eq_getElem_cons (by omega), show m - k = (m - (k + 1)) + 1 from by omega, List.take_succ_cons]
    have ek : atB s k = (s.data.toList[k].toNat : Int) := by unfold atB; rw [List.getD_eq_getElem?_getD, List.getElem?_eq_getElem (by omega)]; rfl
    rw [ek] at hcb ⊢
    generalize s.data.toList[k] = c at hcb ⊢
    have hcn : 48 ≤ c.toNat ∧ c.toNat ≤ 57 := by omega
    have hcast : 10 * (acc : Int) + ((c.toNat : Int) - 48) = ((acc * 10 + (c.toNat - 48) : Nat) : Int) := by omega
    rw [hcast]
    have htg : tooGreat acc ((c.toNat : Int) - 48) = true ↔ 9223372036854775807 < acc * 10 + (c.toNat - 48) := by
      unfold tooGreat
      rw [decide_eq_true_iff]
      omega
    simp only [Lib.parseUint10, if_pos hcn]
    by_cases h1 : 9223372036854775807 < acc * 10 + (c.toNat - 48)
    · rw [if_pos (htg.2 h1)]
      by_cases h2 : 1844674407370955162 ≤ acc
      · rw [if_pos h2]; exact .inr ⟨rfl, rfl⟩
      rw [if_neg h2]
      by_cases h3 : 18446744073709551616 ≤ acc * 10 + (c.toNat - 48)
      · rw [if_pos h3]; exact .inr ⟨rfl, rfl⟩
      rw [if_neg h3]
      rcases parse_or ((s.data.toList.drop (k + 1)).take (m - (k + 1))) (acc * 10 + (c.toNat - 48)) (fun x hx => by
        obtain ⟨j, hj2, rfl⟩ := List.mem_iff_getElem.1 hx
        have hjl : j < m - (k + 1) := by
          have := hj2
          rw [List.length_take] at this
          omega
        have := hj (k + 1 + j) (by omega) (by omega)
        have h4 := (cls2 _).1 this
        have e4 : atB s (k + 1 + j) = (s.data.toList[k + 1 + j].toNat : Int) := by unfold atB; rw [List.getD_eq_getElem?_getD, List.getElem?_eq_getElem (by omega)]; rfl
        rw [e4] at h4
        rw [List.getElem_take, List.getElem_drop]
        omega) with ⟨u, hp⟩ | hp
      · exact .inl ⟨u, hp, .inr ⟨by have := parse_ge _ _ _ hp; omega, rfl⟩⟩
      · exact .inr ⟨hp, rfl⟩
    · rw [if_neg (fun h => h1 (htg.1 h)), if_neg (by omega), if_neg (by omega)]
      exact ih (k + 1) (acc * 10 + (c.toNat - 48)) (by omega) (by omega) (fun j h h' => hj j (by omega) h') (by omega)

/-- the digits from i up to m, as strconv has them -/
theorem atoi_dgs (s : ByteArray) (i m : Nat) (hi : i < m) (hm : m ≤ s.size) (hj : ∀ j, i ≤ j → j < m → cls (atB s j) = 2) (stop : m = s.size ∨ cls (atB s m) ≠ 2) :
    (∃ u : Nat, u ≤ 9223372036854775807 ∧ Lib.atoiAll (s.extract i m).data.toList = .ok u ∧ dgsAt s i 0 = some (m, (u : Int))) ∨ (Lib.atoiAll (s.extract i m).data.toList = .range ∧ dgsAt s i 0 = none) := by
  have hl : s.data.toList.length = s.size := Array.length_toList
  have h := parse_dgs s m hm stop (m - i) i 0 rfl (by omega) hj (by omega)
  rw [Lib.extract_data]
  have hcons : (s.data.toList.drop i).take (m - i) = s.data.toList[i] :: (s.data.toList.drop (i + 1)).take (m - (i + 1)) := by
    rw [List.drop_eq_getElem_cons (by omega), show m - i = (m - (i + 1)) + 1 from by omega, List.take_succ_cons]
  rw [hcons] at h ⊢
  have hc := (cls2 _).1 (hj i (Nat.le_refl _) hi)
  have ek : atB s i = (s.data.toList[i].toNat : Int) := by unfold atB; rw [List.getD_eq_getElem?_getD, List.getElem?_eq_getElem (by omega)]; rfl
  rw [ek] at hc
  rw [Lib.atoiAll_plain _ _ (by omega) (by omega)]
  unfold Lib.parseMag
  rw [if_neg (by simp)]
  rcases h with ⟨u, h1, ⟨h2, h3⟩ | ⟨h2, h3⟩⟩ | ⟨h1, h3⟩
  · refine .inl ⟨u, h2, ?_, h3⟩
    rw [h1]; unfold Lib.signless; simp only; rw [if_neg (by omega)]
  · refine .inr ⟨?_, h3⟩
    rw [h1]; unfold Lib.signless; simp only; rw [if_pos (by omega)]
  · exact .inr ⟨by rw [h1]; rfl, h3⟩

theorem lt_heap {b : Nat} {w : World} {o : Obj} (h : w.heap[b]? = some o) : b < w.heap.size := (Array.getElem?_eq_some_iff.1 h).1
/-- a row of the call's own, and what lay ahead, behind one callee more -/
theorem next_row {B N : Nat} {w w1 w2 : World} {o : Obj} (h0 : w1.heap[N]? = some o) (hb : Below B w w1) (hB : B ≤ w.heap.size) (h : Below w1.heap.size w1 w2) : w2.heap[N]? = some o ∧ Below B w w2 :=
  ⟨(h.block N (lt_heap h0)).trans h0, hb.trans (h.mono (Nat.le_trans hB hb.size))⟩
/-- .. and behind one block more -/
theorem alloc_row {B N : Nat} {w w1 : World} {o : Obj} (h0 : w1.heap[N]? = some o) (hb : Below B w w1) (hB : B ≤ w.heap.size) (x : Obj) : (w1.alloc x).heap[N]? = some o ∧ Below B w (w1.alloc x) :=
  ⟨(Below.heap_alloc w1 x N (lt_heap h0)).trans h0, hb.alloc (Nat.le_trans hB hb.size) x⟩

/-- the variable of strconv's error is there -/
def RangeOk (w : World) : Prop := ∃ ev, w.cell? ⟨2, 0, none⟩ = some ev ∧ (ev = .nilIface ∨ ∃ te pe, ev = .iface te pe)
theorem RangeOk.below {B : Nat} {w w' : World} (h : RangeOk w) (hb : Below B w w') (hB : w.heap.size ≤ B) : RangeOk w' := by
  obtain ⟨ev, h1, h2⟩ := h
  exact ⟨ev, (hb.cell (Nat.lt_of_lt_of_le (Lib.lt_of_cell h1) hB)).trans h1, h2⟩

theorem atoi_yes (s : ByteArray) (u : Nat) (hs : s.size ≤ 1000000) (h : Lib.atoiAll s.data.toList = .ok (u : Int)) (w : World) :
    Calls Tryz.prog 142 #[.string s] w fun e w' => e = .returned (.tuple #[.int .i64 u, .nilIface]) ∧ Below w.heap.size w w' :=
  (Tryz.strconv_Atoi_ok s (by omega) u h w).mono fun e w' ⟨h1, h2⟩ => ⟨h1, by
    rcases h2 with rfl | ⟨t, rfl⟩
    · exact Below.refl _ _
    · exact Lib.bytesWorld_below _ _ _⟩
theorem atoi_no (s : ByteArray) (hs : s.size ≤ 1000000) (h : Lib.atoiAll s.data.toList = .range) (w : World) (hw : RangeOk w) :
    Calls Tryz.prog 142 #[.string s] w fun e w' => ∃ (x : Int) (N : Nat), e = .returned (.tuple #[.int .i64 x, .iface 207 (.pointer (some ⟨N, 0, none⟩))]) ∧ Below w.heap.size w w' := by
  obtain ⟨ev, h1, h2⟩ := hw
  exact (Tryz.strconv_Atoi_range s (by omega) h ev w h1 h2).mono fun e w' ⟨N, h3, _, _, h4⟩ => ⟨_, N, h3, h4⟩

set_option maxHeartbeats 4000000 in
set_option maxRecDepth 100000 in
theorem pnum_any (s : ByteArray) (hs : s.size ≤ 1000000) (i : Nat) (hi : i < s.size) (hc : cls (atB s i) = 2) (w : World) (hw : RangeOk w) :
    Calls Tryz.prog 134 #[.string s, .int .i64 i] w fun e w' => e = .returned (rdV (numP s i)) ∧ Below w.heap.size w w' := by
  have hw2 : ∀ o, RangeOk (w.alloc o) := fun o => hw.below ((Below.refl w.heap.size w).alloc (Nat.le_refl _) o) (Nat.le_refl _)
  have HW := Lib.hid hw2
  have HC := Lib.hid hc
  clear hw hw2 hc
  go_enter Tryz.func134, Tryz.ntmps134
  go_wp2
  go_loop [6] (fun mv => ∃ m : Nat, i ≤ m ∧ m ≤ s.size ∧ mv = .int .i64 m ∧ Hid (∀ j, i ≤ j → j < m → cls (atB s j) = 2)) (fun mv => s.size - (intOf mv).toNat)
  case atStart => exact ⟨i, Nat.le_refl _, by omega, rfl, Lib.hid fun j h1 h2 => by omega⟩
  case round =>
    obtain ⟨m, m1, m2, rfl, H⟩ := hrel
    have key : ∀ (hstop : m = s.size ∨ cls (atB s m) ≠ 2), i < m := by
      intro hstop
      rcases Nat.lt_or_ge i m with h | h
      · exact h
      · obtain rfl : m = i := by omega
        rcases hstop with h' | h'
        · omega
        · exact absurd HC.out h'
    by_cases hlt : m < s.size
    · by_cases hd : cls (atB s m) = 2
      · have q : (cls (atB s m) == 2) = true := by rw [beq_iff_eq]; exact hd
        have HD := Lib.hid hd
        clear hd key
        go_wp2_with fail
        refine (class_at s m hlt _).mono ?_
        rintro e w' ⟨rfl, rfl⟩
        go_wp2
        go_round
        case rel =>
          refine ⟨m + 1, by omega, by omega, by go_num, Lib.hid fun j h1 h2 => ?_⟩
          by_cases hjm : j = m
          · rw [hjm]; exact HD.out
          · exact H.out j h1 (by omega)
        case measure => simp [intOf]; omega
      · have q : (cls (atB s m) == 2) = false := by rw [beq_eq_false_iff_ne]; exact hd
        have him := key (.inr hd)
        have hres := atoi_dgs s i m him m2 H.out (.inr hd)
        clear hd key
        rcases hres with ⟨u, hu, ha, hg⟩ | ⟨ha, hg⟩
        · have HN : Hid (numP s i = .inl ⟨3, i, m, s.extract i m, u⟩) := Lib.hid (by unfold numP; rw [hg]; rfl)
          clear hg
          go_wp2_with fail
          refine (class_at s m hlt _).mono ?_
          rintro e w' ⟨rfl, rfl⟩
          go_wp2_with fail
          refine (atoi_yes _ u (by simp; omega) ha _).mono ?_
          rintro e w1 ⟨rfl, hb1⟩
          obtain ⟨h0, hb⟩ := first_row hb1
          go_wp2_with fail
          refine (plain_any _ s hs i m _ _ rfl rfl m1 m2 _).mono ?_
          rintro e w2 ⟨rfl, hb2⟩
          obtain ⟨h1, hb3⟩ := next_row h0 hb (Nat.le_refl _) hb2
          have H1 := fun o => (alloc_row h1 hb3 (Nat.le_refl _) o).1
          have H2 := fun o => (alloc_row h1 hb3 (Nat.le_refl _) o).2
          go_wp2_with (refine store_tk 3 i m (s.extract i m) u w.heap.size w.heap.size _ (H1 _) (H2 _) (Nat.le_refl _) rfl rfl _ _ rfl rfl rfl ?_; intro W2 k0 hb2)
          obtain ⟨a0, a1, a2, a3, a4⟩ := cells5 k0
          refine bodyPost_ret (v := .tuple #[.agg #[.int .i64 3, .int .i64 i, .int .i64 m, .string (s.extract i m), .int .i64 u], .int .i64 0]) (by simp [results, Tryz.results134, go_sem, a0, a1, a2, a3, a4]) rfl ⟨?_, hb2⟩
          rw [HN.out]; rfl
        · have HN : Hid (numP s i = .inr (i, 21)) := Lib.hid (by unfold numP; rw [hg]; rfl)
          clear hg
          go_wp2_with fail
          refine (class_at s m hlt _).mono ?_
          rintro e w' ⟨rfl, rfl⟩
          go_wp2_with fail
          refine (atoi_no _ (by simp; omega) ha _ (HW.out _)).mono ?_
          rintro e w1 ⟨x, M, rfl, hb1⟩
          obtain ⟨h0, hb⟩ := first_row hb1
          go_wp2_with fail
          refine (fault_any _ _ _).mono ?_
          rintro e w2 ⟨rfl, hb2⟩
          obtain ⟨h1, hb3⟩ := next_row h0 hb (Nat.le_refl _) hb2
          go_wp2_with (refine store_tk 0 i 0 ⟨#[]⟩ 0 w.heap.size w.heap.size _ h1 hb3 (Nat.le_refl _) rfl rfl _ _ rfl rfl rfl ?_; intro W2 k0 hb2)
          obtain ⟨a0, a1, a2, a3, a4⟩ := cells5 k0
          refine bodyPost_ret (v := .tuple #[.agg #[.int .i64 0, .int .i64 i, .int .i64 0, .string ⟨#[]⟩, .int .i64 0], .int .i64 21]) (by simp [results, Tryz.results134, go_sem, a0, a1, a2, a3, a4]) rfl ⟨?_, hb2⟩
          rw [HN.out]; rfl
    · have him := key (.inl (by omega))
      have hres := atoi_dgs s i m him m2 H.out (.inl (by omega))
      clear key
      rcases hres with ⟨u, hu, ha, hg⟩ | ⟨ha, hg⟩
      · have HN : Hid (numP s i = .inl ⟨3, i, m, s.extract i m, u⟩) := Lib.hid (by unfold numP; rw [hg]; rfl)
        clear hg
        go_wp2_with fail
        refine (atoi_yes _ u (by simp; omega) ha _).mono ?_
        rintro e w1 ⟨rfl, hb1⟩
        obtain ⟨h0, hb⟩ := first_row hb1
        go_wp2_with fail
        refine (plain_any _ s hs i m _ _ rfl rfl m1 m2 _).mono ?_
        rintro e w2 ⟨rfl, hb2⟩
        obtain ⟨h1, hb3⟩ := next_row h0 hb (Nat.le_refl _) hb2
        have H1 := fun o => (alloc_row h1 hb3 (Nat.le_refl _) o).1
        have H2 := fun o => (alloc_row h1 hb3 (Nat.le_refl _) o).2
        go_wp2_with (refine store_tk 3 i m (s.extract i m) u w.heap.size w.heap.size _ (H1 _) (H2 _) (Nat.le_refl _) rfl rfl _ _ rfl rfl rfl ?_; intro W2 k0 hb2)
        obtain ⟨a0, a1, a2, a3, a4⟩ := cells5 k0
        refine bodyPost_ret (v := .tuple #[.agg #[.int .i64 3, .int .i64 i, .int .i64 m, .string (s.extract i m), .int .i64 u], .int .i64 0]) (by simp [results, Tryz.results134, go_sem, a0, a1, a2, a3, a4]) rfl ⟨?_, hb2⟩
        rw [HN.out]; rfl
      · have HN : Hid (numP s i = .inr (i, 21)) := Lib.hid (by unfold numP; rw [hg]; rfl)
        clear hg
        go_wp2_with fail
        refine (atoi_no _ (by simp; omega) ha _ (HW.out _)).mono ?_
        rintro e w1 ⟨x, M, rfl, hb1⟩
        obtain ⟨h0, hb⟩ := first_row hb1
        go_wp2_with fail
        refine (fault_any _ _ _).mono ?_
        rintro e w2 ⟨rfl, hb2⟩
        obtain ⟨h1, hb3⟩ := next_row h0 hb (Nat.le_refl _) hb2
        go_wp2_with (refine store_tk 0 i 0 ⟨#[]⟩ 0 w.heap.size w.heap.size _ h1 hb3 (Nat.le_refl _) rfl rfl _ _ rfl rfl rfl ?_; intro W2 k0 hb2)
        obtain ⟨a0, a1, a2, a3, a4⟩ := cells5 k0
        refine bodyPost_ret (v := .tuple #[.agg #[.int .i64 0, .int .i64 i, .int .i64 0, .string ⟨#[]⟩, .int .i64 0], .int .i64 21]) (by simp [results, Tryz.results134, go_sem, a0, a1, a2, a3, a4]) rfl ⟨?_, hb2⟩
        rw [HN.out]; rfl
end Go.Proofs.YtkdhoelabomgkaaGreatDoor
/-
  The trees' rows: the error's variable is there. No walk.
-/
namespace Go.Proofs.YtkdhoelabomgkaaGreatDoor
set_option linter.unusedVariables false
open Go.ChangeShapes Go.WideShapes Go.ChangeAt Go.RowKit

theorem gRange : Tryz.prog.globalNamed "strconv.ErrRange" = some 2 := by kernel_rfl
theorem gRangeT : (Tryz.prog.globals[2]?).map (·.type) = some 188 := by kernel_rfl
theorem star : "*" ++ "errors.errorString" = "*errors.errorString" := by decide
theorem cellsES : Tryz.prog.cellsOf 231 = 1 := by kernel_rfl
theorem cellsS : Tryz.prog.cellsOf 9 = 1 := by kernel_rfl
theorem laid_tail {P : Program} {x : String × DataW Unit} {r : List (String × DataW Unit)} {W : World} (h : laidMet P (x :: r) W) : laidMet P r W := by
  obtain ⟨ps, ⟨g, t, cs, fu, p, q, _, _, _, _, hr, rfl⟩, hnd, hc⟩ := h
  exact ⟨q, hr, (List.nodup_append.1 hnd).2.1, fun b off hm => hc b off (List.mem_append_right _ hm)⟩
/-- what is listed -/
theorem laid_list {W : World} (h : laidMetH Tryz.prog Rows.treeRightsRow.laid W) : laidMet Tryz.prog Rows.treeRightsRow.laid W := by
  rw [MakeChecks.laidMetH_plain _ _ _ (by kernel_rfl)] at h
  exact h
theorem rowES (u : TypeId) (h : Tryz.prog.typeName? 3 u = some "*errors.errorString") : u = 229 :=
  typeName_ptr_named (nm := "errors.errorString") (by rw [star]; kernel_rfl) (by kernel_rfl) (by decide) u (by rw [star]; exact h)
/-- **the error's variable is there** -/
theorem range_ok {W : World} (h : laidMetH Tryz.prog Rows.treeRightsRow.laid W) : RangeOk W := by
  obtain ⟨a, s, hv, _⟩ := laid_sentinel (laid_tail (laid_tail (laid_tail (laid_list h)))) gRange gRangeT Tryz.underlying188 rowES Tryz.underlying229 Tryz.underlying231 rfl rfl Tryz.underlying9 cellsES cellsS
  exact ⟨.iface 229 (.pointer (some a)), by simpa using World.var?_cell gRange hv 0, .inr ⟨_, _, rfl⟩⟩
end Go.Proofs.YtkdhoelabomgkaaGreatDoor
/-
  Layer 3, the law's side: FewExprs, fewAlts, FewDecls, light: they come to a number, and leave what lies in memory alone.
-/
namespace Go.Proofs.YtkdhoelabomgkaaGreatDoor
set_option linter.unusedVariables false
open Go.ChangeShapes Go.WideShapes Go.ChangeAt Go.RowKit

theorem heap_lt {w : World} {k : Nat} {o : Obj} (h : w.heap[k]? = some o) : k < w.heap.size := by
  rcases Nat.lt_or_ge k w.heap.size with h' | h'
  · exact h'
  · simp [Array.getElem?_eq_none h'] at h
theorem ne_nil {α : Type} {l : List α} {k : Nat} (h : k < l.length) : l ≠ [] := by rintro rfl; simp at h
/-- it comes to a number -/
def Num (w : World) (e : Ending) (w' : World) : Prop := (∃ r : Int, e = .returned (.int .i64 r)) ∧ Below w.heap.size w w'
/-- counts of small weight -/
structure FewZ (z : Nat) : Prop where
  ex : ∀ (l : List Ex), Ex.wts l ≤ z → ∀ (v : Value) (x : Int) (w : World), IsExs w Any v l → Calls Tryz.prog 32 #[v, .int .i64 x] w (Num w)
  al : ∀ (l : List Al), Al.wts l ≤ z → ∀ (v : Value) (x : Int) (w : World), IsAls w Any v l → Calls Tryz.prog 53 #[v, .int .i64 x] w (Num w)
  de : ∀ (l : List De), De.wts l ≤ z → ∀ (v : Value) (x : Int) (w : World), IsDes w Any v l → Calls Tryz.prog 54 #[v, .int .i64 x] w (Num w)

set_option maxHeartbeats 8000000 in
set_option maxRecDepth 100000 in
theorem fewT_num (l : List Ty) (v : Value) (x : Int) (w : World) (hv : IsTys w Any v l) : Calls Tryz.prog 7 #[v, .int .i64 x] w (Num w) := by
  refine (fewT_any _ l (Nat.le_refl _) v x w hv).mono ?_
  rintro e w' ⟨rfl, n, rfl⟩
  exact ⟨⟨_, rfl⟩, drew_below w n⟩
set_option maxHeartbeats 8000000 in
set_option maxRecDepth 100000 in
theorem fewP_num (l : List Pa) (v : Value) (x : Int) (w : World) (hv : IsPas w Any v l) : Calls Tryz.prog 52 #[v, .int .i64 x] w (Num w) := by
  refine (fewP_any _ l (Nat.le_refl _) v x w hv).mono ?_
  rintro e w' ⟨rfl, n, rfl⟩
  exact ⟨⟨_, rfl⟩, drew_below w n⟩

set_option maxHeartbeats 8000000 in
set_option maxRecDepth 100000 in
theorem fewE_step (z : Nat) (l : List Ex) (hz : l ≠ [] → FewZ z) (hl : Ex.wts l ≤ z + 1) (v : Value) (x : Int) (w : World) (hv : IsExs w Any v l) : Calls Tryz.prog 32 #[v, .int .i64 x] w (Num w) := by
  obtain ⟨ao, cap, rfl, v1, v2⟩ := hv.form
  have hlm : (l.length : Int) ≤ 9223372036854775807 := by unfold maxLen at v2; omega
  have HZ := Lib.hid hz
  clear hz
  go_enter Tryz.func32, Tryz.ntmps32
  go_wp2
  go_loopw [1, 5, 6] (fun lv iv _ wr => ∃ (k : Nat) (y : Int), k ≤ l.length ∧ iv = .int .i64 k ∧ lv = .int .i64 y ∧ Below w.heap.size w wr) (fun _ iv _ _ => l.length - (intOf iv).toNat)
  case atStart => exact ⟨0, x, Nat.zero_le _, rfl, rfl, Below.refl _ _⟩
  case round =>
    obtain ⟨k, y, hk, rfl, rfl, hbw⟩ := hrel
    by_cases hlt : k < l.length
    · have k1 : (k : Int) < l.length := by omega
      by_cases hy : y < 0
      · have q : ¬ (0 : Int) ≤ y := by omega
        clear hy
        go_wp2
        go_ret
        exact ⟨⟨_, rfl⟩, hbw⟩
      · have q : (0 : Int) ≤ y := by omega
        obtain ⟨t, ht⟩ : ∃ t, l[k]? = some t := ⟨l[k], List.getElem?_eq_getElem hlt⟩
        have hsz := Ex.wts_get l k t ht
        obtain ⟨a, rfl, _, hrow⟩ := hv.at ht
        have hrow := hrow.on hbw
        obtain ⟨tk, tp, tn, tm, tl, tps, tal, tds⟩ := t
        unfold Ex.wt at hsz
        obtain ⟨c0, c1, c2, c2', c3, ⟨a4, b4, c4, _, _, h4⟩, ⟨a5, b5, c5, _, _, h5⟩, ⟨a6, b6, c6, _, _, h6⟩, ⟨a7, b7, c7, _, _, h7⟩⟩ := hrow.cells
        have hO : ∀ W : World, ∃ o : Obj, o = .cells #[.int .i64 tk, .int .i64 tp, .string tn, .int .i64 tm, .slice a4 tl.length b4, .slice a5 tps.length b5, .slice a6 tal.length b6, .slice a7 tds.length b7] 32 := fun W => ⟨_, rfl⟩
        obtain ⟨o, ho⟩ := hO wr
        have hN := heap_alloc_new wr o
        have hb1 := (Below.refl wr.heap.size wr).alloc (Nat.le_refl _) o
        have hbb := hbw.trans (hb1.mono hbw.size)
        have g4 := h4.on hb1
        have g5 := h5.on hb1
        have g6 := h6.on hb1
        have g7 := h7.on hb1
        subst ho
        clear hv hrow h4 h5 h6 h7 hO
        go_wp2_with fail
        refine ((HZ.out (ne_nil hlt)).ex tl (by omega) _ _ _ g4).mono ?_
        rintro e w1 ⟨⟨r1, rfl⟩, hc1⟩
        have n1 := (hc1.block _ (heap_lt hN)).trans hN
        have e15 : w1.cell? ⟨wr.heap.size, 5, none⟩ = some (.slice a5 tps.length b5) := by rw [Lib.cell_of_heap n1]; rfl
        have e16 : w1.cell? ⟨wr.heap.size, 6, none⟩ = some (.slice a6 tal.length b6) := by rw [Lib.cell_of_heap n1]; rfl
        have e17 : w1.cell? ⟨wr.heap.size, 7, none⟩ = some (.slice a7 tds.length b7) := by rw [Lib.cell_of_heap n1]; rfl
        go_wp2_with fail
        refine (fewP_num tps _ _ _ (g5.on hc1)).mono ?_
        rintro e w2 ⟨⟨r2, rfl⟩, hc2⟩
        have n2 := (hc2.block _ (heap_lt n1)).trans n1
        have e26 : w2.cell? ⟨wr.heap.size, 6, none⟩ = some (.slice a6 tal.length b6) := by rw [Lib.cell_of_heap n2]; rfl
        have e27 : w2.cell? ⟨wr.heap.size, 7, none⟩ = some (.slice a7 tds.length b7) := by rw [Lib.cell_of_heap n2]; rfl
        have hc12 := hc1.trans (hc2.mono hc1.size)
        go_wp2_with fail
        refine ((HZ.out (ne_nil hlt)).al tal (by omega) _ _ _ (g6.on hc12)).mono ?_
        rintro e w3 ⟨⟨r3, rfl⟩, hc3⟩
        have n3 := (hc3.block _ (heap_lt n2)).trans n2
        have e37 : w3.cell? ⟨wr.heap.size, 7, none⟩ = some (.slice a7 tds.length b7) := by rw [Lib.cell_of_heap n3]; rfl
        have hc13 := hc12.trans (hc3.mono hc12.size)
        go_wp2_with fail
        refine ((HZ.out (ne_nil hlt)).de tds (by omega) _ _ _ (g7.on hc13)).mono ?_
        rintro e w4 ⟨⟨r4, rfl⟩, hc4⟩
        have hc14 := hc13.trans (hc4.mono hc13.size)
        go_wp2
        go_roundw
        case rel => exact ⟨k + 1, _, by omega, by go_num, rfl, hbb.trans (hc14.mono hbb.size)⟩
        case measure => simp [intOf]; omega
    · have k1 : ¬ (k : Int) < l.length := by omega
      go_wp2
      go_ret
      exact ⟨⟨_, rfl⟩, hbw⟩
end Go.Proofs.YtkdhoelabomgkaaGreatDoor
/-
  Layer 3, the law's side: OwnType: the document's type as the program's: the same tree, in blocks of its own.
-/
namespace Go.Proofs.YtkdhoelabomgkaaGreatDoor
set_option linter.unusedVariables false
open Go.ChangeShapes Go.WideShapes Go.ChangeAt Go.RowKit

/-- blocks that came between -/
def Own (w w' : World) : Nat → Prop := fun b => w.heap.size ≤ b ∧ b < w'.heap.size
/-- some types as the program's -/
def OwnTs (l : List Ty) : Prop := ∀ (P : Nat → Prop) (v : Value) (w : World), IsTys w P v l →
  Calls Tryz.prog 34 #[v] w fun e w' => ∃ v', e = .returned v' ∧ IsTys w' (Own w w') v' l ∧ Below w.heap.size w w'

theorem set4 {w : World} {N : Nat} {x0 x1 x2 x3 : Value} {t : TypeId} (a b c d : Value) (h : w.heap[N]? = some (.cells #[x0, x1, x2, x3] t (0, 0))) :
    ((((w.setCell ⟨N, 0, none⟩ a).setCell ⟨N, 1, none⟩ b).setCell ⟨N, 2, none⟩ c).setCell ⟨N, 3, none⟩ d).heap[N]? = some (.cells #[a, b, c, d] t (0, 0)) := by
  have h1 := heap_setCell_same w N 0 _ t a h
  have h2 := heap_setCell_same _ N 1 _ t b h1
  have h3 := heap_setCell_same _ N 2 _ t c h2
  exact heap_setCell_same _ N 3 _ t d h3
theorem set4_other {w : World} {N : Nat} (a b c d : Value) (k : Nat) (hk : k ≠ N) : ((((w.setCell ⟨N, 0, none⟩ a).setCell ⟨N, 1, none⟩ b).setCell ⟨N, 2, none⟩ c).setCell ⟨N, 3, none⟩ d).heap[k]? = w.heap[k]? := by
  rw [heap_setCell_other _ _ _ _ hk, heap_setCell_other _ _ _ _ hk, heap_setCell_other _ _ _ _ hk, heap_setCell_other _ _ _ _ hk]
theorem set4_cell {w : World} {N k : Nat} (a b c d : Value) (j : Nat) (hk : k ≠ N) : ((((w.setCell ⟨N, 0, none⟩ a).setCell ⟨N, 1, none⟩ b).setCell ⟨N, 2, none⟩ c).setCell ⟨N, 3, none⟩ d).cell? ⟨k, j, none⟩ = w.cell? ⟨k, j, none⟩ := World.cell?_of_block (set4_other a b c d k hk)
theorem IsTys.mono {P Q : Nat → Prop} {w : World} {v : Value} {l : List Ty} (h : IsTys w P v l) (hp : ∀ b, P b → Q b) : IsTys w Q v l := ⟨IsC.mono hp _ _ h.out⟩
theorem IsTys.stay {P : Nat → Prop} {w w' : World} {v : Value} {l : List Ty} (h : IsTys w P v l) (hs : Stay P w w') : IsTys w' P v l := ⟨IsC.stay hs _ _ h.out⟩

set_option maxHeartbeats 4000000 in
set_option maxRecDepth 100000 in
theorem ownT_step (k p : Int) (n : ByteArray) (l : List Ty) (hl : OwnTs l) (P : Nat → Prop) (v : Value) (w : World) (hv : IsTys w P v l) :
    Calls Tryz.prog 10 #[.agg #[.int .i64 k, .int .i64 p, .string n, v]] w fun e w' => ∃ v', e = .returned (.agg #[.int .i64 k, .int .i64 p, .string n, v']) ∧ IsTys w' (Own w w') v' l ∧ Below w.heap.size w w' := by
  obtain ⟨ao, cap, rfl, hc1, hc2⟩ := hv.form
  have HL := Lib.hid hl
  have HV := Lib.hid hv
  clear hl hv
  go_enter Tryz.func10, Tryz.ntmps10
  obtain ⟨o1, ho1⟩ : ∃ o : Obj, o = .cells #[.int .i64 k, .int .i64 p, .string n, .slice ao l.length cap] 24 := ⟨_, rfl⟩
  obtain ⟨o2, ho2⟩ : ∃ o : Obj, o = .cells #[.int .i64 0, .int .i64 0, .string ⟨#[]⟩, .slice none 0 0] 39 := ⟨_, rfl⟩
  have hb1 := ((Below.refl w.heap.size w).alloc (Nat.le_refl _) o1).alloc (by simp) o2
  have hN1 : ((w.alloc o1).alloc o2).heap[w.heap.size]? = some o1 := (Below.heap_alloc _ _ _ (by simp)).trans (heap_alloc_new w o1)
  have hN2 : ((w.alloc o1).alloc o2).heap[w.heap.size + 1]? = some o2 := by
    have := heap_alloc_new (w.alloc o1) o2
    rwa [show (w.alloc o1).heap.size = w.heap.size + 1 by simp] at this
  have hsz : ((w.alloc o1).alloc o2).heap.size = w.heap.size + 2 := by simp
  have HV1 := Lib.hid (HV.out.on hb1)
  go_wp2
  rw [← ho1, ← ho2]
  generalize (w.alloc o1).alloc o2 = W at hb1 hN1 hN2 hsz HV1 ⊢
  subst ho1 ho2
  have hd1 : W.drew.heap[w.heap.size]? = some (.cells #[.int .i64 k, .int .i64 p, .string n, .slice ao l.length cap] 24) := hN1
  have hd2 : W.drew.heap[w.heap.size + 1]? = some (.cells #[.int .i64 0, .int .i64 0, .string ⟨#[]⟩, .slice none 0 0] 39) := hN2
  have four : ∀ V : World, V.heap[w.heap.size]? = some (.cells #[.int .i64 k, .int .i64 p, .string n, .slice ao l.length cap] 24) → V.cell? ⟨w.heap.size, 0, none⟩ = some (.int .i64 k) ∧ V.cell? ⟨w.heap.size, 1, none⟩ = some (.int .i64 p) ∧ V.cell? ⟨w.heap.size, 2, none⟩ = some (.string n) ∧ V.cell? ⟨w.heap.size, 3, none⟩ = some (.slice ao l.length cap) := fun V hV => by
    refine ⟨?_, ?_, ?_, ?_⟩ <;> (rw [Lib.cell_of_heap hV]; rfl)
  have HF := Lib.hid four
  clear four
  have x0 := HF.out _ hd1
  have hNN : w.heap.size ≠ w.heap.size + 1 := by omega
  go_region_held3 (fun V => V.cell? ⟨w.heap.size, 0, none⟩ = some (.int .i64 k) ∧ V.cell? ⟨w.heap.size, 1, none⟩ = some (.int .i64 p) ∧ V.cell? ⟨w.heap.size, 2, none⟩ = some (.string n) ∧ V.cell? ⟨w.heap.size, 3, none⟩ = some (.slice ao l.length cap))
    (first | (simp only [set4_cell _ _ _ _ _ hNN]; exact HF.out wA ((hbA.block _ (heap_lt hd1)).trans hd1)) | exact HF.out wA ((hbA.block _ (heap_lt hd1)).trans hd1) | exact x0 | go_keep)
    ((first | (go_at_call 34
               refine (HL.out _ _ _ (HV1.out.on (Below.refl _ _).drew)).mono ?_
               rintro e wA ⟨v', rfl, hv', hbA⟩
               obtain ⟨ao', cap', rfl, hc1', hc2'⟩ := hv'.form
               have fr2 : wA.heap[w.heap.size + 1]? = some (.cells #[.int .i64 0, .int .i64 0, .string ⟨#[]⟩, .slice none 0 0] 39) := (hbA.block _ (heap_lt hd2)).trans hd2
               have f0 : wA.frozen? ⟨w.heap.size + 1, 0, none⟩ = false := Lib.frozen_of_heap fr2 0
               have f1 : wA.frozen? ⟨w.heap.size + 1, 1, none⟩ = false := Lib.frozen_of_heap fr2 1
               have f2 : wA.frozen? ⟨w.heap.size + 1, 2, none⟩ = false := Lib.frozen_of_heap fr2 2
               have f3 : wA.frozen? ⟨w.heap.size + 1, 3, none⟩ = false := Lib.frozen_of_heap fr2 3
               have c0 : wA.cell? ⟨w.heap.size + 1, 0, none⟩ = some (.int .i64 0) := by rw [Lib.cell_of_heap fr2]; rfl
               have c1 : wA.cell? ⟨w.heap.size + 1, 1, none⟩ = some (.int .i64 0) := by rw [Lib.cell_of_heap fr2]; rfl
               have c2 : wA.cell? ⟨w.heap.size + 1, 2, none⟩ = some (.string ⟨#[]⟩) := by rw [Lib.cell_of_heap fr2]; rfl
               have c3 : wA.cell? ⟨w.heap.size + 1, 3, none⟩ = some (.slice none 0 0) := by rw [Lib.cell_of_heap fr2]; rfl)))
  have hs5 := set4 (.int .i64 k) (.int .i64 p) (.string n) (.slice ao' l.length cap') fr2
  have ho5 := fun j hj => set4_other (w := wA) (N := w.heap.size + 1) (.int .i64 k) (.int .i64 p) (.string n) (.slice ao' l.length cap') j hj
  have hbd : Below w.heap.size w W.drew := hb1.drew
  have hb5 := ((((hbd.trans (hbA.mono hbd.size)).setCell (p := ⟨w.heap.size + 1, 0, none⟩) (Nat.le_succ _) (.int .i64 k)).setCell (p := ⟨w.heap.size + 1, 1, none⟩) (Nat.le_succ _) (.int .i64 p)).setCell (p := ⟨w.heap.size + 1, 2, none⟩) (Nat.le_succ _) (.string n)).setCell (p := ⟨w.heap.size + 1, 3, none⟩) (Nat.le_succ _) (.slice ao' l.length cap')
  have hsz5 : ((((wA.setCell ⟨w.heap.size + 1, 0, none⟩ (.int .i64 k)).setCell ⟨w.heap.size + 1, 1, none⟩ (.int .i64 p)).setCell ⟨w.heap.size + 1, 2, none⟩ (.string n)).setCell ⟨w.heap.size + 1, 3, none⟩ (.slice ao' l.length cap')).heap.size = wA.heap.size := by simp
  generalize (((wA.setCell ⟨w.heap.size + 1, 0, none⟩ (.int .i64 k)).setCell ⟨w.heap.size + 1, 1, none⟩ (.int .i64 p)).setCell ⟨w.heap.size + 1, 2, none⟩ (.string n)).setCell ⟨w.heap.size + 1, 3, none⟩ (.slice ao' l.length cap') = W5 at hs5 ho5 hb5 hsz5 ⊢
  have hdz : W.drew.heap.size = w.heap.size + 2 := hsz
  have hfin : IsTys W5 (Own w W5) (.slice ao' l.length cap') l := (hv'.stay (fun b hb _ => ho5 b (by have := hb.1; omega))).mono (fun b hb => ⟨by have := hb.1; omega, by have := hb.2; omega⟩)
  have HFin := Lib.hid hfin
  have r0 : W5.cell? ⟨w.heap.size + 1, 0, none⟩ = some (.int .i64 k) := by rw [Lib.cell_of_heap hs5]; rfl
  have r1 : W5.cell? ⟨w.heap.size + 1, 1, none⟩ = some (.int .i64 p) := by rw [Lib.cell_of_heap hs5]; rfl
  have r2 : W5.cell? ⟨w.heap.size + 1, 2, none⟩ = some (.string n) := by rw [Lib.cell_of_heap hs5]; rfl
  have r3 : W5.cell? ⟨w.heap.size + 1, 3, none⟩ = some (.slice ao' l.length cap') := by rw [Lib.cell_of_heap hs5]; rfl
  clear fr2 f0 f1 f2 f3 c0 c1 c2 c3 hv' hfin hs5 ho5
  go_wp2
  exact bodyPost_ret (v := .agg #[.int .i64 k, .int .i64 p, .string n, .slice ao' l.length cap']) (by simp [results, Tryz.results10, go_sem, *]) rfl ⟨_, rfl, HFin.out, hb5⟩
end Go.Proofs.YtkdhoelabomgkaaGreatDoor
