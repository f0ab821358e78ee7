/- Texts of this proof, joined: PHead, RRt0, RSameC. No condition. -/
import Derived.Test.YtdiffpiapdghoaaGreatDoorRa25
import Derived.Test.YtdiffpiapdghoaaGreatDoorRa24
/-
  Layer 3, the program's side: the heads of types and patterns.
-/
namespace Go.Proofs.YtdiffpiapdghoaaGreatDoor
set_option linter.unusedVariables false
open Go.ChangeShapes Go.WideShapes Go.ChangeAt Go.RowKit

set_option maxHeartbeats 2000000 in
set_option maxRecDepth 100000 in
theorem tyhd_any (k p : Int) (n : ByteArray) (l : List Ty) (P : Nat → Prop) (E : Addr) (w : World) (hw : RangeOk w) (h : IsTy w P E (.mk k p n l)) :
    Calls Tryz.prog 55 #[.pointer (some E)] w fun e w' => e = .returned (.bool (tyHd k n l.length)) ∧ Below w.heap.size w w' := by
  obtain ⟨c0, _, c2, hn, ao, cap, c3, hm, hM, hl⟩ := h.cells
  clear h hl
  go_enter Tryz.func55, Tryz.ntmps55
  go_wp2_with (first
    | (go_at_call 94; refine (pisname_any n hn _).mono ?_; rintro e w' ⟨rfl, rfl⟩)
    | (go_at_call 95; refine (iscon_any n hn _ hw).mono ?_; rintro e w' ⟨rfl, hb⟩; have c3 := bel_cell hb c3))
  all_goals (go_ret; refine ⟨ret_bool ?_, ?_⟩)
  all_goals (first | exact Below.refl _ _ | assumption | skip)
  all_goals (unfold tyHd; first | (simp [*]; done) | (simp_all; done) | (simp [*]; omega) | (simp_all; omega))
theorem RangeOk.on {w w' : World} (h : RangeOk w) (hb : Below w.heap.size w w') : RangeOk w' := h.below hb (Nat.le_refl _)
set_option maxHeartbeats 4000000 in
set_option maxRecDepth 100000 in
theorem pahd_any (k p m : Int) (n : ByteArray) (l : List Pa) (P : Nat → Prop) (E : Addr) (w : World) (hw : RangeOk w) (h : IsPa w P E (.mk k p n m l)) :
    Calls Tryz.prog 60 #[.pointer (some E)] w fun e w' => e = .returned (.bool (paHd k n m l.length)) ∧ Below w.heap.size w w' := by
  obtain ⟨c0, _, c2, hn, c3, ao, cap, c4, hm, hM, hl⟩ := h.cells
  clear h hl
  by_cases h6 : k = 6
  · subst h6
    go_enter Tryz.func60, Tryz.ntmps60
    go_wp2
    go_quiet (fail)
    generalize hW1 : World.drewN w _ = W1
    have hd1 : Below w.heap.size w W1 := by rw [← hW1]; exact drew_below w _
    have c0' := bel_cell hd1 c0
    clear hW1
    go_wp2
    have hw0 : Below w.heap.size w W1.drew := hd1.drew
    refine wp_region_gate (fun V => Below w.heap.size w V) 100 (by kernel_rfl) hw0 ?_
    change AtG _ _ _ _ _ _ _ _ _ W1.drew
    clear c0' hd1
    generalize W1.drew = W0 at hw0 ⊢
    refine G_hold (i := 0) (v := ?_) rfl (by kernel_rfl) (fun _ _ _ h => h) (Or.inl ⟨by rfl, fun V hV => ?_⟩) ?_
    rotate_left
    · go_simp; with_reducible rfl
    simp only [Act.put, List.setIfInBounds_toArray, List.set_cons_zero, List.set_cons_succ]
    refine G_hold (i := 1) (v := ?_) rfl (by kernel_rfl) (fun _ _ _ h => h) (Or.inl ⟨by rfl, fun V hV => ?_⟩) ?_
    rotate_left
    · go_simp; with_reducible rfl
    simp only [Act.put, List.setIfInBounds_toArray, List.set_cons_zero, List.set_cons_succ]
    refine G_hold (i := 2) (v := ?_) rfl (by kernel_rfl) (fun _ _ _ h => h) (Or.inl ⟨by rfl, fun V hV => ?_⟩) ?_
    rotate_left
    · go_simp; with_reducible rfl
    simp only [Act.put, List.setIfInBounds_toArray, List.set_cons_zero, List.set_cons_succ]
    refine G_hold (i := 3) (v := ?_) rfl (by kernel_rfl) (fun _ _ _ h => h) (Or.inl ⟨by rfl, fun V hV => ?_⟩) ?_
    rotate_left
    · have c2 := bel_cell hV c2; go_simp; with_reducible rfl
    simp only [Act.put, List.setIfInBounds_toArray, List.set_cons_zero, List.set_cons_succ]
    refine G_hold (i := 5) (v := ?_) rfl (by kernel_rfl) (fun _ _ _ h => h) (Or.inl ⟨by rfl, fun V hV => ?_⟩) ?_
    rotate_left
    · go_simp; with_reducible rfl
    simp only [Act.put, List.setIfInBounds_toArray, List.set_cons_zero, List.set_cons_succ]
    refine G_hold (i := 6) (v := ?_) rfl (by kernel_rfl) (fun _ _ _ h => h) (Or.inl ⟨by rfl, fun V hV => ?_⟩) ?_
    rotate_left
    · go_simp; with_reducible rfl
    simp only [Act.put, List.setIfInBounds_toArray, List.set_cons_zero, List.set_cons_succ]
    refine G_hold (i := 7) (v := ?_) rfl (by kernel_rfl) (fun _ _ _ h => h) (Or.inl ⟨by rfl, fun V hV => ?_⟩) ?_
    rotate_left
    · go_simp; with_reducible rfl
    simp only [Act.put, List.setIfInBounds_toArray, List.set_cons_zero, List.set_cons_succ]
    refine G_hold (i := 8) (v := ?_) rfl (by kernel_rfl) (fun _ _ _ h => h) (Or.inl ⟨by rfl, fun V hV => ?_⟩) ?_
    rotate_left
    · have c2 := bel_cell hV c2; go_simp; with_reducible rfl
    simp only [Act.put, List.setIfInBounds_toArray, List.set_cons_zero, List.set_cons_succ]
    refine G_hold (i := 9) (v := ?_) rfl (by kernel_rfl) (fun _ _ _ h => h) (Or.inl ⟨by rfl, fun V hV => ?_⟩) ?_
    rotate_left
    · go_simp; with_reducible rfl
    simp only [Act.put, List.setIfInBounds_toArray, List.set_cons_zero, List.set_cons_succ]
    refine G_hold (i := 10) (v := ?_) rfl (by kernel_rfl) (fun _ _ _ h => h) (Or.inl ⟨by rfl, fun V hV => ?_⟩) ?_
    rotate_left
    · go_simp; with_reducible rfl
    simp only [Act.put, List.setIfInBounds_toArray, List.set_cons_zero, List.set_cons_succ]
    refine G_hold (i := 11) (v := ?_) rfl (by kernel_rfl) (fun _ _ _ h => h) (Or.inl ⟨by rfl, fun V hV => ?_⟩) ?_
    rotate_left
    · go_simp; with_reducible rfl
    simp only [Act.put, List.setIfInBounds_toArray, List.set_cons_zero, List.set_cons_succ]
    refine G_hold (i := 12) (v := ?_) rfl (by kernel_rfl) (fun _ _ _ h => h) (Or.inl ⟨by rfl, fun V hV => ?_⟩) ?_
    rotate_left
    · have c4 := bel_cell hV c4; go_simp; with_reducible rfl
    simp only [Act.put, List.setIfInBounds_toArray, List.set_cons_zero, List.set_cons_succ]
    refine G_hold (i := 13) (v := ?_) rfl (by kernel_rfl) (fun _ _ _ h => h) (Or.inl ⟨by rfl, fun V hV => ?_⟩) ?_
    rotate_left
    · go_simp; with_reducible rfl
    simp only [Act.put, List.setIfInBounds_toArray, List.set_cons_zero, List.set_cons_succ]
    refine G_one (k := 4) rfl (by kernel_rfl) (fun K hK => ?_)
    have HK := Lib.hid hK
    clear hK
    go_wp2_with fail
    refine (anycon_any n hn _ (hw.on hw0)).mono ?_
    rintro e W2 ⟨rfl, hb1⟩
    have hw1 := hw0.trans (hb1.mono hw0.size)
    go_wp2
    refine HK.out _ _ (fun _ => hw1) ?_
    clear HK K
    refine G_one (k := 14) rfl (by kernel_rfl) (fun K hK => ?_)
    have HK := Lib.hid hK
    clear hK
    go_wp2_with fail
    refine (parts_any n _ _).mono ?_
    rintro e W3 ⟨rfl, rfl⟩
    go_wp2
    refine HK.out _ _ (fun _ => hw1) ?_
    clear HK K
    refine G_hold (i := 15) (v := ?_) rfl (by kernel_rfl) (fun _ _ _ h => h) (Or.inl ⟨by rfl, fun V hV => ?_⟩) ?_
    rotate_left
    · go_simp; with_reducible rfl
    simp only [Act.put, List.setIfInBounds_toArray, List.set_cons_zero, List.set_cons_succ]
    refine G_hold (i := 16) (v := ?_) rfl (by kernel_rfl) (fun _ _ _ h => h) (Or.inl ⟨by rfl, fun V hV => ?_⟩) ?_
    rotate_left
    · go_simp; with_reducible rfl
    simp only [Act.put, List.setIfInBounds_toArray, List.set_cons_zero, List.set_cons_succ]
    refine G_done (by kernel_rfl) ?_
    go_wp2
    all_goals (go_ret; refine ⟨ret_bool ?_, hw1⟩)
    all_goals (unfold paHd; first | (simp [*]; done) | (simp_all; done) | (simp [*]; omega) | (simp_all; omega))
  · have q6 : (k == 6) = false := by simpa using h6
    go_enter Tryz.func60, Tryz.ntmps60
    go_wp2
    go_quiet (fail)
    go_wp2_with (first
      | (go_at_call 94; refine (pisname_any n hn _).mono ?_; rintro e w' ⟨rfl, rfl⟩)
      | (go_at_call 98; refine (isbyte_any _ _).mono ?_; rintro e w' ⟨rfl, rfl⟩))
    all_goals (go_ret; refine ⟨ret_bool ?_, drew_below w _⟩)
    all_goals (unfold paHd; first | (simp [*]; done) | (simp_all; done) | (simp [*]; omega) | (simp_all; omega))
set_option maxHeartbeats 8000000 in
set_option maxRecDepth 100000 in
theorem exhd_any (k p m : Int) (n : ByteArray) (l : List Ex) (ps : List Pa) (al : List Al) (ds : List De) (P : Nat → Prop) (E : Addr) (w : World) (hw : RangeOk w) (h : IsEx w P E (.mk k p n m l ps al ds)) :
    Calls Tryz.prog 64 #[.pointer (some E)] w fun e w' => e = .returned (.bool (exHd k n m l.length ps.length al.length ds.length)) ∧ Below w.heap.size w w' := by
  obtain ⟨c0, _, c2, hn, c3, ⟨a4, b4, c4, _, m4, x4⟩, ⟨a5, b5, c5, _, m5, x5⟩, ⟨a6, b6, c6, _, m6, x6⟩, ⟨a7, b7, c7, _, m7, x7⟩⟩ := h.cells
  clear h x4 x5 x6 x7
  go_enter Tryz.func64, Tryz.ntmps64
  go_wp2
  go_quiet (fail)
  generalize hW1 : World.drewN w _ = W1
  have hd1 : Below w.heap.size w W1 := by rw [← hW1]; exact drew_below w _
  replace c0 := bel_cell hd1 c0
  replace c2 := bel_cell hd1 c2
  replace c3 := bel_cell hd1 c3
  replace c4 := bel_cell hd1 c4
  replace c5 := bel_cell hd1 c5
  replace c6 := bel_cell hd1 c6
  replace c7 := bel_cell hd1 c7
  replace hw := hw.on hd1
  clear hW1
  go_wp2
  go_quiet (fail)
  generalize hW2 : World.drewN W1 _ = W2
  have hd2 : Below W1.heap.size W1 W2 := by rw [← hW2]; exact drew_below W1 _
  replace c0 := bel_cell hd2 c0
  replace c2 := bel_cell hd2 c2
  replace c3 := bel_cell hd2 c3
  replace c4 := bel_cell hd2 c4
  replace c5 := bel_cell hd2 c5
  replace c6 := bel_cell hd2 c6
  replace c7 := bel_cell hd2 c7
  replace hw := hw.on hd2
  have hd := hd1.trans (hd2.mono hd1.size)
  clear hW2 hd1 hd2
  go_wp2_with (first
    | (go_at_call 94; refine (pisname_any n hn _).mono ?_; rintro e w' ⟨rfl, rfl⟩)
    | (go_at_call 98; refine (isbyte_any _ _).mono ?_; rintro e w' ⟨rfl, rfl⟩)
    | (go_at_call 101; refine (isop_any _ _).mono ?_; rintro e w' ⟨rfl, rfl⟩)
    | (go_at_call 102; refine (someof_any _ _ _).mono ?_; rintro e w' ⟨rfl, rfl⟩)
    | (go_at_call 99; refine (anycon_any n hn _ hw).mono ?_; rintro e w' ⟨rfl, hb⟩; have c4 := bel_cell hb c4))
  all_goals (go_ret; refine ⟨ret_bool ?_, ?_⟩)
  all_goals (first | exact hd | (exact hd.trans (hb.mono hd.size)) | skip)
  all_goals (unfold exHd; first | (simp [*]; done) | (simp_all; done) | (simp [*]; omega) | (simp_all; omega))
end Go.Proofs.YtdiffpiapdghoaaGreatDoor
/-
  Layer 3, the document's side: names, ops, cons, literals that may be.
-/
namespace Go.Proofs.YtdiffpiapdghoaaGreatDoor
set_option linter.unusedVariables false
open Go.ChangeShapes Go.WideShapes Go.ChangeAt Go.RowKit

theorem run_alike {s u : ByteArray} (hz : u.size = s.size) (h : ∀ i, i < s.size → letB (atB u i) = letB (atB s i)) {m : Nat} (hr : RunTo s 0 m) : RunTo u 0 m := by
  obtain ⟨a, b, c, d⟩ := hr
  refine ⟨a, by omega, fun i h1 h2 => by rw [h i (by omega)]; exact c i h1 h2, ?_⟩
  rcases d with d | d
  · exact .inl (by omega)
  · by_cases hm : m < s.size
    · exact .inr (by rw [h m hm]; exact d)
    · exact .inl (by omega)
/-- a con's text, asked as the document asks it -/
theorem high_word {s : ByteArray} (h0 : 0 < s.size) (h1 : s.size ≤ 32) (hc : cls (atB s 0) = 4) : wordB (⟨#[97]⟩ ++ s.extract 1 s.size) = conB s := by
  obtain ⟨u, hu⟩ : ∃ u, u = (⟨#[97]⟩ : ByteArray) ++ s.extract 1 s.size := ⟨_, rfl⟩
  rw [← hu]
  have hd : u.data.toList = 97 :: s.data.toList.drop 1 := by
    rw [hu, ByteArray.data_append, Array.toList_append, ByteArray.data_extract, Array.toList_extract]
    have e : s.data.toList.length = s.size := Array.length_toList
    rw [List.extract_eq_take_drop, List.take_of_length_le (by rw [List.length_drop]; omega)]
    rfl
  have hl : s.data.toList.length = s.size := Array.length_toList
  have hz : u.size = s.size := by
    have e : u.data.toList.length = u.size := Array.length_toList
    rw [hd] at e
    simp only [List.length_cons, List.length_drop] at e
    omega
  have h97 : atB u 0 = 97 := by unfold atB; rw [hd]; rfl
  have hi : ∀ i, 0 < i → atB u i = atB s i := by
    intro i hi
    unfold atB
    rw [hd]
    obtain ⟨j, rfl⟩ : ∃ j, i = j + 1 := ⟨i - 1, by omega⟩
    simp only [List.getD_eq_getElem?_getD, List.getElem?_cons_succ, List.getElem?_drop]
    rw [Nat.add_comm 1 j]
  have hlet : ∀ i, i < s.size → letB (atB u i) = letB (atB s i) := by
    intro i hlt
    rcases Nat.eq_zero_or_pos i with rfl | hp
    · rw [h97, cls34 (.inr hc)]; decide
    · rw [hi i hp]
  have hw : wordEnd u 0 = wordEnd s 0 := (wordEnd_ok u 0 (Nat.zero_le _)).unique (run_alike hz hlet (wordEnd_ok s 0 (Nat.zero_le _)))
  have hk : inL keysL u = false := by
    cases hk : inL keysL u with
    | false => rfl
    | true =>
      exfalso
      unfold inL keysL at hk
      simp only [List.any_cons, List.any_nil, Bool.or_false, Bool.or_eq_true, beq_iff_eq] at hk
      have key : ∀ (t : ByteArray), t.toList = u.toList → atB t 0 = 97 := by
        intro t ht
        rw [ByteArray.toList_eq, ByteArray.toList_eq] at ht
        unfold atB at h97 ⊢
        rw [ht]
        exact h97
      rcases hk with hk | hk | hk | hk | hk | hk | hk | hk <;> exact absurd (key _ hk) (by decide +kernel)
  unfold wordB conB
  rw [hk, hw, hz, h97]
  have e1 : (cls 97 = 3) = True := by simp; decide
  simp [e1, hc, h0, h1]

set_option maxHeartbeats 1000000 in
theorem rdword_any (s : ByteArray) (hs : s.size ≤ maxLen) (w : World) :
    Calls Tryz.prog 58 #[.string s] w fun e w' => e = .returned (.bool (nameB s)) ∧ Below w.heap.size w w' := by
  go_enter Tryz.func58, Tryz.ntmps58
  go_wp2_with (go_at_call 96; refine (rword_any s hs _).mono ?_; rintro e w' ⟨rfl, hb⟩)
  all_goals (go_ret; refine ⟨ret_bool ?_, hb⟩)
  all_goals (unfold nameB; first | (simp [*]; done) | (simp_all; done) | (simp [*, bne, Bool.and_comm]; done))
set_option maxHeartbeats 2000000 in
set_option maxRecDepth 100000 in
theorem high_any (s : ByteArray) (hs : s.size ≤ maxLen) (w : World) :
    Calls Tryz.prog 59 #[.string s] w fun e w' => e = .returned (.bool (conB s)) ∧ Below w.heap.size w w' := by
  by_cases h0 : (1 : Int) ≤ s.size
  · by_cases h32 : (s.size : Int) ≤ 32
    · have ea := atB_eq s 0 (by omega)
      have hb := s[0].toNat_lt
      by_cases hc : cls (atB s 0) = 4
      · have HW := Lib.hid (high_word (by omega) (by omega) hc)
        have HZ : (⟨#[97]⟩ ++ s.extract 1 s.size : ByteArray).size ≤ maxLen := by
          simp only [ByteArray.size_append, ByteArray.size_extract]
          have : (⟨#[97]⟩ : ByteArray).size = 1 := rfl
          unfold maxLen
          omega
        have HZ := Lib.hid HZ
        rw [ea] at hc
        have q : (cls s[0].toNat == 4) = true := by simp [hc]
        clear ea hc
        go_enter Tryz.func59, Tryz.ntmps59
        go_wp2_with fail
        refine (rclass_any (s[0].toNat : Int) (by omega) (by omega) _).mono ?_
        rintro e w' ⟨rfl, rfl⟩
        go_wp2_with fail
        refine (rword_any _ HZ.out _).mono ?_
        rw [HW.out]
        rintro e w' ⟨rfl, hb⟩
        go_wp2
        go_ret
        exact ⟨rfl, hb⟩
      · have hcb : conB s = false := decide_eq_false (fun h => hc h.2.2.1)
        rw [hcb]
        rw [ea] at hc
        have q : (cls s[0].toNat == 4) = false := by simpa using hc
        clear ea hc hcb
        go_enter Tryz.func59, Tryz.ntmps59
        go_wp2_with fail
        refine (rclass_any (s[0].toNat : Int) (by omega) (by omega) _).mono ?_
        rintro e w' ⟨rfl, rfl⟩
        go_wp2
        go_ret
        exact ⟨rfl, Below.refl _ _⟩
    · have hcb : conB s = false := decide_eq_false (by omega)
      rw [hcb]
      go_enter Tryz.func59, Tryz.ntmps59
      go_wp2
      go_ret
      exact ⟨rfl, Below.refl _ _⟩
  · have hcb : conB s = false := decide_eq_false (by omega)
    rw [hcb]
    go_enter Tryz.func59, Tryz.ntmps59
    go_wp2
    go_ret
    exact ⟨rfl, Below.refl _ _⟩
set_option maxHeartbeats 1000000 in
theorem con_any (s : ByteArray) (hs : s.size ≤ maxLen) (w : World) :
    Calls Tryz.prog 72 #[.string s] w fun e w' => e = .returned (.bool (anyConB s)) ∧ Below w.heap.size w w' := by
  have hacc := Below.refl w.heap.size w
  go_enter Tryz.func72, Tryz.ntmps72
  go_wp2_with (go_at_call 59; refine (high_any s hs _).mono ?_; rintro e w' ⟨rfl, hb⟩; replace hacc := hb)
  all_goals (go_ret; refine ⟨ret_bool ?_, hacc⟩)
  all_goals (unfold anyConB; first | (simp [*]; done) | (simp_all; done) | (simp [*, Bool.or_assoc]; done))
set_option maxHeartbeats 2000000 in
theorem op_any (s : ByteArray) (w : World) :
    Calls Tryz.prog 71 #[.string s] w fun e w' => e = .returned (.bool (opNameB s)) ∧ Below w.heap.size w w' := by
  go_enter Tryz.func71, Tryz.ntmps71
  go_wp2_with (go_at_call 104; refine (sign_any s _).mono ?_; rintro e w' ⟨rfl, hb⟩)
  all_goals (go_ret; refine ⟨ret_bool ?_, hb⟩)
  all_goals (unfold opNameB opsNo; simp only [inL_cons, inL_nil, Bool.or_false])
  all_goals (first | (simp [*]; done) | (simp_all; done) | (simp [*, Bool.and_assoc]; done))
/-- a literal -/
def litB (k : Int) (n : ByteArray) (m : Int) : Bool := cond (k == 3) (n.toList == [] && decide (0 ≤ m)) (cond (k == 4) (n.toList == [] && byteB m) (decide ((n.size : Int) ≤ 256) && m == 0))
set_option maxHeartbeats 2000000 in
theorem lit_any (k m : Int) (n : ByteArray) (hn : n.size ≤ maxLen) (w : World) :
    Calls Tryz.prog 63 #[.int .i64 k, .string n, .int .i64 m] w fun e w' => e = .returned (.bool (litB k n m)) ∧ w = w' := by
  go_enter Tryz.func63, Tryz.ntmps63
  go_wp2
  all_goals (go_ret; refine ⟨ret_bool ?_, rfl⟩)
  all_goals (unfold litB byteB; first | (simp [*]; done) | (simp_all; done) | (simp [*]; omega) | (simp_all; omega))
end Go.Proofs.YtdiffpiapdghoaaGreatDoor
/-
  Layer 3, the document's side: sameCons.
-/
namespace Go.Proofs.YtdiffpiapdghoaaGreatDoor
set_option linter.unusedVariables false
open Go.ChangeShapes Go.WideShapes Go.ChangeAt Go.RowKit

/-- types held against each other, as values -/
theorem rsameT_vs (t u : Ty) (P Q : Nat → Prop) (vs us : List Value) (w : World) (hv : IsVs w P t.row vs) (hu : IsVs w Q u.row us) :
    Calls Tryz.prog 24 #[.agg vs.toArray, .agg us.toArray] w fun e w' => e = .returned (.bool (t.same u)) ∧ Below w.heap.size w w' := by
  obtain ⟨tk, tp, tn, tl⟩ := t
  obtain ⟨uk, up, un, ul⟩ := u
  obtain ⟨a, b, rfl, h1, h2⟩ := ty_vs hv
  obtain ⟨a', b', rfl, h3, h4⟩ := ty_vs hu
  exact rsameT_all _ (.mk tk tp tn tl) (.mk uk up un ul) (Nat.le_refl _) P Q _ _ w ⟨h1, h2⟩ ⟨h3, h4⟩
set_option maxHeartbeats 8000000 in
set_option maxRecDepth 100000 in
theorem rsameCs_any (sl tl : List Co) (P Q : Nat → Prop) (v v' : Value) (w : World) (hs : IsCos w P v sl) (ht : IsCos w Q v' tl) :
    Calls Tryz.prog 92 #[v, v'] w fun e w' => e = .returned (.bool (Co.sames sl tl)) ∧ Below w.heap.size w w' := by
  obtain ⟨ao, cap, rfl, v1, v2⟩ := hs.form
  obtain ⟨bo, cap2, rfl, u1, u2⟩ := ht.form
  have HS1 := Lib.hid hs
  have HT1 := Lib.hid ht
  have hlm : (sl.length : Int) ≤ 9223372036854775807 := by unfold maxLen at v2; omega
  clear hs ht
  by_cases hl : sl.length = tl.length
  · have q3 : ((sl.length : Int) != tl.length) = false := by rw [bne_eq_false_iff_eq]; omega
    have HLn := Lib.hid hl
    clear hl
    go_enter Tryz.func92, Tryz.ntmps92
    go_wp2
    go_loopw [5] (fun iv wr => ∃ k : Nat, k ≤ sl.length ∧ iv = .int .i64 k ∧ Hid (∀ (j : Nat) (s t : Co), j < k → sl[j]? = some s → tl[j]? = some t → s.same t = true) ∧ Below w.heap.size w wr) (fun iv _ => sl.length - (intOf iv).toNat)
    case atStart => exact ⟨0, Nat.zero_le _, rfl, Lib.hid (fun j s t hj => by omega), Below.refl _ _⟩
    case round =>
      obtain ⟨i, hi, rfl, H, hbw⟩ := hrel
      obtain ⟨w0, e0⟩ : ∃ w0, w0 = wr := ⟨_, rfl⟩
      subst e0
      by_cases hlt : i < sl.length
      · have i1 : (i : Int) < sl.length := by omega
        have i2 : (i : Int) < tl.length := by have := HLn.out; omega
        obtain ⟨x, hx⟩ : ∃ x, sl[i]? = some x := ⟨sl[i], List.getElem?_eq_getElem hlt⟩
        obtain ⟨y, hy⟩ : ∃ y, tl[i]? = some y := ⟨tl[i]'(by have := HLn.out; omega), List.getElem?_eq_getElem (by have := HLn.out; omega)⟩
        obtain ⟨a, rfl, _, hrow⟩ := HS1.out.at hx
        obtain ⟨b, rfl, _, hrow'⟩ := HT1.out.at hy
        have hrow := hrow.on hbw
        have hrow' := hrow'.on hbw
        have HX := Lib.hid hx
        have HY := Lib.hid hy
        obtain ⟨xp, xn, xl⟩ := x
        obtain ⟨yp, yn, yl⟩ := y
        obtain ⟨_, c1, c1', ca, cb, c2, hc1, hc2, hxa⟩ := hrow.cells
        obtain ⟨_, d1, d1', da, db, d2, hd1, hd2, hya⟩ := hrow'.cells
        simp only at c1 c2 d1 d2 c1' d1' hc1 hc2 hd1 hd2
        have hxlm : (xl.length : Int) ≤ 9223372036854775807 := by unfold maxLen at hc2; omega
        have HXA := Lib.hid hxa
        have HYA := Lib.hid hya
        have hsame : Co.same ⟨xp, xn, xl⟩ ⟨yp, yn, yl⟩ = (xn.data.toList == yn.data.toList && Ty.sames xl yl) := rfl
        have HSM := Lib.hid hsame
        clear hrow hrow' hxa hya hx hy hsame
        by_cases hn : xn = yn
        · subst hn
          have n1 : (xn.toList != xn.toList) = false := by simp
          by_cases hxy : xl.length = yl.length
          · have q4 : ((xl.length : Int) != yl.length) = false := by rw [bne_eq_false_iff_eq]; omega
            have HXY := Lib.hid hxy
            clear hxy
            go_wp2
            go_quiet (fail)
            go_wp2
            go_loopw [6] (fun iv wr => ∃ k : Nat, k ≤ xl.length ∧ iv = .int .i64 k ∧ Hid (∀ (j : Nat) (s t : Ty), j < k → xl[j]? = some s → yl[j]? = some t → s.same t = true) ∧ Below w0.heap.size w0 wr) (fun iv _ => xl.length - (intOf iv).toNat)
            case atStart => exact ⟨0, Nat.zero_le _, rfl, Lib.hid (fun j s t hj => by omega), drew_below w0 _⟩
            case round =>
              obtain ⟨k, hk, rfl, HK2, hb2⟩ := hrel
              have e2 : wr.cell? ⟨(a.add (i * 3)).block, (a.add (i * 3)).off + 2, none⟩ = some (.slice ca xl.length cb) := (hb2.cell (Lib.lt_of_cell c2)).trans c2
              have f2 : wr.cell? ⟨(b.add (i * 3)).block, (b.add (i * 3)).off + 2, none⟩ = some (.slice da yl.length db) := (hb2.cell (Lib.lt_of_cell d2)).trans d2
              by_cases hkl : k < xl.length
              · have k1 : (k : Int) < xl.length := by omega
                have k2 : (k : Int) < yl.length := by have := HXY.out; omega
                obtain ⟨s, hs⟩ : ∃ s, xl[k]? = some s := ⟨xl[k], List.getElem?_eq_getElem hkl⟩
                obtain ⟨t, ht⟩ : ∃ t, yl[k]? = some t := ⟨yl[k]'(by have := HXY.out; omega), List.getElem?_eq_getElem (by have := HXY.out; omega)⟩
                obtain ⟨p, rfl, _, hps⟩ := HXA.out.at hs
                obtain ⟨q, rfl, _, hqt⟩ := HYA.out.at ht
                have hps := hps.on hb2
                have hqt := hqt.on hb2
                have HSs := Lib.hid hs
                have HTt := Lib.hid ht
                obtain ⟨sk, sp, sn, ss⟩ := s
                obtain ⟨tk, tp, tn, tt⟩ := t
                obtain ⟨s0, s1, s2, s2', sa, sb, s3, _, _, hsa⟩ := hps.cells
                obtain ⟨t0, t1, t2, t2', ta, tb, t3, _, _, hta⟩ := hqt.cells
                have HV1 : Hid (IsVs wr P (Ty.row (.mk sk sp sn ss)) [.int .i64 sk, .int .i64 sp, .string sn, .slice sa ss.length sb]) := Lib.hid (by
                  unfold Ty.row
                  exact ⟨_, _, rfl, (by unfold IsC; rfl), _, _, rfl, (by unfold IsC; rfl), _, _, rfl, (by unfold IsC; exact ⟨rfl, s2'⟩), _, _, rfl, hsa.out, rfl⟩)
                have HV2 : Hid (IsVs wr Q (Ty.row (.mk tk tp tn tt)) [.int .i64 tk, .int .i64 tp, .string tn, .slice ta tt.length tb]) := Lib.hid (by
                  unfold Ty.row
                  exact ⟨_, _, rfl, (by unfold IsC; rfl), _, _, rfl, (by unfold IsC; rfl), _, _, rfl, (by unfold IsC; exact ⟨rfl, t2'⟩), _, _, rfl, hta.out, rfl⟩)
                clear hps hqt hsa hta hs ht
                go_wp2
                go_still_tail 16, (by kernel_rfl)
                change wpList _ _ _ _ _ wr.drew
                have hbd : Below wr.heap.size wr wr.drew := (Below.refl _ _).drew
                have HV1' := Lib.hid (IsVs.on hbd _ _ HV1.out)
                have HV2' := Lib.hid (IsVs.on hbd _ _ HV2.out)
                have hb3 := hb2.trans (hbd.mono hb2.size)
                generalize wr.drew = w2 at HV1' HV2' hb3 ⊢
                go_wp2_with fail
                refine (rsameT_vs _ _ P Q _ _ w2 HV1'.out HV2'.out).mono ?_
                rintro e w3 ⟨rfl, hb4⟩
                have hb5 := hb3.trans (hb4.mono hb3.size)
                cases hr : Ty.same (.mk sk sp sn ss) (.mk tk tp tn tt)
                · have HF : Hid (Co.sames sl tl = false) := Lib.hid (Co.sames_not sl tl i _ _ HX.out HY.out (by rw [HSM.out, Ty.sames_not xl yl k _ _ HSs.out HTt.out hr]; simp))
                  go_wp2
                  go_ret
                  exact ⟨by rw [HF.out]; rfl, hbw.trans (hb5.mono hbw.size)⟩
                · have HN : Hid (∀ (j : Nat) (s t : Ty), j < k + 1 → xl[j]? = some s → yl[j]? = some t → s.same t = true) := Lib.hid (fun j s t hj h1 h2 => by
                    by_cases hjk : j = k
                    · subst hjk
                      rw [HSs.out] at h1
                      rw [HTt.out] at h2
                      cases h1; cases h2; exact hr
                    · exact HK2.out j s t (by omega) h1 h2)
                  clear hr e2 f2
                  go_wp2
                  go_roundw
                  case rel => exact ⟨k + 1, by omega, by go_num, HN, hb5⟩
                  case measure => simp [intOf]; omega
              · have k1 : ¬ (k : Int) < xl.length := by omega
                have HEq : Hid (Co.same ⟨xp, xn, xl⟩ ⟨yp, xn, yl⟩ = true) := Lib.hid (by
                  rw [HSM.out, Ty.sames_all xl yl HXY.out (fun j s t h1 h2 => HK2.out j s t (by have := (List.getElem?_eq_some_iff.1 h1).1; omega) h1 h2)]
                  simp)
                have HN : Hid (∀ (j : Nat) (s t : Co), j < i + 1 → sl[j]? = some s → tl[j]? = some t → s.same t = true) := Lib.hid (fun j s t hj h1 h2 => by
                  by_cases hji : j = i
                  · subst hji
                    rw [HX.out] at h1
                    rw [HY.out] at h2
                    cases h1; cases h2; exact HEq.out
                  · exact H.out j s t (by omega) h1 h2)
                have hb6 := hbw.trans (hb2.mono hbw.size)
                go_wp2
                go_roundw
                case rel => exact ⟨i + 1, by omega, by go_num, HN, hb6⟩
                case measure => simp [intOf]; omega
          · have q4 : ((xl.length : Int) != yl.length) = true := by rw [bne_iff_ne]; omega
            have HF : Hid (Co.sames sl tl = false) := Lib.hid (Co.sames_not sl tl i _ _ HX.out HY.out (by
              rw [HSM.out]
              have : Ty.sames xl yl = false := by
                cases hq : Ty.sames xl yl with
                | false => rfl
                | true => exact absurd (Ty.sames_len xl yl hq) hxy
              rw [this]; simp))
            clear hxy
            go_wp2
            go_quiet (fail)
            go_wp2
            go_ret
            exact ⟨by rw [HF.out]; rfl, hbw.trans ((drew_below w0 _).mono hbw.size)⟩
        · have q2 := text_ne hn
          have HF : Hid (Co.sames sl tl = false) := Lib.hid (Co.sames_not sl tl i _ _ HX.out HY.out (by rw [HSM.out, ← text_eq, text_ne hn]; rfl))
          clear hn
          go_wp2
          go_quiet (fail)
          go_wp2
          go_ret
          exact ⟨by rw [HF.out]; rfl, hbw.trans ((drew_below w0 _).mono hbw.size)⟩
      · have i1 : ¬ (i : Int) < sl.length := by omega
        have HF : Hid (Co.sames sl tl = true) := Lib.hid (Co.sames_all sl tl HLn.out (fun j s t h1 h2 => H.out j s t (by have := (List.getElem?_eq_some_iff.1 h1).1; omega) h1 h2))
        go_wp2
        go_ret
        exact ⟨by rw [HF.out]; rfl, hbw⟩
  · have q3 : ((sl.length : Int) != tl.length) = true := by rw [bne_iff_ne]; omega
    have HE : Hid (Co.sames sl tl = false) := Lib.hid (by
      cases hq : Co.sames sl tl with
      | false => rfl
      | true => exact absurd (Co.sames_len sl tl hq) hl)
    clear hl
    go_enter Tryz.func92, Tryz.ntmps92
    go_wp2
    go_ret
    exact ⟨by rw [HE.out]; rfl, Below.refl _ _⟩
end Go.Proofs.YtdiffpiapdghoaaGreatDoor
