/-
  Layer 2, the program's side: the token at a place.
-/
import Derived.Test.YtifmbhcajlnhbaaDoorPQuoted
namespace Go.Proofs.YtifmbhcajlnhbaaDoor
set_option linter.unusedVariables false
open Go.ChangeShapes Go.WideShapes Go.ChangeAt Go.RowKit

theorem qutM_bytes (s : ByteArray) (q : Int) (M : Nat) : ∀ f k l r, qutM s q M f k l = some r → ∃ L : List UInt8, r.1 = numsL L := by
  intro f
  induction f with
  | zero => intro k l r h; cases h
  | succ f ih =>
    intro k l r h
    rw [qutM_succ] at h
    by_cases a : s.size ≤ k
    · rw [if_pos a] at h; cases h
    rw [if_neg a] at h
    by_cases b : atB s k = q
    · rw [if_pos b] at h; have := Option.some.inj h; subst this; exact ⟨[], rfl⟩
    rw [if_neg b] at h
    cases hu : un s k with
    | none => rw [hu] at h; cases h
    | some p =>
      obtain ⟨c, n⟩ := p
      obtain ⟨m, rfl, hm, _, h0, h1⟩ := un_next2 hu (by omega)
      rw [hu] at h
      simp only [Option.bind_some, Int.toNat_natCast] at h
      by_cases d : M ≤ l
      · rw [if_pos d] at h; cases h
      rw [if_neg d] at h
      obtain ⟨r', hr', rfl⟩ := Option.map_eq_some_iff.1 h
      obtain ⟨L, hL⟩ := ih _ _ _ hr'
      obtain ⟨x, rfl⟩ := byte_cell h0 h1
      exact ⟨x :: L, by simp [hL]⟩
theorem qtM_bytes {s : ByteArray} {q : Int} {M k l : Nat} {r : List Int × Nat} (h : qtM s q M k l = some r) : ∃ L : List UInt8, r.1 = numsL L := qutM_bytes s q M _ _ _ _ h

/-- what a Letter is: nothing, or its byte -/
theorem letter_cases (s : ByteArray) (i : Nat) (h : atB s i = 39) :
    ((qtM s 39 1 (i + 1) 0 = none ∨ ∃ k, qtM s 39 1 (i + 1) 0 = some ([], k)) ∧ textAt s i = .inr (i, 22)) ∨
    ∃ (x : UInt8) (L : List UInt8) (k : Nat), qtM s 39 1 (i + 1) 0 = some (numsL (x :: L), k) ∧ textAt s i = .inl ⟨4, i, k + 1, ⟨(x :: L).toArray⟩, x.toNat⟩ := by
  have h1 := letter_one s i h
  unfold textAt
  rw [h1]
  cases hq : qtM s 39 1 (i + 1) 0 with
  | none => exact .inl ⟨.inl rfl, rfl⟩
  | some r =>
    obtain ⟨xs, k⟩ := r
    obtain ⟨L, hL⟩ := qtM_bytes hq
    simp only at hL
    subst hL
    cases L with
    | nil => exact .inl ⟨.inr ⟨k, rfl⟩, rfl⟩
    | cons x L =>
      refine .inr ⟨x, L, k, rfl, ?_⟩
      simp only [Option.bind_some]
      rw [if_neg (by simp)]
      simp only [Option.elim_some, h, if_true, str_nums]
      simp
theorem text_cases (s : ByteArray) (i : Nat) (h : atB s i ≠ 39) :
    (qtM s (atB s i) 256 (i + 1) 0 = none ∧ textAt s i = .inr (i, 22)) ∨
    ∃ (L : List UInt8) (k : Nat), qtM s (atB s i) 256 (i + 1) 0 = some (numsL L, k) ∧ textAt s i = .inl ⟨5, i, k + 1, ⟨L.toArray⟩, 0⟩ := by
  have h1 := text_any s i h
  unfold textAt
  rw [h1]
  cases hq : qtM s (atB s i) 256 (i + 1) 0 with
  | none => exact .inl ⟨rfl, rfl⟩
  | some r =>
    obtain ⟨xs, k⟩ := r
    obtain ⟨L, hL⟩ := qtM_bytes hq
    simp only at hL
    subst hL
    refine .inr ⟨L, k, rfl, ?_⟩
    simp only [Option.map_some, Option.elim_some, if_neg h, str_nums]

theorem wrap64_small (x : Int) (h0 : 0 ≤ x) (h1 : x ≤ 255) : wrap64 x = x := by unfold wrap64; omega
set_option maxHeartbeats 4000000 in
set_option maxRecDepth 100000 in
theorem pquoted_letter (s : ByteArray) (hs : s.size ≤ 1000000) (i : Nat) (hi : i < s.size) (hq : atB s i = 39) (w : World) :
    Calls Tryd.prog 54 #[.string s, .int .i64 i] w fun e w' => e = .returned (rdV (textAt s i)) ∧ Below w.heap.size w w' := by
  have ei := atB_eq s i hi
  have q : ((s[i].toNat : Int) == 39) = true := by rw [beq_iff_eq, ← ei]; exact hq
  have hu := fun w => punq_any s hs i hi 1 (by omega) w
  rw [hq] at hu
  have HU := Lib.hid hu
  clear hu ei
  rcases letter_cases s i hq with ⟨hn | ⟨k, hn⟩, ht⟩ | ⟨x, L, k, hn, ht⟩
  · have HT := Lib.hid ht
    clear ht
    go_enter Tryd.func54, Tryd.ntmps54
    go_wp2_with fail
    refine (HU.out _).mono ?_
    rw [hn]
    rintro e w1 ⟨rfl, hb1⟩
    unfold uqM
    obtain ⟨h0, hb⟩ := first_row hb1
    go_wp2_with fail
    refine (fault_any _ _ _).mono ?_
    rintro e w2 ⟨rfl, hb2⟩
    obtain ⟨h1, hb3⟩ := next_row h0 hb (Nat.le_refl _) hb2
    go_wp2_with (refine store_tk 0 i 0 ⟨#[]⟩ 0 w.heap.size w.heap.size _ h1 hb3 (Nat.le_refl _) rfl rfl _ _ rfl rfl rfl ?_; intro W2 k0 hb2)
    obtain ⟨a0, a1, a2, a3, a4⟩ := cells5 k0
    refine bodyPost_ret (v := .tuple #[.agg #[.int .i64 0, .int .i64 i, .int .i64 0, .string ⟨#[]⟩, .int .i64 0], .int .i64 22]) (by simp [results, Tryd.results54, go_sem, a0, a1, a2, a3, a4]) rfl ⟨?_, hb2⟩
    rw [HT.out]; rfl
  · have HT := Lib.hid ht
    clear ht
    go_enter Tryd.func54, Tryd.ntmps54
    go_wp2_with fail
    refine (HU.out _).mono ?_
    rw [hn]
    rintro e w1 ⟨rfl, hb1⟩
    unfold uqM
    simp only [show strOfNums [] = ⟨#[]⟩ from rfl]
    obtain ⟨h0, hb⟩ := first_row hb1
    go_wp2_with fail
    refine (fault_any _ _ _).mono ?_
    rintro e w2 ⟨rfl, hb2⟩
    obtain ⟨h1, hb3⟩ := next_row h0 hb (Nat.le_refl _) hb2
    go_wp2_with (refine store_tk 0 i 0 ⟨#[]⟩ 0 w.heap.size w.heap.size _ h1 hb3 (Nat.le_refl _) rfl rfl _ _ rfl rfl rfl ?_; intro W2 k0 hb2)
    obtain ⟨a0, a1, a2, a3, a4⟩ := cells5 k0
    refine bodyPost_ret (v := .tuple #[.agg #[.int .i64 0, .int .i64 i, .int .i64 0, .string ⟨#[]⟩, .int .i64 0], .int .i64 22]) (by simp [results, Tryd.results54, go_sem, a0, a1, a2, a3, a4]) rfl ⟨?_, hb2⟩
    rw [HT.out]; rfl
  · obtain ⟨T, hT⟩ : ∃ T : ByteArray, T = ⟨(x :: L).toArray⟩ := ⟨_, rfl⟩
    have hsz : 0 < T.size := by rw [hT]; show 0 < (x :: L).toArray.size; simp
    have hne : (T.toList == []) = false := by rw [hT, beq_eq_false_iff_ne, ByteArray.toList_eq]; simp
    have hx : (T[0].toNat : Int) = x.toNat := by subst hT; rfl
    rw [← hT, ← hx] at ht
    have HT := Lib.hid ht
    have hn2 : uqM (qtM s 39 1 (i + 1) 0) = .tuple #[.string T, .int .i64 (k + 1 : Nat), .bool true] := by rw [hn]; unfold uqM; simp only [str_nums, hT]
    clear ht hT hx hn
    go_enter Tryd.func54, Tryd.ntmps54
    go_wp2_with fail
    refine (HU.out _).mono ?_
    rw [hn2]
    rintro e w1 ⟨rfl, hb1⟩
    obtain ⟨h0, hb⟩ := first_row hb1
    have H1 := fun o => (alloc_row h0 hb (Nat.le_refl _) o).1
    have H2 := fun o => (alloc_row h0 hb (Nat.le_refl _) o).2
    go_wp2_with (refine store_tk 4 i (k + 1 : Nat) T (wrap64 (T[0].toNat : Int)) w.heap.size w.heap.size _ (H1 _) (H2 _) (Nat.le_refl _) rfl rfl _ _ rfl rfl rfl ?_; intro W2 k0 hb2)
    obtain ⟨a0, a1, a2, a3, a4⟩ := cells5 k0
    refine bodyPost_ret (v := .tuple #[.agg #[.int .i64 4, .int .i64 i, .int .i64 (k + 1 : Nat), .string T, .int .i64 (wrap64 (T[0].toNat : Int))], .int .i64 0]) (by simp [results, Tryd.results54, go_sem, a0, a1, a2, a3, a4]) rfl ⟨?_, hb2⟩
    rw [HT.out, wrap64_small _ (by omega) (by have := T[0].toNat_lt; omega)]; rfl

set_option maxHeartbeats 4000000 in
set_option maxRecDepth 100000 in
theorem pquoted_text (s : ByteArray) (hs : s.size ≤ 1000000) (i : Nat) (hi : i < s.size) (hq : atB s i ≠ 39) (w : World) :
    Calls Tryd.prog 54 #[.string s, .int .i64 i] w fun e w' => e = .returned (rdV (textAt s i)) ∧ Below w.heap.size w w' := by
  have ei := atB_eq s i hi
  have q : ((s[i].toNat : Int) == 39) = false := by rw [beq_eq_false_iff_ne, ← ei]; exact hq
  have HU := Lib.hid fun w => punq_any s hs i hi 256 (by omega) w
  clear ei
  rcases text_cases s i hq with ⟨hn, ht⟩ | ⟨L, k, hn, ht⟩
  · have HT := Lib.hid ht
    clear ht hq
    go_enter Tryd.func54, Tryd.ntmps54
    go_wp2_with fail
    refine (HU.out _).mono ?_
    rw [hn]
    rintro e w1 ⟨rfl, hb1⟩
    unfold uqM
    obtain ⟨h0, hb⟩ := first_row hb1
    go_wp2_with fail
    refine (fault_any _ _ _).mono ?_
    rintro e w2 ⟨rfl, hb2⟩
    obtain ⟨h1, hb3⟩ := next_row h0 hb (Nat.le_refl _) hb2
    go_wp2_with (refine store_tk 0 i 0 ⟨#[]⟩ 0 w.heap.size w.heap.size _ h1 hb3 (Nat.le_refl _) rfl rfl _ _ rfl rfl rfl ?_; intro W2 k0 hb2)
    obtain ⟨a0, a1, a2, a3, a4⟩ := cells5 k0
    refine bodyPost_ret (v := .tuple #[.agg #[.int .i64 0, .int .i64 i, .int .i64 0, .string ⟨#[]⟩, .int .i64 0], .int .i64 22]) (by simp [results, Tryd.results54, go_sem, a0, a1, a2, a3, a4]) rfl ⟨?_, hb2⟩
    rw [HT.out]; rfl
  · obtain ⟨T, hT⟩ : ∃ T : ByteArray, T = ⟨L.toArray⟩ := ⟨_, rfl⟩
    rw [← hT] at ht
    have HT := Lib.hid ht
    have hn2 : uqM (qtM s (atB s i) 256 (i + 1) 0) = .tuple #[.string T, .int .i64 (k + 1 : Nat), .bool true] := by rw [hn]; unfold uqM; simp only [str_nums, hT]
    clear ht hT hn hq
    go_enter Tryd.func54, Tryd.ntmps54
    go_wp2_with fail
    refine (HU.out _).mono ?_
    rw [hn2]
    rintro e w1 ⟨rfl, hb1⟩
    obtain ⟨h0, hb⟩ := first_row hb1
    have H1 := fun o => (alloc_row h0 hb (Nat.le_refl _) o).1
    have H2 := fun o => (alloc_row h0 hb (Nat.le_refl _) o).2
    go_wp2_with (refine store_tk 5 i (k + 1 : Nat) T 0 w.heap.size w.heap.size _ (H1 _) (H2 _) (Nat.le_refl _) rfl rfl _ _ rfl rfl rfl ?_; intro W2 k0 hb2)
    obtain ⟨a0, a1, a2, a3, a4⟩ := cells5 k0
    refine bodyPost_ret (v := .tuple #[.agg #[.int .i64 5, .int .i64 i, .int .i64 (k + 1 : Nat), .string T, .int .i64 0], .int .i64 0]) (by simp [results, Tryd.results54, go_sem, a0, a1, a2, a3, a4]) rfl ⟨?_, hb2⟩
    rw [HT.out]; rfl
theorem pquoted_any (s : ByteArray) (hs : s.size ≤ 1000000) (i : Nat) (hi : i < s.size) (w : World) :
    Calls Tryd.prog 54 #[.string s, .int .i64 i] w fun e w' => e = .returned (rdV (textAt s i)) ∧ Below w.heap.size w w' := by
  by_cases h : atB s i = 39
  · exact pquoted_letter s hs i hi h w
  · exact pquoted_text s hs i hi h w

theorem cls_in (c : Int) : cls c = 3 ∨ cls c = 4 ∨ cls c = 2 ∨ cls c = 7 ∨ cls c = 5 ∨ cls c = 6 ∨ cls c = 0 ∨ cls c = 1 := by
  unfold cls
  repeat' split
  all_goals simp

/-- what a callee tells is handed on -/
theorem read_end {s : ByteArray} {i : Nat} {r : Tk ⊕ (Nat × Int)} (h : readAt s i = r) : Ending.returned (rdV r) = .returned (rdV (readAt s i)) := by rw [h]

set_option maxHeartbeats 8000000 in
set_option maxRecDepth 100000 in
theorem pread_any (s : ByteArray) (hs : s.size ≤ 1000000) (i : Nat) (hi : i ≤ s.size) (w : World) (hw : RangeOk w) :
    Calls Tryd.prog 36 #[.string s, .int .i64 i] w fun e w' => e = .returned (rdV (readAt s i)) ∧ Below w.heap.size w w' := by
  by_cases hlt : i < s.size
  · have q : ((i : Int) == s.size) = false := by rw [beq_eq_false_iff_ne]; omega
    have HW := Lib.hid (fun o => hw.below ((Below.refl w.heap.size w).alloc (Nat.le_refl _) o) (Nat.le_refl _))
    rcases cls_in (atB s i) with hc | hc | hc | hc | hc | hc | hc | hc
    · have HR : Hid (readAt s i = (nameP s i)) := Lib.hid (by unfold readAt; rw [if_neg (by omega), if_pos (.inl hc)])
      go_enter Tryd.func36, Tryd.ntmps36
      go_wp2_with fail
      refine (class_at s i hlt _).mono ?_
      rw [hc]
      rintro e w' ⟨rfl, rfl⟩
      go_wp2_with fail
      refine (pname_any s hs i hlt (.inl hc) _).mono ?_
      rintro e w1 ⟨rfl, hb1⟩
      obtain ⟨h0, hb⟩ := first_row hb1
      unfold rdV
      go_wp2_with (refine store_tk (tkOf (nameP s i)).kind (tkOf (nameP s i)).at_ (tkOf (nameP s i)).fin (tkOf (nameP s i)).text (tkOf (nameP s i)).n w.heap.size w.heap.size _ h0 hb (Nat.le_refl _) rfl rfl _ _ rfl rfl rfl ?_; intro W2 k0 hb2)
      obtain ⟨a0, a1, a2, a3, a4⟩ := cells5 k0
      refine bodyPost_ret (v := rdV (nameP s i)) (by simp [rdV, results, Tryd.results36, go_sem, a0, a1, a2, a3, a4]) rfl ⟨?_, hb2⟩
      rw [HR.out]
    · have HR : Hid (readAt s i = (nameP s i)) := Lib.hid (by unfold readAt; rw [if_neg (by omega), if_pos (.inr hc)])
      go_enter Tryd.func36, Tryd.ntmps36
      go_wp2_with fail
      refine (class_at s i hlt _).mono ?_
      rw [hc]
      rintro e w' ⟨rfl, rfl⟩
      go_wp2_with fail
      refine (pname_any s hs i hlt (.inr hc) _).mono ?_
      rintro e w1 ⟨rfl, hb1⟩
      obtain ⟨h0, hb⟩ := first_row hb1
      unfold rdV
      go_wp2_with (refine store_tk (tkOf (nameP s i)).kind (tkOf (nameP s i)).at_ (tkOf (nameP s i)).fin (tkOf (nameP s i)).text (tkOf (nameP s i)).n w.heap.size w.heap.size _ h0 hb (Nat.le_refl _) rfl rfl _ _ rfl rfl rfl ?_; intro W2 k0 hb2)
      obtain ⟨a0, a1, a2, a3, a4⟩ := cells5 k0
      refine bodyPost_ret (v := rdV (nameP s i)) (by simp [rdV, results, Tryd.results36, go_sem, a0, a1, a2, a3, a4]) rfl ⟨?_, hb2⟩
      rw [HR.out]
    · have HR : Hid (readAt s i = (numP s i)) := Lib.hid (by unfold readAt; rw [if_neg (by omega), if_neg (by omega), if_pos hc])
      go_enter Tryd.func36, Tryd.ntmps36
      go_wp2_with fail
      refine (class_at s i hlt _).mono ?_
      rw [hc]
      rintro e w' ⟨rfl, rfl⟩
      go_wp2_with fail
      refine (pnum_any s hs i hlt hc _ (HW.out _)).mono ?_
      rintro e w1 ⟨rfl, hb1⟩
      obtain ⟨h0, hb⟩ := first_row hb1
      unfold rdV
      go_wp2_with (refine store_tk (tkOf (numP s i)).kind (tkOf (numP s i)).at_ (tkOf (numP s i)).fin (tkOf (numP s i)).text (tkOf (numP s i)).n w.heap.size w.heap.size _ h0 hb (Nat.le_refl _) rfl rfl _ _ rfl rfl rfl ?_; intro W2 k0 hb2)
      obtain ⟨a0, a1, a2, a3, a4⟩ := cells5 k0
      refine bodyPost_ret (v := rdV (numP s i)) (by simp [rdV, results, Tryd.results36, go_sem, a0, a1, a2, a3, a4]) rfl ⟨?_, hb2⟩
      rw [HR.out]
    · have HR : Hid (readAt s i = (textAt s i)) := Lib.hid (by unfold readAt; rw [if_neg (by omega), if_neg (by omega), if_neg (by omega), if_pos hc])
      go_enter Tryd.func36, Tryd.ntmps36
      go_wp2_with fail
      refine (class_at s i hlt _).mono ?_
      rw [hc]
      rintro e w' ⟨rfl, rfl⟩
      go_wp2_with fail
      refine (pquoted_any s hs i hlt _).mono ?_
      rintro e w1 ⟨rfl, hb1⟩
      obtain ⟨h0, hb⟩ := first_row hb1
      unfold rdV
      go_wp2_with (refine store_tk (tkOf (textAt s i)).kind (tkOf (textAt s i)).at_ (tkOf (textAt s i)).fin (tkOf (textAt s i)).text (tkOf (textAt s i)).n w.heap.size w.heap.size _ h0 hb (Nat.le_refl _) rfl rfl _ _ rfl rfl rfl ?_; intro W2 k0 hb2)
      obtain ⟨a0, a1, a2, a3, a4⟩ := cells5 k0
      refine bodyPost_ret (v := rdV (textAt s i)) (by simp [rdV, results, Tryd.results36, go_sem, a0, a1, a2, a3, a4]) rfl ⟨?_, hb2⟩
      rw [HR.out]
    · have HR : Hid (readAt s i = (opAt s i)) := Lib.hid (by unfold readAt; rw [if_neg (by omega), if_neg (by omega), if_neg (by omega), if_neg (by omega), if_pos hc])
      go_enter Tryd.func36, Tryd.ntmps36
      go_wp2_with fail
      refine (class_at s i hlt _).mono ?_
      rw [hc]
      rintro e w' ⟨rfl, rfl⟩
      go_wp2_with fail
      refine (pop_any s hs i hlt _).mono ?_
      rintro e w1 ⟨rfl, hb1⟩
      obtain ⟨h0, hb⟩ := first_row hb1
      unfold rdV
      go_wp2_with (refine store_tk (tkOf (opAt s i)).kind (tkOf (opAt s i)).at_ (tkOf (opAt s i)).fin (tkOf (opAt s i)).text (tkOf (opAt s i)).n w.heap.size w.heap.size _ h0 hb (Nat.le_refl _) rfl rfl _ _ rfl rfl rfl ?_; intro W2 k0 hb2)
      obtain ⟨a0, a1, a2, a3, a4⟩ := cells5 k0
      refine bodyPost_ret (v := rdV (opAt s i)) (by simp [rdV, results, Tryd.results36, go_sem, a0, a1, a2, a3, a4]) rfl ⟨?_, hb2⟩
      rw [HR.out]
    · have HR : Hid (readAt s i = .inl ⟨7, i, i + 1, s.extract i (i + 1), 0⟩) := Lib.hid (by unfold readAt; rw [if_neg (by omega), if_neg (by omega), if_neg (by omega), if_neg (by omega), if_neg (by omega), if_pos hc])
      go_enter Tryd.func36, Tryd.ntmps36
      go_wp2_with fail
      refine (class_at s i hlt _).mono ?_
      rw [hc]
      rintro e w' ⟨rfl, rfl⟩
      go_wp2_with fail
      refine (plain_any _ s hs i (i + 1) _ _ rfl (by omega) (by omega) (by omega) _).mono ?_
      rintro e w1 ⟨rfl, hb1⟩
      obtain ⟨h0, hb⟩ := first_row hb1
      go_wp2_with (refine store_tk 7 i (i + 1 : Nat) (s.extract i (i + 1)) 0 w.heap.size w.heap.size _ h0 hb (Nat.le_refl _) rfl rfl _ _ rfl rfl rfl ?_; intro W2 k0 hb2)
      obtain ⟨a0, a1, a2, a3, a4⟩ := cells5 k0
      refine bodyPost_ret (v := .tuple #[.agg #[.int .i64 7, .int .i64 i, .int .i64 (i + 1 : Nat), .string (s.extract i (i + 1)), .int .i64 0], .int .i64 0]) (by simp [results, Tryd.results36, go_sem, a0, a1, a2, a3, a4]) rfl ⟨?_, hb2⟩
      rw [HR.out]; rfl
    · have HR : Hid (readAt s i = .inr (i, 20)) := Lib.hid (by unfold readAt; rw [if_neg (by omega), if_neg (by omega), if_neg (by omega), if_neg (by omega), if_neg (by omega), if_neg (by omega)])
      go_enter Tryd.func36, Tryd.ntmps36
      go_wp2_with fail
      refine (class_at s i hlt _).mono ?_
      rw [hc]
      rintro e w' ⟨rfl, rfl⟩
      go_wp2_with fail
      refine (fault_any _ _ _).mono ?_
      rintro e w1 ⟨rfl, hb1⟩
      obtain ⟨h0, hb⟩ := first_row hb1
      go_wp2_with (refine store_tk 0 i 0 ⟨#[]⟩ 0 w.heap.size w.heap.size _ h0 hb (Nat.le_refl _) rfl rfl _ _ rfl rfl rfl ?_; intro W2 k0 hb2)
      obtain ⟨a0, a1, a2, a3, a4⟩ := cells5 k0
      refine bodyPost_ret (v := .tuple #[.agg #[.int .i64 0, .int .i64 i, .int .i64 0, .string ⟨#[]⟩, .int .i64 0], .int .i64 20]) (by simp [results, Tryd.results36, go_sem, a0, a1, a2, a3, a4]) rfl ⟨?_, hb2⟩
      rw [HR.out]; rfl
    · have HR : Hid (readAt s i = .inr (i, 20)) := Lib.hid (by unfold readAt; rw [if_neg (by omega), if_neg (by omega), if_neg (by omega), if_neg (by omega), if_neg (by omega), if_neg (by omega)])
      go_enter Tryd.func36, Tryd.ntmps36
      go_wp2_with fail
      refine (class_at s i hlt _).mono ?_
      rw [hc]
      rintro e w' ⟨rfl, rfl⟩
      go_wp2_with fail
      refine (fault_any _ _ _).mono ?_
      rintro e w1 ⟨rfl, hb1⟩
      obtain ⟨h0, hb⟩ := first_row hb1
      go_wp2_with (refine store_tk 0 i 0 ⟨#[]⟩ 0 w.heap.size w.heap.size _ h0 hb (Nat.le_refl _) rfl rfl _ _ rfl rfl rfl ?_; intro W2 k0 hb2)
      obtain ⟨a0, a1, a2, a3, a4⟩ := cells5 k0
      refine bodyPost_ret (v := .tuple #[.agg #[.int .i64 0, .int .i64 i, .int .i64 0, .string ⟨#[]⟩, .int .i64 0], .int .i64 20]) (by simp [results, Tryd.results36, go_sem, a0, a1, a2, a3, a4]) rfl ⟨?_, hb2⟩
      rw [HR.out]; rfl
  · obtain rfl : i = s.size := by omega
    have HR : Hid (readAt s s.size = .inl (endT s)) := Lib.hid (readAt_end s _ (Nat.le_refl _))
    have q : ((s.size : Int) == s.size) = true := by rw [beq_iff_eq]
    go_enter Tryd.func36, Tryd.ntmps36
    go_wp2
    refine bodyPost_ret (v := .tuple #[.agg #[.int .i64 9, .int .i64 s.size, .int .i64 s.size, .string ⟨#[]⟩, .int .i64 0], .int .i64 0]) (by simp [results, Tryd.results36, go_sem]) rfl ⟨?_, (Below.refl _ _).alloc (Nat.le_refl _) _⟩
    rw [HR.out]; rfl
end Go.Proofs.YtifmbhcajlnhbaaDoor
