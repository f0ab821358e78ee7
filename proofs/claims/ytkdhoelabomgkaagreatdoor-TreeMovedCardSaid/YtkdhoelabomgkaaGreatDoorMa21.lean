/- Texts of this proof, joined: PQuoted, PReadAll. No condition. -/
import Derived.Test.YtkdhoelabomgkaaGreatDoorMa09
import Derived.Test.YtkdhoelabomgkaaGreatDoorMa20
/-
  Layer 2, the program's side: a Letter or a Text.
-/
namespace Go.Proofs.YtkdhoelabomgkaaGreatDoor
set_option linter.unusedVariables false
open Go.ChangeShapes Go.WideShapes Go.ChangeAt Go.RowKit

/-- from k on up to a bare quote q, at most M bytes: the bytes, and the quote's place; l of them have been told -/
def qutM (s : ByteArray) (q : Int) (M : Nat) : Nat → Nat → Nat → Option (List Int × Nat)
  | 0, _, _ => none
  | f + 1, k, l => if s.size ≤ k then none else if atB s k = q then some ([], k) else (un s k).bind fun p => if M ≤ l then none else (qutM s q M f p.2.toNat (l + 1)).map fun r => (p.1 :: r.1, r.2)
theorem qutM_succ (s : ByteArray) (q : Int) (M f k l : Nat) : qutM s q M (f + 1) k l = if s.size ≤ k then none else if atB s k = q then some ([], k) else (un s k).bind fun p => if M ≤ l then none else (qutM s q M f p.2.toNat (l + 1)).map fun r => (p.1 :: r.1, r.2) := rfl
theorem qutM_256 (s : ByteArray) (q : Int) : ∀ f k l, qutM s q 256 f k l = qut s q f k l := by
  intro f
  induction f with
  | zero => intro k l; rfl
  | succ f ih =>
    intro k l
    rw [qutM_succ, qut_succ]
    simp only [ih]
theorem qutM_end (s : ByteArray) (q : Int) (M f k l : Nat) (h : s.size ≤ k) : qutM s q M f k l = none := by
  cases f with
  | zero => rfl
  | succ f => rw [qutM_succ, if_pos h]
theorem qutM_fuel (s : ByteArray) (q : Int) (M : Nat) : ∀ f g k l, s.size - k ≤ f → s.size - k ≤ g → qutM s q M f k l = qutM s q M g k l := by
  intro f
  induction f with
  | zero => intro g k l h _; rw [qutM_end s q M 0 k l (by omega), qutM_end s q M g k l (by omega)]
  | succ f ih =>
    intro g k l h h'
    by_cases hk : s.size ≤ k
    · rw [qutM_end _ _ _ _ _ _ hk, qutM_end _ _ _ _ _ _ hk]
    · obtain ⟨g, rfl⟩ : ∃ g', g = g' + 1 := ⟨g - 1, by omega⟩
      rw [qutM_succ, qutM_succ]
      cases hu : un s k with
      | none => rfl
      | some p =>
        obtain ⟨c, n⟩ := p
        obtain ⟨m, rfl, hm, _⟩ := un_next2 hu (by omega)
        simp only [Option.bind_some, Int.toNat_natCast]
        rw [ih g m (l + 1) (by omega) (by omega)]
def qtM (s : ByteArray) (q : Int) (M k l : Nat) : Option (List Int × Nat) := qutM s q M (s.size - k) k l
theorem qtM_end (s : ByteArray) (q : Int) (M k l : Nat) (h : s.size ≤ k) : qtM s q M k l = none := qutM_end s q M _ k l h
theorem qtM_step (s : ByteArray) (q : Int) (M k l : Nat) (h : k < s.size) : qtM s q M k l = if atB s k = q then some ([], k) else (un s k).bind fun p => if M ≤ l then none else (qtM s q M p.2.toNat (l + 1)).map fun r => (p.1 :: r.1, r.2) := by
  unfold qtM
  obtain ⟨f, hf⟩ : ∃ f, s.size - k = f + 1 := ⟨s.size - k - 1, by omega⟩
  rw [hf, qutM_succ, if_neg (by omega)]
  cases hu : un s k with
  | none => rfl
  | some p =>
    obtain ⟨c, n⟩ := p
    obtain ⟨m, rfl, hm, _⟩ := un_next2 hu (by omega)
    simp only [Option.bind_some, Int.toNat_natCast]
    rw [qutM_fuel s q M f (s.size - m) m (l + 1) (by omega) (by omega)]
theorem qtM_256 (s : ByteArray) (q : Int) (k l : Nat) : qtM s q 256 k l = qutAt s q k l := qutM_256 s q _ k l

/-- a Letter has one byte: at most one is asked for, and at least one -/
theorem letter_one (s : ByteArray) (i : Nat) (h : atB s i = 39) : quotedAt s i = (qtM s 39 1 (i + 1) 0).bind fun r => if r.1.length = 0 then none else some (r.1, r.2 + 1) := by
  unfold quotedAt
  rw [h, ← qtM_256]
  have key : ∀ k, (qtM s 39 256 k 0).bind (fun r => if (39 : Int) = 39 ∧ r.1.length ≠ 1 then none else some (r.1, r.2 + 1)) = (qtM s 39 1 k 0).bind fun r => if r.1.length = 0 then none else some (r.1, r.2 + 1) := by
    intro k
    by_cases hk : s.size ≤ k
    · rw [qtM_end _ _ _ _ _ hk, qtM_end _ _ _ _ _ hk]; rfl
    rw [qtM_step s 39 256 k 0 (by omega), qtM_step s 39 1 k 0 (by omega)]
    by_cases hq : atB s k = 39
    · rw [if_pos hq, if_pos hq]; rfl
    rw [if_neg hq, if_neg hq]
    cases hu : un s k with
    | none => rfl
    | some p =>
      obtain ⟨c, n⟩ := p
      obtain ⟨m, rfl, hm, _⟩ := un_next2 hu (by omega)
      simp only [Option.bind_some, Int.toNat_natCast]
      rw [if_neg (by omega), if_neg (by omega)]
      by_cases hm2 : s.size ≤ m
      · rw [qtM_end _ _ _ _ _ hm2, qtM_end _ _ _ _ _ hm2]; rfl
      rw [qtM_step s 39 256 m 1 (by omega), qtM_step s 39 1 m 1 (by omega)]
      by_cases hq2 : atB s m = 39
      · rw [if_pos hq2, if_pos hq2]; rfl
      rw [if_neg hq2, if_neg hq2]
      cases hu2 : un s m with
      | none => rfl
      | some p2 =>
        obtain ⟨c2, n2⟩ := p2
        obtain ⟨m2, rfl, hm2, _⟩ := un_next2 hu2 (by omega)
        simp only [Option.bind_some, Int.toNat_natCast]
        rw [if_neg (by omega), if_pos (by omega)]
        cases qtM s 39 256 m2 2 with
        | none => rfl
        | some r => rfl
  exact key (i + 1)
theorem text_any (s : ByteArray) (i : Nat) (h : atB s i ≠ 39) : quotedAt s i = (qtM s (atB s i) 256 (i + 1) 0).map fun r => (r.1, r.2 + 1) := by
  unfold quotedAt
  rw [← qtM_256]
  cases qtM s (atB s i) 256 (i + 1) 0 with
  | none => rfl
  | some r =>
    simp only [Option.bind_some, Option.map_some]
    rw [if_neg (fun h' => h h'.1)]

/-- behind the bytes xs, at k -/
def QM (s : ByteArray) (i M k : Nat) (xs : List Int) : Prop := qtM s (atB s i) M (i + 1) 0 = (qtM s (atB s i) M k xs.length).map fun r => (xs ++ r.1, r.2)
theorem QM.start (s : ByteArray) (i M : Nat) : QM s i M (i + 1) [] := by
  unfold QM
  show qtM s (atB s i) M (i + 1) 0 = (qtM s (atB s i) M (i + 1) 0).map fun r => ([] ++ r.1, r.2)
  cases qtM s (atB s i) M (i + 1) 0 <;> simp
theorem QM.next {s : ByteArray} {i M k m : Nat} {xs : List Int} {c : Int} (h : QM s i M k xs) (hk : k < s.size) (hq : atB s k ≠ atB s i) (hu : un s k = some (c, (m : Int))) (hl : xs.length < M) : QM s i M m (xs ++ [c]) := by
  unfold QM at h ⊢
  rw [h, qtM_step s _ M k _ hk, if_neg hq, hu]
  simp only [Option.bind_some, Int.toNat_natCast]
  rw [if_neg (by omega), List.length_append]
  show Option.map _ (Option.map _ (qtM s (atB s i) M m (xs.length + 1))) = Option.map _ (qtM s (atB s i) M m (xs.length + 1))
  cases qtM s (atB s i) M m (xs.length + 1) <;> simp
theorem QM.fail {s : ByteArray} {i M k : Nat} {xs : List Int} (h : QM s i M k xs) (hn : qtM s (atB s i) M k xs.length = none) : qtM s (atB s i) M (i + 1) 0 = none := by
  unfold QM at h
  rw [h, hn]; rfl
theorem QM.fin {s : ByteArray} {i M k : Nat} {xs : List Int} (h : QM s i M k xs) (hk : k < s.size) (hq : atB s k = atB s i) : qtM s (atB s i) M (i + 1) 0 = some (xs, k) := by
  unfold QM at h
  rw [h, qtM_step s _ M k _ hk, if_pos hq]
  simp
def uqM (o : Option (List Int × Nat)) : Value := match o with
  | .some r => .tuple #[.string (strOfNums r.1), .int .i64 (r.2 + 1 : Nat), .bool true]
  | .none => .tuple #[.string ⟨#[]⟩, .int .i64 0, .bool false]
theorem ret_uq {a b : Option (List Int × Nat)} (h : a = b) : Ending.returned (uqM b) = .returned (uqM a) := by rw [h]

/-- the numbers of bytes -/
abbrev numsL (l : List UInt8) : List Int := l.map fun b => (b.toNat : Int)
theorem str_nums (l : List UInt8) : strOfNums (numsL l) = ⟨l.toArray⟩ := by
  unfold strOfNums
  rw [List.map_map]
  congr 2
  conv => rhs; rw [← List.map_id l]
  refine List.map_congr_left fun x _ => ?_
  simp
theorem byte_cell {c : Int} (h0 : 0 ≤ c) (h1 : c ≤ 255) : ∃ b : UInt8, c = (b.toNat : Int) := ⟨c.toNat.toUInt8, by
  have : c.toNat.toUInt8.toNat = c.toNat % 256 := by simp
  rw [this]; omega⟩
theorem Bld.below {B b : Nat} {bs : List Value} {w w' : World} (h : Bld B b bs w) (hb : Below w.heap.size w w') : Bld B b bs w' := by
  have key : ∀ p, Lib.BuilderAt 198 5 B b p bs w → Lib.BuilderAt 198 5 B b p bs w' := by
    rintro p ⟨h1, v, h2, h3, h4⟩
    refine ⟨h1, v, (hb.block b (lt_heap h2)).trans h2, ?_, h4⟩
    exact h3.kept (row := none) (below_grownBy hb none) (by cases hv : v.ownBlock with | none => exact .inl rfl | some k => exact .inr (by simp))
  rcases h with h | h
  · exact .inl (key _ h)
  · exact .inr (key _ h)

theorem len_any (B b : Nat) (l : List UInt8) (w : World) (h : Bld B b (Lib.byteCells l) w) :
    Calls Tryz.prog 149 #[.pointer (some ⟨b, 0, none⟩)] w fun e w' => e = .returned (.int .i64 l.length) ∧ w = w' :=
  (Tryz.Builder_Len B b _ w h).mono fun e w' ⟨h1, h2⟩ => ⟨by rw [h1]; simp [Lib.byteCells], h2.symm⟩
theorem ret_uq3 {a : Option (List Int × Nat)} {l : List UInt8} {k : Nat} (h : a = some (numsL l, k)) : Ending.returned (.tuple #[.string ⟨l.toArray⟩, .int .i64 ((k : Int) + 1), .bool true]) = .returned (uqM a) := by
  rw [h]
  unfold uqM
  simp only [str_nums]
  rfl
theorem ret_uq0 {a : Option (List Int × Nat)} (h : a = none) : Ending.returned (.tuple #[.string ⟨#[]⟩, .int .i64 0, .bool false]) = .returned (uqM a) := by rw [h]; rfl

set_option maxHeartbeats 8000000 in
set_option maxRecDepth 100000 in
theorem punq_any (s : ByteArray) (hs : s.size ≤ 1000000) (i : Nat) (hi : i < s.size) (M : Nat) (hM : M ≤ 256) (w : World) :
    Calls Tryz.prog 143 #[.string s, .int .i64 i, .int .i64 M] w fun e w' => e = .returned (uqM (qtM s (atB s i) M (i + 1) 0)) ∧ Below w.heap.size w w' := by
  have ei := atB_eq s i hi
  have EI := Lib.hid ei
  clear ei
  go_enter Tryz.func143, Tryz.ntmps143
  go_wp2
  go_loopw [1, 11, 12, 13] (fun iv _ _ _ wr => ∃ (k : Nat) (l : List UInt8), k ≤ s.size ∧ l.length ≤ M ∧ iv = .int .i64 k ∧ Bld w.heap.size w.heap.size (Lib.byteCells l) wr ∧ Below w.heap.size w wr ∧ Hid (QM s i M k (numsL l))) (fun iv _ _ _ _ => s.size - (intOf iv).toNat)
  case atStart =>
    refine ⟨i + 1, [], by omega, by simp, by go_num, .inl ⟨Nat.le_refl _, .slice none 0 0, ?_, World.ownsRow_nil _ _ _ _, by simp [Value.ownBlock]⟩, (Below.refl _ _).alloc (Nat.le_refl _) _, Lib.hid (QM.start s i M)⟩
    exact heap_alloc_new w _
  case round =>
    obtain ⟨k, l, hk, hl, rfl, hB, hbw, H⟩ := hrel
    by_cases hlt : k < s.size
    · have ek := atB_eq s k hlt
      by_cases hq : atB s k = atB s i
      · have q : ((s[k].toNat : Int) != s[i].toNat) = false := by rw [bne_eq_false_iff_eq, ← ek, ← EI.out]; exact hq
        have HN := Lib.hid (H.out.fin hlt hq)
        have e1 : ((k : Int) == s.size) = false := by rw [beq_eq_false_iff_ne]; omega
        clear hq ek
        go_wp2_with fail
        refine (Tryz.Builder_String_any w.heap.size w.heap.size l wr hB hbw.size).mono ?_
        rintro e w' ⟨rfl, hb⟩
        go_wp2
        go_ret3
        exact ⟨ret_uq3 HN.out, hbw.trans hb⟩
      · have q : ((s[k].toNat : Int) != s[i].toNat) = true := by rw [bne_iff_ne, ← ek, ← EI.out]; exact hq
        have HQ := Lib.hid hq
        have hst := qtM_step s (atB s i) M k (numsL l).length hlt
        rw [if_neg hq] at hst
        clear hq ek
        go_wp2_with fail
        refine (unescape_in s hs k hlt _).mono ?_
        cases hu : un s k with
        | none =>
          rw [hu] at hst
          have HN := Lib.hid (H.out.fail hst)
          clear hst
          rintro e w1 ⟨rfl, hb1⟩
          unfold unV
          go_wp2
          go_ret3
          exact ⟨ret_uq0 HN.out, hbw.trans (hb1.mono hbw.size)⟩
        | some r =>
          obtain ⟨c, n⟩ := r
          obtain ⟨m, rfl, hm, hm2, hc0, hc1⟩ := un_next2 hu hlt
          obtain ⟨x, rfl⟩ := byte_cell hc0 hc1
          rw [hu] at hst
          simp only [Option.bind_some, Int.toNat_natCast, List.length_map] at hst
          rintro e w1 ⟨rfl, hb1⟩
          unfold unV
          have hB1 := hB.below hb1
          have hw1 := hbw.trans (hb1.mono hbw.size)
          by_cases hlM : l.length = M
          · rw [if_pos (by omega)] at hst
            have HN := Lib.hid (H.out.fail (by rw [List.length_map]; exact hst))
            have e2 : ((l.length : Int) == M) = true := by rw [beq_iff_eq]; omega
            clear hst
            go_wp2_with fail
            refine (len_any _ _ l _ hB1).mono ?_
            rintro e w2 ⟨rfl, rfl⟩
            go_wp2
            go_ret3
            exact ⟨ret_uq0 HN.out, hw1⟩
          · have HX := Lib.hid (H.out.next hlt HQ.out hu (by rw [List.length_map]; omega))
            have e2 : ((l.length : Int) == M) = false := by rw [beq_eq_false_iff_ne]; omega
            clear hst
            go_wp2_with fail
            refine (len_any _ _ l _ hB1).mono ?_
            rintro e w2 ⟨rfl, rfl⟩
            go_wp2_with fail
            refine (wbyte_any w.heap.size w.heap.size _ x.toNat _ hB1 (by simp [Lib.byteCells]; omega) hw1.size).mono ?_
            rintro e w3 ⟨rfl, hB3, hb3⟩
            go_wp2
            go_roundw
            case rel => exact ⟨m, l ++ [x], hm2, by simp; omega, rfl, .inr (by simpa [Lib.byteCells] using hB3), hw1.trans hb3, Lib.hid (by simpa using HX.out)⟩
            case measure => simp [intOf]; omega
    · have HN := Lib.hid (H.out.fail (qtM_end s _ M k _ (by omega)))
      have e1 : ((k : Int) == s.size) = true := by rw [beq_iff_eq]; omega
      go_wp2
      go_ret3
      exact ⟨ret_uq0 HN.out, hbw⟩
end Go.Proofs.YtkdhoelabomgkaaGreatDoor
/-
  Layer 2, the program's side: the token at a place.
-/
namespace Go.Proofs.YtkdhoelabomgkaaGreatDoor
set_option linter.unusedVariables false
open Go.ChangeShapes Go.WideShapes Go.ChangeAt Go.RowKit

theorem qutM_bytes (s : ByteArray) (q : Int) (M : Nat) : ∀ f k l r, qutM s q M f k l = some r → ∃ L : List UInt8, r.1 = numsL L := by
  intro f
  induction f with
  | zero => intro k l r h; cases h
  | succ f ih =>
    intro k l r h
    rw [qutM_succ] at h
    by_cases a : s.size ≤ k
    · rw [if_pos a] at h; cases h
    rw [if_neg a] at h
    by_cases b : atB s k = q
    · rw [if_pos b] at h; have := Option.some.inj h; subst this; exact ⟨[], rfl⟩
    rw [if_neg b] at h
    cases hu : un s k with
    | none => rw [hu] at h; cases h
    | some p =>
      obtain ⟨c, n⟩ := p
      obtain ⟨m, rfl, hm, _, h0, h1⟩ := un_next2 hu (by omega)
      rw [hu] at h
      simp only [Option.bind_some, Int.toNat_natCast] at h
      by_cases d : M ≤ l
      · rw [if_pos d] at h; cases h
      rw [if_neg d] at h
      obtain ⟨r', hr', rfl⟩ := Option.map_eq_some_iff.1 h
      obtain ⟨L, hL⟩ := ih _ _ _ hr'
      obtain ⟨x, rfl⟩ := byte_cell h0 h1
      exact ⟨x :: L, by simp [hL]⟩
theorem qtM_bytes {s : ByteArray} {q : Int} {M k l : Nat} {r : List Int × Nat} (h : qtM s q M k l = some r) : ∃ L : List UInt8, r.1 = numsL L := qutM_bytes s q M _ _ _ _ h

/-- what a Letter is: nothing, or its byte -/
theorem letter_cases (s : ByteArray) (i : Nat) (h : atB s i = 39) :
    ((qtM s 39 1 (i + 1) 0 = none ∨ ∃ k, qtM s 39 1 (i + 1) 0 = some ([], k)) ∧ textAt s i = .inr (i, 22)) ∨
    ∃ (x : UInt8) (L : List UInt8) (k : Nat), qtM s 39 1 (i + 1) 0 = some (numsL (x :: L), k) ∧ textAt s i = .inl ⟨4, i, k + 1, ⟨(x :: L).toArray⟩, x.toNat⟩ := by
  have h1 := letter_one s i h
  unfold textAt
  rw [h1]
  cases hq : qtM s 39 1 (i + 1) 0 with
  | none => exact .inl ⟨.inl rfl, rfl⟩
  | some r =>
    obtain ⟨xs, k⟩ := r
    obtain ⟨L, hL⟩ := qtM_bytes hq
    simp only at hL
    subst hL
    cases L with
    | nil => exact .inl ⟨.inr ⟨k, rfl⟩, rfl⟩
    | cons x L =>
      refine .inr ⟨x, L, k, rfl, ?_⟩
      simp only [Option.bind_some]
      rw [if_neg (by simp)]
      simp only [Option.elim_some, h, if_true, str_nums]
      simp
theorem text_cases (s : ByteArray) (i : Nat) (h : atB s i ≠ 39) :
    (qtM s (atB s i) 256 (i + 1) 0 = none ∧ textAt s i = .inr (i, 22)) ∨
    ∃ (L : List UInt8) (k : Nat), qtM s (atB s i) 256 (i + 1) 0 = some (numsL L, k) ∧ textAt s i = .inl ⟨5, i, k + 1, ⟨L.toArray⟩, 0⟩ := by
  have h1 := text_any s i h
  unfold textAt
  rw [h1]
  cases hq : qtM s (atB s i) 256 (i + 1) 0 with
  | none => exact .inl ⟨rfl, rfl⟩
  | some r =>
    obtain ⟨xs, k⟩ := r
    obtain ⟨L, hL⟩ := qtM_bytes hq
    simp only at hL
    subst hL
    refine .inr ⟨L, k, rfl, ?_⟩
    simp only [Option.map_some, Option.elim_some, if_neg h, str_nums]

theorem wrap64_small (x : Int) (h0 : 0 ≤ x) (h1 : x ≤ 255) : wrap64 x = x := by unfold wrap64; omega
set_option maxHeartbeats 4000000 in
set_option maxRecDepth 100000 in
theorem pquoted_letter (s : ByteArray) (hs : s.size ≤ 1000000) (i : Nat) (hi : i < s.size) (hq : atB s i = 39) (w : World) :
    Calls Tryz.prog 135 #[.string s, .int .i64 i] w fun e w' => e = .returned (rdV (textAt s i)) ∧ Below w.heap.size w w' := by
  have ei := atB_eq s i hi
  have q : ((s[i].toNat : Int) == 39) = true := by rw [beq_iff_eq, ← ei]; exact hq
  have hu := fun w => punq_any s hs i hi 1 (by omega) w
  rw [hq] at hu
  have HU := Lib.hid hu
  clear hu ei
  rcases letter_cases s i hq with ⟨hn | ⟨k, hn⟩, ht⟩ | ⟨x, L, k, hn, ht⟩
  · have HT := Lib.hid ht
    clear ht
    go_enter Tryz.func135, Tryz.ntmps135
    go_wp2_with fail
    refine (HU.out _).mono ?_
    rw [hn]
    rintro e w1 ⟨rfl, hb1⟩
    unfold uqM
    obtain ⟨h0, hb⟩ := first_row hb1
    go_wp2_with fail
    refine (fault_any _ _ _).mono ?_
    rintro e w2 ⟨rfl, hb2⟩
    obtain ⟨h1, hb3⟩ := next_row h0 hb (Nat.le_refl _) hb2
    go_wp2_with (refine store_tk 0 i 0 ⟨#[]⟩ 0 w.heap.size w.heap.size _ h1 hb3 (Nat.le_refl _) rfl rfl _ _ rfl rfl rfl ?_; intro W2 k0 hb2)
    obtain ⟨a0, a1, a2, a3, a4⟩ := cells5 k0
    refine bodyPost_ret (v := .tuple #[.agg #[.int .i64 0, .int .i64 i, .int .i64 0, .string ⟨#[]⟩, .int .i64 0], .int .i64 22]) (by simp [results, Tryz.results135, go_sem, a0, a1, a2, a3, a4]) rfl ⟨?_, hb2⟩
    rw [HT.out]; rfl
  · have HT := Lib.hid ht
    clear ht
    go_enter Tryz.func135, Tryz.ntmps135
    go_wp2_with fail
    refine (HU.out _).mono ?_
    rw [hn]
    rintro e w1 ⟨rfl, hb1⟩
    unfold uqM
    simp only [show strOfNums [] = ⟨#[]⟩ from rfl]
    obtain ⟨h0, hb⟩ := first_row hb1
    go_wp2_with fail
    refine (fault_any _ _ _).mono ?_
    rintro e w2 ⟨rfl, hb2⟩
    obtain ⟨h1, hb3⟩ := next_row h0 hb (Nat.le_refl _) hb2
    go_wp2_with (refine store_tk 0 i 0 ⟨#[]⟩ 0 w.heap.size w.heap.size _ h1 hb3 (Nat.le_refl _) rfl rfl _ _ rfl rfl rfl ?_; intro W2 k0 hb2)
    obtain ⟨a0, a1, a2, a3, a4⟩ := cells5 k0
    refine bodyPost_ret (v := .tuple #[.agg #[.int .i64 0, .int .i64 i, .int .i64 0, .string ⟨#[]⟩, .int .i64 0], .int .i64 22]) (by simp [results, Tryz.results135, go_sem, a0, a1, a2, a3, a4]) rfl ⟨?_, hb2⟩
    rw [HT.out]; rfl
  · obtain ⟨T, hT⟩ : ∃ T : ByteArray, T = ⟨(x :: L).toArray⟩ := ⟨_, rfl⟩
    have hsz : 0 < T.size := by rw [hT]; show 0 < (x :: L).toArray.size; simp
    have hne : (T.toList == []) = false := by rw [hT, beq_eq_false_iff_ne, ByteArray.toList_eq]; simp
    have hx : (T[0].toNat : Int) = x.toNat := by subst hT; rfl
    rw [← hT, ← hx] at ht
    have HT := Lib.hid ht
    have hn2 : uqM (qtM s 39 1 (i + 1) 0) = .tuple #[.string T, .int .i64 (k + 1 : Nat), .bool true] := by rw [hn]; unfold uqM; simp only [str_nums, hT]
    clear ht hT hx hn
    go_enter Tryz.func135, Tryz.ntmps135
    go_wp2_with fail
    refine (HU.out _).mono ?_
    rw [hn2]
    rintro e w1 ⟨rfl, hb1⟩
    obtain ⟨h0, hb⟩ := first_row hb1
    have H1 := fun o => (alloc_row h0 hb (Nat.le_refl _) o).1
    have H2 := fun o => (alloc_row h0 hb (Nat.le_refl _) o).2
    go_wp2_with (refine store_tk 4 i (k + 1 : Nat) T (wrap64 (T[0].toNat : Int)) w.heap.size w.heap.size _ (H1 _) (H2 _) (Nat.le_refl _) rfl rfl _ _ rfl rfl rfl ?_; intro W2 k0 hb2)
    obtain ⟨a0, a1, a2, a3, a4⟩ := cells5 k0
    refine bodyPost_ret (v := .tuple #[.agg #[.int .i64 4, .int .i64 i, .int .i64 (k + 1 : Nat), .string T, .int .i64 (wrap64 (T[0].toNat : Int))], .int .i64 0]) (by simp [results, Tryz.results135, go_sem, a0, a1, a2, a3, a4]) rfl ⟨?_, hb2⟩
    rw [HT.out, wrap64_small _ (by omega) (by have := T[0].toNat_lt; omega)]; rfl

set_option maxHeartbeats 4000000 in
set_option maxRecDepth 100000 in
theorem pquoted_text (s : ByteArray) (hs : s.size ≤ 1000000) (i : Nat) (hi : i < s.size) (hq : atB s i ≠ 39) (w : World) :
    Calls Tryz.prog 135 #[.string s, .int .i64 i] w fun e w' => e = .returned (rdV (textAt s i)) ∧ Below w.heap.size w w' := by
  have ei := atB_eq s i hi
  have q : ((s[i].toNat : Int) == 39) = false := by rw [beq_eq_false_iff_ne, ← ei]; exact hq
  have HU := Lib.hid fun w => punq_any s hs i hi 256 (by omega) w
  clear ei
  rcases text_cases s i hq with ⟨hn, ht⟩ | ⟨L, k, hn, ht⟩
  · have HT := Lib.hid ht
    clear ht hq
    go_enter Tryz.func135, Tryz.ntmps135
    go_wp2_with fail
    refine (HU.out _).mono ?_
    rw [hn]
    rintro e w1 ⟨rfl, hb1⟩
    unfold uqM
    obtain ⟨h0, hb⟩ := first_row hb1
    go_wp2_with fail
    refine (fault_any _ _ _).mono ?_
    rintro e w2 ⟨rfl, hb2⟩
    obtain ⟨h1, hb3⟩ := next_row h0 hb (Nat.le_refl _) hb2
    go_wp2_with (refine store_tk 0 i 0 ⟨#[]⟩ 0 w.heap.size w.heap.size _ h1 hb3 (Nat.le_refl _) rfl rfl _ _ rfl rfl rfl ?_; intro W2 k0 hb2)
    obtain ⟨a0, a1, a2, a3, a4⟩ := cells5 k0
    refine bodyPost_ret (v := .tuple #[.agg #[.int .i64 0, .int .i64 i, .int .i64 0, .string ⟨#[]⟩, .int .i64 0], .int .i64 22]) (by simp [results, Tryz.results135, go_sem, a0, a1, a2, a3, a4]) rfl ⟨?_, hb2⟩
    rw [HT.out]; rfl
  · obtain ⟨T, hT⟩ : ∃ T : ByteArray, T = ⟨L.toArray⟩ := ⟨_, rfl⟩
    rw [← hT] at ht
    have HT := Lib.hid ht
    have hn2 : uqM (qtM s (atB s i) 256 (i + 1) 0) = .tuple #[.string T, .int .i64 (k + 1 : Nat), .bool true] := by rw [hn]; unfold uqM; simp only [str_nums, hT]
    clear ht hT hn hq
    go_enter Tryz.func135, Tryz.ntmps135
    go_wp2_with fail
    refine (HU.out _).mono ?_
    rw [hn2]
    rintro e w1 ⟨rfl, hb1⟩
    obtain ⟨h0, hb⟩ := first_row hb1
    have H1 := fun o => (alloc_row h0 hb (Nat.le_refl _) o).1
    have H2 := fun o => (alloc_row h0 hb (Nat.le_refl _) o).2
    go_wp2_with (refine store_tk 5 i (k + 1 : Nat) T 0 w.heap.size w.heap.size _ (H1 _) (H2 _) (Nat.le_refl _) rfl rfl _ _ rfl rfl rfl ?_; intro W2 k0 hb2)
    obtain ⟨a0, a1, a2, a3, a4⟩ := cells5 k0
    refine bodyPost_ret (v := .tuple #[.agg #[.int .i64 5, .int .i64 i, .int .i64 (k + 1 : Nat), .string T, .int .i64 0], .int .i64 0]) (by simp [results, Tryz.results135, go_sem, a0, a1, a2, a3, a4]) rfl ⟨?_, hb2⟩
    rw [HT.out]; rfl
theorem pquoted_any (s : ByteArray) (hs : s.size ≤ 1000000) (i : Nat) (hi : i < s.size) (w : World) :
    Calls Tryz.prog 135 #[.string s, .int .i64 i] w fun e w' => e = .returned (rdV (textAt s i)) ∧ Below w.heap.size w w' := by
  by_cases h : atB s i = 39
  · exact pquoted_letter s hs i hi h w
  · exact pquoted_text s hs i hi h w

theorem cls_in (c : Int) : cls c = 3 ∨ cls c = 4 ∨ cls c = 2 ∨ cls c = 7 ∨ cls c = 5 ∨ cls c = 6 ∨ cls c = 0 ∨ cls c = 1 := by
  unfold cls
  repeat' split
  all_goals simp

/-- what a callee tells is handed on -/
theorem read_end {s : ByteArray} {i : Nat} {r : Tk ⊕ (Nat × Int)} (h : readAt s i = r) : Ending.returned (rdV r) = .returned (rdV (readAt s i)) := by rw [h]

set_option maxHeartbeats 8000000 in
set_option maxRecDepth 100000 in
theorem pread_any (s : ByteArray) (hs : s.size ≤ 1000000) (i : Nat) (hi : i ≤ s.size) (w : World) (hw : RangeOk w) :
    Calls Tryz.prog 129 #[.string s, .int .i64 i] w fun e w' => e = .returned (rdV (readAt s i)) ∧ Below w.heap.size w w' := by
  by_cases hlt : i < s.size
  · have q : ((i : Int) == s.size) = false := by rw [beq_eq_false_iff_ne]; omega
    have HW := Lib.hid (fun o => hw.below ((Below.refl w.heap.size w).alloc (Nat.le_refl _) o) (Nat.le_refl _))
    rcases cls_in (atB s i) with hc | hc | hc | hc | hc | hc | hc | hc
    · have HR : Hid (readAt s i = (nameP s i)) := Lib.hid (by unfold readAt; rw [if_neg (by omega), if_pos (.inl hc)])
      go_enter Tryz.func129, Tryz.ntmps129
      go_wp2_with fail
      refine (class_at s i hlt _).mono ?_
      rw [hc]
      rintro e w' ⟨rfl, rfl⟩
      go_wp2_with fail
      refine (pname_any s hs i hlt (.inl hc) _).mono ?_
      rintro e w1 ⟨rfl, hb1⟩
      obtain ⟨h0, hb⟩ := first_row hb1
      unfold rdV
      go_wp2_with (refine store_tk (tkOf (nameP s i)).kind (tkOf (nameP s i)).at_ (tkOf (nameP s i)).fin (tkOf (nameP s i)).text (tkOf (nameP s i)).n w.heap.size w.heap.size _ h0 hb (Nat.le_refl _) rfl rfl _ _ rfl rfl rfl ?_; intro W2 k0 hb2)
      obtain ⟨a0, a1, a2, a3, a4⟩ := cells5 k0
      refine bodyPost_ret (v := rdV (nameP s i)) (by simp [rdV, results, Tryz.results129, go_sem, a0, a1, a2, a3, a4]) rfl ⟨?_, hb2⟩
      rw [HR.out]
    · have HR : Hid (readAt s i = (nameP s i)) := Lib.hid (by unfold readAt; rw [if_neg (by omega), if_pos (.inr hc)])
      go_enter Tryz.func129, Tryz.ntmps129
      go_wp2_with fail
      refine (class_at s i hlt _).mono ?_
      rw [hc]
      rintro e w' ⟨rfl, rfl⟩
      go_wp2_with fail
      refine (pname_any s hs i hlt (.inr hc) _).mono ?_
      rintro e w1 ⟨rfl, hb1⟩
      obtain ⟨h0, hb⟩ := first_row hb1
      unfold rdV
      go_wp2_with (refine store_tk (tkOf (nameP s i)).kind (tkOf (nameP s i)).at_ (tkOf (nameP s i)).fin (tkOf (nameP s i)).text (tkOf (nameP s i)).n w.heap.size w.heap.size _ h0 hb (Nat.le_refl _) rfl rfl _ _ rfl rfl rfl ?_; intro W2 k0 hb2)
      obtain ⟨a0, a1, a2, a3, a4⟩ := cells5 k0
      refine bodyPost_ret (v := rdV (nameP s i)) (by simp [rdV, results, Tryz.results129, go_sem, a0, a1, a2, a3, a4]) rfl ⟨?_, hb2⟩
      rw [HR.out]
    · have HR : Hid (readAt s i = (numP s i)) := Lib.hid (by unfold readAt; rw [if_neg (by omega), if_neg (by omega), if_pos hc])
      go_enter Tryz.func129, Tryz.ntmps129
      go_wp2_with fail
      refine (class_at s i hlt _).mono ?_
      rw [hc]
      rintro e w' ⟨rfl, rfl⟩
      go_wp2_with fail
      refine (pnum_any s hs i hlt hc _ (HW.out _)).mono ?_
      rintro e w1 ⟨rfl, hb1⟩
      obtain ⟨h0, hb⟩ := first_row hb1
      unfold rdV
      go_wp2_with (refine store_tk (tkOf (numP s i)).kind (tkOf (numP s i)).at_ (tkOf (numP s i)).fin (tkOf (numP s i)).text (tkOf (numP s i)).n w.heap.size w.heap.size _ h0 hb (Nat.le_refl _) rfl rfl _ _ rfl rfl rfl ?_; intro W2 k0 hb2)
      obtain ⟨a0, a1, a2, a3, a4⟩ := cells5 k0
      refine bodyPost_ret (v := rdV (numP s i)) (by simp [rdV, results, Tryz.results129, go_sem, a0, a1, a2, a3, a4]) rfl ⟨?_, hb2⟩
      rw [HR.out]
    · have HR : Hid (readAt s i = (textAt s i)) := Lib.hid (by unfold readAt; rw [if_neg (by omega), if_neg (by omega), if_neg (by omega), if_pos hc])
      go_enter Tryz.func129, Tryz.ntmps129
      go_wp2_with fail
      refine (class_at s i hlt _).mono ?_
      rw [hc]
      rintro e w' ⟨rfl, rfl⟩
      go_wp2_with fail
      refine (pquoted_any s hs i hlt _).mono ?_
      rintro e w1 ⟨rfl, hb1⟩
      obtain ⟨h0, hb⟩ := first_row hb1
      unfold rdV
      go_wp2_with (refine store_tk (tkOf (textAt s i)).kind (tkOf (textAt s i)).at_ (tkOf (textAt s i)).fin (tkOf (textAt s i)).text (tkOf (textAt s i)).n w.heap.size w.heap.size _ h0 hb (Nat.le_refl _) rfl rfl _ _ rfl rfl rfl ?_; intro W2 k0 hb2)
      obtain ⟨a0, a1, a2, a3, a4⟩ := cells5 k0
      refine bodyPost_ret (v := rdV (textAt s i)) (by simp [rdV, results, Tryz.results129, go_sem, a0, a1, a2, a3, a4]) rfl ⟨?_, hb2⟩
      rw [HR.out]
    · have HR : Hid (readAt s i = (opAt s i)) := Lib.hid (by unfold readAt; rw [if_neg (by omega), if_neg (by omega), if_neg (by omega), if_neg (by omega), if_pos hc])
      go_enter Tryz.func129, Tryz.ntmps129
      go_wp2_with fail
      refine (class_at s i hlt _).mono ?_
      rw [hc]
      rintro e w' ⟨rfl, rfl⟩
      go_wp2_with fail
      refine (pop_any s hs i hlt _).mono ?_
      rintro e w1 ⟨rfl, hb1⟩
      obtain ⟨h0, hb⟩ := first_row hb1
      unfold rdV
      go_wp2_with (refine store_tk (tkOf (opAt s i)).kind (tkOf (opAt s i)).at_ (tkOf (opAt s i)).fin (tkOf (opAt s i)).text (tkOf (opAt s i)).n w.heap.size w.heap.size _ h0 hb (Nat.le_refl _) rfl rfl _ _ rfl rfl rfl ?_; intro W2 k0 hb2)
      obtain ⟨a0, a1, a2, a3, a4⟩ := cells5 k0
      refine bodyPost_ret (v := rdV (opAt s i)) (by simp [rdV, results, Tryz.results129, go_sem, a0, a1, a2, a3, a4]) rfl ⟨?_, hb2⟩
      rw [HR.out]
    · have HR : Hid (readAt s i = .inl ⟨7, i, i + 1, s.extract i (i + 1), 0⟩) := Lib.hid (by unfold readAt; rw [if_neg (by omega), if_neg (by omega), if_neg (by omega), if_neg (by omega), if_neg (by omega), if_pos hc])
      go_enter Tryz.func129, Tryz.ntmps129
      go_wp2_with fail
      refine (class_at s i hlt _).mono ?_
      rw [hc]
      rintro e w' ⟨rfl, rfl⟩
      go_wp2_with fail
      refine (plain_any _ s hs i (i + 1) _ _ rfl (by omega) (by omega) (by omega) _).mono ?_
      rintro e w1 ⟨rfl, hb1⟩
      obtain ⟨h0, hb⟩ := first_row hb1
      go_wp2_with (refine store_tk 7 i (i + 1 : Nat) (s.extract i (i + 1)) 0 w.heap.size w.heap.size _ h0 hb (Nat.le_refl _) rfl rfl _ _ rfl rfl rfl ?_; intro W2 k0 hb2)
      obtain ⟨a0, a1, a2, a3, a4⟩ := cells5 k0
      refine bodyPost_ret (v := .tuple #[.agg #[.int .i64 7, .int .i64 i, .int .i64 (i + 1 : Nat), .string (s.extract i (i + 1)), .int .i64 0], .int .i64 0]) (by simp [results, Tryz.results129, go_sem, a0, a1, a2, a3, a4]) rfl ⟨?_, hb2⟩
      rw [HR.out]; rfl
    · have HR : Hid (readAt s i = .inr (i, 20)) := Lib.hid (by unfold readAt; rw [if_neg (by omega), if_neg (by omega), if_neg (by omega), if_neg (by omega), if_neg (by omega), if_neg (by omega)])
      go_enter Tryz.func129, Tryz.ntmps129
      go_wp2_with fail
      refine (class_at s i hlt _).mono ?_
      rw [hc]
      rintro e w' ⟨rfl, rfl⟩
      go_wp2_with fail
      refine (fault_any _ _ _).mono ?_
      rintro e w1 ⟨rfl, hb1⟩
      obtain ⟨h0, hb⟩ := first_row hb1
      go_wp2_with (refine store_tk 0 i 0 ⟨#[]⟩ 0 w.heap.size w.heap.size _ h0 hb (Nat.le_refl _) rfl rfl _ _ rfl rfl rfl ?_; intro W2 k0 hb2)
      obtain ⟨a0, a1, a2, a3, a4⟩ := cells5 k0
      refine bodyPost_ret (v := .tuple #[.agg #[.int .i64 0, .int .i64 i, .int .i64 0, .string ⟨#[]⟩, .int .i64 0], .int .i64 20]) (by simp [results, Tryz.results129, go_sem, a0, a1, a2, a3, a4]) rfl ⟨?_, hb2⟩
      rw [HR.out]; rfl
    · have HR : Hid (readAt s i = .inr (i, 20)) := Lib.hid (by unfold readAt; rw [if_neg (by omega), if_neg (by omega), if_neg (by omega), if_neg (by omega), if_neg (by omega), if_neg (by omega)])
      go_enter Tryz.func129, Tryz.ntmps129
      go_wp2_with fail
      refine (class_at s i hlt _).mono ?_
      rw [hc]
      rintro e w' ⟨rfl, rfl⟩
      go_wp2_with fail
      refine (fault_any _ _ _).mono ?_
      rintro e w1 ⟨rfl, hb1⟩
      obtain ⟨h0, hb⟩ := first_row hb1
      go_wp2_with (refine store_tk 0 i 0 ⟨#[]⟩ 0 w.heap.size w.heap.size _ h0 hb (Nat.le_refl _) rfl rfl _ _ rfl rfl rfl ?_; intro W2 k0 hb2)
      obtain ⟨a0, a1, a2, a3, a4⟩ := cells5 k0
      refine bodyPost_ret (v := .tuple #[.agg #[.int .i64 0, .int .i64 i, .int .i64 0, .string ⟨#[]⟩, .int .i64 0], .int .i64 20]) (by simp [results, Tryz.results129, go_sem, a0, a1, a2, a3, a4]) rfl ⟨?_, hb2⟩
      rw [HR.out]; rfl
  · obtain rfl : i = s.size := by omega
    have HR : Hid (readAt s s.size = .inl (endT s)) := Lib.hid (readAt_end s _ (Nat.le_refl _))
    have q : ((s.size : Int) == s.size) = true := by rw [beq_iff_eq]
    go_enter Tryz.func129, Tryz.ntmps129
    go_wp2
    refine bodyPost_ret (v := .tuple #[.agg #[.int .i64 9, .int .i64 s.size, .int .i64 s.size, .string ⟨#[]⟩, .int .i64 0], .int .i64 0]) (by simp [results, Tryz.results129, go_sem]) rfl ⟨?_, (Below.refl _ _).alloc (Nat.le_refl _) _⟩
    rw [HR.out]; rfl
end Go.Proofs.YtkdhoelabomgkaaGreatDoor
