/-
  Layer 2, the program's side: a Letter or a Text.
-/
import Derived.Test.YtifmbhcajlnhbaaDoorPNum
import Derived.Test.YtifmbhcajlnhbaaDoorBuilder
namespace Go.Proofs.YtifmbhcajlnhbaaDoor
set_option linter.unusedVariables false
open Go.ChangeShapes Go.WideShapes Go.ChangeAt Go.RowKit

/-- from k on up to a bare quote q, at most M bytes: the bytes, and the quote's place; l of them have been told -/
def qutM (s : ByteArray) (q : Int) (M : Nat) : Nat → Nat → Nat → Option (List Int × Nat)
  | 0, _, _ => none
  | f + 1, k, l => if s.size ≤ k then none else if atB s k = q then some ([], k) else (un s k).bind fun p => if M ≤ l then none else (qutM s q M f p.2.toNat (l + 1)).map fun r => (p.1 :: r.1, r.2)
theorem qutM_succ (s : ByteArray) (q : Int) (M f k l : Nat) : qutM s q M (f + 1) k l = if s.size ≤ k then none else if atB s k = q then some ([], k) else (un s k).bind fun p => if M ≤ l then none else (qutM s q M f p.2.toNat (l + 1)).map fun r => (p.1 :: r.1, r.2) := rfl
theorem qutM_256 (s : ByteArray) (q : Int) : ∀ f k l, qutM s q 256 f k l = qut s q f k l := by
  intro f
  induction f with
  | zero => intro k l; rfl
  | succ f ih =>
    intro k l
    rw [qutM_succ, qut_succ]
    simp only [ih]
theorem qutM_end (s : ByteArray) (q : Int) (M f k l : Nat) (h : s.size ≤ k) : qutM s q M f k l = none := by
  cases f with
  | zero => rfl
  | succ f => rw [qutM_succ, if_pos h]
theorem qutM_fuel (s : ByteArray) (q : Int) (M : Nat) : ∀ f g k l, s.size - k ≤ f → s.size - k ≤ g → qutM s q M f k l = qutM s q M g k l := by
  intro f
  induction f with
  | zero => intro g k l h _; rw [qutM_end s q M 0 k l (by omega), qutM_end s q M g k l (by omega)]
  | succ f ih =>
    intro g k l h h'
    by_cases hk : s.size ≤ k
    · rw [qutM_end _ _ _ _ _ _ hk, qutM_end _ _ _ _ _ _ hk]
    · obtain ⟨g, rfl⟩ : ∃ g', g = g' + 1 := ⟨g - 1, by omega⟩
      rw [qutM_succ, qutM_succ]
      cases hu : un s k with
      | none => rfl
      | some p =>
        obtain ⟨c, n⟩ := p
        obtain ⟨m, rfl, hm, _⟩ := un_next2 hu (by omega)
        simp only [Option.bind_some, Int.toNat_natCast]
        rw [ih g m (l + 1) (by omega) (by omega)]
def qtM (s : ByteArray) (q : Int) (M k l : Nat) : Option (List Int × Nat) := qutM s q M (s.size - k) k l
theorem qtM_end (s : ByteArray) (q : Int) (M k l : Nat) (h : s.size ≤ k) : qtM s q M k l = none := qutM_end s q M _ k l h
theorem qtM_step (s : ByteArray) (q : Int) (M k l : Nat) (h : k < s.size) : qtM s q M k l = if atB s k = q then some ([], k) else (un s k).bind fun p => if M ≤ l then none else (qtM s q M p.2.toNat (l + 1)).map fun r => (p.1 :: r.1, r.2) := by
  unfold qtM
  obtain ⟨f, hf⟩ : ∃ f, s.size - k = f + 1 := ⟨s.size - k - 1, by omega⟩
  rw [hf, qutM_succ, if_neg (by omega)]
  cases hu : un s k with
  | none => rfl
  | some p =>
    obtain ⟨c, n⟩ := p
    obtain ⟨m, rfl, hm, _⟩ := un_next2 hu (by omega)
    simp only [Option.bind_some, Int.toNat_natCast]
    rw [qutM_fuel s q M f (s.size - m) m (l + 1) (by omega) (by omega)]
theorem qtM_256 (s : ByteArray) (q : Int) (k l : Nat) : qtM s q 256 k l = qutAt s q k l := qutM_256 s q _ k l

/-- a Letter has one byte: at most one is asked for, and at least one -/
theorem letter_one (s : ByteArray) (i : Nat) (h : atB s i = 39) : quotedAt s i = (qtM s 39 1 (i + 1) 0).bind fun r => if r.1.length = 0 then none else some (r.1, r.2 + 1) := by
  unfold quotedAt
  rw [h, ← qtM_256]
  have key : ∀ k, (qtM s 39 256 k 0).bind (fun r => if (39 : Int) = 39 ∧ r.1.length ≠ 1 then none else some (r.1, r.2 + 1)) = (qtM s 39 1 k 0).bind fun r => if r.1.length = 0 then none else some (r.1, r.2 + 1) := by
    intro k
    by_cases hk : s.size ≤ k
    · rw [qtM_end _ _ _ _ _ hk, qtM_end _ _ _ _ _ hk]; rfl
    rw [qtM_step s 39 256 k 0 (by omega), qtM_step s 39 1 k 0 (by omega)]
    by_cases hq : atB s k = 39
    · rw [if_pos hq, if_pos hq]; rfl
    rw [if_neg hq, if_neg hq]
    cases hu : un s k with
    | none => rfl
    | some p =>
      obtain ⟨c, n⟩ := p
      obtain ⟨m, rfl, hm, _⟩ := un_next2 hu (by omega)
      simp only [Option.bind_some, Int.toNat_natCast]
      rw [if_neg (by omega), if_neg (by omega)]
      by_cases hm2 : s.size ≤ m
      · rw [qtM_end _ _ _ _ _ hm2, qtM_end _ _ _ _ _ hm2]; rfl
      rw [qtM_step s 39 256 m 1 (by omega), qtM_step s 39 1 m 1 (by omega)]
      by_cases hq2 : atB s m = 39
      · rw [if_pos hq2, if_pos hq2]; rfl
      rw [if_neg hq2, if_neg hq2]
      cases hu2 : un s m with
      | none => rfl
      | some p2 =>
        obtain ⟨c2, n2⟩ := p2
        obtain ⟨m2, rfl, hm2, _⟩ := un_next2 hu2 (by omega)
        simp only [Option.bind_some, Int.toNat_natCast]
        rw [if_neg (by omega), if_pos (by omega)]
        cases qtM s 39 256 m2 2 with
        | none => rfl
        | some r => rfl
  exact key (i + 1)
theorem text_any (s : ByteArray) (i : Nat) (h : atB s i ≠ 39) : quotedAt s i = (qtM s (atB s i) 256 (i + 1) 0).map fun r => (r.1, r.2 + 1) := by
  unfold quotedAt
  rw [← qtM_256]
  cases qtM s (atB s i) 256 (i + 1) 0 with
  | none => rfl
  | some r =>
    simp only [Option.bind_some, Option.map_some]
    rw [if_neg (fun h' => h h'.1)]

/-- behind the bytes xs, at k -/
def QM (s : ByteArray) (i M k : Nat) (xs : List Int) : Prop := qtM s (atB s i) M (i + 1) 0 = (qtM s (atB s i) M k xs.length).map fun r => (xs ++ r.1, r.2)
theorem QM.start (s : ByteArray) (i M : Nat) : QM s i M (i + 1) [] := by
  unfold QM
  show qtM s (atB s i) M (i + 1) 0 = (qtM s (atB s i) M (i + 1) 0).map fun r => ([] ++ r.1, r.2)
  cases qtM s (atB s i) M (i + 1) 0 <;> simp
theorem QM.next {s : ByteArray} {i M k m : Nat} {xs : List Int} {c : Int} (h : QM s i M k xs) (hk : k < s.size) (hq : atB s k ≠ atB s i) (hu : un s k = some (c, (m : Int))) (hl : xs.length < M) : QM s i M m (xs ++ [c]) := by
  unfold QM at h ⊢
  rw [h, qtM_step s _ M k _ hk, if_neg hq, hu]
  simp only [Option.bind_some, Int.toNat_natCast]
  rw [if_neg (by omega), List.length_append]
  show Option.map _ (Option.map _ (qtM s (atB s i) M m (xs.length + 1))) = Option.map _ (qtM s (atB s i) M m (xs.length + 1))
  cases qtM s (atB s i) M m (xs.length + 1) <;> simp
theorem QM.fail {s : ByteArray} {i M k : Nat} {xs : List Int} (h : QM s i M k xs) (hn : qtM s (atB s i) M k xs.length = none) : qtM s (atB s i) M (i + 1) 0 = none := by
  unfold QM at h
  rw [h, hn]; rfl
theorem QM.fin {s : ByteArray} {i M k : Nat} {xs : List Int} (h : QM s i M k xs) (hk : k < s.size) (hq : atB s k = atB s i) : qtM s (atB s i) M (i + 1) 0 = some (xs, k) := by
  unfold QM at h
  rw [h, qtM_step s _ M k _ hk, if_pos hq]
  simp
def uqM (o : Option (List Int × Nat)) : Value := match o with
  | .some r => .tuple #[.string (strOfNums r.1), .int .i64 (r.2 + 1 : Nat), .bool true]
  | .none => .tuple #[.string ⟨#[]⟩, .int .i64 0, .bool false]
theorem ret_uq {a b : Option (List Int × Nat)} (h : a = b) : Ending.returned (uqM b) = .returned (uqM a) := by rw [h]

/-- the numbers of bytes -/
abbrev numsL (l : List UInt8) : List Int := l.map fun b => (b.toNat : Int)
theorem str_nums (l : List UInt8) : strOfNums (numsL l) = ⟨l.toArray⟩ := by
  unfold strOfNums
  rw [List.map_map]
  congr 2
  conv => rhs; rw [← List.map_id l]
  refine List.map_congr_left fun x _ => ?_
  simp
theorem byte_cell {c : Int} (h0 : 0 ≤ c) (h1 : c ≤ 255) : ∃ b : UInt8, c = (b.toNat : Int) := ⟨c.toNat.toUInt8, by
  have : c.toNat.toUInt8.toNat = c.toNat % 256 := by simp
  rw [this]; omega⟩
theorem Bld.below {B b : Nat} {bs : List Value} {w w' : World} (h : Bld B b bs w) (hb : Below w.heap.size w w') : Bld B b bs w' := by
  have key : ∀ p, Lib.BuilderAt 57 5 B b p bs w → Lib.BuilderAt 57 5 B b p bs w' := by
    rintro p ⟨h1, v, h2, h3, h4⟩
    refine ⟨h1, v, (hb.block b (lt_heap h2)).trans h2, ?_, h4⟩
    exact h3.kept (row := none) (below_grownBy hb none) (by cases hv : v.ownBlock with | none => exact .inl rfl | some k => exact .inr (by simp))
  rcases h with h | h
  · exact .inl (key _ h)
  · exact .inr (key _ h)

theorem len_any (B b : Nat) (l : List UInt8) (w : World) (h : Bld B b (Lib.byteCells l) w) :
    Calls Tryd.prog 75 #[.pointer (some ⟨b, 0, none⟩)] w fun e w' => e = .returned (.int .i64 l.length) ∧ w = w' :=
  (Tryd.Builder_Len B b _ w h).mono fun e w' ⟨h1, h2⟩ => ⟨by rw [h1]; simp [Lib.byteCells], h2.symm⟩
theorem ret_uq3 {a : Option (List Int × Nat)} {l : List UInt8} {k : Nat} (h : a = some (numsL l, k)) : Ending.returned (.tuple #[.string ⟨l.toArray⟩, .int .i64 ((k : Int) + 1), .bool true]) = .returned (uqM a) := by
  rw [h]
  unfold uqM
  simp only [str_nums]
  rfl
theorem ret_uq0 {a : Option (List Int × Nat)} (h : a = none) : Ending.returned (.tuple #[.string ⟨#[]⟩, .int .i64 0, .bool false]) = .returned (uqM a) := by rw [h]; rfl

set_option maxHeartbeats 8000000 in
set_option maxRecDepth 100000 in
theorem punq_any (s : ByteArray) (hs : s.size ≤ 1000000) (i : Nat) (hi : i < s.size) (M : Nat) (hM : M ≤ 256) (w : World) :
    Calls Tryd.prog 66 #[.string s, .int .i64 i, .int .i64 M] w fun e w' => e = .returned (uqM (qtM s (atB s i) M (i + 1) 0)) ∧ Below w.heap.size w w' := by
  have ei := atB_eq s i hi
  have EI := Lib.hid ei
  clear ei
  go_enter Tryd.func66, Tryd.ntmps66
  go_wp2
  go_loopw [1, 11, 12, 13] (fun iv _ _ _ wr => ∃ (k : Nat) (l : List UInt8), k ≤ s.size ∧ l.length ≤ M ∧ iv = .int .i64 k ∧ Bld w.heap.size w.heap.size (Lib.byteCells l) wr ∧ Below w.heap.size w wr ∧ Hid (QM s i M k (numsL l))) (fun iv _ _ _ _ => s.size - (intOf iv).toNat)
  case atStart =>
    refine ⟨i + 1, [], by omega, by simp, by go_num, .inl ⟨Nat.le_refl _, .slice none 0 0, ?_, World.ownsRow_nil _ _ _ _, by simp [Value.ownBlock]⟩, (Below.refl _ _).alloc (Nat.le_refl _) _, Lib.hid (QM.start s i M)⟩
    exact heap_alloc_new w _
  case round =>
    obtain ⟨k, l, hk, hl, rfl, hB, hbw, H⟩ := hrel
    by_cases hlt : k < s.size
    · have ek := atB_eq s k hlt
      by_cases hq : atB s k = atB s i
      · have q : ((s[k].toNat : Int) != s[i].toNat) = false := by rw [bne_eq_false_iff_eq, ← ek, ← EI.out]; exact hq
        have HN := Lib.hid (H.out.fin hlt hq)
        have e1 : ((k : Int) == s.size) = false := by rw [beq_eq_false_iff_ne]; omega
        clear hq ek
        go_wp2_with fail
        refine (Tryd.Builder_String_any w.heap.size w.heap.size l wr hB hbw.size).mono ?_
        rintro e w' ⟨rfl, hb⟩
        go_wp2
        go_ret3
        exact ⟨ret_uq3 HN.out, hbw.trans hb⟩
      · have q : ((s[k].toNat : Int) != s[i].toNat) = true := by rw [bne_iff_ne, ← ek, ← EI.out]; exact hq
        have HQ := Lib.hid hq
        have hst := qtM_step s (atB s i) M k (numsL l).length hlt
        rw [if_neg hq] at hst
        clear hq ek
        go_wp2_with fail
        refine (unescape_in s hs k hlt _).mono ?_
        cases hu : un s k with
        | none =>
          rw [hu] at hst
          have HN := Lib.hid (H.out.fail hst)
          clear hst
          rintro e w1 ⟨rfl, hb1⟩
          unfold unV
          go_wp2
          go_ret3
          exact ⟨ret_uq0 HN.out, hbw.trans (hb1.mono hbw.size)⟩
        | some r =>
          obtain ⟨c, n⟩ := r
          obtain ⟨m, rfl, hm, hm2, hc0, hc1⟩ := un_next2 hu hlt
          obtain ⟨x, rfl⟩ := byte_cell hc0 hc1
          rw [hu] at hst
          simp only [Option.bind_some, Int.toNat_natCast, List.length_map] at hst
          rintro e w1 ⟨rfl, hb1⟩
          unfold unV
          have hB1 := hB.below hb1
          have hw1 := hbw.trans (hb1.mono hbw.size)
          by_cases hlM : l.length = M
          · rw [if_pos (by omega)] at hst
            have HN := Lib.hid (H.out.fail (by rw [List.length_map]; exact hst))
            have e2 : ((l.length : Int) == M) = true := by rw [beq_iff_eq]; omega
            clear hst
            go_wp2_with fail
            refine (len_any _ _ l _ hB1).mono ?_
            rintro e w2 ⟨rfl, rfl⟩
            go_wp2
            go_ret3
            exact ⟨ret_uq0 HN.out, hw1⟩
          · have HX := Lib.hid (H.out.next hlt HQ.out hu (by rw [List.length_map]; omega))
            have e2 : ((l.length : Int) == M) = false := by rw [beq_eq_false_iff_ne]; omega
            clear hst
            go_wp2_with fail
            refine (len_any _ _ l _ hB1).mono ?_
            rintro e w2 ⟨rfl, rfl⟩
            go_wp2_with fail
            refine (wbyte_any w.heap.size w.heap.size _ x.toNat _ hB1 (by simp [Lib.byteCells]; omega) hw1.size).mono ?_
            rintro e w3 ⟨rfl, hB3, hb3⟩
            go_wp2
            go_roundw
            case rel => exact ⟨m, l ++ [x], hm2, by simp; omega, rfl, .inr (by simpa [Lib.byteCells] using hB3), hw1.trans hb3, Lib.hid (by simpa using HX.out)⟩
            case measure => simp [intOf]; omega
    · have HN := Lib.hid (H.out.fail (qtM_end s _ M k _ (by omega)))
      have e1 : ((k : Int) == s.size) = true := by rw [beq_iff_eq]; omega
      go_wp2
      go_ret3
      exact ⟨ret_uq0 HN.out, hbw⟩
end Go.Proofs.YtifmbhcajlnhbaaDoor
