/-
  Line as the program has it; Offset and Line as the document has them.
-/
import Derived.Test.YtdccedmfelpanaaSpan
namespace Go.Proofs.Ytdccedmfelpanaa
open Go.ChangeShapes Go.WideShapes Go.ChangeAt Go.RowKit

/-- what Line tells -/
def LineSaid (s : ByteArray) (line : Int) (e : Ending) : Prop :=
  (∃ f t : Nat, e = .returned (.tuple #[.string (s.extract f t), .bool true]) ∧ Pl.IsLine s.data.toList line f t) ∨
  (e = .returned (.tuple #[.string ⟨#[]⟩, .bool false]) ∧ ∀ i, i ≤ s.size → ((Pl.plc (s.data.toList.take i)).1 : Int) ≠ line)

theorem clone_any (s : ByteArray) (hs : s.size ≤ 281474976710656) (w : World) : Calls Try.prog 31 #[.string s] w fun e w' => e = .returned (.string s) ∧ Below w.heap.size w w' := by
  go_enter Try.func31, Try.ntmps31
  go_wp2_with (go_at_call 41; refine (Try.stringslite_Clone _ _ hs).mono ?_; rintro e w1 ⟨rfl, hb1⟩)
  go_ret
  exact ⟨rfl, by assumption⟩

set_option maxHeartbeats 2000000 in
theorem line_any (s : ByteArray) (hs : s.size ≤ 1000000) (line : Int) (h2 : line ≤ 9223372036854775807) (w : World) :
    Calls Try.prog 17 #[.string s, .int .i64 line] w fun e w' => LineSaid s line e ∧ Below w.heap.size w w' := by
  have hl := len_toList s
  go_enter Try.func17, Try.ntmps17
  go_wp2_with fail
  refine (span_all s hs line h2 _).mono ?_
  rintro e w' ⟨(⟨f, t, rfl, hf⟩ | ⟨rfl, hn⟩), rfl⟩
  · have Hf := Lib.hid hf
    obtain ⟨b1, b2, _⟩ := hf
    rw [hl] at b2
    clear hl
    go_wp2_with fail
    refine (clone_any _ (by simp; omega) _).mono ?_
    rintro e w1 ⟨rfl, hb1⟩
    go_wp2
    go_ret2
    exact ⟨.inl ⟨f, t, rfl, Hf.out⟩, hb1⟩
  · have Hn := Lib.hid hn
    clear hn
    go_wp2
    go_ret2
    exact ⟨.inr ⟨rfl, Hn.out⟩, Below.refl _ _⟩

/-- the document's walk: behind k places none was the one -/
def OffRel (s : ByteArray) (line col : Int) (k : Nat) (a b : Int) : Prop :=
  (k ≤ s.size → a = (Pl.plc (s.data.toList.take k)).1 ∧ b = (Pl.plc (s.data.toList.take k)).2) ∧
  ∀ j, j < k → ¬ (((Pl.plc (s.data.toList.take j)).1 : Int) = line ∧ ((Pl.plc (s.data.toList.take j)).2 : Int) = col)
theorem OffRel.next {s : ByteArray} {line col : Int} {k : Nat} {a b : Int} (h : OffRel s line col k a b) (hk : k ≤ s.size) (hne : ¬ (a = line ∧ b = col)) (a' b' : Int)
    (hn : k < s.size → a' = (Pl.plc (s.data.toList.take (k + 1))).1 ∧ b' = (Pl.plc (s.data.toList.take (k + 1))).2) : OffRel s line col (k + 1) a' b' := by
  refine ⟨fun hk1 => hn (by omega), fun j hj => ?_⟩
  by_cases hjk : j = k
  · subst hjk
    obtain ⟨e1, e2⟩ := h.1 hk
    rw [← e1, ← e2]
    exact hne
  · exact h.2 j (by omega)

set_option maxHeartbeats 4000000 in
theorem roffset_any (s : ByteArray) (hs : s.size ≤ 1000000) (line col : Int) (w : World) :
    Calls Try.prog 16 #[.string s, .int .i64 line, .int .i64 col] w fun e w' => e = .returned (offV (Pl.offL s.data.toList line col)) ∧ w = w' := by
  have hl := len_toList s
  go_enter Try.func16, Try.ntmps16
  go_wp2
  clear hl
  go_loop [8, 9, 10] (fun l c i => ∃ (k : Nat) (a b : Int), k ≤ s.size + 1 ∧ i = .int .i64 k ∧ l = .int .i64 a ∧ c = .int .i64 b ∧ Hid (OffRel s line col k a b)) (fun _ _ i => s.size + 1 - (intOf i).toNat)
  case atStart => exact ⟨0, 1, 1, by omega, rfl, rfl, rfl, Lib.hid ⟨fun _ => by simp [Pl.plc_nil], fun j hj => by omega⟩⟩
  case round =>
    obtain ⟨k, a, b, hk, rfl, rfl, rfl, H⟩ := hrel
    have hl := len_toList s
    by_cases hlt : k ≤ s.size
    · have hb := Pl.plc_bounds s.data.toList k (by omega)
      obtain ⟨e1, e2⟩ := H.out.1 hlt
      have a1 : 1 ≤ a := by omega
      have a2 : a ≤ 1000001 := by omega
      have b1 : 1 ≤ b := by omega
      have b2 : b ≤ 1000001 := by omega
      have E1 := Lib.hid e1
      have E2 := Lib.hid e2
      clear hb e1 e2 hl
      by_cases hq : a = line ∧ b = col
      · obtain ⟨q1, q2⟩ := hq
        have q3 : (a == line) = true := by simpa using q1
        have q4 : (b == col) = true := by simpa using q2
        have HQ := Lib.hid q1
        have HQ2 := Lib.hid q2
        clear q1 q2
        go_wp2
        go_ret2
        have e := Pl.offL_some s.data.toList line col k (by rw [len_toList]; exact hlt) ⟨E1.out.symm.trans HQ.out, E2.out.symm.trans HQ2.out⟩ H.out.2
        rw [e]
        exact ⟨rfl, rfl⟩
      · have HQ := Lib.hid hq
        by_cases hk2 : k < s.size
        · go_wp2
          all_goals
            go_round
            case rel =>
              refine ⟨k + 1, _, _, by omega, by go_num, rfl, rfl, Lib.hid (H.out.next hlt HQ.out _ _ fun _ => ?_)⟩
              have e1 := E1.out
              have e2 := E2.out
              first
                | (rw [plc_hit s k hk2 (by assumption)]; exact ⟨by simp; omega, by simp⟩)
                | (rw [plc_miss s k hk2 (by assumption)]; exact ⟨by simp; omega, by simp; omega⟩)
            case measure => simp [intOf]; omega
        · go_wp2
          all_goals
            go_round
            case rel => exact ⟨k + 1, _, _, by omega, by go_num, rfl, rfl, Lib.hid (H.out.next hlt HQ.out _ _ fun h => absurd h hk2)⟩
            case measure => simp [intOf]; omega
    · have hkk : k = s.size + 1 := by omega
      have e := Pl.offL_none s.data.toList line col (fun j hj => H.out.2 j (by omega))
      have E := Lib.hid e
      have hgt : ¬ (k : Int) ≤ s.size := by omega
      clear e hl hkk
      go_wp2
      go_ret2
      rw [E.out]
      exact ⟨rfl, rfl⟩

theorem offL_spec {l : List UInt8} {line col : Int} {i : Nat} (h : Pl.offL l line col = some i) : i ≤ l.length ∧ ((Pl.plc (l.take i)).1 : Int) = line ∧ ((Pl.plc (l.take i)).2 : Int) = col := by
  unfold Pl.offL at h
  rw [List.find?_range_eq_some] at h
  obtain ⟨h1, h2, _⟩ := h
  rw [List.mem_range] at h2
  have := of_decide_eq_true h1
  exact ⟨by omega, this⟩
theorem offL_no {l : List UInt8} {line col : Int} (h : Pl.offL l line col = none) : ∀ i, i ≤ l.length → ¬ (((Pl.plc (l.take i)).1 : Int) = line ∧ ((Pl.plc (l.take i)).2 : Int) = col) := by
  unfold Pl.offL at h
  rw [List.find?_eq_none] at h
  intro i hi
  have := h i (by rw [List.mem_range]; omega)
  simpa using this
theorem plc_start (l : List UInt8) : ∀ i, i ≤ l.length → ∃ f, f ≤ i ∧ (Pl.plc (l.take f)).1 = (Pl.plc (l.take i)).1 ∧ (Pl.plc (l.take f)).2 = 1 := by
  intro i
  induction i with
  | zero => intro _; exact ⟨0, Nat.le_refl _, rfl, by simp [Pl.plc_nil]⟩
  | succ i ih =>
    intro hi
    obtain ⟨f, hf, h1, h2⟩ := ih (by omega)
    have hs := Pl.plc_succ l i (by omega)
    unfold Pl.stp at hs
    by_cases h : l[i]'(by omega) = 10
    · rw [if_pos h] at hs
      exact ⟨i + 1, Nat.le_refl _, rfl, by rw [hs]⟩
    · rw [if_neg h] at hs
      exact ⟨f, by omega, by rw [hs]; exact h1, h2⟩
theorem offL_line_no {l : List UInt8} {line : Int} (h : Pl.offL l line 1 = none) : ∀ i, i ≤ l.length → ((Pl.plc (l.take i)).1 : Int) ≠ line := by
  intro i hi e
  obtain ⟨f, hf, h1, h2⟩ := plc_start l i hi
  exact offL_no h f (by omega) ⟨by omega, by omega⟩

/-- the document's scan: no feed from f to k -/
def Scan (s : ByteArray) (f k : Nat) : Prop := f ≤ k ∧ k ≤ s.size ∧ ∀ j, f ≤ j → j < k → s.data.toList[j]? ≠ some 10
theorem Scan.next {s : ByteArray} {f k : Nat} (h : Scan s f k) (hk : k < s.size) (hc : ((s[k].toNat : Int) != 10) = true) : Scan s f (k + 1) := by
  refine ⟨by have := h.1; omega, by omega, fun j h1 h2 => ?_⟩
  by_cases hjk : j = k
  · subst hjk
    rw [List.getElem?_eq_getElem (by rw [len_toList]; exact hk)]
    intro e
    have e2 : s[j] = 10 := Option.some.inj e
    rw [e2] at hc
    exact absurd hc (by decide)
  · exact h.2.2 j h1 (by omega)
theorem Scan.line {s : ByteArray} {line : Int} {f k : Nat} (h : Scan s f k) (hh : Head s line f) (he : k = s.size ∨ ∃ hk : k < s.size, ((s[k].toNat : Int) != 10) = false) : Pl.IsLine s.data.toList line f k := by
  refine ⟨h.1, by rw [len_toList]; exact h.2.1, hh.2.1, hh.2.2, h.2.2, ?_⟩
  rcases he with e | ⟨hk, e⟩
  · exact .inl (by rw [len_toList]; exact e)
  · refine .inr ?_
    rw [List.getElem?_eq_getElem (by rw [len_toList]; exact hk)]
    rw [bne_eq_false_iff_eq] at e
    have h2 : s[k].toNat = 10 := by omega
    exact congrArg some (UInt8.toNat_inj.1 h2)

set_option maxHeartbeats 2000000 in
theorem rline_any (s : ByteArray) (hs : s.size ≤ 1000000) (line : Int) (w : World) :
    Calls Try.prog 18 #[.string s, .int .i64 line] w fun e w' => LineSaid s line e ∧ w = w' := by
  cases ho : Pl.offL s.data.toList line 1 with
  | none =>
    have Hn := Lib.hid (offL_line_no ho)
    have Ho := Lib.hid ho
    clear ho
    go_enter Try.func18, Try.ntmps18
    go_wp2_with fail
    refine (roffset_any s hs line 1 _).mono ?_
    rw [Ho.out]
    rintro e w' ⟨rfl, rfl⟩
    unfold offV
    go_wp2
    go_ret2
    exact ⟨.inr ⟨rfl, fun i hi => Hn.out i (by rw [len_toList]; exact hi)⟩, rfl⟩
  | some f =>
    have hsp := offL_spec ho
    rw [len_toList] at hsp
    have Hh : Hid (Head s line f) := Lib.hid ⟨hsp.1, hsp.2.1, by omega⟩
    have hf := hsp.1
    have Ho := Lib.hid ho
    clear ho hsp
    go_enter Try.func18, Try.ntmps18
    go_wp2_with fail
    refine (roffset_any s hs line 1 _).mono ?_
    rw [Ho.out]
    rintro e w' ⟨rfl, rfl⟩
    unfold offV
    go_wp2
    go_loop [8] (fun t => ∃ k : Nat, f ≤ k ∧ k ≤ s.size ∧ t = .int .i64 k ∧ Hid (Scan s f k)) (fun t => s.size - (intOf t).toNat)
    case atStart => exact ⟨f, Nat.le_refl _, hf, rfl, Lib.hid ⟨Nat.le_refl _, hf, fun j h1 h2 => by omega⟩⟩
    case round =>
      obtain ⟨k, k1, k2, rfl, H⟩ := hrel
      by_cases hlt : k < s.size
      · go_wp2
        · have e : ((s[k].toNat : Int) != 10) = true := by assumption
          go_round
          case rel => exact ⟨k + 1, by omega, by omega, by go_num, Lib.hid (H.out.next hlt e)⟩
          case measure => simp [intOf]; omega
        · have e : ((s[k].toNat : Int) != 10) = false := by assumption
          go_ret2
          exact ⟨.inl ⟨f, k, rfl, H.out.line Hh.out (.inr ⟨hlt, e⟩)⟩, rfl⟩
      · go_wp2
        go_ret2
        exact ⟨.inl ⟨f, k, rfl, H.out.line Hh.out (.inl (by omega))⟩, rfl⟩
end Go.Proofs.Ytdccedmfelpanaa
