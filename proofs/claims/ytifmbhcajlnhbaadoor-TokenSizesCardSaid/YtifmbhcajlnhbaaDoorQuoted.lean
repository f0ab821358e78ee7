/-
  Layer 2: the document's quoted: a Letter or a Text, in plain words and walked.
-/
import Derived.Test.YtifmbhcajlnhbaaDoorTok0
import Derived.Test.YtifmbhcajlnhbaaDoorUq
import Derived.Test.YtifmbhcajlnhbaaDoorRUnAll
namespace Go.Proofs.YtifmbhcajlnhbaaDoor
set_option linter.unusedVariables false
open Go.ChangeShapes Go.WideShapes Go.ChangeAt Go.RowKit

def qdV (o : Option (List Int × Nat)) : Value := match o with
  | .some r => .tuple #[.string (strOfNums r.1), .int .i64 r.2, .bool true]
  | .none => .tuple #[.string ⟨#[]⟩, .int .i64 0, .bool false]

/-- behind the bytes xs, at k -/
def QutRel (s : ByteArray) (i k : Nat) (xs : List Int) : Prop := qutAt s (atB s i) (i + 1) 0 = (qutAt s (atB s i) k xs.length).map fun r => (xs ++ r.1, r.2)
theorem QutRel.start (s : ByteArray) (i : Nat) : QutRel s i (i + 1) [] := by
  unfold QutRel
  show qutAt s (atB s i) (i + 1) 0 = (qutAt s (atB s i) (i + 1) 0).map fun r => ([] ++ r.1, r.2)
  cases qutAt s (atB s i) (i + 1) 0 <;> simp
theorem QutRel.next {s : ByteArray} {i k m : Nat} {xs : List Int} {c : Int} (h : QutRel s i k xs) (hk : k < s.size) (hq : atB s k ≠ atB s i) (hu : un s k = some (c, (m : Int))) (hl : ¬ 256 ≤ xs.length) : QutRel s i m (xs ++ [c]) := by
  unfold QutRel at h ⊢
  rw [h, qutAt_step s _ k _ hk, if_neg hq, hu]
  simp only [Option.bind_some, Int.toNat_natCast, if_neg hl, List.length_append, List.length_singleton]
  cases qutAt s (atB s i) m (xs.length + 1) <;> simp
theorem QutRel.fail {s : ByteArray} {i k : Nat} {xs : List Int} (h : QutRel s i k xs) (hn : qutAt s (atB s i) k xs.length = none) : quotedAt s i = none := by
  unfold quotedAt
  rw [h, hn]; rfl
theorem QutRel.fin {s : ByteArray} {i k : Nat} {xs : List Int} (h : QutRel s i k xs) (hk : k < s.size) (hq : atB s k = atB s i) : quotedAt s i = if atB s i = 39 ∧ xs.length ≠ 1 then none else some (xs, k + 1) := by
  unfold quotedAt
  rw [h, qutAt_step s _ k _ hk, if_pos hq]
  simp

theorem Buf.form {B : Nat} {w : World} {v : Value} {xs : List Int} (h : Buf B w v xs) : ∃ a cap, v = .slice a xs.length cap := by
  rcases h.1.2 with ⟨rfl, h0⟩ | ⟨g, cap, cur, rfl, _⟩
  · exact ⟨none, 0, by rw [h0]⟩
  · exact ⟨_, _, rfl⟩

set_option maxHeartbeats 8000000 in
set_option maxRecDepth 100000 in
theorem quoted_any (s : ByteArray) (hs : s.size ≤ 1000000) (i : Nat) (hi : i < s.size) (w : World) :
    Calls Tryd.prog 39 #[.string s, .int .i64 i] w fun e w' => e = .returned (qdV (quotedAt s i)) ∧ Below w.heap.size w w' := by
  have ei := Lib.hid (atB_eq s i hi)
  have hbi := s[i].toNat_lt
  go_enter Tryd.func39, Tryd.ntmps39
  go_wp2
  go_loopw [8, 9] (fun kv bv wr => ∃ (k : Nat) (xs : List Int), i + 1 ≤ k ∧ k ≤ s.size ∧ kv = .int .i64 k ∧ xs.length ≤ 256 ∧ Buf w.heap.size wr bv xs ∧ Hid (QutRel s i k xs) ∧ Below w.heap.size w wr) (fun kv _ _ => s.size - (intOf kv).toNat)
  case atStart => exact ⟨i + 1, [], Nat.le_refl _, by omega, by go_num, by simp, Buf.nil _, Lib.hid (QutRel.start s i), Below.refl _ _⟩
  case round =>
    obtain ⟨k, xs, k1, hk, rfl, hxl, hbuf, HQ, hbel⟩ := hrel
    obtain ⟨a, cap, rfl⟩ := hbuf.form
    by_cases hlt : k < s.size
    · have ek := atB_eq s k hlt
      by_cases hq : atB s k = atB s i
      · have q : ((s[k].toNat : Int) != (s[i].toNat : Int)) = false := by rw [bne_eq_false_iff_eq, ← ek, ← ei.out]; exact hq
        have hf := HQ.out.fin hlt hq
        have htx := hbuf.text
        clear ek hq
        by_cases h39 : atB s i = 39
        · have x39 : ((s[i].toNat : Int) == 39) = true := by rw [beq_iff_eq, ← ei.out]; exact h39
          by_cases h1 : xs.length = 1
          · rw [if_neg (by omega)] at hf
            have HF := Lib.hid hf
            have x1 : ((xs.length : Int) != 1) = false := by rw [bne_eq_false_iff_eq]; omega
            have H1 := Lib.hid h1
            clear hf h39 h1
            go_wp2
            go_ret3
            rw [HF.out]
            exact ⟨by simp only [qdV]; go_num, hbel⟩
          · rw [if_pos ⟨h39, h1⟩] at hf
            have HF := Lib.hid hf
            have x1 : ((xs.length : Int) != 1) = true := by rw [bne_iff_ne]; omega
            clear hf h39 h1
            go_wp2
            go_ret3
            rw [HF.out]
            exact ⟨rfl, hbel⟩
        · have x39 : ((s[i].toNat : Int) == 39) = false := by rw [beq_eq_false_iff_ne, ← ei.out]; exact h39
          rw [if_neg (fun h => h39 h.1)] at hf
          have HF := Lib.hid hf
          clear hf h39
          go_wp2
          go_ret3
          rw [HF.out]
          exact ⟨by simp only [qdV]; go_num, hbel⟩
      · have q : ((s[k].toNat : Int) != (s[i].toNat : Int)) = true := by rw [bne_iff_ne, ← ek, ← ei.out]; exact hq
        cases hu : un s k with
        | none =>
          have HF := Lib.hid (HQ.out.fail (by rw [qutAt_step s _ k _ hlt, if_neg hq, hu]; rfl))
          have Hu := Lib.hid hu
          clear hu hq ek
          go_wp2_with fail
          refine (runescape_in s hs k hlt _).mono ?_
          rw [Hu.out]
          rintro e w2 ⟨rfl, hb2⟩
          unfold unV
          go_wp2
          go_ret3
          rw [HF.out]
          exact ⟨rfl, hbel.trans (hb2.mono hbel.size)⟩
        | some p =>
          obtain ⟨c, n⟩ := p
          obtain ⟨m, rfl, hm, hm2, hc0, hc1⟩ := un_next hu hlt
          by_cases hl : 256 ≤ xs.length
          · have HF := Lib.hid (HQ.out.fail (by rw [qutAt_step s _ k _ hlt, if_neg hq, hu]; simp [hl]))
            have Hu := Lib.hid hu
            have hl2 : (256 : Int) ≤ (xs.length : Int) := by omega
            clear hu hq ek
            go_wp2_with fail
            refine (runescape_in s hs k hlt _).mono ?_
            rw [Hu.out]
            rintro e w2 ⟨rfl, hb2⟩
            unfold unV
            go_wp2
            go_ret3
            rw [HF.out]
            exact ⟨rfl, hbel.trans (hb2.mono hbel.size)⟩
          · have HN := Lib.hid (HQ.out.next hlt hq hu hl)
            have Hu := Lib.hid hu
            have hl2 : ¬ (256 : Int) ≤ (xs.length : Int) := by omega
            clear hu hq ek
            go_wp2_with fail
            refine (runescape_in s hs k hlt _).mono ?_
            rw [Hu.out]
            rintro e w2 ⟨rfl, hb2⟩
            unfold unV
            have hbuf2 := hbuf.below hb2
            go_wp2_with (at_builtin; refine buf_append1 _ _ rfl _ _ rfl w.heap.size _ xs rfl hbuf2 rfl (by omega) ?_; intro v' w3 hb3 hg3)
            go_roundw
            case rel => exact ⟨m, xs ++ [c], by omega, hm2, rfl, by simp; omega, hb3, HN, (hbel.trans (hb2.mono hbel.size)).grown hg3 (Nat.le_trans hbel.size hb2.size) (own_ge hbuf2)⟩
            case measure => simp [intOf]; omega
    · have HF := Lib.hid (HQ.out.fail (qutAt_end s _ k _ (by omega)))
      go_wp2
      go_ret3
      rw [HF.out]
      exact ⟨rfl, hbel⟩
end Go.Proofs.YtifmbhcajlnhbaaDoor
