/-
  Layer 2: the document's Quote (layer 1's text, for seats that have no Unquote).
-/
import Derived.Test.YtifmbhcajlnhbaaDoorRUnAll
import Derived.Test.YtifmbhcajlnhbaaDoorEsc
import Derived.Lib.AppendStr
namespace Go.Proofs.YtifmbhcajlnhbaaDoor
set_option linter.unusedVariables false
open Go.ChangeShapes Go.WideShapes Go.ChangeAt Go.RowKit

/-- 'append(b, text...)' -/
theorem buf_append_text {ops : Array Oper} {rest : List Oper} {o : Oper} {a : Act} {Q : Exit → Act → World → Prop} (w : World) (hgd : o.guard = none) (sl x : Operand)
    (ho : o.op = .call { callee := .builtin .append, args := #[sl, x], argTypes := #[23, 9] })
    (B : Nat) (v : Value) (xs ns : List Int) (hs : a.eval sl = v) (hb : Buf B w v xs) (hn : ∀ n ∈ ns, 0 ≤ n ∧ n ≤ 255) (hx : a.eval x = .string (strOfNums ns)) (hl : xs.length + ns.length ≤ 140737488355328)
    (h : ∀ v' w', Buf B w' v' (xs ++ ns) → w.grownBy w' v.ownBlock → wpList Tryd.prog ops Q rest (a.put o.dst v') w') : wpList Tryd.prog ops Q (o :: rest) a w := by
  obtain ⟨i0, hi, hz0, hz1, hz2⟩ := info_parts info_u8
  have hcells : Lib.strCells (strOfNums ns) = ns.map (Value.int .u8) := by
    unfold Lib.strCells
    rw [strOfNums_data, List.map_map]
    refine List.map_congr_left fun n hn' => ?_
    obtain ⟨a1, a2⟩ := hn n hn'
    show Value.int .u8 (((UInt8.ofNat n.toNat).toNat : Nat) : Int) = Value.int .u8 n
    have : (UInt8.ofNat n.toNat).toNat = n.toNat := by rw [UInt8.toNat_ofNat']; omega
    rw [this, show ((n.toNat : Nat) : Int) = n from by omega]
  refine Lib.wpList_append_own_string w hgd sl x 23 9 ho B 5 i0 Tryd.underlying23 Tryd.underlying9 hi hz0 hz1 hz2 v xs.length (xs.map (Value.int .u8)) hs hb.1 (strOfNums ns) hx (by rw [strOfNums_size]; unfold maxLen; omega) (by rw [strOfNums_size]; omega) hb.2 ?_
  intro v' w' h1 h2 _
  refine h v' w' ⟨?_, Nat.le_trans hb.2 h2.size⟩ h2
  rw [hcells, strOfNums_size] at h1
  simpa using h1
theorem esc_bytes (c q : Int) (h0 : 0 ≤ c) (h1 : c ≤ 255) : ∀ n ∈ esc c q, 0 ≤ n ∧ n ≤ 255 := by
  have hx : ∀ n, 0 ≤ n → n ≤ 15 → 0 ≤ hexd n ∧ hexd n ≤ 255 := by
    intro n a b
    unfold hexd
    by_cases h : n < 10
    · rw [if_pos h]; omega
    · rw [if_neg h]; omega
  have x1 := hx (c / 16) (by omega) (by omega)
  have x2 := hx (c % 16) (by omega) (by omega)
  intro n hn
  unfold esc at hn
  by_cases q1 : c = 10
  · rw [if_pos q1] at hn; simp at hn; omega
  by_cases q2 : c = 9
  · rw [if_neg q1, if_pos q2] at hn; simp at hn; omega
  by_cases q3 : c = 92 ∨ c = quo q
  · rw [if_neg q1, if_neg q2, if_pos q3] at hn; simp at hn; omega
  by_cases q4 : c < 32 ∨ 126 < c
  · rw [if_neg q1, if_neg q2, if_neg q3, if_pos q4] at hn
    simp only [List.mem_cons, List.not_mem_nil, or_false] at hn
    rcases hn with h | h | h | h <;> omega
  · rw [if_neg q1, if_neg q2, if_neg q3, if_neg q4] at hn; simp at hn; omega

set_option maxHeartbeats 4000000 in
theorem rquote_any (s : ByteArray) (hs : s.size ≤ 1000000) (w : World) :
    Calls Tryd.prog 25 #[.string s] w fun e w' => e = .returned (.string (strOfNums (quoAll s.data.toList))) ∧ Below w.heap.size w w' := by
  go_enter Tryd.func25, Tryd.ntmps25
  go_wp2
  go_loopw [3, 4] (fun b i wr => ∃ k : Nat, k ≤ s.size ∧ i = .int .i64 k ∧ Buf w.heap.size wr b (34 :: escAll (s.data.toList.take k)) ∧ Below w.heap.size w wr) (fun _ i _ => s.size - (intOf i).toNat)
  case atStart =>
    have h0 : Buf w.heap.size (w.alloc (.cells #[.int .u8 34] 5)) (.slice (some ⟨w.heap.size, 0, none⟩) 1 1) [34] := Buf.fresh (w := w) [34] (Nat.le_refl _) (by simp [maxLen])
    exact ⟨0, Nat.zero_le _, rfl, h0, (Below.refl _ _).alloc (Nat.le_refl _) _⟩
  case round =>
    obtain ⟨k, hk, rfl, hbuf, hbel⟩ := hrel
    have hl := escAll_len (s.data.toList.take k)
    have hl2 : (s.data.toList.take k).length ≤ k := List.length_take_le _ _
    have hl3 : (34 :: escAll (s.data.toList.take k)).length ≤ 4 * k + 1 := by simp; omega
    clear hl hl2
    by_cases hlt : k < s.size
    · have hlt8 := s[k].toNat_lt
      have hby := Lib.hid (esc_bytes s[k].toNat 34 (by omega) (by omega))
      have hel := esc_len s[k].toNat 34
      have hts := Lib.hid (take_snoc s k hlt)
      go_wp2_with fail
      refine (resc_any s[k].toNat 34 (by omega) (by omega) (by decide) (by decide) _).mono ?_
      rintro e w1 ⟨rfl, hb1⟩
      have hbuf1 := hbuf.below hb1
      go_wp2_with (at_builtin; refine buf_append_text _ rfl _ _ rfl w.heap.size _ _ _ rfl hbuf1 hby.out rfl (by omega) ?_; intro v' w3 hb3 hg3)
      go_roundw
      case rel => exact ⟨k + 1, by omega, by go_num, by rw [hts.out, escAll_snoc]; exact hb3, (hbel.trans (hb1.mono hbel.size)).grown hg3 (Nat.le_trans hbel.size hb1.size) (own_ge hbuf1)⟩
      case measure => simp [intOf]; omega
    · go_wp2_with (at_builtin; refine buf_append1 _ _ rfl _ _ rfl w.heap.size _ _ rfl hbuf rfl (by omega) ?_; intro v' w2 hb2 hg2; have hc2 := hb2.text)
      go_ret
      refine ⟨ret_text ?_, hbel.grown hg2 hbel.size (own_ge hbuf)⟩
      rw [List.take_of_length_le (by simp; omega)]
      simp [quoAll]
end Go.Proofs.YtifmbhcajlnhbaaDoor
