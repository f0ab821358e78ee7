/-
  glyph.Quote: a text in quotes.
-/
import Derived.Test.YtifmbhcajlnhbaaDoorPut
namespace Go.Proofs.YtifmbhcajlnhbaaDoor
open Go.ChangeShapes Go.WideShapes Go.ChangeAt Go.RowKit

/-- behind k bytes: the buffer holds their escapes; the text's bytes lie as they were laid -/
def QRel (B bb : Nat) (w wr : World) (s : ByteArray) (b : Value) (k : Nat) : Prop :=
  Buf B wr b (34 :: escAll (s.data.toList.take k)) ∧ (∃ G m, wr.heap[bb]? = some (.cells (bytesRow s G) 5 (m, m + 1))) ∧ Below w.heap.size w wr
theorem QRel.cell {B bb : Nat} {w wr : World} {s : ByteArray} {b : Value} {k : Nat} (h : QRel B bb w wr s b k) (hk : k < s.size) : wr.cell? ⟨bb, k, none⟩ = some (.int .u8 s[k].toNat) := by
  obtain ⟨_, ⟨G, m, hb⟩, _⟩ := h
  rw [cell_of_row wr bb k _ 5 (m, m + 1) hb]
  simp [bytesRow, Array.getElem?_append, hk]
  rfl
theorem block2 (w : World) (o o' : Obj) : ((w.alloc o).alloc o').drew.heap[w.heap.size + 1]? = some o' := by
  have h := heap_alloc_new (w.alloc o) o'
  have e : (w.alloc o).heap.size = w.heap.size + 1 := by simp
  rw [e] at h
  exact h
theorem QRel.step {B bb : Nat} {w wr w1 : World} {s : ByteArray} {b v' : Value} {k : Nat} (h : QRel B bb w wr s b k) (hB : w.heap.size ≤ B) (hk : k < s.size)
    (hb : Buf B w1 v' ((34 :: escAll (s.data.toList.take k)) ++ esc s[k].toNat 34)) (hg : wr.grownBy w1 b.ownBlock) : QRel B bb w w1 s v' (k + 1) := by
  obtain ⟨h1, ⟨G, m, h2⟩, h3⟩ := h
  refine ⟨?_, ⟨G, m, ?_⟩, h3.grown hg h3.size (fun j hj => Nat.le_trans hB (own_ge h1 j hj))⟩
  · rw [take_snoc s k hk, escAll_snoc]; simpa using hb
  · rw [hg.block bb (lt_of_block h2) (own_ne h1 h2)]; exact h2

set_option maxHeartbeats 2000000 in
theorem quote_any (s : ByteArray) (hs : s.size ≤ 1000000) (w : World) :
    Calls Tryd.prog 42 #[.string s] w fun e w' => e = .returned (.string (strOfNums (quoAll s.data.toList))) ∧ Below w.heap.size w w' := by
  have kb := fun (W : World) => run_bytes_of_string (P := Tryd.prog) W 9 23 5 s Tryd.underlying9 Tryd.underlying23 Tryd.underlying5
  go_enter Tryd.func42, Tryd.ntmps42
  go_wp2
  clear kb
  go_loopw [3, 10] (fun b i wr => ∃ k : Nat, k ≤ s.size ∧ i = .int .i64 k ∧ QRel w.heap.size (w.heap.size + 1) w wr s b k) (fun _ i _ => s.size - (intOf i).toNat)
  case atStart =>
    refine ⟨0, Nat.zero_le _, rfl, ?_, ⟨_, _, block2 w _ _⟩, (((Below.refl _ _).alloc (Nat.le_refl _) _).alloc (by simp) _).drew⟩
    have h0 : Buf w.heap.size (w.alloc (.cells #[.int .u8 34] 5)) (.slice (some ⟨w.heap.size, 0, none⟩) 1 1) [34] := Buf.fresh (w := w) [34] (Nat.le_refl _) (by simp [maxLen])
    exact h0.below (((Below.refl _ _).alloc (Nat.le_refl _) _).drew)
  case round =>
    obtain ⟨k, hk, rfl, hq⟩ := hrel
    have hl := escAll_len (s.data.toList.take k)
    have hl2 : (s.data.toList.take k).length ≤ k := List.length_take_le _ _
    have hl3 : (34 :: escAll (s.data.toList.take k)).length ≤ 4 * k + 1 := by simp; omega
    clear hl hl2
    by_cases hlt : k < s.size
    · have hc := hq.cell hlt
      have hlt8 := s[k].toNat_lt
      go_wp2_with fail
      refine (put_any w.heap.size _ (34 :: escAll (s.data.toList.take k)) s[k].toNat 34 (by omega) (by omega) _ hq.1 (by omega)).mono ?_
      rintro e w1 ⟨v', rfl, hb', hg'⟩
      have hq2 := hq.step (Nat.le_refl _) hlt hb' hg'
      clear hc
      go_wp2
      go_roundw
      case rel => exact ⟨k + 1, by omega, by go_num, hq2⟩
      case measure => simp [intOf]; omega
    · go_wp2_with (at_builtin; refine buf_append1 _ _ rfl _ _ rfl w.heap.size _ _ rfl hq.1 rfl (by omega) ?_; intro v' w2 hb2 hg2; have hc2 := hb2.text)
      go_ret
      refine ⟨ret_text ?_, hq.2.2.grown hg2 hq.2.2.size (own_ge hq.1)⟩
      rw [List.take_of_length_le (by simp; omega)]
      simp [quoAll]
end Go.Proofs.YtifmbhcajlnhbaaDoor
