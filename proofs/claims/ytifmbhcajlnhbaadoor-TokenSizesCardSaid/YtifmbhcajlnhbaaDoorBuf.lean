/-
  Slices of bytes that a call makes itself: what they hold as a list of numbers; how they become a text. The escapes in plain words.
-/
import Derived.Test.YtifmbhcajlnhbaaDoorClass
import Derived.Lib.Hide
import Derived.Outline
import Derived.Laws.BytesArg
import Derived.Deep.RegionLaw
import Derived.Laws.IdiomStrings
namespace Go.Proofs.YtifmbhcajlnhbaaDoor
open Go.ChangeShapes Go.WideShapes Go.ChangeAt Go.RowKit

theorem info_u8 : (Tryd.prog.info? 5).map (fun i => (i.zero, i.size, i.bytes)) = some (some (.int .u8 0), 1, 1) := by kernel_rfl

/-- v is a slice of bytes of the call's own, in a block from B on, that holds xs -/
def Buf (B : Nat) (w : World) (v : Value) (xs : List Int) : Prop := w.ownsRow B 5 1 v xs.length (xs.map (Value.int .u8)) ∧ B ≤ w.heap.size

theorem Buf.nil (w : World) : Buf w.heap.size w (.slice none 0 0) [] := ⟨World.ownsRow_nil _ _ _ _, Nat.le_refl _⟩

theorem add_plain (b o j : Nat) : (⟨b, o, none⟩ : Addr).add j = ⟨b, o + j, none⟩ := by unfold Addr.add; split <;> simp_all

theorem Buf.fresh {B : Nat} {w : World} (xs : List Int) (hB : B ≤ w.heap.size) (hl : xs.length ≤ maxLen) :
    Buf B (w.alloc (.cells (xs.map (Value.int .u8)).toArray 5)) (.slice (some ⟨w.heap.size, 0, none⟩) xs.length xs.length) xs := by
  refine ⟨⟨by simp, .inr ⟨w.heap.size, xs.length, (xs.map (Value.int .u8)).toArray, rfl, hB, heap_alloc_new w _, Nat.le_refl _, hl, by simp, ?_⟩⟩, by simp; omega⟩
  simp [List.take_of_length_le]

theorem Buf.kept {B : Nat} {w w' : World} {v : Value} {xs : List Int} {row : Option Nat} (h : Buf B w v xs) (hg : w.grownBy w' row) (hne : v.ownBlock = none ∨ v.ownBlock ≠ row) : Buf B w' v xs :=
  ⟨h.1.kept hg hne, Nat.le_trans h.2 hg.size⟩

theorem below_grownBy {w w' : World} (h : Below w.heap.size w w') (row : Option Nat) : w.grownBy w' row := ⟨h.os, h.tape, h.output, h.size, fun k hk _ => h.block k hk⟩
theorem Buf.below {B : Nat} {w w' : World} {v : Value} {xs : List Int} (h : Buf B w v xs) (hb : Below w.heap.size w w') : Buf B w' v xs := by
  refine h.kept (below_grownBy hb none) ?_
  cases v.ownBlock <;> simp
theorem grown_of_below {w w1 w2 : World} {row : Option Nat} (h : Below w.heap.size w w1) (g : w1.grownBy w2 row) : w.grownBy w2 row :=
  ⟨g.os.trans h.os, g.tape.trans h.tape, g.output.trans h.output, Nat.le_trans h.size g.size, fun k hk hne => (g.block k (Nat.lt_of_lt_of_le hk h.size) hne).trans (h.block k hk)⟩

/-- what the buffer holds, as a text -/
theorem Buf.text {B : Nat} {w : World} {v : Value} {xs : List Int} (h : Buf B w v xs) : (convert 23 9 v).run Tryd.prog w = .ok (.string (strOfNums xs)) w := by
  obtain ⟨⟨hl, hv⟩, _⟩ := h
  rcases hv with ⟨rfl, hn⟩ | ⟨g, cap, cur, rfl, _, hg, _, _, hsz, htake⟩
  · have : xs = [] := List.length_eq_zero_iff.1 hn
    subst this
    exact run_convert_bytes_nil w _ _ Tryd.underlying23 Tryd.underlying5 0 0 _ Tryd.underlying9
  · refine run_convert_bytes_arg w _ _ Tryd.underlying23 Tryd.underlying5 g 0 xs.length cap xs rfl (fun i hi => ?_) _ Tryd.underlying9
    rw [Nat.zero_add, cell_of_row w g i cur 5 (0, 0) hg]
    have h1 : (cur.toList.take (xs.length * 1))[i]? = (xs.map (Value.int .u8))[i]? := by rw [htake]
    rw [List.getElem?_take, if_pos (by omega)] at h1
    rw [← Array.getElem?_toList, h1]
    simp [hi]

/-- a text out of bytes that were just laid -/
theorem conv_fresh (w : World) (xs : List Int) (hl : xs.length ≤ maxLen) : (convert 23 9 (.slice (some ⟨w.heap.size, 0, none⟩) xs.length xs.length)).run Tryd.prog (w.alloc (.cells (xs.map (Value.int .u8)).toArray 5)) = .ok (.string (strOfNums xs)) (w.alloc (.cells (xs.map (Value.int .u8)).toArray 5)) :=
  (Buf.fresh (w := w) xs (Nat.le_refl _) hl).text
theorem conv1 (w : World) (a : Int) : (convert 23 9 (.slice (some ⟨w.heap.size, 0, none⟩) 1 1)).run Tryd.prog (w.alloc (.cells #[.int .u8 a] 5)) = .ok (.string (strOfNums [a])) (w.alloc (.cells #[.int .u8 a] 5)) :=
  conv_fresh w [a] (by simp [maxLen])
theorem conv2 (w : World) (a b : Int) : (convert 23 9 (.slice (some ⟨w.heap.size, 0, none⟩) 2 2)).run Tryd.prog (w.alloc (.cells #[.int .u8 a, .int .u8 b] 5)) = .ok (.string (strOfNums [a, b])) (w.alloc (.cells #[.int .u8 a, .int .u8 b] 5)) :=
  conv_fresh w [a, b] (by simp [maxLen])
theorem conv4 (w : World) (a b c d : Int) : (convert 23 9 (.slice (some ⟨w.heap.size, 0, none⟩) 4 4)).run Tryd.prog (w.alloc (.cells #[.int .u8 a, .int .u8 b, .int .u8 c, .int .u8 d] 5)) = .ok (.string (strOfNums [a, b, c, d])) (w.alloc (.cells #[.int .u8 a, .int .u8 b, .int .u8 c, .int .u8 d] 5)) :=
  conv_fresh w [a, b, c, d] (by simp [maxLen])

/-- a digit to the base 16 -/
def hexd (n : Int) : Int := if n < 10 then 48 + n else 87 + n
theorem hex_at (n : Nat) (hn : n < 16) (h : n < (⟨#[48, 49, 50, 51, 52, 53, 54, 55, 56, 57, 97, 98, 99, 100, 101, 102]⟩ : ByteArray).size) :
    ((((⟨#[48, 49, 50, 51, 52, 53, 54, 55, 56, 57, 97, 98, 99, 100, 101, 102]⟩ : ByteArray)[n]'h).toNat : Nat) : Int) = hexd n := by
  have key : ∀ k : Fin 16, ((((⟨#[48, 49, 50, 51, 52, 53, 54, 55, 56, 57, 97, 98, 99, 100, 101, 102]⟩ : ByteArray)[k.1]'(by have := k.2; show k.1 < 16; omega)).toNat : Nat) : Int) = hexd k.1 := by decide
  exact key ⟨n, hn⟩
theorem index_hex (w : World) (k : IntKind) (i : Int) (h0 : 0 ≤ i) (h1 : i < 16) :
    (Instr.index 9 (.string ⟨#[48, 49, 50, 51, 52, 53, 54, 55, 56, 57, 97, 98, 99, 100, 101, 102]⟩) (.int k i)).run Tryd.prog w = .ok (.int .u8 (hexd i)) w := by
  rw [run_index_string w 9 _ k i Tryd.underlying9, dif_pos ⟨h0, by show i < 16; exact h1⟩]
  have e := hex_at i.toNat (by omega) (by show i.toNat < 16; omega)
  rw [show ((i.toNat : Nat) : Int) = i from by omega] at e
  rw [← e]
theorem and15 (c : Int) (h0 : 0 ≤ c) (h1 : c ≤ 255) : bits .and .u8 c 15 = c % 16 := by
  rw [u8_and c 15 h0 (by omega) (by decide) (by decide)]
  have key : ∀ k : Fin 256, k.1 &&& 15 = k.1 % 16 := by decide +kernel
  have := key ⟨c.toNat, by omega⟩
  simp only at this
  rw [show (15 : Int).toNat = 15 from rfl, this]; omega
/-- the quote that is meant -/
def quo (q : Int) : Int := if q = 39 then 39 else 34
/-- a byte's escape -/
def esc (c q : Int) : List Int :=
  if c = 10 then [92, 110] else if c = 9 then [92, 116] else if c = 92 ∨ c = quo q then [92, c]
  else if c < 32 ∨ 126 < c then [92, 120, hexd (c / 16), hexd (c % 16)] else [c]

/-- 'append(b, x, ..)' at a buffer: bytes that were just laid -/
theorem buf_wp {o : Oper} {a : Act} {K : Act → World → Prop} {Q : Exit → Act → World → Prop} (w : World) (ns : List Int) (s x : Operand)
    (ho : o.op = .call { callee := .builtin .append, args := #[s, x], argTypes := #[23, 23] })
    (B : Nat) (v : Value) (xs : List Int) (hs : a.eval s = v) (hb : Buf B w v xs) (hx : a.eval x = .slice (some ⟨w.heap.size, 0, none⟩) ns.length ns.length) (hl : xs.length + ns.length ≤ 140737488355328)
    (h : ∀ v' w', Buf B w' v' (xs ++ ns) → w.grownBy w' v.ownBlock → K (a.put o.dst v') w') : o.wp Tryd.prog a (w.alloc (.cells (ns.map (Value.int .u8)).toArray 5)) K Q := by
  obtain ⟨i0, hi, hz0, hz1, hz2⟩ := info_parts info_u8
  refine wp_append_own _ s x 23 ho B 5 i0 (.int .u8 0) 1 1 Tryd.underlying23 hi hz0 hz1 hz2 rfl (by decide) v xs.length (xs.map (Value.int .u8)) hs (hb.1.alloc _) ⟨w.heap.size, 0, none⟩ ns.length ns.length (ns.map (Value.int .u8)) hx (by simp) ?_ ?_ (by unfold maxLen; omega) (by omega) (by have := hb.2; simp; omega) ?_
  · intro j u hj
    rw [add_plain, Nat.zero_add, cell_of_row _ w.heap.size j (ns.map (Value.int .u8)).toArray 5 (0, 0) (heap_alloc_new w _)]
    simpa using hj
  · intro u hu
    obtain ⟨n, _, rfl⟩ := List.mem_map.1 hu
    rfl
  · intro v' w' ho' hg _
    refine h v' w' ⟨by simpa using ho', ?_⟩ ?_
    · have := hb.2; have := hg.size; simp at this; omega
    · have h1 := World.grownBy_alloc w (.cells (ns.map (Value.int .u8)).toArray 5) v.ownBlock
      exact ⟨hg.os.trans h1.os, hg.tape.trans h1.tape, hg.output.trans h1.output, Nat.le_trans h1.size hg.size, fun k hk hne => (hg.block k (Nat.lt_of_lt_of_le hk h1.size) hne).trans (h1.block k hk hne)⟩
theorem buf_append {ops : Array Oper} {rest : List Oper} {o : Oper} {a : Act} {Q : Exit → Act → World → Prop} (w : World) (ns : List Int) (hgd : o.guard = none) (s x : Operand)
    (ho : o.op = .call { callee := .builtin .append, args := #[s, x], argTypes := #[23, 23] })
    (B : Nat) (v : Value) (xs : List Int) (hs : a.eval s = v) (hb : Buf B w v xs) (hx : a.eval x = .slice (some ⟨w.heap.size, 0, none⟩) ns.length ns.length) (hl : xs.length + ns.length ≤ 140737488355328)
    (h : ∀ v' w', Buf B w' v' (xs ++ ns) → w.grownBy w' v.ownBlock → wpList Tryd.prog ops Q rest (a.put o.dst v') w') : wpList Tryd.prog ops Q (o :: rest) a (w.alloc (.cells (ns.map (Value.int .u8)).toArray 5)) :=
  wpList_plain hgd fun _ hK => buf_wp w ns s x ho B v xs hs hb hx hl fun v' w' h2 h3 => hK _ _ (h v' w' h2 h3)
/-- the same as a step of a region that draws its order -/
theorem step_buf4 {ops : Array Oper} {o : Oper} {a : Act} {K : Act → World → Prop} {Q : Exit → Act → World → Prop} {E : Prop} (w : World) (n1 n2 n3 n4 : Int) (hgd : o.guard = none) (s x : Operand)
    (ho : o.op = .call { callee := .builtin .append, args := #[s, x], argTypes := #[23, 23] })
    (B : Nat) (v : Value) (xs : List Int) (hs : a.eval s = v) (hb : Buf B w v xs) (hx : a.eval x = .slice (some ⟨w.heap.size, 0, none⟩) 4 4) (hl : xs.length + 4 ≤ 140737488355328)
    (h : ∀ v' w', Buf B w' v' (xs ++ [n1, n2, n3, n4]) → w.grownBy w' v.ownBlock → K (a.put o.dst v') w') :
    if Region.wanted o (yielded ops a.tmps) = true then o.wp Tryd.prog a (w.alloc (.cells #[.int .u8 n1, .int .u8 n2, .int .u8 n3, .int .u8 n4] 5)) K Q else E := by
  have hw : Region.wanted o (yielded ops a.tmps) = true := by simp [Region.wanted, hgd]
  rw [if_pos hw]
  exact buf_wp w [n1, n2, n3, n4] s x ho B v xs hs hb hx hl h

theorem buf_append1 {ops : Array Oper} {rest : List Oper} {o : Oper} {a : Act} {Q : Exit → Act → World → Prop} (w : World) (n1 : Int) (hgd : o.guard = none) (s x : Operand)
    (ho : o.op = .call { callee := .builtin .append, args := #[s, x], argTypes := #[23, 23] })
    (B : Nat) (v : Value) (xs : List Int) (hs : a.eval s = v) (hb : Buf B w v xs) (hx : a.eval x = .slice (some ⟨w.heap.size, 0, none⟩) 1 1) (hl : xs.length + 1 ≤ 140737488355328)
    (h : ∀ v' w', Buf B w' v' (xs ++ [n1]) → w.grownBy w' v.ownBlock → wpList Tryd.prog ops Q rest (a.put o.dst v') w') : wpList Tryd.prog ops Q (o :: rest) a (w.alloc (.cells #[.int .u8 n1] 5)) :=
  buf_append w [n1] hgd s x ho B v xs hs hb hx hl h
theorem buf_append2 {ops : Array Oper} {rest : List Oper} {o : Oper} {a : Act} {Q : Exit → Act → World → Prop} (w : World) (n1 n2 : Int) (hgd : o.guard = none) (s x : Operand)
    (ho : o.op = .call { callee := .builtin .append, args := #[s, x], argTypes := #[23, 23] })
    (B : Nat) (v : Value) (xs : List Int) (hs : a.eval s = v) (hb : Buf B w v xs) (hx : a.eval x = .slice (some ⟨w.heap.size, 0, none⟩) 2 2) (hl : xs.length + 2 ≤ 140737488355328)
    (h : ∀ v' w', Buf B w' v' (xs ++ [n1, n2]) → w.grownBy w' v.ownBlock → wpList Tryd.prog ops Q rest (a.put o.dst v') w') : wpList Tryd.prog ops Q (o :: rest) a (w.alloc (.cells #[.int .u8 n1, .int .u8 n2] 5)) :=
  buf_append w [n1, n2] hgd s x ho B v xs hs hb hx hl h
theorem buf_append4 {ops : Array Oper} {rest : List Oper} {o : Oper} {a : Act} {Q : Exit → Act → World → Prop} (w : World) (n1 n2 n3 n4 : Int) (hgd : o.guard = none) (s x : Operand)
    (ho : o.op = .call { callee := .builtin .append, args := #[s, x], argTypes := #[23, 23] })
    (B : Nat) (v : Value) (xs : List Int) (hs : a.eval s = v) (hb : Buf B w v xs) (hx : a.eval x = .slice (some ⟨w.heap.size, 0, none⟩) 4 4) (hl : xs.length + 4 ≤ 140737488355328)
    (h : ∀ v' w', Buf B w' v' (xs ++ [n1, n2, n3, n4]) → w.grownBy w' v.ownBlock → wpList Tryd.prog ops Q rest (a.put o.dst v') w') : wpList Tryd.prog ops Q (o :: rest) a (w.alloc (.cells #[.int .u8 n1, .int .u8 n2, .int .u8 n3, .int .u8 n4] 5)) :=
  buf_append w [n1, n2, n3, n4] hgd s x ho B v xs hs hb hx hl h

/-- a text in quotes -/
def escAll (l : List UInt8) : List Int := l.flatMap fun b => esc b.toNat 34
def quoAll (l : List UInt8) : List Int := 34 :: (escAll l ++ [34])
theorem esc_len (c q : Int) : (esc c q).length ≤ 4 := by
  unfold esc
  by_cases h1 : c = 10
  · rw [if_pos h1]; simp
  by_cases h2 : c = 9
  · rw [if_neg h1, if_pos h2]; simp
  by_cases h3 : c = 92 ∨ c = quo q
  · rw [if_neg h1, if_neg h2, if_pos h3]; simp
  by_cases h4 : c < 32 ∨ 126 < c
  · rw [if_neg h1, if_neg h2, if_neg h3, if_pos h4]; simp
  · rw [if_neg h1, if_neg h2, if_neg h3, if_neg h4]; simp
theorem escAll_len (l : List UInt8) : (escAll l).length ≤ 4 * l.length := by
  induction l with
  | nil => simp [escAll]
  | cons b l ih =>
    have h := esc_len b.toNat 34
    simp only [escAll, List.flatMap_cons, List.length_append, List.length_cons] at ih ⊢
    omega
theorem escAll_snoc (l : List UInt8) (b : UInt8) : escAll (l ++ [b]) = escAll l ++ esc b.toNat 34 := by simp [escAll]
theorem take_snoc (s : ByteArray) (k : Nat) (h : k < s.size) : s.data.toList.take (k + 1) = s.data.toList.take k ++ [s[k]] := by
  rw [List.take_succ_eq_append_getElem (by simpa using h)]; rfl

/-- a block that a conversion of a text has laid is no buffer's -/
theorem own_ne {B bb m : Nat} {w : World} {v : Value} {xs : List Int} {C : Array Value} (h : Buf B w v xs) (hb : w.heap[bb]? = some (.cells C 5 (m, m + 1))) : some bb ≠ v.ownBlock := by
  rcases h.1.2 with ⟨rfl, _⟩ | ⟨g, cap, cur, rfl, _, hg, _⟩
  · simp [Value.ownBlock]
  · intro e
    simp [Value.ownBlock] at e
    subst e
    rw [hg] at hb
    simp at hb
theorem lt_of_block {bb : Nat} {w : World} {o : Obj} (hb : w.heap[bb]? = some o) : bb < w.heap.size := by
  rcases Nat.lt_or_ge bb w.heap.size with h | h
  · exact h
  · simp [Array.getElem?_eq_none h] at hb
theorem own_ge {B : Nat} {w : World} {v : Value} {xs : List Int} (h : Buf B w v xs) : ∀ k, v.ownBlock = some k → B ≤ k := fun k hk => (h.1.lt k hk).1

theorem quo_eq {q : Int} (h : q = 39) : quo q = 39 := by simp [quo, h]
theorem quo_ne {q : Int} (h : q ≠ 39) : quo q = 34 := by simp [quo, h]
theorem ret_str {a b : ByteArray} (h : a = b) : Ending.returned (.string a) = .returned (.string b) := by rw [h]
theorem ret_text {a b : List Int} (h : a = b) : Ending.returned (.string (strOfNums a)) = .returned (.string (strOfNums b)) := by rw [h]
end Go.Proofs.YtifmbhcajlnhbaaDoor
