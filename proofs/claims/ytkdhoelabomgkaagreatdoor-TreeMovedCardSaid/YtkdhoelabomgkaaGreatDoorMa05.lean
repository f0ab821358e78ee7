/- Texts of this proof, joined: Buf, Un. No condition. -/
import Derived.Test.YtkdhoelabomgkaaGreatDoorMa03
import Derived.Lib.Hide
import Derived.Outline
import Derived.Laws.BytesArg
import Derived.Deep.RegionLaw
import Derived.Laws.IdiomStrings
import Derived.Test.YtkdhoelabomgkaaGreatDoorMa04
import Derived.Deep.QuietTactic
import Derived.BigQuiet
import Derived.WalkSmall
import Derived.Lib.IndexBytes
/-
  Slices of bytes that a call makes itself: what they hold as a list of numbers; how they become a text. The escapes in plain words.
-/
namespace Go.Proofs.YtkdhoelabomgkaaGreatDoor
open Go.ChangeShapes Go.WideShapes Go.ChangeAt Go.RowKit

theorem info_u8 : (Tryz.prog.info? 5).map (fun i => (i.zero, i.size, i.bytes)) = some (some (.int .u8 0), 1, 1) := by kernel_rfl

/-- v is a slice of bytes of the call's own, in a block from B on, that holds xs -/
def Buf (B : Nat) (w : World) (v : Value) (xs : List Int) : Prop := w.ownsRow B 5 1 v xs.length (xs.map (Value.int .u8)) ∧ B ≤ w.heap.size

theorem Buf.nil (w : World) : Buf w.heap.size w (.slice none 0 0) [] := ⟨World.ownsRow_nil _ _ _ _, Nat.le_refl _⟩

theorem add_plain (b o j : Nat) : (⟨b, o, none⟩ : Addr).add j = ⟨b, o + j, none⟩ := by unfold Addr.add; split <;> simp_all

theorem Buf.fresh {B : Nat} {w : World} (xs : List Int) (hB : B ≤ w.heap.size) (hl : xs.length ≤ maxLen) :
    Buf B (w.alloc (.cells (xs.map (Value.int .u8)).toArray 5)) (.slice (some ⟨w.heap.size, 0, none⟩) xs.length xs.length) xs := by
  refine ⟨⟨by simp, .inr ⟨w.heap.size, xs.length, (xs.map (Value.int .u8)).toArray, rfl, hB, heap_alloc_new w _, Nat.le_refl _, hl, by simp, ?_⟩⟩, by simp; omega⟩
  simp [List.take_of_length_le]

theorem Buf.kept {B : Nat} {w w' : World} {v : Value} {xs : List Int} {row : Option Nat} (h : Buf B w v xs) (hg : w.grownBy w' row) (hne : v.ownBlock = none ∨ v.ownBlock ≠ row) : Buf B w' v xs :=
  ⟨h.1.kept hg hne, Nat.le_trans h.2 hg.size⟩

theorem below_grownBy {w w' : World} (h : Below w.heap.size w w') (row : Option Nat) : w.grownBy w' row := ⟨h.os, h.tape, h.output, h.size, fun k hk _ => h.block k hk⟩
theorem Buf.below {B : Nat} {w w' : World} {v : Value} {xs : List Int} (h : Buf B w v xs) (hb : Below w.heap.size w w') : Buf B w' v xs := by
  refine h.kept (below_grownBy hb none) ?_
  cases v.ownBlock <;> simp
theorem grown_of_below {w w1 w2 : World} {row : Option Nat} (h : Below w.heap.size w w1) (g : w1.grownBy w2 row) : w.grownBy w2 row :=
  ⟨g.os.trans h.os, g.tape.trans h.tape, g.output.trans h.output, Nat.le_trans h.size g.size, fun k hk hne => (g.block k (Nat.lt_of_lt_of_le hk h.size) hne).trans (h.block k hk)⟩

/-- what the buffer holds, as a text -/
theorem Buf.text {B : Nat} {w : World} {v : Value} {xs : List Int} (h : Buf B w v xs) : (convert 196 9 v).run Tryz.prog w = .ok (.string (strOfNums xs)) w := by
  obtain ⟨⟨hl, hv⟩, _⟩ := h
  rcases hv with ⟨rfl, hn⟩ | ⟨g, cap, cur, rfl, _, hg, _, _, hsz, htake⟩
  · have : xs = [] := List.length_eq_zero_iff.1 hn
    subst this
    exact run_convert_bytes_nil w _ _ Tryz.underlying196 Tryz.underlying5 0 0 _ Tryz.underlying9
  · refine run_convert_bytes_arg w _ _ Tryz.underlying196 Tryz.underlying5 g 0 xs.length cap xs rfl (fun i hi => ?_) _ Tryz.underlying9
    rw [Nat.zero_add, cell_of_row w g i cur 5 (0, 0) hg]
    have h1 : (cur.toList.take (xs.length * 1))[i]? = (xs.map (Value.int .u8))[i]? := by rw [htake]
    rw [List.getElem?_take, if_pos (by omega)] at h1
    rw [← Array.getElem?_toList, h1]
    simp [hi]

/-- a text out of bytes that were just laid -/
theorem conv_fresh (w : World) (xs : List Int) (hl : xs.length ≤ maxLen) : (convert 196 9 (.slice (some ⟨w.heap.size, 0, none⟩) xs.length xs.length)).run Tryz.prog (w.alloc (.cells (xs.map (Value.int .u8)).toArray 5)) = .ok (.string (strOfNums xs)) (w.alloc (.cells (xs.map (Value.int .u8)).toArray 5)) :=
  (Buf.fresh (w := w) xs (Nat.le_refl _) hl).text
theorem conv1 (w : World) (a : Int) : (convert 196 9 (.slice (some ⟨w.heap.size, 0, none⟩) 1 1)).run Tryz.prog (w.alloc (.cells #[.int .u8 a] 5)) = .ok (.string (strOfNums [a])) (w.alloc (.cells #[.int .u8 a] 5)) :=
  conv_fresh w [a] (by simp [maxLen])
theorem conv2 (w : World) (a b : Int) : (convert 196 9 (.slice (some ⟨w.heap.size, 0, none⟩) 2 2)).run Tryz.prog (w.alloc (.cells #[.int .u8 a, .int .u8 b] 5)) = .ok (.string (strOfNums [a, b])) (w.alloc (.cells #[.int .u8 a, .int .u8 b] 5)) :=
  conv_fresh w [a, b] (by simp [maxLen])
theorem conv4 (w : World) (a b c d : Int) : (convert 196 9 (.slice (some ⟨w.heap.size, 0, none⟩) 4 4)).run Tryz.prog (w.alloc (.cells #[.int .u8 a, .int .u8 b, .int .u8 c, .int .u8 d] 5)) = .ok (.string (strOfNums [a, b, c, d])) (w.alloc (.cells #[.int .u8 a, .int .u8 b, .int .u8 c, .int .u8 d] 5)) :=
  conv_fresh w [a, b, c, d] (by simp [maxLen])

/-- a digit to the base 16 -/
def hexd (n : Int) : Int := if n < 10 then 48 + n else 87 + n
theorem hex_at (n : Nat) (hn : n < 16) (h : n < (⟨#[48, 49, 50, 51, 52, 53, 54, 55, 56, 57, 97, 98, 99, 100, 101, 102]⟩ : ByteArray).size) :
    ((((⟨#[48, 49, 50, 51, 52, 53, 54, 55, 56, 57, 97, 98, 99, 100, 101, 102]⟩ : ByteArray)[n]'h).toNat : Nat) : Int) = hexd n := by
  have key : ∀ k : Fin 16, ((((⟨#[48, 49, 50, 51, 52, 53, 54, 55, 56, 57, 97, 98, 99, 100, 101, 102]⟩ : ByteArray)[k.1]'(by have := k.2; show k.1 < 16; omega)).toNat : Nat) : Int) = hexd k.1 := by decide
  exact key ⟨n, hn⟩
theorem index_hex (w : World) (k : IntKind) (i : Int) (h0 : 0 ≤ i) (h1 : i < 16) :
    (Instr.index 9 (.string ⟨#[48, 49, 50, 51, 52, 53, 54, 55, 56, 57, 97, 98, 99, 100, 101, 102]⟩) (.int k i)).run Tryz.prog w = .ok (.int .u8 (hexd i)) w := by
  rw [run_index_string w 9 _ k i Tryz.underlying9, dif_pos ⟨h0, by show i < 16; exact h1⟩]
  have e := hex_at i.toNat (by omega) (by show i.toNat < 16; omega)
  rw [show ((i.toNat : Nat) : Int) = i from by omega] at e
  rw [← e]
theorem and15 (c : Int) (h0 : 0 ≤ c) (h1 : c ≤ 255) : bits .and .u8 c 15 = c % 16 := by
  rw [u8_and c 15 h0 (by omega) (by decide) (by decide)]
  have key : ∀ k : Fin 256, k.1 &&& 15 = k.1 % 16 := by decide +kernel
  have := key ⟨c.toNat, by omega⟩
  simp only at this
  rw [show (15 : Int).toNat = 15 from rfl, this]; omega
/-- the quote that is meant -/
def quo (q : Int) : Int := if q = 39 then 39 else 34
/-- a byte's escape -/
def esc (c q : Int) : List Int :=
  if c = 10 then [92, 110] else if c = 9 then [92, 116] else if c = 92 ∨ c = quo q then [92, c]
  else if c < 32 ∨ 126 < c then [92, 120, hexd (c / 16), hexd (c % 16)] else [c]

/-- 'append(b, x, ..)' at a buffer: bytes that were just laid -/
theorem buf_wp {o : Oper} {a : Act} {K : Act → World → Prop} {Q : Exit → Act → World → Prop} (w : World) (ns : List Int) (s x : Operand)
    (ho : o.op = .call { callee := .builtin .append, args := #[s, x], argTypes := #[196, 196] })
    (B : Nat) (v : Value) (xs : List Int) (hs : a.eval s = v) (hb : Buf B w v xs) (hx : a.eval x = .slice (some ⟨w.heap.size, 0, none⟩) ns.length ns.length) (hl : xs.length + ns.length ≤ 140737488355328)
    (h : ∀ v' w', Buf B w' v' (xs ++ ns) → w.grownBy w' v.ownBlock → K (a.put o.dst v') w') : o.wp Tryz.prog a (w.alloc (.cells (ns.map (Value.int .u8)).toArray 5)) K Q := by
  obtain ⟨i0, hi, hz0, hz1, hz2⟩ := info_parts info_u8
  refine wp_append_own _ s x 196 ho B 5 i0 (.int .u8 0) 1 1 Tryz.underlying196 hi hz0 hz1 hz2 rfl (by decide) v xs.length (xs.map (Value.int .u8)) hs (hb.1.alloc _) ⟨w.heap.size, 0, none⟩ ns.length ns.length (ns.map (Value.int .u8)) hx (by simp) ?_ ?_ (by unfold maxLen; omega) (by omega) (by have := hb.2; simp; omega) ?_
  · intro j u hj
    rw [add_plain, Nat.zero_add, cell_of_row _ w.heap.size j (ns.map (Value.int .u8)).toArray 5 (0, 0) (heap_alloc_new w _)]
    simpa using hj
  · intro u hu
    obtain ⟨n, _, rfl⟩ := List.mem_map.1 hu
    rfl
  · intro v' w' ho' hg _
    refine h v' w' ⟨by simpa using ho', ?_⟩ ?_
    · have := hb.2; have := hg.size; simp at this; omega
    · have h1 := World.grownBy_alloc w (.cells (ns.map (Value.int .u8)).toArray 5) v.ownBlock
      exact ⟨hg.os.trans h1.os, hg.tape.trans h1.tape, hg.output.trans h1.output, Nat.le_trans h1.size hg.size, fun k hk hne => (hg.block k (Nat.lt_of_lt_of_le hk h1.size) hne).trans (h1.block k hk hne)⟩
theorem buf_append {ops : Array Oper} {rest : List Oper} {o : Oper} {a : Act} {Q : Exit → Act → World → Prop} (w : World) (ns : List Int) (hgd : o.guard = none) (s x : Operand)
    (ho : o.op = .call { callee := .builtin .append, args := #[s, x], argTypes := #[196, 196] })
    (B : Nat) (v : Value) (xs : List Int) (hs : a.eval s = v) (hb : Buf B w v xs) (hx : a.eval x = .slice (some ⟨w.heap.size, 0, none⟩) ns.length ns.length) (hl : xs.length + ns.length ≤ 140737488355328)
    (h : ∀ v' w', Buf B w' v' (xs ++ ns) → w.grownBy w' v.ownBlock → wpList Tryz.prog ops Q rest (a.put o.dst v') w') : wpList Tryz.prog ops Q (o :: rest) a (w.alloc (.cells (ns.map (Value.int .u8)).toArray 5)) :=
  wpList_plain hgd fun _ hK => buf_wp w ns s x ho B v xs hs hb hx hl fun v' w' h2 h3 => hK _ _ (h v' w' h2 h3)
/-- the same as a step of a region that draws its order -/
theorem step_buf4 {ops : Array Oper} {o : Oper} {a : Act} {K : Act → World → Prop} {Q : Exit → Act → World → Prop} {E : Prop} (w : World) (n1 n2 n3 n4 : Int) (hgd : o.guard = none) (s x : Operand)
    (ho : o.op = .call { callee := .builtin .append, args := #[s, x], argTypes := #[196, 196] })
    (B : Nat) (v : Value) (xs : List Int) (hs : a.eval s = v) (hb : Buf B w v xs) (hx : a.eval x = .slice (some ⟨w.heap.size, 0, none⟩) 4 4) (hl : xs.length + 4 ≤ 140737488355328)
    (h : ∀ v' w', Buf B w' v' (xs ++ [n1, n2, n3, n4]) → w.grownBy w' v.ownBlock → K (a.put o.dst v') w') :
    if Region.wanted o (yielded ops a.tmps) = true then o.wp Tryz.prog a (w.alloc (.cells #[.int .u8 n1, .int .u8 n2, .int .u8 n3, .int .u8 n4] 5)) K Q else E := by
  have hw : Region.wanted o (yielded ops a.tmps) = true := by simp [Region.wanted, hgd]
  rw [if_pos hw]
  exact buf_wp w [n1, n2, n3, n4] s x ho B v xs hs hb hx hl h

theorem buf_append1 {ops : Array Oper} {rest : List Oper} {o : Oper} {a : Act} {Q : Exit → Act → World → Prop} (w : World) (n1 : Int) (hgd : o.guard = none) (s x : Operand)
    (ho : o.op = .call { callee := .builtin .append, args := #[s, x], argTypes := #[196, 196] })
    (B : Nat) (v : Value) (xs : List Int) (hs : a.eval s = v) (hb : Buf B w v xs) (hx : a.eval x = .slice (some ⟨w.heap.size, 0, none⟩) 1 1) (hl : xs.length + 1 ≤ 140737488355328)
    (h : ∀ v' w', Buf B w' v' (xs ++ [n1]) → w.grownBy w' v.ownBlock → wpList Tryz.prog ops Q rest (a.put o.dst v') w') : wpList Tryz.prog ops Q (o :: rest) a (w.alloc (.cells #[.int .u8 n1] 5)) :=
  buf_append w [n1] hgd s x ho B v xs hs hb hx hl h
theorem buf_append2 {ops : Array Oper} {rest : List Oper} {o : Oper} {a : Act} {Q : Exit → Act → World → Prop} (w : World) (n1 n2 : Int) (hgd : o.guard = none) (s x : Operand)
    (ho : o.op = .call { callee := .builtin .append, args := #[s, x], argTypes := #[196, 196] })
    (B : Nat) (v : Value) (xs : List Int) (hs : a.eval s = v) (hb : Buf B w v xs) (hx : a.eval x = .slice (some ⟨w.heap.size, 0, none⟩) 2 2) (hl : xs.length + 2 ≤ 140737488355328)
    (h : ∀ v' w', Buf B w' v' (xs ++ [n1, n2]) → w.grownBy w' v.ownBlock → wpList Tryz.prog ops Q rest (a.put o.dst v') w') : wpList Tryz.prog ops Q (o :: rest) a (w.alloc (.cells #[.int .u8 n1, .int .u8 n2] 5)) :=
  buf_append w [n1, n2] hgd s x ho B v xs hs hb hx hl h
theorem buf_append4 {ops : Array Oper} {rest : List Oper} {o : Oper} {a : Act} {Q : Exit → Act → World → Prop} (w : World) (n1 n2 n3 n4 : Int) (hgd : o.guard = none) (s x : Operand)
    (ho : o.op = .call { callee := .builtin .append, args := #[s, x], argTypes := #[196, 196] })
    (B : Nat) (v : Value) (xs : List Int) (hs : a.eval s = v) (hb : Buf B w v xs) (hx : a.eval x = .slice (some ⟨w.heap.size, 0, none⟩) 4 4) (hl : xs.length + 4 ≤ 140737488355328)
    (h : ∀ v' w', Buf B w' v' (xs ++ [n1, n2, n3, n4]) → w.grownBy w' v.ownBlock → wpList Tryz.prog ops Q rest (a.put o.dst v') w') : wpList Tryz.prog ops Q (o :: rest) a (w.alloc (.cells #[.int .u8 n1, .int .u8 n2, .int .u8 n3, .int .u8 n4] 5)) :=
  buf_append w [n1, n2, n3, n4] hgd s x ho B v xs hs hb hx hl h

/-- a text in quotes -/
def escAll (l : List UInt8) : List Int := l.flatMap fun b => esc b.toNat 34
def quoAll (l : List UInt8) : List Int := 34 :: (escAll l ++ [34])
theorem esc_len (c q : Int) : (esc c q).length ≤ 4 := by
  unfold esc
  by_cases h1 : c = 10
  · rw [if_pos h1]; simp
  by_cases h2 : c = 9
  · rw [if_neg h1, if_pos h2]; simp
  by_cases h3 : c = 92 ∨ c = quo q
  · rw [if_neg h1, if_neg h2, if_pos h3]; simp
  by_cases h4 : c < 32 ∨ 126 < c
  · rw [if_neg h1, if_neg h2, if_neg h3, if_pos h4]; simp
  · rw [if_neg h1, if_neg h2, if_neg h3, if_neg h4]; simp
theorem escAll_len (l : List UInt8) : (escAll l).length ≤ 4 * l.length := by
  induction l with
  | nil => simp [escAll]
  | cons b l ih =>
    have h := esc_len b.toNat 34
    simp only [escAll, List.flatMap_cons, List.length_append, List.length_cons] at ih ⊢
    omega
theorem escAll_snoc (l : List UInt8) (b : UInt8) : escAll (l ++ [b]) = escAll l ++ esc b.toNat 34 := by simp [escAll]
theorem take_snoc (s : ByteArray) (k : Nat) (h : k < s.size) : s.data.toList.take (k + 1) = s.data.toList.take k ++ [s[k]] := by
  rw [List.take_succ_eq_append_getElem (by simpa using h)]; rfl

/-- a block that a conversion of a text has laid is no buffer's -/
theorem own_ne {B bb m : Nat} {w : World} {v : Value} {xs : List Int} {C : Array Value} (h : Buf B w v xs) (hb : w.heap[bb]? = some (.cells C 5 (m, m + 1))) : some bb ≠ v.ownBlock := by
  rcases h.1.2 with ⟨rfl, _⟩ | ⟨g, cap, cur, rfl, _, hg, _⟩
  · simp [Value.ownBlock]
  · intro e
    simp [Value.ownBlock] at e
    subst e
    rw [hg] at hb
    simp at hb
theorem lt_of_block {bb : Nat} {w : World} {o : Obj} (hb : w.heap[bb]? = some o) : bb < w.heap.size := by
  rcases Nat.lt_or_ge bb w.heap.size with h | h
  · exact h
  · simp [Array.getElem?_eq_none h] at hb
theorem own_ge {B : Nat} {w : World} {v : Value} {xs : List Int} (h : Buf B w v xs) : ∀ k, v.ownBlock = some k → B ≤ k := fun k hk => (h.1.lt k hk).1

theorem quo_eq {q : Int} (h : q = 39) : quo q = 39 := by simp [quo, h]
theorem quo_ne {q : Int} (h : q ≠ 39) : quo q = 34 := by simp [quo, h]
theorem ret_str {a b : ByteArray} (h : a = b) : Ending.returned (.string a) = .returned (.string b) := by rw [h]
theorem ret_text {a b : List Int} (h : a = b) : Ending.returned (.string (strOfNums a)) = .returned (.string (strOfNums b)) := by rw [h]
end Go.Proofs.YtkdhoelabomgkaaGreatDoor
/-
  What an escape stands for: the digits to the base 16; hexOf; Unescape, as the program and as the document have it.
-/
namespace Go.Proofs.YtkdhoelabomgkaaGreatDoor
set_option linter.unusedVariables false
open Go.ChangeShapes Go.WideShapes Go.ChangeAt Go.RowKit

/-- byte j of a text; 0 behind it -/
def atB (s : ByteArray) (j : Nat) : Int := ((s.data.toList.getD j 0).toNat : Int)
theorem atB_eq (s : ByteArray) (j : Nat) (h : j < s.size) : atB s j = (s[j].toNat : Int) := by
  unfold atB
  rw [List.getD_eq_getElem?_getD, List.getElem?_eq_getElem (by rw [Array.length_toList]; exact h)]
  rfl
theorem atB_bounds (s : ByteArray) (j : Nat) : 0 ≤ atB s j ∧ atB s j ≤ 255 := by
  unfold atB
  have := (s.data.toList.getD j 0).toNat_lt
  omega

/-- what a digit to the base 16 is; -1: it is none -/
def dig (c : Int) : Int := if 48 ≤ c ∧ c ≤ 57 then c - 48 else if 97 ≤ c ∧ c ≤ 102 then c - 87 else -1
theorem dig_bounds (c : Int) : -1 ≤ dig c ∧ dig c ≤ 15 := by
  unfold dig
  by_cases h : 48 ≤ c ∧ c ≤ 57
  · rw [if_pos h]; omega
  by_cases h2 : 97 ≤ c ∧ c ≤ 102
  · rw [if_neg h, if_pos h2]; omega
  · rw [if_neg h, if_neg h2]; omega
theorem index_dig (c : UInt8) : Lib.indexByte [48, 49, 50, 51, 52, 53, 54, 55, 56, 57, 97, 98, 99, 100, 101, 102] c = dig c.toNat := by
  have key : ∀ k : Fin 256, Lib.indexByte [48, 49, 50, 51, 52, 53, 54, 55, 56, 57, 97, 98, 99, 100, 101, 102] (UInt8.ofNat k.1) = dig k.1 := by decide +kernel
  have h := key ⟨c.toNat, c.toNat_lt⟩
  simpa using h
theorem index_dig' (c : Int) (h0 : 0 ≤ c) (h1 : c ≤ 255) : Lib.indexByte [48, 49, 50, 51, 52, 53, 54, 55, 56, 57, 97, 98, 99, 100, 101, 102] c.toNat.toUInt8 = dig c := by
  have h := index_dig c.toNat.toUInt8
  have e : (c.toNat.toUInt8.toNat : Int) = c := by
    have : c.toNat.toUInt8.toNat = c.toNat % 256 := by simp
    rw [this]; omega
  rw [e] at h
  exact h

theorem or16 (a b : Int) (h0 : 0 ≤ a) (h1 : a ≤ 15) (h2 : 0 ≤ b) (h3 : b ≤ 15) : bits .or .i64 (a * 16) b = 16 * a + b := by
  have key : ∀ x y : Fin 16, bits .or .i64 ((x.1 : Int) * 16) (y.1 : Int) = 16 * (x.1 : Int) + (y.1 : Int) := by decide +kernel
  have h := key ⟨a.toNat, by omega⟩ ⟨b.toNat, by omega⟩
  simp only [show ((a.toNat : Nat) : Int) = a from by omega, show ((b.toNat : Nat) : Int) = b from by omega] at h
  exact h

/-- x and two digits at the beginning of a text -/
def hexB (t : ByteArray) : Option Int :=
  if 3 ≤ t.size ∧ atB t 0 = 120 ∧ 0 ≤ dig (atB t 1) ∧ 0 ≤ dig (atB t 2) then some (16 * dig (atB t 1) + dig (atB t 2)) else none
def hexV (o : Option Int) : Value := match o with
  | .some c => .tuple #[.int .u8 c, .bool true]
  | .none => .tuple #[.int .u8 0, .bool false]

set_option maxHeartbeats 2000000 in
theorem hexof_any (t : ByteArray) (hs : t.size ≤ 1000000) (w : World) :
    Calls Tryz.prog 159 #[.string t] w fun e w' => e = .returned (hexV (hexB t)) ∧ Below w.heap.size w w' := by
  by_cases h3 : 3 ≤ t.size
  · by_cases hx : atB t 0 = 120
    · have e0 := atB_eq t 0 (by omega)
      have e1 := atB_eq t 1 (by omega)
      have e2 := atB_eq t 2 (by omega)
      have x : ((t[0].toNat : Int) != 120) = false := by rw [bne_eq_false_iff_eq]; omega
      have hb1 := t[1].toNat_lt
      have hb2 := t[2].toNat_lt
      obtain ⟨d1, q1⟩ : ∃ d1, Lib.indexByte [48, 49, 50, 51, 52, 53, 54, 55, 56, 57, 97, 98, 99, 100, 101, 102] t[1] = d1 := ⟨_, rfl⟩
      obtain ⟨d2, q2⟩ : ∃ d2, Lib.indexByte [48, 49, 50, 51, 52, 53, 54, 55, 56, 57, 97, 98, 99, 100, 101, 102] t[2] = d2 := ⟨_, rfl⟩
      have r1 := index_dig t[1]
      have r2 := index_dig t[2]
      rw [q1, ← e1] at r1
      rw [q2, ← e2] at r2
      have bd1 := dig_bounds (atB t 1)
      have bd2 := dig_bounds (atB t 2)
      rw [← r1] at bd1
      rw [← r2] at bd2
      obtain ⟨bd1, bd1'⟩ := bd1
      obtain ⟨bd2, bd2'⟩ := bd2
      have R1 := Lib.hid r1
      have R2 := Lib.hid r2
      have Hx := Lib.hid hx
      have l1 : (1 : Int) < t.size := by omega
      have l2 : (2 : Int) < t.size := by omega
      have l3 : (3 : Int) ≤ t.size := by omega
      clear e0 e1 e2 r1 r2 hx hb1 hb2
      by_cases hd1 : 0 ≤ d1
      · by_cases hd2 : 0 ≤ d2
        · go_enter Tryz.func159, Tryz.ntmps159
          go_wp2_with fail
          go_quiet ((go_at_call 131; refine Calls.quiet_of_same (Tryz.strings_IndexByte _ _ _)))
          go_wp2
          go_ret2
          refine ⟨?_, below_drewN (Below.refl _ _) _⟩
          have e : hexB t = some (16 * d1 + d2) := by
            have r1 := R1.out
            have r2 := R2.out
            unfold hexB
            rw [if_pos ⟨h3, Hx.out, by omega, by omega⟩, ← r1, ← r2]
          rw [e]
          have e2 : bits .or .i64 (d1 * 16) d2 % 256 = 16 * d1 + d2 := by rw [or16 d1 d2 hd1 bd1' hd2 bd2']; omega
          show Ending.returned (.tuple #[.int .u8 (bits .or .i64 (d1 * 16) d2 % 256), .bool true]) = _
          rw [e2]
          rfl
        · have e : hexB t = none := by unfold hexB; rw [if_neg (by have := R1.out; have := R2.out; omega)]
          have E := Lib.hid e
          have hd2 : d2 < 0 := by omega
          clear e
          go_enter Tryz.func159, Tryz.ntmps159
          go_wp2_with fail
          go_quiet ((go_at_call 131; refine Calls.quiet_of_same (Tryz.strings_IndexByte _ _ _)))
          go_wp2
          go_ret2
          rw [E.out]
          exact ⟨rfl, below_drewN (Below.refl _ _) _⟩
      · have e : hexB t = none := by unfold hexB; rw [if_neg (by have := R1.out; have := R2.out; omega)]
        have E := Lib.hid e
        have hd1 : d1 < 0 := by omega
        clear e
        go_enter Tryz.func159, Tryz.ntmps159
        go_wp2_with fail
        go_quiet ((go_at_call 131; refine Calls.quiet_of_same (Tryz.strings_IndexByte _ _ _)))
        go_wp2
        go_ret2
        rw [E.out]
        exact ⟨rfl, below_drewN (Below.refl _ _) _⟩
    · have e : hexB t = none := by unfold hexB; rw [if_neg (by omega)]
      have E := Lib.hid e
      have e0 := atB_eq t 0 (by omega)
      have x : ((t[0].toNat : Int) != 120) = true := by rw [bne_iff_ne]; omega
      have l3 : (3 : Int) ≤ t.size := by omega
      clear e e0 hx
      go_enter Tryz.func159, Tryz.ntmps159
      go_wp2
      go_ret2
      rw [E.out]
      exact ⟨rfl, Below.refl _ _⟩
  · have e : hexB t = none := by unfold hexB; rw [if_neg (by omega)]
    have E := Lib.hid e
    have l3 : (t.size : Int) < 3 := by omega
    clear e
    go_enter Tryz.func159, Tryz.ntmps159
    go_wp2
    go_ret2
    rw [E.out]
    exact ⟨rfl, Below.refl _ _⟩

/-- what stands at place k -/
def un (s : ByteArray) (k : Nat) : Option (Int × Int) :=
  if atB s k < 32 ∨ 126 < atB s k then none
  else if atB s k ≠ 92 then some (atB s k, k + 1)
  else if s.size ≤ k + 1 then none
  else if isByteL (atB s (k + 1)) = true then some (byteL (atB s (k + 1)), k + 2)
  else if k + 3 < s.size ∧ atB s (k + 1) = 120 ∧ 0 ≤ dig (atB s (k + 2)) ∧ 0 ≤ dig (atB s (k + 3)) then some (16 * dig (atB s (k + 2)) + dig (atB s (k + 3)), k + 4)
  else none
def unV (o : Option (Int × Int)) (at_ : Int) : Value := match o with
  | .some (c, n) => .tuple #[.int .u8 c, .int .i64 n, .bool true]
  | .none => .tuple #[.int .u8 0, .int .i64 at_, .bool false]

theorem atB_tail (s : ByteArray) (k j : Nat) : atB (s.extract k s.size) j = atB s (k + j) := by
  unfold atB
  rw [Lib.extract_to_end, List.getD_eq_getElem?_getD, List.getD_eq_getElem?_getD, List.getElem?_drop]
theorem hexB_tail (s : ByteArray) (k : Nat) (h : k ≤ s.size) : hexB (s.extract k s.size) =
    if k + 2 < s.size ∧ atB s k = 120 ∧ 0 ≤ dig (atB s (k + 1)) ∧ 0 ≤ dig (atB s (k + 2)) then some (16 * dig (atB s (k + 1)) + dig (atB s (k + 2))) else none := by
  unfold hexB
  rw [atB_tail s k 0, atB_tail s k 1, atB_tail s k 2, Nat.add_zero]
  have e : (s.extract k s.size).size = s.size - k := by simp
  rw [e]
  by_cases h1 : k + 2 < s.size
  · have h2 : 3 ≤ s.size - k := by omega
    simp only [h1, h2, true_and]
  · have h2 : ¬ 3 ≤ s.size - k := by omega
    simp only [h1, h2, false_and, if_false]

set_option maxHeartbeats 2000000 in
theorem unescape_out (s : ByteArray) (hs : s.size ≤ 1000000) (at_ : Int) (h : at_ < 0 ∨ s.size ≤ at_) (w : World) :
    Calls Tryz.prog 148 #[.string s, .int .i64 at_] w fun e w' => e = .returned (unV none at_) ∧ w = w' := by
  rcases h with h | h
  · go_enter Tryz.func148, Tryz.ntmps148
    go_wp2
    go_ret3
    exact ⟨rfl, rfl⟩
  · have h' : ¬ at_ < 0 := by omega
    go_enter Tryz.func148, Tryz.ntmps148
    go_wp2
    go_ret3
    exact ⟨rfl, rfl⟩

set_option maxHeartbeats 4000000 in
theorem unescape_in (s : ByteArray) (hs : s.size ≤ 1000000) (k : Nat) (hk : k < s.size) (w : World) :
    Calls Tryz.prog 148 #[.string s, .int .i64 k] w fun e w' => e = .returned (unV (un s k) k) ∧ Below w.heap.size w w' := by
  have e0 := atB_eq s k hk
  have hlt : (k : Int) < s.size := by omega
  by_cases h1 : atB s k < 32
  · have e : un s k = none := by unfold un; rw [if_pos (.inl h1)]
    have E := Lib.hid e
    have x : (s[k].toNat : Int) < 32 := by omega
    clear e e0 h1
    go_enter Tryz.func148, Tryz.ntmps148
    go_wp2
    go_ret3
    rw [E.out]
    exact ⟨rfl, Below.refl _ _⟩
  by_cases h2 : 126 < atB s k
  · have e : un s k = none := by unfold un; rw [if_pos (.inr h2)]
    have E := Lib.hid e
    have x1 : ¬ (s[k].toNat : Int) < 32 := by omega
    have x : 126 < (s[k].toNat : Int) := by omega
    clear e e0 h1 h2
    go_enter Tryz.func148, Tryz.ntmps148
    go_wp2
    go_ret3
    rw [E.out]
    exact ⟨rfl, Below.refl _ _⟩
  have x1 : ¬ (s[k].toNat : Int) < 32 := by omega
  have x2 : ¬ 126 < (s[k].toNat : Int) := by omega
  by_cases h3 : atB s k = 92
  · have x3 : ((s[k].toNat : Int) != 92) = false := by rw [bne_eq_false_iff_eq]; omega
    clear e0 h1 h2
    have Hn : Hid (un s k = if s.size ≤ k + 1 then none else if isByteL (atB s (k + 1)) = true then some (byteL (atB s (k + 1)), (k : Int) + 2) else if k + 3 < s.size ∧ atB s (k + 1) = 120 ∧ 0 ≤ dig (atB s (k + 2)) ∧ 0 ≤ dig (atB s (k + 3)) then some (16 * dig (atB s (k + 2)) + dig (atB s (k + 3)), (k : Int) + 4) else none) :=
      Lib.hid (by unfold un; rw [if_neg (by omega), if_neg (by omega)])
    clear h3
    by_cases h4 : s.size ≤ k + 1
    · have hem : (s.extract (k + 1) s.size).toList.isEmpty = true := by
        rw [ByteArray.toList_eq, Lib.extract_to_end, List.isEmpty_iff, List.drop_eq_nil_iff, Array.length_toList]; exact h4
      go_enter Tryz.func148, Tryz.ntmps148
      go_wp2
      go_ret3
      rw [Hn.out, if_pos h4]
      exact ⟨rfl, Below.refl _ _⟩
    · have hem : (s.extract (k + 1) s.size).toList.isEmpty = false := by
        rw [ByteArray.toList_eq, Lib.extract_to_end, List.isEmpty_eq_false_iff, ne_eq, List.drop_eq_nil_iff, Array.length_toList]; exact h4
      have hsz : (s.extract (k + 1) s.size).size = s.size - (k + 1) := by simp
      have hpos : 0 < (s.extract (k + 1) s.size).size := by omega
      have t0 : ((s.extract (k + 1) s.size)[0].toNat : Int) = atB s (k + 1) := by
        rw [← atB_eq _ 0 hpos, atB_tail s (k + 1) 0, Nat.add_zero]
      have T0 := Lib.hid t0
      have hx := hexB_tail s (k + 1) (by omega)
      have Hx := Lib.hid hx
      have hp2 : 0 < s.size - (k + 1) := by omega
      clear t0 hx hsz
      by_cases h5 : isByteL (atB s (k + 1)) = true
      · have q : isByteL ((s.extract (k + 1) s.size)[0].toNat : Int) = true := by rw [T0.out]; exact h5
        have H5 := Lib.hid h5
        clear h5
        go_enter Tryz.func148, Tryz.ntmps148
        go_wp2_with (go_at_call 158; refine (byteof_any _ _).mono ?_; rintro e w1 ⟨rfl, hb1⟩)
        go_ret3
        rw [Hn.out, if_neg h4, if_pos H5.out, ← T0.out]
        exact ⟨rfl, by assumption⟩
      · have q : isByteL ((s.extract (k + 1) s.size)[0].toNat : Int) = false := by rw [T0.out]; simpa using h5
        have H5 := Lib.hid h5
        clear h5
        by_cases h6 : k + 3 < s.size ∧ atB s (k + 1) = 120 ∧ 0 ≤ dig (atB s (k + 2)) ∧ 0 ≤ dig (atB s (k + 3))
        · have e : hexB (s.extract (k + 1) s.size) = some (16 * dig (atB s (k + 2)) + dig (atB s (k + 3))) := by
            rw [Hx.out, if_pos (by simpa [Nat.add_assoc] using h6)]
          have E := Lib.hid e
          have H6 := Lib.hid h6
          clear e h6
          go_enter Tryz.func148, Tryz.ntmps148
          go_wp2_with (first | (go_at_call 158; refine (byteof_any _ _).mono ?_; rintro e w1 ⟨rfl, hb1⟩) | (go_at_call 159; refine (hexof_any _ (by simp; omega) _).mono ?_; rw [E.out]; rintro e w2 ⟨rfl, hb2⟩; unfold hexV))
          go_ret3
          rw [Hn.out, if_neg h4, if_neg H5.out, if_pos H6.out]
          exact ⟨rfl, Below.trans (by assumption) (Below.mono (by assumption) (Below.size (by assumption)))⟩
        · have e : hexB (s.extract (k + 1) s.size) = none := by
            rw [Hx.out, if_neg (by simpa [Nat.add_assoc] using h6)]
          have E := Lib.hid e
          have H6 := Lib.hid h6
          clear e h6
          go_enter Tryz.func148, Tryz.ntmps148
          go_wp2_with (first | (go_at_call 158; refine (byteof_any _ _).mono ?_; rintro e w1 ⟨rfl, hb1⟩) | (go_at_call 159; refine (hexof_any _ (by simp; omega) _).mono ?_; rw [E.out]; rintro e w2 ⟨rfl, hb2⟩; unfold hexV))
          go_ret3
          rw [Hn.out, if_neg h4, if_neg H5.out, if_neg H6.out]
          exact ⟨rfl, Below.trans (by assumption) (Below.mono (by assumption) (Below.size (by assumption)))⟩
  · have e : un s k = some ((s[k].toNat : Int), (k : Int) + 1) := by unfold un; rw [if_neg (by omega), if_pos h3, e0]
    have E := Lib.hid e
    have x3 : ((s[k].toNat : Int) != 92) = true := by rw [bne_iff_ne]; omega
    clear e e0 h1 h2 h3
    go_enter Tryz.func148, Tryz.ntmps148
    go_wp2
    go_ret3
    rw [E.out]
    exact ⟨rfl, Below.refl _ _⟩
end Go.Proofs.YtkdhoelabomgkaaGreatDoor
