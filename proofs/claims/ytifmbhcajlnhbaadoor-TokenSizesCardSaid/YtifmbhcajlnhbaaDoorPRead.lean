/-
  Layer 2, the program's side: one token, but for texts.
-/
import Derived.Test.YtifmbhcajlnhbaaDoorPSkip
import Derived.OwnWalk
namespace Go.Proofs.YtifmbhcajlnhbaaDoor
set_option linter.unusedVariables false
open Go.ChangeShapes Go.WideShapes Go.ChangeAt Go.RowKit

/-- a token's cells -/
abbrev tkC (k a f : Int) (t : ByteArray) (n : Int) : Array Value := #[.int .i64 k, .int .i64 a, .int .i64 f, .string t, .int .i64 n]
/-- what read and its like tell -/
def rdV (r : Tk ⊕ (Nat × Int)) : Value := .tuple #[.agg #[.int .i64 (tkOf r).kind, .int .i64 (tkOf r).at_, .int .i64 (tkOf r).fin, .string (tkOf r).text, .int .i64 (tkOf r).n], .int .i64 (erOf r)]
theorem ret_rd {r : Tk ⊕ (Nat × Int)} {x : Tk ⊕ (Nat × Int)} (h : r = x) : Ending.returned (rdV x) = .returned (rdV r) := by rw [h]

theorem row_store (w : World) (N : Nat) (old cs : Array Value) (t : TypeId) (h : w.heap[N]? = some (.cells old t (0, 0))) : (w.setRow N cs).heap[N]? = some (.cells cs t (0, 0)) := setRow_heap w N old cs t (0, 0) h
theorem below_row {B : Nat} {w w' : World} (h : Below B w w') (g : Nat) (cs : Array Value) (hg : B ≤ g) : Below B w (w'.setRow g cs) :=
  ⟨h.os, h.tape, h.output, by have := h.size; simpa [World.setRow] using this, fun k hk => by rw [setRow_other w' g k cs (by omega)]; exact h.block k hk⟩
theorem cells5 {w : World} {g : Nat} {a b c d e : Value} {t : TypeId} {fr : Nat × Nat} (h : w.heap[g]? = some (.cells #[a, b, c, d, e] t fr)) :
    w.cell? ⟨g, 0, none⟩ = some a ∧ w.cell? ⟨g, 1, none⟩ = some b ∧ w.cell? ⟨g, 2, none⟩ = some c ∧ w.cell? ⟨g, 3, none⟩ = some d ∧ w.cell? ⟨g, 4, none⟩ = some e :=
  ⟨by rw [cell_of_row w g 0 _ t fr h]; rfl, by rw [cell_of_row w g 1 _ t fr h]; rfl, by rw [cell_of_row w g 2 _ t fr h]; rfl, by rw [cell_of_row w g 3 _ t fr h]; rfl, by rw [cell_of_row w g 4 _ t fr h]; rfl⟩

/-- the row that a call lays first, behind a callee that leaves what was there: as it was laid -/
theorem first_row {w w1 : World} {o : Obj} (hb : Below (w.alloc o).heap.size (w.alloc o) w1) : w1.heap[w.heap.size]? = some o ∧ Below w.heap.size w w1 :=
  ⟨(hb.block w.heap.size (by simp)).trans (heap_alloc_new w o), ((Below.refl w.heap.size w).alloc (Nat.le_refl _) o).trans (hb.mono (by simp))⟩

/-- a token is stored into a row of tokens, of the call's own -/
theorem store_tk {ops : Array Oper} {rest : List Oper} {o : Oper} {a : Act} {w0 w : World} {Q : Exit → Act → World → Prop} (k i f : Int) (t : ByteArray) (n : Int) (B N : Nat) (old : Array Value)
    (hN : w.heap[N]? = some (.cells old 40 (0, 0))) (hb : Below B w0 w) (hBN : B ≤ N) (hold : old.size = 5) (hgd : o.guard = none) (x y : Operand) (ho : o.op = .store 40 x y)
    (hx : a.eval x = .pointer (some ⟨N, 0, none⟩)) (hy : a.eval y = .agg (tkC k i f t n))
    (h : ∀ W2, W2.heap[N]? = some (.cells (tkC k i f t n) 40 (0, 0)) → Below B w0 W2 → wpList Tryd.prog ops Q rest (a.put o.dst undef) W2) : wpList Tryd.prog ops Q (o :: rest) a w :=
  wpList_store_row hgd 40 x y ho N (tkC k i f t n) hx hy 40 old hN (by kernel_rfl) hold (by simp [Value.oneCell']) (h _ (row_store w N old _ _ hN) (below_row hb _ _ hBN))

/-- no token yet -/
abbrev zTk : Obj := .cells #[.int .i64 0, .int .i64 0, .int .i64 0, .string ⟨#[]⟩, .int .i64 0] 40 (0, 0)

set_option maxHeartbeats 2000000 in
theorem fault_any (i x : Int) (w : World) :
    Calls Tryd.prog 57 #[.int .i64 i, .int .i64 x] w fun e w' => e = .returned (.tuple #[.agg #[.int .i64 0, .int .i64 i, .int .i64 0, .string ⟨#[]⟩, .int .i64 0], .int .i64 x]) ∧ Below w.heap.size w w' := by
  go_enter Tryd.func57, Tryd.ntmps57
  go_wp2
  exact bodyPost_ret (v := .tuple #[.agg #[.int .i64 0, .int .i64 i, .int .i64 0, .string ⟨#[]⟩, .int .i64 0], .int .i64 x]) (by simp [results, Tryd.results57, go_sem]) rfl ⟨rfl, (Below.refl _ _).alloc (Nat.le_refl _) _⟩

theorem clone_any (s : ByteArray) (hs : s.size ≤ 281474976710656) (w : World) : Calls Tryd.prog 67 #[.string s] w fun e w' => e = .returned (.string s) ∧ Below w.heap.size w w' := by
  go_enter Tryd.func67, Tryd.ntmps67
  go_wp2_with (go_at_call 76; refine (Tryd.stringslite_Clone _ _ hs).mono ?_; rintro e w1 ⟨rfl, hb1⟩)
  go_wp2
  go_ret
  exact ⟨rfl, hb1⟩

set_option maxHeartbeats 2000000 in
set_option maxRecDepth 100000 in
theorem plain_any (k : Int) (s : ByteArray) (hs : s.size ≤ 1000000) (i j : Nat) (a b : Int) (ha : a = i) (hb : b = j) (hij : i ≤ j) (hj : j ≤ s.size) (w : World) :
    Calls Tryd.prog 56 #[.int .i64 k, .string s, .int .i64 a, .int .i64 b] w fun e w' => e = .returned (.agg #[.int .i64 k, .int .i64 i, .int .i64 j, .string (s.extract i j), .int .i64 0]) ∧ Below w.heap.size w w' := by
  subst ha
  subst hb
  go_enter Tryd.func56, Tryd.ntmps56
  go_wp2_with fail
  refine (clone_any _ (by simp; omega) _).mono ?_
  rintro e w1 ⟨rfl, hb1⟩
  obtain ⟨h0, hb⟩ := first_row hb1
  go_wp2_with (refine store_tk k i j (s.extract i j) 0 w.heap.size w.heap.size _ h0 hb (Nat.le_refl _) rfl rfl _ _ rfl rfl rfl ?_; intro W2 k0 hb2)
  obtain ⟨a0, a1, a2, a3, a4⟩ := cells5 k0
  exact bodyPost_ret (v := .agg #[.int .i64 k, .int .i64 i, .int .i64 j, .string (s.extract i j), .int .i64 0]) (by simp [results, Tryd.results56, go_sem, a0, a1, a2, a3, a4]) rfl ⟨rfl, hb2⟩

theorem kind_cut {s : ByteArray} {i j : Nat} (hi : i < j) (hj : j ≤ s.size) (hc : cls (atB s i) = 3 ∨ cls (atB s i) = 4) : kindN (s.extract i j) = if inL keysL (s.extract i j) = true then 8 else if cls (atB s i) = 3 then 1 else 2 := by
  have e : atB (s.extract i j) 0 = atB s i := by
    unfold atB
    rw [Lib.extract_data, List.getD_eq_getElem?_getD, List.getD_eq_getElem?_getD, List.getElem?_take_of_lt (by omega), List.getElem?_drop]
    simp
  unfold kindN
  rw [e]
  rcases hc with h | h
  · rw [h]; rfl
  · rw [h]; rfl

set_option maxHeartbeats 4000000 in
set_option maxRecDepth 100000 in
theorem pname_bad (s : ByteArray) (hs : s.size ≤ 1000000) (p : Nat) (hi : p + 1 < s.size) (hc : cls (atB s p) = 2) (w : World) :
    Calls Tryd.prog 52 #[.string s, .int .i64 (p + 1 : Nat)] w fun e w' => e = .returned (rdV (.inr (p + 1, 20))) ∧ Below w.heap.size w w' := by
  have q : (cls (atB s p) == 2) = true := by rw [beq_iff_eq]; exact hc
  go_enter Tryd.func52, Tryd.ntmps52
  go_wp2_with fail
  refine (class_at s p (by omega) _).mono ?_
  rintro e w' ⟨rfl, rfl⟩
  go_wp2_with fail
  refine (fault_any _ _ _).mono ?_
  rintro e w1 ⟨rfl, hb1⟩
  obtain ⟨h0, hb⟩ := first_row hb1
  go_wp2_with (refine store_tk 0 (p + 1 : Nat) 0 ⟨#[]⟩ 0 w.heap.size w.heap.size _ h0 hb (Nat.le_refl _) rfl rfl _ _ rfl rfl rfl ?_; intro W2 k0 hb2)
  obtain ⟨a0, a1, a2, a3, a4⟩ := cells5 k0
  refine bodyPost_ret (v := .tuple #[.agg #[.int .i64 0, .int .i64 (p + 1 : Nat), .int .i64 0, .string ⟨#[]⟩, .int .i64 0], .int .i64 20]) (by simp [results, Tryd.results52, go_sem, a0, a1, a2, a3, a4]) rfl ⟨?_, hb2⟩
  rfl

/-- no Digit stands right ahead of the place -/
def NoDig (s : ByteArray) (i : Nat) : Prop := i = 0 ∨ cls (atB s (i - 1)) ≠ 2

set_option maxHeartbeats 4000000 in
set_option maxRecDepth 100000 in
theorem pname_zero (s : ByteArray) (hs : s.size ≤ 1000000) (hi : 0 < s.size) (hc : cls (atB s 0) = 3 ∨ cls (atB s 0) = 4) (w : World) :
    Calls Tryd.prog 52 #[.string s, .int .i64 0] w fun e w' => e = .returned (rdV (nameAt s 0)) ∧ Below w.heap.size w w' := by
  have hw := wordEnd_more hi (cls34 hc)
  by_cases hl : 32 < wordEnd s 0
  · have HN : Hid (nameAt s 0 = .inr (0, 6)) := Lib.hid (by unfold nameAt; rw [if_pos (by omega)])
    go_enter Tryd.func52, Tryd.ntmps52
    go_wp2_with fail
    refine (pend_any s hs 0 (by omega) _).mono ?_
    rintro e w' ⟨rfl, rfl⟩
    go_wp2_with fail
    refine (fault_any _ _ _).mono ?_
    rintro e w1 ⟨rfl, hb1⟩
    obtain ⟨h0, hb⟩ := first_row hb1
    go_wp2_with (refine store_tk 0 0 0 ⟨#[]⟩ 0 w.heap.size w.heap.size _ h0 hb (Nat.le_refl _) rfl rfl _ _ rfl rfl rfl ?_; intro W2 k0 hb2)
    obtain ⟨a0, a1, a2, a3, a4⟩ := cells5 k0
    refine bodyPost_ret (v := .tuple #[.agg #[.int .i64 0, .int .i64 0, .int .i64 0, .string ⟨#[]⟩, .int .i64 0], .int .i64 6]) (by simp [results, Tryd.results52, go_sem, a0, a1, a2, a3, a4]) rfl ⟨?_, hb2⟩
    rw [HN.out]; rfl
  · have HN : Hid (nameAt s 0 = .inl ⟨kindN (s.extract 0 (wordEnd s 0)), 0, wordEnd s 0, s.extract 0 (wordEnd s 0), 0⟩) := Lib.hid (by unfold nameAt; rw [if_neg (by omega), kind_cut hw.1 hw.2 hc])
    go_enter Tryd.func52, Tryd.ntmps52
    go_wp2_with fail
    refine (pend_any s hs 0 (by omega) _).mono ?_
    rintro e w' ⟨rfl, rfl⟩
    go_wp2_with fail
    refine (pkind_any _ (by simp; omega) _).mono ?_
    rintro e w' ⟨rfl, rfl⟩
    go_wp2_with fail
    refine (plain_any _ s hs 0 (wordEnd s 0) _ _ rfl rfl (by omega) hw.2 _).mono ?_
    rintro e w1 ⟨rfl, hb1⟩
    obtain ⟨h0, hb⟩ := first_row hb1
    go_wp2_with (refine store_tk (kindN (s.extract 0 (wordEnd s 0))) (0 : Nat) (wordEnd s 0) (s.extract 0 (wordEnd s 0)) 0 w.heap.size w.heap.size _ h0 hb (Nat.le_refl _) rfl rfl _ _ rfl rfl rfl ?_; intro W2 k0 hb2)
    obtain ⟨a0, a1, a2, a3, a4⟩ := cells5 k0
    refine bodyPost_ret (v := .tuple #[.agg #[.int .i64 (kindN (s.extract 0 (wordEnd s 0))), .int .i64 (0 : Nat), .int .i64 (wordEnd s 0), .string (s.extract 0 (wordEnd s 0)), .int .i64 0], .int .i64 0]) (by simp [results, Tryd.results52, go_sem, a0, a1, a2, a3, a4]) rfl ⟨?_, hb2⟩
    rw [HN.out]; rfl

set_option maxHeartbeats 4000000 in
set_option maxRecDepth 100000 in
theorem pname_more (s : ByteArray) (hs : s.size ≤ 1000000) (p : Nat) (hi : p + 1 < s.size) (hp : cls (atB s p) ≠ 2) (hc : cls (atB s (p + 1)) = 3 ∨ cls (atB s (p + 1)) = 4) (w : World) :
    Calls Tryd.prog 52 #[.string s, .int .i64 (p + 1 : Nat)] w fun e w' => e = .returned (rdV (nameAt s (p + 1))) ∧ Below w.heap.size w w' := by
  have q : (cls (atB s p) == 2) = false := by rw [beq_eq_false_iff_ne]; exact hp
  have hw := wordEnd_more hi (cls34 hc)
  have hlim : wordEnd s (p + 1) ≤ 1000000 := by omega
  by_cases hl : 32 < wordEnd s (p + 1) - (p + 1)
  · have HN : Hid (nameAt s (p + 1) = .inr (p + 1, 6)) := Lib.hid (by unfold nameAt; rw [if_pos (by omega)])
    have hl2 : 32 < (wordEnd s (p + 1) : Int) - (p + 1) := by omega
    go_enter Tryd.func52, Tryd.ntmps52
    go_wp2_with fail
    refine (class_at s p (by omega) _).mono ?_
    rintro e w' ⟨rfl, rfl⟩
    go_wp2_with fail
    refine (pend_any s hs (p + 1) (by omega) _).mono ?_
    rintro e w' ⟨rfl, rfl⟩
    go_wp2_with fail
    refine (fault_any _ _ _).mono ?_
    rintro e w1 ⟨rfl, hb1⟩
    obtain ⟨h0, hb⟩ := first_row hb1
    go_wp2_with (refine store_tk 0 (p + 1 : Nat) 0 ⟨#[]⟩ 0 w.heap.size w.heap.size _ h0 hb (Nat.le_refl _) rfl rfl _ _ rfl rfl rfl ?_; intro W2 k0 hb2)
    obtain ⟨a0, a1, a2, a3, a4⟩ := cells5 k0
    refine bodyPost_ret (v := .tuple #[.agg #[.int .i64 0, .int .i64 (p + 1 : Nat), .int .i64 0, .string ⟨#[]⟩, .int .i64 0], .int .i64 6]) (by simp [results, Tryd.results52, go_sem, a0, a1, a2, a3, a4]) rfl ⟨?_, hb2⟩
    rw [HN.out]; rfl
  · have HN : Hid (nameAt s (p + 1) = .inl ⟨kindN (s.extract (p + 1) (wordEnd s (p + 1))), p + 1, wordEnd s (p + 1), s.extract (p + 1) (wordEnd s (p + 1)), 0⟩) := Lib.hid (by unfold nameAt; rw [if_neg (by omega), kind_cut hw.1 hw.2 hc])
    have hl2 : ¬ 32 < (wordEnd s (p + 1) : Int) - (p + 1) := by omega
    go_enter Tryd.func52, Tryd.ntmps52
    go_wp2_with fail
    refine (class_at s p (by omega) _).mono ?_
    rintro e w' ⟨rfl, rfl⟩
    go_wp2_with fail
    refine (pend_any s hs (p + 1) (by omega) _).mono ?_
    rintro e w' ⟨rfl, rfl⟩
    go_wp2_with fail
    refine (pkind_any _ (by simp; omega) _).mono ?_
    rintro e w' ⟨rfl, rfl⟩
    go_wp2_with fail
    refine (plain_any _ s hs (p + 1) (wordEnd s (p + 1)) _ _ rfl rfl (by omega) hw.2 _).mono ?_
    rintro e w1 ⟨rfl, hb1⟩
    obtain ⟨h0, hb⟩ := first_row hb1
    go_wp2_with (refine store_tk (kindN (s.extract (p + 1) (wordEnd s (p + 1)))) (p + 1 : Nat) (wordEnd s (p + 1)) (s.extract (p + 1) (wordEnd s (p + 1))) 0 w.heap.size w.heap.size _ h0 hb (Nat.le_refl _) rfl rfl _ _ rfl rfl rfl ?_; intro W2 k0 hb2)
    obtain ⟨a0, a1, a2, a3, a4⟩ := cells5 k0
    refine bodyPost_ret (v := .tuple #[.agg #[.int .i64 (kindN (s.extract (p + 1) (wordEnd s (p + 1)))), .int .i64 (p + 1 : Nat), .int .i64 (wordEnd s (p + 1)), .string (s.extract (p + 1) (wordEnd s (p + 1))), .int .i64 0], .int .i64 0]) (by simp [results, Tryd.results52, go_sem, a0, a1, a2, a3, a4]) rfl ⟨?_, hb2⟩
    rw [HN.out]; rfl

/-- a Name, as the program reads it -/
theorem pname_any (s : ByteArray) (hs : s.size ≤ 1000000) (i : Nat) (hi : i < s.size) (hc : cls (atB s i) = 3 ∨ cls (atB s i) = 4) (w : World) :
    Calls Tryd.prog 52 #[.string s, .int .i64 i] w fun e w' => e = .returned (rdV (nameP s i)) ∧ Below w.heap.size w w' := by
  cases i with
  | zero =>
    rw [show nameP s 0 = nameAt s 0 by unfold nameP; rw [if_neg (by omega)]]
    exact pname_zero s hs hi hc w
  | succ p =>
    by_cases h : cls (atB s p) = 2
    · rw [show nameP s (p + 1) = .inr (p + 1, 20) by unfold nameP; rw [if_pos ⟨by omega, h⟩]]
      exact pname_bad s hs p hi h w
    · rw [show nameP s (p + 1) = nameAt s (p + 1) by unfold nameP; rw [if_neg (fun h' => h h'.2)]]
      exact pname_more s hs p hi h hc w

/-- the longest op of at most n bytes -/
def opFrom (s : ByteArray) (i : Nat) : Nat → Tk ⊕ (Nat × Int)
  | 0 => .inr (i, 20)
  | n + 1 => if inL opsL (s.extract i (i + (n + 1))) = true then .inl ⟨6, i, i + (n + 1), s.extract i (i + (n + 1)), 0⟩ else opFrom s i n
theorem opFrom_succ (s : ByteArray) (i n : Nat) : opFrom s i (n + 1) = if inL opsL (s.extract i (i + (n + 1))) = true then .inl ⟨6, i, i + (n + 1), s.extract i (i + (n + 1)), 0⟩ else opFrom s i n := rfl
theorem opAt_from (s : ByteArray) (i : Nat) (hi : i < s.size) : opAt s i = opFrom s i (min 2 (s.size - i)) := by
  unfold opAt
  by_cases h : i + 2 ≤ s.size
  · rw [show min 2 (s.size - i) = 1 + 1 from by omega, opFrom_succ, opFrom_succ]
    by_cases h2 : inL opsL (s.extract i (i + 2)) = true
    · rw [if_pos ⟨h, h2⟩, if_pos h2]
    · rw [if_neg (fun h' => h2 h'.2), if_neg h2]
      rfl
  · rw [show min 2 (s.size - i) = 0 + 1 from by omega, opFrom_succ, if_neg (fun h' => h h'.1)]
    rfl

set_option maxHeartbeats 4000000 in
set_option maxRecDepth 100000 in
theorem pop_any (s : ByteArray) (hs : s.size ≤ 1000000) (i : Nat) (hi : i < s.size) (w : World) :
    Calls Tryd.prog 55 #[.string s, .int .i64 i] w fun e w' => e = .returned (rdV (opAt s i)) ∧ Below w.heap.size w w' := by
  have HF := Lib.hid (opAt_from s i hi)
  go_enter Tryd.func55, Tryd.ntmps55
  go_wp2
  go_loop [6] (fun nv => ∃ n : Nat, i + n ≤ s.size ∧ n ≤ 2 ∧ nv = .int .i64 n ∧ Hid (opAt s i = opFrom s i n)) (fun nv => (intOf nv).toNat)
  case atStart => exact ⟨min 2 (s.size - i), by omega, by omega, by first | (congr 1; omega) | (simp; omega), HF⟩
  case round =>
    obtain ⟨n, hn, hn2, rfl, H⟩ := hrel
    cases n with
    | zero =>
      go_wp2_with fail
      refine (fault_any _ _ _).mono ?_
      rintro e w1 ⟨rfl, hb1⟩
      obtain ⟨h0, hb⟩ := first_row hb1
      go_wp2_with (refine store_tk 0 i 0 ⟨#[]⟩ 0 w.heap.size w.heap.size _ h0 hb (Nat.le_refl _) rfl rfl _ _ rfl rfl rfl ?_; intro W2 k0 hb2)
      obtain ⟨a0, a1, a2, a3, a4⟩ := cells5 k0
      refine bodyPost_ret (v := .tuple #[.agg #[.int .i64 0, .int .i64 i, .int .i64 0, .string ⟨#[]⟩, .int .i64 0], .int .i64 20]) (by simp [results, Tryd.results55, go_sem, a0, a1, a2, a3, a4]) rfl ⟨?_, hb2⟩
      rw [H.out]; rfl
    | succ n =>
      by_cases ho : inL opsL (s.extract i (i + (n + 1))) = true
      · have HN : Hid (opAt s i = .inl ⟨6, i, i + (n + 1), s.extract i (i + (n + 1)), 0⟩) := Lib.hid (by rw [H.out, opFrom_succ, if_pos ho])
        go_wp2_with fail
        refine (psign_any _ _).mono ?_
        rintro e w' ⟨rfl, rfl⟩
        go_wp2_with fail
        refine (plain_any _ s hs i (i + (n + 1)) _ _ rfl (by omega) (by omega) hn _).mono ?_
        rintro e w1 ⟨rfl, hb1⟩
        obtain ⟨h0, hb⟩ := first_row hb1
        go_wp2_with (refine store_tk 6 i (i + (n + 1) : Nat) (s.extract i (i + (n + 1))) 0 w.heap.size w.heap.size _ h0 hb (Nat.le_refl _) rfl rfl _ _ rfl rfl rfl ?_; intro W2 k0 hb2)
        obtain ⟨a0, a1, a2, a3, a4⟩ := cells5 k0
        refine bodyPost_ret (v := .tuple #[.agg #[.int .i64 6, .int .i64 i, .int .i64 (i + (n + 1) : Nat), .string (s.extract i (i + (n + 1))), .int .i64 0], .int .i64 0]) (by simp [results, Tryd.results55, go_sem, a0, a1, a2, a3, a4]) rfl ⟨?_, hb2⟩
        rw [HN.out]; rfl
      · have ho' : inL opsL (s.extract i (i + (n + 1))) = false := by simpa using ho
        have HN := Lib.hid (H.out.trans (show opFrom s i (n + 1) = opFrom s i n by rw [opFrom_succ, if_neg ho]))
        clear ho
        go_wp2_with fail
        refine (psign_any _ _).mono ?_
        rintro e w' ⟨rfl, rfl⟩
        go_wp2
        go_round
        case rel => exact ⟨n, by omega, by omega, by go_num, HN⟩
        case measure => simp [intOf]
end Go.Proofs.YtifmbhcajlnhbaaDoor
