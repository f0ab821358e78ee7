/-
  glyph.letterOf and glyph.byteOf: the short escapes, there and back.
-/
import Derived.Test.YtifmbhcajlnhbaaDoorClass
import Derived.Lib.Hide
import Derived.Outline
namespace Go.Proofs.YtifmbhcajlnhbaaDoor
open Go.ChangeShapes Go.WideShapes Go.ChangeAt Go.RowKit

abbrev shortsV : Value := .agg #[.int .u8 10, .int .u8 110, .int .u8 9, .int .u8 116, .int .u8 92, .int .u8 92, .int .u8 39, .int .u8 39, .int .u8 34, .int .u8 34]
abbrev shortsO : Obj := .cells #[.int .u8 10, .int .u8 110, .int .u8 9, .int .u8 116, .int .u8 92, .int .u8 92, .int .u8 39, .int .u8 39, .int .u8 34, .int .u8 34] 102

set_option maxHeartbeats 1000000 in
set_option maxRecDepth 100000 in
theorem shorts_any (w : World) : Calls Tryd.prog 77 #[] w fun e w' => e = .returned shortsV ∧ w.alloc shortsO = w' := by
  go_enter Tryd.func77, Tryd.ntmps77
  go_wp2
  exact bodyPost_ret (v := shortsV) (by simp [results, Tryd.results77, go_sem]) rfl ⟨rfl, rfl⟩

def shortL (c : Int) : Int := if c = 10 then 110 else if c = 9 then 116 else if c = 92 then 92 else if c = 39 then 39 else if c = 34 then 34 else 0
def isShort (c : Int) : Bool := decide (c = 10 ∨ c = 9 ∨ c = 92 ∨ c = 39 ∨ c = 34)
def byteL (c : Int) : Int := if c = 110 then 10 else if c = 116 then 9 else if c = 92 then 92 else if c = 39 then 39 else if c = 34 then 34 else 0
def isByteL (c : Int) : Bool := decide (c = 110 ∨ c = 116 ∨ c = 92 ∨ c = 39 ∨ c = 34)
theorem ret_two {k : IntKind} {a b : Int} {x y : Bool} (h : a = b) (h' : x = y) : Ending.returned (.tuple #[.int k a, .bool x]) = .returned (.tuple #[.int k b, .bool y]) := by rw [h, h']

set_option maxHeartbeats 4000000 in
set_option maxRecDepth 100000 in
theorem letter_any (c : Int) (w : World) :
    Calls Tryd.prog 69 #[.int .u8 c] w fun e w' => e = .returned (.tuple #[.int .u8 (shortL c), .bool (isShort c)]) ∧ Below w.heap.size w w' := by
  have i0 : ∀ w, (Instr.index 102 shortsV (.int .i64 0)).run Tryd.prog w = .ok (.agg #[.int .u8 10, .int .u8 110]) w := fun _ => by as_aux_lemma => kernel_rfl
  have i1 : ∀ w, (Instr.index 102 shortsV (.int .i64 1)).run Tryd.prog w = .ok (.agg #[.int .u8 9, .int .u8 116]) w := fun _ => by as_aux_lemma => kernel_rfl
  have i2 : ∀ w, (Instr.index 102 shortsV (.int .i64 2)).run Tryd.prog w = .ok (.agg #[.int .u8 92, .int .u8 92]) w := fun _ => by as_aux_lemma => kernel_rfl
  have i3 : ∀ w, (Instr.index 102 shortsV (.int .i64 3)).run Tryd.prog w = .ok (.agg #[.int .u8 39, .int .u8 39]) w := fun _ => by as_aux_lemma => kernel_rfl
  have i4 : ∀ w, (Instr.index 102 shortsV (.int .i64 4)).run Tryd.prog w = .ok (.agg #[.int .u8 34, .int .u8 34]) w := fun _ => by as_aux_lemma => kernel_rfl
  go_enter Tryd.func69, Tryd.ntmps69
  go_wp2_with fail
  refine (shorts_any _).mono ?_
  rintro e w' ⟨rfl, rfl⟩
  go_wp2
  refine wp_loop_rounds 6 ?_
  rw [rounds_succ]
  go_wp2
  · go_ret2
    have e : ((10 : Int) == c) = true := by assumption
    rw [beq_iff_eq] at e
    subst e
    exact ⟨ret_two rfl rfl, ((Below.refl _ _).alloc (Nat.le_refl _) _).alloc (by first | (simp; done) | (simp; omega)) _⟩
  rw [rounds_succ]
  go_wp2
  · go_ret2
    have e : ((9 : Int) == c) = true := by assumption
    rw [beq_iff_eq] at e
    subst e
    exact ⟨ret_two rfl rfl, (((Below.refl _ _).alloc (Nat.le_refl _) _).alloc (by first | (simp; done) | (simp; omega)) _).alloc (by first | (simp; done) | (simp; omega)) _⟩
  rw [rounds_succ]
  go_wp2
  · go_ret2
    have e : ((92 : Int) == c) = true := by assumption
    rw [beq_iff_eq] at e
    subst e
    exact ⟨ret_two rfl rfl, ((((Below.refl _ _).alloc (Nat.le_refl _) _).alloc (by first | (simp; done) | (simp; omega)) _).alloc (by first | (simp; done) | (simp; omega)) _).alloc (by first | (simp; done) | (simp; omega)) _⟩
  rw [rounds_succ]
  go_wp2
  · go_ret2
    have e : ((39 : Int) == c) = true := by assumption
    rw [beq_iff_eq] at e
    subst e
    exact ⟨ret_two rfl rfl, (((((Below.refl _ _).alloc (Nat.le_refl _) _).alloc (by first | (simp; done) | (simp; omega)) _).alloc (by first | (simp; done) | (simp; omega)) _).alloc (by first | (simp; done) | (simp; omega)) _).alloc (by first | (simp; done) | (simp; omega)) _⟩
  rw [rounds_succ]
  go_wp2
  · go_ret2
    have e : ((34 : Int) == c) = true := by assumption
    rw [beq_iff_eq] at e
    subst e
    exact ⟨ret_two rfl rfl, ((((((Below.refl _ _).alloc (Nat.le_refl _) _).alloc (by first | (simp; done) | (simp; omega)) _).alloc (by first | (simp; done) | (simp; omega)) _).alloc (by first | (simp; done) | (simp; omega)) _).alloc (by first | (simp; done) | (simp; omega)) _).alloc (by first | (simp; done) | (simp; omega)) _⟩
  rw [rounds_succ]
  go_wp2
  go_ret2
  refine ⟨ret_two ?_ ?_, ((((((Below.refl _ _).alloc (Nat.le_refl _) _).alloc (by first | (simp; done) | (simp; omega)) _).alloc (by first | (simp; done) | (simp; omega)) _).alloc (by first | (simp; done) | (simp; omega)) _).alloc (by first | (simp; done) | (simp; omega)) _).alloc (by first | (simp; done) | (simp; omega)) _⟩
  · (try simp only [beq_eq_false_iff_ne, ne_eq] at *); unfold shortL; rw [if_neg (by omega), if_neg (by omega), if_neg (by omega), if_neg (by omega), if_neg (by omega)]
  · (try simp only [beq_eq_false_iff_ne, ne_eq] at *); unfold isShort; rw [Eq.comm, decide_eq_false_iff_not]; omega

set_option maxHeartbeats 4000000 in
set_option maxRecDepth 100000 in
theorem byteof_any (c : Int) (w : World) :
    Calls Tryd.prog 87 #[.int .u8 c] w fun e w' => e = .returned (.tuple #[.int .u8 (byteL c), .bool (isByteL c)]) ∧ Below w.heap.size w w' := by
  have i0 : ∀ w, (Instr.index 102 shortsV (.int .i64 0)).run Tryd.prog w = .ok (.agg #[.int .u8 10, .int .u8 110]) w := fun _ => by as_aux_lemma => kernel_rfl
  have i1 : ∀ w, (Instr.index 102 shortsV (.int .i64 1)).run Tryd.prog w = .ok (.agg #[.int .u8 9, .int .u8 116]) w := fun _ => by as_aux_lemma => kernel_rfl
  have i2 : ∀ w, (Instr.index 102 shortsV (.int .i64 2)).run Tryd.prog w = .ok (.agg #[.int .u8 92, .int .u8 92]) w := fun _ => by as_aux_lemma => kernel_rfl
  have i3 : ∀ w, (Instr.index 102 shortsV (.int .i64 3)).run Tryd.prog w = .ok (.agg #[.int .u8 39, .int .u8 39]) w := fun _ => by as_aux_lemma => kernel_rfl
  have i4 : ∀ w, (Instr.index 102 shortsV (.int .i64 4)).run Tryd.prog w = .ok (.agg #[.int .u8 34, .int .u8 34]) w := fun _ => by as_aux_lemma => kernel_rfl
  go_enter Tryd.func87, Tryd.ntmps87
  go_wp2_with fail
  refine (shorts_any _).mono ?_
  rintro e w' ⟨rfl, rfl⟩
  go_wp2
  refine wp_loop_rounds 6 ?_
  rw [rounds_succ]
  go_wp2
  · go_ret2
    have e : ((110 : Int) == c) = true := by assumption
    rw [beq_iff_eq] at e
    subst e
    exact ⟨ret_two rfl rfl, ((Below.refl _ _).alloc (Nat.le_refl _) _).alloc (by first | (simp; done) | (simp; omega)) _⟩
  rw [rounds_succ]
  go_wp2
  · go_ret2
    have e : ((116 : Int) == c) = true := by assumption
    rw [beq_iff_eq] at e
    subst e
    exact ⟨ret_two rfl rfl, (((Below.refl _ _).alloc (Nat.le_refl _) _).alloc (by first | (simp; done) | (simp; omega)) _).alloc (by first | (simp; done) | (simp; omega)) _⟩
  rw [rounds_succ]
  go_wp2
  · go_ret2
    have e : ((92 : Int) == c) = true := by assumption
    rw [beq_iff_eq] at e
    subst e
    exact ⟨ret_two rfl rfl, ((((Below.refl _ _).alloc (Nat.le_refl _) _).alloc (by first | (simp; done) | (simp; omega)) _).alloc (by first | (simp; done) | (simp; omega)) _).alloc (by first | (simp; done) | (simp; omega)) _⟩
  rw [rounds_succ]
  go_wp2
  · go_ret2
    have e : ((39 : Int) == c) = true := by assumption
    rw [beq_iff_eq] at e
    subst e
    exact ⟨ret_two rfl rfl, (((((Below.refl _ _).alloc (Nat.le_refl _) _).alloc (by first | (simp; done) | (simp; omega)) _).alloc (by first | (simp; done) | (simp; omega)) _).alloc (by first | (simp; done) | (simp; omega)) _).alloc (by first | (simp; done) | (simp; omega)) _⟩
  rw [rounds_succ]
  go_wp2
  · go_ret2
    have e : ((34 : Int) == c) = true := by assumption
    rw [beq_iff_eq] at e
    subst e
    exact ⟨ret_two rfl rfl, ((((((Below.refl _ _).alloc (Nat.le_refl _) _).alloc (by first | (simp; done) | (simp; omega)) _).alloc (by first | (simp; done) | (simp; omega)) _).alloc (by first | (simp; done) | (simp; omega)) _).alloc (by first | (simp; done) | (simp; omega)) _).alloc (by first | (simp; done) | (simp; omega)) _⟩
  rw [rounds_succ]
  go_wp2
  go_ret2
  refine ⟨ret_two ?_ ?_, ((((((Below.refl _ _).alloc (Nat.le_refl _) _).alloc (by first | (simp; done) | (simp; omega)) _).alloc (by first | (simp; done) | (simp; omega)) _).alloc (by first | (simp; done) | (simp; omega)) _).alloc (by first | (simp; done) | (simp; omega)) _).alloc (by first | (simp; done) | (simp; omega)) _⟩
  · (try simp only [beq_eq_false_iff_ne, ne_eq] at *); unfold byteL; rw [if_neg (by omega), if_neg (by omega), if_neg (by omega), if_neg (by omega), if_neg (by omega)]
  · (try simp only [beq_eq_false_iff_ne, ne_eq] at *); unfold isByteL; rw [Eq.comm, decide_eq_false_iff_not]; omega
end Go.Proofs.YtifmbhcajlnhbaaDoor
