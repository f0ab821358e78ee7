/-
  Layer 7, the program's side: newSearch.
-/
import Derived.Test.YtmoebpebahhbeaaRepeat
import Derived.Test.YtmoebpebahhbeaaNeeds
namespace Go.Proofs.Ytmoebpebahhbeaa
set_option linter.unusedVariables false
open Go.ChangeShapes Go.WideShapes Go.ChangeAt Go.RowKit

theorem make_ints (n : Nat) (hn : n ≤ 100000) (w : World) : (Instr.makeSlice 30 (.int .i64 (n : Int)) (.int .i64 (n : Int))).run Try.prog w = .ok (.slice (some ⟨w.heap.size, 0, none⟩) n n) (w.alloc (.cells (madeCells #[.int .i64 0] n) 3)) := by
  obtain ⟨i0, hi, hz0, hz1, hz2⟩ := info_parts info_int
  have hr := run_make (P := Try.prog) w 30 3 i0 (.int .i64 0) Try.underlying30 hi hz0 .i64 .i64 n n (by omega) (by omega) (by rw [hz2]; omega) (by omega)
  rw [hz1] at hr
  simpa [Value.cells] using hr
theorem lit0 (w : World) (v : Value) (T : TypeId) (k : Nat) (hk : k = w.heap.size) : (w.alloc (.cells #[v] T)).drew.cell? ⟨k, 0, none⟩ = some v := by subst hk; show (w.alloc (.cells #[v] T)).cell? _ = _; rw [Lib.cell_of_heap (heap_alloc_new w _)]; rfl
theorem lit1 (w : World) (v : Value) (T : TypeId) (o : Obj) (k : Nat) (hk : k = w.heap.size) : ((w.alloc (.cells #[v] T)).alloc o).drew.cell? ⟨k, 0, none⟩ = some v := fx_cell (S := fun _ => False) (lit0 w v T k hk) (Fx.alloc _ o) id
theorem lit2 (w : World) (v : Value) (T : TypeId) (o o2 : Obj) (k : Nat) (hk : k = w.heap.size) : (((w.alloc (.cells #[v] T)).alloc o).alloc o2).drew.cell? ⟨k, 0, none⟩ = some v := fx_cell (S := fun _ => False) (lit1 w v T o k hk) (Fx.alloc _ o2) id
theorem row_lit (B n : Nat) (w : World) (k : Nat) (hk : k = w.heap.size) (hB : B ≤ w.heap.size) (hn : n ≤ 100000) : (w.alloc (.cells (madeCells #[.int .i64 0] n) 3)).ownsRow B 3 1 (.slice (some ⟨k, 0, none⟩) n n) n (nv (List.replicate n 0)) := by
  subst hk
  have h := World.ownsRow_lit (base := B) (size := 1) (e := 3) w (madeCells #[.int .i64 0] n) n hB (by unfold maxLen; omega) (by simp [madeCells])
  rw [toList_madeCells_one] at h
  rw [show nv (List.replicate n 0) = List.replicate n (.int .i64 0) by simp [nv]]
  exact h
theorem heap_new' (w : World) (o : Obj) (k : Nat) (hk : k = w.heap.size) : (w.alloc o).heap[k]? = some o := by subst hk; exact heap_alloc_new w o
def s0 (n : Nat) : St := ⟨List.replicate n 0, List.replicate n 0, [], 0, [], [], List.replicate n 0⟩
/-- what newSearch leaves -/
def Newed (B n : Nat) (O0 : Nat → Nat) (av : Value) (w : World) (e : Ending) (w' : World) : Prop :=
  ∃ O p L, e = .returned (.pointer (some ⟨p, 0, none⟩)) ∧ SRep B O p av L (s0 n) w' ∧ (∀ b, b < w.heap.size → O b = O0 b) ∧ Below w.heap.size w w'
theorem new_close {B n p m f : Nat} {O0 : Nat → Nat} {av : Value} {aq : Option Addr} {cq : Nat} {w wf : World} (hB : B ≤ w.heap.size) (hO0 : ∀ b, O0 b = 0 ∨ O0 b = 9) (hb : Fx (fun _ => False) w wf)
    (box : wf.heap[p]? = some (.cells #[av, .slice (some ⟨m, 0, none⟩) n n, .slice (some ⟨f, 0, none⟩) n n, .slice none 0 0, .int .i64 0, .slice none 0 0, .slice none 0 0, .slice aq n cq] 61 (0, 0)))
    (hm : wf.ownsRow w.heap.size 3 1 (.slice (some ⟨m, 0, none⟩) n n) n (nv (List.replicate n 0))) (hf : wf.ownsRow w.heap.size 3 1 (.slice (some ⟨f, 0, none⟩) n n) n (nv (List.replicate n 0))) (hq : wf.ownsRow w.heap.size 3 1 (.slice aq n cq) n (List.replicate n (.int .i64 (-1))))
    (hp : w.heap.size ≤ p) (d1 : m ≠ f) (d2 : m ≠ p) (d3 : f ≠ p) (d4 : ∀ b, (Value.slice aq n cq).ownBlock = some b → b ≠ m ∧ b ≠ f ∧ b ≠ p) : Newed B n O0 av w (.returned (.pointer (some ⟨p, 0, none⟩))) wf := by
  have hmw := (hm.lt m rfl).1
  have hfw := (hf.lt f rfl).1
  refine ⟨fun b => if b < w.heap.size then O0 b else if b = p then 1 else if b = m then 2 else if b = f then 3 else 7, p, ⟨.slice (some ⟨m, 0, none⟩) n n, .slice (some ⟨f, 0, none⟩) n n, .slice none 0 0, .slice none 0 0, .slice none 0 0, .slice aq n cq, []⟩, rfl, ⟨box, ?_, ?_, ?_, ?_, ?_, ?_, Rws.nil _ _ _, ?_, ?_, ?_, ?_, ?_, ?_, ?_, ?_⟩, fun b hb => if_pos hb, hb.none fun _ _ => id⟩
  · show wf.ownsRow B _ 1 _ (List.replicate n 0).length _
    rw [List.length_replicate]; exact owns_base hm hB
  · show wf.ownsRow B _ 1 _ (List.replicate n 0).length _
    rw [List.length_replicate]; exact owns_base hf hB
  · exact World.ownsRow_nil _ _ _ _
  · exact World.ownsRow_nil _ _ _ _
  · exact World.ownsRow_nil _ _ _ _
  · show wf.ownsRow B _ 1 _ (List.replicate n 0).length (gv (List.replicate n 0))
    rw [List.length_replicate, show gv (List.replicate n 0) = List.replicate n (.int .i64 (-1)) by simp [gv]]
    exact owns_base hq hB
  · show (if p < w.heap.size then O0 p else if p = p then 1 else if p = m then 2 else if p = f then 3 else 7) = 1
    rw [if_neg (by omega), if_pos rfl]
  · intro b hb
    have e : m = b := by simpa [Value.ownBlock] using hb
    subst e
    show (if m < w.heap.size then O0 m else if m = p then 1 else if m = m then 2 else if m = f then 3 else 7) = 2
    rw [if_neg (by omega), if_neg d2, if_pos rfl]
  · intro b hb
    have e : f = b := by simpa [Value.ownBlock] using hb
    subst e
    show (if f < w.heap.size then O0 f else if f = p then 1 else if f = m then 2 else if f = f then 3 else 7) = 3
    rw [if_neg (by omega), if_neg d3, if_neg (Ne.symm d1), if_pos rfl]
  · intro b hb; simp [Value.ownBlock] at hb
  · intro b hb; simp [Value.ownBlock] at hb
  · intro b hb; simp [Value.ownBlock] at hb
  · intro b hb
    have := (hq.lt b hb).1
    obtain ⟨h1, h2, h3⟩ := d4 b hb
    show (if b < w.heap.size then O0 b else if b = p then 1 else if b = m then 2 else if b = f then 3 else 7) = 7
    rw [if_neg (by omega), if_neg h3, if_neg h1, if_neg h2]
  · intro b h1 h2
    by_cases hbw : b < w.heap.size
    · simp only [if_pos hbw] at h1 h2
      have := hO0 b
      omega
    · omega
set_option maxHeartbeats 4000000 in
set_option maxRecDepth 100000 in
theorem new_any (B n : Nat) (O0 : Nat → Nat) (a : Option Addr) (c : Nat) (w : World) (hn : n ≤ 1024) (hB : B ≤ w.heap.size) (hO0 : ∀ b, O0 b = 0 ∨ O0 b = 9) :
    Calls Try.prog 28 #[.slice a n c] w fun e w' => Newed B n O0 (.slice a n c) w e w' := by
  have hmk := make_ints n (by omega)
  have HB := Lib.hid hB
  have HO0 := Lib.hid hO0
  clear hB hO0
  go_enter Try.func28, Try.ntmps28
  go_wp2_with fail
  go_region_with ((go_at_call 34; refine (repeat_any n _ _ hn (by first | exact lit0 _ _ _ _ (by simp) | exact lit1 _ _ _ _ _ (by simp) | exact lit2 _ _ _ _ _ _ (by simp))).mono ?_; rintro e w' ⟨v, rfl, ho, hb⟩; obtain ⟨av, cv, rfl⟩ := owns_form ho))
  all_goals
    go_wp2_with fail
    go_ret
    have z1 := hb.size
    have z2 := ho.lt
    simp at z1 z2
    clear hmk
    refine new_close HB.out HO0.out ?_ (heap_new' _ _ _ (by simp)) ?_ ?_ ?_ ?_ ?_ ?_ ?_ ?_
    · repeat (first | with_reducible exact Fx.refl _ _ | with_reducible refine Fx.drew ?_ | with_reducible refine Fx.trans ?_ (Fx.alloc _ _) (fun _ _ h => h) | with_reducible refine Fx.trans ?_ (Fx.of_below hb) (fun _ _ h => h))
    · repeat (first | ((with_reducible refine row_lit _ _ _ _ ?_ ?_ ?_) <;> (first | rfl | exact Nat.le_refl _ | (simp; done) | (simp; omega) | omega)) | with_reducible refine World.ownsRow.drew ?_ | with_reducible refine fx_row ?_ (Fx.alloc (S := fun _ => False) _ _) (fun _ _ => id) | with_reducible refine fx_row ?_ (Fx.of_below (S := fun _ => False) hb) (fun _ _ => id))
    · repeat (first | ((with_reducible refine row_lit _ _ _ _ ?_ ?_ ?_) <;> (first | rfl | exact Nat.le_refl _ | (simp; done) | (simp; omega) | omega)) | with_reducible refine World.ownsRow.drew ?_ | with_reducible refine fx_row ?_ (Fx.alloc (S := fun _ => False) _ _) (fun _ _ => id) | with_reducible refine fx_row ?_ (Fx.of_below (S := fun _ => False) hb) (fun _ _ => id))
    · repeat (first | ((with_reducible refine owns_base ho ?_) <;> (first | exact Nat.le_refl _ | (simp; done) | (simp; omega))) | with_reducible refine World.ownsRow.drew ?_ | with_reducible refine fx_row ?_ (Fx.alloc (S := fun _ => False) _ _) (fun _ _ => id))
    · omega
    · omega
    · omega
    · omega
    · intro b hb2
      have := z2 b hb2
      omega
end Go.Proofs.Ytmoebpebahhbeaa
