/-
  Layer 7: a pair of numbers, out of memory as a whole. No walk.
-/
import Derived.Test.YtmoebpebahhbeaaGK
import Derived.Deep.MidRow
namespace Go.Proofs.Ytmoebpebahhbeaa
set_option linter.unusedVariables false
open Go.ChangeShapes Go.WideShapes Go.ChangeAt Go.RowKit

theorem loadVar_wide {P : Program} (w : World) (ty : TypeId) (A : Addr) (cs : List Value) (d : TypeDesc) (h : ∀ j v, cs[j]? = some v → w.cell? (A.add j) = some v)
    (hu : P.underlying ty = some d) (hd : d.isRow = true) (hi : (P.info? ty).map (·.size) = some cs.length) : (loadVar ty A).run P w = .ok (.agg cs.toArray) w := by
  have hl := run_loadCells_list (P := P) w A cs h
  cases hq : P.info? ty with
  | none => simp [hq] at hi
  | some i =>
    have hs : i.size = cs.length := by simpa [hq] using hi
    have hagg : (isAgg ty).run P w = .ok true w := by
      unfold isAgg
      rw [Sem.run_bind, run_underlying hu w]
      cases d <;> simp_all
    simp [loadVar, Sem.run_bind, hagg, sizeOf, typeInfo, hq, hs, hl]
theorem add_add1 (a : Addr) (m : Nat) : (a.add m).add 1 = a.add (m + 1) := by
  by_cases h : m = 0
  · subst h; simp [Addr.add]
  · simp [Addr.add, h, Nat.add_assoc]
theorem und_pair : ∃ d, Try.prog.underlying 43 = some d ∧ d.isRow = true := ⟨_, Try.underlying43, by kernel_rfl⟩
theorem info_pair : (Try.prog.info? 43).map (·.size) = some 2 := by kernel_rfl
theorem info_pairZ : (Try.prog.info? 43).map (fun i => (i.zero, i.size, i.bytes)) = some (some (.agg #[.int .i64 0, .int .i64 0]), 2, 16) := by kernel_rfl
/-- a pair of numbers -/
theorem load_pair {ops : Array Oper} {rest : List Oper} {o : Oper} {a : Act} {w : World} {Q : Exit → Act → World → Prop} (A : Addr) (m : Nat) (x y : Int) (h1 : w.cell? (A.add m) = some (.int .i64 x)) (h2 : w.cell? (A.add (m + 1)) = some (.int .i64 y)) (hgd : o.guard = none) (p : Operand) (ho : o.op = .load 43 p) (hx : a.eval p = .pointer (some (A.add m)))
    (h : wpList Try.prog ops Q rest (a.put o.dst (.agg #[.int .i64 x, .int .i64 y])) w) : wpList Try.prog ops Q (o :: rest) a w := by
  obtain ⟨d, hu, hd⟩ := und_pair
  have hl : (loadVar 43 (A.add m)).run Try.prog w = .ok (.agg #[.int .i64 x, .int .i64 y]) w := loadVar_wide w 43 (A.add m) [.int .i64 x, .int .i64 y] d (fun j v hv => by
    match j, hv with
    | 0, hv => cases hv; exact h1
    | 1, hv => cases hv; rw [add_add1]; exact h2
    | j + 2, hv => simp at hv) hu hd info_pair
  refine wpList_plain hgd fun _ hK => ?_
  unfold Oper.wp execOp
  simp only [ho, hx, Instr.loadAt, Instr.sureAddr, Sem.run_bind, Sem.run_pure, Result.andThen_ok, hl]
  exact hK _ _ h
end Go.Proofs.Ytmoebpebahhbeaa
