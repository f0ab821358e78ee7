/-
  What the rows' lists of variables give: the error's variable; the table of powers of ten. And the card's plain conditions.
-/
import Derived.Test.YtifmbhcajlnhbaaDoorCards
import Derived.Test.YtifmbhcajlnhbaaDoorTie
import Derived.Test.YtifmbhcajlnhbaaDoorPNum
import Derived.Test.YtifmbhcajlnhbaaDoorShowP
import Derived.WalkKit
import Derived.ProofKit
import Derived.OpenShut
import Derived.ShutString
import Derived.ChangeOld
import Derived.Below
import Derived.Deep.DeepHandedRow
import Derived.Lib.LaidTab
import Derived.Stop.LaidErr
import Derived.LaidMore
namespace Go.Proofs.YtifmbhcajlnhbaaDoor
set_option linter.unusedVariables false
open Go.ChangeShapes Go.WideShapes Go.ChangeAt Go.RowKit

theorem own : ownKnob Tryd.prog.godebug = none := by kernel_rfl
theorem gRange : Tryd.prog.globalNamed "strconv.ErrRange" = some 3 := by kernel_rfl
theorem gRangeT : (Tryd.prog.globals[3]?).map (·.type) = some 67 := by kernel_rfl
theorem gPow : Tryd.prog.globalNamed "internal/strconv.uint64pow10" = some 1 := by kernel_rfl
theorem star : "*" ++ "errors.errorString" = "*errors.errorString" := by decide
theorem cellsES : Tryd.prog.cellsOf 133 = 1 := by kernel_rfl
theorem cellsS : Tryd.prog.cellsOf 9 = 1 := by kernel_rfl

theorem laid_tail {P : Program} {x : String × DataW Unit} {r : List (String × DataW Unit)} {W : World} (h : laidMet P (x :: r) W) : laidMet P r W := by
  obtain ⟨ps, ⟨g, t, cs, fu, p, q, _, _, _, _, hr, rfl⟩, hnd, hc⟩ := h
  exact ⟨q, hr, (List.nodup_append.1 hnd).2.1, fun b off hm => hc b off (List.mem_append_right _ hm)⟩
/-- what is listed -/
theorem laid_list {W : World} (h : laidMetH Tryd.prog Rows.tokenBackRow.laid W) : laidMet Tryd.prog Rows.tokenBackRow.laid W := by
  rw [MakeChecks.laidMetH_plain _ _ _ (by kernel_rfl)] at h
  exact h
theorem rowES (u : TypeId) (h : Tryd.prog.typeName? 3 u = some "*errors.errorString") : u = 131 :=
  typeName_ptr_named (nm := "errors.errorString") (by rw [star]; kernel_rfl) (by kernel_rfl) (by decide) u (by rw [star]; exact h)
/-- **the error's variable is there** -/
theorem range_ok {W : World} (h : laidMetH Tryd.prog Rows.tokenBackRow.laid W) : RangeOk W := by
  obtain ⟨a, s, hv, _⟩ := laid_sentinel (laid_tail (laid_tail (laid_tail (laid_list h)))) gRange gRangeT Tryd.underlying67 rowES Tryd.underlying131 Tryd.underlying133 rfl rfl Tryd.underlying9 cellsES cellsS
  exact ⟨.iface 131 (.pointer (some a)), by simpa using World.var?_cell gRange hv 0, .inr ⟨_, _, rfl⟩⟩

theorem gPowT : (Tryd.prog.globals[1]?).map (·.type) = some 119 := by kernel_rfl
theorem pow_list : (Rows.laid_internal_strconv_uint64pow10 : DataW Unit) = Lib.tabData .u64 Lib.pow10Tab := rfl
/-- **the table of powers of ten is there** -/
theorem pow_ok {W : World} (h : laidMetH Tryd.prog Rows.tokenBackRow.laid W) : PowOk W := by
  have h2 := laid_tail (laid_tail (laid_list h))
  rw [pow_list] at h2
  exact Lib.tabIs_of_head (e := 105) (n := 20) gPow gPowT (by kernel_rfl) (by kernel_rfl) (by kernel_rfl) (by kernel_rfl) h2

/-- the witness's world: what the door lays -/
noncomputable def laidWorld (os : Os) : World := World.doorLaid Tryd.prog 400 os
theorem laid_met (os : Os) (args : Array Value) : laidMetH Tryd.prog Rows.tokenBackRow.laid ((laidWorld os).forCall (fun _ _ => 0) ⟨#[], args, []⟩).memory := by
  rw [MakeChecks.laidMetH_plain _ _ _ (by kernel_rfl)]
  exact laidMet_of_run' 8 (by kernel_rfl) (by kernel_rfl)
end Go.Proofs.YtifmbhcajlnhbaaDoor
