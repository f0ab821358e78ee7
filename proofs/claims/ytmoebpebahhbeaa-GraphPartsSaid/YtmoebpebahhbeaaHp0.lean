/-
  Layer 7: the heap of groups: calls through the interface. No walk.
-/
import Derived.Test.YtmoebpebahhbeaaG3
namespace Go.Proofs.Ytmoebpebahhbeaa
set_option linter.unusedVariables false
open Go.ChangeShapes Go.WideShapes Go.ChangeAt Go.RowKit

theorem recv_val {P : Program} {t e : TypeId} (hu : P.underlying t = some (.pointer e)) (a : Addr) (w : World) (s : String) : (receiverAt t (.val (.pointer (some a))) false (some s)).run P w = (loadVar e a).run P w := by
  have hs : ∀ w, (Builtin.ssaWrapNilChk_ #[t] t #[.pointer (some a), strVal "", strVal s]).run P w = .ok (.pointer (some a)) w := fun w => rfl
  unfold receiverAt
  simp [Sem.run_bind, run_underlying hu, Place.get, hs, asAddr]
theorem meth_val {P : Program} {t e : TypeId} {name : String} {f : FuncId} (hf : (P.info? t).map (fun i => (i.methods.find? (·.name == name)).map fun m => (m.path, m.func)) = some (some (#[], some (f, false)))) (hu : P.underlying t = some (.pointer e)) {a : Addr} {w : World} {v : Value} (hv : (loadVar e a).run P w = .ok v w) (n : Nat) : (method (n + 1) t (.pointer (some a)) name).run P w = .ok (f, v) w := by
  obtain ⟨i, hi, hm⟩ := Option.map_eq_some_iff.1 hf
  obtain ⟨m, hm1, hm2⟩ := Option.map_eq_some_iff.1 hm
  obtain ⟨hp, hff⟩ := Prod.mk.inj hm2
  unfold method
  simp [Sem.run_bind, typeInfo, hi, hm1, hp, hff, follow, recv_val hu, hv]
end Go.Proofs.Ytmoebpebahhbeaa
