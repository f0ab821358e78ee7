/-
  Layer 7: append of one row to a longer one. No walk.
-/
import Derived.Test.YtmoebpebahhbeaaG2
namespace Go.Proofs.Ytmoebpebahhbeaa
set_option linter.unusedVariables false
open Go.ChangeShapes Go.WideShapes Go.ChangeAt Go.RowKit

/-- 'append(v, x)': a row more -/
theorem wp_appL {P : Program} {ops : Array Oper} {rest : List Oper} {o : Oper} {a : Act} {Q : Exit → Act → World → Prop} {t e : TypeId} {z : Value} {size bytes : Nat}
    (hi : (P.info? e).map (fun i => (i.zero, i.size, i.bytes)) = some (some z, size, bytes)) (ht : P.underlying t = some (.slice e)) (hzs : z.cells.size = size) (hsz : 0 < size) (hby : bytes ≤ 1000)
    (hgd : o.guard = none) (sO xO : Operand) (ho : o.op = .call { callee := .builtin .append, args := #[sO, xO], argTypes := #[t, t] })
    {B n : Nat} {w : World} {v : Value} {xs : List Value} (hown : w.ownsRow B e size v n xs) (hB : B ≤ w.heap.size) (hn : n ≤ 100000000) (news : List Value) (hl : news.length = size) (h1 : ∀ u ∈ news, u.oneCell' = true)
    (hs : a.eval sO = v) (hx : a.eval xO = .slice (some ⟨w.heap.size, 0, none⟩) 1 1)
    (h : ∀ v' W2, W2.ownsRow B e size v' (n + 1) (xs ++ news) → Fx (fun b => v.ownBlock = some b) w W2 → (∀ b, v'.ownBlock = some b → v.ownBlock = some b ∨ w.heap.size ≤ b) → wpList P ops Q rest (a.put o.dst v') W2) :
    wpList P ops Q (o :: rest) a (w.alloc (.cells news.toArray e)) := by
  obtain ⟨i0, hi0, hz0, hz1, hz2⟩ := info_parts hi
  have hmul : (n + 1) * bytes ≤ 100000001 * 1000 := Nat.mul_le_mul (by omega) hby
  refine wpList_append_own_at _ hgd sO xO t ho B e i0 z size bytes ht hi0 hz0 hz1 hz2 hzs hsz v n xs hs (hown.alloc _) ⟨w.heap.size, 0, none⟩ 1 1 news hx (by omega) (cells_new w news e) h1 (by unfold maxLen; omega) (by omega) (by simp; omega) ?_
  intro v' W2 hown2 hg _ hat
  refine h v' W2 hown2 ((Fx.alloc w _).trans (Fx.grown (S := fun b => v.ownBlock = some b) hg fun k hk => hk) fun b _ hb => hb) fun b hb => ?_
  rcases hat with e1 | e1
  · exact .inl (by rw [← e1]; exact hb)
  · rw [e1] at hb
    have := Option.some.inj hb
    simp at this
    exact .inr (by omega)
end Go.Proofs.Ytmoebpebahhbeaa
