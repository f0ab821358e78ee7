/-
  Layer 7: append of one row, at the operation; types' facts. No walk.
-/
import Derived.Test.YtmoebpebahhbeaaG1
namespace Go.Proofs.Ytmoebpebahhbeaa
set_option linter.unusedVariables false
open Go.ChangeShapes Go.WideShapes Go.ChangeAt Go.RowKit

theorem info_int : (Try.prog.info? 3).map (fun i => (i.zero, i.size, i.bytes)) = some (some (.int .i64 0), 1, 8) := by kernel_rfl
theorem info_ints : (Try.prog.info? 30).map (fun i => (i.zero, i.size, i.bytes)) = some (some (.slice none 0 0), 1, 24) := by kernel_rfl
theorem info_bool : (Try.prog.info? 4).map (fun i => (i.zero, i.size, i.bytes)) = some (some (.bool false), 1, 1) := by kernel_rfl
theorem info_step : (Try.prog.info? 73).map (fun i => (i.zero, i.size, i.bytes)) = some (some (.agg #[.int .i64 0, .int .i64 0]), 2, 16) := by kernel_rfl
/-- 'append(v, x)': a row more -/
theorem wp_app {P : Program} {ops : Array Oper} {rest : List Oper} {o : Oper} {a : Act} {Q : Exit → Act → World → Prop} {t e : TypeId} {z : Value} {size bytes : Nat}
    (hi : (P.info? e).map (fun i => (i.zero, i.size, i.bytes)) = some (some z, size, bytes)) (ht : P.underlying t = some (.slice e)) (hzs : z.cells.size = size) (hsz : 0 < size) (hby : bytes ≤ 1000)
    (hgd : o.guard = none) (sO xO : Operand) (ho : o.op = .call { callee := .builtin .append, args := #[sO, xO], argTypes := #[t, t] })
    {B n : Nat} {w : World} {v : Value} {xs : List Value} (hown : w.ownsRow B e size v n xs) (hB : B ≤ w.heap.size) (hn : n ≤ 100000) (news : List Value) (hl : news.length = size) (h1 : ∀ u ∈ news, u.oneCell' = true)
    (hs : a.eval sO = v) (hx : a.eval xO = .slice (some ⟨w.heap.size, 0, none⟩) 1 1)
    (h : ∀ v' W2, W2.ownsRow B e size v' (n + 1) (xs ++ news) → Fx (fun b => v.ownBlock = some b) w W2 → (∀ b, v'.ownBlock = some b → v.ownBlock = some b ∨ w.heap.size ≤ b) → wpList P ops Q rest (a.put o.dst v') W2) :
    wpList P ops Q (o :: rest) a (w.alloc (.cells news.toArray e)) := by
  obtain ⟨i0, hi0, hz0, hz1, hz2⟩ := info_parts hi
  have hmul : (n + 1) * bytes ≤ 100001 * 1000 := Nat.mul_le_mul (by omega) hby
  refine wpList_append_own_at _ hgd sO xO t ho B e i0 z size bytes ht hi0 hz0 hz1 hz2 hzs hsz v n xs hs (hown.alloc _) ⟨w.heap.size, 0, none⟩ 1 1 news hx (by omega) (cells_new w news e) h1 (by unfold maxLen; omega) (by omega) (by simp; omega) ?_
  intro v' W2 hown2 hg _ hat
  refine h v' W2 hown2 ((Fx.alloc w _).trans (Fx.grown (S := fun b => v.ownBlock = some b) hg fun k hk => hk) fun b _ hb => hb) fun b hb => ?_
  rcases hat with e1 | e1
  · exact .inl (by rw [← e1]; exact hb)
  · rw [e1] at hb
    have := Option.some.inj hb
    simp at this
    exact .inr (by omega)
theorem retag_low {O : Nat → Nat} {z k B : Nat} (h : ∀ b, 1 ≤ O b → O b ≤ 7 → B ≤ b) (hB : B ≤ z) : ∀ b, 1 ≤ retag O z k b → retag O z k b ≤ 7 → B ≤ b := fun b h1 h2 => by
  by_cases hb : b < z
  · rw [retag_old hb] at h1 h2; exact h b h1 h2
  · omega
theorem retag_own {O : Nat → Nat} {z k : Nat} {v v' : Value} (hv : ∀ b, v.ownBlock = some b → O b = k) (hl : ∀ b, v.ownBlock = some b → b < z) (h : ∀ b, v'.ownBlock = some b → v.ownBlock = some b ∨ z ≤ b) : ∀ b, v'.ownBlock = some b → retag O z k b = k := fun b hb => by
  rcases h b hb with h1 | h1
  · rw [retag_old (hl b h1)]; exact hv b h1
  · exact retag_new h1
theorem retag_agree (O : Nat → Nat) (z k : Nat) : ∀ b, b < z → retag O z k b = O b := fun b hb => retag_old hb
/-- a field of the search behind an append to another block -/
theorem SRep.behind {B p : Nat} {O : Nat → Nat} {av : Value} {L : Loc} {s : St} {w w1 : World} (h : SRep B O p av L s w) {v u : Value} {k j : Nat} (hv : ∀ b, v.ownBlock = some b → O b = k) (hk : k ≠ 1) (hf : Fx (fun b => v.ownBlock = some b) w w1) (hc : w.cell? ⟨p, j, none⟩ = some u) :
    w1.cell? ⟨p, j, none⟩ = some u ∧ w1.frozen? ⟨p, j, none⟩ = false ∧ Fx (fun b => O b = k) w w1 := by
  have hn : ¬ v.ownBlock = some p := fun e => by have := hv p e; rw [h.tp] at this; omega
  exact ⟨fx_cell hc hf hn, Lib.frozen_of_heap (fx_heap h.box hf hn) j, hf.mono fun b _ hb => hv b hb⟩
end Go.Proofs.Ytmoebpebahhbeaa
