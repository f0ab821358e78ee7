/-
  Layer 7, the law's side: numbers made nodes (part).
-/
import Derived.Test.YtmoebpebahhbeaaHp1
import Derived.Test.YtmoebpebahhbeaaFault
namespace Go.Proofs.Ytmoebpebahhbeaa
set_option linter.unusedVariables false
open Go.ChangeShapes Go.WideShapes Go.ChangeAt Go.RowKit

/-- a number made a node -/
def nodeM (n x : Int) : Int := (x.tmod n + n).tmod n
def pairM (n : Int) (x : Int × Int) : Int × Int := (nodeM n x.1, nodeM n x.2)
theorem tmod_in (x n : Int) (hn : 0 < n) : -n < x.tmod n ∧ x.tmod n < n := ⟨Int.lt_tmod_of_pos x hn, Int.tmod_lt_of_pos x hn⟩
theorem nodeM_in (x n : Int) (hn : 0 < n) : 0 ≤ nodeM n x ∧ nodeM n x < n := by
  have h1 := tmod_in x n hn
  have h2 := tmod_in (x.tmod n + n) n hn
  exact ⟨Int.tmod_nonneg _ (by omega), h2.2⟩
theorem nodeM_wrap (x n : Int) (hn : 0 < n) (hb : n ≤ 100000) : (wrap64 (x.tmod n + n)).tmod n = nodeM n x := by
  have h1 := tmod_in x n hn
  have hw : wrap64 (x.tmod n + n) = x.tmod n + n := by
    generalize x.tmod n = t at h1 ⊢
    unfold RowKit.wrap64
    omega
  rw [hw]
  rfl
theorem i64w (x : Int) : IntKind.i64.wrap x = wrap64 x := by rw [IntKind.wrap_i64, RowKit.wrap64]
/-- pairs of integers as cells -/
def pv (l : List (Int × Int)) : List Value := l.flatMap fun x => [.int .i64 x.1, .int .i64 x.2]
theorem pv_len (l : List (Int × Int)) : (pv l).length = l.length * 2 := by
  induction l with
  | nil => rfl
  | cons x l ih => simp only [pv, List.flatMap_cons, List.length_append, List.length_cons, List.length_nil] at ih ⊢; omega
theorem pv_append (l r : List (Int × Int)) : pv (l ++ r) = pv l ++ pv r := by simp [pv]
theorem pv_cons (x : Int × Int) (l : List (Int × Int)) : pv (x :: l) = .int .i64 x.1 :: .int .i64 x.2 :: pv l := rfl
theorem pv_at : ∀ (l : List (Int × Int)) (j : Nat) (x : Int × Int), l[j]? = some x → (pv l)[j * 2]? = some (.int .i64 x.1) ∧ (pv l)[j * 2 + 1]? = some (.int .i64 x.2) := by
  intro l
  induction l with
  | nil => intro j x h; simp at h
  | cons y l ih =>
    intro j x h
    match j, h with
    | 0, h =>
      obtain rfl : y = x := by simpa using h
      exact ⟨rfl, rfl⟩
    | j + 1, h =>
      have := ih j x (by simpa using h)
      rw [pv_cons, show (j + 1) * 2 = j * 2 + 1 + 1 by omega]
      simpa using this
theorem edges_owns {B : Nat} {w : World} {v : Value} {es : List (Int × Int)} (h : w.ownsRow B 43 2 v es.length (pv es)) (hl : es.length ≤ 70368744177664) : Edges w v es := by
  obtain ⟨a, c, rfl⟩ := owns_form h
  refine ⟨a, c, rfl, hl, fun j x hx => ?_⟩
  have hj := (List.getElem?_eq_some_iff.1 hx).1
  obtain ⟨g, cap, he, hb⟩ := owns_some h (by omega)
  simp only [Value.slice.injEq] at he
  obtain ⟨rfl, -, rfl⟩ := he
  have hadd : ∀ k, (⟨g, 0, none⟩ : Addr).add k = ⟨g, k, none⟩ := fun k => by unfold Addr.add; split <;> simp_all
  have := pv_at es j x hx
  refine ⟨_, rfl, (h.lt g hb).2, ?_, ?_⟩
  · rw [hadd, h.cellAt _ (by omega)]; exact this.1
  · rw [hadd, h.cellAt _ (by omega)]; exact this.2
set_option maxHeartbeats 1000000 in
set_option maxRecDepth 100000 in
theorem part_any (n : Int) (hn : 0 < n) (hn2 : n ≤ 100000) (v : Value) (es : List (Int × Int)) (hlen : es.length ≤ 100000) (w : World) (he : Edges w v es) :
    Calls Try.prog 18 #[.int .i64 n, v] w fun e w' => ∃ u, e = .returned u ∧ Below w.heap.size w w' ∧ w'.ownsRow w.heap.size 43 2 u es.length (pv (es.map (pairM n))) := by
  obtain ⟨ao, c, rfl, hl, hc⟩ := he
  have HC := Lib.hid hc
  clear hc
  go_enter Try.func18, Try.ntmps18
  go_wp2_with fail
  go_loopw [5, 6] (fun u kv wr => ∃ k : Nat, k ≤ es.length ∧ kv = .int .i64 (k : Int) ∧ Below w.heap.size w wr ∧ wr.ownsRow w.heap.size 43 2 u k (pv ((es.take k).map (pairM n)))) (fun _ kv _ => es.length - (intOf kv).toNat)
  case atStart => exact ⟨0, Nat.zero_le _, rfl, Below.refl _ _, World.ownsRow_nil _ _ _ _⟩
  case round =>
    obtain ⟨k, hk, rfl, hb, ho⟩ := hrel
    by_cases hlt : k < es.length
    · have hx : es[k]? = some es[k] := List.getElem?_eq_getElem hlt
      obtain ⟨a, rfl, e2, e3, e4⟩ := HC.out k _ hx
      have hTK : (es.take (k + 1)).map (pairM n) = (es.take k).map (pairM n) ++ [pairM n es[k]] := by rw [List.take_succ_eq_append_getElem hlt, List.map_append]; rfl
      generalize hxx : es[k] = xx at *
      obtain ⟨x1, x2⟩ := xx
      have hadd : ∀ k, (a.add k).block = a.block := fun k => by unfold Addr.add; split <;> rfl
      have c1 : wr.cell? (a.add (k * 2)) = some (.int .i64 x1) := by rw [hb.cell (by rw [hadd]; exact e2)]; exact e3
      have c2 : wr.cell? (a.add (k * 2 + 1)) = some (.int .i64 x2) := by rw [hb.cell (by rw [hadd]; exact e2)]; exact e4
      have c3 : wr.cell? ⟨(a.add (k * 2)).block, (a.add (k * 2)).off + 1, none⟩ = some (.int .i64 x2) := by
        rw [← add_add1] at c2
        exact c2
      have hkI : (k : Int) < (es.length : Int) := by omega
      have hw1 := nodeM_wrap x1 n hn hn2
      have hw2 := nodeM_wrap x2 n hn hn2
      have HTK := Lib.hid hTK
      have HB := Lib.hid hb
      obtain ⟨au, cu, rfl⟩ := owns_form ho
      have HO := Lib.hid ho
      have hne : n ≠ 0 := by omega
      have hkb : k ≤ 100000 := by omega
      clear hx hxx hb hadd e3 e4 hTK ho
      go_wp2_with fail
      go_region_law (refine step_app info_pairZ Try.underlying22 rfl (by decide) (by decide) rfl _ _ rfl HO.out.drew HB.out.size hkb [.int .i64 _, .int .i64 _] rfl (by simp [Value.oneCell']) rfl rfl ?_; intro v5 W5 o5 x5 a5; obtain ⟨a6, c6, rfl⟩ := owns_form o5)
      all_goals
        have hpv : pv ((es.take (k + 1)).map (pairM n)) = pv ((es.take k).map (pairM n)) ++ [.int .i64 ((IntKind.i64.wrap (x1.tmod n + n)).tmod n), .int .i64 ((IntKind.i64.wrap (x2.tmod n + n)).tmod n)] := by
          rw [HTK.out, pv_append]
          show _ ++ [Value.int .i64 (nodeM n x1), .int .i64 (nodeM n x2)] = _
          rw [← hw1, ← hw2, ← i64w, ← i64w]
        rw [← hpv] at o5
        have hb5 : Below w.heap.size w W5 := HB.out.drew.trans (x5.below HB.out.size fun b hlt e => by have := (HO.out.lt b e).1; omega)
        have HO5 := Lib.hid o5
        have HB5 := Lib.hid hb5
        clear hpv o5 x5 a5 hb5
        go_wp2_with fail
        go_roundw
        case rel => exact ⟨k + 1, by omega, by go_num, HB5.out, HO5.out⟩
        case measure => simp [intOf]; omega
    · have hke : k = es.length := by omega
      subst hke
      rw [List.take_length] at ho
      have HB := Lib.hid hb
      have HO := Lib.hid ho
      clear hb ho
      go_wp2_with fail
      go_ret
      exact ⟨_, rfl, HB.out, HO.out⟩
end Go.Proofs.Ytmoebpebahhbeaa
