/-
  Layer 2: the document's one at a Number and at a sign; the whole of it.
-/
import Derived.Test.YtifmbhcajlnhbaaDoorOneName
namespace Go.Proofs.YtifmbhcajlnhbaaDoor
set_option linter.unusedVariables false
open Go.ChangeShapes Go.WideShapes Go.ChangeAt Go.RowKit

set_option maxHeartbeats 4000000 in
set_option maxRecDepth 100000 in
theorem one_number (s : ByteArray) (hs : s.size ≤ 1000000) (i : Nat) (hi : i < s.size) (hc : cls (atB s i) = 2) (w : World) :
    Calls Tryd.prog 21 #[.string s, .int .i64 i] w fun e w' => e = .returned (oneV (oneAt s i)) ∧ Below w.heap.size w w' := by
  have HE : Hid (oneAt s i = numAt s i) := Lib.hid (by unfold oneAt; rw [if_neg (by omega), if_pos hc])
  go_enter Tryd.func21, Tryd.ntmps21
  go_wp2_with fail
  refine (rclass_at s i hi _).mono ?_
  rw [hc]
  rintro e w' ⟨rfl, rfl⟩
  go_wp2_with fail
  refine (digits_any s hs i hi _).mono ?_
  cases hn : numAt s i with
  | inl t =>
    rintro e w1 ⟨rfl, hb1⟩
    obtain ⟨h0, h1, h2, hb⟩ := three_rows hb1
    unfold oneV
    go_wp2_with (first | (refine store_any 39 (tkC t.kind t.at_ t.fin t.text t.n) w.heap.size w.heap.size _ h0 hb (Nat.le_refl _) info_rt rfl (by simp [Value.oneCell']) rfl _ _ rfl rfl rfl ?_; intro W2 k2 hb2 ho2) | (refine store_any 32 #[.int .i64 0, .int .i64 0] w.heap.size (w.heap.size + 1) _ ((ho2 _ (by omega)).trans h1) hb2 (by omega) info_rf rfl (by simp [Value.oneCell']) rfl _ _ rfl rfl rfl ?_; intro W3 k3 hb3 ho3))
    obtain ⟨a0, a1, a2, a3, a4⟩ := cells5 ((ho3 _ (by omega)).trans k2)
    obtain ⟨b0, b1⟩ := two_cells k3
    refine bodyPost_ret (v := .tuple #[.agg #[.int .i64 t.kind, .int .i64 t.at_, .int .i64 t.fin, .string t.text, .int .i64 t.n], .agg #[.int .i64 0, .int .i64 0]]) (by simp [results, Tryd.results21, go_sem, a0, a1, a2, a3, a4, b0, b1]) rfl ⟨?_, hb3⟩
    rw [HE.out, hn]; rfl
  | inr p =>
    rintro e w1 ⟨rfl, hb1⟩
    obtain ⟨h0, h1, h2, hb⟩ := three_rows hb1
    unfold oneV
    go_wp2_with (first | (refine store_any 39 (tkC 0 0 0 ⟨#[]⟩ 0) w.heap.size w.heap.size _ h0 hb (Nat.le_refl _) info_rt rfl (by simp [Value.oneCell']) rfl _ _ rfl rfl rfl ?_; intro W2 k2 hb2 ho2) | (refine store_any 32 #[.int .i64 p.1, .int .i64 p.2] w.heap.size (w.heap.size + 1) _ ((ho2 _ (by omega)).trans h1) hb2 (by omega) info_rf rfl (by simp [Value.oneCell']) rfl _ _ rfl rfl rfl ?_; intro W3 k3 hb3 ho3))
    obtain ⟨a0, a1, a2, a3, a4⟩ := cells5 ((ho3 _ (by omega)).trans k2)
    obtain ⟨b0, b1⟩ := two_cells k3
    refine bodyPost_ret (v := .tuple #[.agg #[.int .i64 0, .int .i64 0, .int .i64 0, .string ⟨#[]⟩, .int .i64 0], .agg #[.int .i64 p.1, .int .i64 p.2]]) (by simp [results, Tryd.results21, go_sem, a0, a1, a2, a3, a4, b0, b1]) rfl ⟨?_, hb3⟩
    rw [HE.out, hn]; rfl

/-- the longest op of at most n bytes, where it fits -/
def opR (s : ByteArray) (i : Nat) : Nat → Tk ⊕ (Nat × Int)
  | 0 => .inr (i, 20)
  | n + 1 => if i + (n + 1) ≤ s.size ∧ inL opsL (s.extract i (i + (n + 1))) = true then .inl ⟨6, i, i + (n + 1), s.extract i (i + (n + 1)), 0⟩ else opR s i n
theorem opR_succ (s : ByteArray) (i n : Nat) : opR s i (n + 1) = if i + (n + 1) ≤ s.size ∧ inL opsL (s.extract i (i + (n + 1))) = true then .inl ⟨6, i, i + (n + 1), s.extract i (i + (n + 1)), 0⟩ else opR s i n := rfl
theorem opAt_R (s : ByteArray) (i : Nat) (hi : i < s.size) : opAt s i = opR s i 2 := by
  unfold opAt
  rw [show (2 : Nat) = 1 + 1 from rfl, opR_succ, show (1 : Nat) = 0 + 1 from rfl, opR_succ]
  by_cases h2 : i + 2 ≤ s.size ∧ inL opsL (s.extract i (i + 2)) = true
  · rw [if_pos h2, if_pos h2]
  · rw [if_neg h2, if_neg h2]
    by_cases h1 : inL opsL (s.extract i (i + 1)) = true
    · rw [if_pos h1, if_pos ⟨by omega, h1⟩]
    · rw [if_neg h1, if_neg (fun h => h1 h.2)]
      rfl

set_option maxHeartbeats 8000000 in
set_option maxRecDepth 100000 in
theorem one_sign (s : ByteArray) (hs : s.size ≤ 1000000) (i : Nat) (hi : i < s.size) (hc : cls (atB s i) = 5) (w : World) :
    Calls Tryd.prog 21 #[.string s, .int .i64 i] w fun e w' => e = .returned (oneV (oneAt s i)) ∧ Below w.heap.size w w' := by
  have hO : oneAt s i = opR s i 2 := by unfold oneAt; rw [if_neg (by omega), if_neg (by omega), if_neg (by omega), if_neg (by omega), if_pos hc, opAt_R s i hi]
  have HO := Lib.hid hO
  clear hO
  go_enter Tryd.func21, Tryd.ntmps21
  go_wp2_with fail
  refine (rclass_at s i hi _).mono ?_
  rw [hc]
  rintro e w' ⟨rfl, rfl⟩
  go_wp2
  have hrows := three_rows (w := w) (a := rTk 0 0 0 ⟨#[]⟩ 0) (b := rFt 0 0) (c := rTk 6 i (i + 1) ⟨#[]⟩ 0) (Below.refl _ _)
  go_loopw [10] (fun nv wr => ∃ n : Nat, n ≤ 2 ∧ nv = .int .i64 n ∧ Hid (oneAt s i = opR s i n) ∧ wr.heap[w.heap.size]? = some (rTk 0 0 0 ⟨#[]⟩ 0) ∧ wr.heap[w.heap.size + 1]? = some (rFt 0 0) ∧ wr.heap[w.heap.size + 2]? = some (rTk 6 i (i + 1) ⟨#[]⟩ 0) ∧ Below w.heap.size w wr) (fun nv _ => (intOf nv).toNat)
  case atStart => exact ⟨2, Nat.le_refl _, rfl, HO, hrows.1, hrows.2.1, hrows.2.2.1, hrows.2.2.2⟩
  case round =>
    obtain ⟨n, hn, rfl, H, h0, h1, h2, hb⟩ := hrel
    clear hrows HO
    cases n with
    | zero =>
      go_wp2_with (first | (refine store_any 39 (tkC 0 0 0 ⟨#[]⟩ 0) w.heap.size w.heap.size _ h0 hb (Nat.le_refl _) info_rt rfl (by simp [Value.oneCell']) rfl _ _ rfl rfl rfl ?_; intro W2 k2 hb2 ho2) | (refine store_any 32 #[.int .i64 i, .int .i64 20] w.heap.size (w.heap.size + 1) _ ((ho2 _ (by omega)).trans h1) hb2 (by omega) info_rf rfl (by simp [Value.oneCell']) rfl _ _ rfl rfl rfl ?_; intro W3 k3 hb3 ho3))
      obtain ⟨a0, a1, a2, a3, a4⟩ := cells5 ((ho3 _ (by omega)).trans k2)
      obtain ⟨b0, b1⟩ := two_cells k3
      refine bodyPost_ret (v := .tuple #[.agg #[.int .i64 0, .int .i64 0, .int .i64 0, .string ⟨#[]⟩, .int .i64 0], .agg #[.int .i64 i, .int .i64 20]]) (by simp [results, Tryd.results21, go_sem, a0, a1, a2, a3, a4, b0, b1]) rfl ⟨?_, hb3⟩
      rw [H.out]; rfl
    | succ n =>
      by_cases hfit : i + (n + 1) ≤ s.size
      · have hfit2 : (n : Int) + 1 ≤ (s.size : Int) - i := by omega
        by_cases ho : inL opsL (s.extract i (i + (n + 1))) = true
        · have HE : Hid (oneAt s i = .inl ⟨6, i, i + (n + 1), s.extract i (i + (n + 1)), 0⟩) := Lib.hid (by rw [H.out, opR_succ, if_pos ⟨hfit, ho⟩])
          go_wp2_with fail
          refine (sign_any _ _).mono ?_
          rintro e w1 ⟨rfl, hb1⟩
          have g0 := (hb1.block _ (lt_heap h0)).trans h0
          have g1 := (hb1.block _ (lt_heap h1)).trans h1
          have g2 := (hb1.block _ (lt_heap h2)).trans h2
          have hbb := hb.trans (hb1.mono hb.size)
          obtain ⟨c0, c1, c2, c3, c4⟩ := cells5 g2
          have f2 := frozen5 g2 2
          have f3 := frozen5 g2 3
          obtain ⟨s1, s2⟩ := set_row hbb (show w.heap.size ≤ w.heap.size + 2 by omega) [(2, .int .i64 ((i : Int) + ((n : Int) + 1))), (3, .string (s.extract i (i + (n + 1))))]
          simp only [List.foldl_cons, List.foldl_nil] at s1 s2
          go_wp2_with (first | (refine store_any 39 (tkC 6 i ((i : Int) + ((n : Int) + 1)) (s.extract i (i + (n + 1))) 0) w.heap.size w.heap.size _ ((s2 _ (by omega)).trans g0) s1 (Nat.le_refl _) info_rt rfl (by simp [Value.oneCell']) rfl _ _ rfl rfl rfl ?_; intro W2 k2 hb2 ho2) | (refine store_any 32 #[.int .i64 0, .int .i64 0] w.heap.size (w.heap.size + 1) _ ((ho2 _ (by omega)).trans ((s2 _ (by omega)).trans g1)) hb2 (by omega) info_rf rfl (by simp [Value.oneCell']) rfl _ _ rfl rfl rfl ?_; intro W3 k3 hb3 ho3))
          obtain ⟨a0, a1, a2, a3, a4⟩ := cells5 ((ho3 _ (by omega)).trans k2)
          obtain ⟨b0, b1⟩ := two_cells k3
          refine bodyPost_ret (v := .tuple #[.agg #[.int .i64 6, .int .i64 i, .int .i64 ((i : Int) + ((n : Int) + 1)), .string (s.extract i (i + (n + 1))), .int .i64 0], .agg #[.int .i64 0, .int .i64 0]]) (by simp [results, Tryd.results21, go_sem, a0, a1, a2, a3, a4, b0, b1]) rfl ⟨?_, hb3⟩
          rw [HE.out]; rfl
        · have ho' : inL opsL (s.extract i (i + (n + 1))) = false := by simpa using ho
          have HN := Lib.hid (H.out.trans (show opR s i (n + 1) = opR s i n by rw [opR_succ, if_neg (fun h => ho h.2)]))
          clear ho
          go_wp2_with fail
          refine (sign_any _ _).mono ?_
          rintro e w1 ⟨rfl, hb1⟩
          go_wp2
          go_roundw
          case rel => exact ⟨n, by omega, by go_num, HN, (hb1.block _ (lt_heap h0)).trans h0, (hb1.block _ (lt_heap h1)).trans h1, (hb1.block _ (lt_heap h2)).trans h2, hb.trans (hb1.mono hb.size)⟩
          case measure => simp [intOf]
      · have hfit2 : ¬ (n : Int) + 1 ≤ (s.size : Int) - i := by omega
        have HN := Lib.hid (H.out.trans (show opR s i (n + 1) = opR s i n by rw [opR_succ, if_neg (fun h => hfit h.1)]))
        go_wp2
        go_roundw
        case rel => exact ⟨n, by omega, by go_num, HN, h0, h1, h2, hb⟩
        case measure => simp [intOf]

/-- **the document's one, at any place of a text** -/
theorem one_any (s : ByteArray) (hs : s.size ≤ 1000000) (i : Nat) (hi : i < s.size) (w : World) :
    Calls Tryd.prog 21 #[.string s, .int .i64 i] w fun e w' => e = .returned (oneV (oneAt s i)) ∧ Below w.heap.size w w' := by
  rcases cls_in (atB s i) with hc | hc | hc | hc | hc | hc | hc | hc
  · exact one_name s hs i hi 3 hc (.inl rfl) w
  · exact one_name s hs i hi 4 hc (.inr rfl) w
  · exact one_number s hs i hi hc w
  · exact one_quoted s hs i hi hc w
  · exact one_sign s hs i hi hc w
  · exact one_mark s hs i hi hc w
  · exact one_other s hs i hi 0 hc (.inl rfl) w
  · exact one_other s hs i hi 1 hc (.inr rfl) w
end Go.Proofs.YtifmbhcajlnhbaaDoor
