/-
  LINES AND COLUMNS IN PLAIN WORDS: lists of bytes alone; no walk, no program.
-/
import Derived.WalkKit
import Derived.Lib.IndexLaws
import Derived.Lib.LastIndexByte
namespace Go.Proofs.Ytdccedmfelpanaa.Pl

/-- one byte further: line and column -/
def stp (p : Nat × Nat) (b : UInt8) : Nat × Nat := if b = 10 then (p.1 + 1, 1) else (p.1, p.2 + 1)
/-- line and column behind these bytes -/
def plc (l : List UInt8) : Nat × Nat := l.foldl stp (1, 1)

theorem plc_nil : plc [] = (1, 1) := rfl
theorem plc_snoc (l : List UInt8) (b : UInt8) : plc (l ++ [b]) = stp (plc l) b := by simp [plc]
theorem take_snoc' (l : List UInt8) (k : Nat) (h : k < l.length) : l.take (k + 1) = l.take k ++ [l[k]] := by
  rw [List.take_succ_eq_append_getElem h]
theorem plc_succ (l : List UInt8) (k : Nat) (h : k < l.length) : plc (l.take (k + 1)) = stp (plc (l.take k)) l[k] := by rw [take_snoc' l k h, plc_snoc]
theorem stp_le (p : Nat × Nat) (b : UInt8) : p.1 ≤ (stp p b).1 ∧ (stp p b).1 ≤ p.1 + 1 ∧ (stp p b).2 ≤ p.2 + 1 ∧ (1 ≤ p.2 → 1 ≤ (stp p b).2) := by
  unfold stp; by_cases h : b = 10
  · rw [if_pos h]; simp
  · rw [if_neg h]; simp
theorem plc_bounds (l : List UInt8) : ∀ k, k ≤ l.length → 1 ≤ (plc (l.take k)).1 ∧ (plc (l.take k)).1 ≤ k + 1 ∧ 1 ≤ (plc (l.take k)).2 ∧ (plc (l.take k)).2 ≤ k + 1 := by
  intro k
  induction k with
  | zero => intro _; simp [plc]
  | succ k ih =>
    intro hk
    obtain ⟨a, b, c, d⟩ := ih (by omega)
    obtain ⟨e, f, g, h⟩ := stp_le (plc (l.take k)) (l[k]'(by omega))
    rw [plc_succ l k (by omega)]
    have := h c
    omega
/-- lines rise -/
theorem plc_mono (l : List UInt8) (i : Nat) : ∀ d, i + d ≤ l.length → (plc (l.take i)).1 ≤ (plc (l.take (i + d))).1 := by
  intro d
  induction d with
  | zero => intro _; exact Nat.le_refl _
  | succ d ih =>
    intro h
    have h1 := ih (by omega)
    have h2 := (stp_le (plc (l.take (i + d))) (l[i + d]'(by omega))).1
    rw [show i + (d + 1) = (i + d) + 1 from by omega, plc_succ l (i + d) (by omega)]
    omega
theorem plc_mono' (l : List UInt8) (i j : Nat) (hij : i ≤ j) (hj : j ≤ l.length) : (plc (l.take i)).1 ≤ (plc (l.take j)).1 := by
  have := plc_mono l i (j - i) (by omega)
  rwa [show i + (j - i) = j from by omega] at this
/-- within a line the columns rise one by one -/
theorem plc_seg (l : List UInt8) (f : Nat) : ∀ d, f + d ≤ l.length → (∀ k, f ≤ k → k < f + d → l[k]? ≠ some 10) → plc (l.take (f + d)) = ((plc (l.take f)).1, (plc (l.take f)).2 + d) := by
  intro d
  induction d with
  | zero => intro _ _; rfl
  | succ d ih =>
    intro h hno
    have h1 := ih (by omega) (fun k hk hk2 => hno k hk (by omega))
    have h2 := hno (f + d) (by omega) (by omega)
    rw [List.getElem?_eq_getElem (by omega : f + d < l.length)] at h2
    have h3 : ¬ l[f + d] = 10 := fun e => h2 (by rw [e])
    rw [show f + (d + 1) = (f + d) + 1 from by omega, plc_succ l (f + d) (by omega), h1]
    unfold stp
    rw [if_neg h3]
    simp only [Prod.mk.injEq, true_and]
    omega
theorem plc_feed (l : List UInt8) (t : Nat) (h : t < l.length) (h10 : l[t]? = some 10) : plc (l.take (t + 1)) = ((plc (l.take t)).1 + 1, 1) := by
  rw [List.getElem?_eq_getElem h] at h10
  rw [plc_succ l t h]
  unfold stp
  rw [if_pos (by simpa using h10)]
/-- where a line begins: all ahead of it is of a lesser line -/
theorem plc_first (l : List UInt8) (f i : Nat) (hf : f ≤ l.length) (h1 : (plc (l.take f)).2 = 1) (hi : i < f) : (plc (l.take i)).1 < (plc (l.take f)).1 := by
  obtain ⟨g, rfl⟩ : ∃ g, f = g + 1 := ⟨f - 1, by omega⟩
  have hs := plc_succ l g (by omega)
  have hb := (plc_bounds l g (by omega)).2.2.1
  have hm := plc_mono' l i g (by omega) (by omega)
  unfold stp at hs
  by_cases h : l[g]'(by omega) = 10
  · rw [if_pos h] at hs; rw [hs]; simp; omega
  · rw [if_neg h] at hs; rw [hs] at h1; simp at h1; omega

/-- the place of a line and a column: the first one, if there is one -/
def offL (l : List UInt8) (line col : Int) : Option Nat := (List.range (l.length + 1)).find? fun i => decide (((plc (l.take i)).1 : Int) = line ∧ ((plc (l.take i)).2 : Int) = col)

theorem offL_some (l : List UInt8) (line col : Int) (i : Nat) (hi : i ≤ l.length) (h : ((plc (l.take i)).1 : Int) = line ∧ ((plc (l.take i)).2 : Int) = col)
    (hno : ∀ j, j < i → ¬ (((plc (l.take j)).1 : Int) = line ∧ ((plc (l.take j)).2 : Int) = col)) : offL l line col = some i := by
  unfold offL
  rw [List.find?_range_eq_some]
  refine ⟨by simpa using h, by simp; omega, fun j hj => ?_⟩
  rw [Bool.not_eq_true', decide_eq_false_iff_not]
  exact hno j hj
theorem offL_none (l : List UInt8) (line col : Int) (hno : ∀ j, j ≤ l.length → ¬ (((plc (l.take j)).1 : Int) = line ∧ ((plc (l.take j)).2 : Int) = col)) : offL l line col = none := by
  unfold offL
  rw [List.find?_eq_none]
  intro j hj
  simp only [List.mem_range] at hj
  simpa using hno j (by omega)

/-- a line lies from f to t -/
def IsLine (l : List UInt8) (line : Int) (f t : Nat) : Prop :=
  f ≤ t ∧ t ≤ l.length ∧ ((plc (l.take f)).1 : Int) = line ∧ (plc (l.take f)).2 = 1 ∧ (∀ k, f ≤ k → k < t → l[k]? ≠ some 10) ∧ (t = l.length ∨ l[t]? = some 10)

theorem IsLine.off_in {l : List UInt8} {line : Int} {f t : Nat} (h : IsLine l line f t) (c : Nat) (h1 : 1 ≤ c) (h2 : c ≤ t - f + 1) : offL l line c = some (f + (c - 1)) := by
  obtain ⟨a, b, hl, hc, hno, _⟩ := h
  have hs := plc_seg l f (c - 1) (by omega) (fun k hk hk2 => hno k hk (by omega))
  refine offL_some l line c _ (by omega) ⟨by rw [hs]; exact hl, by rw [hs]; simp; omega⟩ (fun j hj hbad => ?_)
  by_cases hjf : j < f
  · have := plc_first l f j (by omega) hc hjf; omega
  · have hs2 := plc_seg l f (j - f) (by omega) (fun k hk hk2 => hno k hk (by omega))
    rw [show f + (j - f) = j from by omega] at hs2
    rw [hs2] at hbad
    have := hbad.2
    simp at this
    omega
theorem IsLine.off_out {l : List UInt8} {line : Int} {f t : Nat} (h : IsLine l line f t) (c : Int) (h1 : c < 1 ∨ (t : Int) - f + 1 < c) : offL l line c = none := by
  obtain ⟨a, b, hl, hc, hno, hend⟩ := h
  refine offL_none l line c (fun j hj hbad => ?_)
  by_cases hjf : j < f
  · have := plc_first l f j (by omega) hc hjf; omega
  by_cases hjt : j ≤ t
  · have hs2 := plc_seg l f (j - f) (by omega) (fun k hk hk2 => hno k hk (by omega))
    rw [show f + (j - f) = j from by omega] at hs2
    rw [hs2] at hbad
    have := hbad.2
    simp at this
    omega
  · have ht : l[t]? = some 10 := by rcases hend with e | e; · omega
                                    · exact e
    have hf := plc_feed l t (by omega) ht
    have hs := plc_seg l f (t - f) (by omega) (fun k hk hk2 => hno k hk (by omega))
    rw [show f + (t - f) = t from by omega] at hs
    have hm := plc_mono' l (t + 1) j (by omega) hj
    rw [hf, hs] at hm
    simp at hm
    omega
/-- the first place of a line is its first column's -/
theorem IsLine.off_first {l : List UInt8} {line : Int} {f t : Nat} (h : IsLine l line f t) : offL l line 1 = some f := by
  have := h.off_in 1 (by omega) (by omega)
  simpa using this
theorem IsLine.unique {l : List UInt8} {line : Int} {f t f' t' : Nat} (h : IsLine l line f t) (h' : IsLine l line f' t') : f = f' ∧ t = t' := by
  have e : f = f' := by have a := h.off_first; rw [h'.off_first] at a; simpa using a.symm
  subst e
  obtain ⟨a, b, _, _, hno, hend⟩ := h
  obtain ⟨a', b', _, _, hno', hend'⟩ := h'
  refine ⟨rfl, ?_⟩
  rcases Nat.lt_trichotomy t t' with hlt | heq | hgt
  · rcases hend with e | e
    · omega
    · exact absurd e (hno' t (by omega) hlt)
  · exact heq
  · rcases hend' with e | e
    · omega
    · exact absurd e (hno t' (by omega) hgt)

/-- there and back -/
theorem plc_inj (l : List UInt8) (i j : Nat) (hi : i ≤ l.length) (hj : j ≤ l.length) (h : plc (l.take i) = plc (l.take j)) : i = j := by
  have key : ∀ a d, a + (d + 1) ≤ l.length → plc (l.take a) ≠ plc (l.take (a + (d + 1))) := by
    intro a d hd e
    by_cases hno : ∀ k, a ≤ k → k < a + (d + 1) → l[k]? ≠ some 10
    · have := plc_seg l a (d + 1) hd hno
      rw [← e] at this
      have := congrArg Prod.snd this
      simp at this
    · simp only [Classical.not_forall, Classical.not_not, ne_eq] at hno
      obtain ⟨k, hk1, hk2, hk3⟩ := hno
      have h1 := plc_mono' l a k hk1 (by omega)
      have h2 := plc_feed l k (by omega) hk3
      have h3 := plc_mono' l (k + 1) (a + (d + 1)) (by omega) hd
      rw [h2, ← e] at h3
      simp at h3
      omega
  rcases Nat.lt_trichotomy i j with hlt | heq | hgt
  · exact absurd h (by have := key i (j - i - 1) (by omega); rwa [show i + (j - i - 1 + 1) = j from by omega] at this)
  · exact heq
  · exact absurd h.symm (by have := key j (i - j - 1) (by omega); rwa [show j + (i - j - 1 + 1) = i from by omega] at this)
theorem off_place (l : List UInt8) (i : Nat) (hi : i ≤ l.length) : offL l (plc (l.take i)).1 (plc (l.take i)).2 = some i := by
  refine offL_some l _ _ i hi ⟨rfl, rfl⟩ (fun j hj hbad => ?_)
  have : plc (l.take j) = plc (l.take i) := Prod.ext (by omega) (by omega)
  have := plc_inj l j i (by omega) hi this
  omega

theorem foldl_line : ∀ (l : List UInt8) (p : Nat × Nat), (l.foldl stp p).1 = p.1 + l.count 10
  | [], p => by simp
  | b :: l, p => by
    rw [List.foldl_cons, foldl_line l, List.count_cons]
    unfold stp
    by_cases h : b = 10
    · rw [if_pos h, if_pos (by simpa using h)]; simp; omega
    · rw [if_neg h, if_neg (by simpa using h)]; rfl
theorem plc_line (l : List UInt8) : (plc l).1 = l.count 10 + 1 := by unfold plc; rw [foldl_line]; omega
theorem plc_col (s : ByteArray) : ((plc s.data.toList).2 : Int) = s.size - Lib.lastIndexByte s 10 := by
  have hlen : s.data.toList.length = s.size := Array.length_toList
  have hget : ∀ j, j < s.size → ∀ c : UInt8, s.data.toList[j]? = some c → s.data[j]! = c := by
    intro j hj c h
    rw [List.getElem?_eq_getElem (by omega)] at h
    simp at h
    rw [getElem!_pos s.data j hj]
    exact h
  have hno : ∀ f, (∀ j, f ≤ j → j < s.size → ((s.data[j]!).toNat : Int) ≠ 10) → ∀ k, f ≤ k → k < s.size → s.data.toList[k]? ≠ some 10 := by
    intro f h k hk hk2 e
    have := h k hk hk2
    rw [hget k hk2 10 e] at this
    exact this rfl
  rcases Lib.lastIndexByte_spec s 10 with ⟨e, hn⟩ | ⟨i, hi, e, hc, hn⟩
  · rw [e]
    have h := plc_seg s.data.toList 0 s.size (by omega) (fun k _ hk => hno 0 (fun j _ => hn j) k (by omega) (by omega))
    rw [Nat.zero_add, List.take_of_length_le (by omega)] at h
    rw [h]
    simp [plc_nil]
    omega
  · rw [e]
    have hf : s.data.toList[i]? = some 10 := by
      rw [List.getElem?_eq_getElem (by omega)]
      rw [getElem!_pos s.data i hi] at hc
      simp only [Array.getElem_toList, Option.some.injEq]
      exact UInt8.toNat_inj.1 (by have h2 : s.data[i].toNat = 10 := by omega
                                  exact h2)
    have h1 := plc_feed s.data.toList i (by omega) hf
    have h := plc_seg s.data.toList (i + 1) (s.size - (i + 1)) (by omega) (fun k hk hk2 => hno (i + 1) (fun j hj => hn j (by omega)) k hk (by omega))
    rw [show i + 1 + (s.size - (i + 1)) = s.size from by omega, List.take_of_length_le (by omega), h1] at h
    rw [h]
    simp
    omega
end Go.Proofs.Ytdccedmfelpanaa.Pl
