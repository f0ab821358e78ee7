/-
  Layer 2 in plain words: the verdicts on sources at the limits. No walk.
-/
import Derived.Test.YtifmbhcajlnhbaaDoorRScan
import Derived.Test.YtifmbhcajlnhbaaDoorTMath
namespace Go.Proofs.YtifmbhcajlnhbaaDoor
set_option linter.unusedVariables false
open Go.RowKit

/-- n times a byte -/
def rep (c : UInt8) (n : Nat) : ByteArray := ⟨(List.replicate n c).toArray⟩
theorem rep_size (c : UInt8) (n : Nat) : (rep c n).size = n := by
  show (List.replicate n c).toArray.size = n
  simp
theorem rep_at (c : UInt8) (n j : Nat) (h : j < n) : atB (rep c n) j = c.toNat := by
  unfold atB rep
  rw [List.getD_eq_getElem?_getD]
  simp [h]
/-- the fault's place and number; noughts: none -/
def vd (r : List Tk ⊕ (Nat × Int)) : Nat × Int := r.elim (fun _ => (0, 0)) id

theorem sp_skip (n : Nat) : ∀ m i, i + m = n → skip (rep 32 n) i = .inl n := by
  intro m
  induction m with
  | zero => intro i h; rw [skip_end _ _ (by rw [rep_size]; omega), show i = n from by omega]
  | succ m ih =>
    intro i h
    rw [skip_step _ i (by rw [rep_size]; omega), rep_at 32 n i (by omega), if_pos (by decide)]
    exact ih (i + 1) (by omega)
theorem sp_P (n : Nat) (h : n ≤ 65536) : vd (scanP (rep 32 n)) = (0, 0) := by
  unfold scanP
  rw [rep_size, if_neg (by omega), items_step (Nat.zero_le _), sp_skip n n 0 (by omega)]
  simp only [Sum.elim_inl]
  rw [readAt_end _ n (by rw [rep_size]; exact Nat.le_refl _)]
  simp only [Sum.elim_inl]
  rw [if_pos (show (endT (rep 32 n)).kind = 9 from rfl)]
  unfold coll
  rw [if_neg (by unfold verd; rw [if_neg (fun h => h.2.2 rfl)]; simp)]
  rfl
theorem sp_R (n : Nat) (h : n ≤ 65536) : vd (scanR (rep 32 n)) = (0, 0) := by
  unfold scanR
  rw [rep_size, if_neg (by omega), rsc_succ, sp_skip n n 0 (by omega)]
  simp only [Sum.elim_inl]
  rw [if_pos (by rw [rep_size]; exact Nat.le_refl _)]
  rfl

theorem semi_skip (n i : Nat) (h : i < n) : skip (rep 59 n) i = .inl i := by
  have ha := rep_at 59 n i h
  have ha' : atB (rep 59 n) i = 59 := ha
  refine skip_here ⟨?_, ?_, ?_⟩ (by rw [rep_size]; exact h)
  · rw [ha']; decide
  · unfold twoAt; rw [decide_eq_false_iff_not]; rintro ⟨_, h, _⟩; rw [ha'] at h; omega
  · unfold twoAt; rw [decide_eq_false_iff_not]; rintro ⟨_, h, _⟩; rw [ha'] at h; omega
theorem semi_read (n i : Nat) (h : i < n) : readAt (rep 59 n) i = .inl ⟨7, i, i + 1, (rep 59 n).extract i (i + 1), 0⟩ := by
  have ha : atB (rep 59 n) i = 59 := rep_at 59 n i h
  unfold readAt
  rw [ha, if_neg (by rw [rep_size]; omega), if_neg (by decide), if_neg (by decide), if_neg (by decide), if_neg (by decide), if_pos (by decide)]
theorem semi_one (n i : Nat) (h : i < n) : oneAt (rep 59 n) i = .inl ⟨7, i, i + 1, (rep 59 n).extract i (i + 1), 0⟩ := by
  have ha : atB (rep 59 n) i = 59 := rep_at 59 n i h
  unfold oneAt
  rw [ha, if_neg (by decide), if_neg (by decide), if_neg (by decide), if_pos (by decide)]
theorem semi_P (n : Nat) : ∀ m i, i + m = n → i ≤ 16384 → (n ≤ 16384 → ∃ l, coll i (items (rep 59 n) i) = .inl l) ∧ (16384 < n → coll i (items (rep 59 n) i) = .inr (16384, 6)) := by
  intro m
  induction m with
  | zero =>
    intro i h hi
    refine ⟨fun hn => ?_, fun hn => by omega⟩
    rw [items_step (by rw [rep_size]; omega), skip_end _ i (by rw [rep_size]; omega)]
    simp only [Sum.elim_inl]
    rw [readAt_end _ i (by rw [rep_size]; omega)]
    simp only [Sum.elim_inl]
    rw [if_pos (show (endT (rep 59 n)).kind = 9 from rfl)]
    unfold coll
    rw [if_neg (by unfold verd; rw [if_neg (fun h => h.2.2 rfl)]; simp)]
    exact ⟨_, rfl⟩
  | succ m ih =>
    intro i h hi
    rw [items_step (by rw [rep_size]; omega), semi_skip n i (by omega)]
    simp only [Sum.elim_inl]
    rw [semi_read n i (by omega)]
    simp only [Sum.elim_inl]
    rw [if_neg (show (7 : Int) ≠ 9 by decide)]
    unfold coll
    by_cases h16 : i = 16384
    · refine ⟨fun hn => by omega, fun _ => ?_⟩
      have hv : verd i ((⟨7, i, i + 1, (rep 59 n).extract i (i + 1), 0⟩ : Tk), 0) = 6 := by
        unfold verd
        rw [if_pos ⟨rfl, h16, (show (7 : Int) ≠ 9 by decide)⟩]
      rw [hv, if_pos (by decide), h16]
    · have hv : verd i ((⟨7, i, i + 1, (rep 59 n).extract i (i + 1), 0⟩ : Tk), 0) = 0 := by
        unfold verd
        rw [if_neg (fun h => h16 h.2.1)]
      obtain ⟨h1, h2⟩ := ih (i + 1) (by omega) (by omega)
      rw [hv, if_neg (by decide)]
      refine ⟨fun hn => ?_, fun hn => ?_⟩
      · obtain ⟨l, hl⟩ := h1 hn
        rw [hl]
        exact ⟨_, rfl⟩
      · rw [h2 hn]
        rfl
theorem semi_R (n : Nat) : ∀ m i f, i + m = n → m < f → i ≤ 16384 → (n ≤ 16384 → ∃ l, rsc (rep 59 n) f i i = .inl l) ∧ (16384 < n → rsc (rep 59 n) f i i = .inr (16384, 6)) := by
  intro m
  induction m with
  | zero =>
    intro i f h hf hi
    obtain ⟨f, rfl⟩ : ∃ g, f = g + 1 := ⟨f - 1, by omega⟩
    refine ⟨fun hn => ?_, fun hn => by omega⟩
    rw [rsc_succ, skip_end _ i (by rw [rep_size]; omega)]
    simp only [Sum.elim_inl]
    rw [if_pos (by rw [rep_size]; omega)]
    exact ⟨_, rfl⟩
  | succ m ih =>
    intro i f h hf hi
    obtain ⟨f, rfl⟩ : ∃ g, f = g + 1 := ⟨f - 1, by omega⟩
    rw [rsc_succ, semi_skip n i (by omega)]
    simp only [Sum.elim_inl]
    rw [if_neg (by rw [rep_size]; omega), semi_one n i (by omega)]
    simp only [Sum.elim_inl]
    by_cases h16 : i = 16384
    · refine ⟨fun hn => by omega, fun _ => ?_⟩
      rw [if_pos (by omega), h16]
    · obtain ⟨h1, h2⟩ := ih (i + 1) f (by omega) (by omega) (by omega)
      rw [if_neg (by omega)]
      refine ⟨fun hn => ?_, fun hn => ?_⟩
      · obtain ⟨l, hl⟩ := h1 hn
        rw [hl]
        exact ⟨_, rfl⟩
      · rw [h2 hn]
        rfl
theorem semi_vd (n : Nat) (hn : n ≤ 65536) : vd (scanP (rep 59 n)) = (if n ≤ 16384 then (0, 0) else (16384, 6)) ∧ vd (scanR (rep 59 n)) = (if n ≤ 16384 then (0, 0) else (16384, 6)) := by
  obtain ⟨p1, p2⟩ := semi_P n n 0 (by omega) (by omega)
  obtain ⟨r1, r2⟩ := semi_R n n 0 (n + 1) (by omega) (by omega) (by omega)
  unfold scanP scanR
  rw [rep_size, if_neg (show ¬ 65536 < n by omega), if_neg (show ¬ 65536 < n by omega)]
  by_cases h : n ≤ 16384
  · rw [if_pos h]
    obtain ⟨l, hl⟩ := p1 h
    obtain ⟨l2, hl2⟩ := r1 h
    rw [hl, hl2]
    exact ⟨rfl, rfl⟩
  · rw [if_neg h, p2 (by omega), r2 (by omega)]
    exact ⟨rfl, rfl⟩
theorem big_vd (s : ByteArray) (h : 65536 < s.size) : vd (scanP s) = (0, 6) ∧ vd (scanR s) = (0, 6) := by
  unfold scanP scanR
  rw [if_pos h, if_pos h]
  exact ⟨rfl, rfl⟩
theorem scanR_small' (s : ByteArray) (hs : s.size ≤ 3000) : scanR s = scanP s := by
  unfold scanR
  rw [if_neg (by omega), scanP_small s (by omega)]
  exact rsc_scan s _ 0 0 (Nat.zero_le _) (by omega) (by omega) (fun _ _ => .inl rfl)

/-- notes within each other -/
def nest : Nat → List UInt8
  | 0 => []
  | n + 1 => 123 :: 45 :: (nest n ++ [45, 125])
theorem nest_len : ∀ n, (nest n).length = 4 * n
  | 0 => rfl
  | n + 1 => by simp [nest, nest_len n]; omega
/-- the source of each kind -/
def srcL (K n : Nat) : List UInt8 := match K with
  | 0 => List.replicate n 32
  | 1 => List.replicate n 59
  | 2 => List.replicate n 97
  | 3 => 34 :: (List.replicate n 98 ++ [34])
  | _ => nest n
def srcS (K n : Nat) : ByteArray := ⟨(srcL K n).toArray⟩
/-- the limit of each kind -/
def lim (K : Nat) : Nat := match K with
  | 0 => 65536
  | 1 => 16384
  | 2 => 32
  | 3 => 256
  | _ => 100
set_option maxRecDepth 1000000 in
theorem v20 : vd (scanP (srcS 2 31)) = (0, 0) := by kernel_rfl
set_option maxRecDepth 1000000 in
theorem v21 : vd (scanP (srcS 2 32)) = (0, 0) := by kernel_rfl
set_option maxRecDepth 1000000 in
theorem v22 : vd (scanP (srcS 2 33)) = (0, 6) := by kernel_rfl
set_option maxRecDepth 1000000 in
theorem v30 : vd (scanP (srcS 3 255)) = (0, 0) := by kernel_rfl
set_option maxRecDepth 1000000 in
theorem v31 : vd (scanP (srcS 3 256)) = (0, 0) := by kernel_rfl
set_option maxRecDepth 1000000 in
theorem v32 : vd (scanP (srcS 3 257)) = (0, 22) := by kernel_rfl
set_option maxRecDepth 1000000 in
theorem v40 : vd (scanP (srcS 4 99)) = (0, 0) := by kernel_rfl
set_option maxRecDepth 1000000 in
theorem v41 : vd (scanP (srcS 4 100)) = (0, 0) := by kernel_rfl
set_option maxRecDepth 1000000 in
theorem v42 : vd (scanP (srcS 4 101)) = (0, 23) := by kernel_rfl
/-- **the verdicts: both the same, a fault just above the limit** -/
theorem size_vd (K n : Nat) (hK : K < 5) (h1 : lim K ≤ n + 1) (h2 : n ≤ lim K + 1) : ∃ (a : Nat) (e : Int), vd (scanP (srcS K n)) = (a, e) ∧ vd (scanR (srcS K n)) = (a, e) ∧ ((e = 0 ∧ n ≤ lim K) ∨ (e ≠ 0 ∧ lim K < n)) := by
  have three : ∀ x : Nat, lim K = x + 1 → n = x ∨ n = x + 1 ∨ n = x + 2 := fun x hx => by omega
  have small : ∀ K n, (srcS K n).size ≤ 3000 → scanR (srcS K n) = scanP (srcS K n) := fun K n h => scanR_small' _ h
  match K, hK with
  | 0, _ =>
    have hr : srcS 0 n = rep 32 n := rfl
    have hl : lim 0 = 65536 := rfl
    rw [hr]
    by_cases h : n ≤ 65536
    · exact ⟨0, 0, sp_P n h, sp_R n h, .inl ⟨rfl, by omega⟩⟩
    · obtain ⟨b1, b2⟩ := big_vd (rep 32 n) (by rw [rep_size]; omega)
      exact ⟨0, 6, b1, b2, .inr ⟨by decide, by omega⟩⟩
  | 1, _ =>
    have hr : srcS 1 n = rep 59 n := rfl
    have hl : lim 1 = 16384 := rfl
    rw [hr]
    obtain ⟨b1, b2⟩ := semi_vd n (by omega)
    by_cases h : n ≤ 16384
    · rw [if_pos h] at b1 b2
      exact ⟨0, 0, b1, b2, .inl ⟨rfl, by omega⟩⟩
    · rw [if_neg h] at b1 b2
      exact ⟨16384, 6, b1, b2, .inr ⟨by decide, by omega⟩⟩
  | 2, _ =>
    have hl : lim 2 = 32 := rfl
    rcases three 31 rfl with rfl | rfl | rfl
    · exact ⟨0, 0, v20, by rw [small 2 31 (by decide)]; exact v20, .inl ⟨rfl, by omega⟩⟩
    · exact ⟨0, 0, v21, by rw [small 2 32 (by decide)]; exact v21, .inl ⟨rfl, by omega⟩⟩
    · exact ⟨0, 6, v22, by rw [small 2 33 (by decide)]; exact v22, .inr ⟨by decide, by omega⟩⟩
  | 3, _ =>
    have hl : lim 3 = 256 := rfl
    have hz : ∀ n, (srcS 3 n).size = n + 2 := fun n => by show (srcL 3 n).toArray.size = _; simp [srcL]
    rcases three 255 rfl with rfl | rfl | rfl
    · exact ⟨0, 0, v30, by rw [small 3 255 (by rw [hz]; omega)]; exact v30, .inl ⟨rfl, by omega⟩⟩
    · exact ⟨0, 0, v31, by rw [small 3 256 (by rw [hz]; omega)]; exact v31, .inl ⟨rfl, by omega⟩⟩
    · exact ⟨0, 22, v32, by rw [small 3 257 (by rw [hz]; omega)]; exact v32, .inr ⟨by decide, by omega⟩⟩
  | 4, _ =>
    have hl : lim 4 = 100 := rfl
    have hz : ∀ n, (srcS 4 n).size = 4 * n := fun n => by show (nest n).toArray.size = _; simp [nest_len]
    rcases three 99 rfl with rfl | rfl | rfl
    · exact ⟨0, 0, v40, by rw [small 4 99 (by rw [hz]; omega)]; exact v40, .inl ⟨rfl, by omega⟩⟩
    · exact ⟨0, 0, v41, by rw [small 4 100 (by rw [hz]; omega)]; exact v41, .inl ⟨rfl, by omega⟩⟩
    · exact ⟨0, 23, v42, by rw [small 4 101 (by rw [hz]; omega)]; exact v42, .inr ⟨by decide, by omega⟩⟩
end Go.Proofs.YtifmbhcajlnhbaaDoor
