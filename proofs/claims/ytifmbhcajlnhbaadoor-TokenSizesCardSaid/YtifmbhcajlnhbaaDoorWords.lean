/-
  Layer 2, the document's side: keys, ops, letters, words, texts at a place.
-/
import Derived.Test.YtifmbhcajlnhbaaDoorHas
import Derived.Test.YtifmbhcajlnhbaaDoorUn
namespace Go.Proofs.YtifmbhcajlnhbaaDoor
set_option linter.unusedVariables false
open Go.ChangeShapes Go.WideShapes Go.ChangeAt Go.RowKit

def keysL : List ByteArray := [⟨#[99, 97, 115, 101]⟩, ⟨#[100, 97, 116, 97]⟩, ⟨#[101, 108, 115, 101]⟩, ⟨#[105, 102]⟩, ⟨#[105, 110]⟩, ⟨#[108, 101, 116]⟩, ⟨#[111, 102]⟩, ⟨#[116, 104, 101, 110]⟩]
def opsL : List ByteArray := [⟨#[43]⟩, ⟨#[45]⟩, ⟨#[42]⟩, ⟨#[47]⟩, ⟨#[37]⟩, ⟨#[61, 61]⟩, ⟨#[47, 61]⟩, ⟨#[60]⟩, ⟨#[60, 61]⟩, ⟨#[62]⟩, ⟨#[62, 61]⟩, ⟨#[38, 38]⟩, ⟨#[124, 124]⟩, ⟨#[58]⟩, ⟨#[43, 43]⟩, ⟨#[61]⟩, ⟨#[124]⟩, ⟨#[45, 62]⟩, ⟨#[92]⟩, ⟨#[58, 58]⟩, ⟨#[46]⟩]
/-- is a text one of these? -/
def inL (l : List ByteArray) (s : ByteArray) : Bool := l.any fun t => t.toList == s.toList
/-- none of the first k -/
def Upto (l : List ByteArray) (s : ByteArray) (k : Nat) : Prop := ∀ j, j < k → ((l[j]?.getD ⟨#[]⟩).toList == s.toList) = false
theorem Upto.next {l : List ByteArray} {s : ByteArray} {k : Nat} (h : Upto l s k) (e : ((l[k]?.getD ⟨#[]⟩).toList == s.toList) = false) : Upto l s (k + 1) := by
  intro j hj
  by_cases hjk : j = k
  · subst hjk; exact e
  · exact h j (by omega)
theorem Upto.none {l : List ByteArray} {s : ByteArray} {k : Nat} (h : Upto l s k) (hk : l.length ≤ k) : inL l s = false := by
  unfold inL
  rw [List.any_eq_false]
  intro t ht
  obtain ⟨j, hj, rfl⟩ := List.mem_iff_getElem.1 ht
  have := h j (by omega)
  rw [List.getElem?_eq_getElem hj] at this
  simpa using this
theorem inL_hit {l : List ByteArray} {s : ByteArray} {k : Nat} (hk : k < l.length) (e : ((l[k]?.getD ⟨#[]⟩).toList == s.toList) = true) : inL l s = true := by
  unfold inL
  rw [List.any_eq_true]
  rw [List.getElem?_eq_getElem hk] at e
  exact ⟨l[k], List.getElem_mem hk, e⟩

theorem cells_texts (w : World) (l : List ByteArray) (e : TypeId) (k : Nat) (hk : k < l.length) : (w.alloc (.cells (l.map Value.string).toArray e)).cell? ⟨w.heap.size, k, none⟩ = some (.string (l.getD k ⟨#[]⟩)) := by
  rw [World.cell?_alloc_at _ _ _ _ rfl]
  simp [List.getD, hk]

set_option maxHeartbeats 2000000 in
theorem key_any (s : ByteArray) (w : World) :
    Calls Tryd.prog 32 #[.string s] w fun e w' => e = .returned (.bool (inL keysL s)) ∧ Below w.heap.size w w' := by
  have hc : ∀ k, k < 8 → (w.alloc (.cells #[.string ⟨#[99, 97, 115, 101]⟩, .string ⟨#[100, 97, 116, 97]⟩, .string ⟨#[101, 108, 115, 101]⟩, .string ⟨#[105, 102]⟩, .string ⟨#[105, 110]⟩, .string ⟨#[108, 101, 116]⟩, .string ⟨#[111, 102]⟩, .string ⟨#[116, 104, 101, 110]⟩] 9)).cell? ⟨w.heap.size, k, none⟩ = some (.string (keysL.getD k ⟨#[]⟩)) :=
    fun k hk => cells_texts w keysL 9 k hk
  have HC := Lib.hid hc
  clear hc
  go_enter Tryd.func32, Tryd.ntmps32
  go_wp2
  go_loop [4] (fun i => ∃ k : Nat, k ≤ 8 ∧ i = .int .i64 k ∧ Hid (Upto keysL s k)) (fun i => 8 - (intOf i).toNat)
  case atStart => exact ⟨0, by omega, rfl, Lib.hid fun j hj => by omega⟩
  case round =>
    obtain ⟨k, hk, rfl, H⟩ := hrel
    by_cases hlt : k < 8
    · have hck := HC.out k hlt
      go_wp2
      · have e : ((keysL[k]?.getD ⟨#[]⟩).toList == s.toList) = true := by assumption
        go_ret
        exact ⟨ret_bool (inL_hit (l := keysL) hlt e).symm, (Below.refl _ _).alloc (Nat.le_refl _) _⟩
      · have e : ((keysL[k]?.getD ⟨#[]⟩).toList == s.toList) = false := by assumption
        go_round
        case rel => exact ⟨k + 1, by omega, by go_num, Lib.hid (H.out.next e)⟩
        case measure => simp [intOf]; omega
    · go_wp2
      go_ret
      exact ⟨ret_bool (H.out.none (by show 8 ≤ k; omega)).symm, (Below.refl _ _).alloc (Nat.le_refl _) _⟩

set_option maxHeartbeats 2000000 in
theorem sign_any (s : ByteArray) (w : World) :
    Calls Tryd.prog 16 #[.string s] w fun e w' => e = .returned (.bool (inL opsL s)) ∧ Below w.heap.size w w' := by
  have hc : ∀ k, k < 21 → (w.alloc (.cells #[.string ⟨#[43]⟩, .string ⟨#[45]⟩, .string ⟨#[42]⟩, .string ⟨#[47]⟩, .string ⟨#[37]⟩, .string ⟨#[61, 61]⟩, .string ⟨#[47, 61]⟩, .string ⟨#[60]⟩, .string ⟨#[60, 61]⟩, .string ⟨#[62]⟩, .string ⟨#[62, 61]⟩, .string ⟨#[38, 38]⟩, .string ⟨#[124, 124]⟩, .string ⟨#[58]⟩, .string ⟨#[43, 43]⟩, .string ⟨#[61]⟩, .string ⟨#[124]⟩, .string ⟨#[45, 62]⟩, .string ⟨#[92]⟩, .string ⟨#[58, 58]⟩, .string ⟨#[46]⟩] 9)).cell? ⟨w.heap.size, k, none⟩ = some (.string (opsL.getD k ⟨#[]⟩)) :=
    fun k hk => cells_texts w opsL 9 k hk
  have HC := Lib.hid hc
  clear hc
  go_enter Tryd.func16, Tryd.ntmps16
  go_wp2
  go_loop [4] (fun i => ∃ k : Nat, k ≤ 21 ∧ i = .int .i64 k ∧ Hid (Upto opsL s k)) (fun i => 21 - (intOf i).toNat)
  case atStart => exact ⟨0, by omega, rfl, Lib.hid fun j hj => by omega⟩
  case round =>
    obtain ⟨k, hk, rfl, H⟩ := hrel
    by_cases hlt : k < 21
    · have hck := HC.out k hlt
      go_wp2
      · have e : ((opsL[k]?.getD ⟨#[]⟩).toList == s.toList) = true := by assumption
        go_ret
        exact ⟨ret_bool (inL_hit (l := opsL) hlt e).symm, (Below.refl _ _).alloc (Nat.le_refl _) _⟩
      · have e : ((opsL[k]?.getD ⟨#[]⟩).toList == s.toList) = false := by assumption
        go_round
        case rel => exact ⟨k + 1, by omega, by go_num, Lib.hid (H.out.next e)⟩
        case measure => simp [intOf]; omega
    · go_wp2
      go_ret
      exact ⟨ret_bool (H.out.none (by show 21 ≤ k; omega)).symm, (Below.refl _ _).alloc (Nat.le_refl _) _⟩

/-- may a byte stand within a Name? -/
def letB (c : Int) : Bool := cls c == 3 || cls c == 4 || cls c == 2 || c == 39

set_option maxHeartbeats 2000000 in
theorem letter2_any (c : Int) (h0 : 0 ≤ c) (h1 : c ≤ 255) (w : World) :
    Calls Tryd.prog 47 #[.int .u8 c] w fun e w' => e = .returned (.bool (letB c)) ∧ w = w' := by
  go_enter Tryd.func47, Tryd.ntmps47
  go_wp2_with (go_at_call 30; refine (rclass_any _ h0 h1 _).mono ?_; rintro e w' ⟨rfl, rfl⟩)
  all_goals (go_ret; refine ⟨ret_bool ?_, rfl⟩)
  all_goals (unfold letB; first | rfl | simp [*])

/-- from k to m stand letters, and no further -/
def RunTo (s : ByteArray) (k m : Nat) : Prop := k ≤ m ∧ m ≤ s.size ∧ (∀ i, k ≤ i → i < m → letB (atB s i) = true) ∧ (m = s.size ∨ letB (atB s m) = false)
theorem RunTo.unique {s : ByteArray} {k m m' : Nat} (h : RunTo s k m) (h' : RunTo s k m') : m = m' := by
  obtain ⟨a, b, c, d⟩ := h
  obtain ⟨a', b', c', d'⟩ := h'
  rcases Nat.lt_trichotomy m m' with hl | he | hl
  · rcases d with e | e
    · omega
    · rw [c' m a hl] at e; cases e
  · exact he
  · rcases d' with e | e
    · omega
    · rw [c m' a' hl] at e; cases e

set_option maxHeartbeats 2000000 in
theorem run_any (s : ByteArray) (hs : s.size ≤ 1000000) (k : Nat) (hk : k ≤ s.size) (w : World) :
    Calls Tryd.prog 31 #[.string s, .int .i64 k] w fun e w' => ∃ m : Nat, e = .returned (.int .i64 m) ∧ RunTo s k m ∧ w = w' := by
  go_enter Tryd.func31, Tryd.ntmps31
  go_wp2
  go_loop [1] (fun i => ∃ m : Nat, k ≤ m ∧ m ≤ s.size ∧ i = .int .i64 m ∧ Hid (∀ i, k ≤ i → i < m → letB (atB s i) = true)) (fun i => s.size - (intOf i).toNat)
  case atStart => exact ⟨k, Nat.le_refl _, hk, rfl, Lib.hid fun i h1 h2 => by omega⟩
  case round =>
    obtain ⟨m, m1, m2, rfl, H⟩ := hrel
    by_cases hlt : m < s.size
    · have ea := Lib.hid (atB_eq s m hlt)
      have hb := s[m].toNat_lt
      by_cases hl : letB s[m].toNat = true
      · go_wp2_with (go_at_call 47; refine (letter2_any _ (by omega) (by omega) _).mono ?_; rintro e w' ⟨rfl, rfl⟩)
        go_round
        case rel =>
          refine ⟨m + 1, by omega, by omega, by go_num, Lib.hid fun i h1 h2 => ?_⟩
          by_cases him : i = m
          · rw [him, ea.out]; exact hl
          · exact H.out i h1 (by omega)
        case measure => simp [intOf]; omega
      · have hl2 : letB s[m].toNat = false := by simpa using hl
        go_wp2_with (go_at_call 47; refine (letter2_any _ (by omega) (by omega) _).mono ?_; rintro e w' ⟨rfl, rfl⟩)
        go_ret
        exact ⟨m, rfl, ⟨m1, m2, H.out, .inr (by rw [ea.out]; exact hl2)⟩, rfl⟩
    · go_wp2
      go_ret
      exact ⟨m, rfl, ⟨m1, m2, H.out, .inl (by omega)⟩, rfl⟩

/-- do these two bytes stand at a place? -/
def twoAt (s : ByteArray) (i : Nat) (a b : Int) : Bool := decide (i + 2 ≤ s.size ∧ atB s i = a ∧ atB s (i + 1) = b)

theorem two_eq (s : ByteArray) (i : Nat) (a b : UInt8) (h : i + 2 ≤ s.size) : ((s.extract i (i + 2)).toList == [a, b]) = twoAt s i a.toNat b.toNat := by
  have hl : s.data.toList.length = s.size := Array.length_toList
  have e : (s.extract i (i + 2)).toList = [s.data.toList.getD i 0, s.data.toList.getD (i + 1) 0] := by
    rw [ByteArray.toList_eq, Lib.extract_data, show i + 2 - i = 1 + 1 from by omega]
    rw [List.drop_eq_getElem_cons (by omega), List.drop_eq_getElem_cons (by omega)]
    simp [List.getD, hl, show i < s.size from by omega, show i + 1 < s.size from by omega]
  rw [e]
  unfold twoAt atB
  generalize s.data.toList.getD i 0 = x
  generalize s.data.toList.getD (i + 1) 0 = y
  have hx : ((x.toNat : Int) = (a.toNat : Int)) ↔ x = a := ⟨fun h => UInt8.toNat_inj.1 (by omega), fun h => by rw [h]⟩
  have hy : ((y.toNat : Int) = (b.toNat : Int)) ↔ y = b := ⟨fun h => UInt8.toNat_inj.1 (by omega), fun h => by rw [h]⟩
  rw [Bool.eq_iff_iff, decide_eq_true_iff, beq_iff_eq, hx, hy]
  simp [h]

set_option maxHeartbeats 2000000 in
theorem at_any (s : ByteArray) (hs : s.size ≤ 1000000) (i : Nat) (hi : i ≤ s.size) (a b : UInt8) (w : World) :
    Calls Tryd.prog 37 #[.string s, .int .i64 i, .string ⟨#[a, b]⟩] w fun e w' => e = .returned (.bool (twoAt s i a.toNat b.toNat)) ∧ w = w' := by
  by_cases h : i + 2 ≤ s.size
  · have l1 : (2 : Int) ≤ (s.size : Int) - i := by omega
    go_enter Tryd.func37, Tryd.ntmps37
    go_wp2
    go_ret
    exact ⟨ret_bool (two_eq s i a b h), rfl⟩
  · have l1 : ¬ (2 : Int) ≤ (s.size : Int) - i := by omega
    go_enter Tryd.func37, Tryd.ntmps37
    go_wp2
    go_ret
    exact ⟨ret_bool (by unfold twoAt; rw [eq_comm, decide_eq_false_iff_not]; exact fun h' => h h'.1), rfl⟩
end Go.Proofs.YtifmbhcajlnhbaaDoor
