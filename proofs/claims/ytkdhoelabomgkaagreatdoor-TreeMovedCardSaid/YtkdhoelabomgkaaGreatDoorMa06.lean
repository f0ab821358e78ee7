/- Texts of this proof, joined: Words, ScanSpec, Uq. No condition. -/
import Derived.Test.YtkdhoelabomgkaaGreatDoorMa03
import Derived.Test.YtkdhoelabomgkaaGreatDoorMa05
/-
  Layer 2, the document's side: keys, ops, letters, words, texts at a place.
-/
namespace Go.Proofs.YtkdhoelabomgkaaGreatDoor
set_option linter.unusedVariables false
open Go.ChangeShapes Go.WideShapes Go.ChangeAt Go.RowKit

def keysL : List ByteArray := [⟨#[99, 97, 115, 101]⟩, ⟨#[100, 97, 116, 97]⟩, ⟨#[101, 108, 115, 101]⟩, ⟨#[105, 102]⟩, ⟨#[105, 110]⟩, ⟨#[108, 101, 116]⟩, ⟨#[111, 102]⟩, ⟨#[116, 104, 101, 110]⟩]
def opsL : List ByteArray := [⟨#[43]⟩, ⟨#[45]⟩, ⟨#[42]⟩, ⟨#[47]⟩, ⟨#[37]⟩, ⟨#[61, 61]⟩, ⟨#[47, 61]⟩, ⟨#[60]⟩, ⟨#[60, 61]⟩, ⟨#[62]⟩, ⟨#[62, 61]⟩, ⟨#[38, 38]⟩, ⟨#[124, 124]⟩, ⟨#[58]⟩, ⟨#[43, 43]⟩, ⟨#[61]⟩, ⟨#[124]⟩, ⟨#[45, 62]⟩, ⟨#[92]⟩, ⟨#[58, 58]⟩, ⟨#[46]⟩]
/-- is a text one of these? -/
def inL (l : List ByteArray) (s : ByteArray) : Bool := l.any fun t => t.toList == s.toList
/-- none of the first k -/
def Upto (l : List ByteArray) (s : ByteArray) (k : Nat) : Prop := ∀ j, j < k → ((l[j]?.getD ⟨#[]⟩).toList == s.toList) = false
theorem Upto.next {l : List ByteArray} {s : ByteArray} {k : Nat} (h : Upto l s k) (e : ((l[k]?.getD ⟨#[]⟩).toList == s.toList) = false) : Upto l s (k + 1) := by
  intro j hj
  by_cases hjk : j = k
  · subst hjk; exact e
  · exact h j (by omega)
theorem Upto.none {l : List ByteArray} {s : ByteArray} {k : Nat} (h : Upto l s k) (hk : l.length ≤ k) : inL l s = false := by
  unfold inL
  rw [List.any_eq_false]
  intro t ht
  obtain ⟨j, hj, rfl⟩ := List.mem_iff_getElem.1 ht
  have := h j (by omega)
  rw [List.getElem?_eq_getElem hj] at this
  simpa using this
theorem inL_hit {l : List ByteArray} {s : ByteArray} {k : Nat} (hk : k < l.length) (e : ((l[k]?.getD ⟨#[]⟩).toList == s.toList) = true) : inL l s = true := by
  unfold inL
  rw [List.any_eq_true]
  rw [List.getElem?_eq_getElem hk] at e
  exact ⟨l[k], List.getElem_mem hk, e⟩

theorem cells_texts (w : World) (l : List ByteArray) (e : TypeId) (k : Nat) (hk : k < l.length) : (w.alloc (.cells (l.map Value.string).toArray e)).cell? ⟨w.heap.size, k, none⟩ = some (.string (l.getD k ⟨#[]⟩)) := by
  rw [World.cell?_alloc_at _ _ _ _ rfl]
  simp [List.getD, hk]

set_option maxHeartbeats 2000000 in
theorem key_any (s : ByteArray) (w : World) :
    Calls Tryz.prog 113 #[.string s] w fun e w' => e = .returned (.bool (inL keysL s)) ∧ Below w.heap.size w w' := by
  have hc : ∀ k, k < 8 → (w.alloc (.cells #[.string ⟨#[99, 97, 115, 101]⟩, .string ⟨#[100, 97, 116, 97]⟩, .string ⟨#[101, 108, 115, 101]⟩, .string ⟨#[105, 102]⟩, .string ⟨#[105, 110]⟩, .string ⟨#[108, 101, 116]⟩, .string ⟨#[111, 102]⟩, .string ⟨#[116, 104, 101, 110]⟩] 9)).cell? ⟨w.heap.size, k, none⟩ = some (.string (keysL.getD k ⟨#[]⟩)) :=
    fun k hk => cells_texts w keysL 9 k hk
  have HC := Lib.hid hc
  clear hc
  go_enter Tryz.func113, Tryz.ntmps113
  go_wp2
  go_loop [4] (fun i => ∃ k : Nat, k ≤ 8 ∧ i = .int .i64 k ∧ Hid (Upto keysL s k)) (fun i => 8 - (intOf i).toNat)
  case atStart => exact ⟨0, by omega, rfl, Lib.hid fun j hj => by omega⟩
  case round =>
    obtain ⟨k, hk, rfl, H⟩ := hrel
    by_cases hlt : k < 8
    · have hck := HC.out k hlt
      go_wp2
      · have e : ((keysL[k]?.getD ⟨#[]⟩).toList == s.toList) = true := by assumption
        go_ret
        exact ⟨ret_bool (inL_hit (l := keysL) hlt e).symm, (Below.refl _ _).alloc (Nat.le_refl _) _⟩
      · have e : ((keysL[k]?.getD ⟨#[]⟩).toList == s.toList) = false := by assumption
        go_round
        case rel => exact ⟨k + 1, by omega, by go_num, Lib.hid (H.out.next e)⟩
        case measure => simp [intOf]; omega
    · go_wp2
      go_ret
      exact ⟨ret_bool (H.out.none (by show 8 ≤ k; omega)).symm, (Below.refl _ _).alloc (Nat.le_refl _) _⟩

set_option maxHeartbeats 2000000 in
theorem sign_any (s : ByteArray) (w : World) :
    Calls Tryz.prog 104 #[.string s] w fun e w' => e = .returned (.bool (inL opsL s)) ∧ Below w.heap.size w w' := by
  have hc : ∀ k, k < 21 → (w.alloc (.cells #[.string ⟨#[43]⟩, .string ⟨#[45]⟩, .string ⟨#[42]⟩, .string ⟨#[47]⟩, .string ⟨#[37]⟩, .string ⟨#[61, 61]⟩, .string ⟨#[47, 61]⟩, .string ⟨#[60]⟩, .string ⟨#[60, 61]⟩, .string ⟨#[62]⟩, .string ⟨#[62, 61]⟩, .string ⟨#[38, 38]⟩, .string ⟨#[124, 124]⟩, .string ⟨#[58]⟩, .string ⟨#[43, 43]⟩, .string ⟨#[61]⟩, .string ⟨#[124]⟩, .string ⟨#[45, 62]⟩, .string ⟨#[92]⟩, .string ⟨#[58, 58]⟩, .string ⟨#[46]⟩] 9)).cell? ⟨w.heap.size, k, none⟩ = some (.string (opsL.getD k ⟨#[]⟩)) :=
    fun k hk => cells_texts w opsL 9 k hk
  have HC := Lib.hid hc
  clear hc
  go_enter Tryz.func104, Tryz.ntmps104
  go_wp2
  go_loop [4] (fun i => ∃ k : Nat, k ≤ 21 ∧ i = .int .i64 k ∧ Hid (Upto opsL s k)) (fun i => 21 - (intOf i).toNat)
  case atStart => exact ⟨0, by omega, rfl, Lib.hid fun j hj => by omega⟩
  case round =>
    obtain ⟨k, hk, rfl, H⟩ := hrel
    by_cases hlt : k < 21
    · have hck := HC.out k hlt
      go_wp2
      · have e : ((opsL[k]?.getD ⟨#[]⟩).toList == s.toList) = true := by assumption
        go_ret
        exact ⟨ret_bool (inL_hit (l := opsL) hlt e).symm, (Below.refl _ _).alloc (Nat.le_refl _) _⟩
      · have e : ((opsL[k]?.getD ⟨#[]⟩).toList == s.toList) = false := by assumption
        go_round
        case rel => exact ⟨k + 1, by omega, by go_num, Lib.hid (H.out.next e)⟩
        case measure => simp [intOf]; omega
    · go_wp2
      go_ret
      exact ⟨ret_bool (H.out.none (by show 21 ≤ k; omega)).symm, (Below.refl _ _).alloc (Nat.le_refl _) _⟩

/-- may a byte stand within a Name? -/
def letB (c : Int) : Bool := cls c == 3 || cls c == 4 || cls c == 2 || c == 39

set_option maxHeartbeats 2000000 in
theorem letter2_any (c : Int) (h0 : 0 ≤ c) (h1 : c ≤ 255) (w : World) :
    Calls Tryz.prog 124 #[.int .u8 c] w fun e w' => e = .returned (.bool (letB c)) ∧ w = w' := by
  go_enter Tryz.func124, Tryz.ntmps124
  go_wp2_with (go_at_call 97; refine (rclass_any _ h0 h1 _).mono ?_; rintro e w' ⟨rfl, rfl⟩)
  all_goals (go_ret; refine ⟨ret_bool ?_, rfl⟩)
  all_goals (unfold letB; first | rfl | simp [*])

/-- from k to m stand letters, and no further -/
def RunTo (s : ByteArray) (k m : Nat) : Prop := k ≤ m ∧ m ≤ s.size ∧ (∀ i, k ≤ i → i < m → letB (atB s i) = true) ∧ (m = s.size ∨ letB (atB s m) = false)
theorem RunTo.unique {s : ByteArray} {k m m' : Nat} (h : RunTo s k m) (h' : RunTo s k m') : m = m' := by
  obtain ⟨a, b, c, d⟩ := h
  obtain ⟨a', b', c', d'⟩ := h'
  rcases Nat.lt_trichotomy m m' with hl | he | hl
  · rcases d with e | e
    · omega
    · rw [c' m a hl] at e; cases e
  · exact he
  · rcases d' with e | e
    · omega
    · rw [c m' a' hl] at e; cases e

set_option maxHeartbeats 2000000 in
theorem run_any (s : ByteArray) (hs : s.size ≤ 1000000) (k : Nat) (hk : k ≤ s.size) (w : World) :
    Calls Tryz.prog 112 #[.string s, .int .i64 k] w fun e w' => ∃ m : Nat, e = .returned (.int .i64 m) ∧ RunTo s k m ∧ w = w' := by
  go_enter Tryz.func112, Tryz.ntmps112
  go_wp2
  go_loop [1] (fun i => ∃ m : Nat, k ≤ m ∧ m ≤ s.size ∧ i = .int .i64 m ∧ Hid (∀ i, k ≤ i → i < m → letB (atB s i) = true)) (fun i => s.size - (intOf i).toNat)
  case atStart => exact ⟨k, Nat.le_refl _, hk, rfl, Lib.hid fun i h1 h2 => by omega⟩
  case round =>
    obtain ⟨m, m1, m2, rfl, H⟩ := hrel
    by_cases hlt : m < s.size
    · have ea := Lib.hid (atB_eq s m hlt)
      have hb := s[m].toNat_lt
      by_cases hl : letB s[m].toNat = true
      · go_wp2_with (go_at_call 124; refine (letter2_any _ (by omega) (by omega) _).mono ?_; rintro e w' ⟨rfl, rfl⟩)
        go_round
        case rel =>
          refine ⟨m + 1, by omega, by omega, by go_num, Lib.hid fun i h1 h2 => ?_⟩
          by_cases him : i = m
          · rw [him, ea.out]; exact hl
          · exact H.out i h1 (by omega)
        case measure => simp [intOf]; omega
      · have hl2 : letB s[m].toNat = false := by simpa using hl
        go_wp2_with (go_at_call 124; refine (letter2_any _ (by omega) (by omega) _).mono ?_; rintro e w' ⟨rfl, rfl⟩)
        go_ret
        exact ⟨m, rfl, ⟨m1, m2, H.out, .inr (by rw [ea.out]; exact hl2)⟩, rfl⟩
    · go_wp2
      go_ret
      exact ⟨m, rfl, ⟨m1, m2, H.out, .inl (by omega)⟩, rfl⟩

/-- do these two bytes stand at a place? -/
def twoAt (s : ByteArray) (i : Nat) (a b : Int) : Bool := decide (i + 2 ≤ s.size ∧ atB s i = a ∧ atB s (i + 1) = b)

theorem two_eq (s : ByteArray) (i : Nat) (a b : UInt8) (h : i + 2 ≤ s.size) : ((s.extract i (i + 2)).toList == [a, b]) = twoAt s i a.toNat b.toNat := by
  have hl : s.data.toList.length = s.size := Array.length_toList
  have e : (s.extract i (i + 2)).toList = [s.data.toList.getD i 0, s.data.toList.getD (i + 1) 0] := by
    rw [ByteArray.toList_eq, Lib.extract_data, show i + 2 - i = 1 + 1 from by omega]
    rw [List.drop_eq_getElem_cons (by omega), List.drop_eq_getElem_cons (by omega)]
    simp [List.getD, hl, show i < s.size from by omega, show i + 1 < s.size from by omega]
  rw [e]
  unfold twoAt atB
  generalize s.data.toList.getD i 0 = x
  generalize s.data.toList.getD (i + 1) 0 = y
  have hx : ((x.toNat : Int) = (a.toNat : Int)) ↔ x = a := ⟨fun h => UInt8.toNat_inj.1 (by omega), fun h => by rw [h]⟩
  have hy : ((y.toNat : Int) = (b.toNat : Int)) ↔ y = b := ⟨fun h => UInt8.toNat_inj.1 (by omega), fun h => by rw [h]⟩
  rw [Bool.eq_iff_iff, decide_eq_true_iff, beq_iff_eq, hx, hy]
  simp [h]

end Go.Proofs.YtkdhoelabomgkaaGreatDoor/-
  Layer 2 in plain words: Spaces and notes, quotes, numbers, one token, all tokens. No walk.
-/
namespace Go.Proofs.YtkdhoelabomgkaaGreatDoor

/-- where the line ends (the feed's place, or the text's end), from i on -/
def LineTo (s : ByteArray) (i m : Nat) : Prop := i ≤ m ∧ m ≤ s.size ∧ (∀ j, i ≤ j → j < m → atB s j ≠ 10) ∧ (m = s.size ∨ atB s m = 10)
def lineTo (s : ByteArray) : Nat → Nat → Nat
  | 0, i => i
  | f + 1, i => if s.size ≤ i then i else if atB s i = 10 then i else lineTo s f (i + 1)
theorem lineTo_ok (s : ByteArray) : ∀ f i, i ≤ s.size → s.size - i ≤ f → LineTo s i (lineTo s f i) := by
  intro f
  induction f with
  | zero => intro i h1 h2; exact ⟨Nat.le_refl _, h1, fun j a b => by simp only [lineTo] at b; omega, .inl (by simp only [lineTo]; omega)⟩
  | succ f ih =>
    intro i h1 h2
    show LineTo s i (if s.size ≤ i then i else if atB s i = 10 then i else lineTo s f (i + 1))
    by_cases a : s.size ≤ i
    · rw [if_pos a]; exact ⟨Nat.le_refl _, h1, fun j a b => by omega, .inl (by omega)⟩
    by_cases b : atB s i = 10
    · rw [if_neg a, if_pos b]; exact ⟨Nat.le_refl _, h1, fun j a b => by omega, .inr b⟩
    · rw [if_neg a, if_neg b]
      obtain ⟨c, d, e, g⟩ := ih (i + 1) (by omega) (by omega)
      refine ⟨by omega, d, fun j h3 h4 => ?_, g⟩
      by_cases hj : j = i
      · rw [hj]; exact b
      · exact e j (by omega) h4
theorem LineTo.unique {s : ByteArray} {i m m' : Nat} (h : LineTo s i m) (h' : LineTo s i m') : m = m' := by
  obtain ⟨a, b, c, d⟩ := h
  obtain ⟨a', b', c', d'⟩ := h'
  rcases Nat.lt_trichotomy m m' with hl | he | hl
  · rcases d with e | e
    · omega
    · exact absurd e (c' m a hl)
  · exact he
  · rcases d' with e | e
    · omega
    · exact absurd e (c m' a' hl)

/-- from within notes d deep at i on: behind the last of them; none: it has no end, or is too deep -/
def note (s : ByteArray) : Nat → Nat → Nat → Option Nat
  | 0, _, _ => none
  | f + 1, d, i => if s.size ≤ i then none else if twoAt s i 123 45 = true then (if 100 ≤ d then none else note s f (d + 1) (i + 2))
    else if twoAt s i 45 125 = true then (if d ≤ 1 then some (i + 2) else note s f (d - 1) (i + 2)) else note s f d (i + 1)
theorem note_succ (s : ByteArray) (f d i : Nat) : note s (f + 1) d i = if s.size ≤ i then none else if twoAt s i 123 45 = true then (if 100 ≤ d then none else note s f (d + 1) (i + 2))
    else if twoAt s i 45 125 = true then (if d ≤ 1 then some (i + 2) else note s f (d - 1) (i + 2)) else note s f d (i + 1) := rfl
theorem note_end (s : ByteArray) (f d i : Nat) (h : s.size ≤ i) : note s f d i = none := by
  cases f with
  | zero => rfl
  | succ f => rw [note_succ, if_pos h]
theorem two_fits {s : ByteArray} {i : Nat} {a b : Int} (h : twoAt s i a b = true) : i + 2 ≤ s.size ∧ atB s i = a ∧ atB s (i + 1) = b := of_decide_eq_true h
theorem note_fuel (s : ByteArray) : ∀ f g d i, s.size - i ≤ f → s.size - i ≤ g → note s f d i = note s g d i := by
  intro f
  induction f with
  | zero => intro g d i h _; rw [note_end s 0 d i (by omega), note_end s g d i (by omega)]
  | succ f ih =>
    intro g d i h h'
    by_cases hi : s.size ≤ i
    · rw [note_end _ _ _ _ hi, note_end _ _ _ _ hi]
    · obtain ⟨g, rfl⟩ : ∃ g', g = g' + 1 := ⟨g - 1, by omega⟩
      rw [note_succ, note_succ, ih g (d + 1) (i + 2) (by omega) (by omega), ih g (d - 1) (i + 2) (by omega) (by omega), ih g d (i + 1) (by omega) (by omega)]
theorem note_bound (s : ByteArray) : ∀ f d i m, note s f d i = some m → i < m ∧ m ≤ s.size := by
  intro f
  induction f with
  | zero => intro d i m h; cases h
  | succ f ih =>
    intro d i m h
    rw [note_succ] at h
    by_cases a : s.size ≤ i
    · rw [if_pos a] at h; cases h
    rw [if_neg a] at h
    by_cases b : twoAt s i 123 45 = true
    · rw [if_pos b] at h
      by_cases c : 100 ≤ d
      · rw [if_pos c] at h; cases h
      · rw [if_neg c] at h
        have := ih _ _ _ h
        omega
    rw [if_neg b] at h
    by_cases c : twoAt s i 45 125 = true
    · rw [if_pos c] at h
      by_cases e : d ≤ 1
      · rw [if_pos e] at h
        have := two_fits c
        have := Option.some.inj h
        omega
      · rw [if_neg e] at h
        have := ih _ _ _ h
        omega
    · rw [if_neg c] at h
      have := ih _ _ _ h
      omega
/-- behind a note that begins at i -/
def noteAt (s : ByteArray) (i : Nat) : Option Nat := note s (s.size - i) 0 i

/-- behind Spaces and notes (left), or where the first note stands that is none (right) -/
def skp (s : ByteArray) : Nat → Nat → Nat ⊕ Nat
  | 0, i => .inl i
  | f + 1, i => if s.size ≤ i then .inl i else if cls (atB s i) = 1 then skp s f (i + 1) else if twoAt s i 45 45 = true then skp s f (lineTo s (s.size - i) i)
    else if twoAt s i 123 45 = true then (noteAt s i).elim (.inr i) (fun m => skp s f m) else .inl i
theorem skp_succ (s : ByteArray) (f i : Nat) : skp s (f + 1) i = if s.size ≤ i then .inl i else if cls (atB s i) = 1 then skp s f (i + 1) else if twoAt s i 45 45 = true then skp s f (lineTo s (s.size - i) i)
    else if twoAt s i 123 45 = true then (noteAt s i).elim (.inr i) (fun m => skp s f m) else .inl i := rfl
theorem skp_end (s : ByteArray) (f i : Nat) (h : s.size ≤ i) : skp s f i = .inl i := by
  cases f with
  | zero => rfl
  | succ f => rw [skp_succ, if_pos h]
theorem line_more {s : ByteArray} {i : Nat} (h : twoAt s i 45 45 = true) : i + 2 ≤ lineTo s (s.size - i) i ∧ lineTo s (s.size - i) i ≤ s.size := by
  obtain ⟨h1, h2, h3⟩ := two_fits h
  obtain ⟨a, b, c, d⟩ := lineTo_ok s (s.size - i) i (by omega) (Nat.le_refl _)
  refine ⟨?_, b⟩
  rcases Nat.lt_or_ge (lineTo s (s.size - i) i) (i + 2) with hlt | hge
  · rcases d with e | e
    · omega
    · have : lineTo s (s.size - i) i = i ∨ lineTo s (s.size - i) i = i + 1 := by omega
      rcases this with q | q
      · rw [q] at e; omega
      · rw [q] at e; omega
  · exact hge
theorem skp_fuel (s : ByteArray) : ∀ f g i, s.size - i ≤ f → s.size - i ≤ g → skp s f i = skp s g i := by
  intro f
  induction f with
  | zero => intro g i h _; rw [skp_end s 0 i (by omega), skp_end s g i (by omega)]
  | succ f ih =>
    intro g i h h'
    by_cases hi : s.size ≤ i
    · rw [skp_end _ _ _ hi, skp_end _ _ _ hi]
    · obtain ⟨g, rfl⟩ : ∃ g', g = g' + 1 := ⟨g - 1, by omega⟩
      rw [skp_succ, skp_succ, ih g (i + 1) (by omega) (by omega)]
      have e1 : twoAt s i 45 45 = true → skp s f (lineTo s (s.size - i) i) = skp s g (lineTo s (s.size - i) i) := fun ht => by
        have := line_more ht
        exact ih g _ (by omega) (by omega)
      have e2 : (noteAt s i).elim (Sum.inr i) (fun m => skp s f m) = (noteAt s i).elim (Sum.inr i) (fun m => skp s g m) := by
        cases hn : noteAt s i with
        | none => rfl
        | some m =>
          have := note_bound _ _ _ _ _ hn
          exact ih g m (by omega) (by omega)
      rw [e2]
      by_cases a : cls (atB s i) = 1
      · simp only [a, if_true]
      · by_cases b : twoAt s i 45 45 = true
        · rw [e1 b]
        · simp only [if_neg b]
def skip (s : ByteArray) (i : Nat) : Nat ⊕ Nat := skp s (s.size - i) i
theorem skip_end (s : ByteArray) (i : Nat) (h : s.size ≤ i) : skip s i = .inl i := skp_end s _ i h
theorem skip_step (s : ByteArray) (i : Nat) (h : i < s.size) : skip s i = if cls (atB s i) = 1 then skip s (i + 1) else if twoAt s i 45 45 = true then skip s (lineTo s (s.size - i) i)
    else if twoAt s i 123 45 = true then (noteAt s i).elim (.inr i) (fun m => skip s m) else .inl i := by
  unfold skip
  obtain ⟨f, hf⟩ : ∃ f, s.size - i = f + 1 := ⟨s.size - i - 1, by omega⟩
  rw [hf, skp_succ, if_neg (by omega), ← hf]
  have e0 : skp s f (i + 1) = skp s (s.size - (i + 1)) (i + 1) := skp_fuel s _ _ _ (by omega) (by omega)
  have e1 : twoAt s i 45 45 = true → skp s f (lineTo s (s.size - i) i) = skp s (s.size - lineTo s (s.size - i) i) (lineTo s (s.size - i) i) := fun ht => by
    have := line_more ht
    exact skp_fuel s _ _ _ (by omega) (by omega)
  have e2 : (noteAt s i).elim (Sum.inr i) (fun m => skp s f m) = (noteAt s i).elim (Sum.inr i) (fun m => skp s (s.size - m) m) := by
    cases hn : noteAt s i with
    | none => rfl
    | some m =>
      have := note_bound _ _ _ _ _ hn
      exact skp_fuel s _ _ _ (by omega) (by omega)
  rw [e0, e2]
  by_cases a : cls (atB s i) = 1
  · simp only [a, if_true]
  · by_cases b : twoAt s i 45 45 = true
    · rw [e1 b]
    · simp only [if_neg b]
end Go.Proofs.YtkdhoelabomgkaaGreatDoor
/-
  What a text in quotes stands for, in plain words: no walk.
-/
namespace Go.Proofs.YtkdhoelabomgkaaGreatDoor
set_option linter.unusedVariables false

theorem un_next {t : ByteArray} {k : Nat} {c n : Int} (h : un t k = some (c, n)) (hk : k < t.size) : ∃ m : Nat, n = m ∧ k < m ∧ m ≤ t.size ∧ 0 ≤ c ∧ c ≤ 255 := by
  unfold un at h
  have b0 := atB_bounds t k
  have b1 := atB_bounds t (k + 1)
  have d2 := dig_bounds (atB t (k + 2))
  have d3 := dig_bounds (atB t (k + 3))
  by_cases h1 : atB t k < 32 ∨ 126 < atB t k
  · rw [if_pos h1] at h; cases h
  rw [if_neg h1] at h
  by_cases h2 : atB t k ≠ 92
  · rw [if_pos h2] at h
    have e := Option.some.inj h
    exact ⟨k + 1, by have := congrArg Prod.snd e; simp at this; omega, by omega, by omega, by have := congrArg Prod.fst e; simp at this; omega, by have := congrArg Prod.fst e; simp at this; omega⟩
  rw [if_neg h2] at h
  by_cases h3 : t.size ≤ k + 1
  · rw [if_pos h3] at h; cases h
  rw [if_neg h3] at h
  by_cases h4 : isByteL (atB t (k + 1)) = true
  · rw [if_pos h4] at h
    have e := Option.some.inj h
    have hb : 0 ≤ byteL (atB t (k + 1)) ∧ byteL (atB t (k + 1)) ≤ 255 := by
      unfold byteL
      generalize atB t (k + 1) = c
      by_cases q1 : c = 110
      · rw [if_pos q1]; omega
      by_cases q2 : c = 116
      · rw [if_neg q1, if_pos q2]; omega
      by_cases q3 : c = 92
      · rw [if_neg q1, if_neg q2, if_pos q3]; omega
      by_cases q4 : c = 39
      · rw [if_neg q1, if_neg q2, if_neg q3, if_pos q4]; omega
      by_cases q5 : c = 34
      · rw [if_neg q1, if_neg q2, if_neg q3, if_neg q4, if_pos q5]; omega
      · rw [if_neg q1, if_neg q2, if_neg q3, if_neg q4, if_neg q5]; omega
    exact ⟨k + 2, by have := congrArg Prod.snd e; simp at this; omega, by omega, by omega, by have := congrArg Prod.fst e; simp at this; omega, by have := congrArg Prod.fst e; simp at this; omega⟩
  rw [if_neg h4] at h
  by_cases h5 : k + 3 < t.size ∧ atB t (k + 1) = 120 ∧ 0 ≤ dig (atB t (k + 2)) ∧ 0 ≤ dig (atB t (k + 3))
  · rw [if_pos h5] at h
    have e := Option.some.inj h
    obtain ⟨q1, q2, q3, q4⟩ := h5
    exact ⟨k + 4, by have := congrArg Prod.snd e; simp at this; omega, by omega, by omega, by have := congrArg Prod.fst e; simp at this; omega, by have := congrArg Prod.fst e; simp at this; omega⟩
  · rw [if_neg h5] at h; cases h

/-- the bytes from place k on, at most f of them -/
def unq (t : ByteArray) : Nat → Nat → Option (List Int)
  | 0, k => if t.size ≤ k then some [] else none
  | f + 1, k => if t.size ≤ k then some [] else if atB t k = 34 then none else (un t k).bind fun p => (unq t f p.2.toNat).map (p.1 :: ·)
theorem unq_zero (t : ByteArray) (k : Nat) : unq t 0 k = if t.size ≤ k then some [] else none := rfl
theorem unq_succ (t : ByteArray) (f k : Nat) : unq t (f + 1) k = if t.size ≤ k then some [] else if atB t k = 34 then none else (un t k).bind fun p => (unq t f p.2.toNat).map (p.1 :: ·) := rfl
def unqAll (t : ByteArray) (k : Nat) : Option (List Int) := unq t (t.size - k) k

theorem unq_done (t : ByteArray) (f k : Nat) (h : t.size ≤ k) : unq t f k = some [] := by
  cases f with
  | zero => rw [unq_zero, if_pos h]
  | succ f => rw [unq_succ, if_pos h]
theorem unq_more (t : ByteArray) (f k : Nat) (h : k < t.size) : unq t (f + 1) k = if atB t k = 34 then none else (un t k).bind fun p => (unq t f p.2.toNat).map (p.1 :: ·) := by
  rw [unq_succ, if_neg (by omega)]
theorem unq_fuel (t : ByteArray) : ∀ f g k, t.size - k ≤ f → t.size - k ≤ g → unq t f k = unq t g k := by
  intro f
  induction f with
  | zero => intro g k h _; rw [unq_done t 0 k (by omega), unq_done t g k (by omega)]
  | succ f ih =>
    intro g k h h'
    by_cases hk : t.size ≤ k
    · rw [unq_done t _ k hk, unq_done t _ k hk]
    · obtain ⟨g, rfl⟩ : ∃ g', g = g' + 1 := ⟨g - 1, by omega⟩
      rw [unq_more t f k (by omega), unq_more t g k (by omega)]
      cases hu : un t k with
      | none => rfl
      | some p =>
        obtain ⟨c, n⟩ := p
        obtain ⟨m, rfl, hm, _⟩ := un_next hu (by omega)
        simp only [Option.bind_some, Int.toNat_natCast]
        rw [ih g m (by omega) (by omega)]
theorem unqAll_done (t : ByteArray) (k : Nat) (h : t.size ≤ k) : unqAll t k = some [] := unq_done t _ k h
theorem unqAll_quote (t : ByteArray) (k : Nat) (h : k < t.size) (hq : atB t k = 34) : unqAll t k = none := by
  unfold unqAll
  rw [show t.size - k = (t.size - k - 1) + 1 from by omega, unq_more t _ k h, if_pos hq]
theorem unqAll_none (t : ByteArray) (k : Nat) (h : k < t.size) (hu : un t k = none) : unqAll t k = none := by
  unfold unqAll
  rw [show t.size - k = (t.size - k - 1) + 1 from by omega, unq_more t _ k h, hu]
  by_cases hq : atB t k = 34
  · rw [if_pos hq]
  · rw [if_neg hq]; rfl
theorem unqAll_step (t : ByteArray) (k m : Nat) (c : Int) (h : k < t.size) (hq : atB t k ≠ 34) (hu : un t k = some (c, (m : Int))) (hm : k < m) : unqAll t k = (unqAll t m).map (c :: ·) := by
  unfold unqAll
  rw [show t.size - k = (t.size - k - 1) + 1 from by omega, unq_more t _ k h, hu, if_neg hq]
  simp only [Option.bind_some, Int.toNat_natCast]
  rw [unq_fuel t (t.size - k - 1) (t.size - m) m (by omega) (by omega)]

/-- behind k bytes: what was told, ahead of what is still to come, is all -/
def UqRel (t : ByteArray) (k0 k : Nat) (xs : List Int) : Prop := k ≤ t.size ∧ k0 ≤ k ∧ xs.length ≤ k ∧ unqAll t k0 = (unqAll t k).map (xs ++ ·)
theorem UqRel.start (t : ByteArray) (k : Nat) (h : k ≤ t.size) : UqRel t k k [] := by
  refine ⟨h, Nat.le_refl _, by simp, ?_⟩
  cases unqAll t k <;> simp
theorem UqRel.next {t : ByteArray} {k0 k m : Nat} {xs : List Int} {c : Int} (h : UqRel t k0 k xs) (hk : k < t.size) (hq : atB t k ≠ 34) (hu : un t k = some (c, (m : Int))) (hm : k < m) (hm2 : m ≤ t.size) : UqRel t k0 m (xs ++ [c]) := by
  obtain ⟨a, b, d, e⟩ := h
  refine ⟨hm2, by omega, by simp; omega, ?_⟩
  rw [e, unqAll_step t k m c hk hq hu hm]
  cases unqAll t m <;> simp
theorem UqRel.fail {t : ByteArray} {k0 k : Nat} {xs : List Int} (h : UqRel t k0 k xs) (hn : unqAll t k = none) : unqAll t k0 = none := by
  rw [h.2.2.2, hn]; rfl
theorem UqRel.fin {t : ByteArray} {k0 k : Nat} {xs : List Int} (h : UqRel t k0 k xs) (hk : t.size ≤ k) : unqAll t k0 = some xs := by
  rw [h.2.2.2, unqAll_done t k hk]; simp

/-- is a text put in quotes? -/
def quoted (s : ByteArray) : Bool := decide (2 ≤ s.size ∧ atB s 0 = 34 ∧ atB s (s.size - 1) = 34)
/-- the text that stands in quotes -/
def unquote (s : ByteArray) : Option (List Int) := if quoted s = true then unqAll (s.extract 1 (s.size - 1)) 0 else none
def uqV (o : Option (List Int)) : Value := match o with
  | .some xs => .tuple #[.string (strOfNums xs), .bool true]
  | .none => .tuple #[.string ⟨#[]⟩, .bool false]

/-- the document keeps the quote ahead -/
theorem atB_cut (s : ByteArray) (j : Nat) (h : 2 ≤ s.size) : atB (s.extract 0 (s.size - 1)) (j + 1) = atB (s.extract 1 (s.size - 1)) j := by
  unfold atB
  rw [Lib.extract_data, Lib.extract_data, List.getD_eq_getElem?_getD, List.getD_eq_getElem?_getD]
  congr 3
  rw [List.getElem?_take, List.getElem?_take, List.getElem?_drop, List.getElem?_drop, show 0 + (j + 1) = 1 + j from by omega]
  by_cases hj : j < s.size - 1 - 1
  · rw [if_pos (by omega), if_pos hj]
  · rw [if_neg (by omega), if_neg hj]
theorem un_cut (s : ByteArray) (k : Nat) (h : 2 ≤ s.size) : un (s.extract 0 (s.size - 1)) (k + 1) = (un (s.extract 1 (s.size - 1)) k).map fun p => (p.1, p.2 + 1) := by
  have z0 : (s.extract 0 (s.size - 1)).size = s.size - 1 := by simp
  have z1 : (s.extract 1 (s.size - 1)).size = s.size - 1 - 1 := by simp
  unfold un
  rw [show k + 1 + 1 = (k + 1) + 1 from rfl, show k + 1 + 2 = (k + 2) + 1 from by omega, show k + 1 + 3 = (k + 3) + 1 from by omega, atB_cut s k h, atB_cut s (k + 1) h, atB_cut s (k + 2) h, atB_cut s (k + 3) h, z0, z1]
  generalize atB (s.extract 1 (s.size - 1)) k = b0
  generalize atB (s.extract 1 (s.size - 1)) (k + 1) = b1
  generalize dig (atB (s.extract 1 (s.size - 1)) (k + 2)) = d2
  generalize dig (atB (s.extract 1 (s.size - 1)) (k + 3)) = d3
  by_cases h1 : b0 < 32 ∨ 126 < b0
  · rw [if_pos h1, if_pos h1]; rfl
  rw [if_neg h1, if_neg h1]
  by_cases h2 : b0 ≠ 92
  · rw [if_pos h2, if_pos h2]; simp
  rw [if_neg h2, if_neg h2]
  by_cases h3 : s.size - 1 - 1 ≤ k + 1
  · rw [if_pos h3, if_pos (by omega)]; rfl
  rw [if_neg h3, if_neg (by omega)]
  by_cases h4 : isByteL b1 = true
  · rw [if_pos h4, if_pos h4]; simp; omega
  rw [if_neg h4, if_neg h4]
  by_cases h5 : k + 3 < s.size - 1 - 1 ∧ b1 = 120 ∧ 0 ≤ d2 ∧ 0 ≤ d3
  · rw [if_pos h5, if_pos ⟨by omega, h5.2⟩]; simp; omega
  · rw [if_neg h5, if_neg (fun h => h5 ⟨by omega, h.2⟩)]; rfl
theorem unq_cut (s : ByteArray) (h : 2 ≤ s.size) : ∀ f k, unq (s.extract 0 (s.size - 1)) f (k + 1) = unq (s.extract 1 (s.size - 1)) f k := by
  have z0 : (s.extract 0 (s.size - 1)).size = s.size - 1 := by simp
  have z1 : (s.extract 1 (s.size - 1)).size = s.size - 1 - 1 := by simp
  intro f
  induction f with
  | zero =>
    intro k
    rw [unq_zero, unq_zero, z0, z1]
    by_cases hk : s.size - 1 - 1 ≤ k
    · rw [if_pos hk, if_pos (by omega)]
    · rw [if_neg hk, if_neg (by omega)]
  | succ f ih =>
    intro k
    by_cases hk : s.size - 1 - 1 ≤ k
    · rw [unq_done _ _ _ (by omega), unq_done _ _ _ (by omega)]
    · rw [unq_more _ _ _ (by omega), unq_more _ _ _ (by omega), atB_cut s k h, un_cut s k h]
      cases hu : un (s.extract 1 (s.size - 1)) k with
      | none => rfl
      | some p =>
        obtain ⟨c, n⟩ := p
        obtain ⟨m, rfl, hm, _⟩ := un_next hu (by omega)
        simp only [Option.map_some, Option.bind_some, show ((m : Int) + 1).toNat = m + 1 from by omega, Int.toNat_natCast]
        rw [ih m]
theorem unqAll_cut (s : ByteArray) (h : 2 ≤ s.size) : unqAll (s.extract 0 (s.size - 1)) 1 = unqAll (s.extract 1 (s.size - 1)) 0 := by
  unfold unqAll
  rw [unq_cut s h]
  have z0 : (s.extract 0 (s.size - 1)).size = s.size - 1 := by simp
  have z1 : (s.extract 1 (s.size - 1)).size = s.size - 1 - 1 := by simp
  rw [z0, z1, Nat.sub_zero]
end Go.Proofs.YtkdhoelabomgkaaGreatDoor
