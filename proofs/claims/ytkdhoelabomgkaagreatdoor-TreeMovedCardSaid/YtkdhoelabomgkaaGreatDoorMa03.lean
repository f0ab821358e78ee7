/- Texts of this proof, joined: OpenVs, Plain1, Class, Has, Letter. No condition. -/
import Derived.Test.YtkdhoelabomgkaaGreatDoorMa02
import Derived.WideShapes
import Derived.WalkKit
import Derived.Test.YtkdhoelabomgkaaGreatDoorRows
import Derived.ProofKit
import Derived.OpenShut
import Derived.WalkSpells
import Derived.Lib.Hide
import Derived.Outline
/-
  Layer 3: arguments that are trees, opened: structs by value, slices of declarations. No walk.
-/
namespace Go.Proofs.YtkdhoelabomgkaaGreatDoor
set_option linter.unusedVariables false
open Go.ChangeShapes Go.WideShapes Go.ChangeAt Go.RowKit Go.Deep

set_option maxRecDepth 100000 in
theorem ty_arg0 {H : Type} {enc : TypeId × Value → H} {W : World} {base : Nat} {sp : Nat → Bool} {held : Bool} (fuel : Nat) (cs : List Value) (x : DataW H × List MemPlace) (hcl : cs.length = 4) (ht : DataW.trod enc Tryz.prog W base sp held fuel 24 cs = some x) : ∃ t : Ty, IsVs W Any t.row cs := by
  obtain ⟨xs, n, hn, hx, hlen, hxl, hg⟩ := DataW.trod_struct Tryz.underlying24 ht
  match cs, hcl with
  | [c0, c1, c2, c3], _ =>
    match xs, hxl with
    | [y0, y1, y2, y3], _ =>
      have g0 := hg 0 _ rfl
      have g1 := hg 1 _ rfl
      have g2 := hg 2 _ rfl
      have g3 := hg 3 _ rfl
      simp only [List.getElem?_cons_zero, List.getElem?_cons_succ] at g0 g1 g2 g3
      obtain ⟨z0, e0, _, _⟩ := DataW.trod_int Tryz.underlying3 g0
      obtain ⟨z1, e1, _, _⟩ := DataW.trod_int Tryz.underlying3 g1
      obtain ⟨z2, e2, _, w2⟩ := DataW.trod_string Tryz.underlying9 g2
      obtain ⟨v3, l3, e3, w3, _, _⟩ := rows_open Ty.row anyF Tryz.underlying22 o_ty g3 fun m hm cs' x' E' h1 h2 h3 => by
        obtain ⟨u, hu⟩ := ty_opens m m (Nat.le_refl _) cs' x' E' h1 h2 h3
        exact ⟨u, hu, fun _ => trivial⟩
      obtain rfl := (List.cons.inj e0).1
      obtain rfl := (List.cons.inj e1).1
      obtain rfl := (List.cons.inj e2).1
      obtain rfl := (List.cons.inj e3).1
      refine ⟨.mk z0 z1 z2 l3, ?_⟩
      unfold Ty.row
      exact ⟨_, _, rfl, (by unfold IsC; rfl), _, _, rfl, (by unfold IsC; rfl), _, _, rfl, (by unfold IsC; exact ⟨rfl, w2⟩), _, _, rfl, (by rw [Ty.rows_map]; exact w3), rfl⟩
set_option maxRecDepth 100000 in
theorem pa_arg0 {H : Type} {enc : TypeId × Value → H} {W : World} {base : Nat} {sp : Nat → Bool} {held : Bool} (fuel : Nat) (cs : List Value) (x : DataW H × List MemPlace) (hcl : cs.length = 5) (ht : DataW.trod enc Tryz.prog W base sp held fuel 27 cs = some x) : ∃ t : Pa, IsVs W Any t.row cs := by
  obtain ⟨xs, n, hn, hx, hlen, hxl, hg⟩ := DataW.trod_struct Tryz.underlying27 ht
  match cs, hcl with
  | [c0, c1, c2, c3, c4], _ =>
    match xs, hxl with
    | [y0, y1, y2, y3, y4], _ =>
      have g0 := hg 0 _ rfl
      have g1 := hg 1 _ rfl
      have g2 := hg 2 _ rfl
      have g3 := hg 3 _ rfl
      have g4 := hg 4 _ rfl
      simp only [List.getElem?_cons_zero, List.getElem?_cons_succ] at g0 g1 g2 g3 g4
      obtain ⟨z0, e0, _, _⟩ := DataW.trod_int Tryz.underlying3 g0
      obtain ⟨z1, e1, _, _⟩ := DataW.trod_int Tryz.underlying3 g1
      obtain ⟨z2, e2, _, w2⟩ := DataW.trod_string Tryz.underlying9 g2
      obtain ⟨z3, e3, _, _⟩ := DataW.trod_int Tryz.underlying3 g3
      obtain ⟨v4, l4, e4, w4, _, _⟩ := rows_open Pa.row anyF Tryz.underlying25 o_pa g4 fun m hm cs' x' E' h1 h2 h3 => by
        obtain ⟨u, hu⟩ := pa_opens m m (Nat.le_refl _) cs' x' E' h1 h2 h3
        exact ⟨u, hu, fun _ => trivial⟩
      obtain rfl := (List.cons.inj e0).1
      obtain rfl := (List.cons.inj e1).1
      obtain rfl := (List.cons.inj e2).1
      obtain rfl := (List.cons.inj e3).1
      obtain rfl := (List.cons.inj e4).1
      refine ⟨.mk z0 z1 z2 z3 l4, ?_⟩
      unfold Pa.row
      exact ⟨_, _, rfl, (by unfold IsC; rfl), _, _, rfl, (by unfold IsC; rfl), _, _, rfl, (by unfold IsC; exact ⟨rfl, w2⟩), _, _, rfl, (by unfold IsC; rfl), _, _, rfl, (by rw [Pa.rows_map]; exact w4), rfl⟩
set_option maxHeartbeats 1000000 in
set_option maxRecDepth 100000 in
theorem ex_arg0 {H : Type} {enc : TypeId × Value → H} {W : World} {base : Nat} {sp : Nat → Bool} {held : Bool} (fuel : Nat) (cs : List Value) (x : DataW H × List MemPlace) (hcl : cs.length = 8) (ht : DataW.trod enc Tryz.prog W base sp held fuel 32 cs = some x) : ∃ t : Ex, IsVs W Any t.row cs ∧ (WOk 32 x.1 → t.fit) := by
  obtain ⟨xs, n, hn, hx, hlen, hxl, hg⟩ := DataW.trod_struct Tryz.underlying32 ht
  match cs, hcl with
  | [c0, c1, c2, c3, c4, c5, c6, c7], _ =>
    match xs, hxl with
    | [y0, y1, y2, y3, y4, y5, y6, y7], _ =>
      have g0 := hg 0 _ rfl
      have g1 := hg 1 _ rfl
      have g2 := hg 2 _ rfl
      have g3 := hg 3 _ rfl
      have g4 := hg 4 _ rfl
      have g5 := hg 5 _ rfl
      have g6 := hg 6 _ rfl
      have g7 := hg 7 _ rfl
      have b4 : WOk 32 x.1 → WOk 28 y4.1 := fun hw => wok_part (xs := [y0, y1, y2, y3, y4, y5, y6, y7]) Tryz.underlying32 4 rfl rfl (by rw [hx] at hw; exact hw)
      have b6 : WOk 32 x.1 → WOk 29 y6.1 := fun hw => wok_part (xs := [y0, y1, y2, y3, y4, y5, y6, y7]) Tryz.underlying32 6 rfl rfl (by rw [hx] at hw; exact hw)
      have b7 : WOk 32 x.1 → WOk 30 y7.1 := fun hw => wok_part (xs := [y0, y1, y2, y3, y4, y5, y6, y7]) Tryz.underlying32 7 rfl rfl (by rw [hx] at hw; exact hw)
      simp only [List.getElem?_cons_zero, List.getElem?_cons_succ] at g0 g1 g2 g3 g4 g5 g6 g7
      obtain ⟨z0, e0, _, _⟩ := DataW.trod_int Tryz.underlying3 g0
      obtain ⟨z1, e1, _, _⟩ := DataW.trod_int Tryz.underlying3 g1
      obtain ⟨z2, e2, _, w2⟩ := DataW.trod_string Tryz.underlying9 g2
      obtain ⟨z3, e3, _, _⟩ := DataW.trod_int Tryz.underlying3 g3
      obtain ⟨v4, l4, e4, w4, _, q4⟩ := rows_open Ex.row Ex.fit Tryz.underlying28 o_ex g4 fun m hm cs' x' E' h1 h2 h3 => (opens_all m).ex m (Nat.le_refl _) cs' x' E' h1 h2 h3
      obtain ⟨v5, l5, e5, w5, _, _⟩ := rows_open Pa.row anyF Tryz.underlying25 o_pa g5 fun m hm cs' x' E' h1 h2 h3 => by
        obtain ⟨u, hu⟩ := pa_opens m m (Nat.le_refl _) cs' x' E' h1 h2 h3
        exact ⟨u, hu, fun _ => trivial⟩
      obtain ⟨v6, l6, e6, w6, _, q6⟩ := rows_open Al.row Al.fit Tryz.underlying29 o_al g6 fun m hm cs' x' E' h1 h2 h3 => (opens_all m).al m (Nat.le_refl _) cs' x' E' h1 h2 h3
      obtain ⟨v7, l7, e7, w7, _, q7⟩ := rows_open De.row De.fit Tryz.underlying30 o_de g7 fun m hm cs' x' E' h1 h2 h3 => (opens_all m).de m (Nat.le_refl _) cs' x' E' h1 h2 h3
      obtain rfl := (List.cons.inj e0).1
      obtain rfl := (List.cons.inj e1).1
      obtain rfl := (List.cons.inj e2).1
      obtain rfl := (List.cons.inj e3).1
      obtain rfl := (List.cons.inj e4).1
      obtain rfl := (List.cons.inj e5).1
      obtain rfl := (List.cons.inj e6).1
      obtain rfl := (List.cons.inj e7).1
      refine ⟨.mk z0 z1 z2 z3 l4 l5 l6 l7, ?_, fun hb => ?_⟩
      · unfold Ex.row
        exact ⟨_, _, rfl, (by unfold IsC; rfl), _, _, rfl, (by unfold IsC; rfl), _, _, rfl, (by unfold IsC; exact ⟨rfl, w2⟩), _, _, rfl, (by unfold IsC; rfl), _, _, rfl, (by rw [Ex.rows_map]; exact w4), _, _, rfl, (by rw [Pa.rows_map]; exact w5), _, _, rfl, (by rw [Al.rows_map]; exact w6), _, _, rfl, (by rw [De.rows_map]; exact w7), rfl⟩
      · unfold Ex.fit
        exact ⟨Ex.fits_all _ fun u hu => q4 u hu (b4 hb), Al.fits_all _ fun u hu => q6 u hu (b6 hb), De.fits_all _ fun u hu => q7 u hu (b7 hb)⟩

set_option maxRecDepth 100000 in
theorem ty_arg {H : Type} {enc : TypeId × Value → H} {W : World} {r : Reach} {b0 base : Nat} {sp : Nat → Bool} {held : Bool} {v : Value} {d : DataW H} {p : List MemPlace} (hv : Value.okWide Tryz.prog W r b0 24 v) (h : DataW.Trod enc Tryz.prog W base sp held 24 v d p) :
    ∃ (t : Ty) (vs : List Value), v = .agg vs.toArray ∧ IsVs W Any t.row vs := by
  obtain ⟨cs, rfl, hsz⟩ := okWide_struct Tryz.underlying24 hv
  obtain ⟨l⟩ := cs
  obtain ⟨fuel, hf⟩ := h
  obtain ⟨t, ht⟩ := ty_arg0 fuel l _ (hsz.trans o_ty) hf
  exact ⟨t, l, rfl, ht⟩
set_option maxRecDepth 100000 in
theorem pa_arg {H : Type} {enc : TypeId × Value → H} {W : World} {r : Reach} {b0 base : Nat} {sp : Nat → Bool} {held : Bool} {v : Value} {d : DataW H} {p : List MemPlace} (hv : Value.okWide Tryz.prog W r b0 27 v) (h : DataW.Trod enc Tryz.prog W base sp held 27 v d p) :
    ∃ (t : Pa) (vs : List Value), v = .agg vs.toArray ∧ IsVs W Any t.row vs := by
  obtain ⟨cs, rfl, hsz⟩ := okWide_struct Tryz.underlying27 hv
  obtain ⟨l⟩ := cs
  obtain ⟨fuel, hf⟩ := h
  obtain ⟨t, ht⟩ := pa_arg0 fuel l _ (hsz.trans o_pa) hf
  exact ⟨t, l, rfl, ht⟩
set_option maxRecDepth 100000 in
theorem ex_arg {H : Type} {enc : TypeId × Value → H} {W : World} {r : Reach} {b0 base : Nat} {sp : Nat → Bool} {held : Bool} {v : Value} {d : DataW H} {p : List MemPlace} (hv : Value.okWide Tryz.prog W r b0 32 v) (h : DataW.Trod enc Tryz.prog W base sp held 32 v d p) :
    ∃ (t : Ex) (vs : List Value), v = .agg vs.toArray ∧ IsVs W Any t.row vs ∧ (WOk 32 d → t.fit) := by
  obtain ⟨cs, rfl, hsz⟩ := okWide_struct Tryz.underlying32 hv
  obtain ⟨l⟩ := cs
  obtain ⟨fuel, hf⟩ := h
  obtain ⟨t, ht, hq⟩ := ex_arg0 fuel l _ (hsz.trans o_ex) hf
  exact ⟨t, l, rfl, ht, hq⟩

set_option maxRecDepth 100000 in
theorem des_arg {H : Type} {enc : TypeId × Value → H} {W : World} {r : Reach} {b0 base : Nat} {sp : Nat → Bool} {held : Bool} {v : Value} {d : DataW H} {p : List MemPlace} (hv : Value.okWide Tryz.prog W r b0 30 v) (h : DataW.Trod enc Tryz.prog W base sp held 30 v d p) :
    ∃ l : List De, IsDes W Any v l ∧ (WOk 30 d → De.fits l) := by
  obtain ⟨a, len, cap, rfl⟩ := okWide_slice Tryz.underlying30 hv
  obtain ⟨fuel, hf⟩ := h
  obtain ⟨v', l, e, h1, _, h3⟩ := rows_open De.row De.fit Tryz.underlying30 o_de hf fun m hm cs' x' E' g1 g2 g3 => (opens_all m).de m (Nat.le_refl _) cs' x' E' g1 g2 g3
  have e' : ([.slice a len cap] : List Value) = [v'] := e
  obtain rfl := (List.cons.inj e').1
  exact ⟨l, ⟨h1⟩, fun hb => De.fits_all _ fun u hu => h3 u hu hb⟩
end Go.Proofs.YtkdhoelabomgkaaGreatDoor
/-
  PLAIN WORDS OF LAYER 1 (glyph): a byte's class, its escape, as functions of numbers and lists of bytes. No walk here.
-/
namespace Go.Proofs.YtkdhoelabomgkaaGreatDoor

/-- a byte's class -/
def cls (c : Int) : Int :=
  if c = 32 ∨ c = 9 ∨ c = 10 ∨ c = 13 then 1
  else if 48 ≤ c ∧ c ≤ 57 then 2
  else if (97 ≤ c ∧ c ≤ 122) ∨ c = 95 then 3
  else if 65 ≤ c ∧ c ≤ 90 then 4
  else if c = 43 ∨ c = 45 ∨ c = 42 ∨ c = 47 ∨ c = 37 ∨ c = 61 ∨ c = 60 ∨ c = 62 ∨ c = 124 ∨ c = 38 ∨ c = 58 ∨ c = 46 ∨ c = 92 ∨ c = 33 then 5
  else if c = 40 ∨ c = 41 ∨ c = 91 ∨ c = 93 ∨ c = 123 ∨ c = 125 ∨ c = 44 ∨ c = 59 then 6
  else if c = 39 ∨ c = 34 then 7
  else 0
end Go.Proofs.YtkdhoelabomgkaaGreatDoor
/-
  glyph.Class tells a byte's class, for every byte.
-/
namespace Go.Proofs.YtkdhoelabomgkaaGreatDoor
open Go.ChangeShapes Go.WideShapes Go.ChangeAt Go.RowKit

theorem ret_int {k : IntKind} {a b : Int} (h : a = b) : Ending.returned (.int k a) = .returned (.int k b) := by rw [h]

set_option maxHeartbeats 1000000 in
theorem class_any (c : Int) (h0 : 0 ≤ c) (h1 : c ≤ 255) (w : World) :
    Calls Tryz.prog 120 #[.int .u8 c] w fun e w' => e = .returned (.int .i64 (cls c)) ∧ w = w' := by
  go_enter Tryz.func120, Tryz.ntmps120
  go_wp2
  all_goals (go_ret; refine ⟨ret_int ?_, rfl⟩)
  all_goals ((try simp only [beq_iff_eq, beq_eq_false_iff_ne] at *); unfold cls; repeat (first | rw [if_pos (by omega)] | rw [if_neg (by omega)]))
end Go.Proofs.YtkdhoelabomgkaaGreatDoor
/-
  The document's own has (is a byte in a text?) and Class: each answers what is said in plain words, for every text and byte.
-/
namespace Go.Proofs.YtkdhoelabomgkaaGreatDoor
open Go.ChangeShapes Go.WideShapes Go.ChangeAt Go.RowKit

def hasB (l : List UInt8) (c : Int) : Bool := l.any fun b => (b.toNat : Int) == c

theorem hasB_none (s : ByteArray) (c : Int) (k : Nat) (hk : k = s.size) (h : ∀ j, j < k → ∀ hj : j < s.size, (s[j].toNat : Int) ≠ c) : hasB s.data.toList c = false := by
  unfold hasB
  rw [List.any_eq_false]
  intro b hb
  obtain ⟨j, hj, rfl⟩ := List.mem_iff_getElem.1 hb
  have hj' : j < s.size := by simpa using hj
  have := h j (by omega) hj'
  simpa [ByteArray.getElem_eq_getElem_data] using this

theorem hasB_some (s : ByteArray) (c : Int) (k : Nat) (hk : k < s.size) (h : (s[k].toNat : Int) = c) : hasB s.data.toList c = true := by
  unfold hasB
  rw [List.any_eq_true]
  exact ⟨s[k], by simp [ByteArray.getElem_eq_getElem_data], by simpa using h⟩

theorem hasB_step (s : ByteArray) (c : Int) (k : Nat) (h : ∀ j, j < k → ∀ hj : j < s.size, (s[j].toNat : Int) ≠ c) (hk : k < s.size) (e : (s[k].toNat : Int) ≠ c) :
    ∀ j, j < k + 1 → ∀ hj : j < s.size, (s[j].toNat : Int) ≠ c := by
  intro j hj hjs
  by_cases hjk : j = k
  · subst hjk; exact e
  · exact h j (by omega) hjs

theorem ret_bool {a b : Bool} (h : a = b) : Ending.returned (.bool a) = .returned (.bool b) := by rw [h]

set_option maxHeartbeats 1000000 in
theorem has_any (s : ByteArray) (c : Int) (hs : s.size ≤ maxLen) (w : World) :
    Calls Tryz.prog 114 #[.string s, .int .u8 c] w fun e w' => e = .returned (.bool (hasB s.data.toList c)) ∧ w = w' := by
  unfold maxLen at hs
  go_enter Tryz.func114, Tryz.ntmps114
  go_wp2
  go_loop [5] (fun i => ∃ k : Nat, k ≤ s.size ∧ i = .int .i64 k ∧ Hid (∀ j, j < k → ∀ hj : j < s.size, (s[j].toNat : Int) ≠ c)) (fun i => s.size - (intOf i).toNat)
  case atStart => exact ⟨0, Nat.zero_le _, rfl, Lib.hid fun j hj => by omega⟩
  case round =>
    obtain ⟨k, hk, rfl, H⟩ := hrel
    by_cases hlt : k < s.size
    · go_wp2
      · go_ret
        have e : ((s[k].toNat : Int) == c) = true := by assumption
        exact ⟨ret_bool (hasB_some s c k hlt (by simpa using e)).symm, rfl⟩
      · have e : ((s[k].toNat : Int) == c) = false := by assumption
        go_round
        case rel => exact ⟨k + 1, by omega, by go_num, Lib.hid (hasB_step s c k H.out hlt (by simpa using e))⟩
        case measure => simp [intOf]; omega
    · go_wp2
      go_ret
      exact ⟨ret_bool (hasB_none s c k (by omega) H.out).symm, rfl⟩

theorem has1 (c : Int) : hasB [32, 9, 10, 13] c = true ↔ (c = 32 ∨ c = 9 ∨ c = 10 ∨ c = 13) := by simp [hasB]; omega
theorem has1n (c : Int) : hasB [32, 9, 10, 13] c = false ↔ ¬ (c = 32 ∨ c = 9 ∨ c = 10 ∨ c = 13) := by rw [← has1]; simp
theorem has2 (c : Int) : hasB [43, 45, 42, 47, 37, 61, 60, 62, 124, 38, 58, 46, 92, 33] c = true ↔ (c = 43 ∨ c = 45 ∨ c = 42 ∨ c = 47 ∨ c = 37 ∨ c = 61 ∨ c = 60 ∨ c = 62 ∨ c = 124 ∨ c = 38 ∨ c = 58 ∨ c = 46 ∨ c = 92 ∨ c = 33) := by simp [hasB]; omega
theorem has2n (c : Int) : hasB [43, 45, 42, 47, 37, 61, 60, 62, 124, 38, 58, 46, 92, 33] c = false ↔ ¬ (c = 43 ∨ c = 45 ∨ c = 42 ∨ c = 47 ∨ c = 37 ∨ c = 61 ∨ c = 60 ∨ c = 62 ∨ c = 124 ∨ c = 38 ∨ c = 58 ∨ c = 46 ∨ c = 92 ∨ c = 33) := by rw [← has2]; simp
theorem has3 (c : Int) : hasB [40, 41, 91, 93, 123, 125, 44, 59] c = true ↔ (c = 40 ∨ c = 41 ∨ c = 91 ∨ c = 93 ∨ c = 123 ∨ c = 125 ∨ c = 44 ∨ c = 59) := by simp [hasB]; omega
theorem has3n (c : Int) : hasB [40, 41, 91, 93, 123, 125, 44, 59] c = false ↔ ¬ (c = 40 ∨ c = 41 ∨ c = 91 ∨ c = 93 ∨ c = 123 ∨ c = 125 ∨ c = 44 ∨ c = 59) := by rw [← has3]; simp
theorem has4 (c : Int) : hasB [39, 34] c = true ↔ (c = 39 ∨ c = 34) := by simp [hasB]; omega
theorem has4n (c : Int) : hasB [39, 34] c = false ↔ ¬ (c = 39 ∨ c = 34) := by rw [← has4]; simp

set_option maxHeartbeats 2000000 in
theorem rclass_any (c : Int) (h0 : 0 ≤ c) (h1 : c ≤ 255) (w : World) :
    Calls Tryz.prog 97 #[.int .u8 c] w fun e w' => e = .returned (.int .i64 (cls c)) ∧ w = w' := by
  go_enter Tryz.func97, Tryz.ntmps97
  go_wp2_with (go_at_call 114; refine (has_any _ _ (by decide) _).mono ?_; rintro e w' ⟨rfl, rfl⟩)
  all_goals (go_ret; refine ⟨ret_int ?_, rfl⟩)
  all_goals ((try simp only [beq_iff_eq, beq_eq_false_iff_ne, has1, has1n, has2, has2n, has3, has3n, has4, has4n] at *); first | (exfalso; omega) | (unfold cls; repeat (first | rw [if_pos (by omega)] | rw [if_neg (by omega)])))
end Go.Proofs.YtkdhoelabomgkaaGreatDoor
/-
  glyph.letterOf and glyph.byteOf: the short escapes, there and back.
-/
namespace Go.Proofs.YtkdhoelabomgkaaGreatDoor
open Go.ChangeShapes Go.WideShapes Go.ChangeAt Go.RowKit

abbrev shortsV : Value := .agg #[.int .u8 10, .int .u8 110, .int .u8 9, .int .u8 116, .int .u8 92, .int .u8 92, .int .u8 39, .int .u8 39, .int .u8 34, .int .u8 34]
abbrev shortsO : Obj := .cells #[.int .u8 10, .int .u8 110, .int .u8 9, .int .u8 116, .int .u8 92, .int .u8 92, .int .u8 39, .int .u8 39, .int .u8 34, .int .u8 34] 224

set_option maxHeartbeats 1000000 in
set_option maxRecDepth 100000 in
theorem shorts_any (w : World) : Calls Tryz.prog 164 #[] w fun e w' => e = .returned shortsV ∧ w.alloc shortsO = w' := by
  go_enter Tryz.func164, Tryz.ntmps164
  go_wp2
  exact bodyPost_ret (v := shortsV) (by simp [results, Tryz.results164, go_sem]) rfl ⟨rfl, rfl⟩

def shortL (c : Int) : Int := if c = 10 then 110 else if c = 9 then 116 else if c = 92 then 92 else if c = 39 then 39 else if c = 34 then 34 else 0
def isShort (c : Int) : Bool := decide (c = 10 ∨ c = 9 ∨ c = 92 ∨ c = 39 ∨ c = 34)
def byteL (c : Int) : Int := if c = 110 then 10 else if c = 116 then 9 else if c = 92 then 92 else if c = 39 then 39 else if c = 34 then 34 else 0
def isByteL (c : Int) : Bool := decide (c = 110 ∨ c = 116 ∨ c = 92 ∨ c = 39 ∨ c = 34)
theorem ret_two {k : IntKind} {a b : Int} {x y : Bool} (h : a = b) (h' : x = y) : Ending.returned (.tuple #[.int k a, .bool x]) = .returned (.tuple #[.int k b, .bool y]) := by rw [h, h']

set_option maxHeartbeats 4000000 in
set_option maxRecDepth 100000 in
theorem byteof_any (c : Int) (w : World) :
    Calls Tryz.prog 158 #[.int .u8 c] w fun e w' => e = .returned (.tuple #[.int .u8 (byteL c), .bool (isByteL c)]) ∧ Below w.heap.size w w' := by
  have i0 : ∀ w, (Instr.index 224 shortsV (.int .i64 0)).run Tryz.prog w = .ok (.agg #[.int .u8 10, .int .u8 110]) w := fun _ => by as_aux_lemma => kernel_rfl
  have i1 : ∀ w, (Instr.index 224 shortsV (.int .i64 1)).run Tryz.prog w = .ok (.agg #[.int .u8 9, .int .u8 116]) w := fun _ => by as_aux_lemma => kernel_rfl
  have i2 : ∀ w, (Instr.index 224 shortsV (.int .i64 2)).run Tryz.prog w = .ok (.agg #[.int .u8 92, .int .u8 92]) w := fun _ => by as_aux_lemma => kernel_rfl
  have i3 : ∀ w, (Instr.index 224 shortsV (.int .i64 3)).run Tryz.prog w = .ok (.agg #[.int .u8 39, .int .u8 39]) w := fun _ => by as_aux_lemma => kernel_rfl
  have i4 : ∀ w, (Instr.index 224 shortsV (.int .i64 4)).run Tryz.prog w = .ok (.agg #[.int .u8 34, .int .u8 34]) w := fun _ => by as_aux_lemma => kernel_rfl
  go_enter Tryz.func158, Tryz.ntmps158
  go_wp2_with fail
  refine (shorts_any _).mono ?_
  rintro e w' ⟨rfl, rfl⟩
  go_wp2
  refine wp_loop_rounds 6 ?_
  rw [rounds_succ]
  go_wp2
  · go_ret2
    have e : ((110 : Int) == c) = true := by assumption
    rw [beq_iff_eq] at e
    subst e
    exact ⟨ret_two rfl rfl, ((Below.refl _ _).alloc (Nat.le_refl _) _).alloc (by first | (simp; done) | (simp; omega)) _⟩
  rw [rounds_succ]
  go_wp2
  · go_ret2
    have e : ((116 : Int) == c) = true := by assumption
    rw [beq_iff_eq] at e
    subst e
    exact ⟨ret_two rfl rfl, (((Below.refl _ _).alloc (Nat.le_refl _) _).alloc (by first | (simp; done) | (simp; omega)) _).alloc (by first | (simp; done) | (simp; omega)) _⟩
  rw [rounds_succ]
  go_wp2
  · go_ret2
    have e : ((92 : Int) == c) = true := by assumption
    rw [beq_iff_eq] at e
    subst e
    exact ⟨ret_two rfl rfl, ((((Below.refl _ _).alloc (Nat.le_refl _) _).alloc (by first | (simp; done) | (simp; omega)) _).alloc (by first | (simp; done) | (simp; omega)) _).alloc (by first | (simp; done) | (simp; omega)) _⟩
  rw [rounds_succ]
  go_wp2
  · go_ret2
    have e : ((39 : Int) == c) = true := by assumption
    rw [beq_iff_eq] at e
    subst e
    exact ⟨ret_two rfl rfl, (((((Below.refl _ _).alloc (Nat.le_refl _) _).alloc (by first | (simp; done) | (simp; omega)) _).alloc (by first | (simp; done) | (simp; omega)) _).alloc (by first | (simp; done) | (simp; omega)) _).alloc (by first | (simp; done) | (simp; omega)) _⟩
  rw [rounds_succ]
  go_wp2
  · go_ret2
    have e : ((34 : Int) == c) = true := by assumption
    rw [beq_iff_eq] at e
    subst e
    exact ⟨ret_two rfl rfl, ((((((Below.refl _ _).alloc (Nat.le_refl _) _).alloc (by first | (simp; done) | (simp; omega)) _).alloc (by first | (simp; done) | (simp; omega)) _).alloc (by first | (simp; done) | (simp; omega)) _).alloc (by first | (simp; done) | (simp; omega)) _).alloc (by first | (simp; done) | (simp; omega)) _⟩
  rw [rounds_succ]
  go_wp2
  go_ret2
  refine ⟨ret_two ?_ ?_, ((((((Below.refl _ _).alloc (Nat.le_refl _) _).alloc (by first | (simp; done) | (simp; omega)) _).alloc (by first | (simp; done) | (simp; omega)) _).alloc (by first | (simp; done) | (simp; omega)) _).alloc (by first | (simp; done) | (simp; omega)) _).alloc (by first | (simp; done) | (simp; omega)) _⟩
  · (try simp only [beq_eq_false_iff_ne, ne_eq] at *); unfold byteL; rw [if_neg (by omega), if_neg (by omega), if_neg (by omega), if_neg (by omega), if_neg (by omega)]
  · (try simp only [beq_eq_false_iff_ne, ne_eq] at *); unfold isByteL; rw [Eq.comm, decide_eq_false_iff_not]; omega
end Go.Proofs.YtkdhoelabomgkaaGreatDoor
