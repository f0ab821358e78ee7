/- Texts of this proof, joined: OpenVs, Plain1, Class, TWord. No condition. -/
import Derived.Test.YtdiffpiapdghoaaGreatDoorSa03
import Derived.WideShapes
import Derived.WalkKit
import Derived.Test.YtdiffpiapdghoaaGreatDoorRows
import Derived.ProofKit
import Derived.OpenShut
import Derived.WalkSpells
import Derived.Lib.Hide
import Derived.Outline
/-
  Layer 3: arguments that are trees, opened: structs by value, slices of declarations. No walk.
-/
namespace Go.Proofs.YtdiffpiapdghoaaGreatDoor
set_option linter.unusedVariables false
open Go.ChangeShapes Go.WideShapes Go.ChangeAt Go.RowKit Go.Deep

set_option maxRecDepth 100000 in
theorem ty_arg0 {H : Type} {enc : TypeId × Value → H} {W : World} {base : Nat} {sp : Nat → Bool} {held : Bool} (fuel : Nat) (cs : List Value) (x : DataW H × List MemPlace) (hcl : cs.length = 4) (ht : DataW.trod enc Tryz.prog W base sp held fuel 24 cs = some x) : ∃ t : Ty, IsVs W Any t.row cs := by
  obtain ⟨xs, n, hn, hx, hlen, hxl, hg⟩ := DataW.trod_struct Tryz.underlying24 ht
  match cs, hcl with
  | [c0, c1, c2, c3], _ =>
    match xs, hxl with
    | [y0, y1, y2, y3], _ =>
      have g0 := hg 0 _ rfl
      have g1 := hg 1 _ rfl
      have g2 := hg 2 _ rfl
      have g3 := hg 3 _ rfl
      simp only [List.getElem?_cons_zero, List.getElem?_cons_succ] at g0 g1 g2 g3
      obtain ⟨z0, e0, _, _⟩ := DataW.trod_int Tryz.underlying3 g0
      obtain ⟨z1, e1, _, _⟩ := DataW.trod_int Tryz.underlying3 g1
      obtain ⟨z2, e2, _, w2⟩ := DataW.trod_string Tryz.underlying9 g2
      obtain ⟨v3, l3, e3, w3, _, _⟩ := rows_open Ty.row anyF Tryz.underlying22 o_ty g3 fun m hm cs' x' E' h1 h2 h3 => by
        obtain ⟨u, hu⟩ := ty_opens m m (Nat.le_refl _) cs' x' E' h1 h2 h3
        exact ⟨u, hu, fun _ => trivial⟩
      obtain rfl := (List.cons.inj e0).1
      obtain rfl := (List.cons.inj e1).1
      obtain rfl := (List.cons.inj e2).1
      obtain rfl := (List.cons.inj e3).1
      refine ⟨.mk z0 z1 z2 l3, ?_⟩
      unfold Ty.row
      exact ⟨_, _, rfl, (by unfold IsC; rfl), _, _, rfl, (by unfold IsC; rfl), _, _, rfl, (by unfold IsC; exact ⟨rfl, w2⟩), _, _, rfl, (by rw [Ty.rows_map]; exact w3), rfl⟩
set_option maxRecDepth 100000 in
theorem pa_arg0 {H : Type} {enc : TypeId × Value → H} {W : World} {base : Nat} {sp : Nat → Bool} {held : Bool} (fuel : Nat) (cs : List Value) (x : DataW H × List MemPlace) (hcl : cs.length = 5) (ht : DataW.trod enc Tryz.prog W base sp held fuel 27 cs = some x) : ∃ t : Pa, IsVs W Any t.row cs := by
  obtain ⟨xs, n, hn, hx, hlen, hxl, hg⟩ := DataW.trod_struct Tryz.underlying27 ht
  match cs, hcl with
  | [c0, c1, c2, c3, c4], _ =>
    match xs, hxl with
    | [y0, y1, y2, y3, y4], _ =>
      have g0 := hg 0 _ rfl
      have g1 := hg 1 _ rfl
      have g2 := hg 2 _ rfl
      have g3 := hg 3 _ rfl
      have g4 := hg 4 _ rfl
      simp only [List.getElem?_cons_zero, List.getElem?_cons_succ] at g0 g1 g2 g3 g4
      obtain ⟨z0, e0, _, _⟩ := DataW.trod_int Tryz.underlying3 g0
      obtain ⟨z1, e1, _, _⟩ := DataW.trod_int Tryz.underlying3 g1
      obtain ⟨z2, e2, _, w2⟩ := DataW.trod_string Tryz.underlying9 g2
      obtain ⟨z3, e3, _, _⟩ := DataW.trod_int Tryz.underlying3 g3
      obtain ⟨v4, l4, e4, w4, _, _⟩ := rows_open Pa.row anyF Tryz.underlying25 o_pa g4 fun m hm cs' x' E' h1 h2 h3 => by
        obtain ⟨u, hu⟩ := pa_opens m m (Nat.le_refl _) cs' x' E' h1 h2 h3
        exact ⟨u, hu, fun _ => trivial⟩
      obtain rfl := (List.cons.inj e0).1
      obtain rfl := (List.cons.inj e1).1
      obtain rfl := (List.cons.inj e2).1
      obtain rfl := (List.cons.inj e3).1
      obtain rfl := (List.cons.inj e4).1
      refine ⟨.mk z0 z1 z2 z3 l4, ?_⟩
      unfold Pa.row
      exact ⟨_, _, rfl, (by unfold IsC; rfl), _, _, rfl, (by unfold IsC; rfl), _, _, rfl, (by unfold IsC; exact ⟨rfl, w2⟩), _, _, rfl, (by unfold IsC; rfl), _, _, rfl, (by rw [Pa.rows_map]; exact w4), rfl⟩
set_option maxHeartbeats 1000000 in
set_option maxRecDepth 100000 in
theorem ex_arg0 {H : Type} {enc : TypeId × Value → H} {W : World} {base : Nat} {sp : Nat → Bool} {held : Bool} (fuel : Nat) (cs : List Value) (x : DataW H × List MemPlace) (hcl : cs.length = 8) (ht : DataW.trod enc Tryz.prog W base sp held fuel 32 cs = some x) : ∃ t : Ex, IsVs W Any t.row cs ∧ (WOk 32 x.1 → t.fit) := by
  obtain ⟨xs, n, hn, hx, hlen, hxl, hg⟩ := DataW.trod_struct Tryz.underlying32 ht
  match cs, hcl with
  | [c0, c1, c2, c3, c4, c5, c6, c7], _ =>
    match xs, hxl with
    | [y0, y1, y2, y3, y4, y5, y6, y7], _ =>
      have g0 := hg 0 _ rfl
      have g1 := hg 1 _ rfl
      have g2 := hg 2 _ rfl
      have g3 := hg 3 _ rfl
      have g4 := hg 4 _ rfl
      have g5 := hg 5 _ rfl
      have g6 := hg 6 _ rfl
      have g7 := hg 7 _ rfl
      have b4 : WOk 32 x.1 → WOk 28 y4.1 := fun hw => wok_part (xs := [y0, y1, y2, y3, y4, y5, y6, y7]) Tryz.underlying32 4 rfl rfl (by rw [hx] at hw; exact hw)
      have b6 : WOk 32 x.1 → WOk 29 y6.1 := fun hw => wok_part (xs := [y0, y1, y2, y3, y4, y5, y6, y7]) Tryz.underlying32 6 rfl rfl (by rw [hx] at hw; exact hw)
      have b7 : WOk 32 x.1 → WOk 30 y7.1 := fun hw => wok_part (xs := [y0, y1, y2, y3, y4, y5, y6, y7]) Tryz.underlying32 7 rfl rfl (by rw [hx] at hw; exact hw)
      simp only [List.getElem?_cons_zero, List.getElem?_cons_succ] at g0 g1 g2 g3 g4 g5 g6 g7
      obtain ⟨z0, e0, _, _⟩ := DataW.trod_int Tryz.underlying3 g0
      obtain ⟨z1, e1, _, _⟩ := DataW.trod_int Tryz.underlying3 g1
      obtain ⟨z2, e2, _, w2⟩ := DataW.trod_string Tryz.underlying9 g2
      obtain ⟨z3, e3, _, _⟩ := DataW.trod_int Tryz.underlying3 g3
      obtain ⟨v4, l4, e4, w4, _, q4⟩ := rows_open Ex.row Ex.fit Tryz.underlying28 o_ex g4 fun m hm cs' x' E' h1 h2 h3 => (opens_all m).ex m (Nat.le_refl _) cs' x' E' h1 h2 h3
      obtain ⟨v5, l5, e5, w5, _, _⟩ := rows_open Pa.row anyF Tryz.underlying25 o_pa g5 fun m hm cs' x' E' h1 h2 h3 => by
        obtain ⟨u, hu⟩ := pa_opens m m (Nat.le_refl _) cs' x' E' h1 h2 h3
        exact ⟨u, hu, fun _ => trivial⟩
      obtain ⟨v6, l6, e6, w6, _, q6⟩ := rows_open Al.row Al.fit Tryz.underlying29 o_al g6 fun m hm cs' x' E' h1 h2 h3 => (opens_all m).al m (Nat.le_refl _) cs' x' E' h1 h2 h3
      obtain ⟨v7, l7, e7, w7, _, q7⟩ := rows_open De.row De.fit Tryz.underlying30 o_de g7 fun m hm cs' x' E' h1 h2 h3 => (opens_all m).de m (Nat.le_refl _) cs' x' E' h1 h2 h3
      obtain rfl := (List.cons.inj e0).1
      obtain rfl := (List.cons.inj e1).1
      obtain rfl := (List.cons.inj e2).1
      obtain rfl := (List.cons.inj e3).1
      obtain rfl := (List.cons.inj e4).1
      obtain rfl := (List.cons.inj e5).1
      obtain rfl := (List.cons.inj e6).1
      obtain rfl := (List.cons.inj e7).1
      refine ⟨.mk z0 z1 z2 z3 l4 l5 l6 l7, ?_, fun hb => ?_⟩
      · unfold Ex.row
        exact ⟨_, _, rfl, (by unfold IsC; rfl), _, _, rfl, (by unfold IsC; rfl), _, _, rfl, (by unfold IsC; exact ⟨rfl, w2⟩), _, _, rfl, (by unfold IsC; rfl), _, _, rfl, (by rw [Ex.rows_map]; exact w4), _, _, rfl, (by rw [Pa.rows_map]; exact w5), _, _, rfl, (by rw [Al.rows_map]; exact w6), _, _, rfl, (by rw [De.rows_map]; exact w7), rfl⟩
      · unfold Ex.fit
        exact ⟨Ex.fits_all _ fun u hu => q4 u hu (b4 hb), Al.fits_all _ fun u hu => q6 u hu (b6 hb), De.fits_all _ fun u hu => q7 u hu (b7 hb)⟩

set_option maxRecDepth 100000 in
theorem ty_arg {H : Type} {enc : TypeId × Value → H} {W : World} {r : Reach} {b0 base : Nat} {sp : Nat → Bool} {held : Bool} {v : Value} {d : DataW H} {p : List MemPlace} (hv : Value.okWide Tryz.prog W r b0 24 v) (h : DataW.Trod enc Tryz.prog W base sp held 24 v d p) :
    ∃ (t : Ty) (vs : List Value), v = .agg vs.toArray ∧ IsVs W Any t.row vs := by
  obtain ⟨cs, rfl, hsz⟩ := okWide_struct Tryz.underlying24 hv
  obtain ⟨l⟩ := cs
  obtain ⟨fuel, hf⟩ := h
  obtain ⟨t, ht⟩ := ty_arg0 fuel l _ (hsz.trans o_ty) hf
  exact ⟨t, l, rfl, ht⟩
set_option maxRecDepth 100000 in
theorem pa_arg {H : Type} {enc : TypeId × Value → H} {W : World} {r : Reach} {b0 base : Nat} {sp : Nat → Bool} {held : Bool} {v : Value} {d : DataW H} {p : List MemPlace} (hv : Value.okWide Tryz.prog W r b0 27 v) (h : DataW.Trod enc Tryz.prog W base sp held 27 v d p) :
    ∃ (t : Pa) (vs : List Value), v = .agg vs.toArray ∧ IsVs W Any t.row vs := by
  obtain ⟨cs, rfl, hsz⟩ := okWide_struct Tryz.underlying27 hv
  obtain ⟨l⟩ := cs
  obtain ⟨fuel, hf⟩ := h
  obtain ⟨t, ht⟩ := pa_arg0 fuel l _ (hsz.trans o_pa) hf
  exact ⟨t, l, rfl, ht⟩
set_option maxRecDepth 100000 in
theorem ex_arg {H : Type} {enc : TypeId × Value → H} {W : World} {r : Reach} {b0 base : Nat} {sp : Nat → Bool} {held : Bool} {v : Value} {d : DataW H} {p : List MemPlace} (hv : Value.okWide Tryz.prog W r b0 32 v) (h : DataW.Trod enc Tryz.prog W base sp held 32 v d p) :
    ∃ (t : Ex) (vs : List Value), v = .agg vs.toArray ∧ IsVs W Any t.row vs ∧ (WOk 32 d → t.fit) := by
  obtain ⟨cs, rfl, hsz⟩ := okWide_struct Tryz.underlying32 hv
  obtain ⟨l⟩ := cs
  obtain ⟨fuel, hf⟩ := h
  obtain ⟨t, ht, hq⟩ := ex_arg0 fuel l _ (hsz.trans o_ex) hf
  exact ⟨t, l, rfl, ht, hq⟩

set_option maxRecDepth 100000 in
theorem des_arg {H : Type} {enc : TypeId × Value → H} {W : World} {r : Reach} {b0 base : Nat} {sp : Nat → Bool} {held : Bool} {v : Value} {d : DataW H} {p : List MemPlace} (hv : Value.okWide Tryz.prog W r b0 30 v) (h : DataW.Trod enc Tryz.prog W base sp held 30 v d p) :
    ∃ l : List De, IsDes W Any v l ∧ (WOk 30 d → De.fits l) := by
  obtain ⟨a, len, cap, rfl⟩ := okWide_slice Tryz.underlying30 hv
  obtain ⟨fuel, hf⟩ := h
  obtain ⟨v', l, e, h1, _, h3⟩ := rows_open De.row De.fit Tryz.underlying30 o_de hf fun m hm cs' x' E' g1 g2 g3 => (opens_all m).de m (Nat.le_refl _) cs' x' E' g1 g2 g3
  have e' : ([.slice a len cap] : List Value) = [v'] := e
  obtain rfl := (List.cons.inj e').1
  exact ⟨l, ⟨h1⟩, fun hb => De.fits_all _ fun u hu => h3 u hu hb⟩
end Go.Proofs.YtdiffpiapdghoaaGreatDoor
/-
  PLAIN WORDS OF LAYER 1 (glyph): a byte's class, its escape, as functions of numbers and lists of bytes. No walk here.
-/
namespace Go.Proofs.YtdiffpiapdghoaaGreatDoor

/-- a byte's class -/
def cls (c : Int) : Int :=
  if c = 32 ∨ c = 9 ∨ c = 10 ∨ c = 13 then 1
  else if 48 ≤ c ∧ c ≤ 57 then 2
  else if (97 ≤ c ∧ c ≤ 122) ∨ c = 95 then 3
  else if 65 ≤ c ∧ c ≤ 90 then 4
  else if c = 43 ∨ c = 45 ∨ c = 42 ∨ c = 47 ∨ c = 37 ∨ c = 61 ∨ c = 60 ∨ c = 62 ∨ c = 124 ∨ c = 38 ∨ c = 58 ∨ c = 46 ∨ c = 92 ∨ c = 33 then 5
  else if c = 40 ∨ c = 41 ∨ c = 91 ∨ c = 93 ∨ c = 123 ∨ c = 125 ∨ c = 44 ∨ c = 59 then 6
  else if c = 39 ∨ c = 34 then 7
  else 0
end Go.Proofs.YtdiffpiapdghoaaGreatDoor
/-
  glyph.Class tells a byte's class, for every byte.
-/
namespace Go.Proofs.YtdiffpiapdghoaaGreatDoor
open Go.ChangeShapes Go.WideShapes Go.ChangeAt Go.RowKit

theorem ret_int {k : IntKind} {a b : Int} (h : a = b) : Ending.returned (.int k a) = .returned (.int k b) := by rw [h]

set_option maxHeartbeats 1000000 in
theorem class_any (c : Int) (h0 : 0 ≤ c) (h1 : c ≤ 255) (w : World) :
    Calls Tryz.prog 120 #[.int .u8 c] w fun e w' => e = .returned (.int .i64 (cls c)) ∧ w = w' := by
  go_enter Tryz.func120, Tryz.ntmps120
  go_wp2
  all_goals (go_ret; refine ⟨ret_int ?_, rfl⟩)
  all_goals ((try simp only [beq_iff_eq, beq_eq_false_iff_ne] at *); unfold cls; repeat (first | rw [if_pos (by omega)] | rw [if_neg (by omega)]))
end Go.Proofs.YtdiffpiapdghoaaGreatDoor
/-
  Layer 3: token.Word and tree.isName, where the whole of layer 2 is not in the seat.
-/
namespace Go.Proofs.YtdiffpiapdghoaaGreatDoor
set_option linter.unusedVariables false
open Go.ChangeShapes Go.WideShapes Go.ChangeAt Go.RowKit

theorem ret_bool {a b : Bool} (h : a = b) : Ending.returned (.bool a) = .returned (.bool b) := by rw [h]
/-- byte j of a text; 0 behind it -/
def atB (s : ByteArray) (j : Nat) : Int := ((s.data.toList.getD j 0).toNat : Int)
theorem atB_eq (s : ByteArray) (j : Nat) (h : j < s.size) : atB s j = (s[j].toNat : Int) := by
  unfold atB
  rw [List.getD_eq_getElem?_getD, List.getElem?_eq_getElem (by rw [Array.length_toList]; exact h)]
  rfl
theorem atB_bounds (s : ByteArray) (j : Nat) : 0 ≤ atB s j ∧ atB s j ≤ 255 := by
  unfold atB
  have := (s.data.toList.getD j 0).toNat_lt
  omega

def keysL : List ByteArray := [⟨#[99, 97, 115, 101]⟩, ⟨#[100, 97, 116, 97]⟩, ⟨#[101, 108, 115, 101]⟩, ⟨#[105, 102]⟩, ⟨#[105, 110]⟩, ⟨#[108, 101, 116]⟩, ⟨#[111, 102]⟩, ⟨#[116, 104, 101, 110]⟩]
def inL (l : List ByteArray) (s : ByteArray) : Bool := l.any fun t => t.toList == s.toList
/-- may a byte stand within a Name? -/
def letB (c : Int) : Bool := cls c == 3 || cls c == 4 || cls c == 2 || c == 39

/-- from k to m stand letters, and no further -/
def RunTo (s : ByteArray) (k m : Nat) : Prop := k ≤ m ∧ m ≤ s.size ∧ (∀ i, k ≤ i → i < m → letB (atB s i) = true) ∧ (m = s.size ∨ letB (atB s m) = false)
theorem RunTo.unique {s : ByteArray} {k m m' : Nat} (h : RunTo s k m) (h' : RunTo s k m') : m = m' := by
  obtain ⟨a, b, c, d⟩ := h
  obtain ⟨a', b', c', d'⟩ := h'
  rcases Nat.lt_trichotomy m m' with hl | he | hl
  · rcases d with e | e
    · omega
    · rw [c' m a hl] at e; cases e
  · exact he
  · rcases d' with e | e
    · omega
    · rw [c m' a' hl] at e; cases e

/-- where the letters from i on end -/
def runEnd (s : ByteArray) : Nat → Nat → Nat
  | 0, i => i
  | f + 1, i => if s.size ≤ i then i else if letB (atB s i) = true then runEnd s f (i + 1) else i
theorem runEnd_ok (s : ByteArray) : ∀ f i, i ≤ s.size → s.size - i ≤ f → RunTo s i (runEnd s f i) := by
  intro f
  induction f with
  | zero => intro i h1 h2; exact ⟨Nat.le_refl _, h1, fun j a b => by simp only [runEnd] at b; omega, .inl (by simp only [runEnd]; omega)⟩
  | succ f ih =>
    intro i h1 h2
    show RunTo s i (if s.size ≤ i then i else if letB (atB s i) = true then runEnd s f (i + 1) else i)
    by_cases a : s.size ≤ i
    · rw [if_pos a]; exact ⟨Nat.le_refl _, h1, fun j a b => by omega, .inl (by omega)⟩
    by_cases b : letB (atB s i) = true
    · rw [if_neg a, if_pos b]
      obtain ⟨c, d, e, g⟩ := ih (i + 1) (by omega) (by omega)
      refine ⟨by omega, d, fun j h3 h4 => ?_, g⟩
      by_cases hj : j = i
      · rw [hj]; exact b
      · exact e j (by omega) h4
    · rw [if_neg a, if_neg b]; exact ⟨Nat.le_refl _, h1, fun j a b => by omega, .inr (by simpa using b)⟩
/-- the place behind the letters from i on -/
def wordEnd (s : ByteArray) (i : Nat) : Nat := runEnd s (s.size - i) i

theorem inL_cons (t s : ByteArray) (l : List ByteArray) : inL (t :: l) s = (s.toList == t.toList || inL l s) := by
  unfold inL
  rw [List.any_cons]
  congr 1
  rw [Bool.eq_iff_iff, beq_iff_eq, beq_iff_eq]
  exact eq_comm
theorem inL_nil (s : ByteArray) : inL [] s = false := rfl

set_option maxHeartbeats 1000000 in
theorem pkey_any (s : ByteArray) (w : World) :
    Calls Tryz.prog 122 #[.string s] w fun e w' => e = .returned (.bool (inL keysL s)) ∧ w = w' := by
  go_enter Tryz.func122, Tryz.ntmps122
  go_wp2
  all_goals (go_ret; refine ⟨ret_bool ?_, rfl⟩)
  all_goals (unfold keysL; simp only [inL_cons, inL_nil, Bool.or_false])
  all_goals (first | (simp [*]; done) | (simp_all; done))

set_option maxHeartbeats 2000000 in
theorem pin_any (c : Int) (h0 : 0 ≤ c) (h1 : c ≤ 255) (w : World) :
    Calls Tryz.prog 126 #[.int .u8 c] w fun e w' => e = .returned (.bool (letB c)) ∧ w = w' := by
  go_enter Tryz.func126, Tryz.ntmps126
  go_wp2_with (go_at_call 120; refine (class_any _ h0 h1 _).mono ?_; rintro e w' ⟨rfl, rfl⟩)
  all_goals (go_ret; refine ⟨ret_bool ?_, rfl⟩)
  all_goals (unfold letB; first | rfl | simp [*])

set_option maxHeartbeats 2000000 in
theorem pend_any (s : ByteArray) (hs : s.size ≤ 1000000) (k : Nat) (hk : k ≤ s.size) (w : World) :
    Calls Tryz.prog 121 #[.string s, .int .i64 k] w fun e w' => e = .returned (.int .i64 (wordEnd s k)) ∧ w = w' := by
  have HW := Lib.hid (runEnd_ok s (s.size - k) k hk (Nat.le_refl _))
  go_enter Tryz.func121, Tryz.ntmps121
  go_wp2
  go_loop [1] (fun i => ∃ m : Nat, k ≤ m ∧ m ≤ s.size ∧ i = .int .i64 m ∧ Hid (∀ i, k ≤ i → i < m → letB (atB s i) = true)) (fun i => s.size - (intOf i).toNat)
  case atStart => exact ⟨k, Nat.le_refl _, hk, rfl, Lib.hid fun i h1 h2 => by omega⟩
  case round =>
    obtain ⟨m, m1, m2, rfl, H⟩ := hrel
    by_cases hlt : m < s.size
    · have ea := Lib.hid (atB_eq s m hlt)
      have hb := s[m].toNat_lt
      by_cases hl : letB s[m].toNat = true
      · go_wp2_with (go_at_call 126; refine (pin_any _ (by omega) (by omega) _).mono ?_; rintro e w' ⟨rfl, rfl⟩)
        go_round
        case rel =>
          refine ⟨m + 1, by omega, by omega, by go_num, Lib.hid fun i h1 h2 => ?_⟩
          by_cases him : i = m
          · rw [him, ea.out]; exact hl
          · exact H.out i h1 (by omega)
        case measure => simp [intOf]; omega
      · have hl2 : letB s[m].toNat = false := by simpa using hl
        go_wp2_with (go_at_call 126; refine (pin_any _ (by omega) (by omega) _).mono ?_; rintro e w' ⟨rfl, rfl⟩)
        go_ret
        have hu : m = wordEnd s k := RunTo.unique ⟨m1, m2, H.out, .inr (by rw [ea.out]; exact hl2)⟩ HW.out
        exact ⟨ret_int (by rw [← hu]), rfl⟩
    · go_wp2
      go_ret
      have hu : m = wordEnd s k := RunTo.unique ⟨m1, m2, H.out, .inl (by omega)⟩ HW.out
      exact ⟨ret_int (by rw [← hu]), rfl⟩

/-- is it a Name's text? -/
def wordB (s : ByteArray) : Bool := decide (0 < s.size ∧ s.size ≤ 32 ∧ cls (atB s 0) = 3 ∧ wordEnd s 0 = s.size) && !inL keysL s
theorem wordB_no {s : ByteArray} (h : ¬ (0 < s.size ∧ s.size ≤ 32 ∧ cls (atB s 0) = 3 ∧ wordEnd s 0 = s.size)) : wordB s = false := by
  unfold wordB; rw [decide_eq_false h]; rfl
theorem wordB_yes {s : ByteArray} (h : 0 < s.size ∧ s.size ≤ 32 ∧ cls (atB s 0) = 3 ∧ wordEnd s 0 = s.size) : wordB s = !inL keysL s := by
  unfold wordB; rw [decide_eq_true h]; rfl
theorem empty_text {s : ByteArray} (h : s.size = 0) : s = ⟨#[]⟩ := by
  have e : s.data.toList.length = s.size := Array.length_toList
  have h0 : s.data.toList = [] := List.length_eq_zero_iff.1 (by omega)
  cases s
  exact congrArg ByteArray.mk (Array.toList_inj.1 h0)
theorem not_empty {s : ByteArray} (h : 0 < s.size) : s.toList.isEmpty = false := by
  rw [ByteArray.toList_eq]
  have e1 : s.data.toList.length = s.size := Array.length_toList
  cases hm : s.data.toList with
  | nil => rw [hm] at e1; simp at e1; omega
  | cons a b => rfl

set_option maxHeartbeats 4000000 in
set_option maxRecDepth 100000 in
theorem pword_any (s : ByteArray) (hs : s.size ≤ 1000000) (w : World) :
    Calls Tryz.prog 110 #[.string s] w fun e w' => e = .returned (.bool (wordB s)) ∧ w = w' := by
  by_cases h0 : s.size = 0
  · rw [wordB_no (by omega)]
    obtain rfl := empty_text h0
    go_enter Tryz.func110, Tryz.ntmps110
    go_wp2
    go_ret
    exact ⟨rfl, rfl⟩
  have hne := not_empty (s := s) (by omega)
  by_cases h32 : 32 < s.size
  · rw [wordB_no (by omega)]
    have q : (32 : Int) < s.size := by omega
    go_enter Tryz.func110, Tryz.ntmps110
    go_wp2
    go_ret
    exact ⟨rfl, rfl⟩
  have q : ¬ (32 : Int) < s.size := by omega
  have ea := atB_eq s 0 (by omega)
  have hb := s[0].toNat_lt
  by_cases hc : cls (atB s 0) = 3
  · rw [ea] at hc
    by_cases he : wordEnd s 0 = s.size
    · rw [wordB_yes ⟨by omega, by omega, by rw [ea]; exact hc, he⟩]
      have q2 : ((wordEnd s 0 : Int) == s.size) = true := by rw [beq_iff_eq]; omega
      have q3 : (cls s[0].toNat != 3) = false := by rw [bne_eq_false_iff_eq]; exact hc
      clear ea
      go_enter Tryz.func110, Tryz.ntmps110
      go_wp2_with fail
      refine (class_any (s[0].toNat : Int) (by omega) (by omega) _).mono ?_
      rintro e w' ⟨rfl, rfl⟩
      go_wp2_with fail
      refine (pend_any s hs 0 (Nat.zero_le _) _).mono ?_
      rintro e w' ⟨rfl, rfl⟩
      go_wp2_with fail
      refine (pkey_any s _).mono ?_
      rintro e w' ⟨rfl, rfl⟩
      go_wp2
      go_ret
      exact ⟨rfl, rfl⟩
    · rw [wordB_no (fun h => he h.2.2.2)]
      have q2 : ((wordEnd s 0 : Int) == s.size) = false := by rw [beq_eq_false_iff_ne]; omega
      have q3 : (cls s[0].toNat != 3) = false := by rw [bne_eq_false_iff_eq]; exact hc
      clear ea
      go_enter Tryz.func110, Tryz.ntmps110
      go_wp2_with fail
      refine (class_any (s[0].toNat : Int) (by omega) (by omega) _).mono ?_
      rintro e w' ⟨rfl, rfl⟩
      go_wp2_with fail
      refine (pend_any s hs 0 (Nat.zero_le _) _).mono ?_
      rintro e w' ⟨rfl, rfl⟩
      go_wp2
      go_ret
      exact ⟨rfl, rfl⟩
  · rw [wordB_no (fun h => hc h.2.2.1)]
    rw [ea] at hc
    have q3 : (cls s[0].toNat != 3) = true := by rw [bne_iff_ne]; exact hc
    clear ea
    go_enter Tryz.func110, Tryz.ntmps110
    go_wp2_with fail
    refine (class_any (s[0].toNat : Int) (by omega) (by omega) _).mono ?_
    rintro e w' ⟨rfl, rfl⟩
    go_wp2
    go_ret
    exact ⟨rfl, rfl⟩

/-- is it a Name that may stand in a tree? -/
def nameB (s : ByteArray) : Bool := !(s.toList == [95]) && wordB s
set_option maxHeartbeats 2000000 in
theorem pisname_any (s : ByteArray) (hs : s.size ≤ 1000000) (w : World) :
    Calls Tryz.prog 94 #[.string s] w fun e w' => e = .returned (.bool (nameB s)) ∧ w = w' := by
  unfold nameB
  by_cases h : (s.toList == [95]) = true
  · rw [h]
    go_enter Tryz.func94, Tryz.ntmps94
    go_wp2
    go_ret
    exact ⟨rfl, rfl⟩
  · have h' : (s.toList == [95]) = false := by simpa using h
    rw [h']
    go_enter Tryz.func94, Tryz.ntmps94
    go_wp2_with (go_at_call 110; refine (pword_any s hs _).mono ?_; rintro e w' ⟨rfl, rfl⟩)
    go_ret
    exact ⟨rfl, rfl⟩
end Go.Proofs.YtdiffpiapdghoaaGreatDoor
