/- Texts of this proof, joined: Views, FewT, FewP. No condition. -/
import Derived.Test.YtkdhoelabomgkaaGreatDoorMa00
import Derived.WalkKit
import Derived.ProofKit
import Derived.Lib.Hide
import Derived.Deep.QuietTactic
import Derived.BigQuiet
import Derived.WalkSmall
import Derived.Laws.OwnMore
/-
  Layer 3: patterns, expressions, declarations as they lie in memory. No walk.
-/
namespace Go.Proofs.YtkdhoelabomgkaaGreatDoor
set_option linter.unusedVariables false
open Go.RowKit

theorem IsRow.split {P : Nat → Prop} {w : World} : ∀ (r1 r2 : List Dt) (a : Addr), IsRow w P (r1 ++ r2) a → IsRow w P r1 a ∧ IsRow w P r2 (a.add r1.length)
  | [], r2, a, h => ⟨by unfold IsRow; trivial, by rw [show ([] : List Dt).length = 0 from rfl, add_zero2]; exact h⟩
  | d :: r, r2, a, h => by
    have h : IsRow w P (d :: (r ++ r2)) a := h
    unfold IsRow at h
    obtain ⟨h1, h2⟩ := h
    obtain ⟨i1, i2⟩ := IsRow.split r r2 (a.add 1) h2
    refine ⟨by unfold IsRow; exact ⟨h1, i1⟩, ?_⟩
    rw [add_add2] at i2
    rw [List.length_cons, Nat.add_comm]
    exact i2
theorem Ty.row_len (t : Ty) : t.row.length = 4 := by cases t; unfold Ty.row; rfl
theorem Pa.row_len (t : Pa) : t.row.length = 5 := by cases t; unfold Pa.row; rfl
theorem Ex.row_len (t : Ex) : t.row.length = 8 := by cases t; unfold Ex.row; rfl
theorem Al.row_len (t : Al) : t.row.length = 13 := by cases t; unfold Al.row; rw [List.length_append, Pa.row_len, Ex.row_len]
theorem De.row_len (t : De) : t.row.length = 18 := by cases t; unfold De.row; simp only [List.length_append, List.length_cons, List.length_nil, Ty.row_len, Ex.row_len]
/-- a slice of rows: its form -/
theorem rows_form {P : Nat → Prop} {w : World} {v : Value} {α : Type} {sz : Nat} {l : List α} {f : α → List Dt} (h : IsC w P (.l sz (l.map f)) v) : ∃ ao cap, v = .slice ao l.length cap ∧ l.length ≤ cap ∧ cap ≤ maxLen := by
  unfold IsC at h
  rw [List.length_map] at h
  rcases h with ⟨rfl, h1⟩ | ⟨a, cap, rfl, h2, h3, _, _⟩
  · have : l = [] := List.map_eq_nil_iff.1 h1
    subst this
    exact ⟨none, 0, rfl, Nat.le_refl _, Nat.zero_le _⟩
  · exact ⟨some a, cap, rfl, h2, h3⟩
/-- .. its k-th row -/
theorem rows_at {P : Nat → Prop} {w : World} {ao : Option Addr} {n cap : Nat} {α : Type} {sz : Nat} {l : List α} {f : α → List Dt} (h : IsC w P (.l sz (l.map f)) (.slice ao n cap)) {k : Nat} {t : α} (hk : l[k]? = some t) :
    ∃ a, ao = some a ∧ n = l.length ∧ IsRow w P (f t) (a.add (k * sz)) := by
  unfold IsC at h
  rw [List.length_map] at h
  rcases h with ⟨h1, h0⟩ | ⟨a, cap', h1, h2, h3, hpp, h4⟩
  · have : l = [] := List.map_eq_nil_iff.1 h0
    subst this
    simp at hk
  · injection h1 with e1 e2 _
    exact ⟨a, e1, e2, h4.get _ a k _ (by rw [List.getElem?_map, hk]; rfl)⟩

structure IsPas (w : World) (P : Nat → Prop) (v : Value) (l : List Pa) : Prop where
  out : IsC w P (.l 5 (l.map Pa.row)) v
structure IsPa (w : World) (P : Nat → Prop) (a : Addr) (t : Pa) : Prop where
  out : IsRow w P (Pa.row t) a
theorem IsPas.on {P : Nat → Prop} {w w' : World} {v : Value} {l : List Pa} (h : IsPas w P v l) (hb : Below w.heap.size w w') : IsPas w' P v l := ⟨IsC.on hb _ _ h.out⟩
theorem IsPa.on {P : Nat → Prop} {w w' : World} {a : Addr} {t : Pa} (h : IsPa w P a t) (hb : Below w.heap.size w w') : IsPa w' P a t := ⟨IsRow.on hb _ _ h.out⟩
theorem IsPas.form {P : Nat → Prop} {w : World} {v : Value} {l : List Pa} (h : IsPas w P v l) : ∃ ao cap, v = .slice ao l.length cap ∧ l.length ≤ cap ∧ cap ≤ maxLen := rows_form h.out
theorem IsPas.at {P : Nat → Prop} {w : World} {ao : Option Addr} {n cap : Nat} {l : List Pa} (h : IsPas w P (.slice ao n cap) l) {k : Nat} {t : Pa} (hk : l[k]? = some t) :
    ∃ a, ao = some a ∧ n = l.length ∧ IsPa w P (a.add (k * 5)) t := by
  obtain ⟨a, h1, h2, h3⟩ := rows_at h.out hk
  exact ⟨a, h1, h2, ⟨h3⟩⟩
structure IsExs (w : World) (P : Nat → Prop) (v : Value) (l : List Ex) : Prop where
  out : IsC w P (.l 8 (l.map Ex.row)) v
structure IsEx (w : World) (P : Nat → Prop) (a : Addr) (t : Ex) : Prop where
  out : IsRow w P (Ex.row t) a
theorem IsExs.on {P : Nat → Prop} {w w' : World} {v : Value} {l : List Ex} (h : IsExs w P v l) (hb : Below w.heap.size w w') : IsExs w' P v l := ⟨IsC.on hb _ _ h.out⟩
theorem IsEx.on {P : Nat → Prop} {w w' : World} {a : Addr} {t : Ex} (h : IsEx w P a t) (hb : Below w.heap.size w w') : IsEx w' P a t := ⟨IsRow.on hb _ _ h.out⟩
theorem IsExs.form {P : Nat → Prop} {w : World} {v : Value} {l : List Ex} (h : IsExs w P v l) : ∃ ao cap, v = .slice ao l.length cap ∧ l.length ≤ cap ∧ cap ≤ maxLen := rows_form h.out
theorem IsExs.at {P : Nat → Prop} {w : World} {ao : Option Addr} {n cap : Nat} {l : List Ex} (h : IsExs w P (.slice ao n cap) l) {k : Nat} {t : Ex} (hk : l[k]? = some t) :
    ∃ a, ao = some a ∧ n = l.length ∧ IsEx w P (a.add (k * 8)) t := by
  obtain ⟨a, h1, h2, h3⟩ := rows_at h.out hk
  exact ⟨a, h1, h2, ⟨h3⟩⟩
structure IsAls (w : World) (P : Nat → Prop) (v : Value) (l : List Al) : Prop where
  out : IsC w P (.l 13 (l.map Al.row)) v
structure IsAl (w : World) (P : Nat → Prop) (a : Addr) (t : Al) : Prop where
  out : IsRow w P (Al.row t) a
theorem IsAls.on {P : Nat → Prop} {w w' : World} {v : Value} {l : List Al} (h : IsAls w P v l) (hb : Below w.heap.size w w') : IsAls w' P v l := ⟨IsC.on hb _ _ h.out⟩
theorem IsAl.on {P : Nat → Prop} {w w' : World} {a : Addr} {t : Al} (h : IsAl w P a t) (hb : Below w.heap.size w w') : IsAl w' P a t := ⟨IsRow.on hb _ _ h.out⟩
theorem IsAls.form {P : Nat → Prop} {w : World} {v : Value} {l : List Al} (h : IsAls w P v l) : ∃ ao cap, v = .slice ao l.length cap ∧ l.length ≤ cap ∧ cap ≤ maxLen := rows_form h.out
theorem IsAls.at {P : Nat → Prop} {w : World} {ao : Option Addr} {n cap : Nat} {l : List Al} (h : IsAls w P (.slice ao n cap) l) {k : Nat} {t : Al} (hk : l[k]? = some t) :
    ∃ a, ao = some a ∧ n = l.length ∧ IsAl w P (a.add (k * 13)) t := by
  obtain ⟨a, h1, h2, h3⟩ := rows_at h.out hk
  exact ⟨a, h1, h2, ⟨h3⟩⟩
structure IsDes (w : World) (P : Nat → Prop) (v : Value) (l : List De) : Prop where
  out : IsC w P (.l 18 (l.map De.row)) v
structure IsDe (w : World) (P : Nat → Prop) (a : Addr) (t : De) : Prop where
  out : IsRow w P (De.row t) a
theorem IsDes.on {P : Nat → Prop} {w w' : World} {v : Value} {l : List De} (h : IsDes w P v l) (hb : Below w.heap.size w w') : IsDes w' P v l := ⟨IsC.on hb _ _ h.out⟩
theorem IsDe.on {P : Nat → Prop} {w w' : World} {a : Addr} {t : De} (h : IsDe w P a t) (hb : Below w.heap.size w w') : IsDe w' P a t := ⟨IsRow.on hb _ _ h.out⟩
theorem IsDes.form {P : Nat → Prop} {w : World} {v : Value} {l : List De} (h : IsDes w P v l) : ∃ ao cap, v = .slice ao l.length cap ∧ l.length ≤ cap ∧ cap ≤ maxLen := rows_form h.out
theorem IsDes.at {P : Nat → Prop} {w : World} {ao : Option Addr} {n cap : Nat} {l : List De} (h : IsDes w P (.slice ao n cap) l) {k : Nat} {t : De} (hk : l[k]? = some t) :
    ∃ a, ao = some a ∧ n = l.length ∧ IsDe w P (a.add (k * 18)) t := by
  obtain ⟨a, h1, h2, h3⟩ := rows_at h.out hk
  exact ⟨a, h1, h2, ⟨h3⟩⟩
structure IsCos (w : World) (P : Nat → Prop) (v : Value) (l : List Co) : Prop where
  out : IsC w P (.l 3 (l.map Co.row)) v
structure IsCo (w : World) (P : Nat → Prop) (a : Addr) (t : Co) : Prop where
  out : IsRow w P (Co.row t) a
theorem IsCos.on {P : Nat → Prop} {w w' : World} {v : Value} {l : List Co} (h : IsCos w P v l) (hb : Below w.heap.size w w') : IsCos w' P v l := ⟨IsC.on hb _ _ h.out⟩
theorem IsCo.on {P : Nat → Prop} {w w' : World} {a : Addr} {t : Co} (h : IsCo w P a t) (hb : Below w.heap.size w w') : IsCo w' P a t := ⟨IsRow.on hb _ _ h.out⟩
theorem IsCos.form {P : Nat → Prop} {w : World} {v : Value} {l : List Co} (h : IsCos w P v l) : ∃ ao cap, v = .slice ao l.length cap ∧ l.length ≤ cap ∧ cap ≤ maxLen := rows_form h.out
theorem IsCos.at {P : Nat → Prop} {w : World} {ao : Option Addr} {n cap : Nat} {l : List Co} (h : IsCos w P (.slice ao n cap) l) {k : Nat} {t : Co} (hk : l[k]? = some t) :
    ∃ a, ao = some a ∧ n = l.length ∧ IsCo w P (a.add (k * 3)) t := by
  obtain ⟨a, h1, h2, h3⟩ := rows_at h.out hk
  exact ⟨a, h1, h2, ⟨h3⟩⟩
structure IsTxs (w : World) (P : Nat → Prop) (v : Value) (l : List ByteArray) : Prop where
  out : IsC w P (.l 1 (l.map (fun v => [Dt.s v]))) v
structure IsTx (w : World) (P : Nat → Prop) (a : Addr) (t : ByteArray) : Prop where
  out : IsRow w P ((fun v => [Dt.s v]) t) a
theorem IsTxs.on {P : Nat → Prop} {w w' : World} {v : Value} {l : List ByteArray} (h : IsTxs w P v l) (hb : Below w.heap.size w w') : IsTxs w' P v l := ⟨IsC.on hb _ _ h.out⟩
theorem IsTx.on {P : Nat → Prop} {w w' : World} {a : Addr} {t : ByteArray} (h : IsTx w P a t) (hb : Below w.heap.size w w') : IsTx w' P a t := ⟨IsRow.on hb _ _ h.out⟩
theorem IsTxs.form {P : Nat → Prop} {w : World} {v : Value} {l : List ByteArray} (h : IsTxs w P v l) : ∃ ao cap, v = .slice ao l.length cap ∧ l.length ≤ cap ∧ cap ≤ maxLen := rows_form h.out
theorem IsTxs.at {P : Nat → Prop} {w : World} {ao : Option Addr} {n cap : Nat} {l : List ByteArray} (h : IsTxs w P (.slice ao n cap) l) {k : Nat} {t : ByteArray} (hk : l[k]? = some t) :
    ∃ a, ao = some a ∧ n = l.length ∧ IsTx w P (a.add (k * 1)) t := by
  obtain ⟨a, h1, h2, h3⟩ := rows_at h.out hk
  exact ⟨a, h1, h2, ⟨h3⟩⟩

/-- a pattern's cells -/
theorem IsPa.cells {P : Nat → Prop} {w : World} {E : Addr} {k p m : Int} {n : ByteArray} {l : List Pa} (h : IsPa w P E (.mk k p n m l)) :
    w.cell? E = some (.int .i64 k) ∧ w.cell? ⟨E.block, E.off + 1, none⟩ = some (.int .i64 p) ∧ w.cell? ⟨E.block, E.off + 2, none⟩ = some (.string n) ∧ n.size ≤ maxLen ∧ w.cell? ⟨E.block, E.off + 3, none⟩ = some (.int .i64 m) ∧
      ∃ ao cap, w.cell? ⟨E.block, E.off + 4, none⟩ = some (.slice ao l.length cap) ∧ l.length ≤ cap ∧ cap ≤ maxLen ∧ IsPas w P (.slice ao l.length cap) l := by
  have h := h.out
  unfold Pa.row at h
  unfold IsRow at h
  obtain ⟨⟨v0, c0, h0⟩, h⟩ := h
  unfold IsRow at h
  obtain ⟨⟨v1, c1, h1⟩, h⟩ := h
  unfold IsRow at h
  obtain ⟨⟨v2, c2, h2⟩, h⟩ := h
  unfold IsRow at h
  obtain ⟨⟨v3, c3, h3⟩, h⟩ := h
  unfold IsRow at h
  obtain ⟨⟨v4, c4, h4⟩, h⟩ := h
  simp only [add_add2, Nat.reduceAdd] at c1 c2 c3 c4
  rw [add_off _ _ (by decide)] at c1 c2 c3 c4
  rw [Pa.rows_map] at h4
  unfold IsC at h0 h1 h2 h3
  obtain ⟨h2, h2'⟩ := h2
  subst h0 h1 h2 h3
  obtain ⟨ao, cap, rfl, x1, x2⟩ := IsPas.form ⟨h4⟩
  exact ⟨c0, c1, c2, h2', c3, ao, cap, c4, x1, x2, ⟨h4⟩⟩
/-- an expression's cells -/
theorem IsEx.cells {P : Nat → Prop} {w : World} {E : Addr} {k p m : Int} {n : ByteArray} {l : List Ex} {ps : List Pa} {al : List Al} {ds : List De} (h : IsEx w P E (.mk k p n m l ps al ds)) :
    w.cell? E = some (.int .i64 k) ∧ w.cell? ⟨E.block, E.off + 1, none⟩ = some (.int .i64 p) ∧ w.cell? ⟨E.block, E.off + 2, none⟩ = some (.string n) ∧ n.size ≤ maxLen ∧ w.cell? ⟨E.block, E.off + 3, none⟩ = some (.int .i64 m) ∧
      (∃ ao cap, w.cell? ⟨E.block, E.off + 4, none⟩ = some (.slice ao l.length cap) ∧ l.length ≤ cap ∧ cap ≤ maxLen ∧ IsExs w P (.slice ao l.length cap) l) ∧
      (∃ ao cap, w.cell? ⟨E.block, E.off + 5, none⟩ = some (.slice ao ps.length cap) ∧ ps.length ≤ cap ∧ cap ≤ maxLen ∧ IsPas w P (.slice ao ps.length cap) ps) ∧
      (∃ ao cap, w.cell? ⟨E.block, E.off + 6, none⟩ = some (.slice ao al.length cap) ∧ al.length ≤ cap ∧ cap ≤ maxLen ∧ IsAls w P (.slice ao al.length cap) al) ∧
      (∃ ao cap, w.cell? ⟨E.block, E.off + 7, none⟩ = some (.slice ao ds.length cap) ∧ ds.length ≤ cap ∧ cap ≤ maxLen ∧ IsDes w P (.slice ao ds.length cap) ds) := by
  have h := h.out
  unfold Ex.row at h
  unfold IsRow at h
  obtain ⟨⟨v0, c0, h0⟩, h⟩ := h
  unfold IsRow at h
  obtain ⟨⟨v1, c1, h1⟩, h⟩ := h
  unfold IsRow at h
  obtain ⟨⟨v2, c2, h2⟩, h⟩ := h
  unfold IsRow at h
  obtain ⟨⟨v3, c3, h3⟩, h⟩ := h
  unfold IsRow at h
  obtain ⟨⟨v4, c4, h4⟩, h⟩ := h
  unfold IsRow at h
  obtain ⟨⟨v5, c5, h5⟩, h⟩ := h
  unfold IsRow at h
  obtain ⟨⟨v6, c6, h6⟩, h⟩ := h
  unfold IsRow at h
  obtain ⟨⟨v7, c7, h7⟩, h⟩ := h
  simp only [add_add2, Nat.reduceAdd] at c1 c2 c3 c4 c5 c6 c7
  rw [add_off _ _ (by decide)] at c1 c2 c3 c4 c5 c6 c7
  rw [Ex.rows_map] at h4
  rw [Pa.rows_map] at h5
  rw [Al.rows_map] at h6
  rw [De.rows_map] at h7
  unfold IsC at h0 h1 h2 h3
  obtain ⟨h2, h2'⟩ := h2
  subst h0 h1 h2 h3
  obtain ⟨a4, b4, rfl, x1, x2⟩ := IsExs.form ⟨h4⟩
  obtain ⟨a5, b5, rfl, x3, x4⟩ := IsPas.form ⟨h5⟩
  obtain ⟨a6, b6, rfl, x5, x6⟩ := IsAls.form ⟨h6⟩
  obtain ⟨a7, b7, rfl, x7, x8⟩ := IsDes.form ⟨h7⟩
  exact ⟨c0, c1, c2, h2', c3, ⟨a4, b4, c4, x1, x2, ⟨h4⟩⟩, ⟨a5, b5, c5, x3, x4, ⟨h5⟩⟩, ⟨a6, b6, c6, x5, x6, ⟨h6⟩⟩, ⟨a7, b7, c7, x7, x8, ⟨h7⟩⟩⟩
/-- a way's parts -/
theorem IsAl.parts {P : Nat → Prop} {w : World} {E : Addr} {p : Pa} {e : Ex} (h : IsAl w P E (.mk p e)) : IsPa w P E p ∧ IsEx w P (E.add 5) e := by
  have h := h.out
  unfold Al.row at h
  obtain ⟨h1, h2⟩ := IsRow.split _ _ _ h
  rw [Pa.row_len] at h2
  exact ⟨⟨h1⟩, ⟨h2⟩⟩
/-- a con's cells -/
theorem IsCo.cells {P : Nat → Prop} {w : World} {E : Addr} {c : Co} (h : IsCo w P E c) :
    w.cell? E = some (.int .i64 c.at_) ∧ w.cell? ⟨E.block, E.off + 1, none⟩ = some (.string c.name) ∧ c.name.size ≤ maxLen ∧
      ∃ ao cap, w.cell? ⟨E.block, E.off + 2, none⟩ = some (.slice ao c.args.length cap) ∧ c.args.length ≤ cap ∧ cap ≤ maxLen ∧ IsTys w P (.slice ao c.args.length cap) c.args := by
  have h := h.out
  unfold Co.row at h
  unfold IsRow at h
  obtain ⟨⟨v0, c0, h0⟩, h⟩ := h
  unfold IsRow at h
  obtain ⟨⟨v1, c1, h1⟩, h⟩ := h
  unfold IsRow at h
  obtain ⟨⟨v2, c2, h2⟩, h⟩ := h
  simp only [add_add2, Nat.reduceAdd] at c1 c2
  rw [add_off _ _ (by decide)] at c1 c2
  unfold IsC at h0 h1
  obtain ⟨h1, h1'⟩ := h1
  subst h0 h1
  obtain ⟨ao, cap, rfl, x1, x2⟩ := IsTys.form ⟨h2⟩
  exact ⟨c0, c1, h1', ao, cap, c2, x1, x2, ⟨h2⟩⟩
/-- a text's cell -/
theorem IsTx.cell {P : Nat → Prop} {w : World} {E : Addr} {t : ByteArray} (h : IsTx w P E t) : w.cell? E = some (.string t) ∧ t.size ≤ maxLen := by
  have h := h.out
  unfold IsRow at h
  obtain ⟨⟨v0, c0, h0⟩, h⟩ := h
  unfold IsC at h0
  obtain ⟨rfl, h1⟩ := h0
  exact ⟨c0, h1⟩
/-- a declaration's cells and parts -/
theorem IsDe.cells {P : Nat → Prop} {w : World} {E : Addr} {k p : Int} {n : ByteArray} {vs : List ByteArray} {cs : List Co} {t : Ty} {ps : List Pa} {e : Ex} (h : IsDe w P E (.mk k p n vs cs t ps e)) :
    w.cell? E = some (.int .i64 k) ∧ w.cell? ⟨E.block, E.off + 1, none⟩ = some (.int .i64 p) ∧ w.cell? ⟨E.block, E.off + 2, none⟩ = some (.string n) ∧ n.size ≤ maxLen ∧
      (∃ ao cap, w.cell? ⟨E.block, E.off + 3, none⟩ = some (.slice ao vs.length cap) ∧ vs.length ≤ cap ∧ cap ≤ maxLen ∧ IsTxs w P (.slice ao vs.length cap) vs) ∧
      (∃ ao cap, w.cell? ⟨E.block, E.off + 4, none⟩ = some (.slice ao cs.length cap) ∧ cs.length ≤ cap ∧ cap ≤ maxLen ∧ IsCos w P (.slice ao cs.length cap) cs) ∧
      IsTy w P (E.add 5) t ∧
      (∃ ao cap, w.cell? ⟨E.block, E.off + 9, none⟩ = some (.slice ao ps.length cap) ∧ ps.length ≤ cap ∧ cap ≤ maxLen ∧ IsPas w P (.slice ao ps.length cap) ps) ∧
      IsEx w P (E.add 10) e := by
  have h := h.out
  unfold De.row at h
  obtain ⟨h, hr⟩ := IsRow.split _ _ _ h
  obtain ⟨ht, hr⟩ := IsRow.split _ _ _ hr
  rw [Ty.row_len] at hr
  unfold IsRow at hr
  obtain ⟨⟨v9, c9, h9⟩, he⟩ := hr
  unfold IsRow at h
  obtain ⟨⟨v0, c0, h0⟩, h⟩ := h
  unfold IsRow at h
  obtain ⟨⟨v1, c1, h1⟩, h⟩ := h
  unfold IsRow at h
  obtain ⟨⟨v2, c2, h2⟩, h⟩ := h
  unfold IsRow at h
  obtain ⟨⟨v3, c3, h3⟩, h⟩ := h
  unfold IsRow at h
  obtain ⟨⟨v4, c4, h4⟩, h⟩ := h
  simp only [add_add2, List.length_cons, List.length_nil, Nat.reduceAdd] at c1 c2 c3 c4 c9 ht he
  rw [add_off _ _ (by decide)] at c1 c2 c3 c4 c9
  rw [Pa.rows_map] at h9
  unfold IsC at h0 h1 h2
  obtain ⟨h2, h2'⟩ := h2
  subst h0 h1 h2
  obtain ⟨a3, b3, rfl, x1, x2⟩ := IsTxs.form ⟨h3⟩
  obtain ⟨a4, b4, rfl, x3, x4⟩ := IsCos.form ⟨h4⟩
  obtain ⟨a9, b9, rfl, x5, x6⟩ := IsPas.form ⟨h9⟩
  exact ⟨c0, c1, c2, h2', ⟨a3, b3, c3, x1, x2, ⟨h3⟩⟩, ⟨a4, b4, c4, x3, x4, ⟨h4⟩⟩, ⟨ht⟩, ⟨a9, b9, c9, x5, x6, ⟨h9⟩⟩, ⟨he⟩⟩
end Go.Proofs.YtkdhoelabomgkaaGreatDoor
/-
  Layer 3, the law's side: fewTypes.
-/
namespace Go.Proofs.YtkdhoelabomgkaaGreatDoor
set_option linter.unusedVariables false
open Go.ChangeShapes Go.WideShapes Go.ChangeAt Go.RowKit

theorem Ty.fews_neg (l : List Ty) (x : Int) (h : x < 0) : Ty.fews l x = x := by
  cases l with
  | nil => rfl
  | cons t r => unfold Ty.fews; rw [if_pos h]
theorem Ty.fews_step (l : List Ty) (k : Nat) (t : Ty) (h : l[k]? = some t) (x : Int) (hx : 0 ≤ x) : Ty.fews (l.drop k) x = Ty.fews (l.drop (k + 1)) (t.few x) := by
  obtain ⟨hlt, he⟩ := List.getElem?_eq_some_iff.1 h
  rw [List.drop_eq_getElem_cons hlt, he]
  conv => lhs; unfold Ty.fews
  rw [if_neg (by omega)]
theorem drew_below (w : World) (n : Nat) : Below w.heap.size w (w.drewN n) := ⟨rfl, rfl, rfl, Nat.le_refl _, fun _ _ => rfl⟩
theorem quo_100 (n : Nat) (h : n ≤ maxLen) : 0 ≤ (n : Int) / 100 ∧ (n : Int) / 100 ≤ 92233720368547758 := by
  have : (n : Int) ≤ 9223372036854775807 := by unfold maxLen at h; omega
  omega

set_option maxHeartbeats 8000000 in
set_option maxRecDepth 100000 in
theorem fewT_any : ∀ (z : Nat) (l : List Ty), Ty.wts l ≤ z → ∀ (v : Value) (x : Int) (w : World), IsTys w Any v l →
    Calls Tryz.prog 7 #[v, .int .i64 x] w fun e w' => e = .returned (.int .i64 (Ty.fews l x)) ∧ ∃ n, w' = w.drewN n := by
  intro z
  induction z with
  | zero => intro l hz; cases l <;> (unfold Ty.wts at hz; omega)
  | succ z ih =>
    intro l hz v x w hv
    obtain ⟨ao, cap, rfl, v1, v2⟩ := hv.form
    have hlm : (l.length : Int) ≤ 9223372036854775807 := by unfold maxLen at v2; omega
    have HI := Lib.hid ih
    clear ih
    go_enter Tryz.func7, Tryz.ntmps7
    go_wp2
    go_loopw [1, 5] (fun lv iv wr => ∃ (k : Nat) (y : Int), k ≤ l.length ∧ iv = .int .i64 k ∧ lv = .int .i64 y ∧ Hid (Ty.fews l x = Ty.fews (l.drop k) y) ∧ Hid (∃ n, wr = w.drewN n)) (fun _ iv _ => l.length - (intOf iv).toNat)
    case atStart => exact ⟨0, x, Nat.zero_le _, rfl, rfl, Lib.hid (by rw [List.drop_zero]), Lib.hid ⟨0, rfl⟩⟩
    case round =>
      obtain ⟨k, y, hk, rfl, rfl, H, HW⟩ := hrel
      by_cases hlt : k < l.length
      · have k1 : (k : Int) < l.length := by omega
        by_cases hy : y < 0
        · have q : ¬ (0 : Int) ≤ y := by omega
          have HN := Lib.hid (H.out.trans (Ty.fews_neg _ y hy))
          clear hy
          go_wp2
          go_ret
          exact ⟨by rw [HN.out]; rfl, HW.out⟩
        · have q : (0 : Int) ≤ y := by omega
          obtain ⟨t, ht⟩ : ∃ t, l[k]? = some t := ⟨l[k], List.getElem?_eq_getElem hlt⟩
          have hst := Ty.fews_step l k t ht y q
          have hsz := Ty.wts_get l k t ht
          obtain ⟨a, rfl, _, hrow⟩ := hv.at ht
          have hrow := hrow.on (show Below w.heap.size w wr by obtain ⟨n, e⟩ := HW.out; rw [e]; exact drew_below w n)
          obtain ⟨tk, tp, tn, ta⟩ := t
          obtain ⟨c0, c1, c2, c2', bo, bcap, c3, b1, b2, hargs⟩ := hrow.cells
          have HH := Lib.hid (H.out.trans hst)
          obtain ⟨hnb0, hnb⟩ := quo_100 tn.size c2'
          have HC := Lib.hid (HI.out ta (by unfold Ty.wt at hsz; omega))
          have HA := Lib.hid hargs
          clear hst hsz hrow hy hv hargs ht HI H
          go_wp2
          have hcall := Lib.hid fun m => HC.out _ (wrap64 (wrap64 (y - 1) - (tn.size : Int) / 100)) (wr.drewN m) (HA.out.on (drew_below wr m))
          go_quiet ((go_at_call 7; exact Calls.quiet_of (hcall.out _)))
          go_wp2
          go_roundw
          case rel => exact ⟨k + 1, _, by omega, by go_num, rfl, HH, Lib.hid (by obtain ⟨n, e⟩ := HW.out; exact ⟨n + nq, by rw [e, World.drewN_drewN]⟩)⟩
          case measure => simp [intOf]; omega
      · have hkk : k = l.length := by omega
        have k1 : ¬ (k : Int) < l.length := by omega
        have HN : Hid (Ty.fews l x = y) := Lib.hid (H.out.trans (by rw [hkk, List.drop_length]; rfl))
        go_wp2
        go_ret
        exact ⟨by rw [HN.out]; rfl, HW.out⟩
end Go.Proofs.YtkdhoelabomgkaaGreatDoor
/-
  Layer 3, the law's side: fewPats.
-/
namespace Go.Proofs.YtkdhoelabomgkaaGreatDoor
set_option linter.unusedVariables false
open Go.ChangeShapes Go.WideShapes Go.ChangeAt Go.RowKit

theorem Pa.fews_neg (l : List Pa) (x : Int) (h : x < 0) : Pa.fews l x = x := by
  cases l with
  | nil => rfl
  | cons t r => unfold Pa.fews; rw [if_pos h]
theorem Pa.fews_step (l : List Pa) (k : Nat) (t : Pa) (h : l[k]? = some t) (x : Int) (hx : 0 ≤ x) : Pa.fews (l.drop k) x = Pa.fews (l.drop (k + 1)) (t.few x) := by
  obtain ⟨hlt, he⟩ := List.getElem?_eq_some_iff.1 h
  rw [List.drop_eq_getElem_cons hlt, he]
  conv => lhs; unfold Pa.fews
  rw [if_neg (by omega)]
set_option maxHeartbeats 8000000 in
set_option maxRecDepth 100000 in
theorem fewP_any : ∀ (z : Nat) (l : List Pa), Pa.wts l ≤ z → ∀ (v : Value) (x : Int) (w : World), IsPas w Any v l →
    Calls Tryz.prog 52 #[v, .int .i64 x] w fun e w' => e = .returned (.int .i64 (Pa.fews l x)) ∧ ∃ n, w' = w.drewN n := by
  intro z
  induction z with
  | zero => intro l hz; cases l <;> (unfold Pa.wts at hz; omega)
  | succ z ih =>
    intro l hz v x w hv
    obtain ⟨ao, cap, rfl, v1, v2⟩ := hv.form
    have hlm : (l.length : Int) ≤ 9223372036854775807 := by unfold maxLen at v2; omega
    have HI := Lib.hid ih
    clear ih
    go_enter Tryz.func52, Tryz.ntmps52
    go_wp2
    go_loopw [1, 5] (fun lv iv wr => ∃ (k : Nat) (y : Int), k ≤ l.length ∧ iv = .int .i64 k ∧ lv = .int .i64 y ∧ Hid (Pa.fews l x = Pa.fews (l.drop k) y) ∧ Hid (∃ n, wr = w.drewN n)) (fun _ iv _ => l.length - (intOf iv).toNat)
    case atStart => exact ⟨0, x, Nat.zero_le _, rfl, rfl, Lib.hid (by rw [List.drop_zero]), Lib.hid ⟨0, rfl⟩⟩
    case round =>
      obtain ⟨k, y, hk, rfl, rfl, H, HW⟩ := hrel
      by_cases hlt : k < l.length
      · have k1 : (k : Int) < l.length := by omega
        by_cases hy : y < 0
        · have q : ¬ (0 : Int) ≤ y := by omega
          have HN := Lib.hid (H.out.trans (Pa.fews_neg _ y hy))
          clear hy
          go_wp2
          go_ret
          exact ⟨by rw [HN.out]; rfl, HW.out⟩
        · have q : (0 : Int) ≤ y := by omega
          obtain ⟨t, ht⟩ : ∃ t, l[k]? = some t := ⟨l[k], List.getElem?_eq_getElem hlt⟩
          have hst := Pa.fews_step l k t ht y q
          have hsz := Pa.wts_get l k t ht
          obtain ⟨a, rfl, _, hrow⟩ := hv.at ht
          have hrow := hrow.on (show Below w.heap.size w wr by obtain ⟨n, e⟩ := HW.out; rw [e]; exact drew_below w n)
          obtain ⟨tk, tp, tn, tm, ta⟩ := t
          obtain ⟨c0, c1, c2, c2', c3, bo, bcap, c4, b1, b2, hargs⟩ := hrow.cells
          have HH := Lib.hid (H.out.trans hst)
          obtain ⟨hnb0, hnb⟩ := quo_100 tn.size c2'
          have HC := Lib.hid (HI.out ta (by unfold Pa.wt at hsz; omega))
          have HA := Lib.hid hargs
          clear hst hsz hrow hy hv hargs ht HI H
          go_wp2
          have hcall := Lib.hid fun m => HC.out _ (wrap64 (wrap64 (y - 1) - (tn.size : Int) / 100)) (wr.drewN m) (HA.out.on (drew_below wr m))
          go_quiet ((go_at_call 52; exact Calls.quiet_of (hcall.out _)))
          go_wp2
          go_roundw
          case rel => exact ⟨k + 1, _, by omega, by go_num, rfl, HH, Lib.hid (by obtain ⟨n, e⟩ := HW.out; exact ⟨n + nq, by rw [e, World.drewN_drewN]⟩)⟩
          case measure => simp [intOf]; omega
      · have hkk : k = l.length := by omega
        have k1 : ¬ (k : Int) < l.length := by omega
        have HN : Hid (Pa.fews l x = y) := Lib.hid (H.out.trans (by rw [hkk, List.drop_length]; rfl))
        go_wp2
        go_ret
        exact ⟨by rw [HN.out]; rfl, HW.out⟩
end Go.Proofs.YtkdhoelabomgkaaGreatDoor
