/-
  Layer 2, the program's side: Join.
-/
import Derived.Test.YtifmbhcajlnhbaaDoorPShow2
namespace Go.Proofs.YtifmbhcajlnhbaaDoor
set_option linter.unusedVariables false
open Go.ChangeShapes Go.WideShapes Go.ChangeAt Go.RowKit

/-- a slice of tokens as an argument -/
def TwArg (w : World) (v : Value) (l : List Tw) : Prop := (v = .slice none 0 0 ∧ l = []) ∨ ∃ a cap, v = .slice (some a) l.length cap ∧ TwRows w a l
theorem TwRows.on {w w' : World} {a : Addr} {l : List Tw} (h : TwRows w a l) (hb : Below w.heap.size w w') : TwRows w' a l := fun i t ht => by
  obtain ⟨h1, h2, h3, h4, h5⟩ := h i t ht
  have hB : a.block < w.heap.size := by have := Lib.lt_of_cell h1; rw [add_block] at this; exact this
  refine ⟨(hb.cell ?_).trans h1, (hb.cell ?_).trans h2, (hb.cell ?_).trans h3, (hb.cell ?_).trans h4, (hb.cell ?_).trans h5⟩
  all_goals (rw [add_block]; exact hB)
theorem add1 (a : Addr) (i j : Nat) (hj : j ≠ 0) : a.add (i + j) = ⟨(a.add i).block, (a.add i).off + j, none⟩ := by
  unfold Addr.add
  rw [if_neg (by omega)]
  by_cases hi : i = 0
  · rw [if_pos hi, hi, Nat.zero_add]
  · rw [if_neg hi]; simp [Nat.add_assoc]
/-- the cells of the k-th -/
theorem TwRows.cells {w : World} {a : Addr} {l : List Tw} {k : Nat} {t : Tw} (h : TwRows w a l) (ht : l[k]? = some t) :
    w.cell? (a.add (k * 5)) = some (.int .i64 t.kind) ∧ w.cell? ⟨(a.add (k * 5)).block, (a.add (k * 5)).off + 1, none⟩ = some (.int .i64 t.at_) ∧ w.cell? ⟨(a.add (k * 5)).block, (a.add (k * 5)).off + 2, none⟩ = some (.int .i64 t.fin) ∧
      w.cell? ⟨(a.add (k * 5)).block, (a.add (k * 5)).off + 3, none⟩ = some (.string t.text) ∧ w.cell? ⟨(a.add (k * 5)).block, (a.add (k * 5)).off + 4, none⟩ = some (.int .i64 t.n) := by
  have := h k t ht
  rw [add1 a _ 1 (by decide), add1 a _ 2 (by decide), add1 a _ 3 (by decide), add1 a _ 4 (by decide)] at this
  exact this
theorem take_snoc2 (l : List Tw) (k : Nat) (t : Tw) (h : l[k]? = some t) : l.take (k + 1) = l.take k ++ [t] := by
  rw [List.take_add_one, h]; rfl
theorem join_next (l : List Tw) (k : Nat) (t : Tw) (h : l[k]? = some t) : joinB ((l.take (k + 1)).map Tw.shw) = if k = 0 then t.shw else joinB ((l.take k).map Tw.shw) ++ (32 :: t.shw) := by
  rw [take_snoc2 l k t h, List.map_append, List.map_cons, List.map_nil]
  by_cases hk : k = 0
  · subst hk
    rw [if_pos rfl]
    exact joinB_one _
  · rw [if_neg hk, joinB_snoc]
    intro e
    have hlt : k < l.length := (List.getElem?_eq_some_iff.1 h).1
    rw [List.map_eq_nil_iff] at e
    have e2 := congrArg List.length e
    rw [List.length_take, List.length_nil] at e2
    omega

set_option maxHeartbeats 8000000 in
set_option maxRecDepth 100000 in
theorem join_any (l : List Tw) (v : Value) (hl : l.length ≤ 5000) (hfit : ∀ t ∈ l, t.text.size ≤ 3000 ∧ t.fits) (w : World) (hA : TwArg w v l) (hw : PowOk w) :
    Calls Tryd.prog 17 #[v] w fun e w' => e = .returned (.string ⟨(joinB (l.map Tw.shw)).toArray⟩) ∧ Below w.heap.size w w' := by
  have hlen : ∀ k, (joinB ((l.take k).map Tw.shw)).length ≤ 5000 * 12031 := fun k => by
    have h1 := joinB_len 12030 ((l.take k).map Tw.shw) (fun x hx => by
      obtain ⟨t, ht, rfl⟩ := List.mem_map.1 hx
      obtain ⟨f1, f2, f3⟩ := hfit t (List.mem_of_mem_take ht)
      have := showS_size t.kind t.text t.n f2 f3
      show (showS t.kind t.text t.n).data.toList.length ≤ 12030
      rw [show (showS t.kind t.text t.n).data.toList.length = (showS t.kind t.text t.n).size from Array.length_toList]
      omega)
    have h2 : ((l.take k).map Tw.shw).length ≤ 5000 := by simp; omega
    have h3 := Nat.mul_le_mul_right 12031 h2
    exact Nat.le_trans h1 h3
  have HL := Lib.hid hlen
  have HF := Lib.hid hfit
  clear hlen hfit
  have hb0 := (Below.refl w.heap.size w).alloc (Nat.le_refl _) (.cells #[.pointer none, .slice none 0 0] 57)
  have hB0 := fresh_bld w
  have hf : ∃ ao cap, v = .slice ao l.length cap := by
    rcases hA with ⟨rfl, rfl⟩ | ⟨a, cap, rfl, _⟩
    · exact ⟨none, 0, rfl⟩
    · exact ⟨some a, cap, rfl⟩
  obtain ⟨ao, cap, rfl⟩ := hf
  go_enter Tryd.func17, Tryd.ntmps17
  go_wp2
  go_loopw [4, 5, 8] (fun _ _ iv wr => ∃ k : Nat, k ≤ l.length ∧ iv = .int .i64 k ∧ Bld w.heap.size w.heap.size (Lib.byteCells (joinB ((l.take k).map Tw.shw))) wr ∧ Below w.heap.size w wr) (fun _ _ iv _ => l.length - (intOf iv).toNat)
  case atStart => exact ⟨0, Nat.zero_le _, rfl, hB0, hb0⟩
  case round =>
    obtain ⟨k, hk, rfl, hB, hbw⟩ := hrel
    by_cases hlt : k < l.length
    · obtain ⟨t, ht⟩ : ∃ t, l[k]? = some t := ⟨l[k], List.getElem?_eq_getElem hlt⟩
      obtain ⟨a, rfl, hrows⟩ : ∃ a, ao = some a ∧ TwRows w a l := by
        rcases hA with ⟨e1, rfl⟩ | ⟨a, cap', e1, hr⟩
        · simp at hlt
        · injection e1 with e1 _ _; exact ⟨a, e1, hr⟩
      obtain ⟨c0, c1, c2, c3, c4⟩ := (hrows.on hbw).cells ht
      obtain ⟨f1, f2, f3⟩ := HF.out t (List.mem_of_getElem? ht)
      have hn := Lib.hid (join_next l k t ht)
      have hlk := HL.out k
      obtain ⟨tk, ta, tf, tx, tn⟩ := t
      simp only at c0 c1 c2 c3 c4 f1 f2 f3
      have hb1 := hbw.alloc hbw.size (tkO tk ta tf tx tn)
      have z1 := hb1.size
      have hB1 := hB.below ((Below.refl wr.heap.size wr).alloc (Nat.le_refl _) (tkO tk ta tf tx tn))
      have hN1 : (wr.alloc (tkO tk ta tf tx tn)).heap[wr.heap.size]? = some (tkO tk ta tf tx tn) := heap_alloc_new wr _
      have hbN : wr.heap.size ≠ w.heap.size := by have := bld_block hB; omega
      have hTN : 40 ≠ 5 := by decide
      by_cases hk0 : k = 0
      · rw [if_pos hk0] at hn
        have q0 : ¬ (0 : Int) < k := by omega
        have hj0 : Hid (joinB ((l.take k).map Tw.shw) = []) := Lib.hid (by rw [hk0]; rfl)
        clear hk0
        obtain ⟨g0, g1, g2, g3, g4⟩ := tk_cells hN1
        have hw1 := hw.below hb1 (Nat.le_refl _)
        go_wp2_with fail
        refine (pput_any w.heap.size w.heap.size _ tk ta tf tx tn (by omega) f2 f3 _ hB1 (by omega) z1 hw1).mono ?_
        rintro e w2 ⟨rfl, hB2, hb2, hK2⟩
        have hB2' := bld_fin hB2 (c := joinB ((l.take (k + 1)).map Tw.shw)) (by rw [hn.out, hj0.out]; rfl)
        go_wp2
        go_roundw
        case rel => exact ⟨k + 1, by omega, by go_num, hB2', hb1.trans hb2⟩
        case measure => simp [intOf]; omega
      · rw [if_neg hk0] at hn
        have q0 : (0 : Int) < k := by omega
        go_wp2_with fail
        refine (wbyte_big w.heap.size w.heap.size _ 32 _ hB1 (by omega) z1).mono ?_
        rintro e w2 ⟨rfl, hB2, hb2, hK2⟩
        have hN2 := hK2 _ _ _ _ hN1 hTN hbN
        obtain ⟨g0, g1, g2, g3, g4⟩ := tk_cells hN2
        have hb12 := hb1.trans hb2
        have hw2 := hw.below hb12 (Nat.le_refl _)
        go_wp2_with fail
        refine (pput_any w.heap.size w.heap.size _ tk ta tf tx tn (by omega) f2 f3 _ hB2 (by rw [List.length_append, List.length_singleton]; omega) hb12.size hw2).mono ?_
        rintro e w3 ⟨rfl, hB3, hb3, hK3⟩
        have hB3' := bld_fin hB3 (c := joinB ((l.take (k + 1)).map Tw.shw)) (by rw [hn.out]; simp [Tw.shw])
        go_wp2
        go_roundw
        case rel => exact ⟨k + 1, by omega, by go_num, hB3', hb12.trans hb3⟩
        case measure => simp [intOf]; omega
    · have hkk : k = l.length := by omega
      subst hkk
      rw [List.take_length] at hB
      go_wp2_with fail
      refine (Tryd.Builder_String_any w.heap.size w.heap.size _ wr hB hbw.size).mono ?_
      rintro e w' ⟨rfl, hb⟩
      go_wp2
      go_ret
      exact ⟨rfl, hbw.trans hb⟩
end Go.Proofs.YtifmbhcajlnhbaaDoor
