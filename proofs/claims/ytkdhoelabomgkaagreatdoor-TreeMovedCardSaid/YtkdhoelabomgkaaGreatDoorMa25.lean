/- Texts of this proof, joined: Add2, Add3. No condition. -/
import Derived.Test.YtkdhoelabomgkaaGreatDoorMa19
import Derived.Test.YtkdhoelabomgkaaGreatDoorMa24
import Derived.Test.YtkdhoelabomgkaaGreatDoorMa18
/-
  Layer 3, the program's side: add, where parts on level 400 are put off.
-/
namespace Go.Proofs.YtkdhoelabomgkaaGreatDoor
set_option linter.unusedVariables false
open Go.ChangeShapes Go.WideShapes Go.ChangeAt Go.RowKit

/-- what is put off: an expression, all on level 400 -/
def itv (l : List (Addr × Ex)) : List Value := l.flatMap fun p => [.pointer (some p.1), .int .i64 400]
def msz (l : List (Addr × Ex)) : Nat := (l.map fun p => p.2.sz).sum
def mdx (l : List (Addr × Ex)) (d : Int) : Int := l.foldl (fun d p => p.2.dm 400 d) d
theorem msz_append (l m : List (Addr × Ex)) : msz (l ++ m) = msz l + msz m := by unfold msz; simp
theorem mdx_append (l m : List (Addr × Ex)) (d : Int) : mdx (l ++ m) d = mdx m (mdx l d) := by unfold mdx; simp
theorem mdx_pos : ∀ (l : List (Addr × Ex)) (d : Int), 0 ≤ d → 0 ≤ mdx l d
  | [], d, h => h
  | p :: r, d, h => mdx_pos r _ (Ex.dm_pos p.2 400 d (by omega) h)
theorem mdx_max : ∀ (l : List (Addr × Ex)) (d : Int), 0 ≤ d → mdx l d = max d (mdx l 0)
  | [], d, h => by show d = max d 0; omega
  | p :: r, d, h => by
    show mdx r (p.2.dm 400 d) = max d (mdx r (p.2.dm 400 0))
    rw [mdx_max r _ (Ex.dm_pos p.2 400 d (by omega) h), mdx_max r (p.2.dm 400 0) (Ex.dm_pos p.2 400 0 (by omega) (by omega)), Ex.dm_max p.2 400 d (by omega) h]
    omega
/-- all blocks below this one but the counter's stay -/
structure KeepC (B C : Nat) (w w' : World) : Prop where
  block : ∀ b : Nat, b < B → b ≠ C → w'.heap[b]? = w.heap[b]?
  size : w.heap.size ≤ w'.heap.size
  rest : w'.os = w.os ∧ w'.tape = w.tape ∧ w'.output = w.output
theorem KeepC.refl (B C : Nat) (w : World) : KeepC B C w w := ⟨fun _ _ _ => rfl, Nat.le_refl _, rfl, rfl, rfl⟩
theorem KeepC.trans {B C : Nat} {w w1 w2 : World} (h : KeepC B C w w1) (h2 : KeepC B C w1 w2) : KeepC B C w w2 :=
  ⟨fun b h3 h4 => (h2.block b h3 h4).trans (h.block b h3 h4), Nat.le_trans h.size h2.size, h2.rest.1.trans h.rest.1, h2.rest.2.1.trans h.rest.2.1, h2.rest.2.2.trans h.rest.2.2⟩
theorem KeepC.stay {B C : Nat} {w w' : World} (h : KeepC B C w w') : Stay (fun b => b < B ∧ b ≠ C) w w' := fun b hb _ => h.block b hb.1 hb.2
theorem KeepC.cell {B C : Nat} {w w' : World} (h : KeepC B C w w') {A : Addr} (h1 : A.block < B) (h2 : A.block ≠ C) {v : Value} (hv : w.cell? A = some v) : w'.cell? A = some v := by
  rw [← hv]
  exact World.cell?_of_block (h.block A.block h1 h2)
/-- the counter's state -/
structure St (B C : Nat) (w : World) (s d : Int) (lv : Value) (items : List (Addr × Ex)) : Prop where
  cell : w.heap[C]? = some (.cells (cnt s d lv) 113 (0, 0))
  own : w.ownsRow B 148 2 lv items.length (itv items)
  trees : ∀ p ∈ items, p.1.block < B ∧ p.1.block ≠ C ∧ IsEx w (fun b => b < B ∧ b ≠ C) p.1 p.2 ∧ p.2.nd ≤ 200
  pos : 0 ≤ s ∧ 0 ≤ d
/-- counted, together with what is put off -/
def Ct (B C : Nat) (items : List (Addr × Ex)) (w : World) (S D : Int) (w' : World) : Prop :=
  ∃ (s d : Int) (lv : Value) (more : List (Addr × Ex)), St B C w' s d lv (items ++ more) ∧ s + (msz more : Int) = S ∧ mdx more d = D ∧ KeepC B C w w'
theorem Ct.next {B C : Nat} {items more : List (Addr × Ex)} {w w1 w2 : World} {s d S D : Int} {t : Ex} {lev : Int} (hl : 0 ≤ lev) (hd : 0 ≤ d) (hk : KeepC B C w w1) (hs : s + (msz more : Int) = S) (hD : mdx more d = D) (h : Ct B C (items ++ more) w1 (s + t.sz) (t.dm lev d) w2) : Ct B C items w (S + t.sz) (t.dm lev D) w2 := by
  obtain ⟨s', d', lv', more', h1, h2, h3, h4⟩ := h
  refine ⟨s', d', lv', more ++ more', by rw [← List.append_assoc]; exact h1, by rw [msz_append]; push_cast; omega, ?_, hk.trans h4⟩
  have p' := h1.pos.2
  rw [mdx_append, mdx_max more' _ (mdx_pos more d' p'), mdx_max more d' p', ← hD, Ex.dm_max t lev _ hl (mdx_pos more d hd), mdx_max more d hd]
  rw [mdx_max more' d' p', Ex.dm_max t lev d hl hd] at h3
  omega
/-- an expression is counted, or put off -/
def AddsL (f : Nat) (e : Ex) (lev : Int) : Prop := ∀ (B C : Nat) (a : Addr) (w : World) (s d : Int) (lv : Value) (items : List (Addr × Ex)), C < B → B ≤ w.heap.size → a.block < B → a.block ≠ C → IsEx w (fun b => b < B ∧ b ≠ C) a e → St B C w s d lv items → (items.length : Int) + s + e.sz ≤ 1000000 →
  Calls Tryz.prog f #[.pointer (some ⟨C, 0, none⟩), .pointer (some a), .int .i64 lev] w fun e' w' => e' = .returned (.tuple #[]) ∧ Ct B C items w (s + e.sz) (e.dm lev d) w'
set_option maxHeartbeats 800000 in
set_option maxRecDepth 100000 in
theorem partL_of_add (e : Ex) (lev : Int) (h0 : 1 ≤ lev) (h4 : lev ≤ 799) (hne : lev ≠ 400) (ha : AddsL 93 e lev) : AddsL 109 e lev := by
  intro B C a w s d lv items hCB hB haB hC he hc hs2
  have HA := Lib.hid (ha B C a w s d lv items hCB hB haB hC he hc hs2)
  have q1 : (lev % 400 == 0) = false := by rw [beq_eq_false_iff_ne]; omega
  clear ha he hc
  go_enter Tryz.func109, Tryz.ntmps109
  go_wp2_with fail
  refine HA.out.mono ?_
  rintro e' w' ⟨rfl, hT⟩
  go_wp2
  go_end0
  exact ⟨rfl, hT⟩
theorem info_lev : (Tryz.prog.info? 148).map (fun i => (i.zero, i.size, i.bytes)) = some (some (.agg #[.pointer none, .int .i64 0]), 2, 16) := by kernel_rfl
theorem St.other {B C : Nat} {w w' : World} {s d : Int} {lv : Value} {items : List (Addr × Ex)} (h : St B C w s d lv items) : ∀ p ∈ items, p.1.block < B := fun p hp => (h.trees p hp).1
set_option maxHeartbeats 1600000 in
set_option maxRecDepth 100000 in
theorem partL_off (e : Ex) (hnd : e.nd ≤ 200) : AddsL 109 e 400 := by
  intro B C a w s d lv items hCB hB haB hC he hc hs2
  obtain ⟨hcell, hown, htr, hp⟩ := hc
  obtain ⟨i0, hi, hz0, hz1, hz2⟩ := info_parts' info_lev
  have hsz1 : 1 ≤ e.sz := by cases e; unfold Ex.sz; omega
  have hlen : (itv items).length = items.length * 2 := hown.1
  have HO := Lib.hid hown
  have HTr := Lib.hid htr
  have HE := Lib.hid he
  have HC := Lib.hid hcell
  unfold cnt at hcell
  have k2 : w.cell? ⟨C, 2, none⟩ = some lv := by rw [Lib.cell_of_heap hcell]; rfl
  clear hcell hown htr he
  go_enter Tryz.func109, Tryz.ntmps109
  go_wp2_with (
    at_builtin
    refine wpList_append_own_at _ rfl _ _ 111 rfl B 148 i0 _ 2 16 Tryz.underlying111 hi hz0 hz1 hz2 rfl (by decide) _ _ _ rfl (HO.out.alloc _) ⟨w.heap.size, 0, none⟩ 1 1 [.pointer (some a), .int .i64 400] rfl rfl (cells_new _ [.pointer (some a), .int .i64 400] _) (by simp [Value.oneCell']) (by unfold maxLen; omega) (by omega) (by simp; omega) ?_
    intro v2' W2 hown2 hgrow _ hat
    obtain ⟨r4, s4, rfl⟩ := owns_form hown2
    have hgrow' : (w.alloc (.cells #[.pointer (some a), .int .i64 400] 148)).grownBy W2 lv.ownBlock := hgrow
    have hkeep : ∀ b : Nat, b < B → W2.heap[b]? = w.heap[b]? := fun b hb => by
      rw [hgrow'.block b (by simp; omega) (fun e => by have := (HO.out.lt b e.symm).1; omega), Below.heap_alloc _ _ _ (by omega)]
    have HKP := Lib.hid hkeep
    have hC2 : W2.heap[C]? = some (.cells #[.int .i64 s, .int .i64 d, lv] 113 (0, 0)) := (hkeep C hCB).trans HC.out
    have HC2 := Lib.hid hC2
    have cN2 : W2.cell? ⟨C, 2, none⟩ = some lv := by rw [Lib.cell_of_heap hC2]; rfl
    have fN2 : W2.frozen? ⟨C, 2, none⟩ = false := Lib.frozen_of_heap hC2 2
    have HGr := Lib.hid hgrow'
    have HOw := Lib.hid hown2
    clear hgrow hgrow' hat hkeep hC2 hown2)
  have n3 : (W2.setCell ⟨C, 2, none⟩ (.slice r4 (items.length + 1) s4)).heap[C]? = some (.cells #[.int .i64 s, .int .i64 d, .slice r4 (items.length + 1) s4] 113 (0, 0)) := heap_setCell_same _ C 2 _ _ (.slice r4 (items.length + 1) s4) HC2.out
  have ho3 : ∀ b : Nat, b ≠ C → (W2.setCell ⟨C, 2, none⟩ (.slice r4 (items.length + 1) s4)).heap[b]? = W2.heap[b]? := fun b hb => heap_setCell_other _ _ _ _ hb
  have hz3 : (W2.setCell ⟨C, 2, none⟩ (.slice r4 (items.length + 1) s4)).heap.size = W2.heap.size := by simp
  have hr3 : (W2.setCell ⟨C, 2, none⟩ (.slice r4 (items.length + 1) s4)).os = W2.os ∧ (W2.setCell ⟨C, 2, none⟩ (.slice r4 (items.length + 1) s4)).tape = W2.tape ∧ (W2.setCell ⟨C, 2, none⟩ (.slice r4 (items.length + 1) s4)).output = W2.output := by simp [World.setCell]
  generalize W2.setCell ⟨C, 2, none⟩ (.slice r4 (items.length + 1) s4) = W3 at n3 ho3 hz3 hr3 ⊢
  have hKC : KeepC B C w W3 := by
    have hbg : Below B w W2 := ((Below.refl B w).alloc hB _).grown HGr.out (by simp; omega) (fun j hj => (HO.out.lt j hj).1)
    exact ⟨fun b h1 h2 => (ho3 b h2).trans (HKP.out b h1), by have := hbg.size; omega, hr3.1.trans hbg.os, hr3.2.1.trans hbg.tape, hr3.2.2.trans hbg.output⟩
  refine bodyPost_ret (v := .tuple #[]) (by simp [results, Tryz.results109, go_sem]) rfl ?_
  refine ⟨rfl, s, d, .slice r4 (items.length + 1) s4, [(a, e)], ⟨n3, ?_, ?_, hp⟩, ?_, ?_, hKC⟩
  · have hm := owns_move HOw.out (fun b hb _ => ho3 b (by omega))
    have e1 : itv (items ++ [(a, e)]) = itv items ++ [.pointer (some a), .int .i64 400] := by unfold itv; simp
    rw [e1, List.length_append]
    exact hm
  · intro p hpm
    rw [List.mem_append] at hpm
    rcases hpm with hpm | hpm
    · obtain ⟨q1, q2, q3, q4⟩ := HTr.out p hpm
      exact ⟨q1, q2, ⟨IsRow.stay hKC.stay _ _ ⟨q1, q2⟩ q3.out⟩, q4⟩
    · simp at hpm
      subst hpm
      exact ⟨haB, hC, ⟨IsRow.stay hKC.stay _ _ ⟨haB, hC⟩ HE.out.out⟩, hnd⟩
  · show s + ((msz [(a, e)] : Nat) : Int) = s + (e.sz : Int)
    unfold msz; simp
  · rfl
end Go.Proofs.YtkdhoelabomgkaaGreatDoor
/-
  Layer 3, the program's side: add, where parts on level 400 are put off: the step.
-/
namespace Go.Proofs.YtkdhoelabomgkaaGreatDoor
set_option linter.unusedVariables false
open Go.ChangeShapes Go.WideShapes Go.ChangeAt Go.RowKit

theorem Ct.keep {B C : Nat} {items : List (Addr × Ex)} {w w' : World} {S D : Int} (h : Ct B C items w S D w') : KeepC B C w w' := by
  obtain ⟨_, _, _, _, _, _, _, h4⟩ := h
  exact h4
theorem Ct.cell {B C : Nat} {items : List (Addr × Ex)} {w w' : World} {S D : Int} (h : Ct B C items w S D w') {A : Addr} (h1 : A.block < B) (h2 : A.block ≠ C) {v : Value} (hv : w.cell? A = some v) : w'.cell? A = some v := h.keep.cell h1 h2 hv
theorem msz_len : ∀ l : List (Addr × Ex), l.length ≤ msz l
  | [] => Nat.zero_le _
  | p :: r => by
    have h1 : 1 ≤ p.2.sz := by cases p.2; unfold Ex.sz; omega
    have h2 := msz_len r
    unfold msz at h2 ⊢
    simp only [List.map_cons, List.sum_cons, List.length_cons]
    omega
theorem St.more_len {B C : Nat} {w : World} {s d : Int} {lv : Value} {items more : List (Addr × Ex)} (h : St B C w s d lv (items ++ more)) : more.length ≤ msz more ∧ 0 ≤ s := ⟨msz_len more, h.pos.1⟩
set_option maxHeartbeats 3200000 in
set_option maxRecDepth 100000 in
theorem addL_step (xk xp xm : Int) (xn : ByteArray) (xl : List Ex) (xps : List Pa) (xal : List Al) (xds : List De) (lev : Int) (h0 : 1 ≤ lev) (h4 : lev ≤ 798)
    (hl : ∀ t ∈ xl, AddsL 109 t (lev + 1)) (hal : ∀ t ∈ xal, AddsL 109 t.body'' (lev + 1)) (hds : ∀ t ∈ xds, AddsL 109 t.body' (lev + 1)) :
    AddsL 93 (.mk xk xp xn xm xl xps xal xds) lev := by
  intro B C a w s d lv items hCB hB haB hC he hst0 hs2
  have hpos := hst0.pos
  unfold Ex.sz at hs2
  obtain ⟨_, _, _, _, _, ⟨a4, b4, c4, _, m4, x4⟩, _, ⟨a6, b6, c6, _, m6, x6⟩, ⟨a7, b7, c7, _, m7, x7⟩⟩ := he.cells
  have hm4 : (xl.length : Int) ≤ 9223372036854775807 := by unfold maxLen at m4; omega
  have hm6 : (xal.length : Int) ≤ 9223372036854775807 := by unfold maxLen at m6; omega
  have hm7 : (xds.length : Int) ≤ 9223372036854775807 := by unfold maxLen at m7; omega
  have C4 := Lib.hid c4
  have C6 := Lib.hid c6
  have C7 := Lib.hid c7
  have X4 := Lib.hid x4
  have X6 := Lib.hid x6
  have X7 := Lib.hid x7
  have HL := Lib.hid hl
  have HA := Lib.hid hal
  have HD := Lib.hid hds
  have hc := hst0.cell
  have HST := Lib.hid hst0
  unfold cnt at hc
  have k0 : w.cell? ⟨C, 0, none⟩ = some (.int .i64 s) := by rw [Lib.cell_of_heap hc]; rfl
  have k1 : w.cell? ⟨C, 1, none⟩ = some (.int .i64 d) := by rw [Lib.cell_of_heap hc]; rfl
  have f0 : w.frozen? ⟨C, 0, none⟩ = false := Lib.frozen_of_heap hc 0
  have f1 : w.frozen? ⟨C, 1, none⟩ = false := Lib.frozen_of_heap hc 1
  have HC := Lib.hid hc
  clear hl hal hds he c4 c6 c7 x4 x6 x7 hc hst0
  go_enter Tryz.func93, Tryz.ntmps93
  go_upto_region 2 with fail
  have hmax : (if d < lev then lev else d) = max d lev := by split <;> omega
  try rw [hmax]
  obtain ⟨D0, hD0⟩ : ∃ D0, D0 = max d lev := ⟨_, rfl⟩
  rw [← hD0]
  have HD0 := Lib.hid hD0
  have hD0p : 0 ≤ D0 := by omega
  have hcell1 : ((w.setCell ⟨C, 0, none⟩ (.int .i64 (s + 1))).setCell ⟨C, 1, none⟩ (.int .i64 D0)).heap[C]? = some (.cells (cnt (s + 1) D0 lv) 113 (0, 0)) := heap_setCell_same _ C 1 _ _ (.int .i64 D0) (heap_setCell_same w C 0 _ _ (.int .i64 (s + 1)) HC.out)
  have hot : ∀ j : Nat, j ≠ C → ((w.setCell ⟨C, 0, none⟩ (.int .i64 (s + 1))).setCell ⟨C, 1, none⟩ (.int .i64 D0)).heap[j]? = w.heap[j]? := fun j hj => by rw [heap_setCell_other _ _ _ _ hj, heap_setCell_other _ _ _ _ hj]
  have hres : ((w.setCell ⟨C, 0, none⟩ (.int .i64 (s + 1))).setCell ⟨C, 1, none⟩ (.int .i64 D0)).heap.size = w.heap.size ∧ ((w.setCell ⟨C, 0, none⟩ (.int .i64 (s + 1))).setCell ⟨C, 1, none⟩ (.int .i64 D0)).os = w.os ∧ ((w.setCell ⟨C, 0, none⟩ (.int .i64 (s + 1))).setCell ⟨C, 1, none⟩ (.int .i64 D0)).tape = w.tape ∧ ((w.setCell ⟨C, 0, none⟩ (.int .i64 (s + 1))).setCell ⟨C, 1, none⟩ (.int .i64 D0)).output = w.output := by simp [World.setCell]
  generalize (w.setCell ⟨C, 0, none⟩ (.int .i64 (s + 1))).setCell ⟨C, 1, none⟩ (.int .i64 D0) = W1 at hcell1 hot hres ⊢
  have hk1 : KeepC B C w W1 := ⟨fun b _ h2 => hot b h2, by omega, hres.2⟩
  have hT1 : Ct B C items w (s + 1) D0 W1 := by
    refine ⟨s + 1, D0, lv, [], ⟨hcell1, ?_, ?_, by omega, hD0p⟩, by unfold msz; simp, rfl, hk1⟩
    · rw [List.append_nil]
      exact owns_move HST.out.own (fun b hb _ => hot b (by omega))
    · rw [List.append_nil]
      intro p hp
      obtain ⟨q1, q2, q3, q4⟩ := HST.out.trees p hp
      exact ⟨q1, q2, ⟨IsRow.stay hk1.stay _ _ ⟨q1, q2⟩ q3.out⟩, q4⟩
  clear hcell1 hot hres hk1
  clear k0 k1 f0 f1 hmax hD0
  have g4 : W1.cell? ⟨a.block, a.off + 4, none⟩ = some (.slice a4 xl.length b4) := hT1.cell (A := ⟨a.block, a.off + 4, none⟩) haB hC C4.out
  go_wp2
  clear g4
  go_loopw [6, 31] (fun _ iv wr => ∃ k : Nat, k ≤ xl.length ∧ iv = .int .i64 k ∧ Hid (Ct B C items w (s + 1 + Ex.szs (xl.take k)) (Ex.dms (xl.take k) (lev + 1) D0) wr)) (fun _ iv _ => xl.length - (intOf iv).toNat)
  case atStart => exact ⟨0, Nat.zero_le _, rfl, Lib.hid (by simpa [Ex.szs, Ex.dms] using hT1)⟩
  case round =>
    obtain ⟨k, hk, rfl, HT⟩ := hrel
    by_cases hlt : k < xl.length
    · have k1 : (k : Int) < xl.length := by omega
      obtain ⟨t, ht⟩ : ∃ t, xl[k]? = some t := ⟨xl[k], List.getElem?_eq_getElem hlt⟩
      obtain ⟨b, rfl, _, hrow⟩ := X4.out.at ht
      have hbC := X4.out.blk (ne_nil hlt)
      have hbC' : (b.add (k * 8)).block < B ∧ (b.add (k * 8)).block ≠ C := by rw [add_block2]; exact hbC
      have hrow' : IsEx wr (fun b => b < B ∧ b ≠ C) (b.add (k * 8)) t := ⟨IsRow.stay HT.out.keep.stay _ _ hbC' hrow.out⟩
      have hst := Ex.szs_at xl k t ht (lev + 1) D0
      have hle : Ex.szs (xl.take k) + t.sz ≤ Ex.szs xl := by
        have h1 := Ex.szs_take xl (k + 1)
        omega
      obtain ⟨sk, dk, lvk, more, hSt, hS, hD, hK⟩ := HT.out
      have hml := hSt.more_len
      have HNX := Lib.hid (fun (w2 : World) (h : Ct B C (items ++ more) wr (sk + t.sz) (t.dm (lev + 1) dk) w2) => Ct.next (by omega) hSt.pos.2 hK hS hD h)
      have HAd := Lib.hid (HL.out t (List.mem_of_getElem? ht) B C (b.add (k * 8)) wr sk dk lvk (items ++ more) hCB (by have := hK.size; omega) hbC'.1 hbC'.2 hrow' hSt (by rw [List.length_append]; push_cast; omega))
      clear hSt hS hD hK hml
      have HN := Lib.hid hst
      have g4 : wr.cell? ⟨a.block, a.off + 4, none⟩ = some (.slice (some b) xl.length b4) := HT.out.cell (A := ⟨a.block, a.off + 4, none⟩) haB hC C4.out
      clear hrow hrow' ht hst hbC hbC'
      go_wp2_with fail
      refine HAd.out.mono ?_
      rintro e' w2 ⟨rfl, hT2⟩
      have HT2 : Hid (Ct B C items w (s + 1 + Ex.szs (xl.take (k + 1))) (Ex.dms (xl.take (k + 1)) (lev + 1) D0) w2) := Lib.hid (by
        have := HNX.out w2 hT2
        rw [HN.out.1, HN.out.2]
        rw [show s + 1 + ((Ex.szs (xl.take k) + t.sz : Nat) : Int) = s + 1 + (Ex.szs (xl.take k) : Int) + (t.sz : Int) by push_cast; omega]
        exact this)
      clear hT2 g4
      go_wp2
      go_roundw
      case rel => exact ⟨k + 1, by omega, by go_num, HT2⟩
      case measure => simp [intOf]; omega
    · have hkk : k = xl.length := by omega
      have k1 : ¬ (k : Int) < xl.length := by omega
      obtain ⟨wA, hwA⟩ : ∃ wA, wA = wr := ⟨_, rfl⟩
      subst hwA
      have HTA : Hid (Ct B C items w (s + 1 + Ex.szs xl) (Ex.dms xl (lev + 1) D0) wA) := Lib.hid (by have := HT.out; rwa [hkk, List.take_length] at this)
      obtain ⟨D1, hD1⟩ : ∃ D1, D1 = Ex.dms xl (lev + 1) D0 := ⟨_, rfl⟩
      have HD1 := Lib.hid hD1
      have HTB : Hid (Ct B C items w (s + 1 + Ex.szs xl) D1 wA) := Lib.hid (by rw [hD1]; exact HTA.out)
      have g6 : wA.cell? ⟨a.block, a.off + 6, none⟩ = some (.slice a6 xal.length b6) := HTA.out.cell (A := ⟨a.block, a.off + 6, none⟩) haB hC C6.out
      clear hD1 hkk HT
      go_wp2
      clear g6
      go_loopw [7, 50] (fun _ iv wr => ∃ k : Nat, k ≤ xal.length ∧ iv = .int .i64 k ∧ Hid (Ct B C items w (s + 1 + Ex.szs xl + Al.szs (xal.take k)) (Al.dms (xal.take k) (lev + 1) D1) wr)) (fun _ iv _ => xal.length - (intOf iv).toNat)
      case atStart => exact ⟨0, Nat.zero_le _, rfl, Lib.hid (by simpa [Al.szs, Al.dms] using HTB.out)⟩
      case round =>
        obtain ⟨k, hk, rfl, HT⟩ := hrel
        by_cases hlt : k < xal.length
        · have k1 : (k : Int) < xal.length := by omega
          obtain ⟨t, ht⟩ : ∃ t, xal[k]? = some t := ⟨xal[k], List.getElem?_eq_getElem hlt⟩
          obtain ⟨b, rfl, _, hrow⟩ := X6.out.at ht
          have hmem := HA.out t (List.mem_of_getElem? ht)
          obtain ⟨p, e⟩ := t
          have hbC := X6.out.blk (ne_nil hlt)
          have hbC' : (b.add (k * 13)).block < B ∧ (b.add (k * 13)).block ≠ C := by rw [add_block2]; exact hbC
          have hrow' : IsAl wr (fun b => b < B ∧ b ≠ C) (b.add (k * 13)) (.mk p e) := ⟨IsRow.stay HT.out.keep.stay _ _ hbC' hrow.out⟩
          have hst := Al.szs_at xal k p e ht (lev + 1) D1
          have hle : Al.szs (xal.take k) + e.sz ≤ Al.szs xal := by
            have h1 := Al.szs_take xal (k + 1)
            omega
          have hbC5 : ((b.add (k * 13)).add 5).block < B ∧ ((b.add (k * 13)).add 5).block ≠ C := by rw [add_block2]; exact hbC'
          obtain ⟨sk, dk, lvk, more, hSt, hS, hD, hK⟩ := HT.out
          have hml := hSt.more_len
          have HNX := Lib.hid (fun (w2 : World) (h : Ct B C (items ++ more) wr (sk + e.sz) (e.dm (lev + 1) dk) w2) => Ct.next (by omega) hSt.pos.2 hK hS hD h)
          have had := hmem B C ((b.add (k * 13)).add 5) wr sk dk lvk (items ++ more) hCB (by have := hK.size; omega) hbC5.1 hbC5.2 hrow'.parts.2 hSt (by rw [List.length_append]; push_cast; show _ + (e.sz : Int) ≤ _; omega)
          clear hSt hS hD hK hml
          rw [add_off _ _ (by decide)] at had
          have HAd := Lib.hid had
          have HN := Lib.hid hst
          have g6 : wr.cell? ⟨a.block, a.off + 6, none⟩ = some (.slice (some b) xal.length b6) := HT.out.cell (A := ⟨a.block, a.off + 6, none⟩) haB hC C6.out
          clear hrow hrow' ht hst hbC hbC' hbC5 hmem had
          go_wp2_with fail
          refine HAd.out.mono ?_
          rintro e' w2 ⟨rfl, hT2⟩
          have HT2 : Hid (Ct B C items w (s + 1 + Ex.szs xl + Al.szs (xal.take (k + 1))) (Al.dms (xal.take (k + 1)) (lev + 1) D1) w2) := Lib.hid (by
            have := HNX.out w2 hT2
            rw [HN.out.1, HN.out.2]
            rw [show s + 1 + (Ex.szs xl : Int) + ((Al.szs (xal.take k) + e.sz : Nat) : Int) = s + 1 + (Ex.szs xl : Int) + (Al.szs (xal.take k) : Int) + (e.sz : Int) by push_cast; omega]
            exact this)
          clear hT2 g6
          go_wp2
          go_roundw
          case rel => exact ⟨k + 1, by omega, by go_num, HT2⟩
          case measure => simp [intOf]; omega
        · have hkk : k = xal.length := by omega
          have k1 : ¬ (k : Int) < xal.length := by omega
          obtain ⟨wB, hwB⟩ : ∃ wB, wB = wr := ⟨_, rfl⟩
          subst hwB
          obtain ⟨D2, hD2⟩ : ∃ D2, D2 = Al.dms xal (lev + 1) D1 := ⟨_, rfl⟩
          have HD2 := Lib.hid hD2
          have HTB2 : Hid (Ct B C items w (s + 1 + Ex.szs xl + Al.szs xal) D2 wB) := Lib.hid (by have := HT.out; rw [hkk, List.take_length] at this; rw [hD2]; exact this)
          have g7 : wB.cell? ⟨a.block, a.off + 7, none⟩ = some (.slice a7 xds.length b7) := HTB2.out.cell (A := ⟨a.block, a.off + 7, none⟩) haB hC C7.out
          clear hD2 hkk HT
          go_wp2
          clear g7
          go_loopw [8, 70] (fun _ iv wr => ∃ k : Nat, k ≤ xds.length ∧ iv = .int .i64 k ∧ Hid (Ct B C items w (s + 1 + Ex.szs xl + Al.szs xal + De.szs (xds.take k)) (De.dms (xds.take k) (lev + 1) D2) wr)) (fun _ iv _ => xds.length - (intOf iv).toNat)
          case atStart => exact ⟨0, Nat.zero_le _, rfl, Lib.hid (by simpa [De.szs, De.dms] using HTB2.out)⟩
          case round =>
            obtain ⟨k, hk, rfl, HT⟩ := hrel
            by_cases hlt : k < xds.length
            · have k1 : (k : Int) < xds.length := by omega
              obtain ⟨t, ht⟩ : ∃ t, xds[k]? = some t := ⟨xds[k], List.getElem?_eq_getElem hlt⟩
              obtain ⟨b, rfl, _, hrow⟩ := X7.out.at ht
              have hmem := HD.out t (List.mem_of_getElem? ht)
              obtain ⟨e1, e2, e3, e4, e5, e6, e7, e⟩ := t
              have hbC := X7.out.blk (ne_nil hlt)
              have hbC' : (b.add (k * 18)).block < B ∧ (b.add (k * 18)).block ≠ C := by rw [add_block2]; exact hbC
              have hrow' : IsDe wr (fun b => b < B ∧ b ≠ C) (b.add (k * 18)) (.mk e1 e2 e3 e4 e5 e6 e7 e) := ⟨IsRow.stay HT.out.keep.stay _ _ hbC' hrow.out⟩
              have hst := De.szs_at xds k e1 e2 e3 e4 e5 e6 e7 e ht (lev + 1) D2
              have hle : De.szs (xds.take k) + (if e1 = 3 then e.sz else 0) ≤ De.szs xds := by
                have h1 := De.szs_take xds (k + 1)
                omega
              have hbC5 : ((b.add (k * 18)).add 10).block < B ∧ ((b.add (k * 18)).add 10).block ≠ C := by rw [add_block2]; exact hbC'
              obtain ⟨y0, _, _, _, _, _, _, _, ye⟩ := hrow'.cells
              obtain ⟨sk, dk, lvk, more, hSt, hS, hD, hK⟩ := HT.out
              have hml := hSt.more_len
              have HNX := Lib.hid (fun (w2 : World) (h : Ct B C (items ++ more) wr (sk + e.sz) (e.dm (lev + 1) dk) w2) => Ct.next (by omega) hSt.pos.2 hK hS hD h)
              have had := fun (h3 : e1 = 3) => hmem B C ((b.add (k * 18)).add 10) wr sk dk lvk (items ++ more) hCB (by have := hK.size; omega) hbC5.1 hbC5.2 ye hSt (by rw [if_pos h3] at hle; rw [List.length_append]; push_cast; show _ + (e.sz : Int) ≤ _; omega)
              clear hSt hS hD hK hml
              rw [add_off _ _ (by decide)] at had
              have HAd := Lib.hid had
              have HN := Lib.hid hst
              have g7 : wr.cell? ⟨a.block, a.off + 7, none⟩ = some (.slice (some b) xds.length b7) := HT.out.cell (A := ⟨a.block, a.off + 7, none⟩) haB hC C7.out
              clear hrow hrow' ht hst hbC hbC' hbC5 hmem had ye
              by_cases hk3 : e1 = 3
              · have q3 : (e1 == 3) = true := by rw [beq_iff_eq]; exact hk3
                have HT3 : ∀ w2, Ct B C items w (s + 1 + Ex.szs xl + Al.szs xal + De.szs (xds.take k) + e.sz) (e.dm (lev + 1) (De.dms (xds.take k) (lev + 1) D2)) w2 → Ct B C items w (s + 1 + Ex.szs xl + Al.szs xal + De.szs (xds.take (k + 1))) (De.dms (xds.take (k + 1)) (lev + 1) D2) w2 := fun w2 hT2 => by
                  have := hT2
                  rw [HN.out.1, HN.out.2, if_pos hk3, if_pos hk3]
                  rw [show s + 1 + (Ex.szs xl : Int) + (Al.szs xal : Int) + ((De.szs (xds.take k) + e.sz : Nat) : Int) = s + 1 + (Ex.szs xl : Int) + (Al.szs xal : Int) + (De.szs (xds.take k) : Int) + (e.sz : Int) by push_cast; omega]
                  exact this
                have HT4 := Lib.hid HT3
                have HK3 := Lib.hid hk3
                clear hk3 HT3
                go_wp2_with fail
                refine (HAd.out HK3.out).mono ?_
                rintro e' w2 ⟨rfl, hT2⟩
                have HT2 := Lib.hid (HT4.out w2 (HNX.out w2 hT2))
                clear hT2 g7 y0
                go_wp2
                go_roundw
                case rel => exact ⟨k + 1, by omega, by go_num, HT2⟩
                case measure => simp [intOf]; omega
              · have q3 : (e1 == 3) = false := by rw [beq_eq_false_iff_ne]; exact hk3
                have HT2 : Hid (Ct B C items w (s + 1 + Ex.szs xl + Al.szs xal + De.szs (xds.take (k + 1))) (De.dms (xds.take (k + 1)) (lev + 1) D2) wr) := Lib.hid (by
                  rw [HN.out.1, HN.out.2, if_neg hk3, if_neg hk3, Nat.add_zero]
                  exact HT.out)
                clear hk3
                go_wp2
                go_roundw
                case rel => exact ⟨k + 1, by omega, by go_num, HT2⟩
                case measure => simp [intOf]; omega
            · have hkk : k = xds.length := by omega
              have k1 : ¬ (k : Int) < xds.length := by omega
              have HTF : Hid (Ct B C items w (s + (Ex.sz (.mk xk xp xn xm xl xps xal xds) : Nat)) (Ex.dm (.mk xk xp xn xm xl xps xal xds) lev d) wr) := Lib.hid (by
                have := HT.out
                rw [hkk, List.take_length] at this
                unfold Ex.sz Ex.dm
                rw [← HD0.out, ← HD1.out, ← HD2.out]
                rw [show s + ((Ex.szs xl + Al.szs xal + De.szs xds + 1 : Nat) : Int) = s + 1 + (Ex.szs xl : Int) + (Al.szs xal : Int) + (De.szs xds : Int) by push_cast; omega]
                exact this)
              go_wp2
              go_end0
              exact ⟨rfl, HTF.out⟩
end Go.Proofs.YtkdhoelabomgkaaGreatDoor
