/- Texts of this proof, joined: HoldK, KListE, KListA, KListD. No condition. -/
import Derived.Test.YtkdhoelabomgkaaGreatDoorMa27
/-
  Layer 3, the program's side: trees held against each other where parts are put off: the holder's state. No walk.
-/
namespace Go.Proofs.YtkdhoelabomgkaaGreatDoor
set_option linter.unusedVariables false
open Go.ChangeShapes Go.WideShapes Go.ChangeAt Go.RowKit

/-- the block in which the holder's list lies -/
def arr (h : Nat) (w : World) : Option Nat := match w.cell? ⟨h, 0, none⟩ with
  | some v => v.ownBlock
  | none => none
theorem arr_of {h : Nat} {w : World} {v : Value} (hc : w.cell? ⟨h, 0, none⟩ = some v) : arr h w = v.ownBlock := by unfold arr; rw [hc]
/-- all stays but the holder and its list -/
structure Kp (h : Nat) (w w' : World) : Prop where
  block : ∀ j : Nat, j < w.heap.size → j ≠ h → arr h w ≠ some j → w'.heap[j]? = w.heap[j]?
  own : arr h w' = arr h w ∨ ∃ k, arr h w' = some k ∧ w.heap.size ≤ k
  size : w.heap.size ≤ w'.heap.size
  rest : w'.os = w.os ∧ w'.tape = w.tape ∧ w'.output = w.output
theorem Kp.refl (h : Nat) (w : World) : Kp h w w := ⟨fun _ _ _ _ => rfl, .inl rfl, Nat.le_refl _, rfl, rfl, rfl⟩
theorem Kp.trans {h : Nat} {w w1 w2 : World} (k1 : Kp h w w1) (k2 : Kp h w1 w2) : Kp h w w2 := by
  have hs := k1.size
  refine ⟨fun j h1 h2 h3 => (k2.block j (by omega) h2 ?_).trans (k1.block j h1 h2 h3), ?_, Nat.le_trans hs k2.size, k2.rest.1.trans k1.rest.1, k2.rest.2.1.trans k1.rest.2.1, k2.rest.2.2.trans k1.rest.2.2⟩
  · rcases k1.own with h4 | ⟨k, h4, h5⟩
    · rw [h4]; exact h3
    · rw [h4]
      intro e
      injection e with e
      omega
  · rcases k2.own with h4 | ⟨k, h4, h5⟩
    · rw [h4]; exact k1.own
    · exact .inr ⟨k, h4, by omega⟩
theorem Kp.of_below {h : Nat} {w w' : World} (hh : h < w.heap.size) (hb : Below w.heap.size w w') : Kp h w w' :=
  ⟨fun j h1 _ _ => hb.block j h1, .inl (by unfold arr; rw [World.cell?_of_block (hb.block h hh)]), hb.size, hb.os, hb.tape, hb.output⟩
/-- no block of the list lies ahead of the holder -/
def ArrHi (h : Nat) (w : World) : Prop := ∀ j, arr h w = some j → h < j ∧ j < w.heap.size
theorem Kp.low {h : Nat} {w w' : World} (k : Kp h w w') (ha : ArrHi h w) : Stay (fun b => b < h) w w' := fun b hb hz => k.block b hz (by omega) (fun e => by have := (ha b e).1; omega)
theorem Kp.cell {h : Nat} {w w' : World} (k : Kp h w w') {A : Addr} {v : Value} (h1 : A.block ≠ h) (h2 : arr h w ≠ some A.block) (hv : w.cell? A = some v) : w'.cell? A = some v := by
  rw [← hv]
  exact World.cell?_of_block (k.block A.block (Lib.lt_of_cell hv) h1 h2)
/-- a box of a frame's -/
def BoxAt (h : Nat) (w : World) (c : Nat) (v : Value) : Prop := h < c ∧ arr h w ≠ some c ∧ w.cell? ⟨c, 0, none⟩ = some v
theorem BoxAt.keep {h c : Nat} {w w' : World} {v : Value} (b : BoxAt h w c v) (k : Kp h w w') : BoxAt h w' c v := by
  refine ⟨b.1, ?_, k.cell (A := ⟨c, 0, none⟩) (by have := b.1; show c ≠ h; omega) b.2.1 b.2.2⟩
  rcases k.own with h4 | ⟨j, h4, h5⟩
  · rw [h4]; exact b.2.1
  · rw [h4]
    intro e
    injection e with e
    have := Lib.lt_of_cell b.2.2
    have : c < w.heap.size := this
    omega
/-- two trees that are the same, to be held against each other by this closure -/
def PairAt (f h : Nat) (w : World) (a b : Addr) : Prop :=
  (f = 82 ∧ ∃ t u : Ty, t.same u = true ∧ t.nd ≤ 200 ∧ IsTy w (fun b => b < h) a t ∧ IsTy w (fun b => b < h) b u) ∨
  (f = 80 ∧ ∃ t u : Pa, t.same u = true ∧ t.nd ≤ 200 ∧ IsPa w (fun b => b < h) a t ∧ IsPa w (fun b => b < h) b u) ∨
  (f = 84 ∧ ∃ t u : Ex, t.same u = true ∧ t.nd ≤ 200 ∧ IsEx w (fun b => b < h) a t ∧ IsEx w (fun b => b < h) b u)
/-- a closure that will say yes -/
def YesV (h : Nat) (w : World) (v : Value) : Prop := ∃ (f c4 c5 c6 : Nat) (a b : Addr), v = .func (.func f) #[] #[.pointer (some ⟨c4, 0, none⟩), .pointer (some ⟨c5, 0, none⟩), .pointer (some ⟨c6, 0, none⟩)] ∧
  BoxAt h w c4 (.pointer (some ⟨h, 0, none⟩)) ∧ BoxAt h w c5 (.pointer (some a)) ∧ BoxAt h w c6 (.pointer (some b)) ∧ a.block < h ∧ b.block < h ∧ PairAt f h w a b
theorem YesV.keep {h : Nat} {w w' : World} {v : Value} (y : YesV h w v) (k : Kp h w w') (ha : ArrHi h w) : YesV h w' v := by
  obtain ⟨f, c4, c5, c6, a, b, h1, h2, h3, h4, h5, h6, h7⟩ := y
  have hs := k.low ha
  refine ⟨f, c4, c5, c6, a, b, h1, h2.keep k, h3.keep k, h4.keep k, h5, h6, ?_⟩
  rcases h7 with ⟨e, t, u, p1, p2, p3, p4⟩ | ⟨e, t, u, p1, p2, p3, p4⟩ | ⟨e, t, u, p1, p2, p3, p4⟩
  · exact .inl ⟨e, t, u, p1, p2, ⟨IsRow.stay hs _ _ h5 p3.out⟩, ⟨IsRow.stay hs _ _ h6 p4.out⟩⟩
  · exact .inr (.inl ⟨e, t, u, p1, p2, ⟨IsRow.stay hs _ _ h5 p3.out⟩, ⟨IsRow.stay hs _ _ h6 p4.out⟩⟩)
  · exact .inr (.inr ⟨e, t, u, p1, p2, ⟨IsRow.stay hs _ _ h5 p3.out⟩, ⟨IsRow.stay hs _ _ h6 p4.out⟩⟩)
/-- the holder: at most n closures are put off, each will say yes -/
def HoldOk (h n : Nat) (w : World) : Prop := ∃ (lv : Value) (m : Nat) (vals : List Value), w.heap[h]? = some (.cells #[lv] 103 (0, 0)) ∧ w.ownsRow (h + 1) 35 1 lv m vals ∧ m ≤ n ∧ ∀ v ∈ vals, YesV h w v
theorem HoldOk.hi {h n : Nat} {w : World} (o : HoldOk h n w) : ArrHi h w ∧ h < w.heap.size := by
  obtain ⟨lv, m, vals, h1, h2, h3, h4⟩ := o
  have hc : w.cell? ⟨h, 0, none⟩ = some lv := by rw [Lib.cell_of_heap h1]; rfl
  refine ⟨fun j hj => ?_, heap_lt h1⟩
  rw [arr_of hc] at hj
  have := h2.lt j hj
  omega
theorem HoldOk.mono {h n m : Nat} {w : World} (o : HoldOk h n w) (hm : n ≤ m) : HoldOk h m w := by
  obtain ⟨lv, k, vals, h1, h2, h3, h4⟩ := o
  exact ⟨lv, k, vals, h1, h2, by omega, h4⟩
theorem HoldOk.on {h n : Nat} {w w' : World} (o : HoldOk h n w) (hb : Below w.heap.size w w') : HoldOk h n w' := by
  have hk := Kp.of_below o.hi.2 hb
  have ha := o.hi.1
  obtain ⟨lv, k, vals, h1, h2, h3, h4⟩ := o
  exact ⟨lv, k, vals, (hb.block h (heap_lt h1)).trans h1, owns_move h2 (fun b _ hz => hb.block b hz), h3, fun v hv => (h4 v hv).keep hk ha⟩
/-- a part is held against a part that is the same -/
def HoldsTK (h : Nat) (lev : Int) (t u : Ty) : Prop := ∀ (a b : Addr) (w : World) (n : Nat), HoldOk h n w → n + t.nd ≤ 1000000 → a.block < h → b.block < h → IsTy w (fun b => b < h) a t → IsTy w (fun b => b < h) b u →
  Calls Tryz.prog 46 #[.pointer (some ⟨h, 0, none⟩), .pointer (some a), .pointer (some b), .int .i64 lev] w fun e w' => e = .returned (.bool true) ∧ Kp h w w' ∧ HoldOk h (n + t.nd) w'
def HoldsPK (h : Nat) (lev : Int) (t u : Pa) : Prop := ∀ (a b : Addr) (w : World) (n : Nat), HoldOk h n w → n + t.nd ≤ 1000000 → a.block < h → b.block < h → IsPa w (fun b => b < h) a t → IsPa w (fun b => b < h) b u →
  Calls Tryz.prog 43 #[.pointer (some ⟨h, 0, none⟩), .pointer (some a), .pointer (some b), .int .i64 lev] w fun e w' => e = .returned (.bool true) ∧ Kp h w w' ∧ HoldOk h (n + t.nd) w'
def HoldsEK (h : Nat) (lev : Int) (t u : Ex) : Prop := ∀ (a b : Addr) (w : World) (n : Nat), HoldOk h n w → n + t.nd ≤ 1000000 → a.block < h → b.block < h → IsEx w (fun b => b < h) a t → IsEx w (fun b => b < h) b u →
  Calls Tryz.prog 47 #[.pointer (some ⟨h, 0, none⟩), .pointer (some a), .pointer (some b), .int .i64 lev] w fun e w' => e = .returned (.bool true) ∧ Kp h w w' ∧ HoldOk h (n + t.nd) w'
def Co.nd (c : Co) : Nat := Ty.nds c.args + 1
theorem isC_blk {P : Nat → Prop} {w : World} {b : Addr} {n cap sz : Nat} {rows : List (List Dt)} (h : IsC w P (.l sz rows) (.slice (some b) n cap)) (hl : rows ≠ []) : P b.block := by
  unfold IsC at h
  rcases h with ⟨h1, _⟩ | ⟨a, c, h1, _, _, hp, _⟩
  · cases h1
  · injection h1 with e1
    injection e1 with e1
    subst e1
    exact hp hl
theorem info_fun : (Tryz.prog.info? 35).map (fun i => (i.zero, i.size, i.bytes)) = some (some .nilFunc, 1, 8) := by kernel_rfl
set_option maxHeartbeats 1600000 in
set_option maxRecDepth 100000 in
/-- a closure that will say yes is put off -/
theorem putOff_any (h n : Nat) (v : Value) (w : World) (ho : HoldOk h n w) (hn : n + 1 ≤ 1000000) (hv : YesV h w v) :
    Calls Tryz.prog 79 #[.pointer (some ⟨h, 0, none⟩), v] w fun e w' => e = .returned (.bool true) ∧ Kp h w w' ∧ HoldOk h (n + 1) w' := by
  have hi := ho.hi
  obtain ⟨lv, m, vals, h1, hown, hm, hall⟩ := ho
  obtain ⟨i0, hi0, hz0, hz1, hz2⟩ := info_parts' info_fun
  have hlen : vals.length = m * 1 := hown.1
  have HH := Lib.hid h1
  have HO := Lib.hid hown
  have HAll := Lib.hid hall
  have HV := Lib.hid hv
  have HI := Lib.hid hi
  have k0 : w.cell? ⟨h, 0, none⟩ = some lv := by rw [Lib.cell_of_heap h1]; rfl
  obtain ⟨f, c4, c5, c6, a, b, hve, hv⟩ := hv
  subst hve
  clear h1 hown hall hv hi
  have hm1 : m = vals.length := by omega
  subst hm1
  have HOl := Lib.hid hm
  clear hlen hm
  go_enter Tryz.func79, Tryz.ntmps79
  go_wp2_with (
    at_builtin
    refine wpList_append_own_at _ rfl _ _ 101 rfl (h + 1) 35 i0 _ 1 8 Tryz.underlying101 hi0 hz0 hz1 hz2 rfl (by decide) _ _ _ rfl (HO.out.alloc _) ⟨w.heap.size, 0, none⟩ 1 1 [.func (.func f) #[] #[.pointer (some ⟨c4, 0, none⟩), .pointer (some ⟨c5, 0, none⟩), .pointer (some ⟨c6, 0, none⟩)]] rfl rfl (cells_new _ [.func (.func f) #[] #[.pointer (some ⟨c4, 0, none⟩), .pointer (some ⟨c5, 0, none⟩), .pointer (some ⟨c6, 0, none⟩)]] _) (by simp [Value.oneCell']) (by unfold maxLen; have := HOl.out; omega) (by have := HOl.out; omega) (by have := HI.out.2; simp; omega) ?_
    intro v2' W2 hown2 hgrow _ hat
    obtain ⟨r4, s4, rfl⟩ := owns_form hown2
    have hgrow' : (w.alloc (.cells #[.func (.func f) #[] #[.pointer (some ⟨c4, 0, none⟩), .pointer (some ⟨c5, 0, none⟩), .pointer (some ⟨c6, 0, none⟩)]] 35)).grownBy W2 lv.ownBlock := hgrow
    have HGr := Lib.hid hgrow'
    have HOw := Lib.hid hown2
    have hC2 : W2.heap[h]? = some (.cells #[lv] 103 (0, 0)) := by
      rw [hgrow'.block h (by simp; have := HI.out.2; omega) (fun e => by have := (HO.out.lt h e.symm).1; omega), Below.heap_alloc _ _ _ HI.out.2, HH.out]
    have HC2 := Lib.hid hC2
    have cN2 : W2.cell? ⟨h, 0, none⟩ = some lv := by rw [Lib.cell_of_heap hC2]; rfl
    have fN2 : W2.frozen? ⟨h, 0, none⟩ = false := Lib.frozen_of_heap hC2 0
    have hat' : (Value.slice r4 (vals.length + 1) s4).ownBlock = lv.ownBlock ∨ (Value.slice r4 (vals.length + 1) s4).ownBlock = some (w.alloc (.cells #[.func (.func f) #[] #[.pointer (some ⟨c4, 0, none⟩), .pointer (some ⟨c5, 0, none⟩), .pointer (some ⟨c6, 0, none⟩)]] 35)).heap.size := hat
    have HAt := Lib.hid hat'
    clear hgrow hgrow' hat hat' hC2 hown2)
  have n3 : (W2.setCell ⟨h, 0, none⟩ (.slice r4 (vals.length + 1) s4)).heap[h]? = some (.cells #[.slice r4 (vals.length + 1) s4] 103 (0, 0)) := heap_setCell_same _ h 0 _ _ (.slice r4 (vals.length + 1) s4) HC2.out
  have ho3 : ∀ b : Nat, b ≠ h → (W2.setCell ⟨h, 0, none⟩ (.slice r4 (vals.length + 1) s4)).heap[b]? = W2.heap[b]? := fun b hb => heap_setCell_other _ _ _ _ hb
  have hz3 : (W2.setCell ⟨h, 0, none⟩ (.slice r4 (vals.length + 1) s4)).heap.size = W2.heap.size := by simp
  have hr3 : (W2.setCell ⟨h, 0, none⟩ (.slice r4 (vals.length + 1) s4)).os = W2.os ∧ (W2.setCell ⟨h, 0, none⟩ (.slice r4 (vals.length + 1) s4)).tape = W2.tape ∧ (W2.setCell ⟨h, 0, none⟩ (.slice r4 (vals.length + 1) s4)).output = W2.output := by simp [World.setCell]
  generalize (W2.setCell ⟨h, 0, none⟩ (.slice r4 (vals.length + 1) s4)) = W3 at n3 ho3 hz3 hr3 ⊢
  have hz0 : (w.alloc (.cells #[.func (.func f) #[] #[.pointer (some ⟨c4, 0, none⟩), .pointer (some ⟨c5, 0, none⟩), .pointer (some ⟨c6, 0, none⟩)]] 35)).heap.size = w.heap.size + 1 := by simp
  have hsz := HGr.out.size
  have ha0 : arr h w = lv.ownBlock := arr_of k0
  have ha3 : arr h W3 = (Value.slice r4 (vals.length + 1) s4).ownBlock := arr_of (by rw [Lib.cell_of_heap n3]; rfl)
  have hkp : Kp h w W3 := by
    refine ⟨fun j h1 h2 h3 => ?_, ?_, by omega, hr3.1.trans HGr.out.os, hr3.2.1.trans HGr.out.tape, hr3.2.2.trans HGr.out.output⟩
    · rw [ho3 j h2, HGr.out.block j (by omega) (fun e => h3 (by rw [ha0, e])), Below.heap_alloc _ _ _ h1]
    · rcases HAt.out with e | e
      · exact .inl (by rw [ha3, ha0, e])
      · exact .inr ⟨_, by rw [ha3, e], by omega⟩
  refine bodyPost_ret (v := .bool true) (by simp [results, Tryz.results79, go_sem]) rfl ⟨rfl, hkp, .slice r4 (vals.length + 1) s4, vals.length + 1, vals ++ [.func (.func f) #[] #[.pointer (some ⟨c4, 0, none⟩), .pointer (some ⟨c5, 0, none⟩), .pointer (some ⟨c6, 0, none⟩)]], n3, owns_move HOw.out (fun b hb _ => ho3 b (by omega)), by have := HOl.out; omega, fun v hv => ?_⟩
  rw [List.mem_append] at hv
  rcases hv with hv | hv
  · exact (HAll.out v hv).keep hkp HI.out.1
  · simp at hv
    subst hv
    exact HV.out.keep hkp HI.out.1
end Go.Proofs.YtkdhoelabomgkaaGreatDoor
/-
  Layer 3, the program's side: sameList at one of its kinds, of lists that are the same, where parts are put off.
-/
namespace Go.Proofs.YtkdhoelabomgkaaGreatDoor
set_option linter.unusedVariables false
open Go.ChangeShapes Go.WideShapes Go.ChangeAt Go.RowKit

theorem Ex.nds_upto : ∀ (l : List Ex) (k : Nat) (t : Ex), l[k]? = some t → Ex.nds (l.take (k + 1)) = Ex.nds (l.take k) + t.nd ∧ Ex.nds (l.take (k + 1)) ≤ Ex.nds l
  | [], k, t, h => by simp at h
  | x :: r, 0, t, h => by
    simp at h
    subst h
    rw [List.take_succ_cons, List.take_zero, List.take_zero]
    show x.nd + Ex.nds [] = Ex.nds [] + x.nd ∧ x.nd + Ex.nds [] ≤ x.nd + Ex.nds r
    have h0 : Ex.nds [] = 0 := rfl
    omega
  | x :: r, k + 1, t, h => by
    have h1 := Ex.nds_upto r k t (by simpa using h)
    rw [List.take_succ_cons, List.take_succ_cons]
    show x.nd + Ex.nds (r.take (k + 1)) = x.nd + Ex.nds (r.take k) + t.nd ∧ x.nd + Ex.nds (r.take (k + 1)) ≤ x.nd + Ex.nds r
    omega
set_option maxHeartbeats 800000 in
set_option maxRecDepth 100000 in
theorem listEK (h : Nat) (lev : Int) (sl tl : List Ex) (hs0 : Ex.sames sl tl = true) (hall : ∀ (k : Nat) (t u : Ex), sl[k]? = some t → tl[k]? = some u → HoldsEK h lev t u) (v v' : Value) (w : World) (n : Nat) (ho : HoldOk h n w) (hn : n + Ex.nds sl ≤ 1000000) (hs : IsExs w (fun b => b < h) v sl) (ht : IsExs w (fun b => b < h) v' tl) :
    Calls Tryz.prog 85 #[v, v', .int .i64 lev, .func (.func 47) #[.pointer (some ⟨h, 0, none⟩)] #[]] w fun e w' => e = .returned (.bool true) ∧ Kp h w w' ∧ HoldOk h (n + Ex.nds sl) w' := by
  obtain ⟨ao, cap, rfl, v1, v2⟩ := hs.form
  obtain ⟨bo, cap2, rfl, u1, u2⟩ := ht.form
  have hl := Ex.sames_len sl tl hs0
  have HI := Lib.hid hall
  have HS1 := Lib.hid hs
  have HT1 := Lib.hid ht
  have HO := Lib.hid ho
  have HLo := Lib.hid ho.hi
  have hlm : (sl.length : Int) ≤ 9223372036854775807 := by unfold maxLen at v2; omega
  have q3 : ((sl.length : Int) != tl.length) = false := by rw [bne_eq_false_iff_eq]; omega
  have HLn := Lib.hid hl
  have HNn := Lib.hid hn
  clear hall hs ht ho hl hs0 hn
  go_enter Tryz.func85, Tryz.ntmps85
  go_wp2
  go_loopw [17] (fun iv wr => ∃ k : Nat, k ≤ sl.length ∧ iv = .int .i64 k ∧ Hid (Kp h w wr ∧ HoldOk h (n + Ex.nds (sl.take k)) wr)) (fun iv _ => sl.length - (intOf iv).toNat)
  case atStart => exact ⟨0, Nat.zero_le _, rfl, Lib.hid ⟨Kp.refl _ _, HO.out.mono (by omega)⟩⟩
  case round =>
    obtain ⟨i, hi, rfl, H⟩ := hrel
    by_cases hlt : i < sl.length
    · have i1 : (i : Int) < sl.length := by omega
      have i2 : (i : Int) < tl.length := by have := HLn.out; omega
      obtain ⟨x, hx⟩ : ∃ x, sl[i]? = some x := ⟨sl[i], List.getElem?_eq_getElem hlt⟩
      obtain ⟨y, hy⟩ : ∃ y, tl[i]? = some y := ⟨tl[i]'(by have := HLn.out; omega), List.getElem?_eq_getElem (by have := HLn.out; omega)⟩
      obtain ⟨a, rfl, _, hrow⟩ := HS1.out.at hx
      obtain ⟨b, rfl, _, hrow'⟩ := HT1.out.at hy
      have hpa : (a.add (i * 8)).block < h := by
        rw [add_block2]
        exact isC_blk HS1.out.out (by intro e; have h1 := congrArg List.length e; simp only [List.length_map, List.length_nil] at h1; omega)
      have hpb : (b.add (i * 8)).block < h := by
        rw [add_block2]
        exact isC_blk HT1.out.out (by intro e; have h1 := congrArg List.length e; simp only [List.length_map, List.length_nil] at h1; have := HLn.out; omega)
      have hst := H.out.1.low HLo.out.1
      have hR : IsEx wr (fun b => b < h) (a.add (i * 8)) x := ⟨IsRow.stay hst _ _ hpa hrow.out⟩
      have hR' : IsEx wr (fun b => b < h) (b.add (i * 8)) y := ⟨IsRow.stay hst _ _ hpb hrow'.out⟩
      have HNd := Lib.hid (Ex.nds_upto sl i x hx)
      have HXY := Lib.hid (And.intro hpa (And.intro hpb (HI.out i x y hx hy)))
      have HR := Lib.hid (And.intro hR hR')
      clear hrow hrow' hx hy hpa hpb hst hR hR'
      go_wp2
      go_still_tail 8, (by kernel_rfl)
      change wpList _ _ _ _ _ wr.drew
      have hbd : Below wr.heap.size wr wr.drew := (Below.refl _ _).drew
      have HR2 := Lib.hid (And.intro (HR.out.1.on hbd) (HR.out.2.on hbd))
      have HK2 := Lib.hid (And.intro (H.out.1.trans (Kp.of_below H.out.2.hi.2 hbd)) (H.out.2.on hbd))
      clear hbd
      generalize wr.drew = w2 at HR2 HK2 ⊢
      go_wp2_with fail
      refine (HXY.out.2.2 _ _ w2 _ HK2.out.2 (by have := HNd.out; have := HNn.out; omega) HXY.out.1 HXY.out.2.1 HR2.out.1 HR2.out.2).mono ?_
      rintro e w3 ⟨rfl, hk3, ho3⟩
      have HN : Hid (Kp h w w3 ∧ HoldOk h (n + Ex.nds (sl.take (i + 1))) w3) := Lib.hid ⟨HK2.out.1.trans hk3, ho3.mono (by have := HNd.out; omega)⟩
      clear hk3 ho3 HK2
      go_wp2
      go_roundw
      case rel => exact ⟨i + 1, by omega, by go_num, HN⟩
      case measure => simp [intOf]; omega
    · have i1 : ¬ (i : Int) < sl.length := by omega
      have HF : Hid (HoldOk h (n + Ex.nds sl) wr) := Lib.hid (by
        have h1 := H.out.2
        rwa [show i = sl.length by omega, List.take_length] at h1)
      go_wp2
      go_ret
      exact ⟨rfl, H.out.1, HF.out⟩
end Go.Proofs.YtkdhoelabomgkaaGreatDoor
/-
  Layer 3, the program's side: sameList at one of its kinds, of lists that are the same, where parts are put off.
-/
namespace Go.Proofs.YtkdhoelabomgkaaGreatDoor
set_option linter.unusedVariables false
open Go.ChangeShapes Go.WideShapes Go.ChangeAt Go.RowKit

def HoldsAK (h : Nat) (lev : Int) (t u : Al) : Prop := ∀ (a b : Addr) (w : World) (n : Nat), HoldOk h n w → n + t.nd ≤ 1000000 → a.block < h → b.block < h → IsAl w (fun b => b < h) a t → IsAl w (fun b => b < h) b u →
  Calls Tryz.prog 87 #[.pointer (some ⟨h, 0, none⟩), .pointer (some a), .pointer (some b), .int .i64 lev] w fun e w' => e = .returned (.bool true) ∧ Kp h w w' ∧ HoldOk h (n + t.nd) w'
theorem Al.nds_upto : ∀ (l : List Al) (k : Nat) (t : Al), l[k]? = some t → Al.nds (l.take (k + 1)) = Al.nds (l.take k) + t.nd ∧ Al.nds (l.take (k + 1)) ≤ Al.nds l
  | [], k, t, h => by simp at h
  | x :: r, 0, t, h => by
    simp at h
    subst h
    rw [List.take_succ_cons, List.take_zero, List.take_zero]
    show x.nd + Al.nds [] = Al.nds [] + x.nd ∧ x.nd + Al.nds [] ≤ x.nd + Al.nds r
    have h0 : Al.nds [] = 0 := rfl
    omega
  | x :: r, k + 1, t, h => by
    have h1 := Al.nds_upto r k t (by simpa using h)
    rw [List.take_succ_cons, List.take_succ_cons]
    show x.nd + Al.nds (r.take (k + 1)) = x.nd + Al.nds (r.take k) + t.nd ∧ x.nd + Al.nds (r.take (k + 1)) ≤ x.nd + Al.nds r
    omega
set_option maxHeartbeats 800000 in
set_option maxRecDepth 100000 in
theorem listAK (h : Nat) (lev : Int) (sl tl : List Al) (hs0 : Al.sames sl tl = true) (hall : ∀ (k : Nat) (t u : Al), sl[k]? = some t → tl[k]? = some u → HoldsAK h lev t u) (v v' : Value) (w : World) (n : Nat) (ho : HoldOk h n w) (hn : n + Al.nds sl ≤ 1000000) (hs : IsAls w (fun b => b < h) v sl) (ht : IsAls w (fun b => b < h) v' tl) :
    Calls Tryz.prog 86 #[v, v', .int .i64 lev, .func (.func 87) #[.pointer (some ⟨h, 0, none⟩)] #[]] w fun e w' => e = .returned (.bool true) ∧ Kp h w w' ∧ HoldOk h (n + Al.nds sl) w' := by
  obtain ⟨ao, cap, rfl, v1, v2⟩ := hs.form
  obtain ⟨bo, cap2, rfl, u1, u2⟩ := ht.form
  have hl := Al.sames_len sl tl hs0
  have HI := Lib.hid hall
  have HS1 := Lib.hid hs
  have HT1 := Lib.hid ht
  have HO := Lib.hid ho
  have HLo := Lib.hid ho.hi
  have hlm : (sl.length : Int) ≤ 9223372036854775807 := by unfold maxLen at v2; omega
  have q3 : ((sl.length : Int) != tl.length) = false := by rw [bne_eq_false_iff_eq]; omega
  have HLn := Lib.hid hl
  have HNn := Lib.hid hn
  clear hall hs ht ho hl hs0 hn
  go_enter Tryz.func86, Tryz.ntmps86
  go_wp2
  go_loopw [17] (fun iv wr => ∃ k : Nat, k ≤ sl.length ∧ iv = .int .i64 k ∧ Hid (Kp h w wr ∧ HoldOk h (n + Al.nds (sl.take k)) wr)) (fun iv _ => sl.length - (intOf iv).toNat)
  case atStart => exact ⟨0, Nat.zero_le _, rfl, Lib.hid ⟨Kp.refl _ _, HO.out.mono (by omega)⟩⟩
  case round =>
    obtain ⟨i, hi, rfl, H⟩ := hrel
    by_cases hlt : i < sl.length
    · have i1 : (i : Int) < sl.length := by omega
      have i2 : (i : Int) < tl.length := by have := HLn.out; omega
      obtain ⟨x, hx⟩ : ∃ x, sl[i]? = some x := ⟨sl[i], List.getElem?_eq_getElem hlt⟩
      obtain ⟨y, hy⟩ : ∃ y, tl[i]? = some y := ⟨tl[i]'(by have := HLn.out; omega), List.getElem?_eq_getElem (by have := HLn.out; omega)⟩
      obtain ⟨a, rfl, _, hrow⟩ := HS1.out.at hx
      obtain ⟨b, rfl, _, hrow'⟩ := HT1.out.at hy
      have hpa : (a.add (i * 13)).block < h := by
        rw [add_block2]
        exact isC_blk HS1.out.out (by intro e; have h1 := congrArg List.length e; simp only [List.length_map, List.length_nil] at h1; omega)
      have hpb : (b.add (i * 13)).block < h := by
        rw [add_block2]
        exact isC_blk HT1.out.out (by intro e; have h1 := congrArg List.length e; simp only [List.length_map, List.length_nil] at h1; have := HLn.out; omega)
      have hst := H.out.1.low HLo.out.1
      have hR : IsAl wr (fun b => b < h) (a.add (i * 13)) x := ⟨IsRow.stay hst _ _ hpa hrow.out⟩
      have hR' : IsAl wr (fun b => b < h) (b.add (i * 13)) y := ⟨IsRow.stay hst _ _ hpb hrow'.out⟩
      have HNd := Lib.hid (Al.nds_upto sl i x hx)
      have HXY := Lib.hid (And.intro hpa (And.intro hpb (HI.out i x y hx hy)))
      have HR := Lib.hid (And.intro hR hR')
      clear hrow hrow' hx hy hpa hpb hst hR hR'
      go_wp2
      go_still_tail 8, (by kernel_rfl)
      change wpList _ _ _ _ _ wr.drew
      have hbd : Below wr.heap.size wr wr.drew := (Below.refl _ _).drew
      have HR2 := Lib.hid (And.intro (HR.out.1.on hbd) (HR.out.2.on hbd))
      have HK2 := Lib.hid (And.intro (H.out.1.trans (Kp.of_below H.out.2.hi.2 hbd)) (H.out.2.on hbd))
      clear hbd
      generalize wr.drew = w2 at HR2 HK2 ⊢
      go_wp2_with fail
      refine (HXY.out.2.2 _ _ w2 _ HK2.out.2 (by have := HNd.out; have := HNn.out; omega) HXY.out.1 HXY.out.2.1 HR2.out.1 HR2.out.2).mono ?_
      rintro e w3 ⟨rfl, hk3, ho3⟩
      have HN : Hid (Kp h w w3 ∧ HoldOk h (n + Al.nds (sl.take (i + 1))) w3) := Lib.hid ⟨HK2.out.1.trans hk3, ho3.mono (by have := HNd.out; omega)⟩
      clear hk3 ho3 HK2
      go_wp2
      go_roundw
      case rel => exact ⟨i + 1, by omega, by go_num, HN⟩
      case measure => simp [intOf]; omega
    · have i1 : ¬ (i : Int) < sl.length := by omega
      have HF : Hid (HoldOk h (n + Al.nds sl) wr) := Lib.hid (by
        have h1 := H.out.2
        rwa [show i = sl.length by omega, List.take_length] at h1)
      go_wp2
      go_ret
      exact ⟨rfl, H.out.1, HF.out⟩
end Go.Proofs.YtkdhoelabomgkaaGreatDoor
/-
  Layer 3, the program's side: sameList at one of its kinds, of lists that are the same, where parts are put off.
-/
namespace Go.Proofs.YtkdhoelabomgkaaGreatDoor
set_option linter.unusedVariables false
open Go.ChangeShapes Go.WideShapes Go.ChangeAt Go.RowKit

def HoldsDK (h : Nat) (lev : Int) (t u : De) : Prop := ∀ (a b : Addr) (w : World) (n : Nat), HoldOk h n w → n + t.nd ≤ 1000000 → a.block < h → b.block < h → IsDe w (fun b => b < h) a t → IsDe w (fun b => b < h) b u →
  Calls Tryz.prog 49 #[.pointer (some ⟨h, 0, none⟩), .pointer (some a), .pointer (some b), .int .i64 lev] w fun e w' => e = .returned (.bool true) ∧ Kp h w w' ∧ HoldOk h (n + t.nd) w'
theorem De.nds_upto : ∀ (l : List De) (k : Nat) (t : De), l[k]? = some t → De.nds (l.take (k + 1)) = De.nds (l.take k) + t.nd ∧ De.nds (l.take (k + 1)) ≤ De.nds l
  | [], k, t, h => by simp at h
  | x :: r, 0, t, h => by
    simp at h
    subst h
    rw [List.take_succ_cons, List.take_zero, List.take_zero]
    show x.nd + De.nds [] = De.nds [] + x.nd ∧ x.nd + De.nds [] ≤ x.nd + De.nds r
    have h0 : De.nds [] = 0 := rfl
    omega
  | x :: r, k + 1, t, h => by
    have h1 := De.nds_upto r k t (by simpa using h)
    rw [List.take_succ_cons, List.take_succ_cons]
    show x.nd + De.nds (r.take (k + 1)) = x.nd + De.nds (r.take k) + t.nd ∧ x.nd + De.nds (r.take (k + 1)) ≤ x.nd + De.nds r
    omega
set_option maxHeartbeats 800000 in
set_option maxRecDepth 100000 in
theorem listDK (h : Nat) (lev : Int) (sl tl : List De) (hs0 : De.sames sl tl = true) (hall : ∀ (k : Nat) (t u : De), sl[k]? = some t → tl[k]? = some u → HoldsDK h lev t u) (v v' : Value) (w : World) (n : Nat) (ho : HoldOk h n w) (hn : n + De.nds sl ≤ 1000000) (hs : IsDes w (fun b => b < h) v sl) (ht : IsDes w (fun b => b < h) v' tl) :
    Calls Tryz.prog 48 #[v, v', .int .i64 lev, .func (.func 49) #[.pointer (some ⟨h, 0, none⟩)] #[]] w fun e w' => e = .returned (.bool true) ∧ Kp h w w' ∧ HoldOk h (n + De.nds sl) w' := by
  obtain ⟨ao, cap, rfl, v1, v2⟩ := hs.form
  obtain ⟨bo, cap2, rfl, u1, u2⟩ := ht.form
  have hl := De.sames_len sl tl hs0
  have HI := Lib.hid hall
  have HS1 := Lib.hid hs
  have HT1 := Lib.hid ht
  have HO := Lib.hid ho
  have HLo := Lib.hid ho.hi
  have hlm : (sl.length : Int) ≤ 9223372036854775807 := by unfold maxLen at v2; omega
  have q3 : ((sl.length : Int) != tl.length) = false := by rw [bne_eq_false_iff_eq]; omega
  have HLn := Lib.hid hl
  have HNn := Lib.hid hn
  clear hall hs ht ho hl hs0 hn
  go_enter Tryz.func48, Tryz.ntmps48
  go_wp2
  go_loopw [17] (fun iv wr => ∃ k : Nat, k ≤ sl.length ∧ iv = .int .i64 k ∧ Hid (Kp h w wr ∧ HoldOk h (n + De.nds (sl.take k)) wr)) (fun iv _ => sl.length - (intOf iv).toNat)
  case atStart => exact ⟨0, Nat.zero_le _, rfl, Lib.hid ⟨Kp.refl _ _, HO.out.mono (by omega)⟩⟩
  case round =>
    obtain ⟨i, hi, rfl, H⟩ := hrel
    by_cases hlt : i < sl.length
    · have i1 : (i : Int) < sl.length := by omega
      have i2 : (i : Int) < tl.length := by have := HLn.out; omega
      obtain ⟨x, hx⟩ : ∃ x, sl[i]? = some x := ⟨sl[i], List.getElem?_eq_getElem hlt⟩
      obtain ⟨y, hy⟩ : ∃ y, tl[i]? = some y := ⟨tl[i]'(by have := HLn.out; omega), List.getElem?_eq_getElem (by have := HLn.out; omega)⟩
      obtain ⟨a, rfl, _, hrow⟩ := HS1.out.at hx
      obtain ⟨b, rfl, _, hrow'⟩ := HT1.out.at hy
      have hpa : (a.add (i * 18)).block < h := by
        rw [add_block2]
        exact isC_blk HS1.out.out (by intro e; have h1 := congrArg List.length e; simp only [List.length_map, List.length_nil] at h1; omega)
      have hpb : (b.add (i * 18)).block < h := by
        rw [add_block2]
        exact isC_blk HT1.out.out (by intro e; have h1 := congrArg List.length e; simp only [List.length_map, List.length_nil] at h1; have := HLn.out; omega)
      have hst := H.out.1.low HLo.out.1
      have hR : IsDe wr (fun b => b < h) (a.add (i * 18)) x := ⟨IsRow.stay hst _ _ hpa hrow.out⟩
      have hR' : IsDe wr (fun b => b < h) (b.add (i * 18)) y := ⟨IsRow.stay hst _ _ hpb hrow'.out⟩
      have HNd := Lib.hid (De.nds_upto sl i x hx)
      have HXY := Lib.hid (And.intro hpa (And.intro hpb (HI.out i x y hx hy)))
      have HR := Lib.hid (And.intro hR hR')
      clear hrow hrow' hx hy hpa hpb hst hR hR'
      go_wp2
      go_still_tail 8, (by kernel_rfl)
      change wpList _ _ _ _ _ wr.drew
      have hbd : Below wr.heap.size wr wr.drew := (Below.refl _ _).drew
      have HR2 := Lib.hid (And.intro (HR.out.1.on hbd) (HR.out.2.on hbd))
      have HK2 := Lib.hid (And.intro (H.out.1.trans (Kp.of_below H.out.2.hi.2 hbd)) (H.out.2.on hbd))
      clear hbd
      generalize wr.drew = w2 at HR2 HK2 ⊢
      go_wp2_with fail
      refine (HXY.out.2.2 _ _ w2 _ HK2.out.2 (by have := HNd.out; have := HNn.out; omega) HXY.out.1 HXY.out.2.1 HR2.out.1 HR2.out.2).mono ?_
      rintro e w3 ⟨rfl, hk3, ho3⟩
      have HN : Hid (Kp h w w3 ∧ HoldOk h (n + De.nds (sl.take (i + 1))) w3) := Lib.hid ⟨HK2.out.1.trans hk3, ho3.mono (by have := HNd.out; omega)⟩
      clear hk3 ho3 HK2
      go_wp2
      go_roundw
      case rel => exact ⟨i + 1, by omega, by go_num, HN⟩
      case measure => simp [intOf]; omega
    · have i1 : ¬ (i : Int) < sl.length := by omega
      have HF : Hid (HoldOk h (n + De.nds sl) wr) := Lib.hid (by
        have h1 := H.out.2
        rwa [show i = sl.length by omega, List.take_length] at h1)
      go_wp2
      go_ret
      exact ⟨rfl, H.out.1, HF.out⟩
end Go.Proofs.YtkdhoelabomgkaaGreatDoor
