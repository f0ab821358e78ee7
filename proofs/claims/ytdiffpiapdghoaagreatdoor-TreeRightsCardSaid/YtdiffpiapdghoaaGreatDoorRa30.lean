/- Texts of this proof, joined: Count, Add. No condition. -/
import Derived.Test.YtdiffpiapdghoaaGreatDoorRa24
/-
  Layer 3, the program's side: Size, Deep of trees of fewer than four hundred parts (nothing is put off).
-/
namespace Go.Proofs.YtdiffpiapdghoaaGreatDoor
set_option linter.unusedVariables false
open Go.ChangeShapes Go.WideShapes Go.ChangeAt Go.RowKit

-- how many expressions; the greatest level, from a level on, beside one so far
mutual
def Ex.sz : Ex → Nat
  | .mk _ _ _ _ l _ al ds => Ex.szs l + Al.szs al + De.szs ds + 1
def Ex.szs : List Ex → Nat
  | [] => 0
  | t :: r => t.sz + Ex.szs r
def Al.szs : List Al → Nat
  | [] => 0
  | .mk _ e :: r => e.sz + Al.szs r
def De.szs : List De → Nat
  | [] => 0
  | .mk k _ _ _ _ _ _ e :: r => (if k = 3 then e.sz else 0) + De.szs r
end
mutual
def Ex.dm : Ex → Int → Int → Int
  | .mk _ _ _ _ l _ al ds, lev, d => De.dms ds (lev + 1) (Al.dms al (lev + 1) (Ex.dms l (lev + 1) (max d lev)))
def Ex.dms : List Ex → Int → Int → Int
  | [], _, d => d
  | t :: r, lev, d => Ex.dms r lev (t.dm lev d)
def Al.dms : List Al → Int → Int → Int
  | [], _, d => d
  | .mk _ e :: r, lev, d => Al.dms r lev (e.dm lev d)
def De.dms : List De → Int → Int → Int
  | [], _, d => d
  | .mk k _ _ _ _ _ _ e :: r, lev, d => De.dms r lev (if k = 3 then e.dm lev d else d)
end
mutual
theorem Ex.sz_nd : ∀ t : Ex, t.sz ≤ t.nd
  | .mk _ _ _ _ l ps al ds => by
    unfold Ex.sz Ex.nd
    have := Ex.szs_nds l
    have := Al.szs_nds al
    have := De.szs_nds ds
    omega
theorem Ex.szs_nds : ∀ l : List Ex, Ex.szs l ≤ Ex.nds l
  | [] => Nat.zero_le _
  | t :: r => by unfold Ex.szs Ex.nds; have := Ex.sz_nd t; have := Ex.szs_nds r; omega
theorem Al.szs_nds : ∀ l : List Al, Al.szs l ≤ Al.nds l
  | [] => Nat.zero_le _
  | .mk p e :: r => by unfold Al.szs Al.nds Al.nd; have := Ex.sz_nd e; have := Al.szs_nds r; omega
theorem De.szs_nds : ∀ l : List De, De.szs l ≤ De.nds l
  | [] => Nat.zero_le _
  | .mk k p n vs cs t ps e :: r => by unfold De.szs De.nds De.nd; have := Ex.sz_nd e; have := De.szs_nds r; split <;> omega
end
theorem Ex.szs_at : ∀ (l : List Ex) (k : Nat) (t : Ex), l[k]? = some t → ∀ lev d, Ex.szs (l.take (k + 1)) = Ex.szs (l.take k) + t.sz ∧ Ex.dms (l.take (k + 1)) lev d = t.dm lev (Ex.dms (l.take k) lev d)
  | [], k, t, h, lev, d => by simp at h
  | x :: r, 0, t, h, lev, d => by simp at h; subst h; simp [Ex.szs, Ex.dms]
  | x :: r, k + 1, t, h, lev, d => by
    have := Ex.szs_at r k t (by simpa using h) lev (x.dm lev d)
    rw [List.take_succ_cons, List.take_succ_cons]
    unfold Ex.szs Ex.dms
    rw [this.1, this.2]
    exact ⟨by omega, rfl⟩
theorem Al.szs_at : ∀ (l : List Al) (k : Nat) (p : Pa) (e : Ex), l[k]? = some (.mk p e) → ∀ lev d, Al.szs (l.take (k + 1)) = Al.szs (l.take k) + e.sz ∧ Al.dms (l.take (k + 1)) lev d = e.dm lev (Al.dms (l.take k) lev d)
  | [], k, p, e, h, lev, d => by simp at h
  | x :: r, 0, p, e, h, lev, d => by simp at h; subst h; simp [Al.szs, Al.dms]
  | .mk q f :: r, k + 1, p, e, h, lev, d => by
    have := Al.szs_at r k p e (by simpa using h) lev (f.dm lev d)
    rw [List.take_succ_cons, List.take_succ_cons]
    unfold Al.szs Al.dms
    rw [this.1, this.2]
    exact ⟨by omega, rfl⟩
theorem De.szs_at : ∀ (l : List De) (i : Nat) (k p : Int) (n : ByteArray) (vs : List ByteArray) (cs : List Co) (t : Ty) (ps : List Pa) (e : Ex), l[i]? = some (.mk k p n vs cs t ps e) → ∀ lev d, De.szs (l.take (i + 1)) = De.szs (l.take i) + (if k = 3 then e.sz else 0) ∧ De.dms (l.take (i + 1)) lev d = (if k = 3 then e.dm lev (De.dms (l.take i) lev d) else De.dms (l.take i) lev d)
  | [], i, k, p, n, vs, cs, t, ps, e, h, lev, d => by simp at h
  | x :: r, 0, k, p, n, vs, cs, t, ps, e, h, lev, d => by simp at h; subst h; simp [De.szs, De.dms]
  | .mk k' p' n' vs' cs' t' ps' f :: r, i + 1, k, p, n, vs, cs, t, ps, e, h, lev, d => by
    have := De.szs_at r i k p n vs cs t ps e (by simpa using h) lev (if k' = 3 then f.dm lev d else d)
    rw [List.take_succ_cons, List.take_succ_cons]
    unfold De.szs De.dms
    rw [this.1, this.2]
    exact ⟨by omega, rfl⟩
/-- one block alone has changed -/
structure Turned (C : Nat) (cs : Array Value) (T : TypeId) (w w' : World) : Prop where
  at_ : w'.heap[C]? = some (.cells cs T (0, 0))
  other : ∀ j : Nat, j ≠ C → w'.heap[j]? = w.heap[j]?
  rest : w'.heap.size = w.heap.size ∧ w'.os = w.os ∧ w'.tape = w.tape ∧ w'.output = w.output
theorem Turned.trans {C : Nat} {cs cs' : Array Value} {T : TypeId} {w w1 w2 : World} (h : Turned C cs T w w1) (h2 : Turned C cs' T w1 w2) : Turned C cs' T w w2 :=
  ⟨h2.at_, fun j hj => (h2.other j hj).trans (h.other j hj), h2.rest.1.trans h.rest.1, h2.rest.2.1.trans h.rest.2.1, h2.rest.2.2.1.trans h.rest.2.2.1, h2.rest.2.2.2.trans h.rest.2.2.2⟩
theorem Turned.cell {C : Nat} {cs : Array Value} {T : TypeId} {w w' : World} (h : Turned C cs T w w') {A : Addr} (hA : A.block ≠ C) {v : Value} (hv : w.cell? A = some v) : w'.cell? A = some v := by
  rw [← hv]
  exact World.cell?_of_block (h.other A.block hA)
/-- the counter's cells: size, deep, later -/
def cnt (s d : Int) (lv : Value) : Array Value := #[.int .i64 s, .int .i64 d, lv]
/-- an expression is counted -/
def Adds (f : Nat) (e : Ex) (lev : Int) : Prop := ∀ (C : Nat) (a : Addr) (w : World) (s d : Int) (lv : Value), a.block ≠ C → IsEx w (fun b => b ≠ C) a e → w.heap[C]? = some (.cells (cnt s d lv) 113 (0, 0)) → 0 ≤ s → s + e.sz ≤ 1000000 →
  Calls Tryz.prog f #[.pointer (some ⟨C, 0, none⟩), .pointer (some a), .int .i64 lev] w fun e' w' => e' = .returned (.tuple #[]) ∧ Turned C (cnt (s + e.sz) (e.dm lev d) lv) 113 w w'
set_option maxHeartbeats 800000 in
set_option maxRecDepth 100000 in
theorem part_of_add (e : Ex) (lev : Int) (h0 : 1 ≤ lev) (h4 : lev ≤ 399) (ha : Adds 93 e lev) : Adds 109 e lev := by
  intro C a w s d lv hC he hc hs hs2
  have HA := Lib.hid (ha C a w s d lv hC he hc hs hs2)
  have hm : lev % 400 = lev := Int.emod_eq_of_lt (by omega) (by omega)
  have q1 : (lev % 400 == 0) = false := by rw [beq_eq_false_iff_ne, hm]; omega
  clear ha he hc hm
  go_enter Tryz.func109, Tryz.ntmps109
  go_wp2_with fail
  refine HA.out.mono ?_
  rintro e' w' ⟨rfl, hT⟩
  go_wp2
  go_end0
  exact ⟨rfl, hT⟩
end Go.Proofs.YtdiffpiapdghoaaGreatDoor
/-
  Layer 3, the program's side: add: an expression is counted, with all that is in it.
-/
namespace Go.Proofs.YtdiffpiapdghoaaGreatDoor
set_option linter.unusedVariables false
open Go.ChangeShapes Go.WideShapes Go.ChangeAt Go.RowKit

theorem IsExs.blk {P : Nat → Prop} {w : World} {b : Addr} {n cap : Nat} {l : List Ex} (h : IsExs w P (.slice (some b) n cap) l) (hl : l ≠ []) : P b.block := by
  have h := h.out
  unfold IsC at h
  rcases h with ⟨h1, _⟩ | ⟨a, c, h1, _, _, hp, _⟩
  · cases h1
  · injection h1 with e1
    injection e1 with e1
    subst e1
    exact hp (by intro e; exact hl (List.map_eq_nil_iff.1 e))
theorem IsAls.blk {P : Nat → Prop} {w : World} {b : Addr} {n cap : Nat} {l : List Al} (h : IsAls w P (.slice (some b) n cap) l) (hl : l ≠ []) : P b.block := by
  have h := h.out
  unfold IsC at h
  rcases h with ⟨h1, _⟩ | ⟨a, c, h1, _, _, hp, _⟩
  · cases h1
  · injection h1 with e1
    injection e1 with e1
    subst e1
    exact hp (by intro e; exact hl (List.map_eq_nil_iff.1 e))
theorem IsDes.blk {P : Nat → Prop} {w : World} {b : Addr} {n cap : Nat} {l : List De} (h : IsDes w P (.slice (some b) n cap) l) (hl : l ≠ []) : P b.block := by
  have h := h.out
  unfold IsC at h
  rcases h with ⟨h1, _⟩ | ⟨a, c, h1, _, _, hp, _⟩
  · cases h1
  · injection h1 with e1
    injection e1 with e1
    subst e1
    exact hp (by intro e; exact hl (List.map_eq_nil_iff.1 e))
def Al.body'' : Al → Ex
  | .mk _ e => e
theorem Ex.szs_take : ∀ (l : List Ex) (k : Nat), Ex.szs (l.take k) ≤ Ex.szs l
  | [], k => by simp
  | t :: r, 0 => by simp [Ex.szs]
  | t :: r, k + 1 => by rw [List.take_succ_cons]; unfold Ex.szs; have := Ex.szs_take r k; omega
theorem Al.szs_take : ∀ (l : List Al) (k : Nat), Al.szs (l.take k) ≤ Al.szs l
  | [], k => by simp
  | t :: r, 0 => by simp [Al.szs]
  | .mk p e :: r, k + 1 => by rw [List.take_succ_cons]; unfold Al.szs; have := Al.szs_take r k; omega
theorem De.szs_take : ∀ (l : List De) (k : Nat), De.szs (l.take k) ≤ De.szs l
  | [], k => by simp
  | t :: r, 0 => by simp [De.szs]
  | .mk e1 e2 e3 e4 e5 e6 e7 e :: r, k + 1 => by rw [List.take_succ_cons]; unfold De.szs; have := De.szs_take r k; omega
theorem Turned.stay {C : Nat} {cs : Array Value} {T : TypeId} {w w' : World} (h : Turned C cs T w w') : Stay (fun b => b ≠ C) w w' := fun b hb _ => h.other b hb
set_option maxHeartbeats 3200000 in
set_option maxRecDepth 100000 in
theorem add_step (xk xp xm : Int) (xn : ByteArray) (xl : List Ex) (xps : List Pa) (xal : List Al) (xds : List De) (lev : Int) (h0 : 1 ≤ lev) (h4 : lev ≤ 399)
    (hl : ∀ t ∈ xl, Adds 109 t (lev + 1)) (hal : ∀ t ∈ xal, Adds 109 t.body'' (lev + 1)) (hds : ∀ t ∈ xds, Adds 109 t.body' (lev + 1)) (hsz : Ex.szs xl + Al.szs xal + De.szs xds ≤ 1000) :
    Adds 93 (.mk xk xp xn xm xl xps xal xds) lev := by
  intro C a w s d lv hC he hc hs hs2
  unfold Ex.sz at hs2
  obtain ⟨_, _, _, _, _, ⟨a4, b4, c4, _, m4, x4⟩, _, ⟨a6, b6, c6, _, m6, x6⟩, ⟨a7, b7, c7, _, m7, x7⟩⟩ := he.cells
  have hm4 : (xl.length : Int) ≤ 9223372036854775807 := by unfold maxLen at m4; omega
  have hm6 : (xal.length : Int) ≤ 9223372036854775807 := by unfold maxLen at m6; omega
  have hm7 : (xds.length : Int) ≤ 9223372036854775807 := by unfold maxLen at m7; omega
  have C4 := Lib.hid c4
  have C6 := Lib.hid c6
  have C7 := Lib.hid c7
  have X4 := Lib.hid x4
  have X6 := Lib.hid x6
  have X7 := Lib.hid x7
  have HL := Lib.hid hl
  have HA := Lib.hid hal
  have HD := Lib.hid hds
  unfold cnt at hc
  have k0 : w.cell? ⟨C, 0, none⟩ = some (.int .i64 s) := by rw [Lib.cell_of_heap hc]; rfl
  have k1 : w.cell? ⟨C, 1, none⟩ = some (.int .i64 d) := by rw [Lib.cell_of_heap hc]; rfl
  have f0 : w.frozen? ⟨C, 0, none⟩ = false := Lib.frozen_of_heap hc 0
  have f1 : w.frozen? ⟨C, 1, none⟩ = false := Lib.frozen_of_heap hc 1
  have HC := Lib.hid hc
  clear hl hal hds he c4 c6 c7 x4 x6 x7 hc
  go_enter Tryz.func93, Tryz.ntmps93
  go_upto_region 2 with fail
  have hmax : (if d < lev then lev else d) = max d lev := by split <;> omega
  try rw [hmax]
  obtain ⟨D0, hD0⟩ : ∃ D0, D0 = max d lev := ⟨_, rfl⟩
  rw [← hD0]
  have HD0 := Lib.hid hD0
  have hT1 : Turned C (cnt (s + 1) D0 lv) 113 w ((w.setCell ⟨C, 0, none⟩ (.int .i64 (s + 1))).setCell ⟨C, 1, none⟩ (.int .i64 D0)) :=
    ⟨heap_setCell_same _ C 1 _ _ (.int .i64 D0) (heap_setCell_same w C 0 _ _ (.int .i64 (s + 1)) HC.out), fun j hj => by rw [heap_setCell_other _ _ _ _ hj, heap_setCell_other _ _ _ _ hj], by simp [World.setCell]⟩
  generalize (w.setCell ⟨C, 0, none⟩ (.int .i64 (s + 1))).setCell ⟨C, 1, none⟩ (.int .i64 D0) = W1 at hT1 ⊢
  clear k0 k1 f0 f1 hmax hD0
  have hT1a := hT1.other
  have HTo := Lib.hid hT1a
  clear hT1a
  have g4 : W1.cell? ⟨a.block, a.off + 4, none⟩ = some (.slice a4 xl.length b4) := hT1.cell (A := ⟨a.block, a.off + 4, none⟩) hC C4.out
  go_wp2
  clear g4
  go_loopw [6, 31] (fun _ iv wr => ∃ k : Nat, k ≤ xl.length ∧ iv = .int .i64 k ∧ Hid (Turned C (cnt (s + 1 + Ex.szs (xl.take k)) (Ex.dms (xl.take k) (lev + 1) D0) lv) 113 w wr)) (fun _ iv _ => xl.length - (intOf iv).toNat)
  case atStart => exact ⟨0, Nat.zero_le _, rfl, Lib.hid (by simpa [Ex.szs, Ex.dms] using hT1)⟩
  case round =>
    obtain ⟨k, hk, rfl, HT⟩ := hrel
    by_cases hlt : k < xl.length
    · have k1 : (k : Int) < xl.length := by omega
      obtain ⟨t, ht⟩ : ∃ t, xl[k]? = some t := ⟨xl[k], List.getElem?_eq_getElem hlt⟩
      obtain ⟨b, rfl, _, hrow⟩ := X4.out.at ht
      have hbC : b.block ≠ C := X4.out.blk (ne_nil hlt)
      have hbC' : (b.add (k * 8)).block ≠ C := by rw [add_block2]; exact hbC
      have hrow' : IsEx wr (fun b => b ≠ C) (b.add (k * 8)) t := ⟨IsRow.stay HT.out.stay _ _ hbC' hrow.out⟩
      have hst := Ex.szs_at xl k t ht (lev + 1) D0
      have hle : Ex.szs (xl.take k) + t.sz ≤ Ex.szs xl := by
        have h1 := Ex.szs_take xl (k + 1)
        omega
      have HAd := Lib.hid (HL.out t (List.mem_of_getElem? ht) C (b.add (k * 8)) wr _ _ lv hbC' hrow' HT.out.at_ (by omega) (by omega))
      have HN := Lib.hid hst
      have g4 : wr.cell? ⟨a.block, a.off + 4, none⟩ = some (.slice (some b) xl.length b4) := HT.out.cell (A := ⟨a.block, a.off + 4, none⟩) hC C4.out
      clear hrow hrow' ht hst hbC hbC'
      go_wp2_with fail
      refine HAd.out.mono ?_
      rintro e' w2 ⟨rfl, hT2⟩
      have HT2 : Hid (Turned C (cnt (s + 1 + Ex.szs (xl.take (k + 1))) (Ex.dms (xl.take (k + 1)) (lev + 1) D0) lv) 113 w w2) := Lib.hid (by
        have := HT.out.trans hT2
        rw [HN.out.1, HN.out.2]
        rw [show s + 1 + ((Ex.szs (xl.take k) + t.sz : Nat) : Int) = s + 1 + (Ex.szs (xl.take k) : Int) + (t.sz : Int) by push_cast; omega]
        exact this)
      clear hT2 g4
      go_wp2
      go_roundw
      case rel => exact ⟨k + 1, by omega, by go_num, HT2⟩
      case measure => simp [intOf]; omega
    · have hkk : k = xl.length := by omega
      have k1 : ¬ (k : Int) < xl.length := by omega
      obtain ⟨wA, hwA⟩ : ∃ wA, wA = wr := ⟨_, rfl⟩
      subst hwA
      have HTA : Hid (Turned C (cnt (s + 1 + Ex.szs xl) (Ex.dms xl (lev + 1) D0) lv) 113 w wA) := Lib.hid (by have := HT.out; rwa [hkk, List.take_length] at this)
      obtain ⟨D1, hD1⟩ : ∃ D1, D1 = Ex.dms xl (lev + 1) D0 := ⟨_, rfl⟩
      have HD1 := Lib.hid hD1
      have HTB : Hid (Turned C (cnt (s + 1 + Ex.szs xl) D1 lv) 113 w wA) := Lib.hid (by rw [hD1]; exact HTA.out)
      have g6 : wA.cell? ⟨a.block, a.off + 6, none⟩ = some (.slice a6 xal.length b6) := HTA.out.cell (A := ⟨a.block, a.off + 6, none⟩) hC C6.out
      clear hD1 hkk HT
      go_wp2
      clear g6
      go_loopw [7, 50] (fun _ iv wr => ∃ k : Nat, k ≤ xal.length ∧ iv = .int .i64 k ∧ Hid (Turned C (cnt (s + 1 + Ex.szs xl + Al.szs (xal.take k)) (Al.dms (xal.take k) (lev + 1) D1) lv) 113 w wr)) (fun _ iv _ => xal.length - (intOf iv).toNat)
      case atStart => exact ⟨0, Nat.zero_le _, rfl, Lib.hid (by simpa [Al.szs, Al.dms] using HTB.out)⟩
      case round =>
        obtain ⟨k, hk, rfl, HT⟩ := hrel
        by_cases hlt : k < xal.length
        · have k1 : (k : Int) < xal.length := by omega
          obtain ⟨t, ht⟩ : ∃ t, xal[k]? = some t := ⟨xal[k], List.getElem?_eq_getElem hlt⟩
          obtain ⟨b, rfl, _, hrow⟩ := X6.out.at ht
          have hmem := HA.out t (List.mem_of_getElem? ht)
          obtain ⟨p, e⟩ := t
          have hbC : b.block ≠ C := X6.out.blk (ne_nil hlt)
          have hbC' : (b.add (k * 13)).block ≠ C := by rw [add_block2]; exact hbC
          have hrow' : IsAl wr (fun b => b ≠ C) (b.add (k * 13)) (.mk p e) := ⟨IsRow.stay HT.out.stay _ _ hbC' hrow.out⟩
          have hst := Al.szs_at xal k p e ht (lev + 1) D1
          have hle : Al.szs (xal.take k) + e.sz ≤ Al.szs xal := by
            have h1 := Al.szs_take xal (k + 1)
            omega
          have hxle : Ex.szs xl ≤ 1000 := by omega
          have hbC5 : ((b.add (k * 13)).add 5).block ≠ C := by rw [add_block2]; exact hbC'
          have had := hmem C ((b.add (k * 13)).add 5) wr _ _ lv hbC5 hrow'.parts.2 HT.out.at_ (by omega) (by show _ + (e.sz : Int) ≤ _; omega)
          rw [add_off _ _ (by decide)] at had
          have HAd := Lib.hid had
          have HN := Lib.hid hst
          have g6 : wr.cell? ⟨a.block, a.off + 6, none⟩ = some (.slice (some b) xal.length b6) := HT.out.cell (A := ⟨a.block, a.off + 6, none⟩) hC C6.out
          clear hrow hrow' ht hst hbC hbC' hbC5 hmem had
          go_wp2_with fail
          refine HAd.out.mono ?_
          rintro e' w2 ⟨rfl, hT2⟩
          have HT2 : Hid (Turned C (cnt (s + 1 + Ex.szs xl + Al.szs (xal.take (k + 1))) (Al.dms (xal.take (k + 1)) (lev + 1) D1) lv) 113 w w2) := Lib.hid (by
            have := HT.out.trans hT2
            rw [HN.out.1, HN.out.2]
            rw [show s + 1 + (Ex.szs xl : Int) + ((Al.szs (xal.take k) + e.sz : Nat) : Int) = s + 1 + (Ex.szs xl : Int) + (Al.szs (xal.take k) : Int) + (e.sz : Int) by push_cast; omega]
            exact this)
          clear hT2 g6
          go_wp2
          go_roundw
          case rel => exact ⟨k + 1, by omega, by go_num, HT2⟩
          case measure => simp [intOf]; omega
        · have hkk : k = xal.length := by omega
          have k1 : ¬ (k : Int) < xal.length := by omega
          obtain ⟨wB, hwB⟩ : ∃ wB, wB = wr := ⟨_, rfl⟩
          subst hwB
          obtain ⟨D2, hD2⟩ : ∃ D2, D2 = Al.dms xal (lev + 1) D1 := ⟨_, rfl⟩
          have HD2 := Lib.hid hD2
          have HTB2 : Hid (Turned C (cnt (s + 1 + Ex.szs xl + Al.szs xal) D2 lv) 113 w wB) := Lib.hid (by have := HT.out; rw [hkk, List.take_length] at this; rw [hD2]; exact this)
          have g7 : wB.cell? ⟨a.block, a.off + 7, none⟩ = some (.slice a7 xds.length b7) := HTB2.out.cell (A := ⟨a.block, a.off + 7, none⟩) hC C7.out
          clear hD2 hkk HT
          go_wp2
          clear g7
          go_loopw [8, 70] (fun _ iv wr => ∃ k : Nat, k ≤ xds.length ∧ iv = .int .i64 k ∧ Hid (Turned C (cnt (s + 1 + Ex.szs xl + Al.szs xal + De.szs (xds.take k)) (De.dms (xds.take k) (lev + 1) D2) lv) 113 w wr)) (fun _ iv _ => xds.length - (intOf iv).toNat)
          case atStart => exact ⟨0, Nat.zero_le _, rfl, Lib.hid (by simpa [De.szs, De.dms] using HTB2.out)⟩
          case round =>
            obtain ⟨k, hk, rfl, HT⟩ := hrel
            by_cases hlt : k < xds.length
            · have k1 : (k : Int) < xds.length := by omega
              obtain ⟨t, ht⟩ : ∃ t, xds[k]? = some t := ⟨xds[k], List.getElem?_eq_getElem hlt⟩
              obtain ⟨b, rfl, _, hrow⟩ := X7.out.at ht
              have hmem := HD.out t (List.mem_of_getElem? ht)
              obtain ⟨e1, e2, e3, e4, e5, e6, e7, e⟩ := t
              have hbC : b.block ≠ C := X7.out.blk (ne_nil hlt)
              have hbC' : (b.add (k * 18)).block ≠ C := by rw [add_block2]; exact hbC
              have hrow' : IsDe wr (fun b => b ≠ C) (b.add (k * 18)) (.mk e1 e2 e3 e4 e5 e6 e7 e) := ⟨IsRow.stay HT.out.stay _ _ hbC' hrow.out⟩
              have hst := De.szs_at xds k e1 e2 e3 e4 e5 e6 e7 e ht (lev + 1) D2
              have hle : De.szs (xds.take k) + (if e1 = 3 then e.sz else 0) ≤ De.szs xds := by
                have h1 := De.szs_take xds (k + 1)
                omega
              have hxle : Ex.szs xl ≤ 1000 := by omega
              have hale : Al.szs xal ≤ 1000 := by omega
              have hbC5 : ((b.add (k * 18)).add 10).block ≠ C := by rw [add_block2]; exact hbC'
              obtain ⟨y0, _, _, _, _, _, _, _, ye⟩ := hrow'.cells
              have had := fun (h3 : e1 = 3) => hmem C ((b.add (k * 18)).add 10) wr _ _ lv hbC5 ye HT.out.at_ (by omega) (by rw [if_pos h3] at hle; show _ + (e.sz : Int) ≤ _; omega)
              rw [add_off _ _ (by decide)] at had
              have HAd := Lib.hid had
              have HN := Lib.hid hst
              have g7 : wr.cell? ⟨a.block, a.off + 7, none⟩ = some (.slice (some b) xds.length b7) := HT.out.cell (A := ⟨a.block, a.off + 7, none⟩) hC C7.out
              clear hrow hrow' ht hst hbC hbC' hbC5 hmem had ye
              by_cases hk3 : e1 = 3
              · have q3 : (e1 == 3) = true := by rw [beq_iff_eq]; exact hk3
                have HT3 : ∀ w2, Turned C (cnt (s + 1 + Ex.szs xl + Al.szs xal + De.szs (xds.take k) + e.sz) (e.dm (lev + 1) (De.dms (xds.take k) (lev + 1) D2)) lv) 113 wr w2 → Turned C (cnt (s + 1 + Ex.szs xl + Al.szs xal + De.szs (xds.take (k + 1))) (De.dms (xds.take (k + 1)) (lev + 1) D2) lv) 113 w w2 := fun w2 hT2 => by
                  have := HT.out.trans hT2
                  rw [HN.out.1, HN.out.2, if_pos hk3, if_pos hk3]
                  rw [show s + 1 + (Ex.szs xl : Int) + (Al.szs xal : Int) + ((De.szs (xds.take k) + e.sz : Nat) : Int) = s + 1 + (Ex.szs xl : Int) + (Al.szs xal : Int) + (De.szs (xds.take k) : Int) + (e.sz : Int) by push_cast; omega]
                  exact this
                have HT4 := Lib.hid HT3
                have HK3 := Lib.hid hk3
                clear hk3 HT3
                go_wp2_with fail
                refine (HAd.out HK3.out).mono ?_
                rintro e' w2 ⟨rfl, hT2⟩
                have HT2 := Lib.hid (HT4.out w2 hT2)
                clear hT2 g7 y0
                go_wp2
                go_roundw
                case rel => exact ⟨k + 1, by omega, by go_num, HT2⟩
                case measure => simp [intOf]; omega
              · have q3 : (e1 == 3) = false := by rw [beq_eq_false_iff_ne]; exact hk3
                have HT2 : Hid (Turned C (cnt (s + 1 + Ex.szs xl + Al.szs xal + De.szs (xds.take (k + 1))) (De.dms (xds.take (k + 1)) (lev + 1) D2) lv) 113 w wr) := Lib.hid (by
                  rw [HN.out.1, HN.out.2, if_neg hk3, if_neg hk3, Nat.add_zero]
                  exact HT.out)
                clear hk3
                go_wp2
                go_roundw
                case rel => exact ⟨k + 1, by omega, by go_num, HT2⟩
                case measure => simp [intOf]; omega
            · have hkk : k = xds.length := by omega
              have k1 : ¬ (k : Int) < xds.length := by omega
              have HTF : Hid (Turned C (cnt (s + (Ex.sz (.mk xk xp xn xm xl xps xal xds) : Nat)) (Ex.dm (.mk xk xp xn xm xl xps xal xds) lev d) lv) 113 w wr) := Lib.hid (by
                have := HT.out
                rw [hkk, List.take_length] at this
                unfold Ex.sz Ex.dm
                rw [← HD0.out, ← HD1.out, ← HD2.out]
                rw [show s + ((Ex.szs xl + Al.szs xal + De.szs xds + 1 : Nat) : Int) = s + 1 + (Ex.szs xl : Int) + (Al.szs xal : Int) + (De.szs xds : Int) by push_cast; omega]
                exact this)
              go_wp2
              go_end0
              exact ⟨rfl, HTF.out⟩
end Go.Proofs.YtdiffpiapdghoaaGreatDoor
