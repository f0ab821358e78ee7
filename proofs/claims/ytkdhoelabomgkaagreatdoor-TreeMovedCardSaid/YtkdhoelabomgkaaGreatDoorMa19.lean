/- Texts of this proof, joined: Add. No condition. -/
import Derived.Test.YtkdhoelabomgkaaGreatDoorMa18
/-
  Layer 3, the program's side: add: an expression is counted, with all that is in it.
-/
namespace Go.Proofs.YtkdhoelabomgkaaGreatDoor
set_option linter.unusedVariables false
open Go.ChangeShapes Go.WideShapes Go.ChangeAt Go.RowKit

theorem IsExs.blk {P : Nat → Prop} {w : World} {b : Addr} {n cap : Nat} {l : List Ex} (h : IsExs w P (.slice (some b) n cap) l) (hl : l ≠ []) : P b.block := by
  have h := h.out
  unfold IsC at h
  rcases h with ⟨h1, _⟩ | ⟨a, c, h1, _, _, hp, _⟩
  · cases h1
  · injection h1 with e1
    injection e1 with e1
    subst e1
    exact hp (by intro e; exact hl (List.map_eq_nil_iff.1 e))
theorem IsAls.blk {P : Nat → Prop} {w : World} {b : Addr} {n cap : Nat} {l : List Al} (h : IsAls w P (.slice (some b) n cap) l) (hl : l ≠ []) : P b.block := by
  have h := h.out
  unfold IsC at h
  rcases h with ⟨h1, _⟩ | ⟨a, c, h1, _, _, hp, _⟩
  · cases h1
  · injection h1 with e1
    injection e1 with e1
    subst e1
    exact hp (by intro e; exact hl (List.map_eq_nil_iff.1 e))
theorem IsDes.blk {P : Nat → Prop} {w : World} {b : Addr} {n cap : Nat} {l : List De} (h : IsDes w P (.slice (some b) n cap) l) (hl : l ≠ []) : P b.block := by
  have h := h.out
  unfold IsC at h
  rcases h with ⟨h1, _⟩ | ⟨a, c, h1, _, _, hp, _⟩
  · cases h1
  · injection h1 with e1
    injection e1 with e1
    subst e1
    exact hp (by intro e; exact hl (List.map_eq_nil_iff.1 e))
def Al.body'' : Al → Ex
  | .mk _ e => e
theorem Ex.szs_take : ∀ (l : List Ex) (k : Nat), Ex.szs (l.take k) ≤ Ex.szs l
  | [], k => by simp
  | t :: r, 0 => by simp [Ex.szs]
  | t :: r, k + 1 => by rw [List.take_succ_cons]; unfold Ex.szs; have := Ex.szs_take r k; omega
theorem Al.szs_take : ∀ (l : List Al) (k : Nat), Al.szs (l.take k) ≤ Al.szs l
  | [], k => by simp
  | t :: r, 0 => by simp [Al.szs]
  | .mk p e :: r, k + 1 => by rw [List.take_succ_cons]; unfold Al.szs; have := Al.szs_take r k; omega
theorem De.szs_take : ∀ (l : List De) (k : Nat), De.szs (l.take k) ≤ De.szs l
  | [], k => by simp
  | t :: r, 0 => by simp [De.szs]
  | .mk e1 e2 e3 e4 e5 e6 e7 e :: r, k + 1 => by rw [List.take_succ_cons]; unfold De.szs; have := De.szs_take r k; omega
theorem Turned.stay {C : Nat} {cs : Array Value} {T : TypeId} {w w' : World} (h : Turned C cs T w w') : Stay (fun b => b ≠ C) w w' := fun b hb _ => h.other b hb
set_option maxHeartbeats 3200000 in
set_option maxRecDepth 100000 in
theorem add_step (xk xp xm : Int) (xn : ByteArray) (xl : List Ex) (xps : List Pa) (xal : List Al) (xds : List De) (lev : Int) (h0 : 1 ≤ lev) (h4 : lev ≤ 798)
    (hl : ∀ t ∈ xl, Adds 109 t (lev + 1)) (hal : ∀ t ∈ xal, Adds 109 t.body'' (lev + 1)) (hds : ∀ t ∈ xds, Adds 109 t.body' (lev + 1)) (hsz : Ex.szs xl + Al.szs xal + De.szs xds ≤ 1000) :
    Adds 93 (.mk xk xp xn xm xl xps xal xds) lev := by
  intro C a w s d lv hC he hc hs hs2
  unfold Ex.sz at hs2
  obtain ⟨_, _, _, _, _, ⟨a4, b4, c4, _, m4, x4⟩, _, ⟨a6, b6, c6, _, m6, x6⟩, ⟨a7, b7, c7, _, m7, x7⟩⟩ := he.cells
  have hm4 : (xl.length : Int) ≤ 9223372036854775807 := by unfold maxLen at m4; omega
  have hm6 : (xal.length : Int) ≤ 9223372036854775807 := by unfold maxLen at m6; omega
  have hm7 : (xds.length : Int) ≤ 9223372036854775807 := by unfold maxLen at m7; omega
  have C4 := Lib.hid c4
  have C6 := Lib.hid c6
  have C7 := Lib.hid c7
  have X4 := Lib.hid x4
  have X6 := Lib.hid x6
  have X7 := Lib.hid x7
  have HL := Lib.hid hl
  have HA := Lib.hid hal
  have HD := Lib.hid hds
  unfold cnt at hc
  have k0 : w.cell? ⟨C, 0, none⟩ = some (.int .i64 s) := by rw [Lib.cell_of_heap hc]; rfl
  have k1 : w.cell? ⟨C, 1, none⟩ = some (.int .i64 d) := by rw [Lib.cell_of_heap hc]; rfl
  have f0 : w.frozen? ⟨C, 0, none⟩ = false := Lib.frozen_of_heap hc 0
  have f1 : w.frozen? ⟨C, 1, none⟩ = false := Lib.frozen_of_heap hc 1
  have HC := Lib.hid hc
  clear hl hal hds he c4 c6 c7 x4 x6 x7 hc
  go_enter Tryz.func93, Tryz.ntmps93
  go_upto_region 2 with fail
  have hmax : (if d < lev then lev else d) = max d lev := by split <;> omega
  try rw [hmax]
  obtain ⟨D0, hD0⟩ : ∃ D0, D0 = max d lev := ⟨_, rfl⟩
  rw [← hD0]
  have HD0 := Lib.hid hD0
  have hT1 : Turned C (cnt (s + 1) D0 lv) 113 w ((w.setCell ⟨C, 0, none⟩ (.int .i64 (s + 1))).setCell ⟨C, 1, none⟩ (.int .i64 D0)) :=
    ⟨heap_setCell_same _ C 1 _ _ (.int .i64 D0) (heap_setCell_same w C 0 _ _ (.int .i64 (s + 1)) HC.out), fun j hj => by rw [heap_setCell_other _ _ _ _ hj, heap_setCell_other _ _ _ _ hj], by simp [World.setCell]⟩
  generalize (w.setCell ⟨C, 0, none⟩ (.int .i64 (s + 1))).setCell ⟨C, 1, none⟩ (.int .i64 D0) = W1 at hT1 ⊢
  clear k0 k1 f0 f1 hmax hD0
  have hT1a := hT1.other
  have HTo := Lib.hid hT1a
  clear hT1a
  have g4 : W1.cell? ⟨a.block, a.off + 4, none⟩ = some (.slice a4 xl.length b4) := hT1.cell (A := ⟨a.block, a.off + 4, none⟩) hC C4.out
  go_wp2
  clear g4
  go_loopw [6, 31] (fun _ iv wr => ∃ k : Nat, k ≤ xl.length ∧ iv = .int .i64 k ∧ Hid (Turned C (cnt (s + 1 + Ex.szs (xl.take k)) (Ex.dms (xl.take k) (lev + 1) D0) lv) 113 w wr)) (fun _ iv _ => xl.length - (intOf iv).toNat)
  case atStart => exact ⟨0, Nat.zero_le _, rfl, Lib.hid (by simpa [Ex.szs, Ex.dms] using hT1)⟩
  case round =>
    obtain ⟨k, hk, rfl, HT⟩ := hrel
    by_cases hlt : k < xl.length
    · have k1 : (k : Int) < xl.length := by omega
      obtain ⟨t, ht⟩ : ∃ t, xl[k]? = some t := ⟨xl[k], List.getElem?_eq_getElem hlt⟩
      obtain ⟨b, rfl, _, hrow⟩ := X4.out.at ht
      have hbC : b.block ≠ C := X4.out.blk (ne_nil hlt)
      have hbC' : (b.add (k * 8)).block ≠ C := by rw [add_block2]; exact hbC
      have hrow' : IsEx wr (fun b => b ≠ C) (b.add (k * 8)) t := ⟨IsRow.stay HT.out.stay _ _ hbC' hrow.out⟩
      have hst := Ex.szs_at xl k t ht (lev + 1) D0
      have hle : Ex.szs (xl.take k) + t.sz ≤ Ex.szs xl := by
        have h1 := Ex.szs_take xl (k + 1)
        omega
      have HAd := Lib.hid (HL.out t (List.mem_of_getElem? ht) C (b.add (k * 8)) wr _ _ lv hbC' hrow' HT.out.at_ (by omega) (by omega))
      have HN := Lib.hid hst
      have g4 : wr.cell? ⟨a.block, a.off + 4, none⟩ = some (.slice (some b) xl.length b4) := HT.out.cell (A := ⟨a.block, a.off + 4, none⟩) hC C4.out
      clear hrow hrow' ht hst hbC hbC'
      go_wp2_with fail
      refine HAd.out.mono ?_
      rintro e' w2 ⟨rfl, hT2⟩
      have HT2 : Hid (Turned C (cnt (s + 1 + Ex.szs (xl.take (k + 1))) (Ex.dms (xl.take (k + 1)) (lev + 1) D0) lv) 113 w w2) := Lib.hid (by
        have := HT.out.trans hT2
        rw [HN.out.1, HN.out.2]
        rw [show s + 1 + ((Ex.szs (xl.take k) + t.sz : Nat) : Int) = s + 1 + (Ex.szs (xl.take k) : Int) + (t.sz : Int) by push_cast; omega]
        exact this)
      clear hT2 g4
      go_wp2
      go_roundw
      case rel => exact ⟨k + 1, by omega, by go_num, HT2⟩
      case measure => simp [intOf]; omega
    · have hkk : k = xl.length := by omega
      have k1 : ¬ (k : Int) < xl.length := by omega
      obtain ⟨wA, hwA⟩ : ∃ wA, wA = wr := ⟨_, rfl⟩
      subst hwA
      have HTA : Hid (Turned C (cnt (s + 1 + Ex.szs xl) (Ex.dms xl (lev + 1) D0) lv) 113 w wA) := Lib.hid (by have := HT.out; rwa [hkk, List.take_length] at this)
      obtain ⟨D1, hD1⟩ : ∃ D1, D1 = Ex.dms xl (lev + 1) D0 := ⟨_, rfl⟩
      have HD1 := Lib.hid hD1
      have HTB : Hid (Turned C (cnt (s + 1 + Ex.szs xl) D1 lv) 113 w wA) := Lib.hid (by rw [hD1]; exact HTA.out)
      have g6 : wA.cell? ⟨a.block, a.off + 6, none⟩ = some (.slice a6 xal.length b6) := HTA.out.cell (A := ⟨a.block, a.off + 6, none⟩) hC C6.out
      clear hD1 hkk HT
      go_wp2
      clear g6
      go_loopw [7, 50] (fun _ iv wr => ∃ k : Nat, k ≤ xal.length ∧ iv = .int .i64 k ∧ Hid (Turned C (cnt (s + 1 + Ex.szs xl + Al.szs (xal.take k)) (Al.dms (xal.take k) (lev + 1) D1) lv) 113 w wr)) (fun _ iv _ => xal.length - (intOf iv).toNat)
      case atStart => exact ⟨0, Nat.zero_le _, rfl, Lib.hid (by simpa [Al.szs, Al.dms] using HTB.out)⟩
      case round =>
        obtain ⟨k, hk, rfl, HT⟩ := hrel
        by_cases hlt : k < xal.length
        · have k1 : (k : Int) < xal.length := by omega
          obtain ⟨t, ht⟩ : ∃ t, xal[k]? = some t := ⟨xal[k], List.getElem?_eq_getElem hlt⟩
          obtain ⟨b, rfl, _, hrow⟩ := X6.out.at ht
          have hmem := HA.out t (List.mem_of_getElem? ht)
          obtain ⟨p, e⟩ := t
          have hbC : b.block ≠ C := X6.out.blk (ne_nil hlt)
          have hbC' : (b.add (k * 13)).block ≠ C := by rw [add_block2]; exact hbC
          have hrow' : IsAl wr (fun b => b ≠ C) (b.add (k * 13)) (.mk p e) := ⟨IsRow.stay HT.out.stay _ _ hbC' hrow.out⟩
          have hst := Al.szs_at xal k p e ht (lev + 1) D1
          have hle : Al.szs (xal.take k) + e.sz ≤ Al.szs xal := by
            have h1 := Al.szs_take xal (k + 1)
            omega
          have hxle : Ex.szs xl ≤ 1000 := by omega
          have hbC5 : ((b.add (k * 13)).add 5).block ≠ C := by rw [add_block2]; exact hbC'
          have had := hmem C ((b.add (k * 13)).add 5) wr _ _ lv hbC5 hrow'.parts.2 HT.out.at_ (by omega) (by show _ + (e.sz : Int) ≤ _; omega)
          rw [add_off _ _ (by decide)] at had
          have HAd := Lib.hid had
          have HN := Lib.hid hst
          have g6 : wr.cell? ⟨a.block, a.off + 6, none⟩ = some (.slice (some b) xal.length b6) := HT.out.cell (A := ⟨a.block, a.off + 6, none⟩) hC C6.out
          clear hrow hrow' ht hst hbC hbC' hbC5 hmem had
          go_wp2_with fail
          refine HAd.out.mono ?_
          rintro e' w2 ⟨rfl, hT2⟩
          have HT2 : Hid (Turned C (cnt (s + 1 + Ex.szs xl + Al.szs (xal.take (k + 1))) (Al.dms (xal.take (k + 1)) (lev + 1) D1) lv) 113 w w2) := Lib.hid (by
            have := HT.out.trans hT2
            rw [HN.out.1, HN.out.2]
            rw [show s + 1 + (Ex.szs xl : Int) + ((Al.szs (xal.take k) + e.sz : Nat) : Int) = s + 1 + (Ex.szs xl : Int) + (Al.szs (xal.take k) : Int) + (e.sz : Int) by push_cast; omega]
            exact this)
          clear hT2 g6
          go_wp2
          go_roundw
          case rel => exact ⟨k + 1, by omega, by go_num, HT2⟩
          case measure => simp [intOf]; omega
        · have hkk : k = xal.length := by omega
          have k1 : ¬ (k : Int) < xal.length := by omega
          obtain ⟨wB, hwB⟩ : ∃ wB, wB = wr := ⟨_, rfl⟩
          subst hwB
          obtain ⟨D2, hD2⟩ : ∃ D2, D2 = Al.dms xal (lev + 1) D1 := ⟨_, rfl⟩
          have HD2 := Lib.hid hD2
          have HTB2 : Hid (Turned C (cnt (s + 1 + Ex.szs xl + Al.szs xal) D2 lv) 113 w wB) := Lib.hid (by have := HT.out; rw [hkk, List.take_length] at this; rw [hD2]; exact this)
          have g7 : wB.cell? ⟨a.block, a.off + 7, none⟩ = some (.slice a7 xds.length b7) := HTB2.out.cell (A := ⟨a.block, a.off + 7, none⟩) hC C7.out
          clear hD2 hkk HT
          go_wp2
          clear g7
          go_loopw [8, 70] (fun _ iv wr => ∃ k : Nat, k ≤ xds.length ∧ iv = .int .i64 k ∧ Hid (Turned C (cnt (s + 1 + Ex.szs xl + Al.szs xal + De.szs (xds.take k)) (De.dms (xds.take k) (lev + 1) D2) lv) 113 w wr)) (fun _ iv _ => xds.length - (intOf iv).toNat)
          case atStart => exact ⟨0, Nat.zero_le _, rfl, Lib.hid (by simpa [De.szs, De.dms] using HTB2.out)⟩
          case round =>
            obtain ⟨k, hk, rfl, HT⟩ := hrel
            by_cases hlt : k < xds.length
            · have k1 : (k : Int) < xds.length := by omega
              obtain ⟨t, ht⟩ : ∃ t, xds[k]? = some t := ⟨xds[k], List.getElem?_eq_getElem hlt⟩
              obtain ⟨b, rfl, _, hrow⟩ := X7.out.at ht
              have hmem := HD.out t (List.mem_of_getElem? ht)
              obtain ⟨e1, e2, e3, e4, e5, e6, e7, e⟩ := t
              have hbC : b.block ≠ C := X7.out.blk (ne_nil hlt)
              have hbC' : (b.add (k * 18)).block ≠ C := by rw [add_block2]; exact hbC
              have hrow' : IsDe wr (fun b => b ≠ C) (b.add (k * 18)) (.mk e1 e2 e3 e4 e5 e6 e7 e) := ⟨IsRow.stay HT.out.stay _ _ hbC' hrow.out⟩
              have hst := De.szs_at xds k e1 e2 e3 e4 e5 e6 e7 e ht (lev + 1) D2
              have hle : De.szs (xds.take k) + (if e1 = 3 then e.sz else 0) ≤ De.szs xds := by
                have h1 := De.szs_take xds (k + 1)
                omega
              have hxle : Ex.szs xl ≤ 1000 := by omega
              have hale : Al.szs xal ≤ 1000 := by omega
              have hbC5 : ((b.add (k * 18)).add 10).block ≠ C := by rw [add_block2]; exact hbC'
              obtain ⟨y0, _, _, _, _, _, _, _, ye⟩ := hrow'.cells
              have had := fun (h3 : e1 = 3) => hmem C ((b.add (k * 18)).add 10) wr _ _ lv hbC5 ye HT.out.at_ (by omega) (by rw [if_pos h3] at hle; show _ + (e.sz : Int) ≤ _; omega)
              rw [add_off _ _ (by decide)] at had
              have HAd := Lib.hid had
              have HN := Lib.hid hst
              have g7 : wr.cell? ⟨a.block, a.off + 7, none⟩ = some (.slice (some b) xds.length b7) := HT.out.cell (A := ⟨a.block, a.off + 7, none⟩) hC C7.out
              clear hrow hrow' ht hst hbC hbC' hbC5 hmem had ye
              by_cases hk3 : e1 = 3
              · have q3 : (e1 == 3) = true := by rw [beq_iff_eq]; exact hk3
                have HT3 : ∀ w2, Turned C (cnt (s + 1 + Ex.szs xl + Al.szs xal + De.szs (xds.take k) + e.sz) (e.dm (lev + 1) (De.dms (xds.take k) (lev + 1) D2)) lv) 113 wr w2 → Turned C (cnt (s + 1 + Ex.szs xl + Al.szs xal + De.szs (xds.take (k + 1))) (De.dms (xds.take (k + 1)) (lev + 1) D2) lv) 113 w w2 := fun w2 hT2 => by
                  have := HT.out.trans hT2
                  rw [HN.out.1, HN.out.2, if_pos hk3, if_pos hk3]
                  rw [show s + 1 + (Ex.szs xl : Int) + (Al.szs xal : Int) + ((De.szs (xds.take k) + e.sz : Nat) : Int) = s + 1 + (Ex.szs xl : Int) + (Al.szs xal : Int) + (De.szs (xds.take k) : Int) + (e.sz : Int) by push_cast; omega]
                  exact this
                have HT4 := Lib.hid HT3
                have HK3 := Lib.hid hk3
                clear hk3 HT3
                go_wp2_with fail
                refine (HAd.out HK3.out).mono ?_
                rintro e' w2 ⟨rfl, hT2⟩
                have HT2 := Lib.hid (HT4.out w2 hT2)
                clear hT2 g7 y0
                go_wp2
                go_roundw
                case rel => exact ⟨k + 1, by omega, by go_num, HT2⟩
                case measure => simp [intOf]; omega
              · have q3 : (e1 == 3) = false := by rw [beq_eq_false_iff_ne]; exact hk3
                have HT2 : Hid (Turned C (cnt (s + 1 + Ex.szs xl + Al.szs xal + De.szs (xds.take (k + 1))) (De.dms (xds.take (k + 1)) (lev + 1) D2) lv) 113 w wr) := Lib.hid (by
                  rw [HN.out.1, HN.out.2, if_neg hk3, if_neg hk3, Nat.add_zero]
                  exact HT.out)
                clear hk3
                go_wp2
                go_roundw
                case rel => exact ⟨k + 1, by omega, by go_num, HT2⟩
                case measure => simp [intOf]; omega
            · have hkk : k = xds.length := by omega
              have k1 : ¬ (k : Int) < xds.length := by omega
              have HTF : Hid (Turned C (cnt (s + (Ex.sz (.mk xk xp xn xm xl xps xal xds) : Nat)) (Ex.dm (.mk xk xp xn xm xl xps xal xds) lev d) lv) 113 w wr) := Lib.hid (by
                have := HT.out
                rw [hkk, List.take_length] at this
                unfold Ex.sz Ex.dm
                rw [← HD0.out, ← HD1.out, ← HD2.out]
                rw [show s + ((Ex.szs xl + Al.szs xal + De.szs xds + 1 : Nat) : Int) = s + 1 + (Ex.szs xl : Int) + (Al.szs xal : Int) + (De.szs xds : Int) by push_cast; omega]
                exact this)
              go_wp2
              go_end0
              exact ⟨rfl, HTF.out⟩
end Go.Proofs.YtkdhoelabomgkaaGreatDoor
