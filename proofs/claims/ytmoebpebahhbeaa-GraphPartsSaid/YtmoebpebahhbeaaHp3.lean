/-
  Layer 7, the program's side: container/heap: down.
-/
import Derived.Test.YtmoebpebahhbeaaHp2
namespace Go.Proofs.Ytmoebpebahhbeaa
set_option linter.unusedVariables false
open Go.ChangeShapes Go.WideShapes Go.ChangeAt Go.RowKit

/-- places from n on hold what they held -/
def Tail (n : Nat) (Z0 Z : List Nat) : Prop := ∀ x, n ≤ x → at0 Z x = at0 Z0 x
theorem Tail.swp {n i j : Nat} {Z0 Z : List Nat} (h : Tail n Z0 Z) (hi : i < n) (hj : j < n) (hn : n ≤ Z.length) : Tail n Z0 (Go.Proofs.Ytmoebpebahhbeaa.swp Z i j) := fun x hx => by
  rw [swp_at (by omega) (by omega), if_neg (by omega), if_neg (by omega)]
  exact h x hx
set_option maxHeartbeats 2000000 in
set_option maxRecDepth 100000 in
theorem down_any {B h n m g cap : Nat} {O : Nat → Nat} {gval : Nat → Value} {key : Nat → Nat} {ok : Nat → Prop} {Z : List Nat} {w : World} (hh : HRep B O h gval (.slice (some ⟨g, 0, none⟩) m cap) Z w) (hm : m = Z.length) (hk : Keys w O gval key ok) (hZ : ∀ i ∈ Z, ok i) (hg : ∀ i, ∃ a m c, gval i = .slice a m c)
    (hn : n ≤ m) (hd : DownOk key Z n 0) (hl : m ≤ 100000) :
    Calls Try.prog 39 #[.iface 65 (.pointer (some ⟨h, 0, none⟩)), .int .i64 0, .int .i64 (n : Int)] w fun e w' => (∃ b, e = .returned (.bool b)) ∧ ∃ Z', Sift B O h gval key ok (.slice (some ⟨g, 0, none⟩) m cap) Z Z' w w' ∧ HeapOk key Z' n ∧ Tail n Z Z' := by
  have hs0 : Sift B O h gval key ok (.slice (some ⟨g, 0, none⟩) m cap) Z Z w w := ⟨hh, hk, List.Perm.refl _, Fx.refl _ w⟩
  have S0 := Lib.hid hs0
  have HD := Lib.hid hd
  have HZ := Lib.hid hZ
  have HG := Lib.hid hg
  have HM := Lib.hid hm
  clear hh hk hs0 hd hZ hg hm
  have ml := fun (w : World) => meth_less w h (.slice (some ⟨g, 0, none⟩) m cap)
  have ms := fun (w : World) => meth_swap w h (.slice (some ⟨g, 0, none⟩) m cap)
  go_enter Try.func39, Try.ntmps39
  go_wp2_with fail
  go_loopw [7] (fun v wr => ∃ (i : Nat) (Z1 : List Nat), i ≤ n ∧ v = .int .i64 (i : Int) ∧ Sift B O h gval key ok (.slice (some ⟨g, 0, none⟩) m cap) Z Z1 w wr ∧ DownOk key Z1 n i ∧ Tail n Z Z1) (fun v _ => n - (intOf v).toNat)
  case atStart => exact ⟨0, Z, Nat.zero_le _, rfl, S0.out, HD.out, fun _ _ => rfl⟩
  case round =>
    obtain ⟨i, Z1, hin, rfl, hs, hd, ht⟩ := hrel
    have HS := Lib.hid hs
    have HD1 := Lib.hid hd
    have HT := Lib.hid ht
    have hc := hs.rep.c0
    have hlen := hs.len
    have hn1 : m = Z1.length := by rw [hlen]; exact HM.out
    have HN1 := Lib.hid hn1
    have HZ1 := Lib.hid (fun x (hx : x ∈ Z1) => HZ.out x (HS.out.perm.mem_iff.1 hx))
    clear hs hd ht hlen hn1
    by_cases h1 : n ≤ 2 * i + 1
    · have e1 : decide ((n : Int) ≤ 2 * (i : Int) + 1) = true := by rw [decide_eq_true_eq]; omega
      have hdone : HeapOk key Z1 n := HD1.out.done (fun x hx hxn hp => by omega)
      have HDN := Lib.hid hdone
      clear hdone
      go_wp2_with fail
      go_ret
      exact ⟨⟨_, rfl⟩, Z1, HS.out, HDN.out, HT.out⟩
    · have e1 : decide ((n : Int) ≤ 2 * (i : Int) + 1) = false := by rw [decide_eq_false_iff_not]; omega
      have e1b : decide (2 * (i : Int) + 1 < 0) = false := by rw [decide_eq_false_iff_not]; omega
      obtain ⟨j1, hj1⟩ : ∃ j1, j1 = 2 * i + 1 := ⟨_, rfl⟩
      have ek : 2 * (i : Int) + 1 = (j1 : Int) := by omega
      have HJ := Lib.hid hj1
      have hjn : j1 < n := by omega
      have hij : i < j1 := by omega
      have hj0 : 0 < j1 := by omega
      clear hj1
      have EK := Lib.hid ek
      clear ek
      by_cases h2 : j1 + 1 < n
      · have e2 : decide ((j1 : Int) + 1 < (n : Int)) = true := by rw [decide_eq_true_eq]; omega
        have e2' : decide (2 * (i : Int) + 1 + 1 < (n : Int)) = true := by rw [decide_eq_true_eq]; have := HJ.out; omega
        go_wp2_with fail
        rw [EK.out]
        rw [show (j1 : Int) + 1 = ((j1 + 1 : Nat) : Int) by omega]
        refine (less_any (O := O) (key := key) (ok := ok) (by have := HS.out.rep.row; rw [← HN1.out] at this; exact this) HS.out.keys HZ1.out (j1 + 1) j1 (by omega) (by omega)).mono ?_
        rintro e w1 ⟨rfl, q, rfl⟩
        have HS2 := Lib.hid (HS.out.drewN q)
        have hc2 := HS2.out.rep.c0
        by_cases hlt : key (at0 Z1 (j1 + 1)) < key (at0 Z1 j1)
        · have hd : decide (key (at0 Z1 (j1 + 1)) < key (at0 Z1 j1)) = true := decide_eq_true hlt
          rw [hd]
          have hmin : ∀ x, 0 < x → x < n → (x - 1) / 2 = i → key (at0 Z1 (j1 + 1)) ≤ key (at0 Z1 x) := fun x hx hxn hp => by
            have := HJ.out
            have hx2 : x = j1 ∨ x = j1 + 1 := by omega
            rcases hx2 with rfl | rfl
            · omega
            · exact Nat.le_refl _
          have HMN := Lib.hid hmin
          clear hlt hd hmin
          go_wp2_with fail
          skip
          refine (less_any (O := O) (key := key) (ok := ok) (by have := HS2.out.rep.row; rw [← HN1.out] at this; exact this) HS2.out.keys HZ1.out (j1 + 1) i (by omega) (by omega)).mono ?_
          rintro e w3 ⟨rfl, q3, rfl⟩
          have HS3 := Lib.hid (HS.out.drewN (q + q3))
          have hc3 := HS3.out.rep.c0
          by_cases hlt3 : key (at0 Z1 (j1 + 1)) < key (at0 Z1 i)
          · have hd3 : decide (key (at0 Z1 (j1 + 1)) < key (at0 Z1 i)) = true := decide_eq_true hlt3
            rw [hd3]
            have HL3 := Lib.hid hlt3
            clear hlt3 hd3
            go_wp2_with fail
            refine (swap_any HG.out (by have := HS3.out.rep.row; rw [← HN1.out] at this; exact this) i (j1 + 1) (by omega) (by omega)).mono ?_
            rintro e w4 ⟨rfl, ho4, hx4⟩
            have h2s := HS3.out.swp (i := i) (j := (j1 + 1)) (by have := HN1.out; omega) (by have := HN1.out; omega) HN1.out ho4 hx4
            have h3s : DownOk key (swp Z1 i (j1 + 1)) n (j1 + 1) := HD1.out.next (by have := HN1.out; omega) (by omega) (by omega) (by have := HJ.out; omega) HMN.out HL3.out
            have h4s := HT.out.swp (i := i) (j := (j1 + 1)) (by omega) (by omega) (by have := HN1.out; omega)
            have H2 := Lib.hid h2s
            have H3 := Lib.hid h3s
            have H4 := Lib.hid h4s
            clear h2s h3s h4s ho4 hx4
            go_wp2_with fail
            go_roundw
            case rel => exact ⟨(j1 + 1), _, by omega, by simp, H2.out, H3.out, H4.out⟩
            case measure => simp [intOf]; omega
          · have hd3 : decide (key (at0 Z1 (j1 + 1)) < key (at0 Z1 i)) = false := decide_eq_false hlt3
            rw [hd3]
            have hdone : HeapOk key Z1 n := HD1.out.done (fun x hx hxn hp => Nat.le_trans (Nat.le_of_not_lt hlt3) (HMN.out x hx hxn hp))
            have HDN := Lib.hid hdone
            clear hlt3 hd3 hdone
            go_wp2_with fail
            go_ret
            exact ⟨⟨_, rfl⟩, Z1, HS3.out, HDN.out, HT.out⟩
        · have hd : decide (key (at0 Z1 (j1 + 1)) < key (at0 Z1 j1)) = false := decide_eq_false hlt
          rw [hd]
          have hmin : ∀ x, 0 < x → x < n → (x - 1) / 2 = i → key (at0 Z1 j1) ≤ key (at0 Z1 x) := fun x hx hxn hp => by
            have := HJ.out
            have hx2 : x = j1 ∨ x = j1 + 1 := by omega
            rcases hx2 with rfl | rfl
            · exact Nat.le_refl _
            · omega
          have HMN := Lib.hid hmin
          clear hlt hd hmin
          go_wp2_with fail
          skip
          refine (less_any (O := O) (key := key) (ok := ok) (by have := HS2.out.rep.row; rw [← HN1.out] at this; exact this) HS2.out.keys HZ1.out j1 i (by omega) (by omega)).mono ?_
          rintro e w3 ⟨rfl, q3, rfl⟩
          have HS3 := Lib.hid (HS.out.drewN (q + q3))
          have hc3 := HS3.out.rep.c0
          by_cases hlt3 : key (at0 Z1 j1) < key (at0 Z1 i)
          · have hd3 : decide (key (at0 Z1 j1) < key (at0 Z1 i)) = true := decide_eq_true hlt3
            rw [hd3]
            have HL3 := Lib.hid hlt3
            clear hlt3 hd3
            go_wp2_with fail
            refine (swap_any HG.out (by have := HS3.out.rep.row; rw [← HN1.out] at this; exact this) i j1 (by omega) (by omega)).mono ?_
            rintro e w4 ⟨rfl, ho4, hx4⟩
            have h2s := HS3.out.swp (i := i) (j := j1) (by have := HN1.out; omega) (by have := HN1.out; omega) HN1.out ho4 hx4
            have h3s : DownOk key (swp Z1 i j1) n j1 := HD1.out.next (by have := HN1.out; omega) (by omega) (by omega) (by have := HJ.out; omega) HMN.out HL3.out
            have h4s := HT.out.swp (i := i) (j := j1) (by omega) (by omega) (by have := HN1.out; omega)
            have H2 := Lib.hid h2s
            have H3 := Lib.hid h3s
            have H4 := Lib.hid h4s
            clear h2s h3s h4s ho4 hx4
            go_wp2_with fail
            go_roundw
            case rel => exact ⟨j1, _, by omega, by simp, H2.out, H3.out, H4.out⟩
            case measure => simp [intOf]; omega
          · have hd3 : decide (key (at0 Z1 j1) < key (at0 Z1 i)) = false := decide_eq_false hlt3
            rw [hd3]
            have hdone : HeapOk key Z1 n := HD1.out.done (fun x hx hxn hp => Nat.le_trans (Nat.le_of_not_lt hlt3) (HMN.out x hx hxn hp))
            have HDN := Lib.hid hdone
            clear hlt3 hd3 hdone
            go_wp2_with fail
            go_ret
            exact ⟨⟨_, rfl⟩, Z1, HS3.out, HDN.out, HT.out⟩
      · have e2 : decide ((j1 : Int) + 1 < (n : Int)) = false := by rw [decide_eq_false_iff_not]; omega
        have e2' : decide (2 * (i : Int) + 1 + 1 < (n : Int)) = false := by rw [decide_eq_false_iff_not]; have := HJ.out; omega
        have hmin : ∀ x, 0 < x → x < n → (x - 1) / 2 = i → key (at0 Z1 j1) ≤ key (at0 Z1 x) := fun x hx hxn hp => by
          have := HJ.out
          have hx2 : x = j1 := by omega
          rw [hx2]; exact Nat.le_refl _
        have HMN := Lib.hid hmin
        clear hmin
        go_wp2_with fail
        rw [EK.out]
        refine (less_any (O := O) (key := key) (ok := ok) (by have := HS.out.rep.row; rw [← HN1.out] at this; exact this) HS.out.keys HZ1.out j1 i (by omega) (by omega)).mono ?_
        rintro e w3 ⟨rfl, q3, rfl⟩
        have HS3 := Lib.hid (HS.out.drewN q3)
        have hc3 := HS3.out.rep.c0
        by_cases hlt3 : key (at0 Z1 j1) < key (at0 Z1 i)
        · have hd3 : decide (key (at0 Z1 j1) < key (at0 Z1 i)) = true := decide_eq_true hlt3
          rw [hd3]
          have HL3 := Lib.hid hlt3
          clear hlt3 hd3
          go_wp2_with fail
          refine (swap_any HG.out (by have := HS3.out.rep.row; rw [← HN1.out] at this; exact this) i j1 (by omega) (by omega)).mono ?_
          rintro e w4 ⟨rfl, ho4, hx4⟩
          have h2s := HS3.out.swp (i := i) (j := j1) (by have := HN1.out; omega) (by have := HN1.out; omega) HN1.out ho4 hx4
          have h3s : DownOk key (swp Z1 i j1) n j1 := HD1.out.next (by have := HN1.out; omega) (by omega) (by omega) (by have := HJ.out; omega) HMN.out HL3.out
          have h4s := HT.out.swp (i := i) (j := j1) (by omega) (by omega) (by have := HN1.out; omega)
          have H2 := Lib.hid h2s
          have H3 := Lib.hid h3s
          have H4 := Lib.hid h4s
          clear h2s h3s h4s ho4 hx4
          go_wp2_with fail
          go_roundw
          case rel => exact ⟨j1, _, by omega, by simp, H2.out, H3.out, H4.out⟩
          case measure => simp [intOf]; omega
        · have hd3 : decide (key (at0 Z1 j1) < key (at0 Z1 i)) = false := decide_eq_false hlt3
          rw [hd3]
          have hdone : HeapOk key Z1 n := HD1.out.done (fun x hx hxn hp => Nat.le_trans (Nat.le_of_not_lt hlt3) (HMN.out x hx hxn hp))
          have HDN := Lib.hid hdone
          clear hlt3 hd3 hdone
          go_wp2_with fail
          go_ret
          exact ⟨⟨_, rfl⟩, Z1, HS3.out, HDN.out, HT.out⟩
end Go.Proofs.Ytmoebpebahhbeaa
