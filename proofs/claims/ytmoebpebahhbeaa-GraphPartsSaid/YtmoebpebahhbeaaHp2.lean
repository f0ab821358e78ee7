/-
  Layer 7, the program's side: container/heap: up, down, Push, Pop at the groups that are ready.
-/
import Derived.Test.YtmoebpebahhbeaaHpM
namespace Go.Proofs.Ytmoebpebahhbeaa
set_option linter.unusedVariables false
open Go.ChangeShapes Go.WideShapes Go.ChangeAt Go.RowKit

/-- where up, down stand -/
structure Sift (B : Nat) (O : Nat → Nat) (h : Nat) (gval : Nat → Value) (key : Nat → Nat) (ok : Nat → Prop) (v : Value) (Z0 Z : List Nat) (w0 w : World) : Prop where
  rep : HRep B O h gval v Z w
  keys : Keys w O gval key ok
  perm : Z.Perm Z0
  fx : Fx (Heaps O) w0 w
theorem Sift.drewN {B h : Nat} {O : Nat → Nat} {gval : Nat → Value} {key : Nat → Nat} {ok : Nat → Prop} {v : Value} {Z0 Z : List Nat} {w0 w : World} (s : Sift B O h gval key ok v Z0 Z w0 w) (q : Nat) : Sift B O h gval key ok v Z0 Z w0 (w.drewN q) :=
  ⟨s.rep.fx (S := fun _ => False) ((Fx.refl _ w).drewN q) (fun _ _ => id), s.keys.fx (S := fun _ => False) ((Fx.refl _ w).drewN q) (fun _ _ => id), s.perm, s.fx.drewN q⟩
theorem Sift.swp {B h g n cap i j : Nat} {O : Nat → Nat} {gval : Nat → Value} {key : Nat → Nat} {ok : Nat → Prop} {Z0 Z : List Nat} {w0 w w' : World} (s : Sift B O h gval key ok (.slice (some ⟨g, 0, none⟩) n cap) Z0 Z w0 w) (hi : i < Z.length) (hj : j < Z.length) (hn : n = Z.length)
    (hr : w'.ownsRow B 30 1 (.slice (some ⟨g, 0, none⟩) n cap) n ((swp Z i j).map gval)) (hx : Fx (fun b => b = g) w w') : Sift B O h gval key ok (.slice (some ⟨g, 0, none⟩) n cap) Z0 (Go.Proofs.Ytmoebpebahhbeaa.swp Z i j) w0 w' := by
  have hg : O g = 11 := s.rep.tv g rfl
  refine ⟨⟨fx_heap s.rep.box hx (fun e => by have := s.rep.th; rw [e] at this; omega), by rw [swp_len, ← hn]; exact hr, s.rep.th, s.rep.tv, s.rep.low⟩, s.keys.fx hx (fun b hb e => by rw [e] at hb; omega), (swp_perm hi hj).trans s.perm, s.fx.trans hx fun b _ e => .inr (by rw [e]; exact hg)⟩
theorem Sift.len {B h : Nat} {O : Nat → Nat} {gval : Nat → Value} {key : Nat → Nat} {ok : Nat → Prop} {v : Value} {Z0 Z : List Nat} {w0 w : World} (s : Sift B O h gval key ok v Z0 Z w0 w) : Z.length = Z0.length := s.perm.length_eq

set_option maxHeartbeats 1000000 in
set_option maxRecDepth 100000 in
theorem up_any {B h j n g cap : Nat} {O : Nat → Nat} {gval : Nat → Value} {key : Nat → Nat} {ok : Nat → Prop} {Z : List Nat} {w : World} (hh : HRep B O h gval (.slice (some ⟨g, 0, none⟩) n cap) Z w) (hn : n = Z.length) (hk : Keys w O gval key ok) (hZ : ∀ i ∈ Z, ok i) (hg : ∀ i, ∃ a m c, gval i = .slice a m c)
    (hj : j < Z.length) (hu : UpOk key Z Z.length j) (hl : Z.length ≤ 100000) :
    Calls Try.prog 38 #[.iface 65 (.pointer (some ⟨h, 0, none⟩)), .int .i64 (j : Int)] w fun e w' => e = .returned (.tuple #[]) ∧ ∃ Z', Sift B O h gval key ok (.slice (some ⟨g, 0, none⟩) n cap) Z Z' w w' ∧ HeapOk key Z' n := by
  have hs0 : Sift B O h gval key ok (.slice (some ⟨g, 0, none⟩) n cap) Z Z w w := ⟨hh, hk, List.Perm.refl _, Fx.refl _ w⟩
  have S0 := Lib.hid hs0
  have HU := Lib.hid hu
  have HZ := Lib.hid hZ
  have HG := Lib.hid hg
  have HN := Lib.hid hn
  have hjn : j < n := by omega
  have hnl : n ≤ 100000 := by omega
  clear hh hk hs0 hu hZ hg hj hl hn
  have ml := fun (w : World) => meth_less w h (.slice (some ⟨g, 0, none⟩) n cap)
  have ms := fun (w : World) => meth_swap w h (.slice (some ⟨g, 0, none⟩) n cap)
  go_enter Try.func38, Try.ntmps38
  go_wp2_with fail
  go_loopw [1] (fun v wr => ∃ (k : Nat) (Z1 : List Nat), k < n ∧ v = .int .i64 (k : Int) ∧ Sift B O h gval key ok (.slice (some ⟨g, 0, none⟩) n cap) Z Z1 w wr ∧ UpOk key Z1 n k) (fun v _ => (intOf v).toNat)
  case atStart => exact ⟨j, Z, hjn, rfl, S0.out, by rw [HN.out]; exact HU.out⟩
  case round =>
    obtain ⟨k, Z1, hk, rfl, hs, hu⟩ := hrel
    have HS := Lib.hid hs
    have HU1 := Lib.hid hu
    have hc := hs.rep.c0
    have hlen := hs.len
    have hn1 : n = Z1.length := by rw [hlen]; exact HN.out
    have HN1 := Lib.hid hn1
    clear hs hu hlen hn1
    by_cases h0 : k = 0
    · subst h0
      go_wp2_with fail
      exact bodyPost_end (v := .tuple #[]) (by simp [results, Try.results38, go_sem]) rfl ⟨rfl, Z1, HS.out, by have := HU1.out.done (.inl rfl); exact this⟩
    · have hk0 : 1 ≤ k := by omega
      have e1 : (((k : Int) - 1) / 2 == (k : Int)) = false := by rw [beq_eq_false_iff_ne]; omega
      obtain ⟨i, hi⟩ : ∃ i, i = (k - 1) / 2 := ⟨_, rfl⟩
      have ek : ((k : Int) - 1) / 2 = (i : Int) := by omega
      have HI := Lib.hid hi
      have hik : i < n := by omega
      have HZ1 := Lib.hid (fun x (hx : x ∈ Z1) => HZ.out x (HS.out.perm.mem_iff.1 hx))
      clear hi
      have EK := Lib.hid ek
      clear ek
      go_wp2_with fail
      rw [EK.out]
      refine (less_any (O := O) (key := key) (ok := ok) (by have := HS.out.rep.row; rw [← HN1.out] at this; exact this) HS.out.keys HZ1.out k i hk hik).mono ?_
      rintro e w1 ⟨rfl, q, rfl⟩
      have HS2 := Lib.hid (HS.out.drewN q)
      have hc2 := HS2.out.rep.c0
      by_cases hlt : key (at0 Z1 k) < key (at0 Z1 i)
      · have hd : decide (key (at0 Z1 k) < key (at0 Z1 i)) = true := decide_eq_true hlt
        rw [hd]
        have HL := Lib.hid hlt
        clear hlt hd
        go_wp2_with fail
        refine (swap_any HG.out (by have := HS2.out.rep.row; rw [← HN1.out] at this; exact this) i k hik hk).mono ?_
        rintro e w2 ⟨rfl, ho2, hx2⟩
        have hki : i < k := by have := HI.out; omega
        have h2 := HS2.out.swp (i := i) (j := k) (by have := HN1.out; omega) (by have := HN1.out; omega) HN1.out ho2 hx2
        have h3 : UpOk key (swp Z1 i k) n i := by
          have := HU1.out.next (by have := HN1.out; omega) hk (by omega) (by rw [← HI.out]; exact HL.out)
          rw [← HI.out] at this
          exact this
        have H2 := Lib.hid h2
        have H3 := Lib.hid h3
        clear h2 h3 ho2 hx2
        go_wp2_with fail
        go_roundw
        case rel => exact ⟨i, _, hik, rfl, H2.out, H3.out⟩
        case measure => simp [intOf]; omega
      · have hd : decide (key (at0 Z1 k) < key (at0 Z1 i)) = false := decide_eq_false hlt
        rw [hd]
        have HL := Lib.hid hlt
        clear hlt hd
        go_wp2_with fail
        have hdone : HeapOk key Z1 n := HU1.out.done (.inr (by rw [← HI.out]; exact HL.out))
        exact bodyPost_end (v := .tuple #[]) (by simp [results, Try.results38, go_sem]) rfl ⟨rfl, Z1, HS2.out, hdone⟩
end Go.Proofs.Ytmoebpebahhbeaa
