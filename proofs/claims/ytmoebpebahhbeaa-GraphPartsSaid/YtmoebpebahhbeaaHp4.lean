/-
  Layer 7, the program's side: container/heap: Push, Pop.
-/
import Derived.Test.YtmoebpebahhbeaaHp3
namespace Go.Proofs.Ytmoebpebahhbeaa
set_option linter.unusedVariables false
open Go.ChangeShapes Go.WideShapes Go.ChangeAt Go.RowKit

/-- what heap.Push leaves -/
def Pushed (B : Nat) (O : Nat → Nat) (h : Nat) (gval : Nat → Value) (key : Nat → Nat) (ok : Nat → Prop) (Z : List Nat) (i : Nat) (w w' : World) : Prop :=
  ∃ O' v' Z', HRep B O' h gval v' Z' w' ∧ Z'.Perm (Z ++ [i]) ∧ HeapOk key Z' Z'.length ∧ Keys w' O' gval key ok ∧ Fx (Heaps O) w w' ∧ ∀ b, b < w.heap.size → O' b = O b
/-- what heap.Pop leaves -/
def Popped (B : Nat) (O : Nat → Nat) (h : Nat) (gval : Nat → Value) (key : Nat → Nat) (ok : Nat → Prop) (Z : List Nat) (w : World) (e : Ending) (w' : World) : Prop :=
  ∃ i v' Z', e = .returned (.iface 30 (gval i)) ∧ HRep B O h gval v' Z' w' ∧ Z.Perm (i :: Z') ∧ HeapOk key Z' Z'.length ∧ (∀ x ∈ Z, key i ≤ key x) ∧ Keys w' O gval key ok ∧ Fx (Heaps O) w w'
theorem heapOk_take {key : Nat → Nat} {Z : List Nat} {n : Nat} (h : HeapOk key Z n) {Z' : List Nat} (hz : ∀ x, x < n → at0 Z' x = at0 Z x) : HeapOk key Z' n := fun x hx hn => by
  rw [hz _ (by omega), hz _ hn]
  exact h x hx hn
theorem split_last {Z : List Nat} {n : Nat} (h : Z.length = n + 1) : Z = Z.take n ++ [at0 Z n] := by
  have hn : n < Z.length := by omega
  have h1 : Z.take (n + 1) = Z.take n ++ [at0 Z n] := take_snoc_at hn
  rw [List.take_of_length_le (by omega)] at h1
  exact h1
set_option maxHeartbeats 1000000 in
set_option maxRecDepth 100000 in
theorem hpush_any {B h i : Nat} {O : Nat → Nat} {gval : Nat → Value} {key : Nat → Nat} {ok : Nat → Prop} {v : Value} {Z : List Nat} {w : World} (hh : HRep B O h gval v Z w) (ho : HeapOk key Z Z.length) (hk : Keys w O gval key ok) (hZ : ∀ i ∈ Z, ok i) (hi : ok i) (hg : ∀ i, ∃ a m c, gval i = .slice a m c) (hl : Z.length ≤ 99999) :
    Calls Try.prog 31 #[.iface 65 (.pointer (some ⟨h, 0, none⟩)), .iface 30 (gval i)] w fun e w' => e = .returned (.tuple #[]) ∧ Pushed B O h gval key ok Z i w w' := by
  have HH := Lib.hid hh
  have HO := Lib.hid ho
  have HK := Lib.hid hk
  have HZ := Lib.hid hZ
  have HI := Lib.hid hi
  have HG := Lib.hid hg
  have ml := fun (w : World) (v : Value) => meth_len w h v
  have mp := fun (w : World) => meth_push ⟨h, 0, none⟩ w
  clear hh ho hk hZ hi hg
  go_enter Try.func31, Try.ntmps31
  go_wp2_with fail
  refine (push_any HH.out (HG.out i) (by omega)).mono ?_
  rintro e w1 ⟨rfl, O1, v1, h1, x1, t1⟩
  have hr := h1.row
  have hlen : (Z ++ [i]).length = Z.length + 1 := by simp
  rw [hlen] at hr
  obtain ⟨g, cap, rfl, -⟩ := owns_some hr (by omega)
  have hc := h1.c0
  have hk1 : Keys w1 O1 gval key ok := ((HK.out.tag (O' := O1) t1).fx (S := fun b => b < w.heap.size ∧ Heaps O b) ⟨x1.os, x1.tape, x1.output, x1.size, fun b hb hn => x1.block b hb fun hh => hn ⟨hb, hh⟩⟩ (fun b hb hS => by
    have := t1 b hS.1
    have h2 := hS.2
    unfold Heaps at h2
    omega))
  have H1 := Lib.hid h1
  have X1 := Lib.hid x1
  have T1 := Lib.hid t1
  have HK1 := Lib.hid hk1
  clear h1 x1 t1 hr hk1
  go_wp2_with fail
  refine (len_any _ _ _ _ (by omega)).mono ?_
  rintro e w2 ⟨rfl, rfl⟩
  go_wp2_with fail
  refine (up_any (j := Z.length) H1.out hlen.symm HK1.out (fun x hx => by
    rcases List.mem_append.1 hx with hx | hx
    · exact HZ.out x hx
    · rw [List.mem_singleton.1 hx]; exact HI.out) HG.out (by omega) (by rw [hlen]; exact HO.out.snoc i) (by omega)).mono ?_
  rintro e w3 ⟨rfl, Z3, s3, o3⟩
  have S3 := Lib.hid s3
  have O3 := Lib.hid o3
  clear s3 o3
  go_wp2_with fail
  have hfx : Fx (Heaps O) w w3 := X1.out.trans S3.out.fx fun b hb hh => by unfold Heaps at hh ⊢; rw [T1.out b hb] at hh; exact hh
  exact bodyPost_end (v := .tuple #[]) (by simp [results, Try.results31, go_sem]) rfl ⟨rfl, O1, _, Z3, S3.out.rep, S3.out.perm, by rw [S3.out.len, hlen]; exact O3.out, S3.out.keys, hfx, T1.out⟩
set_option maxHeartbeats 1000000 in
set_option maxRecDepth 100000 in
theorem hpop_any {B h n : Nat} {O : Nat → Nat} {gval : Nat → Value} {key : Nat → Nat} {ok : Nat → Prop} {v : Value} {Z : List Nat} {w : World} (hh : HRep B O h gval v Z w) (ho : HeapOk key Z Z.length) (hk : Keys w O gval key ok) (hZ : ∀ i ∈ Z, ok i) (hg : ∀ i, ∃ a m c, gval i = .slice a m c) (hl : Z.length ≤ 99999) (hn : Z.length = n + 1) :
    Calls Try.prog 33 #[.iface 65 (.pointer (some ⟨h, 0, none⟩))] w fun e w' => Popped B O h gval key ok Z w e w' := by
  have hr := hh.row
  rw [hn] at hr
  obtain ⟨g, cap, rfl, -⟩ := owns_some hr (by omega)
  have hc := hh.c0
  have HH := Lib.hid hh
  have HO := Lib.hid ho
  have HK := Lib.hid hk
  have HZ := Lib.hid hZ
  have HG := Lib.hid hg
  have HR := Lib.hid hr
  have HN := Lib.hid hn
  have hnl : n ≤ 99999 := by omega
  have ml := fun (w : World) (v : Value) => meth_len w h v
  have ms := fun (w : World) (v : Value) => meth_swap w h v
  have mp := fun (w : World) => meth_pop ⟨h, 0, none⟩ w
  clear hh ho hk hZ hg hr hn
  go_enter Try.func33, Try.ntmps33
  go_wp2_with fail
  refine (len_any _ _ _ _ (by omega)).mono ?_
  rintro e w2 ⟨rfl, rfl⟩
  go_wp2_with fail
  refine (swap_any HG.out HR.out 0 n (by omega) (by omega)).mono ?_
  rintro e w2 ⟨rfl, ho2, hx2⟩
  have s0 : Sift B O h gval key ok (.slice (some ⟨g, 0, none⟩) (n + 1) cap) Z Z w w := ⟨HH.out, HK.out, List.Perm.refl _, Fx.refl _ w⟩
  have s2 := s0.swp (i := 0) (j := n) (by have := HN.out; omega) (by have := HN.out; omega) HN.out.symm ho2 hx2
  have S2 := Lib.hid s2
  have hc2 := s2.rep.c0
  clear s0 s2 ho2 hx2
  go_wp2_with fail
  have hd := HO.out
  rw [HN.out] at hd
  refine (down_any (n := n) S2.out.rep (by rw [swp_len]; exact HN.out.symm) S2.out.keys (fun x hx => HZ.out x (S2.out.perm.mem_iff.1 hx)) HG.out (by omega) (hd.swp (by have := HN.out; omega)) (by omega)).mono ?_
  rintro e w3 ⟨⟨b, rfl⟩, Z3, s3, o3, t3⟩
  have hlen3 : Z3.length = n + 1 := by rw [s3.len, swp_len]; exact HN.out
  have e3 := split_last hlen3
  have ei : at0 Z3 n = at0 Z 0 := by
    rw [t3 n (Nat.le_refl _), swp_at (by have := HN.out; omega) (by have := HN.out; omega), if_pos rfl]
  rw [ei] at e3
  have hrep := s3.rep
  rw [e3] at hrep
  have hperm : Z.Perm (at0 Z 0 :: Z3.take n) := by
    have h1 := (s3.perm.trans S2.out.perm).symm
    rw [e3] at h1
    exact h1.trans (List.perm_append_singleton _ _)
  have hok : HeapOk key (Z3.take n) (Z3.take n).length := by
    rw [List.length_take, Nat.min_eq_left (by omega)]
    refine heapOk_take o3 fun x hx => ?_
    unfold at0
    rw [List.getD_eq_getElem?_getD, List.getD_eq_getElem?_getD, List.getElem?_take_of_lt hx]
  have hmin : ∀ x ∈ Z, key (at0 Z 0) ≤ key x := fun x hx => by
    obtain ⟨k, hk1, rfl⟩ := List.mem_iff_getElem.1 hx
    have := HO.out.least k k (Nat.le_refl _) hk1
    rw [show at0 Z k = Z[k] by simp [at0, List.getD, List.getElem?_eq_getElem hk1]] at this
    exact this
  have HREP := Lib.hid hrep
  have HP := Lib.hid hperm
  have HOK := Lib.hid hok
  have HMIN := Lib.hid hmin
  have HX3 := Lib.hid (S2.out.fx.trans s3.fx fun _ _ h => h)
  have HK3 := Lib.hid s3.keys
  have hc3 := s3.rep.c0
  have htl : (Z3.take n).length ≤ 100000 := by rw [List.length_take]; omega
  clear s3 o3 t3 hlen3 e3 ei hrep hperm hok hmin hd
  go_wp2_with fail
  refine (pop_any HREP.out (HG.out _) htl).mono ?_
  rintro e w4 ⟨rfl, v4, h4, x4⟩
  have H4 := Lib.hid h4
  have X4 := Lib.hid x4
  have K4 := Lib.hid (HK3.out.fx x4 fun b hb hh => by unfold Heaps at hh; omega)
  clear h4 x4
  obtain ⟨a1, m1, c1, e1⟩ := HG.out (at0 Z 0)
  rw [e1]
  have E1 := Lib.hid e1
  clear e1
  go_wp2_with fail
  go_ret
  exact ⟨at0 Z 0, v4, _, by rw [E1.out]; rfl, H4.out, HP.out, HOK.out, HMIN.out, K4.out, HX3.out.trans X4.out fun _ _ h => h⟩
end Go.Proofs.Ytmoebpebahhbeaa
