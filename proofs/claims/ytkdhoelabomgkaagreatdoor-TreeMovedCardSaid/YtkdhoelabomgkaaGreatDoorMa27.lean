/- Texts of this proof, joined: Size2. No condition. -/
import Derived.Test.YtkdhoelabomgkaaGreatDoorMa25
import Derived.Test.YtkdhoelabomgkaaGreatDoorMa26
import Derived.Deep.LoopGhost
/-
  Layer 3, the program's side: Size, Deep of a tree of fewer than six hundred parts: what stands on level 400 is put off.
-/
namespace Go.Proofs.YtkdhoelabomgkaaGreatDoor
set_option linter.unusedVariables false
open Go.ChangeShapes Go.WideShapes Go.ChangeAt Go.RowKit

theorem addL_all : ∀ (n : Nat) (e : Ex) (lev : Int), 1 ≤ lev → lev + n ≤ 600 → e.nd ≤ n → AddsL 93 e lev
  | 0, .mk _ _ _ _ _ _ _ _, lev, h0, h4, hn => by unfold Ex.nd at hn; omega
  | n + 1, .mk xk xp xn xm xl xps xal xds, lev, h0, h4, hn => by
    unfold Ex.nd at hn
    push_cast at h4
    have part : ∀ e : Ex, e.nd ≤ n → AddsL 109 e (lev + 1) := fun e he => by
      have h1 : 1 ≤ e.nd := by obtain ⟨_, _, _, _, _, _, _, _⟩ := e; unfold Ex.nd; omega
      by_cases h : lev + 1 = 400
      · rw [h]
        exact partL_off e (by omega)
      · exact partL_of_add e (lev + 1) (by omega) (by omega) h (addL_all n e (lev + 1) (by omega) (by omega) he)
    refine addL_step xk xp xm xn xl xps xal xds lev h0 (by omega) (fun t ht => part t (by have := Ex.mem_nd' ht; omega)) (fun t ht => ?_) (fun t ht => ?_)
    · have h1 := Al.mem_nd' ht
      obtain ⟨p, e⟩ := t
      unfold Al.nd at h1
      exact part e (by omega)
    · have h1 := De.mem_nd' ht
      obtain ⟨d1, d2, d3, d4, d5, d6, d7, d8⟩ := t
      unfold De.nd at h1
      exact part d8 (by omega)
set_option maxHeartbeats 800000 in
set_option maxRecDepth 100000 in
theorem part_high (e : Ex) (lev : Int) (h0 : 401 ≤ lev) (h4 : lev ≤ 799) (ha : Adds 93 e lev) : Adds 109 e lev := by
  intro C a w s d lv hC he hc hs hs2
  have HA := Lib.hid (ha C a w s d lv hC he hc hs hs2)
  have q1 : (lev % 400 == 0) = false := by rw [beq_eq_false_iff_ne]; omega
  clear ha he hc
  go_enter Tryz.func109, Tryz.ntmps109
  go_wp2_with fail
  refine HA.out.mono ?_
  rintro e' w' ⟨rfl, hT⟩
  go_wp2
  go_end0
  exact ⟨rfl, hT⟩
theorem add_high : ∀ (n : Nat) (e : Ex) (lev : Int), 400 ≤ lev → lev + n ≤ 600 → e.nd ≤ n → Adds 93 e lev
  | 0, .mk _ _ _ _ _ _ _ _, lev, h0, h4, hn => by unfold Ex.nd at hn; omega
  | n + 1, .mk xk xp xn xm xl xps xal xds, lev, h0, h4, hn => by
    unfold Ex.nd at hn
    push_cast at h4
    have hs1 := Ex.szs_nds xl
    have hs2 := Al.szs_nds xal
    have hs3 := De.szs_nds xds
    have part : ∀ e : Ex, e.nd ≤ n → Adds 109 e (lev + 1) := fun e he => by
      have h1 : 1 ≤ e.nd := by obtain ⟨_, _, _, _, _, _, _, _⟩ := e; unfold Ex.nd; omega
      exact part_high e (lev + 1) (by omega) (by omega) (add_high n e (lev + 1) (by omega) (by omega) he)
    refine add_step xk xp xm xn xl xps xal xds lev (by omega) (by omega) (fun t ht => part t (by have := Ex.mem_nd' ht; omega)) (fun t ht => ?_) (fun t ht => ?_) (by omega)
    · have h1 := Al.mem_nd' ht
      obtain ⟨p, e⟩ := t
      unfold Al.nd at h1
      exact part e (by omega)
    · have h1 := De.mem_nd' ht
      obtain ⟨d1, d2, d3, d4, d5, d6, d7, d8⟩ := t
      unfold De.nd at h1
      exact part d8 (by omega)
theorem itv_len : ∀ l : List (Addr × Ex), (itv l).length = l.length * 2
  | [] => rfl
  | p :: r => by
    have h1 := itv_len r
    have h2 : itv (p :: r) = [.pointer (some p.1), .int .i64 400] ++ itv r := rfl
    rw [h2, List.length_append, h1]
    simp only [List.length_cons, List.length_nil]
    omega
/-- the last of a row of pairs is taken off -/
theorem own_pop {w : World} {B : Nat} {T : TypeId} {v : Option Addr} {n cap : Nat} {xs : List Value} {a b : Value} (h : w.ownsRow B T 2 (.slice v (n + 1) cap) (n + 1) (xs ++ [a, b])) (hx : xs.length = n * 2) :
    ∃ g, v = some ⟨g, 0, none⟩ ∧ B ≤ g ∧ g < w.heap.size ∧ cap ≤ maxLen ∧ n + 1 ≤ cap ∧ w.cell? ⟨g, n * 2, none⟩ = some a ∧ w.cell? ⟨g, n * 2 + 1, none⟩ = some b ∧ w.ownsRow B T 2 (.slice (some ⟨g, 0, none⟩) n cap) n xs := by
  rcases h.2 with ⟨h1, h2⟩ | ⟨g, cap', cur, hv, h3, h4, h5, h6, h7, h8⟩
  · omega
  · injection hv with e1 e2 e3
    subst e1 e3
    have hl : cur.toList.length = cap * 2 := by simpa using h7
    have hg : ∀ j, j < (n + 1) * 2 → cur[j]? = (xs ++ [a, b])[j]? := fun j hj => by
      rw [← h8, List.getElem?_take, if_pos hj, Array.getElem?_toList]
    refine ⟨g, rfl, h3, heap_lt h4, h6, h5, ?_, ?_, hx, .inr ⟨g, cap, cur, rfl, h3, h4, by omega, h6, h7, ?_⟩⟩
    · rw [Lib.cell_of_heap h4, hg _ (by omega), List.getElem?_append_right (by omega), hx, Nat.sub_self]
      rfl
    · rw [Lib.cell_of_heap h4, hg _ (by omega), List.getElem?_append_right (by omega), hx, Nat.add_sub_cancel_left]
      rfl
    · have h9 := congrArg (List.take (n * 2)) h8
      rw [List.take_take, Nat.min_eq_left (by omega)] at h9
      rw [h9, ← hx]
      simp
set_option maxHeartbeats 3200000 in
set_option maxRecDepth 100000 in
theorem count_big (e : Ex) (hn : e.nd ≤ 599) (P : Nat → Prop) (vs : List Value) (w : World) (hv : IsVs w (fun b => P b ∧ b < w.heap.size) e.row vs) :
    Calls Tryz.prog 51 #[.agg vs.toArray] w fun e' w' => ∃ v : Value, e' = .returned (.agg (cnt (e.sz : Int) (e.dm 1 0) v)) ∧ Below w.heap.size w w' := by
  obtain ⟨o1, ho1⟩ : ∃ o : Obj, o = .cells vs.toArray 53 := ⟨_, rfl⟩
  obtain ⟨xk, xp, xn, xm, xl, xps, xal, xds⟩ := e
  obtain ⟨_, a4, a5, a6, a7, b4, b5, b6, b7, rfl, _⟩ := ex_vs hv
  have HV := Lib.hid hv
  clear hv
  have hsn := Ex.sz_nd (Ex.mk xk xp xn xm xl xps xal xds)
  obtain ⟨SZ, hSZ⟩ : ∃ n : Nat, n = (Ex.mk xk xp xn xm xl xps xal xds).sz := ⟨_, rfl⟩
  obtain ⟨DM, hDM⟩ : ∃ n : Int, n = (Ex.mk xk xp xn xm xl xps xal xds).dm 1 0 := ⟨_, rfl⟩
  rw [← hSZ] at hsn ⊢
  rw [← hDM]
  have HSZ := Lib.hid hSZ
  have HDM := Lib.hid hDM
  clear hSZ hDM
  go_enter Tryz.func51, Tryz.ntmps51
  obtain ⟨o2, ho2⟩ : ∃ o : Obj, o = .cells #[.int .i64 0, .int .i64 0, .slice none 0 0] 113 := ⟨_, rfl⟩
  obtain ⟨o3, ho3⟩ : ∃ o : Obj, o = .cells #[.int .i64 0, .int .i64 0, .slice (some ⟨w.heap.size + 1 + 1 + 1, 0, none⟩) 1 1] 113 := ⟨_, rfl⟩
  obtain ⟨o4, ho4⟩ : ∃ o : Obj, o = .cells #[.pointer (some ⟨w.heap.size, 0, none⟩), .int .i64 1] 148 := ⟨_, rfl⟩
  obtain ⟨hbW, g1, g2, g3, g4, hsz⟩ := four_boxes w o1 o2 o3 o4
  have HG := Lib.hid (And.intro g1 (And.intro g2 (And.intro g3 g4)))
  have HZ := Lib.hid hsz
  clear g1 g2 g3 g4 hsz
  go_wp2
  rw [← ho1, ← ho2, ← ho3, ← ho4]
  generalize (((w.alloc o1).alloc o2).alloc o3).alloc o4 = W at hbW HG HZ ⊢
  obtain ⟨g1, g2, g3, g4⟩ := HG.out
  have hsz := HZ.out
  have hz : w.heap.size + 1 + 1 + 1 < W.heap.size := by omega
  have hz2 : w.heap.size + 1 + 1 < W.heap.size := by omega
  subst ho1 ho3 ho4
  have k2 : W.cell? ⟨w.heap.size + 1 + 1, 2, none⟩ = some (.slice (some ⟨w.heap.size + 1 + 1 + 1, 0, none⟩) 1 1) := by rw [Lib.cell_of_heap g3]; rfl
  have f2 : W.frozen? ⟨w.heap.size + 1 + 1, 2, none⟩ = false := Lib.frozen_of_heap g3 2
  have l0 : W.cell? ⟨w.heap.size + 1 + 1 + 1, 0, none⟩ = some (.pointer (some ⟨w.heap.size, 0, none⟩)) := by rw [Lib.cell_of_heap g4]; rfl
  have l1 : W.cell? ⟨w.heap.size + 1 + 1 + 1, 1, none⟩ = some (.int .i64 1) := by rw [Lib.cell_of_heap g4]; rfl
  have G1 := Lib.hid g1
  have G2 := Lib.hid g2
  have G3 := Lib.hid g3
  have G4 := Lib.hid g4
  clear g1 g2 g3 g4 HG hsz
  go_loopg [] 1000001 (fun k wr => (k = 1000001 ∧ wr = W) ∨ Hid (∃ (s d : Int) (lv : Value) (more : List (Addr × Ex)), k = more.length ∧ St (w.heap.size + 1 + 1 + 1) (w.heap.size + 1 + 1) wr s d lv more ∧ s + (msz more : Int) = (SZ : Int) ∧ mdx more d = DM ∧ wr.heap[w.heap.size + 1]? = some o2 ∧ Below w.heap.size w wr))
  case atStart => exact .inl ⟨rfl, rfl⟩
  case round =>
    rcases hrel with ⟨hk, hw⟩ | HR
    · have HK := Lib.hid hk
      clear hk
      rw [hw]
      clear hw
      go_wp2_with fail
      obtain ⟨o5, ho5⟩ : ∃ o : Obj, o = .cells #[.pointer (some ⟨w.heap.size, 0, none⟩), .int .i64 1] 148 := ⟨_, rfl⟩
      rw [← ho5]
      have hX3 : ((W.setCell ⟨w.heap.size + 1 + 1, 2, none⟩ (.slice (some ⟨w.heap.size + 1 + 1 + 1, 0, none⟩) 0 1)).alloc o5).heap[w.heap.size + 1 + 1]? = some (.cells (cnt 0 0 (.slice (some ⟨w.heap.size + 1 + 1 + 1, 0, none⟩) 0 1)) 113 (0, 0)) :=
        (Below.heap_alloc _ _ _ (by simp; omega)).trans (heap_setCell_same _ _ 2 _ _ _ G3.out)
      have hXo : ∀ b : Nat, b < W.heap.size → b ≠ w.heap.size + 1 + 1 → ((W.setCell ⟨w.heap.size + 1 + 1, 2, none⟩ (.slice (some ⟨w.heap.size + 1 + 1 + 1, 0, none⟩) 0 1)).alloc o5).heap[b]? = W.heap[b]? := fun b h1 h2 =>
        (Below.heap_alloc _ _ _ (by simp; omega)).trans (heap_setCell_other _ _ _ _ h2)
      have hbX : Below w.heap.size w ((W.setCell ⟨w.heap.size + 1 + 1, 2, none⟩ (.slice (some ⟨w.heap.size + 1 + 1 + 1, 0, none⟩) 0 1)).alloc o5) := (hbW.setCell (p := ⟨w.heap.size + 1 + 1, 2, none⟩) (by show w.heap.size ≤ w.heap.size + 1 + 1; omega) _).alloc (by simp; omega) _
      have hXz : W.heap.size < ((W.setCell ⟨w.heap.size + 1 + 1, 2, none⟩ (.slice (some ⟨w.heap.size + 1 + 1 + 1, 0, none⟩) 0 1)).alloc o5).heap.size := by simp
      generalize (W.setCell ⟨w.heap.size + 1 + 1, 2, none⟩ (.slice (some ⟨w.heap.size + 1 + 1 + 1, 0, none⟩) 0 1)).alloc o5 = X at hX3 hXo hbX hXz ⊢
      have hXe : IsEx X (fun b => b < w.heap.size + 1 + 1 + 1 ∧ b ≠ w.heap.size + 1 + 1) ⟨w.heap.size, 0, none⟩ (Ex.mk xk xp xn xm xl xps xal xds) := ⟨row_at (IsVs.mono (fun b hb => by have := hb.2; omega) _ _ (IsVs.on hbX _ _ HV.out)) ((hXo _ (by omega) (by omega)).trans G1.out)⟩
      have hSt : St (w.heap.size + 1 + 1 + 1) (w.heap.size + 1 + 1) X 0 0 (.slice (some ⟨w.heap.size + 1 + 1 + 1, 0, none⟩) 0 1) [] := ⟨hX3, ⟨rfl, .inr ⟨w.heap.size + 1 + 1 + 1, 1, _, rfl, Nat.le_refl _, (hXo _ (by omega) (by omega)).trans G4.out, by simp, by unfold maxLen; omega, rfl, rfl⟩⟩, by simp, by omega⟩
      refine (addL_all 599 _ 1 (by omega) (by omega) hn (w.heap.size + 1 + 1 + 1) (w.heap.size + 1 + 1) ⟨w.heap.size, 0, none⟩ X 0 0 _ [] (by omega) (by omega) (by show w.heap.size < w.heap.size + 1 + 1 + 1; omega) (by show w.heap.size ≠ w.heap.size + 1 + 1; omega) hXe hSt (by rw [← HSZ.out]; simp; omega)).mono ?_
      rintro e' V ⟨rfl, s, d, lv, more, hS2, hS, hD, hKC⟩
      rw [List.nil_append] at hS2
      rw [← HSZ.out, Int.zero_add] at hS
      rw [← HDM.out] at hD
      have hV2 : V.heap[w.heap.size + 1]? = some o2 := (hKC.block _ (by omega) (by omega)).trans ((hXo _ (by omega) (by omega)).trans G2.out)
      have hbV : Below w.heap.size w V := ⟨hKC.rest.1.trans hbX.os, hKC.rest.2.1.trans hbX.tape, hKC.rest.2.2.trans hbX.output, Nat.le_trans hbX.size hKC.size, fun j hj => (hKC.block j (by omega) (by omega)).trans (hbX.block j hj)⟩
      have hlt : more.length ≤ 1000000 := by have h1 := msz_len more; have h2 := hS2.pos.1; omega
      have HN := Lib.hid (And.intro hS2 (And.intro hS (And.intro hD (And.intro hV2 hbV))))
      clear k2 f2 l0 l1 hX3 hXo hbX hXz hXe hSt hS2 hS hD hKC hV2 hbV
      go_wp2
      go_roundg more.length
      case measure => have := HK.out; omega
      case rel =>
        exact .inr (Lib.hid ⟨s, d, lv, more, rfl, HN.out.1, HN.out.2.1, HN.out.2.2.1, HN.out.2.2.2.1, HN.out.2.2.2.2⟩)
    · obtain ⟨s, d, lv, more, hk, hS2, hS, hD, h2, hbl⟩ := HR.out
      have hown := hS2.own
      obtain ⟨ao, cap, hlv⟩ := owns_form hown
      subst hlv
      have hc := hS2.cell
      unfold cnt at hc
      clear k2 f2 l0 l1 HR hbW
      rcases List.eq_nil_or_concat more with hm | ⟨rest, p, hm⟩
      · subst hm
        have hs0 : s = SZ := by simpa [msz] using hS
        have hd0 : d = DM := hD
        subst hs0 hd0
        rw [List.length_nil] at hc
        have k0 : wr.cell? ⟨w.heap.size + 1 + 1, 0, none⟩ = some (.int .i64 (SZ : Int)) := by rw [Lib.cell_of_heap hc]; rfl
        have k1 : wr.cell? ⟨w.heap.size + 1 + 1, 1, none⟩ = some (.int .i64 d) := by rw [Lib.cell_of_heap hc]; rfl
        have k2 : wr.cell? ⟨w.heap.size + 1 + 1, 2, none⟩ = some (.slice ao 0 cap) := by rw [Lib.cell_of_heap hc]; rfl
        rw [ho2] at h2
        have j0 : wr.cell? ⟨w.heap.size + 1, 0, none⟩ = some (.int .i64 0) := by rw [Lib.cell_of_heap h2]; rfl
        have j1 : wr.cell? ⟨w.heap.size + 1, 1, none⟩ = some (.int .i64 0) := by rw [Lib.cell_of_heap h2]; rfl
        have j2 : wr.cell? ⟨w.heap.size + 1, 2, none⟩ = some (.slice none 0 0) := by rw [Lib.cell_of_heap h2]; rfl
        have f0 : wr.frozen? ⟨w.heap.size + 1, 0, none⟩ = false := Lib.frozen_of_heap h2 0
        have f1 : wr.frozen? ⟨w.heap.size + 1, 1, none⟩ = false := Lib.frozen_of_heap h2 1
        have f2 : wr.frozen? ⟨w.heap.size + 1, 2, none⟩ = false := Lib.frozen_of_heap h2 2
        have HT2 := Lib.hid h2
        have HBV := Lib.hid hbl
        clear hown hc h2 hbl hS2 hS hD hk
        go_wp2
        have h1 := heap_setCell_same wr (w.heap.size + 1) 0 _ _ (.int .i64 (SZ : Int)) HT2.out
        have h2 := heap_setCell_same _ (w.heap.size + 1) 1 _ _ (.int .i64 d) h1
        have h3 := heap_setCell_same _ (w.heap.size + 1) 2 _ _ (.slice ao 0 cap) h2
        have hbF := ((HBV.out.setCell (p := ⟨w.heap.size + 1, 0, none⟩) (Nat.le_succ _) (.int .i64 (SZ : Int))).setCell (p := ⟨w.heap.size + 1, 1, none⟩) (Nat.le_succ _) (.int .i64 d)).setCell (p := ⟨w.heap.size + 1, 2, none⟩) (Nat.le_succ _) (.slice ao 0 cap)
        generalize ((wr.setCell ⟨w.heap.size + 1, 0, none⟩ (.int .i64 (SZ : Int))).setCell ⟨w.heap.size + 1, 1, none⟩ (.int .i64 d)).setCell ⟨w.heap.size + 1, 2, none⟩ (.slice ao 0 cap) = V3 at h3 hbF ⊢
        have r0 : V3.cell? ⟨w.heap.size + 1, 0, none⟩ = some (.int .i64 (SZ : Int)) := by rw [Lib.cell_of_heap h3]; rfl
        have r1 : V3.cell? ⟨w.heap.size + 1, 1, none⟩ = some (.int .i64 d) := by rw [Lib.cell_of_heap h3]; rfl
        have r2 : V3.cell? ⟨w.heap.size + 1, 2, none⟩ = some (.slice ao 0 cap) := by rw [Lib.cell_of_heap h3]; rfl
        have HBF := Lib.hid hbF
        clear h1 h2 h3 hbF k0 k1 k2 j0 j1 j2 f0 f1 f2
        exact bodyPost_ret (v := .agg #[.int .i64 (SZ : Int), .int .i64 d, .slice ao 0 cap]) (by simp [results, Tryz.results51, go_sem, *]) rfl ⟨_, rfl, HBF.out⟩
      · rw [List.concat_eq_append] at hm
        subst hm
        have hln : (rest ++ [p]).length = rest.length + 1 := by simp
        rw [hln] at hown hc hk
        have hix := itv_len rest
        have hitv : itv (rest ++ [p]) = itv rest ++ [.pointer (some p.1), .int .i64 400] := by unfold itv; simp
        rw [hitv] at hown
        obtain ⟨g, rfl, hgB, hgz, hcm, hcn, l0, l1, hown2⟩ := own_pop hown hix
        have hml : (rest.length : Int) + 1 ≤ 9223372036854775807 := by unfold maxLen at hcm; omega
        have k2 : wr.cell? ⟨w.heap.size + 1 + 1, 2, none⟩ = some (.slice (some ⟨g, 0, none⟩) (rest.length + 1) cap) := by rw [Lib.cell_of_heap hc]; rfl
        have f2 : wr.frozen? ⟨w.heap.size + 1 + 1, 2, none⟩ = false := Lib.frozen_of_heap hc 2
        have hcz : w.heap.size + 1 + 1 < wr.heap.size := heap_lt hc
        obtain ⟨q1, q2, q3, q4⟩ := hS2.trees p (by simp)
        have hpos := hS2.pos
        have HC := Lib.hid hc
        have HO := Lib.hid hown2
        have HTr := Lib.hid hS2.trees
        have HE := Lib.hid (And.intro q1 (And.intro q2 q3))
        have HQ := Lib.hid (And.intro hS (And.intro hD (And.intro h2 hbl)))
        clear hc hown hown2 hS2 hS hD h2 hbl q1 q2 q3 hitv hix
        go_wp2_with fail
        obtain ⟨o5, ho5⟩ : ∃ o : Obj, o = .cells #[.pointer (some p.1), .int .i64 400] 148 := ⟨_, rfl⟩
        rw [← ho5]
        have hX3 : ((wr.setCell ⟨w.heap.size + 1 + 1, 2, none⟩ (.slice (some ⟨g, 0, none⟩) rest.length cap)).alloc o5).heap[w.heap.size + 1 + 1]? = some (.cells (cnt s d (.slice (some ⟨g, 0, none⟩) rest.length cap)) 113 (0, 0)) :=
          (Below.heap_alloc _ _ _ (by simp; omega)).trans (heap_setCell_same _ _ 2 _ _ _ HC.out)
        have hXo : ∀ b : Nat, b < wr.heap.size → b ≠ w.heap.size + 1 + 1 → ((wr.setCell ⟨w.heap.size + 1 + 1, 2, none⟩ (.slice (some ⟨g, 0, none⟩) rest.length cap)).alloc o5).heap[b]? = wr.heap[b]? := fun b h1 h2 =>
          (Below.heap_alloc _ _ _ (by simp; omega)).trans (heap_setCell_other _ _ _ _ h2)
        have hbX : Below w.heap.size w ((wr.setCell ⟨w.heap.size + 1 + 1, 2, none⟩ (.slice (some ⟨g, 0, none⟩) rest.length cap)).alloc o5) := (HQ.out.2.2.2.setCell (p := ⟨w.heap.size + 1 + 1, 2, none⟩) (by show w.heap.size ≤ w.heap.size + 1 + 1; omega) _).alloc (by simp; omega) _
        generalize ((wr.setCell ⟨w.heap.size + 1 + 1, 2, none⟩ (.slice (some ⟨g, 0, none⟩) rest.length cap)).alloc o5) = X at hX3 hXo hbX ⊢
        have hXk : Stay (fun b => b < w.heap.size + 1 + 1 + 1 ∧ b ≠ w.heap.size + 1 + 1) wr X := fun b hb hz => hXo b hz hb.2
        have hX1 : IsEx X (fun b => b < w.heap.size + 1 + 1 + 1 ∧ b ≠ w.heap.size + 1 + 1) p.1 p.2 := ⟨IsRow.stay hXk _ _ ⟨HE.out.1, HE.out.2.1⟩ HE.out.2.2.out⟩
        have hXe : IsEx X (fun b => b ≠ w.heap.size + 1 + 1) p.1 p.2 := ⟨IsRow.mono (fun b hb => hb.2) _ _ hX1.out⟩
        have hms : msz (rest ++ [p]) = msz rest + p.2.sz := by rw [msz_append]; unfold msz; simp
        have hS0 := HQ.out.1
        rw [hms] at hS0
        push_cast at hS0
        refine (add_high 200 p.2 400 (by omega) (by omega) q4 (w.heap.size + 1 + 1) p.1 X s d _ HE.out.2.1 hXe hX3 hpos.1 (by omega)).mono ?_
        rintro e' V ⟨rfl, hT⟩
        have hTk : Stay (fun b => b < w.heap.size + 1 + 1 + 1 ∧ b ≠ w.heap.size + 1 + 1) X V := fun b hb hz => hT.other b hb.2
        have hSt : St (w.heap.size + 1 + 1 + 1) (w.heap.size + 1 + 1) V (s + p.2.sz) (p.2.dm 400 d) (.slice (some ⟨g, 0, none⟩) rest.length cap) rest :=
          ⟨hT.at_, owns_move (owns_move HO.out (fun b h1 h2 => hXo b h2 (by omega))) (fun b h1 h2 => hT.other b (by omega)), fun p' hp' => by
            obtain ⟨r1, r2, r3, r4⟩ := HTr.out p' (List.mem_append_left _ hp')
            exact ⟨r1, r2, ⟨IsRow.stay hTk _ _ ⟨r1, r2⟩ (IsRow.stay hXk _ _ ⟨r1, r2⟩ r3.out)⟩, r4⟩, by omega, Ex.dm_pos _ _ _ (by omega) hpos.2⟩
        have hS' : s + (p.2.sz : Int) + (msz rest : Int) = (SZ : Int) := by omega
        have hD' : mdx rest (p.2.dm 400 d) = DM := by
          have h1 := HQ.out.2.1
          rw [mdx_append] at h1
          have h3 : mdx [p] (mdx rest d) = p.2.dm 400 (mdx rest d) := rfl
          rw [h3, Ex.dm_max p.2 400 _ (by omega) (mdx_pos rest d hpos.2), mdx_max rest d hpos.2] at h1
          rw [mdx_max rest _ (Ex.dm_pos p.2 400 d (by omega) hpos.2), Ex.dm_max p.2 400 d (by omega) hpos.2]
          omega
        have hV2 : V.heap[w.heap.size + 1]? = some o2 := (hT.other _ (by omega)).trans ((hXo _ (by omega) (by omega)).trans HQ.out.2.2.1)
        have hbV : Below w.heap.size w V := ⟨hT.rest.2.1.trans hbX.os, hT.rest.2.2.1.trans hbX.tape, hT.rest.2.2.2.trans hbX.output, by have := hT.rest.1; have := hbX.size; omega, fun j hj => (hT.other j (by omega)).trans (hbX.block j hj)⟩
        have HN := Lib.hid (And.intro hSt (And.intro hS' (And.intro hD' (And.intro hV2 hbV))))
        clear k2 f2 l0 l1 hX3 hXo hbX hXk hX1 hXe hms hS0 hT hTk hSt hS' hD' hV2 hbV HC HO HTr HE HQ
        go_wp2
        go_roundg rest.length
        case measure => omega
        case rel =>
          exact .inr (Lib.hid ⟨_, _, _, rest, rfl, HN.out.1, HN.out.2.1, HN.out.2.2.1, HN.out.2.2.2.1, HN.out.2.2.2.2⟩)
set_option maxHeartbeats 1600000 in
set_option maxRecDepth 100000 in
theorem size_big (e : Ex) (hn : e.nd ≤ 599) (P : Nat → Prop) (vs : List Value) (w : World) (hv : IsVs w (fun b => P b ∧ b < w.heap.size) e.row vs) :
    Calls Tryz.prog 30 #[.agg vs.toArray] w fun e' w' => e' = .returned (.int .i64 (e.sz : Int)) ∧ Below w.heap.size w w' := by
  obtain ⟨o1, ho1⟩ : ∃ o : Obj, o = .cells vs.toArray 53 := ⟨_, rfl⟩
  have hb1 := bl_alloc o1 (Below.refl w.heap.size w)
  have hv1 := IsVs.on hb1 _ _ hv
  have HV1 := Lib.hid (IsVs.mono (Q := fun b => P b ∧ b < (w.alloc o1).heap.size) (fun b hb => ⟨hb.1, by have := hb.2; simp; omega⟩) _ _ hv1)
  have g1 := heap_alloc_new w o1
  obtain ⟨xk, xp, xn, xm, xl, xps, xal, xds⟩ := e
  obtain ⟨_, a4, a5, a6, a7, b4, b5, b6, b7, rfl, _⟩ := ex_vs hv
  clear hv hv1
  go_enter Tryz.func30, Tryz.ntmps30
  go_upto_region 1 with fail
  rw [← ho1]
  generalize w.alloc o1 = W at hb1 HV1 g1 ⊢
  subst ho1
  have c0 : W.cell? ⟨w.heap.size, 0, none⟩ = some (.int .i64 xk) := by rw [Lib.cell_of_heap g1]; rfl
  have c1 : W.cell? ⟨w.heap.size, 1, none⟩ = some (.int .i64 xp) := by rw [Lib.cell_of_heap g1]; rfl
  have c2 : W.cell? ⟨w.heap.size, 2, none⟩ = some (.string xn) := by rw [Lib.cell_of_heap g1]; rfl
  have c3 : W.cell? ⟨w.heap.size, 3, none⟩ = some (.int .i64 xm) := by rw [Lib.cell_of_heap g1]; rfl
  have c4 : W.cell? ⟨w.heap.size, 4, none⟩ = some (.slice a4 xl.length b4) := by rw [Lib.cell_of_heap g1]; rfl
  have c5 : W.cell? ⟨w.heap.size, 5, none⟩ = some (.slice a5 xps.length b5) := by rw [Lib.cell_of_heap g1]; rfl
  have c6 : W.cell? ⟨w.heap.size, 6, none⟩ = some (.slice a6 xal.length b6) := by rw [Lib.cell_of_heap g1]; rfl
  have c7 : W.cell? ⟨w.heap.size, 7, none⟩ = some (.slice a7 xds.length b7) := by rw [Lib.cell_of_heap g1]; rfl
  clear g1
  go_wp2_with fail
  clear c0 c1 c2 c3 c4 c5 c6 c7
  refine (count_big _ hn P _ W HV1.out).mono ?_
  rintro e' w' ⟨lb, rfl, hb2⟩
  unfold cnt
  have hf0 : ∀ (V : World) (x y : Int) (z : Value), (Instr.field 113 (.agg #[.int .i64 x, .int .i64 y, z]) 0).run Tryz.prog V = .ok (.int .i64 x) V := fun _ _ _ _ => by kernel_rfl
  have hf1 : ∀ (V : World) (x y : Int) (z : Value), (Instr.field 113 (.agg #[.int .i64 x, .int .i64 y, z]) 1).run Tryz.prog V = .ok (.int .i64 y) V := fun _ _ _ _ => by kernel_rfl
  go_wp2
  go_ret
  exact ⟨rfl, hb1.trans (hb2.mono hb1.size)⟩
set_option maxHeartbeats 1600000 in
set_option maxRecDepth 100000 in
theorem deep_big (e : Ex) (hn : e.nd ≤ 599) (P : Nat → Prop) (vs : List Value) (w : World) (hv : IsVs w (fun b => P b ∧ b < w.heap.size) e.row vs) :
    Calls Tryz.prog 31 #[.agg vs.toArray] w fun e' w' => e' = .returned (.int .i64 (e.dm 1 0)) ∧ Below w.heap.size w w' := by
  obtain ⟨o1, ho1⟩ : ∃ o : Obj, o = .cells vs.toArray 53 := ⟨_, rfl⟩
  have hb1 := bl_alloc o1 (Below.refl w.heap.size w)
  have hv1 := IsVs.on hb1 _ _ hv
  have HV1 := Lib.hid (IsVs.mono (Q := fun b => P b ∧ b < (w.alloc o1).heap.size) (fun b hb => ⟨hb.1, by have := hb.2; simp; omega⟩) _ _ hv1)
  have g1 := heap_alloc_new w o1
  obtain ⟨xk, xp, xn, xm, xl, xps, xal, xds⟩ := e
  obtain ⟨_, a4, a5, a6, a7, b4, b5, b6, b7, rfl, _⟩ := ex_vs hv
  clear hv hv1
  go_enter Tryz.func31, Tryz.ntmps31
  go_upto_region 1 with fail
  rw [← ho1]
  generalize w.alloc o1 = W at hb1 HV1 g1 ⊢
  subst ho1
  have c0 : W.cell? ⟨w.heap.size, 0, none⟩ = some (.int .i64 xk) := by rw [Lib.cell_of_heap g1]; rfl
  have c1 : W.cell? ⟨w.heap.size, 1, none⟩ = some (.int .i64 xp) := by rw [Lib.cell_of_heap g1]; rfl
  have c2 : W.cell? ⟨w.heap.size, 2, none⟩ = some (.string xn) := by rw [Lib.cell_of_heap g1]; rfl
  have c3 : W.cell? ⟨w.heap.size, 3, none⟩ = some (.int .i64 xm) := by rw [Lib.cell_of_heap g1]; rfl
  have c4 : W.cell? ⟨w.heap.size, 4, none⟩ = some (.slice a4 xl.length b4) := by rw [Lib.cell_of_heap g1]; rfl
  have c5 : W.cell? ⟨w.heap.size, 5, none⟩ = some (.slice a5 xps.length b5) := by rw [Lib.cell_of_heap g1]; rfl
  have c6 : W.cell? ⟨w.heap.size, 6, none⟩ = some (.slice a6 xal.length b6) := by rw [Lib.cell_of_heap g1]; rfl
  have c7 : W.cell? ⟨w.heap.size, 7, none⟩ = some (.slice a7 xds.length b7) := by rw [Lib.cell_of_heap g1]; rfl
  clear g1
  go_wp2_with fail
  clear c0 c1 c2 c3 c4 c5 c6 c7
  refine (count_big _ hn P _ W HV1.out).mono ?_
  rintro e' w' ⟨lb, rfl, hb2⟩
  unfold cnt
  have hf0 : ∀ (V : World) (x y : Int) (z : Value), (Instr.field 113 (.agg #[.int .i64 x, .int .i64 y, z]) 0).run Tryz.prog V = .ok (.int .i64 x) V := fun _ _ _ _ => by kernel_rfl
  have hf1 : ∀ (V : World) (x y : Int) (z : Value), (Instr.field 113 (.agg #[.int .i64 x, .int .i64 y, z]) 1).run Tryz.prog V = .ok (.int .i64 y) V := fun _ _ _ _ => by kernel_rfl
  go_wp2
  go_ret
  exact ⟨rfl, hb1.trans (hb2.mono hb1.size)⟩
end Go.Proofs.YtkdhoelabomgkaaGreatDoor
