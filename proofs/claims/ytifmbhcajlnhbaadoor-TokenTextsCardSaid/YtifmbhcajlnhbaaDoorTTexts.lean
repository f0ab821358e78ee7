/-
  Layer 2: the law TokenTexts, walked.
-/
import Derived.Test.YtifmbhcajlnhbaaDoorTKnows
import Derived.Test.YtifmbhcajlnhbaaDoorRShow
import Derived.Test.YtifmbhcajlnhbaaDoorWord
import Derived.Deep.RegionHeld3
import Derived.Lib.Hide
namespace Go.Proofs.YtifmbhcajlnhbaaDoor
set_option linter.unusedVariables false
open Go.ChangeShapes Go.WideShapes Go.ChangeAt Go.RowKit

set_option maxHeartbeats 1000000 in
set_option maxRecDepth 100000 in
theorem own_any (k a f n : Int) (t : ByteArray) (w : World) :
    Calls Tryd.prog 10 #[.agg #[.int .i64 k, .int .i64 a, .int .i64 f, .string t, .int .i64 n]] w fun e w' => e = .returned (.agg #[.int .i64 k, .int .i64 a, .int .i64 f, .string t, .int .i64 n]) ∧ Below w.heap.size w w' := by
  go_enter Tryd.func10, Tryd.ntmps10
  go_wp2
  exact bodyPost_ret (v := .agg #[.int .i64 k, .int .i64 a, .int .i64 f, .string t, .int .i64 n]) (by simp [results, Tryd.results10, go_sem]) rfl ⟨rfl, by first | exact (Below.refl _ _).alloc (Nat.le_refl _) _ | exact ((Below.refl _ _).alloc (Nat.le_refl _) _).alloc (by simp) _ | exact Below.refl _ _⟩

/-- tokens' cells, one behind the other -/
def rowTw (l : List Tw) : List Value := l.flatMap fun t => [.int .i64 t.kind, .int .i64 t.at_, .int .i64 t.fin, .string t.text, .int .i64 t.n]
theorem rowTw_snoc (l : List Tw) (t : Tw) : rowTw (l ++ [t]) = rowTw l ++ [.int .i64 t.kind, .int .i64 t.at_, .int .i64 t.fin, .string t.text, .int .i64 t.n] := by simp [rowTw]
theorem rowTw_at : ∀ (l : List Tw) (i : Nat) (t : Tw), l[i]? = some t → (rowTw l)[i * 5]? = some (.int .i64 t.kind) ∧ (rowTw l)[i * 5 + 1]? = some (.int .i64 t.at_) ∧ (rowTw l)[i * 5 + 2]? = some (.int .i64 t.fin) ∧ (rowTw l)[i * 5 + 3]? = some (.string t.text) ∧ (rowTw l)[i * 5 + 4]? = some (.int .i64 t.n)
  | [], i, t, h => by simp at h
  | x :: l, 0, t, h => by
    simp at h
    subst h
    simp [rowTw]
  | x :: l, i + 1, t, h => by
    have ih := rowTw_at l i t (by simpa using h)
    have e : rowTw (x :: l) = [.int .i64 x.kind, .int .i64 x.at_, .int .i64 x.fin, .string x.text, .int .i64 x.n] ++ rowTw l := by simp [rowTw]
    have key : ∀ m, (rowTw (x :: l))[(i + 1) * 5 + m]? = (rowTw l)[i * 5 + m]? := fun m => by
      rw [e, List.getElem?_append_right (by simp; omega)]
      congr 1
      simp
      omega
    exact ⟨(key 0).trans ih.1, (key 1).trans ih.2.1, (key 2).trans ih.2.2.1, (key 3).trans ih.2.2.2.1, (key 4).trans ih.2.2.2.2⟩
theorem own_arg {w : World} {B : Nat} {v : Value} {l : List Tw} (h : w.ownsRow B 40 5 v l.length (rowTw l)) : TwArg w v l := by
  rcases h.2 with ⟨h1, h2⟩ | ⟨g, cap, cur, rfl, _⟩
  · exact .inl ⟨h1, List.length_eq_zero_iff.1 h2⟩
  · have hc := h.cells (g := g) rfl
    refine .inr ⟨_, _, rfl, fun i t ht => ?_⟩
    obtain ⟨a, b, c, d, e⟩ := rowTw_at l i t ht
    exact ⟨hc _ _ a, hc _ _ b, hc _ _ c, hc _ _ d, hc _ _ e⟩
/-- a token's five cells -/
abbrev Five (W : World) (E : Addr) (t : Tw) : Prop := W.cell? E = some (.int .i64 t.kind) ∧ W.cell? ⟨E.block, E.off + 1, none⟩ = some (.int .i64 t.at_) ∧ W.cell? ⟨E.block, E.off + 2, none⟩ = some (.int .i64 t.fin) ∧ W.cell? ⟨E.block, E.off + 3, none⟩ = some (.string t.text) ∧ W.cell? ⟨E.block, E.off + 4, none⟩ = some (.int .i64 t.n)
theorem Five.on {w w' : World} {E : Addr} {t : Tw} (h : Five w E t) (hb : Below w.heap.size w w') : Five w' E t := by
  obtain ⟨h1, h2, h3, h4, h5⟩ := h
  have hB : E.block < w.heap.size := Lib.lt_of_cell h1
  exact ⟨(hb.cell (p := E) hB).trans h1, (hb.cell (p := ⟨E.block, E.off + 1, none⟩) hB).trans h2, (hb.cell (p := ⟨E.block, E.off + 2, none⟩) hB).trans h3, (hb.cell (p := ⟨E.block, E.off + 3, none⟩) hB).trans h4, (hb.cell (p := ⟨E.block, E.off + 4, none⟩) hB).trans h5⟩

set_option maxHeartbeats 16000000 in
set_option maxRecDepth 100000 in
theorem texts_any (s : ByteArray) (hs : s.size ≤ maxLen) (l : List Tw) (v : Value) (hfl : ∀ t ∈ l, t.fits) (w : World) (hA : TwArg w v l) (hw : RangeOk w) (hp : PowOk w) :
    Calls Tryd.prog 4 #[.string s, v] w fun e w' => e = .returned (.bool true) ∧ Below w.heap.size w w' := by
  have hf : ∃ ao cap, v = .slice ao l.length cap := by
    rcases hA with ⟨rfl, rfl⟩ | ⟨a, cap, rfl, _⟩
    · exact ⟨none, 0, rfl⟩
    · exact ⟨some a, cap, rfl⟩
  obtain ⟨ao, cap, rfl⟩ := hf
  by_cases hbig : 500 < s.size
  · have q : (500 : Int) < s.size := by omega
    go_enter Tryd.func4, Tryd.ntmps4
    go_wp2_with fail
    refine (knows_any _ hw).mono ?_
    rintro e w' ⟨rfl, hb⟩
    go_wp2
    go_ret
    exact ⟨rfl, hb⟩
  have q : ¬ (500 : Int) < s.size := by omega
  by_cases hl60 : 60 < l.length
  · have q6 : (60 : Int) < l.length := by omega
    go_enter Tryd.func4, Tryd.ntmps4
    go_wp2_with fail
    refine (knows_any _ hw).mono ?_
    rintro e w' ⟨rfl, hb⟩
    go_wp2
    go_ret
    exact ⟨rfl, hb⟩
  have q6 : ¬ (60 : Int) < l.length := by omega
  have HF := Lib.hid hfl
  clear hfl
  go_enter Tryd.func4, Tryd.ntmps4
  go_wp2
  go_loopw [5, 6] (fun xu iv wr => ∃ (k : Nat) (xv : Value), k ≤ l.length ∧ xv = xu ∧ iv = .int .i64 k ∧ wr.ownsRow w.heap.size 40 5 xv k (rowTw (l.take k)) ∧ Hid (∀ t ∈ l.take k, t.text.size ≤ 300) ∧ Below w.heap.size w wr) (fun _ iv _ => l.length - (intOf iv).toNat)
  case atStart => exact ⟨0, _, Nat.zero_le _, rfl, rfl, World.ownsRow_nil _ _ _ _, Lib.hid (by simp), Below.refl _ _⟩
  case round =>
    obtain ⟨k, xv, hk, hx, rfl, hown, HT, hbw⟩ := hrel
    subst hx
    by_cases hlt : k < l.length
    · obtain ⟨t, ht⟩ : ∃ t, l[k]? = some t := ⟨l[k], List.getElem?_eq_getElem hlt⟩
      obtain ⟨a, rfl, hrows⟩ : ∃ a, ao = some a ∧ TwRows w a l := by
        rcases hA with ⟨e1, rfl⟩ | ⟨a, cap', e1, hr⟩
        · simp at hlt
        · injection e1 with e1 _ _; exact ⟨a, e1, hr⟩
      have hfive : Five wr (a.add (k * 5)) t := (hrows.on hbw).cells ht
      obtain ⟨f2, f3⟩ := HF.out t (List.mem_of_getElem? ht)
      have hsn := Lib.hid (take_snoc2 l k t ht)
      obtain ⟨tk, ta, tf, tx, tn⟩ := t
      simp only at f2 f3
      obtain ⟨c0, c1, c2, c3, c4⟩ := hfive
      simp only at c0 c1 c2 c3 c4
      by_cases h300 : 300 < tx.size
      · have q3 : (300 : Int) < tx.size := by omega
        have hwr := hw.below hbw (Nat.le_refl _)
        go_wp2_with fail
        refine (knows_any _ hwr).mono ?_
        rintro e w' ⟨rfl, hb⟩
        go_wp2
        go_ret
        exact ⟨rfl, hbw.trans (hb.mono hbw.size)⟩
      · have q3 : ¬ (300 : Int) < tx.size := by omega
        obtain ⟨i0, hi, hz0, hz1, hz2⟩ := info_parts info_tk
        go_wp2_with fail
        refine (own_any tk ta tf tn tx _).mono ?_
        rintro e w1 ⟨rfl, hb1⟩
        have hown1 : w1.ownsRow w.heap.size 40 5 xv k (rowTw (l.take k)) := ownsRow_same hown (fun j hj => hb1.block j (hown.lt j hj).2)
        have hb2 := hbw.trans (hb1.mono hbw.size)
        clear c0 c1 c2 c3 c4
        have hz2' := hb2.size
        go_wp2_with (at_builtin; refine wpList_append_own _ rfl _ _ 24 rfl w.heap.size 40 i0 (.agg #[.int .i64 0, .int .i64 0, .int .i64 0, .string ⟨#[]⟩, .int .i64 0]) 5 48 Tryd.underlying24 hi hz0 hz1 hz2 rfl (by decide) _ _ _ rfl (hown1.alloc _) ⟨w1.heap.size, 0, none⟩ 1 1 [.int .i64 tk, .int .i64 ta, .int .i64 tf, .string tx, .int .i64 tn] rfl rfl (cell_five_new _ _ _ _ _ _ _) (by simp [Value.oneCell']) (by unfold maxLen; omega) (by omega) (by simp; omega) ?_; intro v' w2 hown2 hgrow _; obtain ⟨g', cap', rfl⟩ := ownsRow_succ hown2)
        have hgrow' : (w1.alloc (tkO tk ta tf tx tn)).grownBy w2 xv.ownBlock := hgrow
        clear hgrow
        have hb3 : Below w.heap.size w w2 := (hb2.alloc hb2.size (tkO tk ta tf tx tn)).grown hgrow' (by simp; omega) (fun j hj => (hown.lt j hj).1)
        have hown3 : w2.ownsRow w.heap.size 40 5 (.slice (some ⟨g', 0, none⟩) (k + 1) cap') (k + 1) (rowTw (l.take (k + 1))) := by rw [hsn.out, rowTw_snoc]; exact hown2
        have hTx : Hid (∀ t ∈ l.take (k + 1), t.text.size ≤ 300) := Lib.hid (by
          rw [hsn.out]
          intro t hm
          rcases List.mem_append.1 hm with h | h
          · exact HT.out t h
          · simp at h; subst h; show tx.size ≤ 300; omega)
        have hxs : Five w2 ⟨g', k * 5, none⟩ ⟨tk, ta, tf, tx, tn⟩ := by
          have hc := hown2.cells (g := g') rfl
          have hlen : (rowTw (l.take k)).length = k * 5 := by have := hown.1; exact this
          have key : ∀ m u, [Value.int .i64 tk, .int .i64 ta, .int .i64 tf, .string tx, .int .i64 tn][m]? = some u → w2.cell? ⟨g', k * 5 + m, none⟩ = some u := fun m u hm => by
            have := hc (k * 5 + m) u (by rw [List.getElem?_append_right (by omega), hlen, Nat.add_sub_cancel_left]; exact hm)
            rw [add_plain, Nat.zero_add] at this
            exact this
          exact ⟨key 0 _ rfl, key 1 _ rfl, key 2 _ rfl, key 3 _ rfl, key 4 _ rfl⟩
        have hls : Five w2 (a.add (k * 5)) ⟨tk, ta, tf, tx, tn⟩ := (hrows.on hb3).cells ht
        have hgl : g' < w2.heap.size := (hown3.lt g' rfl).2
        have hge : w.heap.size ≤ g' := (hown3.lt g' rfl).1
        have hkeep : ∀ W : World, Below w2.heap.size w2 W → W.ownsRow w.heap.size 40 5 (.slice (some ⟨g', 0, none⟩) (k + 1) cap') (k + 1) (rowTw (l.take (k + 1))) := fun W hb =>
          ownsRow_same hown3 (fun j hj => hb.block j (hown3.lt j hj).2)
        have HK := Lib.hid hkeep
        have hp2 := hp.below hb3.drew (Nat.le_refl _)
        have hbd : Below w2.heap.size w2 w2.drew := (Below.refl _ _).drew
        have hxd : Five w2.drew ⟨g', k * 5, none⟩ ⟨tk, ta, tf, tx, tn⟩ := hxs
        have hld : Five w2.drew (a.add (k * 5)) ⟨tk, ta, tf, tx, tn⟩ := hls
        clear hkeep hown hown1 hown2 hown3 hgrow' hi hz0 hz1 hz2 hb1 hb2 HT
        have HXD := Lib.hid hxd
        have HLD := Lib.hid hld
        obtain ⟨x0, x1, x2, x3, x4⟩ := hxd
        obtain ⟨y0, y1, y2, y3, y4⟩ := hld
        simp only at x0 x1 x2 x3 x4 y0 y1 y2 y3 y4
        have k1 : (k : Int) < (k : Int) + 1 := by omega
        go_region_held3 (fun V => (V.cell? ⟨g', k * 5, none⟩ = some (.int .i64 tk) ∧ V.cell? ⟨g', k * 5 + 1, none⟩ = some (.int .i64 ta) ∧ V.cell? ⟨g', k * 5 + 2, none⟩ = some (.int .i64 tf) ∧ V.cell? ⟨g', k * 5 + 3, none⟩ = some (.string tx) ∧ V.cell? ⟨g', k * 5 + 4, none⟩ = some (.int .i64 tn)) ∧
            (V.cell? (a.add (k * 5)) = some (.int .i64 tk) ∧ V.cell? ⟨(a.add (k * 5)).block, (a.add (k * 5)).off + 1, none⟩ = some (.int .i64 ta) ∧ V.cell? ⟨(a.add (k * 5)).block, (a.add (k * 5)).off + 2, none⟩ = some (.int .i64 tf) ∧ V.cell? ⟨(a.add (k * 5)).block, (a.add (k * 5)).off + 3, none⟩ = some (.string tx) ∧ V.cell? ⟨(a.add (k * 5)).block, (a.add (k * 5)).off + 4, none⟩ = some (.int .i64 tn)))
          (first | exact ⟨(HXD.out.on hbA).on hbB, (HLD.out.on hbA).on hbB⟩ | exact ⟨(HXD.out.on hbB).on hbA, (HLD.out.on hbB).on hbA⟩ | exact ⟨HXD.out.on hbA, HLD.out.on hbA⟩ | exact ⟨HXD.out.on hbB, HLD.out.on hbB⟩ | exact ⟨⟨x0, x1, x2, x3, x4⟩, ⟨y0, y1, y2, y3, y4⟩⟩ | go_keep)
          ((first
            | (go_at_call 11
               refine (show_any tk ta tf tx tn (by omega) f2 f3 _ hp2).mono ?_
               rintro e wA ⟨rfl, hbA⟩)
            | (go_at_call 11
               refine (show_any tk ta tf tx tn (by omega) f2 f3 _ (hp2.below hbB (Nat.le_refl _))).mono ?_
               rintro e wA ⟨rfl, hbA⟩)
            | (go_at_call 12
               refine (rshow_any tk ta tf tx tn (by omega) f2 f3 _).mono ?_
               rintro e wB ⟨rfl, hbB⟩)))
        · have hbb := (hbd.trans hbA).trans (hbB.mono (Nat.le_trans hbd.size hbA.size))
          have hb4 := hb3.trans (hbb.mono hb3.size)
          go_wp2
          go_roundw
          case rel => exact ⟨k + 1, _, by omega, rfl, by go_num, HK.out _ hbb, hTx, hb4⟩
          case measure => simp [intOf]; omega
    · have hkk : k = l.length := by omega
      subst hkk
      rw [List.take_length] at hown HT
      have hpr := hp.below hbw (Nat.le_refl _)
      have hwr := hw.below hbw (Nat.le_refl _)
      have hAx := own_arg hown
      have hAl : TwArg wr (.slice ao l.length cap) l := by
        rcases hA with ⟨e1, e2⟩ | ⟨a, cap', e1, hr⟩
        · exact .inl ⟨e1, e2⟩
        · exact .inr ⟨a, cap', e1, hr.on hbw⟩
      have HF2 := Lib.hid (fun t (ht : t ∈ l) => (⟨Nat.le_trans (HT.out t ht) (by decide), HF.out t ht⟩ : t.text.size ≤ 3000 ∧ t.fits))
      go_wp2_with fail
      refine (pword_any s (by omega) _).mono ?_
      rintro e w' ⟨rfl, rfl⟩
      go_wp2_with fail
      refine (rword_any s (by omega) _).mono ?_
      rintro e w2 ⟨rfl, hb2⟩
      go_wp2_with fail
      refine (psign_any s _).mono ?_
      rintro e w' ⟨rfl, rfl⟩
      go_wp2_with fail
      refine (sign_any s _).mono ?_
      rintro e w3 ⟨rfl, hb3⟩
      have hb23 := hb2.trans (hb3.mono hb2.size)
      have hA3 : TwArg w3 xv l := by
        rcases hAx with ⟨e1, e2⟩ | ⟨a, cap', e1, hr⟩
        · exact .inl ⟨e1, e2⟩
        · exact .inr ⟨a, cap', e1, hr.on hb23⟩
      go_wp2_with fail
      refine (join_any l xv (by omega) HF2.out _ hA3 (hpr.below hb23 (Nat.le_refl _))).mono ?_
      rintro e w4 ⟨rfl, hb4⟩
      have hb24 := hb23.trans (hb4.mono hb23.size)
      have hA4 : TwArg w4 (.slice ao l.length cap) l := by
        rcases hAl with ⟨e1, e2⟩ | ⟨a, cap', e1, hr⟩
        · exact .inl ⟨e1, e2⟩
        · exact .inr ⟨a, cap', e1, hr.on hb24⟩
      go_wp2_with fail
      refine (rjoin_any l _ (by omega) HF2.out _ hA4).mono ?_
      rintro e w5 ⟨rfl, hb5⟩
      have hb25 := hb24.trans (hb5.mono hb24.size)
      go_wp2_with fail
      refine (knows_any _ (hwr.below hb25 (Nat.le_refl _))).mono ?_
      rintro e w6 ⟨rfl, hb6⟩
      have hb26 := hb25.trans (hb6.mono hb25.size)
      go_wp2
      go_ret
      exact ⟨rfl, hbw.trans (hb26.mono hbw.size)⟩
end Go.Proofs.YtifmbhcajlnhbaaDoor
