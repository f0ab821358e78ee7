/-
  Layer 2: the document's Scan.
-/
import Derived.Test.YtifmbhcajlnhbaaDoorOneNum
import Derived.Test.YtifmbhcajlnhbaaDoorSkip
import Derived.Test.YtifmbhcajlnhbaaDoorRefMath
import Derived.Test.YtifmbhcajlnhbaaDoorPScan
import Derived.Deep.DeepCutAuto
namespace Go.Proofs.YtifmbhcajlnhbaaDoor
set_option linter.unusedVariables false
open Go.ChangeShapes Go.WideShapes Go.ChangeAt Go.RowKit

/-- where skip comes to; its fault -/
def skP (r : Nat ⊕ Nat) : Nat := r.elim id id
def skA (r : Nat ⊕ Nat) : Int := r.elim (fun _ => (0 : Int)) (fun m : Nat => (m : Int))
def skE (r : Nat ⊕ Nat) : Int := r.elim (fun _ => (0 : Int)) (fun _ => (23 : Int))
theorem skV_eq (r : Nat ⊕ Nat) : skV r = .tuple #[.int .i64 (skP r), .agg #[.int .i64 (skA r), .int .i64 (skE r)]] := by cases r <;> rfl
theorem rskip_any (s : ByteArray) (hs : s.size ≤ 1000000) (k : Nat) (hk : k ≤ s.size) (w : World) :
    Calls Tryd.prog 20 #[.string s, .int .i64 k] w fun e w' => e = .returned (.tuple #[.int .i64 (skP (skip s k)), .agg #[.int .i64 (skA (skip s k)), .int .i64 (skE (skip s k))]]) ∧ Below w.heap.size w w' :=
  (skip_any s hs k hk w).mono fun e w' ⟨h, h'⟩ => ⟨by rw [h, skV_eq], h'⟩
theorem oneAt_err {s : ByteArray} {i : Nat} {p : Nat × Int} (h : oneAt s i = .inr p) : p.2 ≠ 0 := by
  unfold oneAt at h
  by_cases c1 : cls (atB s i) = 3 ∨ cls (atB s i) = 4
  · rw [if_pos c1] at h
    unfold nameAt at h
    by_cases c : 32 < wordEnd s i - i
    · rw [if_pos c] at h; cases h; simp
    · rw [if_neg c] at h; cases h
  rw [if_neg c1] at h
  by_cases c2 : cls (atB s i) = 2
  · rw [if_pos c2] at h
    unfold numAt at h
    cases hd : dgsAt s i 0 with
    | none => rw [hd] at h; cases h; simp
    | some r =>
      rw [hd] at h
      simp only [Option.elim_some] at h
      by_cases c : r.1 < s.size ∧ letB (atB s r.1) = true ∧ atB s r.1 ≠ 39
      · rw [if_pos c] at h; cases h; simp
      · rw [if_neg c] at h; cases h
  rw [if_neg c2] at h
  by_cases c3 : cls (atB s i) = 7
  · rw [if_pos c3] at h
    unfold textAt at h
    cases hd : quotedAt s i with
    | none => rw [hd] at h; cases h; simp
    | some r => rw [hd] at h; cases h
  rw [if_neg c3] at h
  by_cases c6 : cls (atB s i) = 6
  · rw [if_pos c6] at h; cases h
  rw [if_neg c6] at h
  by_cases c5 : cls (atB s i) = 5
  · rw [if_pos c5] at h
    unfold opAt at h
    by_cases d : i + 2 ≤ s.size ∧ inL opsL (s.extract i (i + 2)) = true
    · rw [if_pos d] at h; cases h
    rw [if_neg d] at h
    by_cases e : inL opsL (s.extract i (i + 1)) = true
    · rw [if_pos e] at h; cases h
    · rw [if_neg e] at h; cases h; simp
  · rw [if_neg c5] at h; cases h; simp
theorem oneAt_fin {s : ByteArray} {k : Nat} {t : Tk} (hk : k < s.size) (h : oneAt s k = .inl t) : k < t.fin ∧ t.fin ≤ s.size := by
  unfold oneAt at h
  have hr : ∀ x, readAt s k = .inl x → k < x.fin ∧ x.fin ≤ s.size := fun x hx => by obtain ⟨_, a, b, _⟩ := readAt_lt hk hx; exact ⟨a, b⟩
  by_cases c1 : cls (atB s k) = 3 ∨ cls (atB s k) = 4
  · rw [if_pos c1] at h
    unfold nameAt at h
    by_cases c : 32 < wordEnd s k - k
    · rw [if_pos c] at h; cases h
    · rw [if_neg c] at h; cases h; exact wordEnd_more hk (cls34 c1)
  rw [if_neg c1] at h
  by_cases c2 : cls (atB s k) = 2
  · rw [if_pos c2] at h
    unfold numAt at h
    cases hd : dgsAt s k 0 with
    | none => rw [hd] at h; cases h
    | some r =>
      rw [hd] at h
      simp only [Option.elim_some] at h
      by_cases c : r.1 < s.size ∧ letB (atB s r.1) = true ∧ atB s r.1 ≠ 39
      · rw [if_pos c] at h; cases h
      · rw [if_neg c] at h; cases h; exact dgsAt_more hd hk c2
  rw [if_neg c2] at h
  by_cases c3 : cls (atB s k) = 7
  · rw [if_pos c3] at h
    exact hr t (by unfold readAt; rw [if_neg (by omega), if_neg c1, if_neg c2, if_pos c3]; exact h)
  rw [if_neg c3] at h
  by_cases c6 : cls (atB s k) = 6
  · rw [if_pos c6] at h; cases h; exact ⟨Nat.lt_succ_self _, hk⟩
  rw [if_neg c6] at h
  by_cases c5 : cls (atB s k) = 5
  · rw [if_pos c5] at h
    exact hr t (by unfold readAt; rw [if_neg (by omega), if_neg c1, if_neg c2, if_neg c3, if_pos c5]; exact h)
  · rw [if_neg c5] at h; cases h

/-- tokens told ahead of what is to come -/
def comb (pre : List Tk) (r : List Tk ⊕ (Nat × Int)) : List Tk ⊕ (Nat × Int) := r.elim (fun l => .inl (pre ++ l)) .inr
/-- the document's Scan's answer -/
def scanR (s : ByteArray) : List Tk ⊕ (Nat × Int) := if 65536 < s.size then .inr (0, 6) else rsc s (s.size + 1) 0 0
def RefOut (r : List Tk ⊕ (Nat × Int)) (w : World) (e : Ending) (w' : World) : Prop :=
  ∃ v, e = .returned (.tuple #[v, .agg #[.int .i64 (r.elim (fun _ => 0) fun p => (p.1 : Int)), .int .i64 (r.elim (fun _ => 0) fun p => p.2)]]) ∧
    w'.ownsRow w.heap.size 39 5 v (r.elim (·.length) fun _ => 0) (r.elim rowL fun _ => []) ∧ Below w.heap.size w w'
theorem ref_no {r : List Tk ⊕ (Nat × Int)} {p : Nat × Int} {w w' : World} (h : r = .inr p) (hb : Below w.heap.size w w') : RefOut r w (.returned (.tuple #[.slice none 0 0, .agg #[.int .i64 p.1, .int .i64 p.2]])) w' := by
  subst h
  exact ⟨_, rfl, World.ownsRow_nil _ _ _ _, hb⟩
/-- two cells of a row are stored -/
theorem set_ft {w W : World} {B N : Nat} {x0 x1 : Value} {t : TypeId} (a e : Value) (b3 : W.heap[N]? = some (.cells #[x0, x1] t (0, 0))) (hb : Below B w W) (hB : B ≤ N) :
    ((W.setCell ⟨N, 0, none⟩ a).setCell ⟨N, 1, none⟩ e).heap[N]? = some (.cells #[a, e] t (0, 0)) ∧ Below B w ((W.setCell ⟨N, 0, none⟩ a).setCell ⟨N, 1, none⟩ e) ∧ ∀ k, k ≠ N → ((W.setCell ⟨N, 0, none⟩ a).setCell ⟨N, 1, none⟩ e).heap[k]? = W.heap[k]? := by
  refine ⟨by simp [World.setCell, Array.getElem?_modify, b3], (hb.setCell (p := ⟨N, 0, none⟩) hB _).setCell (p := ⟨N, 1, none⟩) hB _, fun k hk => ?_⟩
  rw [Below.heap_setCell _ _ _ _ hk, Below.heap_setCell _ _ _ _ hk]
theorem info_rtz : (Tryd.prog.info? 39).map (fun i => (i.zero, i.size, i.bytes)) = some (some (.agg #[.int .i64 0, .int .i64 0, .int .i64 0, .string ⟨#[]⟩, .int .i64 0]), 5, 48) := by kernel_rfl
theorem own_not {W : World} {base N : Nat} {v : Value} {n : Nat} {xs : List Value} {cs : Array Value} {t : TypeId} (hr : W.ownsRow base 39 5 v n xs) (hN : W.heap[N]? = some (.cells cs t (0, 0))) (ht : t ≠ 39) : v.ownBlock ≠ some N := by
  intro e
  rcases hr.2 with ⟨hv, _⟩ | ⟨g, cap, cur, hv, h3, h4, h5⟩
  · rw [hv] at e; cases e
  · rw [hv] at e
    have : g = N := Option.some.inj e
    subst this
    rw [hN] at h4
    cases h4
    exact ht rfl
theorem cell2f {w : World} {g : Nat} {a b : Value} {t : TypeId} (h : w.heap[g]? = some (.cells #[a, b] t (0, 0))) : w.frozen? ⟨g, 0, none⟩ = false ∧ w.frozen? ⟨g, 1, none⟩ = false := ⟨frozen5 h 0, frozen5 h 1⟩

set_option maxHeartbeats 16000000 in
set_option maxRecDepth 100000 in
theorem rscan_in (s : ByteArray) (hs : s.size ≤ 1000000) (h64 : s.size ≤ 65536) (w : World) : Calls Tryd.prog 7 #[.string s] w (RefOut (rsc s (s.size + 1) 0 0) w) := by
  have q64 : ¬ (65536 : Int) < s.size := by omega
  go_enter Tryd.func7, Tryd.ntmps7
  go_wp2_with fail
  refine (rskip_any s hs 0 (Nat.zero_le _) _).mono ?_
  rintro e w1 ⟨rfl, hb1⟩
  obtain ⟨n0, hb⟩ := first_row hb1
  have hMlt : w.heap.size < w1.heap.size := lt_heap n0
  go_wp2
  go_loopw [4, 5] (fun ov iv wr => ∃ (pre : List Tk) (i0 : Nat) (ao : Option Addr) (cap : Nat), ov = .slice ao pre.length cap ∧ i0 ≤ s.size ∧ pre.length ≤ i0 ∧ iv = .int .i64 (skP (skip s i0)) ∧ wr.ownsRow w.heap.size 39 5 ov pre.length (rowL pre) ∧ wr.heap[w.heap.size]? = some (rFt 0 0) ∧ wr.heap[w1.heap.size]? = some (rFt (skA (skip s i0)) (skE (skip s i0))) ∧ Below w.heap.size w wr ∧ Hid (rsc s (s.size + 1) 0 0 = comb pre (rsc s (s.size + 1 - pre.length) pre.length i0)) ∧ w1.heap.size < wr.heap.size) (fun _ iv _ => s.size + 1 - (intOf iv).toNat)
  case atStart => exact ⟨[], 0, none, 0, rfl, Nat.zero_le _, Nat.le_refl _, rfl, World.ownsRow_nil _ _ _ _, (Below.heap_alloc _ _ _ hMlt).trans n0, heap_alloc_new w1 _, hb.alloc hb.size _, Lib.hid (by unfold comb; cases rsc s (s.size + 1) 0 0 <;> rfl), by simp⟩
  case round =>
    obtain ⟨pre, i0, ao, cap, rfl, hi0, hpi, rfl, hr, hN, hM, hbr, H, hszr⟩ := hrel
    obtain ⟨e30, e31⟩ := two_cells hN
    obtain ⟨f30, f31⟩ := cell2f hN
    obtain ⟨m0, m1⟩ := two_cells hM
    obtain ⟨mf0, mf1⟩ := cell2f hM
    have hNM : w.heap.size ≠ w1.heap.size := by omega
    obtain ⟨f, hf⟩ : ∃ f, s.size + 1 - pre.length = f + 1 := ⟨s.size - pre.length, by omega⟩
    have hstep := rsc_succ s f pre.length i0
    rw [← hf] at hstep
    have hmx : Tryd.prog.follows .mixedOrders = true := by kernel_rfl
    cases hsk : skip s i0 with
    | inr m =>
      rw [hsk] at hstep m0 m1 hM
      have HR := Lib.hid (show rsc s (s.size + 1) 0 0 = .inr (m, 23) by rw [H.out, hstep]; rfl)
      clear hstep
      simp only [skP, skA, skE, Sum.elim_inr, id_eq] at m0 m1 hM ⊢
      by_cases hm : m < s.size
      · go_wp2
        go_region
        all_goals go_wp2
        all_goals (obtain ⟨r1, r2, r3⟩ := set_ft (.int .i64 m) (.int .i64 23) hN hbr (Nat.le_refl _); obtain ⟨x0, x1⟩ := two_cells r1; refine bodyPost_ret (v := .tuple #[.slice none 0 0, .agg #[.int .i64 m, .int .i64 23]]) (by simp [results, Tryd.results7, go_sem, x0, x1]) rfl (ref_no HR.out r2.drew))
      · go_wp2
        go_region
        all_goals go_wp2
        all_goals (obtain ⟨r1, r2, r3⟩ := set_ft (.int .i64 m) (.int .i64 23) hN hbr (Nat.le_refl _); obtain ⟨x0, x1⟩ := two_cells r1; refine bodyPost_ret (v := .tuple #[.slice none 0 0, .agg #[.int .i64 m, .int .i64 23]]) (by simp [results, Tryd.results7, go_sem, x0, x1]) rfl (ref_no HR.out r2.drew))
    | inl k =>
      have hk := skip_le hsk hi0
      rw [hsk] at hstep m0 m1 hM
      simp only [Sum.elim_inl] at hstep
      simp only [skP, skA, skE, Sum.elim_inl, id_eq] at m0 m1 hM ⊢
      have hnN : ∀ j, (Value.slice ao pre.length cap).ownBlock = some j → w.heap.size ≤ j ∧ j ≠ w.heap.size ∧ j ≠ w1.heap.size := fun j hj => ⟨(hr.lt j hj).1, fun e => own_not hr hN (by decide) (by rw [← e]; exact hj), fun e => own_not hr hM (by decide) (by rw [← e]; exact hj)⟩
      obtain ⟨i0', hi, hz0, hz1, hz2⟩ := info_parts info_rtz
      have hlen : pre.length ≤ 65536 := by omega
      by_cases hks : s.size ≤ k
      · rw [if_pos hks] at hstep
        have HR := Lib.hid (show rsc s (s.size + 1) 0 0 = .inl (pre ++ [endT s]) by rw [H.out, hstep]; rfl)
        have hks2 : ¬ (k : Int) < s.size := by omega
        clear hstep
        go_wp2_with (first | (at_builtin; refine wpList_append_own _ rfl _ _ 30 rfl w.heap.size 39 i0' (.agg #[.int .i64 0, .int .i64 0, .int .i64 0, .string ⟨#[]⟩, .int .i64 0]) 5 48 Tryd.underlying30 hi hz0 hz1 hz2 rfl (by decide) _ _ _ rfl (hr.alloc _) ⟨wr.heap.size, 0, none⟩ 1 1 [.int .i64 9, .int .i64 s.size, .int .i64 s.size, .string ⟨#[]⟩, .int .i64 0] rfl rfl (cell_five_new _ _ _ _ _ _ _) (by simp [Value.oneCell']) (by unfold maxLen; omega) (by omega) (by have := hbr.size; simp; omega) ?_; intro v' w2 hown' hgrow _; obtain ⟨g', cap', rfl⟩ := ownsRow_succ hown'; have hN2 := (hgrow.block w.heap.size (by simp; omega) (fun e => (hnN _ e.symm).2.1 rfl)).trans ((Below.heap_alloc _ _ _ (by omega)).trans hN); have hb2 := (hbr.alloc hbr.size _).grown hgrow (by have := hbr.size; simp; omega) (fun j hj => (hnN j hj).1)) | (refine store_any 32 #[.int .i64 0, .int .i64 0] w.heap.size w.heap.size _ hN2 hb2 (Nat.le_refl _) info_rf rfl (by simp [Value.oneCell']) rfl _ _ rfl rfl rfl ?_; intro W3 k3 hb3 ho3))
        obtain ⟨b0, b1⟩ := two_cells k3
        refine bodyPost_ret (v := .tuple #[.slice (some ⟨g', 0, none⟩) (pre.length + 1) cap', .agg #[.int .i64 0, .int .i64 0]]) (by simp [results, Tryd.results7, go_sem, b0, b1]) rfl ?_
        rw [HR.out]
        refine ⟨_, rfl, ?_, hb3⟩
        simp only [Sum.elim_inl, List.length_append, List.length_singleton]
        rw [rowL_snoc]
        exact ownsRow_same hown' (fun j hj => ho3 j (fun e => own_not hown' hN2 (by decide) (by rw [← e]; exact hj)))
      rw [if_neg hks] at hstep
      have hks2 : (k : Int) < s.size := by omega
      go_wp2_with fail
      refine (one_any s hs k (by omega) _).mono ?_
      cases ho : oneAt s k with
      | inr p =>
        rw [ho] at hstep
        have HR := Lib.hid (show rsc s (s.size + 1) 0 0 = .inr p by rw [H.out, hstep]; rfl)
        have hp := oneAt_err ho
        have e1 : (p.2 == 0) = false := by rw [beq_eq_false_iff_ne]; exact hp
        have e2 : (p.2 != 0) = true := by rw [bne_iff_ne]; exact hp
        clear hstep hp
        rintro e w2 ⟨rfl, hb2⟩
        unfold oneV
        have hN2 := (hb2.block _ (lt_heap hN)).trans hN
        have hbb := hbr.trans (hb2.mono hbr.size)
        have hN3 : ((w2.alloc (rTk 0 0 0 ⟨#[]⟩ 0)).alloc (rFt p.1 p.2)).heap[w.heap.size]? = some (rFt 0 0) := (Below.heap_alloc _ _ _ (by have := lt_heap hN2; simp; omega)).trans ((Below.heap_alloc _ _ _ (lt_heap hN2)).trans hN2)
        have hb3 := (hbb.alloc hbb.size (rTk 0 0 0 ⟨#[]⟩ 0)).alloc (by have := hbb.size; simp; omega) (rFt p.1 p.2)
        obtain ⟨y0, y1⟩ := two_cells hN3
        obtain ⟨yf0, yf1⟩ := cell2f hN3
        go_wp2
        go_region
        all_goals go_wp2
        all_goals (obtain ⟨r1, r2, r3⟩ := set_ft (.int .i64 p.1) (.int .i64 p.2) hN3 hb3 (Nat.le_refl _); obtain ⟨x0, x1⟩ := two_cells r1; refine bodyPost_ret (v := .tuple #[.slice none 0 0, .agg #[.int .i64 p.1, .int .i64 p.2]]) (by simp [results, Tryd.results7, go_sem, x0, x1]) rfl (ref_no HR.out r2.drew))
      | inl t =>
        rw [ho] at hstep
        simp only [Sum.elim_inl] at hstep
        have hfin := oneAt_fin (by omega) ho
        rintro e w2 ⟨rfl, hb2⟩
        unfold oneV
        have hN2 := (hb2.block _ (lt_heap hN)).trans hN
        have hbb := hbr.trans (hb2.mono hbr.size)
        by_cases hmax : 16384 ≤ pre.length
        · rw [if_pos hmax] at hstep
          have HR := Lib.hid (show rsc s (s.size + 1) 0 0 = .inr (k, 6) by rw [H.out, hstep]; rfl)
          have hmax2 : (16384 : Int) ≤ pre.length := by omega
          clear hstep hmax
          have hN3 : ((w2.alloc (rTk t.kind t.at_ t.fin t.text t.n)).alloc (rFt k 6)).heap[w.heap.size]? = some (rFt 0 0) := (Below.heap_alloc _ _ _ (by have := lt_heap hN2; simp; omega)).trans ((Below.heap_alloc _ _ _ (lt_heap hN2)).trans hN2)
          have hb3 := (hbb.alloc hbb.size (rTk t.kind t.at_ t.fin t.text t.n)).alloc (by have := hbb.size; simp; omega) (rFt k 6)
          obtain ⟨y0, y1⟩ := two_cells hN3
          obtain ⟨yf0, yf1⟩ := cell2f hN3
          go_wp2
          go_region
          all_goals go_wp2
          all_goals (obtain ⟨r1, r2, r3⟩ := set_ft (.int .i64 k) (.int .i64 6) hN3 hb3 (Nat.le_refl _); obtain ⟨x0, x1⟩ := two_cells r1; refine bodyPost_ret (v := .tuple #[.slice none 0 0, .agg #[.int .i64 k, .int .i64 6]]) (by simp [results, Tryd.results7, go_sem, x0, x1]) rfl (ref_no HR.out r2.drew))
        · rw [if_neg hmax] at hstep
          have HN := Lib.hid (show rsc s (s.size + 1) 0 0 = comb (pre ++ [t]) (rsc s (s.size + 1 - (pre ++ [t]).length) (pre ++ [t]).length t.fin) by
            rw [H.out, hstep, List.length_append, List.length_singleton, show s.size + 1 - (pre.length + 1) = f from by omega]
            unfold comb
            cases rsc s f (pre.length + 1) t.fin <;> simp)
          have hmax2 : ¬ (16384 : Int) ≤ pre.length := by omega
          clear hstep hmax
          have hr2 : w2.ownsRow w.heap.size 39 5 (.slice ao pre.length cap) pre.length (rowL pre) := hr.kept (row := none) (below_grownBy hb2 none) (by cases hv : (Value.slice ao pre.length cap).ownBlock with | none => exact .inl rfl | some j => exact .inr (by simp))
          have hM2 := (hb2.block _ (lt_heap hM)).trans hM
          have hown_lt : ∀ j, (Value.slice ao pre.length cap).ownBlock = some j → j < w2.heap.size := fun j hj => Nat.lt_of_lt_of_le (hr.lt j hj).2 hb2.size
          have hskp : t.fin ≤ skP (skip s t.fin) := by
            cases h : skip s t.fin with
            | inl j => exact (skip_le h hfin.2).1
            | inr m => exact (skip_bad h hfin.2).1
          go_upto_region 11 with fail
          have hT3 : ((w2.alloc (rTk t.kind t.at_ t.fin t.text t.n)).alloc (rFt 0 0)).heap[w2.heap.size]? = some (rTk t.kind t.at_ t.fin t.text t.n) := (Below.heap_alloc _ _ _ (by simp)).trans (heap_alloc_new w2 _)
          have hN3 : ((w2.alloc (rTk t.kind t.at_ t.fin t.text t.n)).alloc (rFt 0 0)).heap[w.heap.size]? = some (rFt 0 0) := (Below.heap_alloc _ _ _ (by have := lt_heap hN2; simp; omega)).trans ((Below.heap_alloc _ _ _ (lt_heap hN2)).trans hN2)
          have hM3 : ((w2.alloc (rTk t.kind t.at_ t.fin t.text t.n)).alloc (rFt 0 0)).heap[w1.heap.size]? = _ := (Below.heap_alloc _ _ _ (by have := lt_heap hM2; simp; omega)).trans ((Below.heap_alloc _ _ _ (lt_heap hM2)).trans hM2)
          have hb3 := (hbb.alloc hbb.size (rTk t.kind t.at_ t.fin t.text t.n)).alloc (by have := hbb.size; simp; omega) (rFt 0 0)
          have hr3 := (hr2.alloc (rTk t.kind t.at_ t.fin t.text t.n)).alloc (rFt 0 0)
          generalize ((w2.alloc (rTk t.kind t.at_ t.fin t.text t.n)).alloc (rFt 0 0)) = W3 at hT3 hN3 hM3 hb3 hr3 ⊢
          generalize w2.heap.size = tN at hT3 hown_lt ⊢
          clear hr2 hN2 hM2 hbb hb2 hr hN hM e30 e31 f30 f31 m0 m1 mf0 mf1
          have htN : w.heap.size ≤ w1.heap.size := by omega
          obtain ⟨t0, t1, t2, t3, t4⟩ := cells5 hT3
          have hT3lt := lt_heap hT3
          have hN3lt := lt_heap hN3
          have hM3lt := lt_heap hM3
          have hw3 : w.heap.size ≤ W3.heap.size := hb3.size
          go_wp2_with (at_builtin; refine wpList_append_own _ rfl _ _ 30 rfl w.heap.size 39 i0' (.agg #[.int .i64 0, .int .i64 0, .int .i64 0, .string ⟨#[]⟩, .int .i64 0]) 5 48 Tryd.underlying30 hi hz0 hz1 hz2 rfl (by decide) _ _ _ rfl (hr3.alloc _) ⟨W3.heap.size, 0, none⟩ 1 1 [.int .i64 t.kind, .int .i64 t.at_, .int .i64 t.fin, .string t.text, .int .i64 t.n] rfl rfl (cell_five_new _ _ _ _ _ _ _) (by simp [Value.oneCell']) (by unfold maxLen; omega) (by omega) (by simp; omega) ?_; intro v' W4 hown4 hgrow _; obtain ⟨g', cap', rfl⟩ := ownsRow_succ hown4; have hT4 := (hgrow.block tN (by simp; omega) (fun e => absurd (hown_lt _ e.symm) (by omega))).trans ((Below.heap_alloc _ _ _ hT3lt).trans hT3); have hN4 := (hgrow.block w.heap.size (by simp; omega) (fun e => (hnN _ e.symm).2.1 rfl)).trans ((Below.heap_alloc _ _ _ hN3lt).trans hN3); have hM4 := (hgrow.block w1.heap.size (by simp; omega) (fun e => (hnN _ e.symm).2.2 rfl)).trans ((Below.heap_alloc _ _ _ hM3lt).trans hM3); have hb4 := (hb3.alloc hb3.size _).grown hgrow (by simp; omega) (fun j hj => (hnN j hj).1); obtain ⟨r0, r1, r2, r3, r4⟩ := cells5 hT4)
          refine (rskip_any s hs t.fin hfin.2 _).mono ?_
          rintro e w5 ⟨rfl, hb5⟩
          have hN5 := (hb5.block _ (lt_heap hN4)).trans hN4
          have hM5 := (hb5.block _ (lt_heap hM4)).trans hM4
          have hb6 := hb4.trans (hb5.mono hb4.size)
          have hown5 := hown4.kept (row := none) (below_grownBy hb5 none) (.inr (fun e => nomatch (show (some g' : Option Nat) = none from e)))
          go_wp2_with (refine store_any 32 #[.int .i64 (skA (skip s t.fin)), .int .i64 (skE (skip s t.fin))] w.heap.size w1.heap.size _ hM5 hb6 htN info_rf rfl (by simp [Value.oneCell']) rfl _ _ rfl rfl rfl ?_; intro W6 k6 hb7 ho6)
          try simp only [Act.put]
          go_roundw
          case rel =>
            refine ⟨pre ++ [t], t.fin, some ⟨g', 0, none⟩, cap', by simp, hfin.2, by simp; omega, rfl, ?_, (ho6 _ hNM).trans hN5, k6, hb7, HN, lt_heap k6⟩
            rw [List.length_append, List.length_singleton, rowL_snoc]
            exact ownsRow_same hown5 (fun j hj => ho6 j (fun e => own_not hown5 hM5 (by decide) (by rw [← e]; exact hj)))
          case measure => simp [intOf]; omega

set_option maxHeartbeats 4000000 in
set_option maxRecDepth 100000 in
/-- **the document's Scan of any text** -/
theorem rscan_any (s : ByteArray) (hs : s.size ≤ 1000000) (w : World) : Calls Tryd.prog 7 #[.string s] w (RefOut (scanR s) w) := by
  by_cases h : 65536 < s.size
  · have q : (65536 : Int) < s.size := by omega
    have HR : Hid (scanR s = .inr (0, 6)) := Lib.hid (if_pos h)
    go_enter Tryd.func7, Tryd.ntmps7
    go_wp2
    refine bodyPost_ret (v := .tuple #[.slice none 0 0, .agg #[.int .i64 0, .int .i64 6]]) (by simp [results, Tryd.results7, go_sem]) rfl (ref_no (p := (0, 6)) HR.out ((Below.refl _ _).alloc (Nat.le_refl _) _))
  · unfold scanR
    rw [if_neg h]
    exact rscan_in s hs (by omega) w
end Go.Proofs.YtifmbhcajlnhbaaDoor
