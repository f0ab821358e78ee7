/-
  Layer 7, the program's side: needs: of each node those that it needs.
-/
import Derived.Test.YtmoebpebahhbeaaFault
import Derived.Test.YtmoebpebahhbeaaHp1
import Derived.Test.YtmoebpebahhbeaaWalk
import Derived.Test.YtmoebpebahhbeaaGate
namespace Go.Proofs.Ytmoebpebahhbeaa
set_option linter.unusedVariables false
open Go.ChangeShapes Go.WideShapes Go.ChangeAt Go.RowKit

def addE (adj : List (List Nat)) (x : Int × Int) : List (List Nat) := adj.set x.1.toNat (ats adj x.1.toNat ++ [x.2.toNat])
def adjM (n : Nat) (es : List (Int × Int)) : List (List Nat) := es.foldl addE (List.replicate n [])
theorem adjM_snoc (n : Nat) (es : List (Int × Int)) (x : Int × Int) : adjM n (es ++ [x]) = addE (adjM n es) x := by simp [adjM]
theorem adjM_len (n : Nat) (es : List (Int × Int)) : (adjM n es).length = n := by
  unfold adjM
  have : ∀ (l : List (List Nat)), (es.foldl addE l).length = l.length := by
    induction es with
    | nil => intro l; rfl
    | cons x es ih => intro l; rw [List.foldl_cons, ih]; simp [addE]
  rw [this]; simp
theorem ats_set {adj : List (List Nat)} {a : Nat} {l : List Nat} (ha : a < adj.length) (x : Nat) : ats (adj.set a l) x = if x = a then l else ats adj x := by
  unfold ats
  by_cases e : x = a
  · subst e; simp [List.getD, ha]
  · simp only [if_neg e, List.getD_eq_getElem?_getD]
    rw [List.getElem?_set_ne (by omega)]
/-- rows that are gathered: each in a block of its own -/
structure NRep (B : Nat) (O : Nat → Nat) (v : Value) (adj : List (List Nat)) (vs : List Value) (w : World) : Prop where
  out : w.ownsRow B 30 1 v adj.length vs
  row : ∀ (i : Nat) (u : Value) (l : List Nat), vs[i]? = some u → adj[i]? = some l → w.ownsRow B 3 1 u l.length (nv l)
  tag : ∀ (i : Nat) (u : Value), vs[i]? = some u → ∀ b, u.ownBlock = some b → O b = 100 + i
  tv : ∀ b, v.ownBlock = some b → O b = 9
  low : ∀ b, O b ≠ 0 → B ≤ b
section
variable {B : Nat} {O : Nat → Nat} {v : Value} {adj : List (List Nat)} {vs : List Value} {w w1 : World}
theorem NRep.len (h : NRep B O v adj vs w) : vs.length = adj.length := by have := h.out.1; omega
theorem NRep.fx {S : Nat → Prop} (h : NRep B O v adj vs w) (hf : Fx S w w1) (hn : ∀ b, O b ≠ 0 → ¬ S b) : NRep B O v adj vs w1 :=
  ⟨fx_row h.out hf fun b hb => hn b (by rw [h.tv b hb]; omega), fun i u l h1 h2 => fx_row (h.row i u l h1 h2) hf fun b hb => hn b (by rw [h.tag i u h1 b hb]; omega), h.tag, h.tv, h.low⟩
theorem NRep.step (h : NRep B O v adj vs w) {g cap a b : Nat} {u u' : Value} {l : List Nat} (hv : v = .slice (some ⟨g, 0, none⟩) adj.length cap) (ha : vs[a]? = some u) (hl : adj[a]? = some l)
    (o5 : w1.ownsRow B 3 1 u' (l.length + 1) (nv l ++ [.int .i64 (b : Int)])) (x5 : Fx (fun k => u.ownBlock = some k) w w1) (a5 : ∀ k, u'.ownBlock = some k → u.ownBlock = some k ∨ w.heap.size ≤ k) (hB : B ≤ w.heap.size) :
    NRep B (retag O w.heap.size (100 + a)) v (adj.set a (l ++ [b])) (vs.set a u') (w1.setCell ⟨g, a, none⟩ u') ∧ Fx (fun k => O k ≠ 0) w (w1.setCell ⟨g, a, none⟩ u') := by
  have hg : O g = 9 := h.tv g (by rw [hv]; rfl)
  have hgw : g < w.heap.size := (h.out.lt g (by rw [hv]; rfl)).2
  have hal : a < vs.length := (List.getElem?_eq_some_iff.1 ha).1
  have hua := h.tag a u ha
  have hrow := h.row a u l ha hl
  have tu : ∀ k, u'.ownBlock = some k → retag O w.heap.size (100 + a) k = 100 + a := retag_own hua (fun k hk => (hrow.lt k hk).2) a5
  have hx1 : Fx (fun k => O k = 100 + a) w w1 := x5.mono fun k _ hk => hua k hk
  have hs1 : Fx (fun k => k = g) w1 (w1.setCell ⟨g, a, none⟩ u') := Fx.set w1 g a u' rfl
  have old : ∀ (i : Nat) (u2 : Value), vs[i]? = some u2 → ∀ k, u2.ownBlock = some k → k < w.heap.size := fun i u2 h1 k hk => by
    have hi := (List.getElem?_eq_some_iff.1 h1).1
    exact ((h.row i u2 _ h1 (List.getElem?_eq_getElem (by rw [← h.len]; exact hi))).lt k hk).2
  refine ⟨⟨?_, fun i u2 l2 h1 h2 => ?_, fun i u2 h1 k hk => ?_, fun k hk => ?_, fun k hk => ?_⟩, ?_⟩
  · have h1 := fx_row h.out hx1 fun k hk => by rw [h.tv k hk]; omega
    rw [hv] at h1 ⊢
    have := (h1.stored a u').1
    rw [List.length_set]
    exact this
  · by_cases e : i = a
    · subst e
      have e1 : u2 = u' := by
        rw [List.getElem?_set_self hal] at h1
        exact (Option.some.inj h1).symm
      have e2 : l2 = l ++ [b] := by
        rw [List.getElem?_set_self (by rw [← h.len]; exact hal)] at h2
        exact (Option.some.inj h2).symm
      subst e1 e2
      refine fx_row (by rw [nv_append, List.length_append]; exact o5) hs1 fun k hk e => ?_
      have := tu k hk
      rw [e, retag_old hgw] at this
      omega
    · rw [List.getElem?_set_ne (Ne.symm e)] at h1 h2
      refine fx_row (fx_row (h.row i u2 l2 h1 h2) hx1 fun k hk => by rw [h.tag i u2 h1 k hk]; omega) hs1 fun k hk e2 => ?_
      have := h.tag i u2 h1 k hk
      rw [e2] at this
      omega
  · by_cases e : i = a
    · subst e
      have e1 : u2 = u' := by
        rw [List.getElem?_set_self hal] at h1
        exact (Option.some.inj h1).symm
      subst e1
      exact tu k hk
    · rw [List.getElem?_set_ne (Ne.symm e)] at h1
      rw [retag_old (old i u2 h1 k hk)]
      exact h.tag i u2 h1 k hk
  · rw [retag_old (h.out.lt k hk).2]
    exact h.tv k hk
  · by_cases hkw : k < w.heap.size
    · rw [retag_old hkw] at hk; exact h.low k hk
    · omega
  · exact (hx1.mono (T := fun k => O k ≠ 0) fun k _ hk => by rw [hk]; omega).trans (hs1.mono (T := fun k => O k ≠ 0) fun k _ hk => by rw [hk, hg]; omega) fun _ _ h => h
theorem NRep.nil (n : Nat) (hr : w.ownsRow B 30 1 v n (List.replicate n (.slice none 0 0))) (hO : ∀ b, v.ownBlock = some b → O b = 9) (hlow : ∀ b, O b ≠ 0 → B ≤ b) : NRep B O v (List.replicate n []) (List.replicate n (.slice none 0 0)) w := by
  refine ⟨by simpa using hr, fun i u l h1 h2 => ?_, fun i u h1 b hb => ?_, hO, hlow⟩
  · have e1 := List.eq_of_mem_replicate (List.mem_of_getElem? h1)
    have e2 := List.eq_of_mem_replicate (List.mem_of_getElem? h2)
    subst e1 e2
    exact World.ownsRow_nil _ _ _ _
  · have e1 := List.eq_of_mem_replicate (List.mem_of_getElem? h1)
    subst e1
    simp [Value.ownBlock] at hb
end
theorem badE_ok {n : Nat} {x : Int × Int} (h : badE n x = false) : ∃ a b : Nat, x = ((a : Int), (b : Int)) ∧ a < n ∧ b < n := by
  unfold badE at h
  simp only [Bool.or_eq_false_iff, Bool.not_eq_false', Bool.and_eq_true, decide_eq_true_eq] at h
  obtain ⟨⟨h1, h2⟩, h3, h4⟩ := h
  refine ⟨x.1.toNat, x.2.toNat, ?_, by omega, by omega⟩
  ext <;> simp <;> omega
/-- where needs' loop stands -/
def NLoop (n : Nat) (es : List (Int × Int)) (w : World) (v : Value) (k : Nat) (wr : World) : Prop :=
  ∃ O vs, NRep w.heap.size O v (adjM n (es.take k)) vs wr ∧ Below w.heap.size w wr ∧ (∀ (a : Nat) (l : List Nat), (adjM n (es.take k))[a]? = some l → l.length ≤ k)
theorem take_next {α : Type} {es : List α} {k : Nat} (h : k < es.length) : es.take (k + 1) = es.take k ++ [es[k]] := List.take_succ_eq_append_getElem h

set_option maxHeartbeats 2000000 in
set_option maxRecDepth 100000 in
theorem needs_any (n : Nat) (v : Value) (es : List (Int × Int)) (w : World) (he : Edges w v es) (hn : n ≤ 1024) (hok : ∀ x ∈ es, badE n x = false) (hl : es.length ≤ 16384) :
    Calls Try.prog 21 #[.int .i64 (n : Int), v] w fun e w' => ∃ av, e = .returned av ∧ NLoop n es w av es.length w' := by
  obtain ⟨ao, c, rfl, _, hc⟩ := he
  have HC := Lib.hid hc
  have HOK := Lib.hid hok
  clear hc hok
  obtain ⟨i0, hi, hz0, hz1, hz2⟩ := info_parts info_ints
  have HI := Lib.hid hi
  have HZ0 := Lib.hid hz0
  have HZ1 := Lib.hid hz1
  have HZ2 := Lib.hid hz2
  clear hi hz0 hz1 hz2
  go_enter Try.func21, Try.ntmps21
  go_wp2_with (refine wpList_make_full _ rfl _ _ 24 rfl w.heap.size 30 i0 (.slice none 0 0) 1 Try.underlying24 HI.out HZ0.out HZ1.out .i64 .i64 _ _ n rfl rfl rfl rfl (by rw [HZ2.out]; omega) (by unfold maxLen; omega) (by simp) ?_; intro w1 hown1 hg1)
  have h0 : NLoop n es w (.slice (some ⟨w.heap.size, 0, none⟩) n n) 0 w1 := by
    refine ⟨fun b => if b = w.heap.size then 9 else 0, List.replicate n (.slice none 0 0), NRep.nil n ?_ ?_ ?_, ⟨hg1.os, hg1.tape, hg1.output, hg1.size, fun k hk => hg1.block k hk (by simp)⟩, fun a l h => ?_⟩
    · rw [Nat.mul_one] at hown1
      have e := toList_madeCells_one (.slice none 0 0) n
      rw [show (Value.slice none 0 0).cells = #[.slice none 0 0] from rfl, e] at hown1
      exact hown1
    · intro b hb
      have e : w.heap.size = b := by simpa [Value.ownBlock] using hb
      rw [if_pos e.symm]
    · intro b hb
      by_cases e : b = w.heap.size
      · omega
      · rw [if_neg e] at hb; exact absurd rfl hb
    · rw [List.take_zero] at h
      have e := List.eq_of_mem_replicate (List.mem_of_getElem? h)
      rw [e]; exact Nat.le_refl _
  have H0 := Lib.hid h0
  clear h0 hown1 hg1
  go_loopw [12] (fun c wr => ∃ k : Nat, k ≤ es.length ∧ c = .int .i64 (k : Int) ∧ NLoop n es w (.slice (some ⟨w.heap.size, 0, none⟩) n n) k wr) (fun c _ => es.length - (intOf c).toNat)
  case atStart => exact ⟨0, Nat.zero_le _, rfl, H0.out⟩
  case round =>
    obtain ⟨k, hk, rfl, O, vs, hN, hb, hbd⟩ := hrel
    by_cases hlt : k < es.length
    · have hx : es[k]? = some es[k] := List.getElem?_eq_getElem hlt
      obtain ⟨a, b, hab, han, hbn⟩ := badE_ok (HOK.out es[k] (List.getElem_mem hlt))
      obtain ⟨A, rfl, e2, e3, e4⟩ := HC.out k _ hx
      rw [hab] at e3 e4
      have hadd : ∀ k, (A.add k).block = A.block := fun k => by unfold Addr.add; split <;> rfl
      have c1 : wr.cell? (A.add (k * 2)) = some (.int .i64 (a : Int)) := by rw [hb.cell (by rw [hadd]; exact e2)]; exact e3
      have c2 : wr.cell? (A.add (k * 2 + 1)) = some (.int .i64 (b : Int)) := by rw [hb.cell (by rw [hadd]; exact e2)]; exact e4
      have hkI : (k : Int) < (es.length : Int) := by omega
      have hnext : adjM n (es.take (k + 1)) = (adjM n (es.take k)).set a (ats (adjM n (es.take k)) a ++ [b]) := by
        rw [take_next hlt, adjM_snoc, hab]; simp [addE]
      have hal : a < (adjM n (es.take k)).length := by rw [adjM_len]; exact han
      have hla : (adjM n (es.take k))[a]? = some (ats (adjM n (es.take k)) a) := by unfold ats; simp [List.getD, List.getElem?_eq_getElem hal]
      have hva : vs[a]? = some (vs[a]'(by rw [hN.len]; exact hal)) := List.getElem?_eq_getElem _
      generalize vs[a]'(by rw [hN.len]; exact hal) = u at hva
      have hu := hN.row a u _ hva hla
      have hlb := hbd a _ hla
      have hlb2 : (ats (adjM n (es.take k)) a).length ≤ 100000 := by omega
      have HNX := Lib.hid hnext
      have HLA := Lib.hid hla
      have HVA := Lib.hid hva
      have HN := Lib.hid hN
      have HB := Lib.hid hb
      have HBD := Lib.hid hbd
      have HLB := Lib.hid hlb
      have HU := Lib.hid hu
      clear hx hab e3 e4 hadd hnext hal hla hva hN hb hbd hlb hu
      go_upto_region 5 with (refine load_pair A (k * 2) a b c1 c2 rfl _ rfl rfl ?_)
      have hfxW := Fx.alloc (S := fun _ => False) wr (.cells #[.int .i64 (a : Int), .int .i64 (b : Int)] 43)
      have q0 : (wr.alloc (.cells #[.int .i64 (a : Int), .int .i64 (b : Int)] 43)).cell? ⟨wr.heap.size, 0, none⟩ = some (.int .i64 (a : Int)) := by rw [Lib.cell_of_heap (heap_alloc_new wr _)]; rfl
      have q1 : (wr.alloc (.cells #[.int .i64 (a : Int), .int .i64 (b : Int)] 43)).cell? ⟨wr.heap.size, 1, none⟩ = some (.int .i64 (b : Int)) := by rw [Lib.cell_of_heap (heap_alloc_new wr _)]; rfl
      have hz : wr.heap.size < (wr.alloc (.cells #[.int .i64 (a : Int), .int .i64 (b : Int)] 43)).heap.size := by simp
      clear c1 c2
      generalize wr.alloc _ = W at hfxW q0 q1 hz ⊢
      have HNW := Lib.hid (HN.out.fx hfxW fun _ _ => id)
      have HUW := Lib.hid (fx_row HU.out hfxW fun _ _ => id)
      have HBW := Lib.hid (HB.out.trans ((hfxW.none fun _ _ => id).mono HB.out.size))
      have hBW : w.heap.size ≤ W.heap.size := HBW.out.size
      have hout := HNW.out.out
      rw [adjM_len] at hout
      have go := val_cell hout HVA.out
      have gz := hout.frozenAt a
      obtain ⟨au, cu, eu⟩ := owns_form HUW.out
      have hanI : (a : Int) < (n : Int) := by omega
      have TU := Lib.hid (HNW.out.tag a u HVA.out)
      have huw := HUW.out
      rw [eu] at go huw
      have HUW2 := Lib.hid huw
      have EU := Lib.hid eu
      have hne : ¬ (Value.slice au (ats (adjM n (es.take k)) a).length cu).ownBlock = some w.heap.size := fun e => by
        have h1 := TU.out w.heap.size (by rw [EU.out]; exact e)
        rw [HNW.out.tv w.heap.size rfl] at h1
        omega
      have hne2 : ¬ (Value.slice au (ats (adjM n (es.take k)) a).length cu).ownBlock = some wr.heap.size := fun e => by
        have := (HU.out.lt wr.heap.size (by rw [EU.out]; exact e)).2
        omega
      have HNE2 := Lib.hid hne2
      have HNE := Lib.hid hne
      have HOUT := Lib.hid hout
      have qa := fun (o : Obj) => fx_cell (S := fun _ => False) go (Fx.alloc W o) id
      have qb := fun (o : Obj) => fx_cell (S := fun _ => False) q0 (Fx.alloc W o) id
      have qc := fun (o : Obj) => fx_cell (S := fun _ => False) q1 (Fx.alloc W o) id
      clear hout eu huw hne hne2
      have HS0 : Hid (W.drew.cell? ⟨wr.heap.size, 0, none⟩ = some (.int .i64 (a : Int)) ∧ W.drew.cell? ⟨wr.heap.size, 1, none⟩ = some (.int .i64 (b : Int)) ∧ W.drew.cell? ⟨w.heap.size, a, none⟩ = some (.slice au (ats (adjM n (es.take k)) a).length cu)) := Lib.hid ⟨q0, q1, go⟩
      go_wp2_with fail
      refine wp_region_gate (fun V => V.cell? ⟨wr.heap.size, 0, none⟩ = some (.int .i64 (a : Int)) ∧ V.cell? ⟨wr.heap.size, 1, none⟩ = some (.int .i64 (b : Int)) ∧ V.cell? ⟨w.heap.size, a, none⟩ = some (.slice au (ats (adjM n (es.take k)) a).length cu)) 13 (by kernel_rfl) ⟨q0, q1, go⟩ ?_
      change AtG _ _ _ _ _ _ _ _ _ W.drew
      clear q0 q1 go qa qb qc
      have hS0 : Hid (W.drew.cell? ⟨wr.heap.size, 0, none⟩ = some (.int .i64 (a : Int)) ∧ W.drew.cell? ⟨wr.heap.size, 1, none⟩ = some (.int .i64 (b : Int)) ∧ W.drew.cell? ⟨w.heap.size, a, none⟩ = some (.slice au (ats (adjM n (es.take k)) a).length cu)) := HS0
      generalize hwd : W.drew = W0 at hS0 ⊢
      have HWD := Lib.hid hwd
      clear hwd
      refine G_pure (i := 0) (v := ?_) rfl (by kernel_rfl) (fun _ _ _ h => h) (Or.inl ⟨by rfl, fun V hV => ?_⟩) ?_
      rotate_left
      · go_simp; with_reducible rfl
      simp only [Act.put, List.setIfInBounds_toArray, List.set_cons_zero, List.set_cons_succ]
      refine G_pure (i := 1) (v := ?_) rfl (by kernel_rfl) (fun _ _ _ h => h) (Or.inl ⟨by rfl, fun V hV => ?_⟩) ?_
      rotate_left
      · go_simp; with_reducible rfl
      simp only [Act.put, List.setIfInBounds_toArray, List.set_cons_zero, List.set_cons_succ]
      refine G_take (i := 2) (v := ?_) rfl (by kernel_rfl) (fun _ _ _ h => h) (Or.inl ⟨by rfl, fun V hV => ?_⟩) ?_
      rotate_left
      · obtain ⟨c0, c1, c2⟩ := hV; go_simp; with_reducible rfl
      simp only [Act.put, List.setIfInBounds_toArray, List.set_cons_zero, List.set_cons_succ]
      refine G_pure (i := 3) (v := ?_) rfl (by kernel_rfl) (fun _ _ _ h => h) (Or.inl ⟨by rfl, fun V hV => ?_⟩) ?_
      rotate_left
      · go_simp; with_reducible rfl
      simp only [Act.put, List.setIfInBounds_toArray, List.set_cons_zero, List.set_cons_succ]
      refine G_pure (i := 4) (v := ?_) rfl (by kernel_rfl) (fun _ _ _ h => h) (Or.inl ⟨by rfl, fun V hV => ?_⟩) ?_
      rotate_left
      · go_simp; with_reducible rfl
      simp only [Act.put, List.setIfInBounds_toArray, List.set_cons_zero, List.set_cons_succ]
      refine G_take (i := 5) (v := ?_) rfl (by kernel_rfl) (fun _ _ _ h => h) (Or.inl ⟨by rfl, fun V hV => ?_⟩) ?_
      rotate_left
      · obtain ⟨c0, c1, c2⟩ := hV; go_simp; with_reducible rfl
      simp only [Act.put, List.setIfInBounds_toArray, List.set_cons_zero, List.set_cons_succ]
      refine G_pure (i := 6) (v := ?_) rfl (by kernel_rfl) (fun _ _ _ h => h) (Or.inl ⟨by rfl, fun V hV => ?_⟩) ?_
      rotate_left
      · go_simp; with_reducible rfl
      simp only [Act.put, List.setIfInBounds_toArray, List.set_cons_zero, List.set_cons_succ]
      refine G_take (i := 7) (v := ?_) rfl (by kernel_rfl) (fun _ _ _ h => h) (Or.inl ⟨by rfl, fun V hV => ?_⟩) ?_
      rotate_left
      · obtain ⟨c0, c1, c2⟩ := hV; go_simp; with_reducible rfl
      simp only [Act.put, List.setIfInBounds_toArray, List.set_cons_zero, List.set_cons_succ]
      refine G_pure (i := 8) (v := ?_) rfl (by kernel_rfl) (fun _ _ _ h => h) (Or.inl ⟨by rfl, fun V hV => ?_⟩) ?_
      rotate_left
      · go_simp; with_reducible rfl
      simp only [Act.put, List.setIfInBounds_toArray, List.set_cons_zero, List.set_cons_succ]
      refine G_take (i := 9) (v := ?_) rfl (by kernel_rfl) (fun _ _ _ h => h) (Or.inl ⟨by rfl, fun V hV => ?_⟩) ?_
      rotate_left
      · obtain ⟨c0, c1, c2⟩ := hV; go_simp; with_reducible rfl
      simp only [Act.put, List.setIfInBounds_toArray, List.set_cons_zero, List.set_cons_succ]
      refine G_one (k := 10) rfl (by kernel_rfl) (fun K hK => ?_)
      have HK := Lib.hid hK
      clear hK
      go_wp2_with fail
      refine HK.out _ _ (fun _ => ⟨fx_cell (S := fun _ => False) hS0.out.1 (Fx.alloc W0 _) id, fx_cell (S := fun _ => False) hS0.out.2.1 (Fx.alloc W0 _) id, fx_cell (S := fun _ => False) hS0.out.2.2 (Fx.alloc W0 _) id⟩) ?_
      clear HK K
      refine G_one (k := 11) rfl (by kernel_rfl) (fun K hK => ?_)
      have HK := Lib.hid hK
      clear hK
      have hown0 : W0.ownsRow w.heap.size 3 1 (.slice au (ats (adjM n (es.take k)) a).length cu) (ats (adjM n (es.take k)) a).length (nv (ats (adjM n (es.take k)) a)) := by rw [← HWD.out]; exact HUW2.out
      have hB0 : w.heap.size ≤ W0.heap.size := by rw [← HWD.out]; exact hBW
      go_wp2_with (at_builtin; refine wp_app info_int Try.underlying30 rfl (by decide) (by decide) rfl _ _ rfl hown0 hB0 hlb2 [.int .i64 (b : Int)] rfl (by simp [Value.oneCell']) rfl rfl ?_; intro v5 W5 o5 x5 a5; obtain ⟨a6, c6, rfl⟩ := owns_form o5)
      have dc5 := fx_cell hS0.out.2.2 x5 HNE.out
      have dz5 := (fx_row (show W0.ownsRow w.heap.size 30 1 (.slice (some ⟨w.heap.size, 0, none⟩) n n) n vs by rw [← HWD.out]; exact HOUT.out) x5 (fun b hb e => HNE.out (e.trans hb.symm))).frozenAt a
      clear hown0 hB0
      refine HK.out _ _ (fun _ => ⟨fx_cell hS0.out.1 x5 HNE2.out, fx_cell hS0.out.2.1 x5 HNE2.out, dc5⟩) ?_
      clear HK K
      refine G_one (k := 12) rfl (by kernel_rfl) (fun K hK => ?_)
      have HK := Lib.hid hK
      clear hK
      go_wp2_with fail
      refine HK.out _ _ (fun _ => ⟨fx_cell hS0.out.1 x5 HNE2.out, fx_cell hS0.out.2.1 x5 HNE2.out, dc5⟩) ?_
      clear HK K
      refine G_one (k := 13) rfl (by kernel_rfl) (fun K hK => ?_)
      have HK := Lib.hid hK
      clear hK
      go_wp2_with fail
      refine HK.out _ _ (fun h => absurd (h.symm.trans (by kernel_rfl : _ = true)) Bool.false_ne_true) ?_
      clear HK K
      refine G_done (by kernel_rfl) ?_
      have hst := HNW.out.step (g := w.heap.size) (cap := n) (a := a) (b := b) (u := u) (u' := .slice a6 ((ats (adjM n (es.take k)) a).length + 1) c6) (w1 := W5) (by rw [adjM_len]) HVA.out HLA.out o5 (by rw [EU.out]; refine (Fx.refl _ W).drew.trans (w1 := W.drew) ?_ fun _ _ h => h; rw [HWD.out]; exact x5) (by rw [EU.out]; intro q hq; have := a5 q hq; rw [← HWD.out] at this; exact this) hBW
      have HST := Lib.hid hst
      clear hst o5 x5 a5 dc5 dz5
      go_wp2_with fail
      go_roundw
      case rel =>
        have r1 := HST.out.1
        rw [← HNX.out] at r1
        have r3 : ∀ (i : Nat) (l : List Nat), (adjM n (es.take (k + 1)))[i]? = some l → l.length ≤ k + 1 := by
          rw [HNX.out]
          intro i l hil
          by_cases e : i = a
          · subst e
            rw [List.getElem?_set_self (List.getElem?_eq_some_iff.1 HLA.out).1] at hil
            rw [← Option.some.inj hil, List.length_append]
            have := HLB.out
            simp
            omega
          · rw [List.getElem?_set_ne (Ne.symm e)] at hil
            have := HBD.out i l hil
            omega
        exact ⟨k + 1, by omega, by go_num, _, _, r1, HBW.out.trans (HST.out.2.below HBW.out.size fun b hb hO => by have := HNW.out.low b hO; omega), r3⟩
      case measure => simp [intOf]; omega
    · have hke : k = es.length := by omega
      have HF : Hid (NLoop n es w (.slice (some ⟨w.heap.size, 0, none⟩) n n) es.length wr) := Lib.hid (by rw [← hke]; exact ⟨O, vs, hN, hb, hbd⟩)
      clear hN hb hbd hke
      go_wp2_with fail
      go_ret
      exact ⟨_, rfl, HF.out⟩
end Go.Proofs.Ytmoebpebahhbeaa
