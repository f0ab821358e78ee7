/-
  Layer 7: what Groups tells, in plain words; Groups walked.
-/
import Derived.Test.YtmoebpebahhbeaaGrp
namespace Go.Proofs.Ytmoebpebahhbeaa
set_option linter.unusedVariables false
open Go.ChangeShapes Go.WideShapes Go.ChangeAt Go.RowKit

/-- the groups of a graph: each rising, a node in just one, together who lead to each other; each behind what it needs, the one with the least node first -/
structure IsG (adj : List (List Nat)) (out : List (List Nat)) : Prop where
  inc : ∀ (i : Nat) (l : List Nat), out[i]? = some l → l.Pairwise (· < ·) ∧ l ≠ []
  mem : ∀ (i : Nat) (l : List Nat), out[i]? = some l → ∀ x ∈ l, x < adj.length
  all : ∀ x, x < adj.length → ∃ (i : Nat) (l : List Nat), out[i]? = some l ∧ x ∈ l
  one : ∀ (i j : Nat) (l m : List Nat) (x : Nat), out[i]? = some l → out[j]? = some m → x ∈ l → x ∈ m → i = j
  scc : ∀ (i : Nat) (l : List Nat), out[i]? = some l → ∀ x ∈ l, ∀ y, y < adj.length → (y ∈ l ↔ Rd adj x y ∧ Rd adj y x)
  need : ∀ (i : Nat) (l : List Nat) (x y : Nat), out[i]? = some l → x ∈ l → Ed adj x y → ∃ (j : Nat) (m : List Nat), j ≤ i ∧ out[j]? = some m ∧ y ∈ m
  least : ∀ (i j : Nat) (l m : List Nat), out[i]? = some l → out[j]? = some m → i < j → (∀ x ∈ m, ∀ y, Ed adj x y → y ∈ m ∨ ∃ (k : Nat) (q : List Nat), k < i ∧ out[k]? = some q ∧ y ∈ q) → at0 l 0 ≤ at0 m 0
theorem split_at {D : List Nat} {i g : Nat} (h : D[i]? = some g) : D = D.take i ++ g :: D.drop (i + 1) := by
  obtain ⟨hi, he⟩ := List.getElem?_eq_some_iff.1 h
  rw [← he, ← List.drop_eq_getElem_cons hi, List.take_append_drop]
theorem isG_of {adj : List (List Nat)} {s : St} {us : List (List Nat)} {D : List Nat} (hg : Gd adj s) (ok : Oks adj) (hcl : ∀ x, x < adj.length → at0 s.grp x ≠ 0)
    (hus : ∀ g t, g ∈ ats us t ↔ ∃ a x, a < adj.length ∧ Ed adj a x ∧ at0 s.grp x - 1 ≠ at0 s.grp a - 1 ∧ t = at0 s.grp x - 1 ∧ g = at0 s.grp a - 1)
    (hnd : D.Nodup) (hD : ∀ g, g ∈ D ↔ g < s.grps.length) (hseq : Seqd us s.grps.length (kf s) D) : IsG adj (D.map (ats s.grps)) := by
  have hout : ∀ (i : Nat) (l : List Nat), (D.map (ats s.grps))[i]? = some l → ∃ g, D[i]? = some g ∧ g < s.grps.length ∧ l = ats s.grps g ∧ l.Pairwise (· < ·) ∧ l ≠ [] ∧ ∀ x, x ∈ l ↔ at0 s.grp x = g + 1 := fun i l h => by
    rw [List.getElem?_map] at h
    obtain ⟨g, hgd, rfl⟩ := Option.map_eq_some_iff.1 h
    have hgG := (hD g).1 (List.mem_of_getElem? hgd)
    have hm := hg.gmem g (ats s.grps g) (by unfold ats; simp [List.getD, List.getElem?_eq_getElem hgG])
    exact ⟨g, hgd, hgG, rfl, hm.1, hm.2.1, hm.2.2⟩
  have hlt : ∀ x, at0 s.grp x ≠ 0 → x < adj.length := fun x hx => by rw [← hg.lq]; exact at0_lt hx
  have hfind : ∀ x, x < adj.length → ∃ (i : Nat), (D.map (ats s.grps))[i]? = some (ats s.grps (at0 s.grp x - 1)) ∧ D[i]? = some (at0 s.grp x - 1) ∧ x ∈ ats s.grps (at0 s.grp x - 1) := fun x hx => by
    have h1 := hcl x hx
    have h2 := hg.j.grb x
    have hgG : at0 s.grp x - 1 < s.grps.length := by omega
    obtain ⟨i, hi⟩ := List.mem_iff_getElem?.1 ((hD _).2 hgG)
    have h3 : (D.map (ats s.grps))[i]? = some (ats s.grps (at0 s.grp x - 1)) := by rw [List.getElem?_map, hi]; rfl
    obtain ⟨g, e1, _, e2, _, _, e3⟩ := hout i _ h3
    refine ⟨i, h3, hi, (e3 x).2 ?_⟩
    rw [hi] at e1
    have := Option.some.inj e1
    omega
  have hinj : ∀ (i j g : Nat), D[i]? = some g → D[j]? = some g → i = j := fun i j g h1 h2 => by
    obtain ⟨a1, a2⟩ := List.getElem?_eq_some_iff.1 h1
    obtain ⟨b1, b2⟩ := List.getElem?_eq_some_iff.1 h2
    have hp := List.pairwise_iff_getElem.1 hnd
    rcases Nat.lt_trichotomy i j with h | h | h
    · exact absurd (a2.trans b2.symm) (hp i j a1 b1 h)
    · exact h
    · exact absurd (b2.trans a2.symm) (hp j i b1 a1 h)
  refine ⟨fun i l h => ?_, fun i l h x hx => ?_, fun x hx => ?_, fun i j l m x h1 h2 h3 h4 => ?_, fun i l h x hx y hy => ?_, fun i l x y h hx hE => ?_, fun i j l m h1 h2 hij hn => ?_⟩
  · obtain ⟨g, _, _, _, e1, e2, _⟩ := hout i l h
    exact ⟨e1, e2⟩
  · obtain ⟨g, _, _, _, _, _, e3⟩ := hout i l h
    exact hlt x (by rw [(e3 x).1 hx]; omega)
  · obtain ⟨i, h1, _, h2⟩ := hfind x hx
    exact ⟨i, _, h1, h2⟩
  · obtain ⟨g, d1, _, _, _, _, e3⟩ := hout i l h1
    obtain ⟨g', d2, _, _, _, _, e4⟩ := hout j m h2
    have := (e3 x).1 h3
    have := (e4 x).1 h4
    obtain rfl : g = g' := by omega
    exact hinj i j g d1 d2
  · obtain ⟨g, d1, _, _, _, _, e3⟩ := hout i l h
    have hxg := (e3 x).1 hx
    have h1 := hg.j.scc x y (by omega) (hcl y hy)
    rw [e3 y, ← h1]
    omega
  · obtain ⟨g, d1, hgG, _, _, _, e3⟩ := hout i l h
    have hxg := (e3 x).1 hx
    have hyn := ok x y hE
    obtain ⟨j, h1, h2, h3⟩ := hfind y hyn
    have hy0 := hcl y hyn
    by_cases e : at0 s.grp y - 1 = g
    · rw [e] at h2
      have := hinj j i g h2 d1
      exact ⟨j, _, by omega, h1, h3⟩
    · have hu : g ∈ ats us (at0 s.grp y - 1) := (hus g _).2 ⟨x, y, hlt x (by omega), hE, by omega, rfl, by omega⟩
      have h4 := (hseq _ _ _ (split_at d1)).1 (at0 s.grp y - 1) (by have := hg.j.grb y; omega) hu
      obtain ⟨k, hk⟩ := List.mem_iff_getElem?.1 h4
      have hki : k < i := by have := (List.getElem?_eq_some_iff.1 hk).1; simp at this; omega
      rw [List.getElem?_take_of_lt hki] at hk
      have := hinj j k _ h2 hk
      exact ⟨j, _, by omega, h1, h3⟩
  · obtain ⟨g, d1, hgG, rfl, _, _, e3⟩ := hout i l h1
    obtain ⟨g2, d2, hgG2, rfl, _, _, e4⟩ := hout j m h2
    refine (hseq _ _ _ (split_at d1)).2 g2 hgG2 (fun hm => ?_) (fun u hu hm => ?_)
    · obtain ⟨k, hk⟩ := List.mem_iff_getElem?.1 hm
      have hki : k < i := by have := (List.getElem?_eq_some_iff.1 hk).1; simp at this; omega
      rw [List.getElem?_take_of_lt hki] at hk
      have := hinj j k _ d2 hk
      omega
    · obtain ⟨a, x, ha, hE, hne, rfl, hga⟩ := (hus g2 u).1 hm
      have ha0 := hcl a ha
      have hx0 := hcl x (ok a x hE)
      rcases hn a ((e4 a).2 (by omega)) x hE with h5 | ⟨k, q, hki, hq, hxq⟩
      · have := (e4 x).1 h5; omega
      · obtain ⟨g3, d3, _, rfl, _, _, e5⟩ := hout k q hq
        have h6 := (e5 x).1 hxq
        refine List.mem_iff_getElem?.2 ⟨k, ?_⟩
        rw [List.getElem?_take_of_lt hki, d3]
        congr 1
        omega
/-- what Groups leaves: the groups in memory -/
def GrOut (B : Nat) (adj : List (List Nat)) (v : Value) (w' : World) : Prop :=
  ∃ out vs, IsG adj out ∧ w'.ownsRow B 30 1 v out.length vs ∧ Rws w' B (fun _ => True) vs out
theorem adjM_mem {n : Nat} : ∀ (es : List (Int × Int)), (∀ x ∈ es, badE n x = false) → ∀ a b, b ∈ ats (adjM n es) a ↔ ((a : Int), (b : Int)) ∈ es := by
  intro es hok a b
  have key : ∀ k, k ≤ es.length → (b ∈ ats (adjM n (es.take k)) a ↔ ((a : Int), (b : Int)) ∈ es.take k) := by
    intro k
    induction k with
    | zero =>
      intro _
      rw [List.take_zero, show ats (adjM n []) a = [] from ats_none n a]
      simp
    | succ k ih =>
      intro hk
      obtain ⟨c, d, hcd, hc, hd⟩ := badE_ok (hok es[k] (List.getElem_mem _))
      rw [take_next hk, adjM_snoc, hcd, List.mem_append, List.mem_singleton, ← ih (by omega)]
      unfold addE
      rw [ats_set (by rw [adjM_len]; simp; omega)]
      simp only [Int.toNat_natCast]
      by_cases e : a = c
      · subst e
        rw [if_pos rfl, List.mem_append, List.mem_singleton]
        constructor
        · rintro (h | h)
          · exact .inl h
          · exact .inr (by rw [h])
        · rintro (h | h)
          · exact .inl h
          · exact .inr (by have := (Prod.mk.inj h).2; omega)
      · rw [if_neg e]
        constructor
        · exact fun h => .inl h
        · rintro (h | h)
          · exact h
          · exact absurd (by have := (Prod.mk.inj h).1; omega : a = c) e
  have := key es.length (Nat.le_refl _)
  rwa [List.take_length] at this
theorem adjM_ok {n : Nat} {es : List (Int × Int)} (hok : ∀ x ∈ es, badE n x = false) : Oks (adjM n es) := fun a b h => by
  rw [adjM_len]
  obtain ⟨c, d, e, hc, hd⟩ := badE_ok (hok _ ((adjM_mem es hok a b).1 h))
  have := (Prod.mk.inj e).2
  omega
set_option maxHeartbeats 1000000 in
set_option maxRecDepth 100000 in
theorem Groups_any (n : Int) (v : Value) (es : List (Int × Int)) (w : World) (he : Edges w v es) :
    Calls Try.prog 9 #[.int .i64 n, v] w fun e w' => ∃ u, e = .returned (.tuple #[u, .int .i64 (faultM n es)]) ∧ Below w.heap.size w w' ∧ (faultM n es = 0 → GrOut w.heap.size (adjM n.toNat es) u w') ∧ (faultM n es ≠ 0 → u = .slice none 0 0) := by
  have HE := Lib.hid he
  obtain ⟨ao, c, rfl, _, _⟩ := he
  go_enter Try.func9, Try.ntmps9
  go_wp2_with fail
  refine (fault_any n _ es w HE.out).mono ?_
  rintro e w1 ⟨rfl, hb1⟩
  have HB1 := Lib.hid hb1
  clear hb1
  by_cases hf : faultM n es = 0
  · have hok : 0 ≤ n ∧ n ≤ 1024 ∧ es.length ≤ 16384 ∧ ∀ x ∈ es, badE n x = false := by
      unfold faultM at hf
      by_cases h1 : n < 0 ∨ 1024 < n
      · rw [if_pos h1] at hf; omega
      · rw [if_neg h1] at hf
        by_cases h2 : 16384 < es.length
        · rw [if_pos h2] at hf; omega
        · rw [if_neg h2] at hf
          by_cases h3 : es.any (badE n) = true
          · rw [if_pos h3] at hf; omega
          · refine ⟨by omega, by omega, by omega, fun x hx => ?_⟩
            cases hb : badE n x with
            | false => rfl
            | true => exact absurd (List.any_eq_true.2 ⟨x, hx, hb⟩) h3
    obtain ⟨h0, h1, h2, h3⟩ := hok
    obtain ⟨m, rfl⟩ := Int.eq_ofNat_of_zero_le h0
    have HF := Lib.hid hf
    have H3 := Lib.hid h3
    have hm : m ≤ 1024 := by omega
    rw [hf]
    clear hf h3 h0 h1
    go_wp2_with fail
    refine (needs_any m _ es w1 (HE.out.below HB1.out) hm H3.out h2).mono ?_
    rintro e w2 ⟨av, rfl, O2, vs2, hN2, hb2, hl2⟩
    have hB : w.heap.size ≤ w1.heap.size := HB1.out.size
    rw [List.take_length] at hN2 hl2
    have hA : ARep w2 w.heap.size (fun b => if O2 b = 0 ∨ w2.heap.size ≤ b then 0 else 9) av (adjM m es) vs2 := by
      refine ⟨owns_base hN2.out hB, ⟨hN2.len, fun i u l h1 h2 => owns_base (hN2.row i u l h1 h2) hB, fun i u h1 b hb => ?_⟩, fun b hb => ?_⟩
      · have hi := (List.getElem?_eq_some_iff.1 h1).1
        have h3 := hN2.tag i u h1 b hb
        have h4 := (hN2.row i u _ h1 (List.getElem?_eq_getElem (by rw [← hN2.len]; exact hi))).lt b hb
        show (if O2 b = 0 ∨ w2.heap.size ≤ b then 0 else 9) = 9
        rw [if_neg (by omega)]
      · have h3 := hN2.tv b hb
        have h4 := hN2.out.lt b hb
        show (if O2 b = 0 ∨ w2.heap.size ≤ b then 0 else 9) = 9
        rw [if_neg (by omega)]
    have HA := Lib.hid hA
    have HB2 := Lib.hid hb2
    have HL2 := Lib.hid hl2
    obtain ⟨aa, ca, rfl⟩ := owns_form hN2.out
    clear hA hN2 hb2 hl2
    go_wp2_with fail
    refine (groups_any w.heap.size _ _ (adjM m es) vs2 w2 HA.out (fun b => by by_cases e : O2 b = 0 ∨ w2.heap.size ≤ b <;> simp [e]) (by have := HB2.out.size; omega) (by rw [adjM_len]; exact hm) (fun a => ?_) (adjM_ok H3.out)).mono ?_
    · by_cases hal : a < (adjM m es).length
      · have := HL2.out a (ats (adjM m es) a) (by unfold ats; simp [List.getD, List.getElem?_eq_getElem hal])
        omega
      · unfold ats; rw [List.getD_eq_getElem?_getD, List.getElem?_eq_none (by omega)]; simp
    rintro e w3 ⟨u, rfl, s, us, D, vs3, hg, hcl, hus, hnd, hD, hseq, hrow, hrws, hb3⟩
    have hG : GrOut w.heap.size (adjM m es) u w3 := ⟨_, vs3, isG_of hg (adjM_ok H3.out) hcl hus hnd hD hseq, by rw [List.length_map]; exact hrow, hrws⟩
    have HG := Lib.hid hG
    obtain ⟨au, cu, rfl⟩ := owns_form hrow
    have HB3 := Lib.hid hb3
    clear hG hg hcl hus hnd hD hseq hrow hrws hb3
    go_wp2_with fail
    go_ret2
    exact ⟨_, by rw [HF.out]; rfl, (HB1.out.trans (HB2.out.mono HB1.out.size)).trans HB3.out, fun _ => HG.out, fun h => absurd HF.out h⟩
  · have hne : (faultM n es != 0) = true := by rw [bne_iff_ne]; exact hf
    have HF := Lib.hid hf
    clear hf
    go_wp2_with fail
    go_ret2
    exact ⟨_, rfl, HB1.out, fun h => absurd h HF.out, fun _ => rfl⟩
end Go.Proofs.Ytmoebpebahhbeaa
