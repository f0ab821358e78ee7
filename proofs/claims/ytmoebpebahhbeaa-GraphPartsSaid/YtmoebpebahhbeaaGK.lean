/-
  Layer 7, mathematics: the search's state as lists: each step keeps what holds, and comes nearer to the end. No walk.
-/
import Derived.Test.YtmoebpebahhbeaaGather
import Derived.Test.YtmoebpebahhbeaaGJ
namespace Go.Proofs.Ytmoebpebahhbeaa
set_option linter.unusedVariables false

theorem at0_set {l : List Nat} {b v : Nat} (hb : b < l.length) : at0 (l.set b v) = upd (at0 l) b v := by
  funext x
  unfold at0 upd
  by_cases e : x = b
  · subst e; simp [List.getD, hb]
  · simp only [if_neg e, List.getD_eq_getElem?_getD]
    rw [List.getElem?_set_ne (by omega)]
theorem at0_lt {l : List Nat} {x : Nat} (h : at0 l x ≠ 0) : x < l.length := by
  refine Classical.byContradiction fun hn => h ?_
  unfold at0
  rw [List.getD_eq_getElem?_getD, List.getElem?_eq_none (by omega)]
  rfl
theorem at0_all {v : Nat} : ∀ (g l : List Nat), (∀ b ∈ g, b < l.length) → ∀ x, at0 (setAll l g v) x = if x ∈ g then v else at0 l x := by
  intro g
  induction g with
  | nil => intro l _ x; simp [setAll]
  | cons b g ih =>
    intro l hl x
    show at0 (setAll (l.set b v) g v) x = _
    rw [ih (l.set b v) (fun y hy => by simpa using hl y (by simp [hy])) x, at0_set (hl b (by simp))]
    by_cases h1 : x ∈ g
    · rw [if_pos h1, if_pos (by simp [h1])]
    · rw [if_neg h1]
      by_cases h2 : x = b
      · rw [h2, upd_eq, if_pos (by simp)]
      · rw [upd_ne h2, if_neg (by simp [h1, h2])]
theorem nodup_le : ∀ (n : Nat) (l : List Nat), l.Nodup → (∀ x ∈ l, x < n) → l.length ≤ n := by
  intro n
  induction n with
  | zero =>
    intro l _ h
    cases l with
    | nil => exact Nat.le_refl _
    | cons x l => exact absurd (h x (by simp)) (Nat.not_lt_zero _)
  | succ n ih =>
    intro l hn h
    by_cases hm : n ∈ l
    · have h1 := ih (l.erase n) (hn.erase n) fun x hx => by
        have h2 := h x (List.mem_of_mem_erase hx)
        have h3 : x ≠ n := fun e => by
          rw [e] at hx
          exact absurd hx (List.Nodup.not_mem_erase hn)
        omega
      rw [List.length_erase_of_mem hm] at h1
      omega
    · have := ih l hn fun x hx => by
        have h2 := h x hx
        have h3 : x ≠ n := fun e => hm (e ▸ hx)
        omega
      omega
theorem nodup_of_lt {m : Nat → Nat} {l : List Nat} (h : l.Pairwise fun x y => m x < m y) : l.Nodup := h.imp fun h e => by rw [e] at h; omega

/-- the search stands well -/
structure Gd (adj : List (List Nat)) (s : St) : Prop where
  j : Jn adj (at0 s.met) (at0 s.fst) (at0 s.grp) s.cnt s.grps.length s.opn s.road
  lm : s.met.length = adj.length
  lf : s.fst.length = adj.length
  lq : s.grp.length = adj.length
  all : ∃ l : List Nat, l.Nodup ∧ l.length = s.cnt ∧ ∀ x ∈ l, at0 s.met x ≠ 0
  reps : ∃ l : List Nat, l.Nodup ∧ l.length = s.grps.length ∧ ∀ x ∈ l, at0 s.grp x ≠ 0
  gmem : ∀ (i : Nat) (l : List Nat), s.grps[i]? = some l → l.Pairwise (· < ·) ∧ l ≠ [] ∧ ∀ x, x ∈ l ↔ at0 s.grp x = i + 1
/-- each edge leads to a node -/
def Oks (adj : List (List Nat)) : Prop := ∀ a b, Ed adj a b → b < adj.length
section
variable {adj : List (List Nat)} {s : St}
theorem Gd.open_lt (h : Gd adj s) {x : Nat} (hx : x ∈ s.opn) : x < adj.length := by rw [← h.lm]; exact at0_lt ((h.j.opn x).1 hx).1
theorem Gd.road_open (h : Gd adj s) {q : Nat × Nat} (hq : q ∈ s.road) : q.1 ∈ s.opn := h.j.rop q.1 (List.mem_map_of_mem hq)
theorem Gd.cnt_le (h : Gd adj s) : s.cnt ≤ adj.length := by
  obtain ⟨l, h1, h2, h3⟩ := h.all
  rw [← h2]
  exact nodup_le _ l h1 fun x hx => by rw [← h.lm]; exact at0_lt (h3 x hx)
theorem Gd.cnt_lt (h : Gd adj s) {b : Nat} (hb : at0 s.met b = 0) (hbn : b < adj.length) : s.cnt < adj.length := by
  obtain ⟨l, h1, h2, h3⟩ := h.all
  have := nodup_le adj.length (b :: l) (List.nodup_cons.2 ⟨fun hm => h3 b hm hb, h1⟩) fun x hx => by
    rcases List.mem_cons.1 hx with rfl | hx
    · exact hbn
    · rw [← h.lm]; exact at0_lt (h3 x hx)
  simp at this
  omega
theorem Gd.sml (h : Gd adj s) (hn : adj.length ≤ 1024) : Sml s := by
  refine ⟨by rw [h.lm]; exact hn, by rw [h.lf, h.lm], by rw [h.lq, h.lm], ?_, ?_, by have := h.cnt_le; omega, ?_⟩
  · have := nodup_le adj.length s.opn (nodup_of_lt h.j.ord) fun x hx => h.open_lt hx
    omega
  · have := nodup_le adj.length (s.road.map Prod.fst) (nodup_of_lt h.j.rord) fun x hx => h.open_lt (h.j.rop x hx)
    rw [List.length_map] at this
    omega
  · obtain ⟨l, h1, h2, h3⟩ := h.reps
    have := nodup_le adj.length l h1 fun x hx => by rw [← h.lq]; exact at0_lt (h3 x hx)
    omega
theorem Gd.groups_lt (h : Gd adj s) {a : Nat} (ha : a ∈ s.opn) : s.grps.length < adj.length := by
  obtain ⟨l, h1, h2, h3⟩ := h.reps
  have hg := ((h.j.opn a).1 ha).2
  have := nodup_le adj.length (a :: l) (List.nodup_cons.2 ⟨fun hm => h3 a hm hg, h1⟩) fun x hx => by
    rcases List.mem_cons.1 hx with rfl | hx
    · exact h.open_lt ha
    · rw [← h.lq]; exact at0_lt (h3 x hx)
  simp at this
  omega
/-- how much is left, where no node needs more than D -/
def mu (adj : List (List Nat)) (D : Nat) (s : St) : Nat := (adj.length - s.cnt) * (D + 3) + (s.road.map fun (q : Nat × Nat) => (ats adj q.1).length - q.2 + 1).sum
theorem mu_road {l : List (Nat × Nat)} {q : Nat × Nat} : ((l ++ [q]).map fun (q : Nat × Nat) => (ats adj q.1).length - q.2 + 1).sum = (l.map fun (q : Nat × Nat) => (ats adj q.1).length - q.2 + 1).sum + ((ats adj q.1).length - q.2 + 1) := by simp

/-- a node is met -/
theorem Gd.enter (h : Gd adj s) {b : Nat} (hb : at0 s.met b = 0) (hbn : b < adj.length) (hR : ∀ q ∈ s.road.map Prod.fst, Rd adj q b) : Gd adj (s.enter b) := by
  refine ⟨?_, by simp [St.enter, h.lm], by simp [St.enter, h.lf], h.lq, ?_, h.reps, h.gmem⟩
  · show Jn adj (at0 (s.met.set b (s.cnt + 1))) (at0 (s.fst.set b (s.cnt + 1))) (at0 s.grp) (s.cnt + 1) s.grps.length (s.opn ++ [b]) (s.road ++ [(b, 0)])
    rw [at0_set (by rw [h.lm]; exact hbn), at0_set (by rw [h.lf]; exact hbn)]
    exact h.j.enter hb hR
  · obtain ⟨l, h1, h2, h3⟩ := h.all
    refine ⟨b :: l, List.nodup_cons.2 ⟨fun hm => h3 b hm hb, h1⟩, by simp [h2, St.enter], fun x hx => ?_⟩
    show at0 (s.met.set b (s.cnt + 1)) x ≠ 0
    rw [at0_set (by rw [h.lm]; exact hbn)]
    rcases List.mem_cons.1 hx with rfl | hx
    · rw [upd_eq]; omega
    · rw [upd_ne (fun e : x = b => h3 x hx (by rw [e]; exact hb))]; exact h3 x hx
theorem enter_mono (h : Gd adj s) {b : Nat} (hbn : b < adj.length) : ∀ x, at0 s.met x ≠ 0 → at0 (s.enter b).met x ≠ 0 := fun x hx => by
  show at0 (s.met.set b (s.cnt + 1)) x ≠ 0
  rw [at0_set (by rw [h.lm]; exact hbn)]
  by_cases e : x = b
  · rw [e, upd_eq]; omega
  · rw [upd_ne e]; exact hx

/-- an edge of the walk -/
theorem Gd.along (h : Gd adj s) (ok : Oks adj) {D : Nat} (hD : ∀ a, (ats adj a).length ≤ D) {l : List (Nat × Nat)} {a i b : Nat} (hr : s.road = l ++ [(a, i)]) (hb : (ats adj a)[i]? = some b) :
    Gd adj (St.along { s with road := l ++ [(a, i + 1)] } a b) ∧ (∀ x, at0 s.met x ≠ 0 → at0 (St.along { s with road := l ++ [(a, i + 1)] } a b).met x ≠ 0) ∧ mu adj D (St.along { s with road := l ++ [(a, i + 1)] } a b) < mu adj D s := by
  have hE : Ed adj a b := ed_at.2 ⟨i, hb⟩
  have hbn := ok a b hE
  have hi : i < (ats adj a).length := (List.getElem?_eq_some_iff.1 hb).1
  have hao : a ∈ s.opn := h.road_open (q := (a, i)) (by rw [hr]; simp)
  have hj := h.j
  rw [hr] at hj
  unfold St.along
  by_cases h0 : at0 s.met b = 0
  · rw [if_pos h0]
    have hR : ∀ q ∈ s.road.map Prod.fst, Rd adj q b := fun q hq => by
      rw [hr] at hq
      exact (hj.down q hq a hao (hj.last q hq)).trans (.one hE)
    have h1 := h.enter h0 hbn hR
    have hab : a ≠ b := fun e => ((h.j.opn a).1 hao).1 (e ▸ h0)
    refine ⟨⟨?_, h1.lm, h1.lf, h1.lq, h1.all, h1.reps, h1.gmem⟩, enter_mono h hbn, ?_⟩
    · have h2 := h1.j
      have e : (s.enter b).road = l ++ (a, i) :: [(b, 0)] := by simp [St.enter, hr]
      rw [e] at h2
      have h3 := h2.next hb (by
        show at0 (s.met.set b (s.cnt + 1)) b ≠ 0
        rw [at0_set (by rw [h.lm]; exact hbn), upd_eq]; omega) (fun _ => by
        show at0 (s.fst.set b (s.cnt + 1)) a ≤ at0 (s.met.set b (s.cnt + 1)) b
        rw [at0_set (l := s.fst) (by rw [h.lf]; exact hbn), at0_set (l := s.met) (by rw [h.lm]; exact hbn), upd_eq, upd_ne hab]
        have := h.j.lowle a hao
        have := h.j.le a
        omega)
      have e2 : (St.enter { s with road := l ++ [(a, i + 1)] } b).road = l ++ (a, i + 1) :: [(b, 0)] := by simp [St.enter]
      rw [e2]
      exact h3
    · have hc := h.cnt_lt h0 hbn
      have hDb := hD b
      have hDa := hD a
      have e3 : mu adj D s = (adj.length - s.cnt) * (D + 3) + ((l.map fun (q : Nat × Nat) => (ats adj q.1).length - q.2 + 1).sum + ((ats adj a).length - i + 1)) := by
        unfold mu; rw [hr, mu_road]
      have e4 : mu adj D (St.enter { s with road := l ++ [(a, i + 1)] } b) = (adj.length - (s.cnt + 1)) * (D + 3) + ((l.map fun (q : Nat × Nat) => (ats adj q.1).length - q.2 + 1).sum + ((ats adj a).length - (i + 1) + 1) + ((ats adj b).length - 0 + 1)) := by
        unfold mu
        show (adj.length - (s.cnt + 1)) * (D + 3) + (((l ++ [(a, i + 1)]) ++ [(b, 0)]).map fun (q : Nat × Nat) => (ats adj q.1).length - q.2 + 1).sum = _
        rw [mu_road, mu_road]
      rw [e3, e4]
      obtain ⟨k, hk⟩ : ∃ k, adj.length - s.cnt = k + 1 := ⟨adj.length - s.cnt - 1, by omega⟩
      rw [hk, show adj.length - (s.cnt + 1) = k by omega, Nat.add_mul]
      omega
  · rw [if_neg h0]
    have hmu : ∀ f : List Nat, mu adj D { s with road := l ++ [(a, i + 1)], fst := f } < mu adj D s := fun f => by
      unfold mu
      rw [hr]
      show (adj.length - s.cnt) * (D + 3) + ((l ++ [(a, i + 1)]).map fun (q : Nat × Nat) => (ats adj q.1).length - q.2 + 1).sum < _
      rw [mu_road, mu_road]
      simp only
      omega
    by_cases h1 : at0 s.grp b = 0
    · rw [if_pos h1]
      have hbo : b ∈ s.opn := (h.j.opn b).2 ⟨h0, h1⟩
      have h2 := hj.lower (t := a) (b := b) (by simp) hbo (.one hE)
      have h3 := h2.next hb h0 (fun _ => by rw [upd_eq]; exact Nat.min_le_right _ _)
      refine ⟨⟨?_, h.lm, by simp [h.lf], h.lq, h.all, h.reps, h.gmem⟩, fun x hx => hx, hmu _⟩
      show Jn adj (at0 s.met) (at0 (s.fst.set a (min (at0 s.fst a) (at0 s.met b)))) (at0 s.grp) s.cnt s.grps.length s.opn (l ++ [(a, i + 1)])
      rw [at0_set (by rw [h.lf]; exact h.open_lt hao)]
      exact h3
    · rw [if_neg h1]
      have h3 := hj.next hb h0 (fun e => absurd e h1)
      exact ⟨⟨h3, h.lm, h.lf, h.lq, h.all, h.reps, h.gmem⟩, fun x hx => hx, hmu s.fst⟩

/-- back from a node that leads to one ahead of it: there is one from which the walk came -/
theorem Gd.up (h : Gd adj s) {D : Nat} {l : List (Nat × Nat)} {a i : Nat} (hr : s.road = l ++ [(a, i)]) (hi : i = (ats adj a).length) (hne : at0 s.fst a ≠ at0 s.met a) :
    ∃ l' t j, l = l' ++ [(t, j)] ∧ t < adj.length ∧ Gd adj { s with road := l' ++ [(t, j)], fst := s.fst.set t (min (at0 s.fst t) (at0 s.fst a)) } ∧ mu adj D { s with road := l' ++ [(t, j)], fst := s.fst.set t (min (at0 s.fst t) (at0 s.fst a)) } < mu adj D s := by
  have hao : a ∈ s.opn := h.road_open (q := (a, i)) (by rw [hr]; simp)
  have hj := h.j
  rw [hr] at hj
  rcases List.eq_nil_or_concat l with rfl | ⟨l', ⟨t, j⟩, rfl⟩
  · exfalso
    obtain ⟨y, hy, h1, h2⟩ := hj.low a hao
    obtain ⟨q, hq, h3⟩ := hj.cover y hy
    simp at hq
    have := hj.lowle a hao
    rw [hq] at h3
    omega
  · have hj2 : Jn adj (at0 s.met) (at0 s.fst) (at0 s.grp) s.cnt s.grps.length s.opn (l' ++ [(t, j)] ++ [(a, i)]) := by simpa using hj
    have hto : t ∈ s.opn := hj2.rop t (by simp)
    refine ⟨l', t, j, by simp, h.open_lt hto, ⟨?_, h.lm, by simp [h.lf], h.lq, h.all, h.reps, h.gmem⟩, ?_⟩
    · show Jn adj (at0 s.met) (at0 (s.fst.set t (min (at0 s.fst t) (at0 s.fst a)))) (at0 s.grp) s.cnt s.grps.length s.opn (l' ++ [(t, j)])
      rw [at0_set (by rw [h.lf]; exact h.open_lt hto)]
      exact hj2.up hi hne
    · unfold mu
      rw [hr]
      show (adj.length - s.cnt) * (D + 3) + ((l' ++ [(t, j)]).map fun (q : Nat × Nat) => (ats adj q.1).length - q.2 + 1).sum < _
      rw [mu_road (l := l'.concat (t, j)), List.concat_eq_append]
      omega

/-- a group is found -/
theorem Gd.gather (h : Gd adj s) {D : Nat} {l : List (Nat × Nat)} {a i : Nat} (hr : s.road = l ++ [(a, i)]) (hi : i = (ats adj a).length) (hfa : at0 s.fst a = at0 s.met a) :
    ∃ pre post, s.opn = pre ++ a :: post ∧ a ∉ post ∧ (∀ b ∈ a :: post, b < s.grp.length) ∧ s.grps.length < adj.length ∧
      Gd adj (St.gather { s with road := l } pre (sortN (a :: post))) ∧ mu adj D (St.gather { s with road := l } pre (sortN (a :: post))) < mu adj D s := by
  have hao : a ∈ s.opn := h.road_open (q := (a, i)) (by rw [hr]; simp)
  obtain ⟨pre, post, ho⟩ := List.append_of_mem hao
  have hj := h.j
  rw [hr, ho] at hj
  have hnd := nodup_of_lt h.j.ord
  rw [ho, List.nodup_append, List.nodup_cons] at hnd
  have hmem : ∀ b, b ∈ sortN (a :: post) ↔ b ∈ a :: post := fun b => (sortN_perm (a :: post)).mem_iff
  have hlt : ∀ b ∈ a :: post, b < s.grp.length := fun b hb => by rw [h.lq]; exact h.open_lt (by rw [ho]; exact List.mem_append_right _ hb)
  have hlt2 : ∀ b ∈ sortN (a :: post), b < s.grp.length := fun b hb => hlt b ((hmem b).1 hb)
  have hall := at0_all (v := s.grps.length + 1) (sortN (a :: post)) s.grp hlt2
  have hg0 : ∀ b ∈ a :: post, at0 s.grp b = 0 := fun b hb => ((h.j.opn b).1 (by rw [ho]; exact List.mem_append_right _ hb)).2
  refine ⟨pre, post, ho, hnd.2.1.1, hlt, h.groups_lt hao, ⟨?_, h.lm, h.lf, by simp [St.gather, setAll_len, h.lq], h.all, ?_, ?_⟩, ?_⟩
  · show Jn adj (at0 s.met) (at0 s.fst) (at0 (setAll s.grp (sortN (a :: post)) (s.grps.length + 1))) s.cnt (s.grps ++ [sortN (a :: post)]).length pre l
    rw [List.length_append, List.length_singleton]
    exact hj.gather hi hfa (fun x hx => by rw [hall, if_pos ((hmem x).2 hx)]) (fun x hx => by rw [hall, if_neg (fun e => hx ((hmem x).1 e))])
  · obtain ⟨rl, h1, h2, h3⟩ := h.reps
    refine ⟨a :: rl, List.nodup_cons.2 ⟨fun hm => h3 a hm (hg0 a (by simp)), h1⟩, by simp [St.gather, h2], fun x hx => ?_⟩
    show at0 (setAll s.grp (sortN (a :: post)) (s.grps.length + 1)) x ≠ 0
    rw [hall]
    by_cases e : x ∈ sortN (a :: post)
    · rw [if_pos e]; omega
    · rw [if_neg e]
      rcases List.mem_cons.1 hx with rfl | hx
      · exact absurd ((hmem x).2 (by simp)) e
      · exact h3 x hx
  · intro k g hk
    show g.Pairwise (· < ·) ∧ g ≠ [] ∧ ∀ x, x ∈ g ↔ at0 (setAll s.grp (sortN (a :: post)) (s.grps.length + 1)) x = k + 1
    have hk' : (s.grps ++ [sortN (a :: post)])[k]? = some g := hk
    by_cases hkl : k < s.grps.length
    · rw [List.getElem?_append_left hkl] at hk'
      obtain ⟨h1, h2, h3⟩ := h.gmem k g hk'
      refine ⟨h1, h2, fun x => ?_⟩
      rw [hall]
      by_cases e : x ∈ sortN (a :: post)
      · rw [if_pos e, h3, hg0 x ((hmem x).1 e)]
        omega
      · rw [if_neg e, h3]
    · have hkl2 : k = s.grps.length := by have := (List.getElem?_eq_some_iff.1 hk').1; simp at this; omega
      subst hkl2
      rw [List.getElem?_append_right (Nat.le_refl _)] at hk'
      simp at hk'
      subst hk'
      refine ⟨?_, fun e => by have := (hmem a).2 (by simp); rw [e] at this; simp at this, fun x => ?_⟩
      · have h1 := sortN_le (a :: post)
        have h2 : (sortN (a :: post)).Nodup := (sortN_perm (a :: post)).nodup_iff.2 (List.nodup_cons.2 hnd.2.1)
        exact (h1.and h2).imp fun ⟨h3, h4⟩ => by omega
      · rw [hall]
        by_cases e : x ∈ sortN (a :: post)
        · rw [if_pos e]; simp [e]
        · rw [if_neg e]
          refine ⟨fun hx => absurd hx e, fun hx => ?_⟩
          have := h.j.grb x
          omega
  · unfold mu
    rw [hr, mu_road]
    show (adj.length - s.cnt) * (D + 3) + (l.map fun (q : Nat × Nat) => (ats adj q.1).length - q.2 + 1).sum < _
    omega
end
end Go.Proofs.Ytmoebpebahhbeaa
