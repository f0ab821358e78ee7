/-
  Layer 7, mathematics: what holds at each step of the search for groups (Tarjan's, on a stack of its own). No program.
-/
import Derived.Test.YtmoebpebahhbeaaG0
namespace Go.Proofs.Ytmoebpebahhbeaa
set_option linter.unusedVariables false

/-- a needs b -/
def Ed (adj : List (List Nat)) (a b : Nat) : Prop := b ∈ ats adj a
/-- a road -/
inductive Rd (adj : List (List Nat)) : Nat → Nat → Prop
  | refl (a : Nat) : Rd adj a a
  | step {a b c : Nat} : Ed adj a b → Rd adj b c → Rd adj a c
theorem Rd.trans {adj : List (List Nat)} {a b c : Nat} (h : Rd adj a b) (k : Rd adj b c) : Rd adj a c := by
  induction h with
  | refl a => exact k
  | step e _ ih => exact .step e (ih k)
theorem Rd.one {adj : List (List Nat)} {a b : Nat} (h : Ed adj a b) : Rd adj a b := .step h (.refl b)
theorem ed_at {adj : List (List Nat)} {a b : Nat} : Ed adj a b ↔ ∃ j : Nat, (ats adj a)[j]? = some b := by
  unfold Ed
  exact List.mem_iff_getElem?
def upd (m : Nat → Nat) (b v : Nat) : Nat → Nat := fun x => if x = b then v else m x
theorem upd_eq (m : Nat → Nat) (b v : Nat) : upd m b v b = v := by simp [upd]
theorem upd_ne {m : Nat → Nat} {b v x : Nat} (h : x ≠ b) : upd m b v x = m x := by simp [upd, h]

/-- what holds at each step: m: numbers, f: the least number known, g: groups, c: how many are met, k: how many groups, o: the open ones, r: the road -/
structure Jn (adj : List (List Nat)) (m f g : Nat → Nat) (c k : Nat) (o : List Nat) (r : List (Nat × Nat)) : Prop where
  le : ∀ a, m a ≤ c
  inj : ∀ a b, m a = m b → m a ≠ 0 → a = b
  opn : ∀ a, a ∈ o ↔ m a ≠ 0 ∧ g a = 0
  ord : o.Pairwise fun x y => m x < m y
  grm : ∀ a, g a ≠ 0 → m a ≠ 0
  rop : ∀ q ∈ r.map Prod.fst, q ∈ o
  rord : (r.map Prod.fst).Pairwise fun x y => m x < m y
  rle : ∀ q ∈ r, q.2 ≤ (ats adj q.1).length
  cover : ∀ x ∈ o, ∃ q ∈ r.map Prod.fst, m q ≤ m x
  down : ∀ q ∈ r.map Prod.fst, ∀ x ∈ o, m q ≤ m x → Rd adj q x
  low : ∀ x ∈ o, ∃ y ∈ o, m y = f x ∧ Rd adj x y
  lowle : ∀ x ∈ o, f x ≤ m x
  off : ∀ x ∈ o, x ∉ r.map Prod.fst → f x < m x
  prog : ∀ q ∈ r, ∀ x ∈ o, m q.1 ≤ m x → (∀ y ∈ r.map Prod.fst, m y ≤ m x → m y ≤ m q.1) → ∀ j b, (x = q.1 → j < q.2) → (ats adj x)[j]? = some b → m b ≠ 0 ∧ (g b = 0 → f q.1 ≤ m b)
  done : ∀ a b, g a ≠ 0 → Ed adj a b → g b ≠ 0
  grb : ∀ a, g a ≤ k
  scc : ∀ a b, g a ≠ 0 → g b ≠ 0 → (g a = g b ↔ Rd adj a b ∧ Rd adj b a)
  og : ∀ a b, g a ≠ 0 → Ed adj a b → g b ≤ g a
section
variable {adj : List (List Nat)} {m f g : Nat → Nat} {c k : Nat} {o : List Nat} {r : List (Nat × Nat)}

theorem Jn.none (adj : List (List Nat)) : Jn adj (fun _ => 0) (fun _ => 0) (fun _ => 0) 0 0 [] [] where
  le := fun _ => Nat.le_refl _
  inj := fun _ _ _ h => absurd rfl h
  opn := fun a => by simp
  ord := .nil
  grm := fun _ h => absurd rfl h
  rop := fun _ h => by simp at h
  rord := .nil
  rle := fun _ h => by simp at h
  cover := fun _ h => by simp at h
  down := fun _ h => by simp at h
  low := fun _ h => by simp at h
  lowle := fun _ h => by simp at h
  off := fun _ h => by simp at h
  prog := fun _ h => by simp at h
  done := fun _ _ h => absurd rfl h
  grb := fun _ => Nat.le_refl _
  scc := fun _ _ h => absurd rfl h
  og := fun _ _ h => absurd rfl h

/-- an edge of a node of the road is done -/
theorem Jn.next {l l2 : List (Nat × Nat)} {t i b : Nat} (h : Jn adj m f g c k o (l ++ (t, i) :: l2)) (hb : (ats adj t)[i]? = some b) (h1 : m b ≠ 0) (h2 : g b = 0 → f t ≤ m b) : Jn adj m f g c k o (l ++ (t, i + 1) :: l2) := by
  have e : (l ++ (t, i + 1) :: l2).map Prod.fst = (l ++ (t, i) :: l2).map Prod.fst := by simp
  have hi : i < (ats adj t).length := (List.getElem?_eq_some_iff.1 hb).1
  refine ⟨h.le, h.inj, h.opn, h.ord, h.grm, by rw [e]; exact h.rop, by rw [e]; exact h.rord, fun q hq => ?_, by rw [e]; exact h.cover, by rw [e]; exact h.down, h.low, h.lowle, by rw [e]; exact h.off, ?_, h.done, h.grb, h.scc, h.og⟩
  · rw [List.mem_append, List.mem_cons] at hq
    rcases hq with hq | rfl | hq
    · exact h.rle q (by simp [hq])
    · exact hi
    · exact h.rle q (by simp [hq])
  · rw [e]
    intro q hq x hx hle hmax j b2 hj hb2
    rw [List.mem_append, List.mem_cons] at hq
    rcases hq with hq | rfl | hq
    · exact h.prog q (by simp [hq]) x hx hle hmax j b2 hj hb2
    · by_cases hxt : x = t ∧ j = i
      · obtain ⟨rfl, rfl⟩ := hxt
        rw [hb] at hb2
        obtain rfl := Option.some.inj hb2
        exact ⟨h1, h2⟩
      · exact h.prog (t, i) (by simp) x hx hle hmax j b2 (fun e2 => by have := hj e2; simp only at this e2; omega) hb2
    · exact h.prog q (by simp [hq]) x hx hle hmax j b2 hj hb2

/-- a node is met -/
theorem Jn.enter {b : Nat} (h : Jn adj m f g c k o r) (hb : m b = 0) (hR : ∀ q ∈ r.map Prod.fst, Rd adj q b) : Jn adj (upd m b (c + 1)) (upd f b (c + 1)) g (c + 1) k (o ++ [b]) (r ++ [(b, 0)]) := by
  have hbo : b ∉ o := fun hm => ((h.opn b).1 hm).1 hb
  have hne : ∀ x ∈ o, x ≠ b := fun x hx e => hbo (e ▸ hx)
  have hm : ∀ x ∈ o, upd m b (c + 1) x = m x := fun x hx => upd_ne (hne x hx)
  have hf : ∀ x ∈ o, upd f b (c + 1) x = f x := fun x hx => upd_ne (hne x hx)
  have hgb : g b = 0 := Classical.byContradiction fun e => h.grm b e hb
  have e : (r ++ [(b, 0)]).map Prod.fst = r.map Prod.fst ++ [b] := by simp
  refine ⟨fun a => ?_, fun a b2 h1 h2 => ?_, fun a => ?_, ?_, fun a ha => ?_, fun q hq => ?_, ?_, fun q hq => ?_, fun x hx => ?_, fun q hq x hx hle => ?_, fun x hx => ?_, fun x hx => ?_, fun x hx hn => ?_, fun q hq x hx hle hmax j b2 hj hb2 => ?_, h.done, h.grb, h.scc, h.og⟩
  · by_cases e1 : a = b
    · rw [e1, upd_eq]; exact Nat.le_refl _
    · rw [upd_ne e1]; have := h.le a; omega
  · by_cases e1 : a = b
    · by_cases e2 : b2 = b
      · rw [e1, e2]
      · rw [e1, upd_eq, upd_ne e2] at h1
        have := h.le b2
        omega
    · by_cases e2 : b2 = b
      · rw [e2, upd_eq, upd_ne e1] at h1
        have := h.le a
        omega
      · rw [upd_ne e1, upd_ne e2] at h1
        rw [upd_ne e1] at h2
        exact h.inj a b2 h1 h2
  · rw [List.mem_append, List.mem_singleton]
    by_cases e1 : a = b
    · rw [e1, upd_eq]; simp [hgb]
    · rw [upd_ne e1]
      have := h.opn a
      constructor
      · rintro (hh | hh)
        · exact this.1 hh
        · exact absurd hh e1
      · intro hh; exact .inl (this.2 hh)
  · rw [List.pairwise_append]
    refine ⟨?_, List.pairwise_singleton _ _, fun x hx y hy => ?_⟩
    · exact List.Pairwise.imp_of_mem (fun hx hy hxy => by rw [hm _ hx, hm _ hy]; exact hxy) h.ord
    · rw [List.mem_singleton.1 hy, upd_eq, hm x hx]
      have := h.le x
      omega
  · by_cases e1 : a = b
    · rw [e1, upd_eq]; omega
    · rw [upd_ne e1]; exact h.grm a ha
  · rw [e, List.mem_append, List.mem_singleton] at hq
    rcases hq with hq | rfl
    · exact List.mem_append_left _ (h.rop q hq)
    · simp
  · rw [e, List.pairwise_append]
    refine ⟨?_, List.pairwise_singleton _ _, fun x hx y hy => ?_⟩
    · exact List.Pairwise.imp_of_mem (fun hx hy hxy => by rw [hm _ (h.rop _ hx), hm _ (h.rop _ hy)]; exact hxy) h.rord
    · rw [List.mem_singleton.1 hy, upd_eq, hm x (h.rop x hx)]
      have := h.le x
      omega
  · rw [List.mem_append, List.mem_singleton] at hq
    rcases hq with hq | rfl
    · exact h.rle q hq
    · exact Nat.zero_le _
  · rw [List.mem_append, List.mem_singleton] at hx
    rw [e]
    rcases hx with hx | rfl
    · obtain ⟨q, hq, hle⟩ := h.cover x hx
      exact ⟨q, by simp [hq], by rw [hm q (h.rop q hq), hm x hx]; exact hle⟩
    · exact ⟨x, by simp, Nat.le_refl _⟩
  · rw [e, List.mem_append, List.mem_singleton] at hq
    rw [List.mem_append, List.mem_singleton] at hx
    rcases hq with hq | rfl
    · rcases hx with hx | rfl
      · rw [hm q (h.rop q hq), hm x hx] at hle
        exact h.down q hq x hx hle
      · exact hR q hq
    · rcases hx with hx | rfl
      · rw [upd_eq, hm x hx] at hle
        have := h.le x
        omega
      · exact .refl _
  · rw [List.mem_append, List.mem_singleton] at hx
    rcases hx with hx | rfl
    · obtain ⟨y, hy, h1, h2⟩ := h.low x hx
      exact ⟨y, by simp [hy], by rw [hm y hy, hf x hx]; exact h1, h2⟩
    · exact ⟨x, by simp, by rw [upd_eq, upd_eq], .refl _⟩
  · rw [List.mem_append, List.mem_singleton] at hx
    rcases hx with hx | rfl
    · rw [hf x hx, hm x hx]; exact h.lowle x hx
    · rw [upd_eq, upd_eq]; exact Nat.le_refl _
  · rw [List.mem_append, List.mem_singleton] at hx
    rw [e, List.mem_append, List.mem_singleton] at hn
    rcases hx with hx | rfl
    · rw [hf x hx, hm x hx]
      exact h.off x hx fun hh => hn (.inl hh)
    · exact absurd (.inr rfl) hn
  · rw [List.mem_append, List.mem_singleton] at hq hx
    rw [e] at hmax
    rcases hq with hq | rfl
    · have hq1 : q.1 ∈ r.map Prod.fst := List.mem_map_of_mem hq
      have hqo := h.rop q.1 hq1
      rcases hx with hx | rfl
      · rw [hm q.1 hqo, hm x hx] at hle
        have h3 := h.prog q hq x hx hle (fun y hy hyx => by
          have := hmax y (by simp [hy]) (by rw [hm y (h.rop y hy), hm x hx]; exact hyx)
          rw [hm y (h.rop y hy), hm q.1 hqo] at this
          exact this) j b2 hj hb2
        have hbb : b2 ≠ b := fun e2 => h3.1 (e2 ▸ hb)
        rw [upd_ne hbb, hf q.1 hqo]
        exact h3
      · have := hmax x (by simp) (Nat.le_refl _)
        rw [upd_eq, hm q.1 hqo] at this
        have := h.le q.1
        omega
    · rcases hx with hx | rfl
      · rw [upd_eq, hm x hx] at hle
        have := h.le x
        omega
      · exact absurd (hj rfl) (Nat.not_lt_zero _)

/-- an edge to an open node -/
theorem Jn.lower {t b : Nat} (h : Jn adj m f g c k o r) (ht : t ∈ r.map Prod.fst) (hb : b ∈ o) (hR : Rd adj t b) : Jn adj m (upd f t (min (f t) (m b))) g c k o r := by
  have hto := h.rop t ht
  have hle : ∀ x, upd f t (min (f t) (m b)) x ≤ f x := fun x => by
    by_cases e : x = t
    · rw [e, upd_eq]; exact Nat.min_le_left _ _
    · rw [upd_ne e]; exact Nat.le_refl _
  refine ⟨h.le, h.inj, h.opn, h.ord, h.grm, h.rop, h.rord, h.rle, h.cover, h.down, fun x hx => ?_, fun x hx => Nat.le_trans (hle x) (h.lowle x hx), fun x hx hn => Nat.lt_of_le_of_lt (hle x) (h.off x hx hn), fun q hq x hx h1 hmax j b2 hj hb2 => ?_, h.done, h.grb, h.scc, h.og⟩
  · by_cases e : x = t
    · subst e
      rw [upd_eq]
      by_cases hh : f x ≤ m b
      · rw [Nat.min_eq_left hh]; exact h.low x hx
      · rw [Nat.min_eq_right (by omega)]; exact ⟨b, hb, rfl, hR⟩
    · rw [upd_ne e]; exact h.low x hx
  · obtain ⟨h3, h4⟩ := h.prog q hq x hx h1 hmax j b2 hj hb2
    exact ⟨h3, fun h5 => Nat.le_trans (hle q.1) (h4 h5)⟩

/-- of the road the last node has the greatest number -/
theorem Jn.last {l : List (Nat × Nat)} {a i : Nat} (h : Jn adj m f g c k o (l ++ [(a, i)])) : ∀ y ∈ (l ++ [(a, i)]).map Prod.fst, m y ≤ m a := fun y hy => by
  have hr := h.rord
  rw [List.map_append, List.pairwise_append] at hr
  rw [List.map_append, List.mem_append] at hy
  rcases hy with hy | hy
  · exact Nat.le_of_lt (hr.2.2 y hy a (by simp))
  · simp at hy; rw [hy]; exact Nat.le_refl _

/-- back from a node that leads to one ahead of it -/
theorem Jn.up {l : List (Nat × Nat)} {a i t j0 : Nat} (h : Jn adj m f g c k o (l ++ [(t, j0)] ++ [(a, i)])) (hi : i = (ats adj a).length) (hne : f a ≠ m a) : Jn adj m (upd f t (min (f t) (f a))) g c k o (l ++ [(t, j0)]) := by
  have hlast := h.last
  have hta : m t < m a := by
    have hr := h.rord
    rw [List.map_append, List.pairwise_append] at hr
    exact hr.2.2 t (by simp) a (by simp)
  have hsub : ∀ y, y ∈ (l ++ [(t, j0)]).map Prod.fst → y ∈ (l ++ [(t, j0)] ++ [(a, i)]).map Prod.fst := fun y hy => by rw [List.map_append]; exact List.mem_append_left _ hy
  have hcase : ∀ y, y ∈ (l ++ [(t, j0)] ++ [(a, i)]).map Prod.fst → y ∈ (l ++ [(t, j0)]).map Prod.fst ∨ y = a := fun y hy => by
    rw [List.map_append, List.mem_append] at hy
    rcases hy with hy | hy
    · exact .inl hy
    · simp at hy; exact .inr hy
  have ha : a ∈ (l ++ [(t, j0)] ++ [(a, i)]).map Prod.fst := by simp
  have ht : t ∈ (l ++ [(t, j0)]).map Prod.fst := by simp
  have hao := h.rop a ha
  have hat : a ≠ t := fun e => by rw [e] at hta; omega
  have hle : ∀ x, upd f t (min (f t) (f a)) x ≤ f x := fun x => by
    by_cases e : x = t
    · rw [e, upd_eq]; exact Nat.min_le_left _ _
    · rw [upd_ne e]; exact Nat.le_refl _
  have hr2 : ((l ++ [(t, j0)]).map Prod.fst).Pairwise fun x y => m x < m y := by
    have hr := h.rord
    rw [List.map_append, List.pairwise_append] at hr
    exact hr.1
  have hlast2 : ∀ y ∈ (l ++ [(t, j0)]).map Prod.fst, m y ≤ m t := fun y hy => by
    rw [List.map_append, List.pairwise_append] at hr2
    rw [List.map_append, List.mem_append] at hy
    rcases hy with hy | hy
    · exact Nat.le_of_lt (hr2.2.2 y hy t (by simp))
    · simp at hy; rw [hy]; exact Nat.le_refl _
  refine ⟨h.le, h.inj, h.opn, h.ord, h.grm, fun q hq => h.rop q (hsub q hq), hr2, fun q hq => h.rle q (List.mem_append_left _ hq), fun x hx => ?_, fun q hq => h.down q (hsub q hq), fun x hx => ?_, fun x hx => Nat.le_trans (hle x) (h.lowle x hx), fun x hx hn => ?_, fun q hq x hx h1 hmax j b2 hj hb2 => ?_, h.done, h.grb, h.scc, h.og⟩
  · obtain ⟨q, hq, hqx⟩ := h.cover x hx
    rcases hcase q hq with hq | rfl
    · exact ⟨q, hq, hqx⟩
    · exact ⟨t, ht, by omega⟩
  · by_cases e : x = t
    · subst e
      rw [upd_eq]
      by_cases hh : f x ≤ f a
      · rw [Nat.min_eq_left hh]; exact h.low x hx
      · rw [Nat.min_eq_right (by omega)]
        obtain ⟨y, hy, h1, h2⟩ := h.low a hao
        exact ⟨y, hy, h1, (h.down x (hsub x ht) a hao (by omega)).trans h2⟩
    · rw [upd_ne e]; exact h.low x hx
  · by_cases e : x = a
    · rw [e, upd_ne hat]
      have := h.lowle a hao
      omega
    · refine Nat.lt_of_le_of_lt (hle x) (h.off x hx fun hh => ?_)
      rcases hcase x hh with hh | hh
      · exact hn hh
      · exact e hh
  · by_cases hax : m a ≤ m x
    · have hmt := hmax t ht (by omega)
      have hqt : q.1 = t := h.inj q.1 t (by have := hlast2 q.1 (List.mem_map_of_mem hq); omega) (by have := (h.opn q.1).1 (h.rop q.1 (hsub _ (List.mem_map_of_mem hq))); exact this.1)
      obtain ⟨h3, h4⟩ := h.prog (a, i) (by simp) x hx hax (fun y hy _ => hlast y hy) j b2 (fun e => by simp only at e; rw [hi, ← e]; exact (List.getElem?_eq_some_iff.1 hb2).1) hb2
      refine ⟨h3, fun h5 => ?_⟩
      rw [hqt, upd_eq]
      exact Nat.le_trans (Nat.min_le_right _ _) (h4 h5)
    · obtain ⟨h3, h4⟩ := h.prog q (List.mem_append_left _ hq) x hx h1 (fun y hy hyx => by
        rcases hcase y hy with hy | rfl
        · exact hmax y hy hyx
        · omega) j b2 hj hb2
      exact ⟨h3, fun h5 => Nat.le_trans (hle q.1) (h4 h5)⟩

theorem Jn.closed (h : Jn adj m f g c k o r) {x y : Nat} (hx : g x ≠ 0) (hr : Rd adj x y) : g y ≠ 0 := by
  induction hr with
  | refl a => exact hx
  | step e _ ih => exact ih (h.done _ _ hx e)

/-- a group is found: what is open since its first node -/
theorem Jn.gather {l : List (Nat × Nat)} {a i : Nat} {pre post : List Nat} {g' : Nat → Nat} (h : Jn adj m f g c k (pre ++ a :: post) (l ++ [(a, i)])) (hi : i = (ats adj a).length) (hfa : f a = m a)
    (hg1 : ∀ x, x ∈ a :: post → g' x = k + 1) (hg2 : ∀ x, x ∉ a :: post → g' x = g x) : Jn adj m f g' c (k + 1) pre l := by
  have hord := h.ord
  rw [List.pairwise_append, List.pairwise_cons] at hord
  obtain ⟨o1, ⟨o2, o3⟩, o4⟩ := hord
  have hpre : ∀ x ∈ pre, m x < m a := fun x hx => o4 x hx a (by simp)
  have hT : ∀ x ∈ a :: post, m a ≤ m x := fun x hx => by
    rcases List.mem_cons.1 hx with rfl | hx
    · exact Nat.le_refl _
    · exact Nat.le_of_lt (o2 x hx)
  have hTo : ∀ x ∈ a :: post, x ∈ pre ++ a :: post := fun x hx => List.mem_append_right _ hx
  have hin : ∀ x ∈ pre ++ a :: post, m a ≤ m x → x ∈ a :: post := fun x hx hm => by
    rcases List.mem_append.1 hx with hx | hx
    · have := hpre x hx; omega
    · exact hx
  have hnp : ∀ x ∈ pre, x ∉ a :: post := fun x hx ht => by have := hpre x hx; have := hT x ht; omega
  have hg0 : ∀ x ∈ a :: post, g x = 0 := fun x hx => ((h.opn x).1 (hTo x hx)).2
  have hlast := h.last
  have ha : a ∈ (l ++ [(a, i)]).map Prod.fst := by simp
  have hl : ∀ y ∈ l.map Prod.fst, m y < m a := fun y hy => by
    have hr := h.rord
    rw [List.map_append, List.pairwise_append] at hr
    exact hr.2.2 y hy a (by simp)
  have hsub : ∀ y, y ∈ l.map Prod.fst → y ∈ (l ++ [(a, i)]).map Prod.fst := fun y hy => by rw [List.map_append]; exact List.mem_append_left _ hy
  have hcase : ∀ y, y ∈ (l ++ [(a, i)]).map Prod.fst → y ∈ l.map Prod.fst ∨ y = a := fun y hy => by
    rw [List.map_append, List.mem_append] at hy
    rcases hy with hy | hy
    · exact .inl hy
    · simp at hy; exact .inr hy
  have hdown : ∀ x ∈ a :: post, Rd adj a x := fun x hx => h.down a ha x (hTo x hx) (hT x hx)
  have hedge : ∀ x ∈ a :: post, ∀ b, Ed adj x b → b ∈ a :: post ∨ g b ≠ 0 := fun x hx b hb => by
    obtain ⟨j, hj⟩ := ed_at.1 hb
    obtain ⟨h3, h4⟩ := h.prog (a, i) (by simp) x (hTo x hx) (hT x hx) (fun y hy _ => hlast y hy) j b (fun e => by simp only at e; rw [hi, ← e]; exact (List.getElem?_eq_some_iff.1 hj).1) hj
    by_cases hgb : g b = 0
    · refine .inl (hin b ((h.opn b).2 ⟨h3, hgb⟩) ?_)
      have := h4 hgb
      simp only at this
      omega
    · exact .inr hgb
  have hroad : ∀ x y, Rd adj x y → x ∈ a :: post → y ∈ a :: post ∨ g y ≠ 0 := fun x y hr => by
    induction hr with
    | refl x => exact fun hx => .inl hx
    | step e hr ih =>
      intro hx
      rcases hedge _ hx _ e with h5 | h5
      · exact ih h5
      · exact .inr (h.closed h5 hr)
  have hback : ∀ n x, m x ≤ n → x ∈ a :: post → Rd adj x a := fun n => by
    induction n with
    | zero => intro x hn hx; exact absurd (Nat.le_zero.1 hn) ((h.opn x).1 (hTo x hx)).1
    | succ n ih =>
      intro x hn hx
      rcases List.mem_cons.1 hx with rfl | hxp
      · exact .refl _
      · have hoff := h.off x (hTo x hx) fun hh => by have := hlast x hh; have := o2 x hxp; omega
        obtain ⟨y, hy, h1, h2⟩ := h.low x (hTo x hx)
        rcases hroad x y h2 hx with h3 | h3
        · exact h2.trans (ih y (by omega) h3)
        · exact absurd ((h.opn y).1 hy).2 h3
  have hg' : ∀ x, g' x = 0 → x ∉ a :: post ∧ g x = 0 := fun x hx => by
    by_cases ht : x ∈ a :: post
    · rw [hg1 x ht] at hx; omega
    · rw [hg2 x ht] at hx; exact ⟨ht, hx⟩
  refine ⟨h.le, h.inj, fun x => ?_, o1, fun x hx => ?_, fun q hq => ?_, ?_, fun q hq => h.rle q (List.mem_append_left _ hq), fun x hx => ?_, fun q hq x hx => h.down q (hsub q hq) x (List.mem_append_left _ hx), fun x hx => ?_, fun x hx => h.lowle x (List.mem_append_left _ hx), fun x hx hn => ?_, fun q hq x hx h1 hmax j b2 hj hb2 => ?_, fun x b hx hb => ?_, fun x => ?_, fun x y hx hy => ?_, fun x b hx hb => ?_⟩
  · constructor
    · intro hx
      rw [hg2 x (hnp x hx)]
      exact (h.opn x).1 (List.mem_append_left _ hx)
    · rintro ⟨h1, h2⟩
      obtain ⟨h3, h4⟩ := hg' x h2
      rcases List.mem_append.1 ((h.opn x).2 ⟨h1, h4⟩) with h5 | h5
      · exact h5
      · exact absurd h5 h3
  · by_cases ht : x ∈ a :: post
    · exact ((h.opn x).1 (hTo x ht)).1
    · rw [hg2 x ht] at hx; exact h.grm x hx
  · rcases List.mem_append.1 (h.rop q (hsub q hq)) with h5 | h5
    · exact h5
    · have := hT q h5; have := hl q hq; omega
  · have hr := h.rord
    rw [List.map_append, List.pairwise_append] at hr
    exact hr.1
  · obtain ⟨q, hq, hqx⟩ := h.cover x (List.mem_append_left _ hx)
    rcases hcase q hq with hq | rfl
    · exact ⟨q, hq, hqx⟩
    · have := hpre x hx; omega
  · obtain ⟨y, hy, h1, h2⟩ := h.low x (List.mem_append_left _ hx)
    refine ⟨y, ?_, h1, h2⟩
    rcases List.mem_append.1 hy with h5 | h5
    · exact h5
    · have := hT y h5; have := h.lowle x (List.mem_append_left _ hx); have := hpre x hx; omega
  · refine h.off x (List.mem_append_left _ hx) fun hh => ?_
    rcases hcase x hh with hh | rfl
    · exact hn hh
    · have := hpre x hx; omega
  · obtain ⟨h3, h4⟩ := h.prog q (List.mem_append_left _ hq) x (List.mem_append_left _ hx) h1 (fun y hy hyx => by
      rcases hcase y hy with hy | rfl
      · exact hmax y hy hyx
      · have := hpre x hx; omega) j b2 hj hb2
    exact ⟨h3, fun h5 => h4 (hg' b2 h5).2⟩
  · intro hb0
    obtain ⟨h3, h4⟩ := hg' b hb0
    by_cases ht : x ∈ a :: post
    · rcases hedge x ht b hb with h5 | h5
      · exact h3 h5
      · exact h5 h4
    · rw [hg2 x ht] at hx
      exact h.done x b hx hb h4
  · by_cases ht : x ∈ a :: post
    · rw [hg1 x ht]; exact Nat.le_refl _
    · rw [hg2 x ht]; exact Nat.le_succ_of_le (h.grb x)
  · by_cases hxt : x ∈ a :: post
    · by_cases hyt : y ∈ a :: post
      · rw [hg1 x hxt, hg1 y hyt]
        exact ⟨fun _ => ⟨(hback _ x (Nat.le_refl _) hxt).trans (hdown y hyt), (hback _ y (Nat.le_refl _) hyt).trans (hdown x hxt)⟩, fun _ => rfl⟩
      · rw [hg1 x hxt, hg2 y hyt]
        rw [hg2 y hyt] at hy
        constructor
        · intro e; have := h.grb y; omega
        · rintro ⟨_, h2⟩
          exact absurd (hg0 x hxt) (h.closed hy h2)
    · by_cases hyt : y ∈ a :: post
      · rw [hg2 x hxt, hg1 y hyt]
        rw [hg2 x hxt] at hx
        constructor
        · intro e; have := h.grb x; omega
        · rintro ⟨h1, _⟩
          exact absurd (hg0 y hyt) (h.closed hx h1)
      · rw [hg2 x hxt, hg2 y hyt]
        rw [hg2 x hxt] at hx
        rw [hg2 y hyt] at hy
        exact h.scc x y hx hy
  · by_cases hbt : b ∈ a :: post
    · by_cases hxt : x ∈ a :: post
      · rw [hg1 x hxt, hg1 b hbt]; exact Nat.le_refl _
      · rw [hg2 x hxt] at hx
        exact absurd (hg0 b hbt) (h.done x b hx hb)
    · rw [hg2 b hbt]
      by_cases hxt : x ∈ a :: post
      · rw [hg1 x hxt]; exact Nat.le_succ_of_le (h.grb b)
      · rw [hg2 x hxt] at hx ⊢
        exact h.og x b hx hb
end
end Go.Proofs.Ytmoebpebahhbeaa
