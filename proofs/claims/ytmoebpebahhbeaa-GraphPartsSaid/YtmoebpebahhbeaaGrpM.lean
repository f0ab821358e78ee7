/-
  Layer 7, mathematics: groups come out one behind the other, each when all that it needs is out. No program.
-/
import Derived.Test.YtmoebpebahhbeaaBetw
import Derived.Test.YtmoebpebahhbeaaHpM
namespace Go.Proofs.Ytmoebpebahhbeaa
set_option linter.unusedVariables false

/-- how often g stands among the users of those of the first n that are not in D -/
def remN (us : List (List Nat)) (D : List Nat) (g : Nat) : Nat → Nat
  | 0 => 0
  | n + 1 => remN us D g n + if n ∈ D then 0 else (ats us n).count g
theorem remN_out {us : List (List Nat)} {D : List Nat} {g t : Nat} : ∀ {n : Nat}, n ≤ t → remN us (t :: D) g n = remN us D g n := by
  intro n
  induction n with
  | zero => intro _; rfl
  | succ n ih =>
    intro hn
    unfold remN
    rw [ih (by omega)]
    by_cases h : n ∈ D
    · rw [if_pos h, if_pos (by simp [h])]
    · rw [if_neg h, if_neg (by simp [h]; omega)]
theorem remN_cons {us : List (List Nat)} {D : List Nat} {g t : Nat} (ht : t ∉ D) : ∀ {n : Nat}, t < n → remN us D g n = remN us (t :: D) g n + (ats us t).count g := by
  intro n
  induction n with
  | zero => intro h; omega
  | succ n ih =>
    intro hn
    unfold remN
    by_cases e : n = t
    · subst e
      rw [remN_out (Nat.le_refl _), if_neg ht, if_pos (by simp)]
      omega
    · rw [ih (by omega)]
      by_cases h : n ∈ D
      · rw [if_pos h, if_pos (by simp [h])]; omega
      · rw [if_neg h, if_neg (by simp [h]; omega)]; omega
theorem remN_zero {us : List (List Nat)} {D : List Nat} {g : Nat} : ∀ {n : Nat}, remN us D g n = 0 ↔ ∀ t, t < n → t ∉ D → g ∉ ats us t := by
  intro n
  induction n with
  | zero => exact ⟨fun _ t h => by omega, fun _ => rfl⟩
  | succ n ih =>
    unfold remN
    constructor
    · intro h t ht hd
      have h1 : remN us D g n = 0 := by omega
      by_cases e : t = n
      · subst e
        rw [if_neg hd] at h
        have : (ats us t).count g = 0 := by omega
        exact List.count_eq_zero.1 this
      · exact ih.1 h1 t (by omega) hd
    · intro h
      have h1 := ih.2 fun t ht hd => h t (by omega) hd
      rw [h1]
      by_cases hd : n ∈ D
      · rw [if_pos hd]
      · rw [if_neg hd, List.count_eq_zero.2 (h n (by omega) hd)]
theorem remN_add {us : List (List Nat)} {g x y : Nat} (hy : y < us.length) : ∀ {n : Nat}, remN (us.set y (ats us y ++ [x])) [] g n = remN us [] g n + if y < n ∧ g = x then 1 else 0 := by
  intro n
  induction n with
  | zero => rfl
  | succ n ih =>
    unfold remN
    simp only [List.not_mem_nil, if_false]
    rw [ih, ats_set hy]
    by_cases e : n = y
    · subst e
      rw [if_pos rfl, if_neg (fun h => Nat.lt_irrefl _ h.1), List.count_append, List.count_singleton]
      by_cases hg : g = x
      · subst hg
        rw [if_pos (by simp), if_pos ⟨Nat.lt_succ_self _, rfl⟩]
        omega
      · rw [if_neg (by simpa using fun e => hg e.symm), if_neg (fun h => hg h.2)]
        omega
    · rw [if_neg e]
      by_cases hg : g = x
      · by_cases hyn : y < n
        · rw [if_pos ⟨hyn, hg⟩, if_pos ⟨by omega, hg⟩]; omega
        · rw [if_neg (fun h => hyn h.1), if_neg (fun h => by have := h.1; omega)]; omega
      · rw [if_neg (fun h => hg h.2), if_neg (fun h => hg h.2)]; omega
/-- all that wait stand among the users -/
def Bal (b : Bt) : Prop := ∀ g, at0 b.waits g = remN b.users [] g b.users.length
theorem Bal.add {b : Bt} (h : Bal b) {x y : Nat} (hx : x < b.waits.length) (hy : y < b.users.length) : Bal (b.add x y) := by
  unfold Bt.add
  by_cases e : y = x
  · rw [if_pos e]; exact h
  · rw [if_neg e]
    intro g
    show at0 (b.waits.set x (at0 b.waits x + 1)) g = remN (b.users.set y (ats b.users y ++ [x])) [] g (b.users.set y (ats b.users y ++ [x])).length
    rw [List.length_set, remN_add hy, at0_set hx, ← h g]
    by_cases hg : g = x
    · rw [hg, upd_eq, if_pos ⟨hy, rfl⟩]
    · rw [upd_ne hg, if_neg (fun h => hg h.2)]; omega
theorem add_mem {b : Bt} {x y : Nat} (hy : y < b.users.length) (g t : Nat) : g ∈ ats (b.add x y).users t ↔ g ∈ ats b.users t ∨ (y ≠ x ∧ t = y ∧ g = x) := by
  unfold Bt.add
  by_cases e : y = x
  · rw [if_pos e]; simp [e]
  · rw [if_neg e]
    show g ∈ ats (b.users.set y (ats b.users y ++ [x])) t ↔ _
    rw [ats_set hy]
    by_cases et : t = y
    · rw [if_pos et, et]; simp [e]
    · rw [if_neg et]; simp [et]
section
variable {grp : List Nat} {adj : List (List Nat)} {G : Nat}
theorem node_facts {a : Nat} (ha : at0 grp a - 1 < G) : ∀ (l : List Nat) (b : Bt), (∀ x ∈ l, at0 grp x - 1 < G) → b.waits.length = G → b.users.length = G → Bal b →
    Bal (Bt.node grp b a l) ∧ ∀ g t, g ∈ ats (Bt.node grp b a l).users t ↔ g ∈ ats b.users t ∨ ∃ x ∈ l, at0 grp x - 1 ≠ at0 grp a - 1 ∧ t = at0 grp x - 1 ∧ g = at0 grp a - 1 := by
  intro l
  induction l with
  | nil => intro b _ _ _ hb; exact ⟨hb, fun g t => by simp [Bt.node]⟩
  | cons x l ih =>
    intro b hl hw hu hb
    have hx := hl x (by simp)
    have h1 := b.add_len (at0 grp a - 1) (at0 grp x - 1)
    obtain ⟨i1, i2⟩ := ih (b.add (at0 grp a - 1) (at0 grp x - 1)) (fun y hy => hl y (by simp [hy])) (h1.1.trans hw) (h1.2.trans hu) (hb.add (by omega) (by omega))
    refine ⟨i1, fun g t => ?_⟩
    have h2 := i2 g t
    rw [add_mem (by omega)] at h2
    show g ∈ ats (Bt.node grp (b.add (at0 grp a - 1) (at0 grp x - 1)) a l).users t ↔ _
    rw [h2]
    constructor
    · rintro ((h | h) | ⟨y, hy, h⟩)
      · exact .inl h
      · exact .inr ⟨x, by simp, h⟩
      · exact .inr ⟨y, by simp [hy], h⟩
    · rintro (h | ⟨y, hy, h⟩)
      · exact .inl (.inl h)
      · rcases List.mem_cons.1 hy with rfl | hy
        · exact .inl (.inr h)
        · exact .inr ⟨y, hy, h⟩
theorem nodes_facts (hg : ∀ a, a < adj.length → at0 grp a - 1 < G) (ok : Oks adj) (b : Bt) (hw : b.waits.length = G) (hu : b.users.length = G) (hb : Bal b) : ∀ k, k ≤ adj.length →
    Bal (Bt.nodes grp adj b k) ∧ ∀ g t, g ∈ ats (Bt.nodes grp adj b k).users t ↔ g ∈ ats b.users t ∨ ∃ a x, a < k ∧ Ed adj a x ∧ at0 grp x - 1 ≠ at0 grp a - 1 ∧ t = at0 grp x - 1 ∧ g = at0 grp a - 1 := by
  intro k
  induction k with
  | zero => intro _; exact ⟨hb, fun g t => by simp [Bt.nodes]⟩
  | succ k ih =>
    intro hk
    obtain ⟨i1, i2⟩ := ih (by omega)
    have hl := Bt.nodes_len grp adj b k
    rw [Bt.nodes_succ]
    obtain ⟨j1, j2⟩ := node_facts (hg k (by omega)) (ats adj k) (Bt.nodes grp adj b k) (fun x hx => hg x (ok k x hx)) (hl.1.trans hw) (hl.2.trans hu) i1
    refine ⟨j1, fun g t => ?_⟩
    rw [j2 g t, i2 g t]
    constructor
    · rintro ((h | ⟨a, x, h1, h2⟩) | ⟨x, h1, h2⟩)
      · exact .inl h
      · exact .inr ⟨a, x, by omega, h2⟩
      · exact .inr ⟨k, x, by omega, h1, h2⟩
    · rintro (h | ⟨a, x, h1, h2, h3⟩)
      · exact .inl (.inl h)
      · by_cases e : a = k
        · subst e; exact .inr ⟨x, h2, h3⟩
        · exact .inl (.inr ⟨a, x, by omega, h2, h3⟩)
end
/-- where the last loop stands: D are out, Z wait in the heap, W is how often each waits -/
structure Kn (us : List (List Nat)) (G : Nat) (W : List Nat) (Z D : List Nat) (E : List Nat) : Prop where
  wt : ∀ g, at0 W g = remN us D g G + E.count g
  znd : Z.Nodup
  dnd : D.Nodup
  zin : ∀ g, g ∈ Z ↔ g < G ∧ g ∉ D ∧ at0 W g = 0
  din : ∀ g ∈ D, g < G ∧ at0 W g = 0
section
variable {us : List (List Nat)} {G : Nat} {W Z D : List Nat} {E : List Nat}
/-- one of those that wait for what came out: it waits no more -/
theorem Kn.push {i : Nat} (h : Kn us G W Z D (i :: E)) (hi : i < G) (hW : i < W.length) (h1 : at0 W i = 1) {Z' : List Nat} (hz : Z'.Perm (Z ++ [i])) : Kn us G (W.set i (at0 W i - 1)) Z' D E := by
  have hiz : i ∉ Z := fun e => by have := ((h.zin i).1 e).2.2; omega
  have hid : i ∉ D := fun e => by have := (h.din i e).2; omega
  have hw : ∀ g, at0 (W.set i (at0 W i - 1)) g = if g = i then 0 else at0 W g := fun g => by
    rw [at0_set hW]
    by_cases e : g = i
    · rw [e, upd_eq, if_pos rfl]; omega
    · rw [upd_ne e, if_neg e]
  refine ⟨fun g => ?_, ?_, h.dnd, fun g => ?_, fun g hg => ?_⟩
  · rw [at0_set hW]
    have h2 := h.wt g
    rw [List.count_cons] at h2
    by_cases e : g = i
    · subst e
      rw [upd_eq]
      simp at h2
      omega
    · rw [upd_ne e]
      have : ¬ i = g := fun e2 => e e2.symm
      simp [this] at h2
      omega
  · refine hz.nodup_iff.2 (List.nodup_append.2 ⟨h.znd, by simp, fun a ha b hb e => ?_⟩)
    rw [List.mem_singleton.1 hb] at e
    exact hiz (e ▸ ha)
  · rw [hz.mem_iff, List.mem_append, List.mem_singleton, hw g, h.zin g]
    by_cases e : g = i
    · subst e
      rw [if_pos rfl]
      exact ⟨fun _ => ⟨hi, hid, rfl⟩, fun _ => .inr rfl⟩
    · rw [if_neg e]
      simp [e]
  · rw [hw g]
    have := h.din g hg
    refine ⟨this.1, ?_⟩
    by_cases e : g = i
    · rw [if_pos e]
    · rw [if_neg e]; exact this.2
theorem Kn.less {i : Nat} (h : Kn us G W Z D (i :: E)) (hW : i < W.length) (h1 : at0 W i ≠ 1) : Kn us G (W.set i (at0 W i - 1)) Z D E := by
  have h3 := h.wt i
  rw [List.count_cons] at h3
  simp at h3
  have hw : ∀ g, (at0 (W.set i (at0 W i - 1)) g = 0 ↔ at0 W g = 0) := fun g => by
    rw [at0_set hW]
    by_cases e : g = i
    · rw [e, upd_eq]; omega
    · rw [upd_ne e]
  refine ⟨fun g => ?_, h.znd, h.dnd, fun g => by rw [h.zin g, hw g], fun g hg => by rw [hw g]; exact h.din g hg⟩
  rw [at0_set hW]
  have h2 := h.wt g
  rw [List.count_cons] at h2
  by_cases e : g = i
  · subst e
    rw [upd_eq]
    simp at h2
    omega
  · rw [upd_ne e]
    have : ¬ i = g := fun e2 => e e2.symm
    simp [this] at h2
    omega
theorem Kn.pos {i : Nat} (h : Kn us G W Z D (i :: E)) : 1 ≤ at0 W i := by
  have h2 := h.wt i
  rw [List.count_cons] at h2
  simp at h2
  omega
/-- the next one comes out -/
theorem Kn.pop {i : Nat} {Z' : List Nat} (h : Kn us G W Z D []) (hz : Z.Perm (i :: Z')) : Kn us G W Z' (D ++ [i]) (ats us i) := by
  have hmem : i ∈ Z := hz.mem_iff.2 (by simp)
  obtain ⟨h1, h2, h3⟩ := (h.zin i).1 hmem
  have hnd := hz.nodup_iff.1 h.znd
  rw [List.nodup_cons] at hnd
  have hcomm : ∀ g, remN us (D ++ [i]) g G = remN us (i :: D) g G := fun g => by
    have : ∀ n, remN us (D ++ [i]) g n = remN us (i :: D) g n := fun n => by
      induction n with
      | zero => rfl
      | succ n ih =>
        unfold remN
        rw [ih]
        by_cases e : n ∈ i :: D
        · rw [if_pos e, if_pos (by simp at e ⊢; exact e.symm)]
        · rw [if_neg e, if_neg (by simp at e ⊢; exact ⟨e.2, e.1⟩)]
    exact this G
  refine ⟨fun g => ?_, hnd.2, ?_, fun g => ?_, fun g hg => ?_⟩
  · rw [hcomm, h.wt g, remN_cons h2 h1]; simp
  · refine List.nodup_append.2 ⟨h.dnd, by simp, fun a ha b hb e => ?_⟩
    rw [List.mem_singleton.1 hb] at e
    exact h2 (e ▸ ha)
  · have hg := h.zin g
    rw [hz.mem_iff, List.mem_cons] at hg
    by_cases e : g = i
    · subst e
      exact ⟨fun hh => absurd hh hnd.1, fun hh => absurd (by simp : g ∈ D ++ [g]) hh.2.1⟩
    · constructor
      · intro hh
        have := hg.1 (.inr hh)
        exact ⟨this.1, by simp [this.2.1, e], this.2.2⟩
      · rintro ⟨a1, a2, a3⟩
        rcases hg.2 ⟨a1, fun hd => a2 (by simp [hd]), a3⟩ with hh | hh
        · exact absurd hh e
        · exact hh
  · rcases List.mem_append.1 hg with hg | hg
    · exact h.din g hg
    · rw [List.mem_singleton.1 hg]; exact ⟨h1, h3⟩
theorem Kn.len (h : Kn us G W Z D E) : D.length ≤ G := nodup_le G D h.dnd fun x hx => (h.din x hx).1
theorem Kn.zlen (h : Kn us G W Z D E) : Z.length ≤ G := nodup_le G Z h.znd fun x hx => ((h.zin x).1 hx).1
end
/-- out, one behind the other: each when all that it needs is out, and none that could come has a lesser key -/
def Seqd (us : List (List Nat)) (G : Nat) (key : Nat → Nat) (D : List Nat) : Prop :=
  ∀ D1 t D2, D = D1 ++ t :: D2 → (∀ u, u < G → t ∈ ats us u → u ∈ D1) ∧ ∀ g, g < G → g ∉ D1 → (∀ u, u < G → g ∈ ats us u → u ∈ D1) → key t ≤ key g
theorem Seqd.nil {us : List (List Nat)} {G : Nat} {key : Nat → Nat} : Seqd us G key [] := fun D1 t D2 h => by simp at h
theorem Seqd.snoc {us : List (List Nat)} {G : Nat} {key : Nat → Nat} {W Z D : List Nat} {i : Nat} (h : Seqd us G key D) (hk : Kn us G W Z D []) (hi : i ∈ Z) (hmin : ∀ x ∈ Z, key i ≤ key x) : Seqd us G key (D ++ [i]) := by
  intro D1 t D2 e
  rcases List.eq_nil_or_concat D2 with rfl | ⟨D3, x, rfl⟩
  · have e2 : D = D1 ∧ i = t := by
      have := List.append_inj' e rfl
      exact ⟨this.1, by simpa using this.2⟩
    obtain ⟨rfl, rfl⟩ := e2
    have hz : ∀ g, (at0 W g = 0 ↔ ∀ u, u < G → u ∉ D → g ∉ ats us u) := fun g => by rw [hk.wt g, List.count_nil, Nat.add_zero]; exact remN_zero
    refine ⟨fun u hu hm => ?_, fun g hg hd hn => hmin g ((hk.zin g).2 ⟨hg, hd, ?_⟩)⟩
    · exact Classical.byContradiction fun hd => (hz i).1 ((hk.zin i).1 hi).2.2 u hu hd hm
    · exact (hz g).2 fun u hu hud hm => hud (hn u hu hm)
  · refine h D1 t D3 ?_
    rw [List.concat_eq_append, ← List.cons_append, ← List.append_assoc] at e
    exact (List.append_inj' e rfl).1
/-- nothing waits any more: all are out, if each needs only such as are less -/
theorem Kn.all {us : List (List Nat)} {G : Nat} {W D : List Nat} (h : Kn us G W [] D []) (hlt : ∀ g u, g ∈ ats us u → u < g) : ∀ n g, g < n → g < G → g ∈ D := by
  intro n
  induction n with
  | zero => intro g hg; omega
  | succ n ih =>
    intro g hg hG
    refine Classical.byContradiction fun hd => ?_
    have h1 : at0 W g = 0 := by
      rw [h.wt g, List.count_nil, Nat.add_zero]
      exact remN_zero.2 fun t ht htd hm => htd (ih t (by have := hlt g t hm; omega) ht)
    have := (h.zin g).2 ⟨hG, hd, h1⟩
    simp at this
end Go.Proofs.Ytmoebpebahhbeaa
