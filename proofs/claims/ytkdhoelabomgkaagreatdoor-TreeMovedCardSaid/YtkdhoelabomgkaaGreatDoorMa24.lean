/- Texts of this proof, joined: RtM, MovM, DeepM. No condition. -/
import Derived.Test.YtkdhoelabomgkaaGreatDoorMa23
import Derived.Test.YtkdhoelabomgkaaGreatDoorMa11
import Derived.Test.YtkdhoelabomgkaaGreatDoorMa02
import Derived.Test.YtkdhoelabomgkaaGreatDoorMa18
/-
  Layer 3: which trees may be, in plain words. No walk.
-/
namespace Go.Proofs.YtkdhoelabomgkaaGreatDoor
set_option linter.unusedVariables false
open Go.RowKit

/-- an op that stands as a name -/
def opsNo : List ByteArray := [⟨#[61]⟩, ⟨#[124]⟩, ⟨#[45, 62]⟩, ⟨#[92]⟩, ⟨#[58, 58]⟩, ⟨#[58]⟩, ⟨#[46]⟩]
def opNameB (s : ByteArray) : Bool := !inL opsNo s && inL opsL s
/-- a con's text, or one of the two that lists have -/
def anyConB (s : ByteArray) : Bool := s.toList == [58] || (s.toList == [91, 93] || conB s)
def byteB (n : Int) : Bool := decide (0 ≤ n) && decide (n ≤ 255)
def someB (n m : Int) : Bool := decide (1 ≤ n) && decide (n ≤ m)
/-- a type's head; a pattern's; an expression's: of so many parts -/
def tyHd (k : Int) (n : ByteArray) (m : Int) : Bool :=
  cond (k == 1) (nameB n && m == 0) (cond (k == 2) ((n.toList == [91, 93] && m == 1) || (conB n && decide (m ≤ 16))) (cond (k == 3) (n.toList == [] && m == 2) false))
def partsB (n : ByteArray) (m : Int) : Bool := cond (n.toList == [91, 93]) (m == 0) (cond (n.toList == [58]) (m == 2) (decide (m ≤ 16)))
def paHd (k : Int) (n : ByteArray) (x m : Int) : Bool :=
  cond (k == 1) (n.toList == [] && (x == 0 && m == 0)) (cond (k == 2) (nameB n && (x == 0 && m == 0)) (cond (k == 3) (n.toList == [] && (decide (0 ≤ x) && m == 0)) (cond (k == 4) (n.toList == [] && (byteB x && m == 0))
    (cond (k == 5) (decide ((n.size : Int) ≤ 256) && (x == 0 && m == 0)) (cond (k == 6) (anyConB n && (x == 0 && partsB n m)) false)))))
def exHd (k : Int) (n : ByteArray) (x a p q d : Int) : Bool :=
  cond (k == 1) ((nameB n || opNameB n) && (x == 0 && (a == 0 && (p == 0 && (q == 0 && d == 0)))))
  (cond (k == 2) (anyConB n && (x == 0 && (a == 0 && (p == 0 && (q == 0 && d == 0)))))
  (cond (k == 3) (n.toList == [] && (decide (0 ≤ x) && (a == 0 && (p == 0 && (q == 0 && d == 0)))))
  (cond (k == 4) (n.toList == [] && (byteB x && (a == 0 && (p == 0 && (q == 0 && d == 0)))))
  (cond (k == 5) (decide ((n.size : Int) ≤ 256) && (x == 0 && (a == 0 && (p == 0 && (q == 0 && d == 0)))))
  (cond (k == 6) (n.toList == [] && (x == 0 && (a == 2 && (p == 0 && (q == 0 && d == 0)))))
  (cond (k == 7) (n.toList == [] && (x == 0 && (a == 1 && (someB p 16 && (q == 0 && d == 0)))))
  (cond (k == 8) (n.toList == [] && (x == 0 && (a == 1 && (p == 0 && q == 0))))
  (cond (k == 9) (n.toList == [] && (x == 0 && (a == 3 && (p == 0 && (q == 0 && d == 0)))))
  (cond (k == 10) (n.toList == [] && (x == 0 && (a == 1 && (p == 0 && (someB q 512 && d == 0))))) false)))))))))
mutual
def Ty.rt : Ty → Nat → Bool
  | .mk k _ n l, left => decide (1 ≤ left) && (tyHd k n l.length && Ty.rts l (left - 1))
def Ty.rts : List Ty → Nat → Bool
  | [], _ => true
  | t :: r, left => t.rt left && Ty.rts r left
end
theorem Ty.rts_all : ∀ (l : List Ty) (left : Nat), Ty.rts l left = l.all fun t => t.rt left
  | [], _ => by unfold Ty.rts; rfl
  | t :: r, left => by unfold Ty.rts; rw [List.all_cons, Ty.rts_all r left]
mutual
def Pa.rt : Pa → Nat → Bool
  | .mk k _ n m l, left => decide (1 ≤ left) && (paHd k n m l.length && Pa.rts l (left - 1))
def Pa.rts : List Pa → Nat → Bool
  | [], _ => true
  | t :: r, left => t.rt left && Pa.rts r left
end
theorem Pa.rts_all : ∀ (l : List Pa) (left : Nat), Pa.rts l left = l.all fun t => t.rt left
  | [], _ => by unfold Pa.rts; rfl
  | t :: r, left => by unfold Pa.rts; rw [List.all_cons, Pa.rts_all r left]
/-- patterns, each by itself -/
def patsB (l : List Pa) : Bool := l.all fun t => t.rt 400
def ty0 : Ty := .mk 0 0 ⟨#[]⟩ []
def ex0 : Ex := .mk 0 0 ⟨#[]⟩ 0 [] [] [] []
/-- names, no two the same, none of those ahead -/
def upB : List ByteArray → List ByteArray → Bool
  | _, [] => true
  | seen, v :: r => nameB v && (!(seen.any fun u => u.toList == v.toList) && upB (seen ++ [v]) r)
def varsB (vs : List ByteArray) : Bool := decide (vs.length ≤ 16) && upB [] vs
def coB (c : Co) : Bool := conB c.name && (decide (c.args.length ≤ 16) && c.args.all fun t => t.rt 400)
def cosB (cs : List Co) : Bool := someB cs.length 32 && cs.all coB
def dataB (n : ByteArray) (vs : List ByteArray) (cs : List Co) (t : Ty) (ps : List Pa) (e : Ex) : Bool :=
  conB n && (varsB vs && (cosB cs && (t.same ty0 && ((ps.length : Int) == 0 && e.same ex0))))
def sigB (n : ByteArray) (vs : List ByteArray) (cs : List Co) (t : Ty) (ps : List Pa) (e : Ex) : Bool :=
  nameB n && (t.rt 400 && ((vs.length : Int) == 0 && ((cs.length : Int) == 0 && ((ps.length : Int) == 0 && e.same ex0))))
def defB (n : ByteArray) (vs : List ByteArray) (cs : List Co) (t : Ty) (ps : List Pa) (b : Bool) : Bool :=
  nameB n && (decide ((ps.length : Int) ≤ 16) && (patsB ps && (b && ((vs.length : Int) == 0 && ((cs.length : Int) == 0 && t.same ty0)))))
mutual
def Ex.rt : Ex → Nat → Bool
  | .mk k _ n m l ps al ds, left => decide (1 ≤ left) && (exHd k n m l.length ps.length al.length ds.length && (Ex.rts l (left - 1) && (patsB ps && (Al.rts al (left - 1) && (decide ((ds.length : Int) ≤ 512) && De.rts ds false (left - 1))))))
def Ex.rts : List Ex → Nat → Bool
  | [], _ => true
  | t :: r, left => t.rt left && Ex.rts r left
def Al.rt : Al → Nat → Bool
  | .mk p e, left => p.rt 400 && e.rt left
def Al.rts : List Al → Nat → Bool
  | [], _ => true
  | t :: r, left => t.rt left && Al.rts r left
def De.rt : De → Bool → Nat → Bool
  | .mk k _ n vs cs t ps e, top, left => cond (k == 1) (top && dataB n vs cs t ps e) (cond (k == 2) (sigB n vs cs t ps e) (cond (k == 3) (defB n vs cs t ps (e.rt left)) false))
def De.rts : List De → Bool → Nat → Bool
  | [], _, _ => true
  | t :: r, top, left => t.rt top left && De.rts r top left
end
theorem Ex.rts_all : ∀ (l : List Ex) (left : Nat), Ex.rts l left = l.all fun t => t.rt left
  | [], _ => by unfold Ex.rts; rfl
  | t :: r, left => by unfold Ex.rts; rw [List.all_cons, Ex.rts_all r left]
theorem Al.rts_all : ∀ (l : List Al) (left : Nat), Al.rts l left = l.all fun t => t.rt left
  | [], _ => by unfold Al.rts; rfl
  | t :: r, left => by unfold Al.rts; rw [List.all_cons, Al.rts_all r left]
theorem De.rts_all : ∀ (l : List De) (top : Bool) (left : Nat), De.rts l top left = l.all fun t => t.rt top left
  | [], _, _ => by unfold De.rts; rfl
  | t :: r, top, left => by unfold De.rts; rw [List.all_cons, De.rts_all r top left]
/-- declarations -/
def desB (l : List De) (top : Bool) (left : Nat) : Bool := decide ((l.length : Int) ≤ 512) && l.all fun t => t.rt top left
end Go.Proofs.YtkdhoelabomgkaaGreatDoor
/-
  Layer 3: trees without their places; what the same ones have alike; an expression at other places. No walk.
-/
namespace Go.Proofs.YtkdhoelabomgkaaGreatDoor
set_option linter.unusedVariables false
open Go.RowKit

theorem bytes_iff {a b : ByteArray} : a.data.toList = b.data.toList ↔ a = b := by
  constructor
  · intro h
    cases a; cases b
    simpa using h
  · rintro rfl; rfl
-- without places
mutual
def Ty.st : Ty → Ty
  | .mk k _ n l => .mk k 0 n (Ty.sts l)
def Ty.sts : List Ty → List Ty
  | [] => []
  | t :: r => t.st :: Ty.sts r
end
mutual
def Pa.st : Pa → Pa
  | .mk k _ n m l => .mk k 0 n m (Pa.sts l)
def Pa.sts : List Pa → List Pa
  | [] => []
  | t :: r => t.st :: Pa.sts r
end
def Co.st (c : Co) : Co := ⟨0, c.name, Ty.sts c.args⟩
def Co.sts : List Co → List Co
  | [] => []
  | t :: r => t.st :: Co.sts r
mutual
def Ex.st : Ex → Ex
  | .mk k _ n m l ps al ds => .mk k 0 n m (Ex.sts l) (Pa.sts ps) (Al.sts al) (De.sts ds)
def Ex.sts : List Ex → List Ex
  | [] => []
  | t :: r => t.st :: Ex.sts r
def Al.st : Al → Al
  | .mk p e => .mk p.st e.st
def Al.sts : List Al → List Al
  | [] => []
  | t :: r => t.st :: Al.sts r
def De.st : De → De
  | .mk k _ n vs cs t ps e => .mk k 0 n vs (Co.sts cs) t.st (Pa.sts ps) e.st
def De.sts : List De → List De
  | [] => []
  | t :: r => t.st :: De.sts r
end
-- the same: alike without places
mutual
theorem Ty.same_iff : ∀ t u : Ty, t.same u = true ↔ t.st = u.st
  | .mk k p n l, .mk k' p' n' l' => by
    unfold Ty.same Ty.st
    simp only [Bool.and_eq_true, beq_iff_eq, Ty.mk.injEq, true_and, Ty.sames_iff l l', bytes_iff]
theorem Ty.sames_iff : ∀ l m : List Ty, Ty.sames l m = true ↔ Ty.sts l = Ty.sts m
  | [], [] => by unfold Ty.sames Ty.sts; simp
  | [], _ :: _ => by unfold Ty.sames Ty.sts; simp
  | _ :: _, [] => by unfold Ty.sames Ty.sts; simp
  | t :: r, t' :: r' => by
    unfold Ty.sames Ty.sts
    simp only [Bool.and_eq_true, List.cons.injEq, Ty.same_iff t t', Ty.sames_iff r r']
end
mutual
theorem Pa.same_iff : ∀ t u : Pa, t.same u = true ↔ t.st = u.st
  | .mk k p n m l, .mk k' p' n' m' l' => by
    unfold Pa.same Pa.st
    simp only [Bool.and_eq_true, beq_iff_eq, Pa.mk.injEq, true_and, Pa.sames_iff l l', bytes_iff]
theorem Pa.sames_iff : ∀ l m : List Pa, Pa.sames l m = true ↔ Pa.sts l = Pa.sts m
  | [], [] => by unfold Pa.sames Pa.sts; simp
  | [], _ :: _ => by unfold Pa.sames Pa.sts; simp
  | _ :: _, [] => by unfold Pa.sames Pa.sts; simp
  | t :: r, t' :: r' => by
    unfold Pa.sames Pa.sts
    simp only [Bool.and_eq_true, List.cons.injEq, Pa.same_iff t t', Pa.sames_iff r r']
end
theorem Tx.sames_iff : ∀ l m : List ByteArray, Tx.sames l m = true ↔ l = m
  | [], [] => by unfold Tx.sames; simp
  | [], _ :: _ => by unfold Tx.sames; simp
  | _ :: _, [] => by unfold Tx.sames; simp
  | t :: r, t' :: r' => by
    unfold Tx.sames
    simp only [Bool.and_eq_true, beq_iff_eq, bytes_iff, List.cons.injEq, Tx.sames_iff r r']
theorem Co.same_iff (c d : Co) : c.same d = true ↔ c.st = d.st := by
  unfold Co.same Co.st
  simp only [Bool.and_eq_true, beq_iff_eq, bytes_iff, Co.mk.injEq, true_and, Ty.sames_iff]
theorem Co.sames_iff : ∀ l m : List Co, Co.sames l m = true ↔ Co.sts l = Co.sts m
  | [], [] => by unfold Co.sames Co.sts; simp
  | [], _ :: _ => by unfold Co.sames Co.sts; simp
  | _ :: _, [] => by unfold Co.sames Co.sts; simp
  | t :: r, t' :: r' => by
    unfold Co.sames Co.sts
    simp only [Bool.and_eq_true, List.cons.injEq, Co.same_iff t t', Co.sames_iff r r']
mutual
theorem Ex.same_iff : ∀ t u : Ex, t.same u = true ↔ t.st = u.st
  | .mk k p n m l ps al ds, .mk k' p' n' m' l' ps' al' ds' => by
    unfold Ex.same Ex.st
    simp only [Bool.and_eq_true, beq_iff_eq, Ex.mk.injEq, true_and, Ex.sames_iff l l', Pa.sames_iff, Al.sames_iff al al', De.sames_iff ds ds', bytes_iff]
theorem Ex.sames_iff : ∀ l m : List Ex, Ex.sames l m = true ↔ Ex.sts l = Ex.sts m
  | [], [] => by unfold Ex.sames Ex.sts; simp
  | [], _ :: _ => by unfold Ex.sames Ex.sts; simp
  | _ :: _, [] => by unfold Ex.sames Ex.sts; simp
  | t :: r, t' :: r' => by
    unfold Ex.sames Ex.sts
    simp only [Bool.and_eq_true, List.cons.injEq, Ex.same_iff t t', Ex.sames_iff r r']
theorem Al.same_iff : ∀ t u : Al, t.same u = true ↔ t.st = u.st
  | .mk p e, .mk p' e' => by
    unfold Al.same Al.st
    simp only [Bool.and_eq_true, Al.mk.injEq, Pa.same_iff, Ex.same_iff e e']
theorem Al.sames_iff : ∀ l m : List Al, Al.sames l m = true ↔ Al.sts l = Al.sts m
  | [], [] => by unfold Al.sames Al.sts; simp
  | [], _ :: _ => by unfold Al.sames Al.sts; simp
  | _ :: _, [] => by unfold Al.sames Al.sts; simp
  | t :: r, t' :: r' => by
    unfold Al.sames Al.sts
    simp only [Bool.and_eq_true, List.cons.injEq, Al.same_iff t t', Al.sames_iff r r']
theorem De.same_iff : ∀ t u : De, t.same u = true ↔ t.st = u.st
  | .mk k p n vs cs t ps e, .mk k' p' n' vs' cs' t' ps' e' => by
    unfold De.same De.st
    simp only [Bool.and_eq_true, beq_iff_eq, De.mk.injEq, true_and, Tx.sames_iff, Co.sames_iff, Ty.same_iff, Pa.sames_iff, Ex.same_iff e e', bytes_iff]
theorem De.sames_iff : ∀ l m : List De, De.sames l m = true ↔ De.sts l = De.sts m
  | [], [] => by unfold De.sames De.sts; simp
  | [], _ :: _ => by unfold De.sames De.sts; simp
  | _ :: _, [] => by unfold De.sames De.sts; simp
  | t :: r, t' :: r' => by
    unfold De.sames De.sts
    simp only [Bool.and_eq_true, List.cons.injEq, De.same_iff t t', De.sames_iff r r']
end
theorem Ex.same_comm (t u : Ex) : t.same u = u.same t := by
  rw [Bool.eq_iff_iff, Ex.same_iff, Ex.same_iff]
  exact eq_comm
theorem Ex.same_of {t u : Ex} (h : t.st = u.st) : t.same u = true := (Ex.same_iff t u).2 h
theorem Ex.same_left {t u v : Ex} (h : t.st = u.st) : t.same v = u.same v := by
  rw [Bool.eq_iff_iff, Ex.same_iff, Ex.same_iff, h]
-- lengths
theorem Ty.sts_len : ∀ l : List Ty, (Ty.sts l).length = l.length
  | [] => by unfold Ty.sts; rfl
  | t :: r => by unfold Ty.sts; simp [Ty.sts_len r]
theorem Pa.sts_len : ∀ l : List Pa, (Pa.sts l).length = l.length
  | [] => by unfold Pa.sts; rfl
  | t :: r => by unfold Pa.sts; simp [Pa.sts_len r]
theorem Co.sts_len : ∀ l : List Co, (Co.sts l).length = l.length
  | [] => by unfold Co.sts; rfl
  | t :: r => by unfold Co.sts; simp [Co.sts_len r]
theorem Ex.sts_len : ∀ l : List Ex, (Ex.sts l).length = l.length
  | [] => by unfold Ex.sts; rfl
  | t :: r => by unfold Ex.sts; simp [Ex.sts_len r]
theorem Al.sts_len : ∀ l : List Al, (Al.sts l).length = l.length
  | [] => by unfold Al.sts; rfl
  | t :: r => by unfold Al.sts; simp [Al.sts_len r]
theorem De.sts_len : ∀ l : List De, (De.sts l).length = l.length
  | [] => by unfold De.sts; rfl
  | t :: r => by unfold De.sts; simp [De.sts_len r]
-- whether it may be, its size, its depth hang on no place
mutual
theorem Ty.rt_st : ∀ (t : Ty) (left : Nat), t.st.rt left = t.rt left
  | .mk k p n l, left => by
    rw [Ty.st, Ty.rt, Ty.rt, Ty.sts_len, Ty.rts_st l]
theorem Ty.rts_st : ∀ (l : List Ty) (left : Nat), Ty.rts (Ty.sts l) left = Ty.rts l left
  | [], left => by rw [Ty.sts]
  | t :: r, left => by rw [Ty.sts, Ty.rts, Ty.rts, Ty.rt_st t, Ty.rts_st r]
end
mutual
theorem Pa.rt_st : ∀ (t : Pa) (left : Nat), t.st.rt left = t.rt left
  | .mk k p n m l, left => by
    rw [Pa.st, Pa.rt, Pa.rt, Pa.sts_len, Pa.rts_st l]
theorem Pa.rts_st : ∀ (l : List Pa) (left : Nat), Pa.rts (Pa.sts l) left = Pa.rts l left
  | [], left => by rw [Pa.sts]
  | t :: r, left => by rw [Pa.sts, Pa.rts, Pa.rts, Pa.rt_st t, Pa.rts_st r]
end
theorem patsB_st (l : List Pa) : patsB (Pa.sts l) = patsB l := by
  unfold patsB
  rw [← Pa.rts_all, ← Pa.rts_all, Pa.rts_st]
theorem coB_st (c : Co) : coB c.st = coB c := by
  unfold coB Co.st
  simp only [Ty.sts_len]
  rw [← Ty.rts_all, ← Ty.rts_all, Ty.rts_st]
theorem cosB_all : ∀ l : List Co, (Co.sts l).all coB = l.all coB
  | [] => by unfold Co.sts; rfl
  | t :: r => by unfold Co.sts; rw [List.all_cons, List.all_cons, coB_st, cosB_all r]
theorem Ty.st_st : ∀ t : Ty, t.st.same ty0 = t.same ty0 := fun t => by
  rw [Bool.eq_iff_iff, Ty.same_iff, Ty.same_iff]
  obtain ⟨k, p, n, l⟩ := t
  unfold ty0
  simp only [Ty.st, Ty.sts, Ty.mk.injEq, true_and]
  have : Ty.sts (Ty.sts l) = [] ↔ Ty.sts l = [] := by
    cases l with
    | nil => unfold Ty.sts; unfold Ty.sts; simp
    | cons a b => unfold Ty.sts; unfold Ty.sts; simp
  rw [this]
theorem Ex.st_ex0 : ∀ t : Ex, t.st.same ex0 = t.same ex0 := fun t => by
  rw [Bool.eq_iff_iff, Ex.same_iff, Ex.same_iff]
  obtain ⟨k, p, n, m, l, ps, al, ds⟩ := t
  unfold ex0
  simp only [Ex.st, Ex.sts, Pa.sts, Al.sts, De.sts, Ex.mk.injEq, true_and]
  have e1 : Ex.sts (Ex.sts l) = [] ↔ Ex.sts l = [] := by cases l <;> simp [Ex.sts]
  have e2 : Pa.sts (Pa.sts ps) = [] ↔ Pa.sts ps = [] := by cases ps <;> simp [Pa.sts]
  have e3 : Al.sts (Al.sts al) = [] ↔ Al.sts al = [] := by cases al <;> simp [Al.sts]
  have e4 : De.sts (De.sts ds) = [] ↔ De.sts ds = [] := by cases ds <;> simp [De.sts]
  rw [e1, e2, e3, e4]
theorem dataB_st (n : ByteArray) (vs : List ByteArray) (cs : List Co) (t : Ty) (ps : List Pa) (e : Ex) : dataB n vs (Co.sts cs) t.st (Pa.sts ps) e.st = dataB n vs cs t ps e := by
  unfold dataB cosB
  rw [Co.sts_len, cosB_all, Ty.st_st, Pa.sts_len, Ex.st_ex0]
theorem sigB_st (n : ByteArray) (vs : List ByteArray) (cs : List Co) (t : Ty) (ps : List Pa) (e : Ex) : sigB n vs (Co.sts cs) t.st (Pa.sts ps) e.st = sigB n vs cs t ps e := by
  unfold sigB
  rw [Co.sts_len, Ty.rt_st, Pa.sts_len, Ex.st_ex0]
theorem defB_st (n : ByteArray) (vs : List ByteArray) (cs : List Co) (t : Ty) (ps : List Pa) (b : Bool) : defB n vs (Co.sts cs) t.st (Pa.sts ps) b = defB n vs cs t ps b := by
  unfold defB
  rw [Co.sts_len, Ty.st_st, Pa.sts_len, patsB_st]
mutual
theorem Ex.rt_st : ∀ (t : Ex) (left : Nat), t.st.rt left = t.rt left
  | .mk k p n m l ps al ds, left => by
    rw [Ex.st, Ex.rt, Ex.rt, Ex.sts_len, Pa.sts_len, Al.sts_len, De.sts_len, Ex.rts_st l, patsB_st, Al.rts_st al, De.rts_st ds]
theorem Ex.rts_st : ∀ (l : List Ex) (left : Nat), Ex.rts (Ex.sts l) left = Ex.rts l left
  | [], left => by rw [Ex.sts]
  | t :: r, left => by rw [Ex.sts, Ex.rts, Ex.rts, Ex.rt_st t, Ex.rts_st r]
theorem Al.rt_st : ∀ (t : Al) (left : Nat), t.st.rt left = t.rt left
  | .mk p e, left => by rw [Al.st, Al.rt, Al.rt, Pa.rt_st, Ex.rt_st e]
theorem Al.rts_st : ∀ (l : List Al) (left : Nat), Al.rts (Al.sts l) left = Al.rts l left
  | [], left => by rw [Al.sts]
  | t :: r, left => by rw [Al.sts, Al.rts, Al.rts, Al.rt_st t, Al.rts_st r]
theorem De.rt_st : ∀ (t : De) (top : Bool) (left : Nat), t.st.rt top left = t.rt top left
  | .mk k p n vs cs t ps e, top, left => by
    rw [De.st, De.rt, De.rt, dataB_st, sigB_st, defB_st, Ex.rt_st e]
theorem De.rts_st : ∀ (l : List De) (top : Bool) (left : Nat), De.rts (De.sts l) top left = De.rts l top left
  | [], top, left => by rw [De.sts]
  | t :: r, top, left => by rw [De.sts, De.rts, De.rts, De.rt_st t, De.rts_st r]
end
mutual
theorem Ex.sz_st : ∀ t : Ex, t.st.sz = t.sz
  | .mk k p n m l ps al ds => by rw [Ex.st, Ex.sz, Ex.sz, Ex.szs_st l, Al.szs_st al, De.szs_st ds]
theorem Ex.szs_st : ∀ l : List Ex, Ex.szs (Ex.sts l) = Ex.szs l
  | [] => by rw [Ex.sts]
  | t :: r => by rw [Ex.sts, Ex.szs, Ex.szs, Ex.sz_st t, Ex.szs_st r]
theorem Al.szs_st : ∀ l : List Al, Al.szs (Al.sts l) = Al.szs l
  | [] => by rw [Al.sts]
  | .mk p e :: r => by rw [Al.sts, Al.st, Al.szs, Al.szs, Ex.sz_st e, Al.szs_st r]
theorem De.szs_st : ∀ l : List De, De.szs (De.sts l) = De.szs l
  | [] => by rw [De.sts]
  | .mk k p n vs cs t ps e :: r => by rw [De.sts, De.st, De.szs, De.szs, Ex.sz_st e, De.szs_st r]
end
mutual
theorem Ex.dm_st : ∀ (t : Ex) (lev d : Int), t.st.dm lev d = t.dm lev d
  | .mk k p n m l ps al ds, lev, d => by rw [Ex.st, Ex.dm, Ex.dm, Ex.dms_st l, Al.dms_st al, De.dms_st ds]
theorem Ex.dms_st : ∀ (l : List Ex) (lev d : Int), Ex.dms (Ex.sts l) lev d = Ex.dms l lev d
  | [], lev, d => by rw [Ex.sts]
  | t :: r, lev, d => by rw [Ex.sts, Ex.dms, Ex.dms, Ex.dm_st t, Ex.dms_st r]
theorem Al.dms_st : ∀ (l : List Al) (lev d : Int), Al.dms (Al.sts l) lev d = Al.dms l lev d
  | [], lev, d => by rw [Al.sts]
  | .mk p e :: r, lev, d => by rw [Al.sts, Al.st, Al.dms, Al.dms, Ex.dm_st e, Al.dms_st r]
theorem De.dms_st : ∀ (l : List De) (lev d : Int), De.dms (De.sts l) lev d = De.dms l lev d
  | [], lev, d => by rw [De.sts]
  | .mk k p n vs cs t ps e :: r, lev, d => by rw [De.sts, De.st, De.dms, De.dms, Ex.dm_st e, De.dms_st r]
end
-- at other places
mutual
def Ex.mv : Ex → Int → Ex
  | .mk k _ n m l ps al ds, by' => .mk k by' n m (Ex.mvs l (Int.tmod by' 1000 + 1)) ps (Al.mvs al (Int.tmod by' 1000 + 2)) ds
def Ex.mvs : List Ex → Int → List Ex
  | [], _ => []
  | t :: r, b => t.mv b :: Ex.mvs r b
def Al.mvs : List Al → Int → List Al
  | [], _ => []
  | .mk p e :: r, b => .mk p (e.mv b) :: Al.mvs r b
end
mutual
theorem Ex.mv_st : ∀ (t : Ex) (b : Int), (t.mv b).st = t.st
  | .mk k p n m l ps al ds, b => by rw [Ex.mv, Ex.st, Ex.st, Ex.mvs_st l, Al.mvs_st al]
theorem Ex.mvs_st : ∀ (l : List Ex) (b : Int), Ex.sts (Ex.mvs l b) = Ex.sts l
  | [], b => by rw [Ex.mvs]
  | t :: r, b => by rw [Ex.mvs, Ex.sts, Ex.sts, Ex.mv_st t, Ex.mvs_st r]
theorem Al.mvs_st : ∀ (l : List Al) (b : Int), Al.sts (Al.mvs l b) = Al.sts l
  | [], b => by rw [Al.mvs]
  | .mk p e :: r, b => by rw [Al.mvs, Al.sts, Al.sts, Al.st, Al.st, Ex.mv_st e, Al.mvs_st r]
end
mutual
theorem Ex.mv_nd : ∀ (t : Ex) (b : Int), (t.mv b).nd = t.nd
  | .mk k p n m l ps al ds, b => by rw [Ex.mv, Ex.nd, Ex.nd, Ex.mvs_nd l, Al.mvs_nd al]
theorem Ex.mvs_nd : ∀ (l : List Ex) (b : Int), Ex.nds (Ex.mvs l b) = Ex.nds l
  | [], b => by rw [Ex.mvs]
  | t :: r, b => by rw [Ex.mvs, Ex.nds, Ex.nds, Ex.mv_nd t, Ex.mvs_nd r]
theorem Al.mvs_nd : ∀ (l : List Al) (b : Int), Al.nds (Al.mvs l b) = Al.nds l
  | [], b => by rw [Al.mvs]
  | .mk p e :: r, b => by rw [Al.mvs, Al.nds, Al.nds, Al.nd, Al.nd, Ex.mv_nd e, Al.mvs_nd r]
end
/-- the same ones have alike what hangs on no place -/
theorem Ex.rt_same {t u : Ex} (h : t.same u = true) (left : Nat) : t.rt left = u.rt left := by
  rw [← Ex.rt_st t, ← Ex.rt_st u, (Ex.same_iff t u).1 h]
theorem Ex.sz_same {t u : Ex} (h : t.same u = true) : t.sz = u.sz := by
  rw [← Ex.sz_st t, ← Ex.sz_st u, (Ex.same_iff t u).1 h]
end Go.Proofs.YtkdhoelabomgkaaGreatDoor
/-
  Layer 3: depth as the greatest of what is in a tree; what is put off. No walk.
-/
namespace Go.Proofs.YtkdhoelabomgkaaGreatDoor
set_option linter.unusedVariables false
open Go.RowKit

mutual
theorem Ex.dm_max : ∀ (t : Ex) (lev d : Int), 0 ≤ lev → 0 ≤ d → t.dm lev d = max d (t.dm lev 0)
  | .mk k p n m l ps al ds, lev, d, hl, hd => by
    unfold Ex.dm
    rw [De.dms_max ds (lev + 1) _ (by omega) (Al.dms_pos al _ _ (by omega) (Ex.dms_pos l _ _ (by omega) (by omega))), Al.dms_max al (lev + 1) _ (by omega) (Ex.dms_pos l _ _ (by omega) (by omega)), Ex.dms_max l (lev + 1) (max d lev) (by omega) (by omega)]
    rw [De.dms_max ds (lev + 1) (Al.dms al (lev + 1) (Ex.dms l (lev + 1) (max 0 lev))) (by omega) (Al.dms_pos al _ _ (by omega) (Ex.dms_pos l _ _ (by omega) (by omega))), Al.dms_max al (lev + 1) (Ex.dms l (lev + 1) (max 0 lev)) (by omega) (Ex.dms_pos l _ _ (by omega) (by omega)), Ex.dms_max l (lev + 1) (max 0 lev) (by omega) (by omega)]
    omega
theorem Ex.dms_max : ∀ (l : List Ex) (lev d : Int), 0 ≤ lev → 0 ≤ d → Ex.dms l lev d = max d (Ex.dms l lev 0)
  | [], lev, d, hl, hd => by unfold Ex.dms; omega
  | t :: r, lev, d, hl, hd => by
    unfold Ex.dms
    rw [Ex.dms_max r lev (t.dm lev d) hl (Ex.dm_pos t lev d hl hd), Ex.dm_max t lev d hl hd, Ex.dms_max r lev (t.dm lev 0) hl (Ex.dm_pos t lev 0 hl (by omega))]
    omega
theorem Al.dms_max : ∀ (l : List Al) (lev d : Int), 0 ≤ lev → 0 ≤ d → Al.dms l lev d = max d (Al.dms l lev 0)
  | [], lev, d, hl, hd => by unfold Al.dms; omega
  | .mk p e :: r, lev, d, hl, hd => by
    unfold Al.dms
    rw [Al.dms_max r lev (e.dm lev d) hl (Ex.dm_pos e lev d hl hd), Ex.dm_max e lev d hl hd, Al.dms_max r lev (e.dm lev 0) hl (Ex.dm_pos e lev 0 hl (by omega))]
    omega
theorem De.dms_max : ∀ (l : List De) (lev d : Int), 0 ≤ lev → 0 ≤ d → De.dms l lev d = max d (De.dms l lev 0)
  | [], lev, d, hl, hd => by unfold De.dms; omega
  | .mk k p n vs cs t ps e :: r, lev, d, hl, hd => by
    unfold De.dms
    by_cases hk : k = 3
    · simp only [if_pos hk]
      rw [De.dms_max r lev (e.dm lev d) hl (Ex.dm_pos e lev d hl hd), Ex.dm_max e lev d hl hd, De.dms_max r lev (e.dm lev 0) hl (Ex.dm_pos e lev 0 hl (by omega))]
      omega
    · simp only [if_neg hk]
      exact De.dms_max r lev d hl hd
theorem Ex.dm_pos : ∀ (t : Ex) (lev d : Int), 0 ≤ lev → 0 ≤ d → 0 ≤ t.dm lev d
  | .mk k p n m l ps al ds, lev, d, hl, hd => by
    unfold Ex.dm
    exact De.dms_pos ds _ _ (by omega) (Al.dms_pos al _ _ (by omega) (Ex.dms_pos l _ _ (by omega) (by omega)))
theorem Ex.dms_pos : ∀ (l : List Ex) (lev d : Int), 0 ≤ lev → 0 ≤ d → 0 ≤ Ex.dms l lev d
  | [], lev, d, hl, hd => by unfold Ex.dms; exact hd
  | t :: r, lev, d, hl, hd => by unfold Ex.dms; exact Ex.dms_pos r lev _ hl (Ex.dm_pos t lev d hl hd)
theorem Al.dms_pos : ∀ (l : List Al) (lev d : Int), 0 ≤ lev → 0 ≤ d → 0 ≤ Al.dms l lev d
  | [], lev, d, hl, hd => by unfold Al.dms; exact hd
  | .mk p e :: r, lev, d, hl, hd => by unfold Al.dms; exact Al.dms_pos r lev _ hl (Ex.dm_pos e lev d hl hd)
theorem De.dms_pos : ∀ (l : List De) (lev d : Int), 0 ≤ lev → 0 ≤ d → 0 ≤ De.dms l lev d
  | [], lev, d, hl, hd => by unfold De.dms; exact hd
  | .mk k p n vs cs t ps e :: r, lev, d, hl, hd => by
    unfold De.dms
    refine De.dms_pos r lev _ hl ?_
    by_cases hk : k = 3
    · rw [if_pos hk]; exact Ex.dm_pos e lev d hl hd
    · rw [if_neg hk]; exact hd
end
-- a tree is no deeper than it is great, and at least one deep
mutual
theorem Ex.dm_sz : ∀ (t : Ex) (lev d : Int), 0 ≤ lev → 0 ≤ d → t.dm lev d ≤ max d (lev + t.sz - 1) ∧ lev ≤ t.dm lev d ∧ d ≤ t.dm lev d
  | .mk k p n m l ps al ds, lev, d, hl, hd => by
    unfold Ex.dm Ex.sz
    have h1 := Ex.dms_sz l (lev + 1) (max d lev) (by omega) (by omega)
    have p1 := Ex.dms_pos l (lev + 1) (max d lev) (by omega) (by omega)
    have h2 := Al.dms_sz al (lev + 1) _ (by omega) p1
    have p2 := Al.dms_pos al (lev + 1) _ (by omega) p1
    have h3 := De.dms_sz ds (lev + 1) _ (by omega) p2
    push_cast
    omega
theorem Ex.dms_sz : ∀ (l : List Ex) (lev d : Int), 0 ≤ lev → 0 ≤ d → Ex.dms l lev d ≤ max d (lev + Ex.szs l - 1) ∧ d ≤ Ex.dms l lev d
  | [], lev, d, hl, hd => by unfold Ex.dms Ex.szs; omega
  | t :: r, lev, d, hl, hd => by
    unfold Ex.dms Ex.szs
    have h1 := Ex.dm_sz t lev d hl hd
    have h2 := Ex.dms_sz r lev (t.dm lev d) hl (Ex.dm_pos t lev d hl hd)
    push_cast
    omega
theorem Al.dms_sz : ∀ (l : List Al) (lev d : Int), 0 ≤ lev → 0 ≤ d → Al.dms l lev d ≤ max d (lev + Al.szs l - 1) ∧ d ≤ Al.dms l lev d
  | [], lev, d, hl, hd => by unfold Al.dms Al.szs; omega
  | .mk p e :: r, lev, d, hl, hd => by
    unfold Al.dms Al.szs
    have h1 := Ex.dm_sz e lev d hl hd
    have h2 := Al.dms_sz r lev (e.dm lev d) hl (Ex.dm_pos e lev d hl hd)
    push_cast
    omega
theorem De.dms_sz : ∀ (l : List De) (lev d : Int), 0 ≤ lev → 0 ≤ d → De.dms l lev d ≤ max d (lev + De.szs l - 1) ∧ d ≤ De.dms l lev d
  | [], lev, d, hl, hd => by unfold De.dms De.szs; omega
  | .mk k p n vs cs t ps e :: r, lev, d, hl, hd => by
    unfold De.dms De.szs
    by_cases hk : k = 3
    · simp only [if_pos hk]
      have h1 := Ex.dm_sz e lev d hl hd
      have h2 := De.dms_sz r lev (e.dm lev d) hl (Ex.dm_pos e lev d hl hd)
      push_cast
      omega
    · simp only [if_neg hk]
      have h2 := De.dms_sz r lev d hl hd
      push_cast
      omega
end
end Go.Proofs.YtkdhoelabomgkaaGreatDoor
