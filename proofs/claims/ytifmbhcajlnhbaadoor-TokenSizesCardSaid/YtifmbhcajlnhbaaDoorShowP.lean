/-
  Layer 2: what a token is shown as, in plain words; tokens of any numbers in a row; the table of powers of ten. No walk.
-/
import Derived.Test.YtifmbhcajlnhbaaDoorPQuoted
import Derived.Lib.LaidTab
import Derived.Lib.ItoaMem
import Derived.Lib.ItoaLen
namespace Go.Proofs.YtifmbhcajlnhbaaDoor
set_option linter.unusedVariables false
open Go.RowKit

/-- the table of powers of ten is there -/
def PowOk (w : World) : Prop := Lib.TabIs Tryd.prog w "internal/strconv.uint64pow10" .u64 Lib.pow10Tab
theorem PowOk.below {B : Nat} {w w' : World} (h : PowOk w) (hb : Below B w w') (hB : w.heap.size ≤ B) : PowOk w' := by
  unfold PowOk Lib.TabIs World.var? at h ⊢
  obtain ⟨g, hg, h2⟩ := Option.bind_eq_some_iff.1 h
  rw [hg]
  simp only [Option.bind_some]
  have hlt : g < w.heap.size := by
    rcases Nat.lt_or_ge g w.heap.size with h' | h'
    · exact h'
    · simp [Array.getElem?_eq_none h'] at h2
  rw [hb.block g (by omega)]
  exact h2

/-- a token of any numbers -/
structure Tw where
  kind : Int
  at_ : Int
  fin : Int
  text : ByteArray
  n : Int
def Tk.tw (t : Tk) : Tw := ⟨t.kind, t.at_, t.fin, t.text, t.n⟩
def twV (t : Tw) : Value := .agg #[.int .i64 t.kind, .int .i64 t.at_, .int .i64 t.fin, .string t.text, .int .i64 t.n]
/-- its number fits -/
def Tw.fits (t : Tw) : Prop := -9223372036854775808 ≤ t.n ∧ t.n ≤ 9223372036854775807

/-- a Letter's text -/
def letS (t : ByteArray) : List Int := 39 :: ((if t.size = 1 then esc (atB t 0) 39 else []) ++ [39])
/-- what is shown -/
def showS (k : Int) (t : ByteArray) (n : Int) : ByteArray :=
  if k = 4 then strOfNums (letS t) else if k = 5 then strOfNums (quoAll t.data.toList) else if k = 3 then ⟨(Lib.itoa (max n 0)).toArray⟩ else if k = 9 then ⟨#[]⟩ else t
def Tw.shw (t : Tw) : List UInt8 := (showS t.kind t.text t.n).data.toList
/-- texts, a blank between two -/
def joinB (l : List (List UInt8)) : List UInt8 := (l.flatMap fun x => 32 :: x).drop 1
theorem joinB_one (x : List UInt8) : joinB [x] = x := by simp [joinB]
theorem joinB_snoc (l : List (List UInt8)) (x : List UInt8) (h : l ≠ []) : joinB (l ++ [x]) = joinB l ++ (32 :: x) := by
  unfold joinB
  rw [List.flatMap_append, List.drop_append_of_le_length]
  · simp
  · cases l with
    | nil => exact absurd rfl h
    | cons y r => simp
theorem nums_size (l : List Int) : (strOfNums l).size = l.length := by
  show (strOfNums l).data.size = _
  simp [strOfNums]
theorem showS_size (k : Int) (t : ByteArray) (n : Int) (h0 : -9223372036854775808 ≤ n) (h1 : n ≤ 9223372036854775807) : (showS k t n).size ≤ 4 * t.size + 30 := by
  unfold showS
  split
  · rw [nums_size]
    unfold letS
    have := esc_len (atB t 0) 39
    split
    · simp; omega
    · simp
  split
  · rw [nums_size]
    have := escAll_len t.data.toList
    have e : t.data.toList.length = t.size := Array.length_toList
    simp [quoAll]
    omega
  split
  · have := Lib.itoa_length_le (max n 0) (by omega) (by omega)
    show (Lib.itoa (max n 0)).toArray.size ≤ _
    simp
    omega
  split
  · show 0 ≤ _
    omega
  · omega
theorem joinB_len (M : Nat) : ∀ (l : List (List UInt8)), (∀ x ∈ l, x.length ≤ M) → (joinB l).length ≤ l.length * (M + 1) := by
  intro l h
  unfold joinB
  have : ∀ (l : List (List UInt8)), (∀ x ∈ l, x.length ≤ M) → (l.flatMap fun x => 32 :: x).length ≤ l.length * (M + 1) := by
    intro l
    induction l with
    | nil => intro _; simp
    | cons x r ih =>
      intro h
      have h1 := h x (by simp)
      have h2 := ih (fun y hy => h y (by simp [hy]))
      rw [List.flatMap_cons, List.length_append, List.length_cons, List.length_cons, Nat.add_mul, Nat.one_mul]
      omega
  have := this l h
  rw [List.length_drop]
  omega

/-- tokens' cells from an address on -/
def TwRows (w : World) (a : Addr) (l : List Tw) : Prop :=
  ∀ (i : Nat) (t : Tw), l[i]? = some t → w.cell? (a.add (i * 5)) = some (.int .i64 t.kind) ∧ w.cell? (a.add (i * 5 + 1)) = some (.int .i64 t.at_) ∧ w.cell? (a.add (i * 5 + 2)) = some (.int .i64 t.fin) ∧ w.cell? (a.add (i * 5 + 3)) = some (.string t.text) ∧ w.cell? (a.add (i * 5 + 4)) = some (.int .i64 t.n)
theorem add_block (a : Addr) (j : Nat) : (a.add j).block = a.block := by unfold Addr.add; split <;> rfl
theorem TwRows.below {B : Nat} {w w' : World} {a : Addr} {l : List Tw} (h : TwRows w a l) (hb : Below B w w') (hB : a.block < B) : TwRows w' a l := fun i t ht => by
  obtain ⟨h1, h2, h3, h4, h5⟩ := h i t ht
  refine ⟨(hb.cell ?_).trans h1, (hb.cell ?_).trans h2, (hb.cell ?_).trans h3, (hb.cell ?_).trans h4, (hb.cell ?_).trans h5⟩
  all_goals (rw [add_block]; exact hB)
end Go.Proofs.YtifmbhcajlnhbaaDoor
