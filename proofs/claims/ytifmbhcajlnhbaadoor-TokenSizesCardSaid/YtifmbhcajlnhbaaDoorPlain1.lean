/-
  PLAIN WORDS OF LAYER 1 (glyph): a byte's class, its escape, as functions of numbers and lists of bytes. No walk here.
-/
import Derived.WalkKit
namespace Go.Proofs.YtifmbhcajlnhbaaDoor

/-- a byte's class -/
def cls (c : Int) : Int :=
  if c = 32 ∨ c = 9 ∨ c = 10 ∨ c = 13 then 1
  else if 48 ≤ c ∧ c ≤ 57 then 2
  else if (97 ≤ c ∧ c ≤ 122) ∨ c = 95 then 3
  else if 65 ≤ c ∧ c ≤ 90 then 4
  else if c = 43 ∨ c = 45 ∨ c = 42 ∨ c = 47 ∨ c = 37 ∨ c = 61 ∨ c = 60 ∨ c = 62 ∨ c = 124 ∨ c = 38 ∨ c = 58 ∨ c = 46 ∨ c = 92 ∨ c = 33 then 5
  else if c = 40 ∨ c = 41 ∨ c = 91 ∨ c = 93 ∨ c = 123 ∨ c = 125 ∨ c = 44 ∨ c = 59 then 6
  else if c = 39 ∨ c = 34 then 7
  else 0
end Go.Proofs.YtifmbhcajlnhbaaDoor
