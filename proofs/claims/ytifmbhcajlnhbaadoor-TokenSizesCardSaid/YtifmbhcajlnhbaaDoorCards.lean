/-
  DERIVED. GIVEN WITH THE SEED: THE CARDS: each row of YtifmbhcajlnhbaaDoorRows.lean that lists a variable, with what it lists TIED to the program's text (the seventh form; the later family's looks); each row that meets fmt, with fmt's text TOLD by the authors' own Lean function (tested against real Go, not proved from fmt's source: count such statements apart). THE CARD IS WHAT COUNTS. Prove the row's statement (the work); the ties are given (YtifmbhcajlnhbaaDoorTie.lean); close each card by the builder's one call (the guide's Derived/Test/ToyasCard.lean, 'card_holds'). Laid BY PROGRAM, IN A SANDBOX (cutbox-door.mjs). By AI agents, Wed Nov 11 2026. No macro, syntax, notation, axiom, sorry.
-/
import Derived.Test.YtifmbhcajlnhbaaDoorRows
import GoSem.ClaimSeven
namespace Go.Proofs.YtifmbhcajlnhbaaDoor
namespace Rows

/-- THE TIED CARD OF 'hammocklaw02.TokenSizes'. -/
def tokenSizesCard : Claim7 := { stood := { row := tokenSizesRow, standIns := [], harness := (true, "2d8b70ad0c15b78dd1e3ed353e564cee6abe0c94d96a73d1e2f83a9c192febe0"), looks := true }, kinds := [], alts := [], laidByText := true, laidKinds := [.data, .data, .data, .sentinel, .sentinel], laidTests := true, laidLooks := .later }
def TokenSizesCardSaid : Prop := Claim7.holds Tryd.pinned (.plain (OpenSpec.ofChange tokenSizesSpec)) tokenSizesCard

/-- THE TIED CARD OF 'hammocklaw02.TokenTexts'. -/
def tokenTextsCard : Claim7 := { stood := { row := tokenTextsRow, standIns := [], harness := (true, "2d8b70ad0c15b78dd1e3ed353e564cee6abe0c94d96a73d1e2f83a9c192febe0"), looks := true }, kinds := [], alts := [], laidByText := true, laidKinds := [.data, .data, .data, .sentinel, .sentinel], laidTests := true, laidLooks := .later }
def TokenTextsCardSaid : Prop := Claim7.holds Tryd.pinned (.plain (OpenSpec.ofChange tokenTextsSpec)) tokenTextsCard

/-- THE TIED CARD OF 'hammocklaw02.TokenBack'. -/
def tokenBackCard : Claim7 := { stood := { row := tokenBackRow, standIns := [], harness := (true, "2d8b70ad0c15b78dd1e3ed353e564cee6abe0c94d96a73d1e2f83a9c192febe0"), looks := true }, kinds := [], alts := [], laidByText := true, laidKinds := [.data, .data, .data, .sentinel, .sentinel], laidTests := true, laidLooks := .later }
def TokenBackCardSaid : Prop := Claim7.holds Tryd.pinned (.plain (OpenSpec.ofChange tokenBackSpec)) tokenBackCard

/-- THE SECOND FORM's CARD OF 'hammocklaw02.TokenSizes'. -/
def tokenSizesUptoCard : Claim7 := { stood := { row := tokenSizesUptoRow, standIns := [], harness := (true, "2d8b70ad0c15b78dd1e3ed353e564cee6abe0c94d96a73d1e2f83a9c192febe0"), looks := true }, kinds := [], alts := [], laidByText := true, laidKinds := [.data, .data, .data, .sentinel, .sentinel], laidTests := true, laidLooks := .later }
def TokenSizesUptoCardSaid : Prop := Claim7.holds Tryd.pinned (.plain (OpenSpec.upto tokenSizesSpec)) tokenSizesUptoCard

/-- THE SECOND FORM's CARD OF 'hammocklaw02.TokenTexts'. -/
def tokenTextsUptoCard : Claim7 := { stood := { row := tokenTextsUptoRow, standIns := [], harness := (true, "2d8b70ad0c15b78dd1e3ed353e564cee6abe0c94d96a73d1e2f83a9c192febe0"), looks := true }, kinds := [], alts := [], laidByText := true, laidKinds := [.data, .data, .data, .sentinel, .sentinel], laidTests := true, laidLooks := .later }
def TokenTextsUptoCardSaid : Prop := Claim7.holds Tryd.pinned (.plain (OpenSpec.upto tokenTextsSpec)) tokenTextsUptoCard

/-- THE SECOND FORM's CARD OF 'hammocklaw02.TokenBack'. -/
def tokenBackUptoCard : Claim7 := { stood := { row := tokenBackUptoRow, standIns := [], harness := (true, "2d8b70ad0c15b78dd1e3ed353e564cee6abe0c94d96a73d1e2f83a9c192febe0"), looks := true }, kinds := [], alts := [], laidByText := true, laidKinds := [.data, .data, .data, .sentinel, .sentinel], laidTests := true, laidLooks := .later }
def TokenBackUptoCardSaid : Prop := Claim7.holds Tryd.pinned (.plain (OpenSpec.upto tokenBackSpec)) tokenBackUptoCard
end Rows
end Go.Proofs.YtifmbhcajlnhbaaDoor
