/-
  DERIVED. GIVEN WITH THE SEED: THE CARDS: each row of YtfhkiaogfopigaaGreatDoorRows.lean that lists a variable, with what it lists TIED to the program's text (the seventh form; the later family's looks); each row that meets fmt, with fmt's text TOLD by the authors' own Lean function (tested against real Go, not proved from fmt's source: count such statements apart). THE CARD IS WHAT COUNTS. Prove the row's statement (the work); the ties are given (YtfhkiaogfopigaaGreatDoorTie.lean); close each card by the builder's one call (the guide's Derived/Test/ToyasCard.lean, 'card_holds'). Laid BY PROGRAM, IN A SANDBOX (cutbox-door.mjs). By AI agents, Wed Nov 11 2026. No macro, syntax, notation, axiom, sorry.
-/
import Derived.Test.YtfhkiaogfopigaaGreatDoorRows
import GoSem.ClaimSeven
namespace Go.Proofs.YtfhkiaogfopigaaGreatDoor
namespace Rows

/-- THE TIED CARD OF 'laws.FnExactShowImage'. -/
def fnExactShowImageCard : Claim7 := { stood := { row := fnExactShowImageRow, standIns := [], harness := (true, "9b7f67dbf5a656725ea1351e348513867f995f6ad522b67d4b45a20307b92c6b"), looks := false }, kinds := [], alts := [], laidByText := true, laidKinds := [.data, .data, .data], laidTests := true, laidLooks := .later }
def FnExactShowImageCardSaid : Prop := Claim7.holds Tryz.pinned (.plain (OpenSpec.ofChange fnExactShowImageSpec)) fnExactShowImageCard

/-- THE TIED CARD OF 'laws.FnExactReadImage'. -/
def fnExactReadImageCard : Claim7 := { stood := { row := fnExactReadImageRow, standIns := [], harness := (true, "9b7f67dbf5a656725ea1351e348513867f995f6ad522b67d4b45a20307b92c6b"), looks := false }, kinds := [], alts := [], laidByText := true, laidKinds := [.data, .data, .data], laidTests := true, laidLooks := .later }
def FnExactReadImageCardSaid : Prop := Claim7.holds Tryz.pinned (.plain (OpenSpec.ofChange fnExactReadImageSpec)) fnExactReadImageCard

/-- THE TIED CARD OF 'laws.FnExactShowObject'. -/
def fnExactShowObjectCard : Claim7 := { stood := { row := fnExactShowObjectRow, standIns := [], harness := (true, "9b7f67dbf5a656725ea1351e348513867f995f6ad522b67d4b45a20307b92c6b"), looks := false }, kinds := [], alts := [], laidByText := true, laidKinds := [.data, .data, .data], laidTests := true, laidLooks := .later }
def FnExactShowObjectCardSaid : Prop := Claim7.holds Tryz.pinned (.plain (OpenSpec.ofChange fnExactShowObjectSpec)) fnExactShowObjectCard

/-- THE TIED CARD OF 'laws.FnExactReadObject'. -/
def fnExactReadObjectCard : Claim7 := { stood := { row := fnExactReadObjectRow, standIns := [], harness := (true, "9b7f67dbf5a656725ea1351e348513867f995f6ad522b67d4b45a20307b92c6b"), looks := false }, kinds := [], alts := [], laidByText := true, laidKinds := [.data, .data, .data], laidTests := true, laidLooks := .later }
def FnExactReadObjectCardSaid : Prop := Claim7.holds Tryz.pinned (.plain (OpenSpec.ofChange fnExactReadObjectSpec)) fnExactReadObjectCard

/-- THE SECOND FORM's CARD OF 'laws.FnExactShowImage'. -/
def fnExactShowImageUptoCard : Claim7 := { stood := { row := fnExactShowImageUptoRow, standIns := [], harness := (true, "9b7f67dbf5a656725ea1351e348513867f995f6ad522b67d4b45a20307b92c6b"), looks := false }, kinds := [], alts := [], laidByText := true, laidKinds := [.data, .data, .data], laidTests := true, laidLooks := .later }
def FnExactShowImageUptoCardSaid : Prop := Claim7.holds Tryz.pinned (.plain (OpenSpec.upto fnExactShowImageSpec)) fnExactShowImageUptoCard

/-- THE SECOND FORM's CARD OF 'laws.FnExactReadImage'. -/
def fnExactReadImageUptoCard : Claim7 := { stood := { row := fnExactReadImageUptoRow, standIns := [], harness := (true, "9b7f67dbf5a656725ea1351e348513867f995f6ad522b67d4b45a20307b92c6b"), looks := false }, kinds := [], alts := [], laidByText := true, laidKinds := [.data, .data, .data], laidTests := true, laidLooks := .later }
def FnExactReadImageUptoCardSaid : Prop := Claim7.holds Tryz.pinned (.plain (OpenSpec.upto fnExactReadImageSpec)) fnExactReadImageUptoCard

/-- THE SECOND FORM's CARD OF 'laws.FnExactShowObject'. -/
def fnExactShowObjectUptoCard : Claim7 := { stood := { row := fnExactShowObjectUptoRow, standIns := [], harness := (true, "9b7f67dbf5a656725ea1351e348513867f995f6ad522b67d4b45a20307b92c6b"), looks := false }, kinds := [], alts := [], laidByText := true, laidKinds := [.data, .data, .data], laidTests := true, laidLooks := .later }
def FnExactShowObjectUptoCardSaid : Prop := Claim7.holds Tryz.pinned (.plain (OpenSpec.upto fnExactShowObjectSpec)) fnExactShowObjectUptoCard

/-- THE SECOND FORM's CARD OF 'laws.FnExactReadObject'. -/
def fnExactReadObjectUptoCard : Claim7 := { stood := { row := fnExactReadObjectUptoRow, standIns := [], harness := (true, "9b7f67dbf5a656725ea1351e348513867f995f6ad522b67d4b45a20307b92c6b"), looks := false }, kinds := [], alts := [], laidByText := true, laidKinds := [.data, .data, .data], laidTests := true, laidLooks := .later }
def FnExactReadObjectUptoCardSaid : Prop := Claim7.holds Tryz.pinned (.plain (OpenSpec.upto fnExactReadObjectSpec)) fnExactReadObjectUptoCard
end Rows
end Go.Proofs.YtfhkiaogfopigaaGreatDoor
