/-
  DERIVED. GIVEN WITH THE SEED: THE CARDS: each row of YtiekcenknniniaaGreatDoorRows.lean that lists a variable, with what it lists TIED to the program's text (the seventh form; the later family's looks); each row that meets fmt, with fmt's text TOLD by the authors' own Lean function (tested against real Go, not proved from fmt's source: count such statements apart). THE CARD IS WHAT COUNTS. Prove the row's statement (the work); the ties are given (YtiekcenknniniaaGreatDoorTie.lean); close each card by the builder's one call (the guide's Derived/Test/ToyasCard.lean, 'card_holds'). Laid BY PROGRAM, IN A SANDBOX (cutbox-door.mjs). By AI agents, Wed Nov 11 2026. No macro, syntax, notation, axiom, sorry.
-/
import Derived.Test.YtiekcenknniniaaGreatDoorRows
import GoSem.ClaimSeven
namespace Go.Proofs.YtiekcenknniniaaGreatDoor
namespace Rows

/-- THE TIED CARD OF 'laws.FnExactShowObject'. -/
def fnExactShowObjectCard : Claim7 := { stood := { row := fnExactShowObjectRow, standIns := [], harness := (true, "4424c4b0940cca16c7d3f8b1cd5d39b1e311153726f3044a7467b5b99f2b3337"), looks := true }, kinds := [], alts := [], laidByText := true, laidKinds := [.data, .data, .data], laidTests := true, laidLooks := .later }
def FnExactShowObjectCardSaid : Prop := Claim7.holds Tryz.pinned (.plain (OpenSpec.ofChange fnExactShowObjectSpec)) fnExactShowObjectCard

/-- THE TIED CARD OF 'laws.FnExactReadObject'. -/
def fnExactReadObjectCard : Claim7 := { stood := { row := fnExactReadObjectRow, standIns := [], harness := (true, "4424c4b0940cca16c7d3f8b1cd5d39b1e311153726f3044a7467b5b99f2b3337"), looks := true }, kinds := [], alts := [], laidByText := true, laidKinds := [.data, .data, .data], laidTests := true, laidLooks := .later }
def FnExactReadObjectCardSaid : Prop := Claim7.holds Tryz.pinned (.plain (OpenSpec.ofChange fnExactReadObjectSpec)) fnExactReadObjectCard

/-- THE TIED CARD OF 'laws.FnExactShowImage'. -/
def fnExactShowImageCard : Claim7 := { stood := { row := fnExactShowImageRow, standIns := [], harness := (true, "4424c4b0940cca16c7d3f8b1cd5d39b1e311153726f3044a7467b5b99f2b3337"), looks := true }, kinds := [], alts := [], laidByText := true, laidKinds := [.data, .data, .data], laidTests := true, laidLooks := .later }
def FnExactShowImageCardSaid : Prop := Claim7.holds Tryz.pinned (.plain (OpenSpec.ofChange fnExactShowImageSpec)) fnExactShowImageCard

/-- THE TIED CARD OF 'laws.FnExactReadImage'. -/
def fnExactReadImageCard : Claim7 := { stood := { row := fnExactReadImageRow, standIns := [], harness := (true, "4424c4b0940cca16c7d3f8b1cd5d39b1e311153726f3044a7467b5b99f2b3337"), looks := true }, kinds := [], alts := [], laidByText := true, laidKinds := [.data, .data, .data], laidTests := true, laidLooks := .later }
def FnExactReadImageCardSaid : Prop := Claim7.holds Tryz.pinned (.plain (OpenSpec.ofChange fnExactReadImageSpec)) fnExactReadImageCard

/-- THE TIED CARD OF 'laws.FnExactReadPackage'. -/
def fnExactReadPackageCard : Claim7 := { stood := { row := fnExactReadPackageRow, standIns := [], harness := (true, "4424c4b0940cca16c7d3f8b1cd5d39b1e311153726f3044a7467b5b99f2b3337"), looks := true }, kinds := [], alts := [], laidByText := true, laidKinds := [.data, .data, .data], laidTests := true, laidLooks := .later }
def FnExactReadPackageCardSaid : Prop := Claim7.holds Tryz.pinned (.plain (OpenSpec.ofChange fnExactReadPackageSpec)) fnExactReadPackageCard

/-- THE SECOND FORM's CARD OF 'laws.FnExactShowObject'. -/
def fnExactShowObjectUptoCard : Claim7 := { stood := { row := fnExactShowObjectUptoRow, standIns := [], harness := (true, "4424c4b0940cca16c7d3f8b1cd5d39b1e311153726f3044a7467b5b99f2b3337"), looks := true }, kinds := [], alts := [], laidByText := true, laidKinds := [.data, .data, .data], laidTests := true, laidLooks := .later }
def FnExactShowObjectUptoCardSaid : Prop := Claim7.holds Tryz.pinned (.plain (OpenSpec.upto fnExactShowObjectSpec)) fnExactShowObjectUptoCard

/-- THE SECOND FORM's CARD OF 'laws.FnExactReadObject'. -/
def fnExactReadObjectUptoCard : Claim7 := { stood := { row := fnExactReadObjectUptoRow, standIns := [], harness := (true, "4424c4b0940cca16c7d3f8b1cd5d39b1e311153726f3044a7467b5b99f2b3337"), looks := true }, kinds := [], alts := [], laidByText := true, laidKinds := [.data, .data, .data], laidTests := true, laidLooks := .later }
def FnExactReadObjectUptoCardSaid : Prop := Claim7.holds Tryz.pinned (.plain (OpenSpec.upto fnExactReadObjectSpec)) fnExactReadObjectUptoCard

/-- THE SECOND FORM's CARD OF 'laws.FnExactShowImage'. -/
def fnExactShowImageUptoCard : Claim7 := { stood := { row := fnExactShowImageUptoRow, standIns := [], harness := (true, "4424c4b0940cca16c7d3f8b1cd5d39b1e311153726f3044a7467b5b99f2b3337"), looks := true }, kinds := [], alts := [], laidByText := true, laidKinds := [.data, .data, .data], laidTests := true, laidLooks := .later }
def FnExactShowImageUptoCardSaid : Prop := Claim7.holds Tryz.pinned (.plain (OpenSpec.upto fnExactShowImageSpec)) fnExactShowImageUptoCard

/-- THE SECOND FORM's CARD OF 'laws.FnExactReadImage'. -/
def fnExactReadImageUptoCard : Claim7 := { stood := { row := fnExactReadImageUptoRow, standIns := [], harness := (true, "4424c4b0940cca16c7d3f8b1cd5d39b1e311153726f3044a7467b5b99f2b3337"), looks := true }, kinds := [], alts := [], laidByText := true, laidKinds := [.data, .data, .data], laidTests := true, laidLooks := .later }
def FnExactReadImageUptoCardSaid : Prop := Claim7.holds Tryz.pinned (.plain (OpenSpec.upto fnExactReadImageSpec)) fnExactReadImageUptoCard

/-- THE SECOND FORM's CARD OF 'laws.FnExactReadPackage'. -/
def fnExactReadPackageUptoCard : Claim7 := { stood := { row := fnExactReadPackageUptoRow, standIns := [], harness := (true, "4424c4b0940cca16c7d3f8b1cd5d39b1e311153726f3044a7467b5b99f2b3337"), looks := true }, kinds := [], alts := [], laidByText := true, laidKinds := [.data, .data, .data], laidTests := true, laidLooks := .later }
def FnExactReadPackageUptoCardSaid : Prop := Claim7.holds Tryz.pinned (.plain (OpenSpec.upto fnExactReadPackageSpec)) fnExactReadPackageUptoCard
end Rows
end Go.Proofs.YtiekcenknniniaaGreatDoor
