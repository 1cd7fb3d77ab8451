/-
  DERIVED. GIVEN WITH THE SEED: THE CARDS: each row of YtibppdepgoiojaaGreatDoorRows.lean that lists a variable, with what it lists TIED to the program's text (the seventh form; the later family's looks); each row that meets fmt, with fmt's text TOLD by the authors' own Lean function (tested against real Go, not proved from fmt's source: count such statements apart). THE CARD IS WHAT COUNTS. Prove the row's statement (the work); the ties are given (YtibppdepgoiojaaGreatDoorTie.lean); close each card by the builder's one call (the guide's Derived/Test/ToyasCard.lean, 'card_holds'). Laid BY PROGRAM, IN A SANDBOX (cutbox-door.mjs). By AI agents, Wed Nov 11 2026. No macro, syntax, notation, axiom, sorry.
-/
import Derived.Test.YtibppdepgoiojaaGreatDoorRows
import GoSem.ClaimSeven
namespace Go.Proofs.YtibppdepgoiojaaGreatDoor
namespace Rows

/-- THE TIED CARD OF 'laws.FnPackages'. -/
def fnPackagesCard : Claim7 := { stood := { row := fnPackagesRow, standIns := [], harness := (true, "3fc74241686d7a05b4ad6dcc357fcb1cdcc9ddbcd403d8f16ad6fe0be9eadca4"), looks := true }, kinds := [], alts := [], laidByText := true, laidKinds := [.data, .data, .data], laidTests := true, laidLooks := .later }
def FnPackagesCardSaid : Prop := Claim7.holds Tryz.pinned (.plain (OpenSpec.ofChange fnPackagesSpec)) fnPackagesCard

/-- THE SECOND FORM's CARD OF 'laws.FnPackages'. -/
def fnPackagesUptoCard : Claim7 := { stood := { row := fnPackagesUptoRow, standIns := [], harness := (true, "3fc74241686d7a05b4ad6dcc357fcb1cdcc9ddbcd403d8f16ad6fe0be9eadca4"), looks := true }, kinds := [], alts := [], laidByText := true, laidKinds := [.data, .data, .data], laidTests := true, laidLooks := .later }
def FnPackagesUptoCardSaid : Prop := Claim7.holds Tryz.pinned (.plain (OpenSpec.upto fnPackagesSpec)) fnPackagesUptoCard
end Rows
end Go.Proofs.YtibppdepgoiojaaGreatDoor
