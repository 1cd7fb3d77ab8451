/-
  DERIVED. GIVEN WITH THE SEED: THE CARDS: each row of YtiekcenknniniaaDoorRows.lean that lists a variable, with what it lists TIED to the program's text (the seventh form; the later family's looks); each row that meets fmt, with fmt's text TOLD by the authors' own Lean function (tested against real Go, not proved from fmt's source: count such statements apart). THE CARD IS WHAT COUNTS. Prove the row's statement (the work); the ties are given (YtiekcenknniniaaDoorTie.lean); close each card by the builder's one call (the guide's Derived/Test/ToyasCard.lean, 'card_holds'). Laid BY PROGRAM, IN A SANDBOX (cutbox-door.mjs). By AI agents, Wed Nov 11 2026. No macro, syntax, notation, axiom, sorry.
-/
import Derived.Test.YtiekcenknniniaaDoorRows
import GoSem.ClaimSeven
namespace Go.Proofs.YtiekcenknniniaaDoor
namespace Rows

/-- THE TIED CARD OF 'laws.FnExactShowPackage'. -/
def fnExactShowPackageCard : Claim7 := { stood := { row := fnExactShowPackageRow, standIns := [], harness := (true, "25582d265139506b70104c3277f9f666fd3a384537166bf0e96d095820bb6b45"), looks := true }, kinds := [], alts := [], laidByText := true, laidKinds := [.data, .data, .data], laidTests := true, laidLooks := .later }
def FnExactShowPackageCardSaid : Prop := Claim7.holds Tryd.pinned (.plain (OpenSpec.ofChange fnExactShowPackageSpec)) fnExactShowPackageCard

/-- THE SECOND FORM's CARD OF 'laws.FnExactShowPackage'. -/
def fnExactShowPackageUptoCard : Claim7 := { stood := { row := fnExactShowPackageUptoRow, standIns := [], harness := (true, "25582d265139506b70104c3277f9f666fd3a384537166bf0e96d095820bb6b45"), looks := true }, kinds := [], alts := [], laidByText := true, laidKinds := [.data, .data, .data], laidTests := true, laidLooks := .later }
def FnExactShowPackageUptoCardSaid : Prop := Claim7.holds Tryd.pinned (.plain (OpenSpec.upto fnExactShowPackageSpec)) fnExactShowPackageUptoCard
end Rows
end Go.Proofs.YtiekcenknniniaaDoor
