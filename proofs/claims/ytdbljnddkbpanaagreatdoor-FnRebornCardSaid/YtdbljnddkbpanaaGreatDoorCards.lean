/-
  DERIVED. GIVEN WITH THE SEED: THE CARDS: each row of YtdbljnddkbpanaaGreatDoorRows.lean that lists a variable, with what it lists TIED to the program's text (the seventh form; the later family's looks); each row that meets fmt, with fmt's text TOLD by the authors' own Lean function (tested against real Go, not proved from fmt's source: count such statements apart). THE CARD IS WHAT COUNTS. Prove the row's statement (the work); the ties are given (YtdbljnddkbpanaaGreatDoorTie.lean); close each card by the builder's one call (the guide's Derived/Test/ToyasCard.lean, 'card_holds'). Laid BY PROGRAM, IN A SANDBOX (cutbox-door.mjs). By AI agents, Wed Nov 11 2026. No macro, syntax, notation, axiom, sorry.
-/
import Derived.Test.YtdbljnddkbpanaaGreatDoorRows
import GoSem.ClaimSeven
namespace Go.Proofs.YtdbljnddkbpanaaGreatDoor
namespace Rows

/-- THE TIED CARD OF 'laws.FnReborn'. -/
def fnRebornCard : Claim7 := { stood := { row := fnRebornRow, standIns := [], harness := (true, "e482652dc82ad27b18a51c9399f562c3c63bd6e35a1c435a73beb530a22bc06b"), looks := true }, kinds := [], alts := [], laidByText := true, laidKinds := [.data, .data, .data, .handle, .sentinel, .sentinel, .sentinel, .sentinel, .sentinel, .sentinel, .sentinel, .sentinel], laidTests := true, laidLooks := .later }
def FnRebornCardSaid : Prop := Claim7.holds Tryz.pinned (.plain (OpenSpec.ofChange fnRebornSpec)) fnRebornCard

/-- THE SECOND FORM's CARD OF 'laws.FnReborn'. -/
def fnRebornUptoCard : Claim7 := { stood := { row := fnRebornUptoRow, standIns := [], harness := (true, "e482652dc82ad27b18a51c9399f562c3c63bd6e35a1c435a73beb530a22bc06b"), looks := true }, kinds := [], alts := [], laidByText := true, laidKinds := [.data, .data, .data, .handle, .sentinel, .sentinel, .sentinel, .sentinel, .sentinel, .sentinel, .sentinel, .sentinel], laidTests := true, laidLooks := .later }
def FnRebornUptoCardSaid : Prop := Claim7.holds Tryz.pinned (.plain (OpenSpec.upto fnRebornSpec)) fnRebornUptoCard
end Rows
end Go.Proofs.YtdbljnddkbpanaaGreatDoor
