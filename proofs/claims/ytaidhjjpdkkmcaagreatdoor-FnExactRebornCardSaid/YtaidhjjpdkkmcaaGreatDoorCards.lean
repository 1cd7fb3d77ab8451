/-
  DERIVED. GIVEN WITH THE SEED: THE CARDS: each row of YtaidhjjpdkkmcaaGreatDoorRows.lean that lists a variable, with what it lists TIED to the program's text (the seventh form; the later family's looks); each row that meets fmt, with fmt's text TOLD by the authors' own Lean function (tested against real Go, not proved from fmt's source: count such statements apart). THE CARD IS WHAT COUNTS. Prove the row's statement (the work); the ties are given (YtaidhjjpdkkmcaaGreatDoorTie.lean); close each card by the builder's one call (the guide's Derived/Test/ToyasCard.lean, 'card_holds'). Laid BY PROGRAM, IN A SANDBOX (cutbox-door.mjs). By AI agents, Wed Nov 11 2026. No macro, syntax, notation, axiom, sorry.
-/
import Derived.Test.YtaidhjjpdkkmcaaGreatDoorRows
import GoSem.ClaimSeven
namespace Go.Proofs.YtaidhjjpdkkmcaaGreatDoor
namespace Rows

/-- THE TIED CARD OF 'laws.FnExactReborn'. -/
def fnExactRebornCard : Claim7 := { stood := { row := fnExactRebornRow, standIns := [], harness := (true, "124cdafd8dac4d08d6f33240851b416843df50f686d5384e0cb9f7f803bbb8b2"), looks := true }, kinds := [], alts := [], laidByText := true, laidKinds := [.data, .data, .data, .handle, .sentinel, .sentinel, .sentinel, .sentinel, .sentinel, .sentinel, .sentinel, .sentinel], laidTests := true, laidLooks := .later }
def FnExactRebornCardSaid : Prop := Claim7.holds Tryz.pinned (.plain (OpenSpec.ofChange fnExactRebornSpec)) fnExactRebornCard

/-- THE SECOND FORM's CARD OF 'laws.FnExactReborn'. -/
def fnExactRebornUptoCard : Claim7 := { stood := { row := fnExactRebornUptoRow, standIns := [], harness := (true, "124cdafd8dac4d08d6f33240851b416843df50f686d5384e0cb9f7f803bbb8b2"), looks := true }, kinds := [], alts := [], laidByText := true, laidKinds := [.data, .data, .data, .handle, .sentinel, .sentinel, .sentinel, .sentinel, .sentinel, .sentinel, .sentinel, .sentinel], laidTests := true, laidLooks := .later }
def FnExactRebornUptoCardSaid : Prop := Claim7.holds Tryz.pinned (.plain (OpenSpec.upto fnExactRebornSpec)) fnExactRebornUptoCard
end Rows
end Go.Proofs.YtaidhjjpdkkmcaaGreatDoor
