/-
  DERIVED. GIVEN WITH THE SEED: THE CARDS: each row of YtmloocbbcnhooaaGreatDoorRows.lean that lists a variable, with what it lists TIED to the program's text (the seventh form; the later family's looks); each row that meets fmt, with fmt's text TOLD by the authors' own Lean function (tested against real Go, not proved from fmt's source: count such statements apart). THE CARD IS WHAT COUNTS. Prove the row's statement (the work); the ties are given (YtmloocbbcnhooaaGreatDoorTie.lean); close each card by the builder's one call (the guide's Derived/Test/ToyasCard.lean, 'card_holds'). Laid BY PROGRAM, IN A SANDBOX (cutbox-door.mjs). By AI agents, Wed Nov 11 2026. No macro, syntax, notation, axiom, sorry.
-/
import Derived.Test.YtmloocbbcnhooaaGreatDoorRows
import GoSem.ClaimSeven
namespace Go.Proofs.YtmloocbbcnhooaaGreatDoor
namespace Rows

/-- THE TIED CARD OF 'laws.FnMeans'. -/
def fnMeansCard : Claim7 := { stood := { row := fnMeansRow, standIns := [], harness := (true, "d5c2e7f061c3caec8a0c64696ec198e10ba8bbdff7aa6ba684c55d00b6d3030c"), looks := true }, kinds := [], alts := [], laidByText := true, laidKinds := [.handle, .sentinel, .sentinel, .sentinel, .sentinel, .sentinel, .sentinel, .sentinel, .sentinel], laidTests := true, laidLooks := .later }
def FnMeansCardSaid : Prop := Claim7.holds Tryz.pinned (.plain (OpenSpec.ofChange fnMeansSpec)) fnMeansCard

/-- THE TIED CARD OF 'laws.FnOnlyReached'. -/
def fnOnlyReachedCard : Claim7 := { stood := { row := fnOnlyReachedRow, standIns := [], harness := (true, "d5c2e7f061c3caec8a0c64696ec198e10ba8bbdff7aa6ba684c55d00b6d3030c"), looks := true }, kinds := [], alts := [], laidByText := true, laidKinds := [.handle, .sentinel, .sentinel, .sentinel, .sentinel, .sentinel, .sentinel, .sentinel, .sentinel], laidTests := true, laidLooks := .later }
def FnOnlyReachedCardSaid : Prop := Claim7.holds Tryz.pinned (.plain (OpenSpec.ofChange fnOnlyReachedSpec)) fnOnlyReachedCard

/-- THE TIED CARD OF 'laws.FnExactMeant'. -/
def fnExactMeantCard : Claim7 := { stood := { row := fnExactMeantRow, standIns := [], harness := (true, "d5c2e7f061c3caec8a0c64696ec198e10ba8bbdff7aa6ba684c55d00b6d3030c"), looks := true }, kinds := [], alts := [], laidByText := true, laidKinds := [.handle, .sentinel, .sentinel, .sentinel, .sentinel, .sentinel, .sentinel, .sentinel, .sentinel], laidTests := true, laidLooks := .later }
def FnExactMeantCardSaid : Prop := Claim7.holds Tryz.pinned (.plain (OpenSpec.ofChange fnExactMeantSpec)) fnExactMeantCard

/-- THE TIED CARD OF 'laws.FnExactBurnt'. -/
def fnExactBurntCard : Claim7 := { stood := { row := fnExactBurntRow, standIns := [], harness := (true, "d5c2e7f061c3caec8a0c64696ec198e10ba8bbdff7aa6ba684c55d00b6d3030c"), looks := true }, kinds := [], alts := [], laidByText := true, laidKinds := [.handle, .sentinel, .sentinel, .sentinel, .sentinel, .sentinel, .sentinel, .sentinel, .sentinel], laidTests := true, laidLooks := .later }
def FnExactBurntCardSaid : Prop := Claim7.holds Tryz.pinned (.plain (OpenSpec.ofChange fnExactBurntSpec)) fnExactBurntCard

/-- THE SECOND FORM's CARD OF 'laws.FnMeans'. -/
def fnMeansUptoCard : Claim7 := { stood := { row := fnMeansUptoRow, standIns := [], harness := (true, "d5c2e7f061c3caec8a0c64696ec198e10ba8bbdff7aa6ba684c55d00b6d3030c"), looks := true }, kinds := [], alts := [], laidByText := true, laidKinds := [.handle, .sentinel, .sentinel, .sentinel, .sentinel, .sentinel, .sentinel, .sentinel, .sentinel], laidTests := true, laidLooks := .later }
def FnMeansUptoCardSaid : Prop := Claim7.holds Tryz.pinned (.plain (OpenSpec.upto fnMeansSpec)) fnMeansUptoCard

/-- THE SECOND FORM's CARD OF 'laws.FnOnlyReached'. -/
def fnOnlyReachedUptoCard : Claim7 := { stood := { row := fnOnlyReachedUptoRow, standIns := [], harness := (true, "d5c2e7f061c3caec8a0c64696ec198e10ba8bbdff7aa6ba684c55d00b6d3030c"), looks := true }, kinds := [], alts := [], laidByText := true, laidKinds := [.handle, .sentinel, .sentinel, .sentinel, .sentinel, .sentinel, .sentinel, .sentinel, .sentinel], laidTests := true, laidLooks := .later }
def FnOnlyReachedUptoCardSaid : Prop := Claim7.holds Tryz.pinned (.plain (OpenSpec.upto fnOnlyReachedSpec)) fnOnlyReachedUptoCard

/-- THE SECOND FORM's CARD OF 'laws.FnExactMeant'. -/
def fnExactMeantUptoCard : Claim7 := { stood := { row := fnExactMeantUptoRow, standIns := [], harness := (true, "d5c2e7f061c3caec8a0c64696ec198e10ba8bbdff7aa6ba684c55d00b6d3030c"), looks := true }, kinds := [], alts := [], laidByText := true, laidKinds := [.handle, .sentinel, .sentinel, .sentinel, .sentinel, .sentinel, .sentinel, .sentinel, .sentinel], laidTests := true, laidLooks := .later }
def FnExactMeantUptoCardSaid : Prop := Claim7.holds Tryz.pinned (.plain (OpenSpec.upto fnExactMeantSpec)) fnExactMeantUptoCard

/-- THE SECOND FORM's CARD OF 'laws.FnExactBurnt'. -/
def fnExactBurntUptoCard : Claim7 := { stood := { row := fnExactBurntUptoRow, standIns := [], harness := (true, "d5c2e7f061c3caec8a0c64696ec198e10ba8bbdff7aa6ba684c55d00b6d3030c"), looks := true }, kinds := [], alts := [], laidByText := true, laidKinds := [.handle, .sentinel, .sentinel, .sentinel, .sentinel, .sentinel, .sentinel, .sentinel, .sentinel], laidTests := true, laidLooks := .later }
def FnExactBurntUptoCardSaid : Prop := Claim7.holds Tryz.pinned (.plain (OpenSpec.upto fnExactBurntSpec)) fnExactBurntUptoCard
end Rows
end Go.Proofs.YtmloocbbcnhooaaGreatDoor
