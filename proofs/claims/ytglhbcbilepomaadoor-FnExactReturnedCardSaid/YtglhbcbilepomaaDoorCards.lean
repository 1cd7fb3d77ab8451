/-
  DERIVED. GIVEN WITH THE SEED: THE CARDS: each row of YtglhbcbilepomaaDoorRows.lean that lists a variable, with what it lists TIED to the program's text (the seventh form; the later family's looks); each row that meets fmt, with fmt's text TOLD by the authors' own Lean function (tested against real Go, not proved from fmt's source: count such statements apart). THE CARD IS WHAT COUNTS. Prove the row's statement (the work); the ties are given (YtglhbcbilepomaaDoorTie.lean); close each card by the builder's one call (the guide's Derived/Test/ToyasCard.lean, 'card_holds'). Laid BY PROGRAM, IN A SANDBOX (cutbox-door.mjs). By AI agents, Wed Nov 11 2026. No macro, syntax, notation, axiom, sorry.
-/
import Derived.Test.YtglhbcbilepomaaDoorRows
import GoSem.ClaimSeven
namespace Go.Proofs.YtglhbcbilepomaaDoor
namespace Rows

/-- THE TIED CARD OF 'laws.FnExactReturned'. -/
def fnExactReturnedCard : Claim7 := { stood := { row := fnExactReturnedRow, standIns := [], harness := (true, "01898cb1304540518474a9bf7fa9eac1a71e7d49c682f057a2b0b0bfe313235f"), looks := false }, kinds := [], alts := [], laidByText := true, laidKinds := [.data, .data, .data], laidTests := true, laidLooks := .later }
def FnExactReturnedCardSaid : Prop := Claim7.holds Tryd.pinned (.plain (OpenSpec.ofChange fnExactReturnedSpec)) fnExactReturnedCard

/-- THE SECOND FORM's CARD OF 'laws.FnExactReturned'. -/
def fnExactReturnedUptoCard : Claim7 := { stood := { row := fnExactReturnedUptoRow, standIns := [], harness := (true, "01898cb1304540518474a9bf7fa9eac1a71e7d49c682f057a2b0b0bfe313235f"), looks := false }, kinds := [], alts := [], laidByText := true, laidKinds := [.data, .data, .data], laidTests := true, laidLooks := .later }
def FnExactReturnedUptoCardSaid : Prop := Claim7.holds Tryd.pinned (.plain (OpenSpec.upto fnExactReturnedSpec)) fnExactReturnedUptoCard
end Rows
end Go.Proofs.YtglhbcbilepomaaDoor
