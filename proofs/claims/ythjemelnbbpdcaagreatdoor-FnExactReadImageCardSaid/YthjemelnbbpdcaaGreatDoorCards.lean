/-
  DERIVED. GIVEN WITH THE SEED: THE CARDS: each row of YthjemelnbbpdcaaGreatDoorRows.lean that lists a variable, with what it lists TIED to the program's text (the seventh form; the later family's looks); each row that meets fmt, with fmt's text TOLD by the authors' own Lean function (tested against real Go, not proved from fmt's source: count such statements apart). THE CARD IS WHAT COUNTS. Prove the row's statement (the work); the ties are given (YthjemelnbbpdcaaGreatDoorTie.lean); close each card by the builder's one call (the guide's Derived/Test/ToyasCard.lean, 'card_holds'). Laid BY PROGRAM, IN A SANDBOX (cutbox-door.mjs). By AI agents, Wed Nov 11 2026. No macro, syntax, notation, axiom, sorry.
-/
import Derived.Test.YthjemelnbbpdcaaGreatDoorRows
import GoSem.ClaimSeven
namespace Go.Proofs.YthjemelnbbpdcaaGreatDoor
namespace Rows

/-- THE TIED CARD OF 'laws.FnImages'. -/
def fnImagesCard : Claim7 := { stood := { row := fnImagesRow, standIns := [], harness := (true, "410647ea7c7261a2b3f844cc60a34222e9539994ac4113c889e58317af2afad7"), looks := false }, kinds := [], alts := [], laidByText := true, laidKinds := [.data, .data, .data], laidTests := true, laidLooks := .later }
def FnImagesCardSaid : Prop := Claim7.holds Tryz.pinned (.plain (OpenSpec.ofChange fnImagesSpec)) fnImagesCard

/-- THE TIED CARD OF 'laws.FnExactReadImage'. -/
def fnExactReadImageCard : Claim7 := { stood := { row := fnExactReadImageRow, standIns := [], harness := (true, "410647ea7c7261a2b3f844cc60a34222e9539994ac4113c889e58317af2afad7"), looks := false }, kinds := [], alts := [], laidByText := true, laidKinds := [.data, .data, .data], laidTests := true, laidLooks := .later }
def FnExactReadImageCardSaid : Prop := Claim7.holds Tryz.pinned (.plain (OpenSpec.ofChange fnExactReadImageSpec)) fnExactReadImageCard

/-- THE SECOND FORM's CARD OF 'laws.FnImages'. -/
def fnImagesUptoCard : Claim7 := { stood := { row := fnImagesUptoRow, standIns := [], harness := (true, "410647ea7c7261a2b3f844cc60a34222e9539994ac4113c889e58317af2afad7"), looks := false }, kinds := [], alts := [], laidByText := true, laidKinds := [.data, .data, .data], laidTests := true, laidLooks := .later }
def FnImagesUptoCardSaid : Prop := Claim7.holds Tryz.pinned (.plain (OpenSpec.upto fnImagesSpec)) fnImagesUptoCard

/-- THE SECOND FORM's CARD OF 'laws.FnExactReadImage'. -/
def fnExactReadImageUptoCard : Claim7 := { stood := { row := fnExactReadImageUptoRow, standIns := [], harness := (true, "410647ea7c7261a2b3f844cc60a34222e9539994ac4113c889e58317af2afad7"), looks := false }, kinds := [], alts := [], laidByText := true, laidKinds := [.data, .data, .data], laidTests := true, laidLooks := .later }
def FnExactReadImageUptoCardSaid : Prop := Claim7.holds Tryz.pinned (.plain (OpenSpec.upto fnExactReadImageSpec)) fnExactReadImageUptoCard
end Rows
end Go.Proofs.YthjemelnbbpdcaaGreatDoor
