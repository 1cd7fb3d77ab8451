/-
  DERIVED. GIVEN WITH THE SEED: THE CARDS: each row of YthjemelnbbpdcaaDoorRows.lean that lists a variable, with what it lists TIED to the program's text (the seventh form; the later family's looks); each row that meets fmt, with fmt's text TOLD by the authors' own Lean function (tested against real Go, not proved from fmt's source: count such statements apart). THE CARD IS WHAT COUNTS. Prove the row's statement (the work); the ties are given (YthjemelnbbpdcaaDoorTie.lean); close each card by the builder's one call (the guide's Derived/Test/ToyasCard.lean, 'card_holds'). Laid BY PROGRAM, IN A SANDBOX (cutbox-door.mjs). By AI agents, Wed Nov 11 2026. No macro, syntax, notation, axiom, sorry.
-/
import Derived.Test.YthjemelnbbpdcaaDoorRows
import GoSem.ClaimSeven
namespace Go.Proofs.YthjemelnbbpdcaaDoor
namespace Rows

/-- THE TIED CARD OF 'laws.FnExactShowImage'. -/
def fnExactShowImageCard : Claim7 := { stood := { row := fnExactShowImageRow, standIns := [], harness := (true, "5544b33b7c4799bdc1ad4d5db98b7e02969cb94a35f18041ccdad31320f277d2"), looks := false }, kinds := [], alts := [], laidByText := true, laidKinds := [.data, .data, .data], laidTests := true, laidLooks := .later }
def FnExactShowImageCardSaid : Prop := Claim7.holds Tryd.pinned (.plain (OpenSpec.ofChange fnExactShowImageSpec)) fnExactShowImageCard

/-- THE SECOND FORM's CARD OF 'laws.FnExactShowImage'. -/
def fnExactShowImageUptoCard : Claim7 := { stood := { row := fnExactShowImageUptoRow, standIns := [], harness := (true, "5544b33b7c4799bdc1ad4d5db98b7e02969cb94a35f18041ccdad31320f277d2"), looks := false }, kinds := [], alts := [], laidByText := true, laidKinds := [.data, .data, .data], laidTests := true, laidLooks := .later }
def FnExactShowImageUptoCardSaid : Prop := Claim7.holds Tryd.pinned (.plain (OpenSpec.upto fnExactShowImageSpec)) fnExactShowImageUptoCard
end Rows
end Go.Proofs.YthjemelnbbpdcaaDoor
