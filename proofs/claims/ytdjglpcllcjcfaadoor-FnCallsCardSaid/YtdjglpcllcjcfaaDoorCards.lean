/-
  DERIVED. GIVEN WITH THE SEED: THE CARDS: each row of YtdjglpcllcjcfaaDoorRows.lean that lists a variable, with what it lists TIED to the program's text (the seventh form; the later family's looks); each row that meets fmt, with fmt's text TOLD by the authors' own Lean function (tested against real Go, not proved from fmt's source: count such statements apart). THE CARD IS WHAT COUNTS. Prove the row's statement (the work); the ties are given (YtdjglpcllcjcfaaDoorTie.lean); close each card by the builder's one call (the guide's Derived/Test/ToyasCard.lean, 'card_holds'). Laid BY PROGRAM, IN A SANDBOX (cutbox-door.mjs). By AI agents, Wed Nov 11 2026. No macro, syntax, notation, axiom, sorry.
-/
import Derived.Test.YtdjglpcllcjcfaaDoorRows
import GoSem.ClaimSeven
namespace Go.Proofs.YtdjglpcllcjcfaaDoor
namespace Rows

/-- THE TIED CARD OF 'laws.FnCalls'. -/
def fnCallsCard : Claim7 := { stood := { row := fnCallsRow, standIns := [], harness := (true, "676e4a09d8adbe98ab38bdcc30310c116f5e7bf3233a5543ce4a7fd73bbabad7"), looks := true }, kinds := [], alts := [], laidByText := true, laidKinds := [.sentinel, .sentinel, .sentinel, .sentinel], laidTests := true, laidLooks := .later }
def FnCallsCardSaid : Prop := Claim7.holds Tryd.pinned (.plain (OpenSpec.ofChange fnCallsSpec)) fnCallsCard

/-- THE TIED CARD OF 'laws.FnExactCallCode'. -/
def fnExactCallCodeCard : Claim7 := { stood := { row := fnExactCallCodeRow, standIns := [], harness := (true, "676e4a09d8adbe98ab38bdcc30310c116f5e7bf3233a5543ce4a7fd73bbabad7"), looks := true }, kinds := [], alts := [], laidByText := true, laidKinds := [.sentinel, .sentinel, .sentinel, .sentinel], laidTests := true, laidLooks := .later }
def FnExactCallCodeCardSaid : Prop := Claim7.holds Tryd.pinned (.plain (OpenSpec.ofChange fnExactCallCodeSpec)) fnExactCallCodeCard

/-- THE TIED CARD OF 'laws.FnExactExports'. -/
def fnExactExportsCard : Claim7 := { stood := { row := fnExactExportsRow, standIns := [], harness := (true, "676e4a09d8adbe98ab38bdcc30310c116f5e7bf3233a5543ce4a7fd73bbabad7"), looks := true }, kinds := [], alts := [], laidByText := true, laidKinds := [.data, .data, .data], laidTests := true, laidLooks := .later }
def FnExactExportsCardSaid : Prop := Claim7.holds Tryd.pinned (.plain (OpenSpec.ofChange fnExactExportsSpec)) fnExactExportsCard

/-- THE SECOND FORM's CARD OF 'laws.FnCalls'. -/
def fnCallsUptoCard : Claim7 := { stood := { row := fnCallsUptoRow, standIns := [], harness := (true, "676e4a09d8adbe98ab38bdcc30310c116f5e7bf3233a5543ce4a7fd73bbabad7"), looks := true }, kinds := [], alts := [], laidByText := true, laidKinds := [.sentinel, .sentinel, .sentinel, .sentinel], laidTests := true, laidLooks := .later }
def FnCallsUptoCardSaid : Prop := Claim7.holds Tryd.pinned (.plain (OpenSpec.upto fnCallsSpec)) fnCallsUptoCard

/-- THE SECOND FORM's CARD OF 'laws.FnExactCallCode'. -/
def fnExactCallCodeUptoCard : Claim7 := { stood := { row := fnExactCallCodeUptoRow, standIns := [], harness := (true, "676e4a09d8adbe98ab38bdcc30310c116f5e7bf3233a5543ce4a7fd73bbabad7"), looks := true }, kinds := [], alts := [], laidByText := true, laidKinds := [.sentinel, .sentinel, .sentinel, .sentinel], laidTests := true, laidLooks := .later }
def FnExactCallCodeUptoCardSaid : Prop := Claim7.holds Tryd.pinned (.plain (OpenSpec.upto fnExactCallCodeSpec)) fnExactCallCodeUptoCard

/-- THE SECOND FORM's CARD OF 'laws.FnExactExports'. -/
def fnExactExportsUptoCard : Claim7 := { stood := { row := fnExactExportsUptoRow, standIns := [], harness := (true, "676e4a09d8adbe98ab38bdcc30310c116f5e7bf3233a5543ce4a7fd73bbabad7"), looks := true }, kinds := [], alts := [], laidByText := true, laidKinds := [.data, .data, .data], laidTests := true, laidLooks := .later }
def FnExactExportsUptoCardSaid : Prop := Claim7.holds Tryd.pinned (.plain (OpenSpec.upto fnExactExportsSpec)) fnExactExportsUptoCard
end Rows
end Go.Proofs.YtdjglpcllcjcfaaDoor
