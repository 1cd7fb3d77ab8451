/-
  No cell of these rows narrows 'for every input' (looked for: loops, veiled, ifaces, maps, wideKeys, modest, calm, conditions, laid).
  DERIVED. THE GIVEN ROWS OF THIS SEAT. 5 by the template 'for every input the law returns true; each argument reads behind the call as it read before'; 0 by the template 'total and deterministic' (their statements: YtmkafobjfehakagTotals.lean).
  GIVEN WITH THE SEED: the statements are not yours to turn. If you find one false, say at which input.
  Laid BY PROGRAM, IN A SANDBOX (cutbox-rows.mjs): the forced cells as the released guide's own fill.sh prints them over the translation 0bfc87171a8969b7… (all of the seat's roots in one cut). By AI agents, Wed Nov 11 2026. No macro, syntax, notation, axiom, sorry.
-/
import Derived.Test.YtmkafobjfehakagChecked
import GoSem.Claim
import GoSem.ClaimJoined
import GoSem.ClaimMapViews
import Derived.JoinedTies
import Derived.KernelRfl
namespace Go.Proofs.Ytmkafobjfehakag
/- THE CELL 'sum', in the pinned program and in every row, IS THE sha256 OF THE DUMP (.gsa) THAT YtmkafobjfehakagProg.lean LOADS. Nothing in Lean hashes anything: it is a label: what it is worth is what the hold of that sum in a sandbox is worth. -/
noncomputable def Try.pinned : Pinned := { name := "ytmkafobjfehakag", sum := "0bfc87171a8969b790e46781707288a3d7d37f3fff9494c00b8daba9ff77b944", checked := Try.checked }
namespace Rows
def none {H : Type} : Left H := { results := [], args := [] }

/-- 'laws.FnExactHash': WHATEVER THE INPUT: true; the input reads as it did. -/
def fnExactHashSpec : ChangeSpec := { name := "fnExactHash", fn := fun _ => fun
  | [d] => { results := [.lit (.bool true)], args := [d] }
  | _ => none }
def fnExactHashRow : OpenClaim := { program := "ytmkafobjfehakag", sum := "0bfc87171a8969b790e46781707288a3d7d37f3fff9494c00b8daba9ff77b944", func := "loop.example/g00346/laws.FnExactHash", spec := "fnExactHash", unfollowed := true, recurses := true, apart := false }
def FnExactHashSaid : Prop := fnExactHashRow.holds Try.pinned (OpenSpec.ofChange fnExactHashSpec)

/-- ITS FALSE NEIGHBOUR: 'it returns false'. Refute it at one input. -/
def fnExactHashWrong : ChangeSpec := { name := "fnExactHash", fn := fun _ => fun
  | [d] => { results := [.lit (.bool false)], args := [d] }
  | _ => none }
def FnExactHashWrongFalsely : Prop := fnExactHashRow.holds Try.pinned (OpenSpec.ofChange fnExactHashWrong)

/-- 'laws.FnExactHexOf': WHATEVER THE INPUT: true; the input reads as it did. -/
def fnExactHexOfSpec : ChangeSpec := { name := "fnExactHexOf", fn := fun _ => fun
  | [d] => { results := [.lit (.bool true)], args := [d] }
  | _ => none }
def fnExactHexOfRow : OpenClaim := { program := "ytmkafobjfehakag", sum := "0bfc87171a8969b790e46781707288a3d7d37f3fff9494c00b8daba9ff77b944", func := "loop.example/g00346/laws.FnExactHexOf", spec := "fnExactHexOf", unfollowed := true, recurses := true, apart := false }
def FnExactHexOfSaid : Prop := fnExactHexOfRow.holds Try.pinned (OpenSpec.ofChange fnExactHexOfSpec)

/-- ITS FALSE NEIGHBOUR: 'it returns false'. Refute it at one input. -/
def fnExactHexOfWrong : ChangeSpec := { name := "fnExactHexOf", fn := fun _ => fun
  | [d] => { results := [.lit (.bool false)], args := [d] }
  | _ => none }
def FnExactHexOfWrongFalsely : Prop := fnExactHexOfRow.holds Try.pinned (OpenSpec.ofChange fnExactHexOfWrong)

/-- 'laws.FnExactFromHex': WHATEVER THE INPUT: true; the input reads as it did. -/
def fnExactFromHexSpec : ChangeSpec := { name := "fnExactFromHex", fn := fun _ => fun
  | [d] => { results := [.lit (.bool true)], args := [d] }
  | _ => none }
def fnExactFromHexRow : OpenClaim := { program := "ytmkafobjfehakag", sum := "0bfc87171a8969b790e46781707288a3d7d37f3fff9494c00b8daba9ff77b944", func := "loop.example/g00346/laws.FnExactFromHex", spec := "fnExactFromHex", inPlace := ["internal/bytealg.IndexByteString"], unfollowed := true, recurses := true, apart := false }
def FnExactFromHexSaid : Prop := fnExactFromHexRow.holds Try.pinned (OpenSpec.ofChange fnExactFromHexSpec)

/-- ITS FALSE NEIGHBOUR: 'it returns false'. Refute it at one input. -/
def fnExactFromHexWrong : ChangeSpec := { name := "fnExactFromHex", fn := fun _ => fun
  | [d] => { results := [.lit (.bool false)], args := [d] }
  | _ => none }
def FnExactFromHexWrongFalsely : Prop := fnExactFromHexRow.holds Try.pinned (OpenSpec.ofChange fnExactFromHexWrong)

/-- 'laws.FnExactTurned': WHATEVER THE INPUT: true; the input reads as it did. -/
def fnExactTurnedSpec : ChangeSpec := { name := "fnExactTurned", fn := fun _ => fun
  | [d1, d2, d3] => { results := [.lit (.bool true)], args := [d1, d2, d3] }
  | _ => none }
def fnExactTurnedRow : OpenClaim := { program := "ytmkafobjfehakag", sum := "0bfc87171a8969b790e46781707288a3d7d37f3fff9494c00b8daba9ff77b944", func := "loop.example/g00346/laws.FnExactTurned", spec := "fnExactTurned", apart := false }
def FnExactTurnedSaid : Prop := fnExactTurnedRow.holds Try.pinned (OpenSpec.ofChange fnExactTurnedSpec)

/-- ITS FALSE NEIGHBOUR: 'it returns false'. Refute it at one input. -/
def fnExactTurnedWrong : ChangeSpec := { name := "fnExactTurned", fn := fun _ => fun
  | [d1, d2, d3] => { results := [.lit (.bool false)], args := [d1, d2, d3] }
  | _ => none }
def FnExactTurnedWrongFalsely : Prop := fnExactTurnedRow.holds Try.pinned (OpenSpec.ofChange fnExactTurnedWrong)

/-- 'laws.FnExactUnframed': WHATEVER THE INPUT: true; the input reads as it did. -/
def fnExactUnframedSpec : ChangeSpec := { name := "fnExactUnframed", fn := fun _ => fun
  | [d] => { results := [.lit (.bool true)], args := [d] }
  | _ => none }
def fnExactUnframedRow : OpenClaim := { program := "ytmkafobjfehakag", sum := "0bfc87171a8969b790e46781707288a3d7d37f3fff9494c00b8daba9ff77b944", func := "loop.example/g00346/laws.FnExactUnframed", spec := "fnExactUnframed", apart := false }
def FnExactUnframedSaid : Prop := fnExactUnframedRow.holds Try.pinned (OpenSpec.ofChange fnExactUnframedSpec)

/-- ITS FALSE NEIGHBOUR: 'it returns false'. Refute it at one input. -/
def fnExactUnframedWrong : ChangeSpec := { name := "fnExactUnframed", fn := fun _ => fun
  | [d] => { results := [.lit (.bool false)], args := [d] }
  | _ => none }
def FnExactUnframedWrongFalsely : Prop := fnExactUnframedRow.holds Try.pinned (OpenSpec.ofChange fnExactUnframedWrong)

/- THE SECOND FORM. 'bulk': how many values and letters a reading holds, each counted each time it is reached (what is shared counts as often as it is met; a slice's spare places count too). A statement '..UptoSaid' is the law's where the arguments, and the package variables that the reading takes, are together of bulk at most 1048576: NARROWER than '..Said'. Prove '..Said' where nothing that the law and all that it calls make is longer than what came in: it says more and counts as full. Else prove '..UptoSaid'. A law counts once. -/
mutual
def uptoBulk {H : Type} : DataW H → Nat
  | .lit (.string bytes) => bytes.length + 1
  | .lit _ => 1
  | .nil => 1
  | .ptr d => uptoBulk d + 1
  | .slice elems spare => uptoBulkAll elems + uptoBulkAll spare + 1
  | .agg parts => uptoBulkAll parts + 1
  | .iface _ d => uptoBulk d + 1
  | .map entries => uptoBulkEntries entries + 1
  | .held _ => 1
def uptoBulkAll {H : Type} : List (DataW H) → Nat
  | [] => 0
  | d :: r => uptoBulk d + uptoBulkAll r
def uptoBulkEntries {H : Type} : List (Lit × DataW H) → Nat
  | [] => 0
  | x :: r => uptoBulkEntry x + uptoBulkEntries r
def uptoBulkEntry {H : Type} : Lit × DataW H → Nat
  | (.string bytes, d) => bytes.length + uptoBulk d + 1
  | (_, d) => uptoBulk d + 1
 end
def uptoSmall : (H : Type) → List (DataW H) → Bool := fun _ ds => decide (uptoBulkAll ds ≤ 1048576)
def OpenSpec.upto (s : _root_.Go.ChangeSpec) : _root_.Go.OpenSpec := { _root_.Go.OpenSpec.ofChange s with cond := some uptoSmall }

/-- 'laws.FnExactHash', WHERE WHAT IT READS IS OF BULK AT MOST 1048576: true; the input reads as it did. -/
def fnExactHashUptoRow : OpenClaim := { program := "ytmkafobjfehakag", sum := "0bfc87171a8969b790e46781707288a3d7d37f3fff9494c00b8daba9ff77b944", func := "loop.example/g00346/laws.FnExactHash", spec := "fnExactHash", unfollowed := true, recurses := true, apart := false, narrowed := true }
def FnExactHashUptoSaid : Prop := fnExactHashUptoRow.holds Try.pinned (OpenSpec.upto fnExactHashSpec)

/-- 'laws.FnExactHexOf', WHERE WHAT IT READS IS OF BULK AT MOST 1048576: true; the input reads as it did. -/
def fnExactHexOfUptoRow : OpenClaim := { program := "ytmkafobjfehakag", sum := "0bfc87171a8969b790e46781707288a3d7d37f3fff9494c00b8daba9ff77b944", func := "loop.example/g00346/laws.FnExactHexOf", spec := "fnExactHexOf", unfollowed := true, recurses := true, apart := false, narrowed := true }
def FnExactHexOfUptoSaid : Prop := fnExactHexOfUptoRow.holds Try.pinned (OpenSpec.upto fnExactHexOfSpec)

/-- 'laws.FnExactFromHex', WHERE WHAT IT READS IS OF BULK AT MOST 1048576: true; the input reads as it did. -/
def fnExactFromHexUptoRow : OpenClaim := { program := "ytmkafobjfehakag", sum := "0bfc87171a8969b790e46781707288a3d7d37f3fff9494c00b8daba9ff77b944", func := "loop.example/g00346/laws.FnExactFromHex", spec := "fnExactFromHex", inPlace := ["internal/bytealg.IndexByteString"], unfollowed := true, recurses := true, apart := false, narrowed := true }
def FnExactFromHexUptoSaid : Prop := fnExactFromHexUptoRow.holds Try.pinned (OpenSpec.upto fnExactFromHexSpec)

/-- 'laws.FnExactTurned', WHERE WHAT IT READS IS OF BULK AT MOST 1048576: true; the input reads as it did. -/
def fnExactTurnedUptoRow : OpenClaim := { program := "ytmkafobjfehakag", sum := "0bfc87171a8969b790e46781707288a3d7d37f3fff9494c00b8daba9ff77b944", func := "loop.example/g00346/laws.FnExactTurned", spec := "fnExactTurned", apart := false, narrowed := true }
def FnExactTurnedUptoSaid : Prop := fnExactTurnedUptoRow.holds Try.pinned (OpenSpec.upto fnExactTurnedSpec)

/-- 'laws.FnExactUnframed', WHERE WHAT IT READS IS OF BULK AT MOST 1048576: true; the input reads as it did. -/
def fnExactUnframedUptoRow : OpenClaim := { program := "ytmkafobjfehakag", sum := "0bfc87171a8969b790e46781707288a3d7d37f3fff9494c00b8daba9ff77b944", func := "loop.example/g00346/laws.FnExactUnframed", spec := "fnExactUnframed", apart := false, narrowed := true }
def FnExactUnframedUptoSaid : Prop := fnExactUnframedUptoRow.holds Try.pinned (OpenSpec.upto fnExactUnframedSpec)

end Rows
end Go.Proofs.Ytmkafobjfehakag
