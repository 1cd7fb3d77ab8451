/-
  No cell of these rows narrows 'for every input' (looked for: loops, veiled, ifaces, maps, wideKeys, modest, calm, conditions, laid).
  DERIVED. THE GIVEN ROWS OF THIS SEAT. 5 by the template 'for every input the law returns true; each argument reads behind the call as it read before'; 0 by the template 'total and deterministic' (their statements: YtdjbcjmnegjndaaTotals.lean).
  GIVEN WITH THE SEED: the statements are not yours to turn. If you find one false, say at which input.
  Laid BY PROGRAM, IN A SANDBOX (cutbox-rows.mjs): the forced cells as the released guide's own fill.sh prints them over the translation 0cd81ccff06a8f7e… (all of the seat's roots in one cut). By AI agents, Wed Nov 11 2026. No macro, syntax, notation, axiom, sorry.
-/
import Derived.Test.YtdjbcjmnegjndaaChecked
import GoSem.Claim
import GoSem.ClaimJoined
import GoSem.ClaimMapViews
import Derived.JoinedTies
import Derived.KernelRfl
namespace Go.Proofs.Ytdjbcjmnegjndaa
/- THE CELL 'sum', in the pinned program and in every row, IS THE sha256 OF THE DUMP (.gsa) THAT YtdjbcjmnegjndaaProg.lean LOADS. Nothing in Lean hashes anything: it is a label: what it is worth is what the hold of that sum in a sandbox is worth. -/
noncomputable def Try.pinned : Pinned := { name := "ytdjbcjmnegjndaa", sum := "0cd81ccff06a8f7eeb6879da2c0e294e4ef84843be4f671d67bc0c2360f35a80", checked := Try.checked }
namespace Rows
def none {H : Type} : Left H := { results := [], args := [] }

/-- 'laws.FnFrames': WHATEVER THE INPUT: true; the input reads as it did. -/
def fnFramesSpec : ChangeSpec := { name := "fnFrames", fn := fun _ => fun
  | [d] => { results := [.lit (.bool true)], args := [d] }
  | _ => none }
def fnFramesRow : OpenClaim := { program := "ytdjbcjmnegjndaa", sum := "0cd81ccff06a8f7eeb6879da2c0e294e4ef84843be4f671d67bc0c2360f35a80", func := "loop.example/g00346/laws.FnFrames", spec := "fnFrames", inPlace := ["internal/bytealg.IndexByteString"], unfollowed := true, recurses := true, apart := false }
def FnFramesSaid : Prop := fnFramesRow.holds Try.pinned (OpenSpec.ofChange fnFramesSpec)

/-- ITS FALSE NEIGHBOUR: 'it returns false'. Refute it at one input. -/
def fnFramesWrong : ChangeSpec := { name := "fnFrames", fn := fun _ => fun
  | [d] => { results := [.lit (.bool false)], args := [d] }
  | _ => none }
def FnFramesWrongFalsely : Prop := fnFramesRow.holds Try.pinned (OpenSpec.ofChange fnFramesWrong)

/-- 'laws.FnTorn': WHATEVER THE INPUT: true; the input reads as it did. -/
def fnTornSpec : ChangeSpec := { name := "fnTorn", fn := fun _ => fun
  | [d] => { results := [.lit (.bool true)], args := [d] }
  | _ => none }
def fnTornRow : OpenClaim := { program := "ytdjbcjmnegjndaa", sum := "0cd81ccff06a8f7eeb6879da2c0e294e4ef84843be4f671d67bc0c2360f35a80", func := "loop.example/g00346/laws.FnTorn", spec := "fnTorn", inPlace := ["internal/bytealg.IndexByteString"], unfollowed := true, recurses := true, apart := false }
def FnTornSaid : Prop := fnTornRow.holds Try.pinned (OpenSpec.ofChange fnTornSpec)

/-- ITS FALSE NEIGHBOUR: 'it returns false'. Refute it at one input. -/
def fnTornWrong : ChangeSpec := { name := "fnTorn", fn := fun _ => fun
  | [d] => { results := [.lit (.bool false)], args := [d] }
  | _ => none }
def FnTornWrongFalsely : Prop := fnTornRow.holds Try.pinned (OpenSpec.ofChange fnTornWrong)

/-- 'laws.FnExactFramed': WHATEVER THE INPUT: true; the input reads as it did. -/
def fnExactFramedSpec : ChangeSpec := { name := "fnExactFramed", fn := fun _ => fun
  | [d] => { results := [.lit (.bool true)], args := [d] }
  | _ => none }
def fnExactFramedRow : OpenClaim := { program := "ytdjbcjmnegjndaa", sum := "0cd81ccff06a8f7eeb6879da2c0e294e4ef84843be4f671d67bc0c2360f35a80", func := "loop.example/g00346/laws.FnExactFramed", spec := "fnExactFramed", unfollowed := true, recurses := true, apart := false }
def FnExactFramedSaid : Prop := fnExactFramedRow.holds Try.pinned (OpenSpec.ofChange fnExactFramedSpec)

/-- ITS FALSE NEIGHBOUR: 'it returns false'. Refute it at one input. -/
def fnExactFramedWrong : ChangeSpec := { name := "fnExactFramed", fn := fun _ => fun
  | [d] => { results := [.lit (.bool false)], args := [d] }
  | _ => none }
def FnExactFramedWrongFalsely : Prop := fnExactFramedRow.holds Try.pinned (OpenSpec.ofChange fnExactFramedWrong)

/-- 'laws.FnExactUnframed': WHATEVER THE INPUT: true; the input reads as it did. -/
def fnExactUnframedSpec : ChangeSpec := { name := "fnExactUnframed", fn := fun _ => fun
  | [d] => { results := [.lit (.bool true)], args := [d] }
  | _ => none }
def fnExactUnframedRow : OpenClaim := { program := "ytdjbcjmnegjndaa", sum := "0cd81ccff06a8f7eeb6879da2c0e294e4ef84843be4f671d67bc0c2360f35a80", func := "loop.example/g00346/laws.FnExactUnframed", spec := "fnExactUnframed", inPlace := ["internal/bytealg.IndexByteString"], unfollowed := true, recurses := true, apart := false }
def FnExactUnframedSaid : Prop := fnExactUnframedRow.holds Try.pinned (OpenSpec.ofChange fnExactUnframedSpec)

/-- ITS FALSE NEIGHBOUR: 'it returns false'. Refute it at one input. -/
def fnExactUnframedWrong : ChangeSpec := { name := "fnExactUnframed", fn := fun _ => fun
  | [d] => { results := [.lit (.bool false)], args := [d] }
  | _ => none }
def FnExactUnframedWrongFalsely : Prop := fnExactUnframedRow.holds Try.pinned (OpenSpec.ofChange fnExactUnframedWrong)

/-- 'laws.FnExactFrames': WHATEVER THE INPUT: true; the input reads as it did. -/
def fnExactFramesSpec : ChangeSpec := { name := "fnExactFrames", fn := fun _ => fun
  | [d] => { results := [.lit (.bool true)], args := [d] }
  | _ => none }
def fnExactFramesRow : OpenClaim := { program := "ytdjbcjmnegjndaa", sum := "0cd81ccff06a8f7eeb6879da2c0e294e4ef84843be4f671d67bc0c2360f35a80", func := "loop.example/g00346/laws.FnExactFrames", spec := "fnExactFrames", inPlace := ["internal/bytealg.IndexByteString"], unfollowed := true, recurses := true, apart := false }
def FnExactFramesSaid : Prop := fnExactFramesRow.holds Try.pinned (OpenSpec.ofChange fnExactFramesSpec)

/-- ITS FALSE NEIGHBOUR: 'it returns false'. Refute it at one input. -/
def fnExactFramesWrong : ChangeSpec := { name := "fnExactFrames", fn := fun _ => fun
  | [d] => { results := [.lit (.bool false)], args := [d] }
  | _ => none }
def FnExactFramesWrongFalsely : Prop := fnExactFramesRow.holds Try.pinned (OpenSpec.ofChange fnExactFramesWrong)

/- THE SECOND FORM. 'bulk': how many values and letters a reading holds, each counted each time it is reached (what is shared counts as often as it is met; a slice's spare places count too). A statement '..UptoSaid' is the law's where the arguments, and the package variables that the reading takes, are together of bulk at most 1048576: NARROWER than '..Said'. Prove '..Said' where nothing that the law and all that it calls make is longer than what came in: it says more and counts as full. Else prove '..UptoSaid'. A law counts once. -/
mutual
def uptoBulk {H : Type} : DataW H → Nat
  | .lit (.string bytes) => bytes.length + 1
  | .lit _ => 1
  | .nil => 1
  | .ptr d => uptoBulk d + 1
  | .slice elems spare => uptoBulkAll elems + uptoBulkAll spare + 1
  | .agg parts => uptoBulkAll parts + 1
  | .iface _ d => uptoBulk d + 1
  | .map entries => uptoBulkEntries entries + 1
  | .held _ => 1
def uptoBulkAll {H : Type} : List (DataW H) → Nat
  | [] => 0
  | d :: r => uptoBulk d + uptoBulkAll r
def uptoBulkEntries {H : Type} : List (Lit × DataW H) → Nat
  | [] => 0
  | x :: r => uptoBulkEntry x + uptoBulkEntries r
def uptoBulkEntry {H : Type} : Lit × DataW H → Nat
  | (.string bytes, d) => bytes.length + uptoBulk d + 1
  | (_, d) => uptoBulk d + 1
 end
def uptoSmall : (H : Type) → List (DataW H) → Bool := fun _ ds => decide (uptoBulkAll ds ≤ 1048576)
def OpenSpec.upto (s : _root_.Go.ChangeSpec) : _root_.Go.OpenSpec := { _root_.Go.OpenSpec.ofChange s with cond := some uptoSmall }

/-- 'laws.FnFrames', WHERE WHAT IT READS IS OF BULK AT MOST 1048576: true; the input reads as it did. -/
def fnFramesUptoRow : OpenClaim := { program := "ytdjbcjmnegjndaa", sum := "0cd81ccff06a8f7eeb6879da2c0e294e4ef84843be4f671d67bc0c2360f35a80", func := "loop.example/g00346/laws.FnFrames", spec := "fnFrames", inPlace := ["internal/bytealg.IndexByteString"], unfollowed := true, recurses := true, apart := false, narrowed := true }
def FnFramesUptoSaid : Prop := fnFramesUptoRow.holds Try.pinned (OpenSpec.upto fnFramesSpec)

/-- 'laws.FnTorn', WHERE WHAT IT READS IS OF BULK AT MOST 1048576: true; the input reads as it did. -/
def fnTornUptoRow : OpenClaim := { program := "ytdjbcjmnegjndaa", sum := "0cd81ccff06a8f7eeb6879da2c0e294e4ef84843be4f671d67bc0c2360f35a80", func := "loop.example/g00346/laws.FnTorn", spec := "fnTorn", inPlace := ["internal/bytealg.IndexByteString"], unfollowed := true, recurses := true, apart := false, narrowed := true }
def FnTornUptoSaid : Prop := fnTornUptoRow.holds Try.pinned (OpenSpec.upto fnTornSpec)

/-- 'laws.FnExactFramed', WHERE WHAT IT READS IS OF BULK AT MOST 1048576: true; the input reads as it did. -/
def fnExactFramedUptoRow : OpenClaim := { program := "ytdjbcjmnegjndaa", sum := "0cd81ccff06a8f7eeb6879da2c0e294e4ef84843be4f671d67bc0c2360f35a80", func := "loop.example/g00346/laws.FnExactFramed", spec := "fnExactFramed", unfollowed := true, recurses := true, apart := false, narrowed := true }
def FnExactFramedUptoSaid : Prop := fnExactFramedUptoRow.holds Try.pinned (OpenSpec.upto fnExactFramedSpec)

/-- 'laws.FnExactUnframed', WHERE WHAT IT READS IS OF BULK AT MOST 1048576: true; the input reads as it did. -/
def fnExactUnframedUptoRow : OpenClaim := { program := "ytdjbcjmnegjndaa", sum := "0cd81ccff06a8f7eeb6879da2c0e294e4ef84843be4f671d67bc0c2360f35a80", func := "loop.example/g00346/laws.FnExactUnframed", spec := "fnExactUnframed", inPlace := ["internal/bytealg.IndexByteString"], unfollowed := true, recurses := true, apart := false, narrowed := true }
def FnExactUnframedUptoSaid : Prop := fnExactUnframedUptoRow.holds Try.pinned (OpenSpec.upto fnExactUnframedSpec)

/-- 'laws.FnExactFrames', WHERE WHAT IT READS IS OF BULK AT MOST 1048576: true; the input reads as it did. -/
def fnExactFramesUptoRow : OpenClaim := { program := "ytdjbcjmnegjndaa", sum := "0cd81ccff06a8f7eeb6879da2c0e294e4ef84843be4f671d67bc0c2360f35a80", func := "loop.example/g00346/laws.FnExactFrames", spec := "fnExactFrames", inPlace := ["internal/bytealg.IndexByteString"], unfollowed := true, recurses := true, apart := false, narrowed := true }
def FnExactFramesUptoSaid : Prop := fnExactFramesUptoRow.holds Try.pinned (OpenSpec.upto fnExactFramesSpec)

end Rows
end Go.Proofs.Ytdjbcjmnegjndaa
