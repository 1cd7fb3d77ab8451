/-
  No cell of these rows narrows 'for every input' (looked for: loops, veiled, ifaces, maps, wideKeys, modest, calm, conditions, laid).
  DERIVED. THE GIVEN ROWS OF THIS SEAT. 6 by the template 'for every input the law returns true; each argument reads behind the call as it read before'; 0 by the template 'total and deterministic' (their statements: YtnpbckgaeaameaaTotals.lean).
  GIVEN WITH THE SEED: the statements are not yours to turn. If you find one false, say at which input.
  Laid BY PROGRAM, IN A SANDBOX (cutbox-rows.mjs): the forced cells as the released guide's own fill.sh prints them over the translation 91f7f9eebb4095f2… (all of the seat's roots in one cut). By AI agents, Wed Nov 11 2026. No macro, syntax, notation, axiom, sorry.
-/
import Derived.Test.YtnpbckgaeaameaaChecked
import GoSem.Claim
import GoSem.ClaimJoined
import GoSem.ClaimMapViews
import Derived.JoinedTies
import Derived.KernelRfl
namespace Go.Proofs.Ytnpbckgaeaameaa
/- THE CELL 'sum', in the pinned program and in every row, IS THE sha256 OF THE DUMP (.gsa) THAT YtnpbckgaeaameaaProg.lean LOADS. Nothing in Lean hashes anything: it is a label: what it is worth is what the hold of that sum in a sandbox is worth. -/
noncomputable def Try.pinned : Pinned := { name := "ytnpbckgaeaameaa", sum := "91f7f9eebb4095f2ddefc5dbea25271a28efb1efc7de03af5429f163eadd64bd", checked := Try.checked }
namespace Rows
def none {H : Type} : Left H := { results := [], args := [] }

/-- 'laws.FnFirst': WHATEVER THE INPUT: true; the input reads as it did. -/
def fnFirstSpec : ChangeSpec := { name := "fnFirst", fn := fun _ => fun
  | [d] => { results := [.lit (.bool true)], args := [d] }
  | _ => none }
def fnFirstRow : OpenClaim := { program := "ytnpbckgaeaameaa", sum := "91f7f9eebb4095f2ddefc5dbea25271a28efb1efc7de03af5429f163eadd64bd", func := "loop.example/g00346/laws.FnFirst", spec := "fnFirst", unfollowed := true, recurses := true, apart := false }
def FnFirstSaid : Prop := fnFirstRow.holds Try.pinned (OpenSpec.ofChange fnFirstSpec)

/-- ITS FALSE NEIGHBOUR: 'it returns false'. Refute it at one input. -/
def fnFirstWrong : ChangeSpec := { name := "fnFirst", fn := fun _ => fun
  | [d] => { results := [.lit (.bool false)], args := [d] }
  | _ => none }
def FnFirstWrongFalsely : Prop := fnFirstRow.holds Try.pinned (OpenSpec.ofChange fnFirstWrong)

/-- 'laws.FnExactFirstPart': WHATEVER THE INPUT: true; the input reads as it did. -/
def fnExactFirstPartSpec : ChangeSpec := { name := "fnExactFirstPart", fn := fun _ => fun
  | [d1, d2] => { results := [.lit (.bool true)], args := [d1, d2] }
  | _ => none }
def fnExactFirstPartRow : OpenClaim := { program := "ytnpbckgaeaameaa", sum := "91f7f9eebb4095f2ddefc5dbea25271a28efb1efc7de03af5429f163eadd64bd", func := "loop.example/g00346/laws.FnExactFirstPart", spec := "fnExactFirstPart", unfollowed := true, recurses := true, apart := false }
def FnExactFirstPartSaid : Prop := fnExactFirstPartRow.holds Try.pinned (OpenSpec.ofChange fnExactFirstPartSpec)

/-- ITS FALSE NEIGHBOUR: 'it returns false'. Refute it at one input. -/
def fnExactFirstPartWrong : ChangeSpec := { name := "fnExactFirstPart", fn := fun _ => fun
  | [d1, d2] => { results := [.lit (.bool false)], args := [d1, d2] }
  | _ => none }
def FnExactFirstPartWrongFalsely : Prop := fnExactFirstPartRow.holds Try.pinned (OpenSpec.ofChange fnExactFirstPartWrong)

/-- 'laws.FnExactInsOk': WHATEVER THE INPUT: true; the input reads as it did. -/
def fnExactInsOkSpec : ChangeSpec := { name := "fnExactInsOk", fn := fun _ => fun
  | [d] => { results := [.lit (.bool true)], args := [d] }
  | _ => none }
def fnExactInsOkRow : OpenClaim := { program := "ytnpbckgaeaameaa", sum := "91f7f9eebb4095f2ddefc5dbea25271a28efb1efc7de03af5429f163eadd64bd", func := "loop.example/g00346/laws.FnExactInsOk", spec := "fnExactInsOk", inPlace := ["internal/bytealg.IndexByteString", "internal/bytealg.IndexString"], unfollowed := true, recurses := true, named := ["internal/bytealg.MaxLen"], apart := false }
def FnExactInsOkSaid : Prop := fnExactInsOkRow.holds Try.pinned (OpenSpec.ofChange fnExactInsOkSpec)

/-- ITS FALSE NEIGHBOUR: 'it returns false'. Refute it at one input. -/
def fnExactInsOkWrong : ChangeSpec := { name := "fnExactInsOk", fn := fun _ => fun
  | [d] => { results := [.lit (.bool false)], args := [d] }
  | _ => none }
def FnExactInsOkWrongFalsely : Prop := fnExactInsOkRow.holds Try.pinned (OpenSpec.ofChange fnExactInsOkWrong)

/-- 'laws.FnExactCodeOk': WHATEVER THE INPUT: true; the input reads as it did. -/
def fnExactCodeOkSpec : ChangeSpec := { name := "fnExactCodeOk", fn := fun _ => fun
  | [d] => { results := [.lit (.bool true)], args := [d] }
  | _ => none }
def fnExactCodeOkRow : OpenClaim := { program := "ytnpbckgaeaameaa", sum := "91f7f9eebb4095f2ddefc5dbea25271a28efb1efc7de03af5429f163eadd64bd", func := "loop.example/g00346/laws.FnExactCodeOk", spec := "fnExactCodeOk", inPlace := ["internal/bytealg.IndexByteString", "internal/bytealg.IndexString"], unfollowed := true, recurses := true, named := ["internal/bytealg.MaxLen"], apart := false }
def FnExactCodeOkSaid : Prop := fnExactCodeOkRow.holds Try.pinned (OpenSpec.ofChange fnExactCodeOkSpec)

/-- ITS FALSE NEIGHBOUR: 'it returns false'. Refute it at one input. -/
def fnExactCodeOkWrong : ChangeSpec := { name := "fnExactCodeOk", fn := fun _ => fun
  | [d] => { results := [.lit (.bool false)], args := [d] }
  | _ => none }
def FnExactCodeOkWrongFalsely : Prop := fnExactCodeOkRow.holds Try.pinned (OpenSpec.ofChange fnExactCodeOkWrong)

/-- 'laws.FnExactCompiled': WHATEVER THE INPUT: true; the input reads as it did. -/
def fnExactCompiledSpec : ChangeSpec := { name := "fnExactCompiled", fn := fun _ => fun
  | [d] => { results := [.lit (.bool true)], args := [d] }
  | _ => none }
def fnExactCompiledRow : OpenClaim := { program := "ytnpbckgaeaameaa", sum := "91f7f9eebb4095f2ddefc5dbea25271a28efb1efc7de03af5429f163eadd64bd", func := "loop.example/g00346/laws.FnExactCompiled", spec := "fnExactCompiled", unfollowed := true, recurses := true, apart := false }
def FnExactCompiledSaid : Prop := fnExactCompiledRow.holds Try.pinned (OpenSpec.ofChange fnExactCompiledSpec)

/-- ITS FALSE NEIGHBOUR: 'it returns false'. Refute it at one input. -/
def fnExactCompiledWrong : ChangeSpec := { name := "fnExactCompiled", fn := fun _ => fun
  | [d] => { results := [.lit (.bool false)], args := [d] }
  | _ => none }
def FnExactCompiledWrongFalsely : Prop := fnExactCompiledRow.holds Try.pinned (OpenSpec.ofChange fnExactCompiledWrong)

/-- 'laws.FnExactRegisters': WHATEVER THE INPUT: true; the input reads as it did. -/
def fnExactRegistersSpec : ChangeSpec := { name := "fnExactRegisters", fn := fun _ => fun
  | [d] => { results := [.lit (.bool true)], args := [d] }
  | _ => none }
def fnExactRegistersRow : OpenClaim := { program := "ytnpbckgaeaameaa", sum := "91f7f9eebb4095f2ddefc5dbea25271a28efb1efc7de03af5429f163eadd64bd", func := "loop.example/g00346/laws.FnExactRegisters", spec := "fnExactRegisters", inPlace := ["internal/bytealg.IndexByteString", "internal/bytealg.IndexString"], unfollowed := true, recurses := true, named := ["internal/bytealg.MaxLen"], apart := false }
def FnExactRegistersSaid : Prop := fnExactRegistersRow.holds Try.pinned (OpenSpec.ofChange fnExactRegistersSpec)

/-- ITS FALSE NEIGHBOUR: 'it returns false'. Refute it at one input. -/
def fnExactRegistersWrong : ChangeSpec := { name := "fnExactRegisters", fn := fun _ => fun
  | [d] => { results := [.lit (.bool false)], args := [d] }
  | _ => none }
def FnExactRegistersWrongFalsely : Prop := fnExactRegistersRow.holds Try.pinned (OpenSpec.ofChange fnExactRegistersWrong)

/- THE SECOND FORM. 'bulk': how many values and letters a reading holds, each counted each time it is reached (what is shared counts as often as it is met; a slice's spare places count too). A statement '..UptoSaid' is the law's where the arguments, and the package variables that the reading takes, are together of bulk at most 1048576: NARROWER than '..Said'. Prove '..Said' where nothing that the law and all that it calls make is longer than what came in: it says more and counts as full. Else prove '..UptoSaid'. A law counts once. -/
mutual
def uptoBulk {H : Type} : DataW H → Nat
  | .lit (.string bytes) => bytes.length + 1
  | .lit _ => 1
  | .nil => 1
  | .ptr d => uptoBulk d + 1
  | .slice elems spare => uptoBulkAll elems + uptoBulkAll spare + 1
  | .agg parts => uptoBulkAll parts + 1
  | .iface _ d => uptoBulk d + 1
  | .map entries => uptoBulkEntries entries + 1
  | .held _ => 1
def uptoBulkAll {H : Type} : List (DataW H) → Nat
  | [] => 0
  | d :: r => uptoBulk d + uptoBulkAll r
def uptoBulkEntries {H : Type} : List (Lit × DataW H) → Nat
  | [] => 0
  | x :: r => uptoBulkEntry x + uptoBulkEntries r
def uptoBulkEntry {H : Type} : Lit × DataW H → Nat
  | (.string bytes, d) => bytes.length + uptoBulk d + 1
  | (_, d) => uptoBulk d + 1
 end
def uptoSmall : (H : Type) → List (DataW H) → Bool := fun _ ds => decide (uptoBulkAll ds ≤ 1048576)
def OpenSpec.upto (s : _root_.Go.ChangeSpec) : _root_.Go.OpenSpec := { _root_.Go.OpenSpec.ofChange s with cond := some uptoSmall }

/-- 'laws.FnFirst', WHERE WHAT IT READS IS OF BULK AT MOST 1048576: true; the input reads as it did. -/
def fnFirstUptoRow : OpenClaim := { program := "ytnpbckgaeaameaa", sum := "91f7f9eebb4095f2ddefc5dbea25271a28efb1efc7de03af5429f163eadd64bd", func := "loop.example/g00346/laws.FnFirst", spec := "fnFirst", unfollowed := true, recurses := true, apart := false, narrowed := true }
def FnFirstUptoSaid : Prop := fnFirstUptoRow.holds Try.pinned (OpenSpec.upto fnFirstSpec)

/-- 'laws.FnExactFirstPart', WHERE WHAT IT READS IS OF BULK AT MOST 1048576: true; the input reads as it did. -/
def fnExactFirstPartUptoRow : OpenClaim := { program := "ytnpbckgaeaameaa", sum := "91f7f9eebb4095f2ddefc5dbea25271a28efb1efc7de03af5429f163eadd64bd", func := "loop.example/g00346/laws.FnExactFirstPart", spec := "fnExactFirstPart", unfollowed := true, recurses := true, apart := false, narrowed := true }
def FnExactFirstPartUptoSaid : Prop := fnExactFirstPartUptoRow.holds Try.pinned (OpenSpec.upto fnExactFirstPartSpec)

/-- 'laws.FnExactInsOk', WHERE WHAT IT READS IS OF BULK AT MOST 1048576: true; the input reads as it did. -/
def fnExactInsOkUptoRow : OpenClaim := { program := "ytnpbckgaeaameaa", sum := "91f7f9eebb4095f2ddefc5dbea25271a28efb1efc7de03af5429f163eadd64bd", func := "loop.example/g00346/laws.FnExactInsOk", spec := "fnExactInsOk", inPlace := ["internal/bytealg.IndexByteString", "internal/bytealg.IndexString"], unfollowed := true, recurses := true, named := ["internal/bytealg.MaxLen"], apart := false, narrowed := true }
def FnExactInsOkUptoSaid : Prop := fnExactInsOkUptoRow.holds Try.pinned (OpenSpec.upto fnExactInsOkSpec)

/-- 'laws.FnExactCodeOk', WHERE WHAT IT READS IS OF BULK AT MOST 1048576: true; the input reads as it did. -/
def fnExactCodeOkUptoRow : OpenClaim := { program := "ytnpbckgaeaameaa", sum := "91f7f9eebb4095f2ddefc5dbea25271a28efb1efc7de03af5429f163eadd64bd", func := "loop.example/g00346/laws.FnExactCodeOk", spec := "fnExactCodeOk", inPlace := ["internal/bytealg.IndexByteString", "internal/bytealg.IndexString"], unfollowed := true, recurses := true, named := ["internal/bytealg.MaxLen"], apart := false, narrowed := true }
def FnExactCodeOkUptoSaid : Prop := fnExactCodeOkUptoRow.holds Try.pinned (OpenSpec.upto fnExactCodeOkSpec)

/-- 'laws.FnExactCompiled', WHERE WHAT IT READS IS OF BULK AT MOST 1048576: true; the input reads as it did. -/
def fnExactCompiledUptoRow : OpenClaim := { program := "ytnpbckgaeaameaa", sum := "91f7f9eebb4095f2ddefc5dbea25271a28efb1efc7de03af5429f163eadd64bd", func := "loop.example/g00346/laws.FnExactCompiled", spec := "fnExactCompiled", unfollowed := true, recurses := true, apart := false, narrowed := true }
def FnExactCompiledUptoSaid : Prop := fnExactCompiledUptoRow.holds Try.pinned (OpenSpec.upto fnExactCompiledSpec)

/-- 'laws.FnExactRegisters', WHERE WHAT IT READS IS OF BULK AT MOST 1048576: true; the input reads as it did. -/
def fnExactRegistersUptoRow : OpenClaim := { program := "ytnpbckgaeaameaa", sum := "91f7f9eebb4095f2ddefc5dbea25271a28efb1efc7de03af5429f163eadd64bd", func := "loop.example/g00346/laws.FnExactRegisters", spec := "fnExactRegisters", inPlace := ["internal/bytealg.IndexByteString", "internal/bytealg.IndexString"], unfollowed := true, recurses := true, named := ["internal/bytealg.MaxLen"], apart := false, narrowed := true }
def FnExactRegistersUptoSaid : Prop := fnExactRegistersUptoRow.holds Try.pinned (OpenSpec.upto fnExactRegistersSpec)

end Rows
end Go.Proofs.Ytnpbckgaeaameaa
