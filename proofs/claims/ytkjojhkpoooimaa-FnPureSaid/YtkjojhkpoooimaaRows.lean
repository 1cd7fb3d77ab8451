/-
  No cell of these rows narrows 'for every input' (looked for: loops, veiled, ifaces, maps, wideKeys, modest, calm, conditions, laid).
  DERIVED. THE GIVEN ROWS OF THIS SEAT. 4 by the template 'for every input the law returns true; each argument reads behind the call as it read before'; 0 by the template 'total and deterministic' (their statements: YtkjojhkpoooimaaTotals.lean).
  GIVEN WITH THE SEED: the statements are not yours to turn. If you find one false, say at which input.
  Laid BY PROGRAM, IN A SANDBOX (cutbox-rows.mjs): the forced cells as the released guide's own fill.sh prints them over the translation b9cf2516bd485543… (all of the seat's roots in one cut). By AI agents, Wed Nov 11 2026. No macro, syntax, notation, axiom, sorry.
-/
import Derived.Test.YtkjojhkpoooimaaChecked
import GoSem.Claim
import GoSem.ClaimJoined
import GoSem.ClaimMapViews
import Derived.JoinedTies
import Derived.KernelRfl
namespace Go.Proofs.Ytkjojhkpoooimaa
/- THE CELL 'sum', in the pinned program and in every row, IS THE sha256 OF THE DUMP (.gsa) THAT YtkjojhkpoooimaaProg.lean LOADS. Nothing in Lean hashes anything: it is a label: what it is worth is what the hold of that sum in a sandbox is worth. -/
noncomputable def Try.pinned : Pinned := { name := "ytkjojhkpoooimaa", sum := "b9cf2516bd485543e779e20c9c2b78d03f6299d5a01f232700e965a0356cbb1a", checked := Try.checked }
namespace Rows
def none {H : Type} : Left H := { results := [], args := [] }

/-- 'laws.FnPure': WHATEVER THE INPUT: true; the input reads as it did. -/
def fnPureSpec : ChangeSpec := { name := "fnPure", fn := fun _ => fun
  | [d] => { results := [.lit (.bool true)], args := [d] }
  | _ => none }
def fnPureRow : OpenClaim := { program := "ytkjojhkpoooimaa", sum := "b9cf2516bd485543e779e20c9c2b78d03f6299d5a01f232700e965a0356cbb1a", func := "loop.example/g00346/laws.FnPure", spec := "fnPure", unfollowed := true, recurses := true, apart := false }
def FnPureSaid : Prop := fnPureRow.holds Try.pinned (OpenSpec.ofChange fnPureSpec)

/-- ITS FALSE NEIGHBOUR: 'it returns false'. Refute it at one input. -/
def fnPureWrong : ChangeSpec := { name := "fnPure", fn := fun _ => fun
  | [d] => { results := [.lit (.bool false)], args := [d] }
  | _ => none }
def FnPureWrongFalsely : Prop := fnPureRow.holds Try.pinned (OpenSpec.ofChange fnPureWrong)

/-- 'laws.FnExactFoldedTree': WHATEVER THE INPUT: true; the input reads as it did. -/
def fnExactFoldedTreeSpec : ChangeSpec := { name := "fnExactFoldedTree", fn := fun _ => fun
  | [d] => { results := [.lit (.bool true)], args := [d] }
  | _ => none }
def fnExactFoldedTreeRow : OpenClaim := { program := "ytkjojhkpoooimaa", sum := "b9cf2516bd485543e779e20c9c2b78d03f6299d5a01f232700e965a0356cbb1a", func := "loop.example/g00346/laws.FnExactFoldedTree", spec := "fnExactFoldedTree", unfollowed := true, recurses := true, apart := false }
def FnExactFoldedTreeSaid : Prop := fnExactFoldedTreeRow.holds Try.pinned (OpenSpec.ofChange fnExactFoldedTreeSpec)

/-- ITS FALSE NEIGHBOUR: 'it returns false'. Refute it at one input. -/
def fnExactFoldedTreeWrong : ChangeSpec := { name := "fnExactFoldedTree", fn := fun _ => fun
  | [d] => { results := [.lit (.bool false)], args := [d] }
  | _ => none }
def FnExactFoldedTreeWrongFalsely : Prop := fnExactFoldedTreeRow.holds Try.pinned (OpenSpec.ofChange fnExactFoldedTreeWrong)

/-- 'laws.FnExactFoldedPackage': WHATEVER THE INPUT: true; the input reads as it did. -/
def fnExactFoldedPackageSpec : ChangeSpec := { name := "fnExactFoldedPackage", fn := fun _ => fun
  | [d] => { results := [.lit (.bool true)], args := [d] }
  | _ => none }
def fnExactFoldedPackageRow : OpenClaim := { program := "ytkjojhkpoooimaa", sum := "b9cf2516bd485543e779e20c9c2b78d03f6299d5a01f232700e965a0356cbb1a", func := "loop.example/g00346/laws.FnExactFoldedPackage", spec := "fnExactFoldedPackage", unfollowed := true, recurses := true, apart := false }
def FnExactFoldedPackageSaid : Prop := fnExactFoldedPackageRow.holds Try.pinned (OpenSpec.ofChange fnExactFoldedPackageSpec)

/-- ITS FALSE NEIGHBOUR: 'it returns false'. Refute it at one input. -/
def fnExactFoldedPackageWrong : ChangeSpec := { name := "fnExactFoldedPackage", fn := fun _ => fun
  | [d] => { results := [.lit (.bool false)], args := [d] }
  | _ => none }
def FnExactFoldedPackageWrongFalsely : Prop := fnExactFoldedPackageRow.holds Try.pinned (OpenSpec.ofChange fnExactFoldedPackageWrong)

/-- 'laws.FnExactPure': WHATEVER THE INPUT: true; the input reads as it did. -/
def fnExactPureSpec : ChangeSpec := { name := "fnExactPure", fn := fun _ => fun
  | [d] => { results := [.lit (.bool true)], args := [d] }
  | _ => none }
def fnExactPureRow : OpenClaim := { program := "ytkjojhkpoooimaa", sum := "b9cf2516bd485543e779e20c9c2b78d03f6299d5a01f232700e965a0356cbb1a", func := "loop.example/g00346/laws.FnExactPure", spec := "fnExactPure", unfollowed := true, recurses := true, apart := false }
def FnExactPureSaid : Prop := fnExactPureRow.holds Try.pinned (OpenSpec.ofChange fnExactPureSpec)

/-- ITS FALSE NEIGHBOUR: 'it returns false'. Refute it at one input. -/
def fnExactPureWrong : ChangeSpec := { name := "fnExactPure", fn := fun _ => fun
  | [d] => { results := [.lit (.bool false)], args := [d] }
  | _ => none }
def FnExactPureWrongFalsely : Prop := fnExactPureRow.holds Try.pinned (OpenSpec.ofChange fnExactPureWrong)

/- THE SECOND FORM. 'bulk': how many values and letters a reading holds, each counted each time it is reached (what is shared counts as often as it is met; a slice's spare places count too). A statement '..UptoSaid' is the law's where the arguments, and the package variables that the reading takes, are together of bulk at most 1048576: NARROWER than '..Said'. Prove '..Said' where nothing that the law and all that it calls make is longer than what came in: it says more and counts as full. Else prove '..UptoSaid'. A law counts once. -/
mutual
def uptoBulk {H : Type} : DataW H → Nat
  | .lit (.string bytes) => bytes.length + 1
  | .lit _ => 1
  | .nil => 1
  | .ptr d => uptoBulk d + 1
  | .slice elems spare => uptoBulkAll elems + uptoBulkAll spare + 1
  | .agg parts => uptoBulkAll parts + 1
  | .iface _ d => uptoBulk d + 1
  | .map entries => uptoBulkEntries entries + 1
  | .held _ => 1
def uptoBulkAll {H : Type} : List (DataW H) → Nat
  | [] => 0
  | d :: r => uptoBulk d + uptoBulkAll r
def uptoBulkEntries {H : Type} : List (Lit × DataW H) → Nat
  | [] => 0
  | x :: r => uptoBulkEntry x + uptoBulkEntries r
def uptoBulkEntry {H : Type} : Lit × DataW H → Nat
  | (.string bytes, d) => bytes.length + uptoBulk d + 1
  | (_, d) => uptoBulk d + 1
 end
def uptoSmall : (H : Type) → List (DataW H) → Bool := fun _ ds => decide (uptoBulkAll ds ≤ 1048576)
def OpenSpec.upto (s : _root_.Go.ChangeSpec) : _root_.Go.OpenSpec := { _root_.Go.OpenSpec.ofChange s with cond := some uptoSmall }

/-- 'laws.FnPure', WHERE WHAT IT READS IS OF BULK AT MOST 1048576: true; the input reads as it did. -/
def fnPureUptoRow : OpenClaim := { program := "ytkjojhkpoooimaa", sum := "b9cf2516bd485543e779e20c9c2b78d03f6299d5a01f232700e965a0356cbb1a", func := "loop.example/g00346/laws.FnPure", spec := "fnPure", unfollowed := true, recurses := true, apart := false, narrowed := true }
def FnPureUptoSaid : Prop := fnPureUptoRow.holds Try.pinned (OpenSpec.upto fnPureSpec)

/-- 'laws.FnExactFoldedTree', WHERE WHAT IT READS IS OF BULK AT MOST 1048576: true; the input reads as it did. -/
def fnExactFoldedTreeUptoRow : OpenClaim := { program := "ytkjojhkpoooimaa", sum := "b9cf2516bd485543e779e20c9c2b78d03f6299d5a01f232700e965a0356cbb1a", func := "loop.example/g00346/laws.FnExactFoldedTree", spec := "fnExactFoldedTree", unfollowed := true, recurses := true, apart := false, narrowed := true }
def FnExactFoldedTreeUptoSaid : Prop := fnExactFoldedTreeUptoRow.holds Try.pinned (OpenSpec.upto fnExactFoldedTreeSpec)

/-- 'laws.FnExactFoldedPackage', WHERE WHAT IT READS IS OF BULK AT MOST 1048576: true; the input reads as it did. -/
def fnExactFoldedPackageUptoRow : OpenClaim := { program := "ytkjojhkpoooimaa", sum := "b9cf2516bd485543e779e20c9c2b78d03f6299d5a01f232700e965a0356cbb1a", func := "loop.example/g00346/laws.FnExactFoldedPackage", spec := "fnExactFoldedPackage", unfollowed := true, recurses := true, apart := false, narrowed := true }
def FnExactFoldedPackageUptoSaid : Prop := fnExactFoldedPackageUptoRow.holds Try.pinned (OpenSpec.upto fnExactFoldedPackageSpec)

/-- 'laws.FnExactPure', WHERE WHAT IT READS IS OF BULK AT MOST 1048576: true; the input reads as it did. -/
def fnExactPureUptoRow : OpenClaim := { program := "ytkjojhkpoooimaa", sum := "b9cf2516bd485543e779e20c9c2b78d03f6299d5a01f232700e965a0356cbb1a", func := "loop.example/g00346/laws.FnExactPure", spec := "fnExactPure", unfollowed := true, recurses := true, apart := false, narrowed := true }
def FnExactPureUptoSaid : Prop := fnExactPureUptoRow.holds Try.pinned (OpenSpec.upto fnExactPureSpec)

end Rows
end Go.Proofs.Ytkjojhkpoooimaa
