/-
  No cell of these rows narrows 'for every input' (looked for: loops, veiled, ifaces, maps, wideKeys, modest, calm, conditions, laid).
  DERIVED. THE GIVEN ROWS OF THIS SEAT. 5 by the template 'for every input the law returns true; each argument reads behind the call as it read before'; 0 by the template 'total and deterministic' (their statements: YtdnehneldmmeoaaTotals.lean).
  GIVEN WITH THE SEED: the statements are not yours to turn. If you find one false, say at which input.
  Laid BY PROGRAM, IN A SANDBOX (cutbox-rows.mjs): the forced cells as the released guide's own fill.sh prints them over the translation 5139770c860601b3… (all of the seat's roots in one cut). By AI agents, Wed Nov 11 2026. No macro, syntax, notation, axiom, sorry.
-/
import Derived.Test.YtdnehneldmmeoaaChecked
import GoSem.Claim
import GoSem.ClaimJoined
import GoSem.ClaimMapViews
import Derived.JoinedTies
import Derived.KernelRfl
namespace Go.Proofs.Ytdnehneldmmeoaa
/- THE CELL 'sum', in the pinned program and in every row, IS THE sha256 OF THE DUMP (.gsa) THAT YtdnehneldmmeoaaProg.lean LOADS. Nothing in Lean hashes anything: it is a label: what it is worth is what the hold of that sum in a sandbox is worth. -/
noncomputable def Try.pinned : Pinned := { name := "ytdnehneldmmeoaa", sum := "5139770c860601b30c7457c566a0fae359a8dedda8231aac23432e60898614ea", checked := Try.checked }
namespace Rows
def none {H : Type} : Left H := { results := [], args := [] }

/-- 'laws.FnSethi': WHATEVER THE INPUT: true; the input reads as it did. -/
def fnSethiSpec : ChangeSpec := { name := "fnSethi", fn := fun _ => fun
  | [d] => { results := [.lit (.bool true)], args := [d] }
  | _ => none }
def fnSethiRow : OpenClaim := { program := "ytdnehneldmmeoaa", sum := "5139770c860601b30c7457c566a0fae359a8dedda8231aac23432e60898614ea", func := "loop.example/g00346/laws.FnSethi", spec := "fnSethi", unfollowed := true, recurses := true, apart := false }
def FnSethiSaid : Prop := fnSethiRow.holds Try.pinned (OpenSpec.ofChange fnSethiSpec)

/-- ITS FALSE NEIGHBOUR: 'it returns false'. Refute it at one input. -/
def fnSethiWrong : ChangeSpec := { name := "fnSethi", fn := fun _ => fun
  | [d] => { results := [.lit (.bool false)], args := [d] }
  | _ => none }
def FnSethiWrongFalsely : Prop := fnSethiRow.holds Try.pinned (OpenSpec.ofChange fnSethiWrong)

/-- 'laws.FnFirst': WHATEVER THE INPUT: true; the input reads as it did. -/
def fnFirstSpec : ChangeSpec := { name := "fnFirst", fn := fun _ => fun
  | [d] => { results := [.lit (.bool true)], args := [d] }
  | _ => none }
def fnFirstRow : OpenClaim := { program := "ytdnehneldmmeoaa", sum := "5139770c860601b30c7457c566a0fae359a8dedda8231aac23432e60898614ea", func := "loop.example/g00346/laws.FnFirst", spec := "fnFirst", unfollowed := true, recurses := true, apart := false }
def FnFirstSaid : Prop := fnFirstRow.holds Try.pinned (OpenSpec.ofChange fnFirstSpec)

/-- ITS FALSE NEIGHBOUR: 'it returns false'. Refute it at one input. -/
def fnFirstWrong : ChangeSpec := { name := "fnFirst", fn := fun _ => fun
  | [d] => { results := [.lit (.bool false)], args := [d] }
  | _ => none }
def FnFirstWrongFalsely : Prop := fnFirstRow.holds Try.pinned (OpenSpec.ofChange fnFirstWrong)

/-- 'laws.FnExactNeed': WHATEVER THE INPUT: true; the input reads as it did. -/
def fnExactNeedSpec : ChangeSpec := { name := "fnExactNeed", fn := fun _ => fun
  | [d] => { results := [.lit (.bool true)], args := [d] }
  | _ => none }
def fnExactNeedRow : OpenClaim := { program := "ytdnehneldmmeoaa", sum := "5139770c860601b30c7457c566a0fae359a8dedda8231aac23432e60898614ea", func := "loop.example/g00346/laws.FnExactNeed", spec := "fnExactNeed", unfollowed := true, recurses := true, apart := false }
def FnExactNeedSaid : Prop := fnExactNeedRow.holds Try.pinned (OpenSpec.ofChange fnExactNeedSpec)

/-- ITS FALSE NEIGHBOUR: 'it returns false'. Refute it at one input. -/
def fnExactNeedWrong : ChangeSpec := { name := "fnExactNeed", fn := fun _ => fun
  | [d] => { results := [.lit (.bool false)], args := [d] }
  | _ => none }
def FnExactNeedWrongFalsely : Prop := fnExactNeedRow.holds Try.pinned (OpenSpec.ofChange fnExactNeedWrong)

/-- 'laws.FnExactNeedBy': WHATEVER THE INPUT: true; the input reads as it did. -/
def fnExactNeedBySpec : ChangeSpec := { name := "fnExactNeedBy", fn := fun _ => fun
  | [d1, d2] => { results := [.lit (.bool true)], args := [d1, d2] }
  | _ => none }
def fnExactNeedByRow : OpenClaim := { program := "ytdnehneldmmeoaa", sum := "5139770c860601b30c7457c566a0fae359a8dedda8231aac23432e60898614ea", func := "loop.example/g00346/laws.FnExactNeedBy", spec := "fnExactNeedBy", unfollowed := true, recurses := true, apart := false }
def FnExactNeedBySaid : Prop := fnExactNeedByRow.holds Try.pinned (OpenSpec.ofChange fnExactNeedBySpec)

/-- ITS FALSE NEIGHBOUR: 'it returns false'. Refute it at one input. -/
def fnExactNeedByWrong : ChangeSpec := { name := "fnExactNeedBy", fn := fun _ => fun
  | [d1, d2] => { results := [.lit (.bool false)], args := [d1, d2] }
  | _ => none }
def FnExactNeedByWrongFalsely : Prop := fnExactNeedByRow.holds Try.pinned (OpenSpec.ofChange fnExactNeedByWrong)

/-- 'laws.FnExactFirstPart': WHATEVER THE INPUT: true; the input reads as it did. -/
def fnExactFirstPartSpec : ChangeSpec := { name := "fnExactFirstPart", fn := fun _ => fun
  | [d1, d2] => { results := [.lit (.bool true)], args := [d1, d2] }
  | _ => none }
def fnExactFirstPartRow : OpenClaim := { program := "ytdnehneldmmeoaa", sum := "5139770c860601b30c7457c566a0fae359a8dedda8231aac23432e60898614ea", func := "loop.example/g00346/laws.FnExactFirstPart", spec := "fnExactFirstPart", unfollowed := true, recurses := true, apart := false }
def FnExactFirstPartSaid : Prop := fnExactFirstPartRow.holds Try.pinned (OpenSpec.ofChange fnExactFirstPartSpec)

/-- ITS FALSE NEIGHBOUR: 'it returns false'. Refute it at one input. -/
def fnExactFirstPartWrong : ChangeSpec := { name := "fnExactFirstPart", fn := fun _ => fun
  | [d1, d2] => { results := [.lit (.bool false)], args := [d1, d2] }
  | _ => none }
def FnExactFirstPartWrongFalsely : Prop := fnExactFirstPartRow.holds Try.pinned (OpenSpec.ofChange fnExactFirstPartWrong)

/- THE SECOND FORM. 'bulk': how many values and letters a reading holds, each counted each time it is reached (what is shared counts as often as it is met; a slice's spare places count too). A statement '..UptoSaid' is the law's where the arguments, and the package variables that the reading takes, are together of bulk at most 1048576: NARROWER than '..Said'. Prove '..Said' where nothing that the law and all that it calls make is longer than what came in: it says more and counts as full. Else prove '..UptoSaid'. A law counts once. -/
mutual
def uptoBulk {H : Type} : DataW H → Nat
  | .lit (.string bytes) => bytes.length + 1
  | .lit _ => 1
  | .nil => 1
  | .ptr d => uptoBulk d + 1
  | .slice elems spare => uptoBulkAll elems + uptoBulkAll spare + 1
  | .agg parts => uptoBulkAll parts + 1
  | .iface _ d => uptoBulk d + 1
  | .map entries => uptoBulkEntries entries + 1
  | .held _ => 1
def uptoBulkAll {H : Type} : List (DataW H) → Nat
  | [] => 0
  | d :: r => uptoBulk d + uptoBulkAll r
def uptoBulkEntries {H : Type} : List (Lit × DataW H) → Nat
  | [] => 0
  | x :: r => uptoBulkEntry x + uptoBulkEntries r
def uptoBulkEntry {H : Type} : Lit × DataW H → Nat
  | (.string bytes, d) => bytes.length + uptoBulk d + 1
  | (_, d) => uptoBulk d + 1
 end
def uptoSmall : (H : Type) → List (DataW H) → Bool := fun _ ds => decide (uptoBulkAll ds ≤ 1048576)
def OpenSpec.upto (s : _root_.Go.ChangeSpec) : _root_.Go.OpenSpec := { _root_.Go.OpenSpec.ofChange s with cond := some uptoSmall }

/-- 'laws.FnSethi', WHERE WHAT IT READS IS OF BULK AT MOST 1048576: true; the input reads as it did. -/
def fnSethiUptoRow : OpenClaim := { program := "ytdnehneldmmeoaa", sum := "5139770c860601b30c7457c566a0fae359a8dedda8231aac23432e60898614ea", func := "loop.example/g00346/laws.FnSethi", spec := "fnSethi", unfollowed := true, recurses := true, apart := false, narrowed := true }
def FnSethiUptoSaid : Prop := fnSethiUptoRow.holds Try.pinned (OpenSpec.upto fnSethiSpec)

/-- 'laws.FnFirst', WHERE WHAT IT READS IS OF BULK AT MOST 1048576: true; the input reads as it did. -/
def fnFirstUptoRow : OpenClaim := { program := "ytdnehneldmmeoaa", sum := "5139770c860601b30c7457c566a0fae359a8dedda8231aac23432e60898614ea", func := "loop.example/g00346/laws.FnFirst", spec := "fnFirst", unfollowed := true, recurses := true, apart := false, narrowed := true }
def FnFirstUptoSaid : Prop := fnFirstUptoRow.holds Try.pinned (OpenSpec.upto fnFirstSpec)

/-- 'laws.FnExactNeed', WHERE WHAT IT READS IS OF BULK AT MOST 1048576: true; the input reads as it did. -/
def fnExactNeedUptoRow : OpenClaim := { program := "ytdnehneldmmeoaa", sum := "5139770c860601b30c7457c566a0fae359a8dedda8231aac23432e60898614ea", func := "loop.example/g00346/laws.FnExactNeed", spec := "fnExactNeed", unfollowed := true, recurses := true, apart := false, narrowed := true }
def FnExactNeedUptoSaid : Prop := fnExactNeedUptoRow.holds Try.pinned (OpenSpec.upto fnExactNeedSpec)

/-- 'laws.FnExactNeedBy', WHERE WHAT IT READS IS OF BULK AT MOST 1048576: true; the input reads as it did. -/
def fnExactNeedByUptoRow : OpenClaim := { program := "ytdnehneldmmeoaa", sum := "5139770c860601b30c7457c566a0fae359a8dedda8231aac23432e60898614ea", func := "loop.example/g00346/laws.FnExactNeedBy", spec := "fnExactNeedBy", unfollowed := true, recurses := true, apart := false, narrowed := true }
def FnExactNeedByUptoSaid : Prop := fnExactNeedByUptoRow.holds Try.pinned (OpenSpec.upto fnExactNeedBySpec)

/-- 'laws.FnExactFirstPart', WHERE WHAT IT READS IS OF BULK AT MOST 1048576: true; the input reads as it did. -/
def fnExactFirstPartUptoRow : OpenClaim := { program := "ytdnehneldmmeoaa", sum := "5139770c860601b30c7457c566a0fae359a8dedda8231aac23432e60898614ea", func := "loop.example/g00346/laws.FnExactFirstPart", spec := "fnExactFirstPart", unfollowed := true, recurses := true, apart := false, narrowed := true }
def FnExactFirstPartUptoSaid : Prop := fnExactFirstPartUptoRow.holds Try.pinned (OpenSpec.upto fnExactFirstPartSpec)

end Rows
end Go.Proofs.Ytdnehneldmmeoaa
