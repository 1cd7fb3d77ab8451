/-
  FnOneLease returns true at every code and leaves it as it was: while a task is lent it is lent to nobody else, till its time is over.
-/
import Derived.Test.YtaioedcaopbgkaaRows
import Derived.Test.YtaioedcaopbgkaaP1
import Derived.Test.YtaioedcaopbgkaaP2
import Derived.Test.YtaioedcaopbgkaaP3
import Derived.Test.YtaioedcaopbgkaaP4
import Derived.Test.YtaioedcaopbgkaaP5
import Derived.Test.YtaioedcaopbgkaaP6
import Derived.Test.YtaioedcaopbgkaaP7
import Derived.Test.YtaioedcaopbgkaaP8
import Derived.Test.YtaioedcaopbgkaaP9
import Derived.Test.YtaioedcaopbgkaaP10
import Derived.Test.YtaioedcaopbgkaaP11
import Derived.Test.YtaioedcaopbgkaaP12
import Derived.Test.YtaioedcaopbgkaaP13
import Derived.Test.YtaioedcaopbgkaaP14
import Derived.Test.YtaioedcaopbgkaaP15
import Derived.Test.YtaioedcaopbgkaaP16
import Derived.Test.YtaioedcaopbgkaaP17
import Derived.Test.YtaioedcaopbgkaaP18
import Derived.Test.YtaioedcaopbgkaaP19
import Derived.Test.YtaioedcaopbgkaaP20
import Derived.Test.YtaioedcaopbgkaaP21
import Derived.Test.YtaioedcaopbgkaaP22
import Derived.Test.YtaioedcaopbgkaaP23
import Derived.Test.YtaioedcaopbgkaaP24
import Derived.Test.YtaioedcaopbgkaaP25
import Derived.Test.YtaioedcaopbgkaaP26
import Derived.Test.YtaioedcaopbgkaaP27
import Derived.Test.YtaioedcaopbgkaaP28
import Derived.Test.YtaioedcaopbgkaaP29
import Derived.Test.YtaioedcaopbgkaaP30
import Derived.Test.YtaioedcaopbgkaaP31
import Derived.Test.YtaioedcaopbgkaaP32
import Derived.Test.YtaioedcaopbgkaaP33
import Derived.Test.YtaioedcaopbgkaaP34
import Derived.Test.YtaioedcaopbgkaaP35
import Derived.Test.YtaioedcaopbgkaaP36
import Derived.Test.YtaioedcaopbgkaaP37
import Derived.WalkKit
import Derived.ProofKit
import Derived.OpenShut
import Derived.ShutString
import Derived.ChangeOld
import Derived.Below
namespace Go.Proofs.Ytaioedcaopbgkaa.fnOneLease
open Go.ChangeShapes Go.WideShapes Go.ChangeAt Go.RowKit
open Go.ChangeMaps (open_string shut_string)
set_option linter.unusedVariables false

theorem own : ownKnob Try.prog.godebug = none := by kernel_rfl
theorem laidOut : laidOutB Try.prog = true := by kernel_rfl

/-- WHAT THE WALK IS TOLD OF A SLICE OF INTEGERS THAT CAME IN: it is nil; or it leads to a row of 'cap' cells, the numbers 'zs' (the first 'len' are its elements, the rest its spare room), each fitting its kind. -/
def IsRow (k : IntKind) (w : World) (a : Option Addr) (len cap : Nat) (zs : List Int) : Prop :=
 (a = none ∧ len = 0 ∧ cap = 0 ∧ zs = []) ∨
 ∃ x, a = some x ∧ len ≤ cap ∧ cap ≤ maxLen ∧ zs.length = cap ∧ (∀ i, i < zs.length → w.cell? (x.add i) = some (.int k (zs.getD i 0))) ∧ ∀ n ∈ zs, (Lit.int k n).wf = true

/-! ### STEP 1: THE WALK: the Go text returns true, AND WRITES NOTHING THAT WAS THERE: 'Below w.heap.size w w'' (Derived/Below.lean: '.refl', '.alloc', '.drew', '.setCell' at a new block, '.trans'). Open each 'IsRow' by 'rcases' AHEAD of 'go_enter'; part every test ahead of the walk. -/
set_option maxHeartbeats 8000000 in
set_option maxRecDepth 1000000 in
theorem walk (a0 : Option Addr) (len0 cap0 : Nat) (z0 : List Int) (w : World) (w0 : IsRow .u8 w a0 len0 cap0 z0) :
 Calls Try.prog 3 #[.slice a0 len0 cap0] w fun e w' => e = .returned (.bool true) ∧ Below w.heap.size w w' := by
 have hcode : Code w w.heap.size a0 len0 := by
  rcases w0 with ⟨rfl, rfl, rfl, rfl⟩ | ⟨x, rfl, hl, hm, hz, hcell, hwz⟩
  ·
   exact code_nil w
  ·
   exact code_of w x len0 z0 hcell (by omega) hwz
 exact lawOneLease w a0 len0 cap0 hcode

/-! ### THE ROW's STEP: WRITTEN OUT: LEAVE IT -/
set_option maxRecDepth 100000 in
theorem lifted (os : Os) (started : os.Started) (H : Type) (enc : TypeId × Value → H) :
 ReturnsInHanded {} Try.checked os 3 .any (Rows.fnOneLeaseSpec.pre6 enc Try.prog Try.f3 Rows.fnOneLeaseRow.domain false) (Rows.fnOneLeaseSpec.post enc Try.prog Try.f3 false true false false) := by
 refine returnsInHanded_of_change (C := Try.checked) own started (by kernel_rfl) Try.func3
  (ChangeSpec.witness6 (enc := enc) (C := Try.checked) false ⟨#[], #[.slice none 0 0], []⟩ 8 (by kernel_rfl) (by kernel_rfl) (by kernel_rfl) (by kernel_rfl)) ?_
 intro W base args ds gs before hval0 hW hcnd _
 have hval : ∀ (j : Nat) t v, Try.f3.params[j]? = some t → args[j]? = some v → Value.okWide Try.prog W .any base t v := hval0
 have hW' := hW
 obtain ⟨p, q, hA0, hV, rfl, hfz, hnd⟩ := hW
 have hA : DataW.TrodAll enc Try.prog W 0 (fun _ => true) true Try.f3.params.toList args.toList ds p := hA0
 rw [Try.params3] at hA hval
 obtain ⟨v0, vs0, d0, ds0, p0, q0, hargs, rfl, rfl, h0, r0⟩ := trodAll_cons hA
 obtain ⟨rfl, rfl, rfl⟩ := trodAll_nil r0
 obtain rfl : args = #[v0] := by cases args; simp_all
 obtain ⟨rfl, rfl⟩ := trodVars_none hV
 obtain ⟨a0, len0, cap0, rfl⟩ := okWide_slice Try.underlying22 (hval 0 22 v0 rfl rfl)
 have k0 := h0
 have lt0 : ∀ x ∈ p0, x.block < W.heap.size := by obtain ⟨m, hm⟩ := k0; exact DataW.trod_lt m _ _ _ hm
 obtain ⟨z0, w0⟩ : ∃ zs, IsRow .u8 W a0 len0 cap0 zs := by
  obtain ⟨fuel, hf⟩ := h0
  rcases open_ints Try.underlying22 Try.underlying5 (by kernel_rfl) hf with ⟨hcs, _⟩ | ⟨x, l, c, zs, hcs, _, hl, hm, hz, _, hcell, hwz⟩
  ·
   simp [Value.cells] at hcs
   obtain ⟨rfl, rfl, rfl⟩ := hcs
   exact ⟨[], .inl ⟨rfl, rfl, rfl, rfl⟩⟩
  ·
   simp [Value.cells] at hcs
   obtain ⟨rfl, rfl, rfl⟩ := hcs
   exact ⟨zs, .inr ⟨_, rfl, hl, hm, by simpa using hz, hcell, hwz⟩⟩
 clear hA0 hval0
 refine (walk a0 len0 cap0 z0 W w0).mono fun e W' ⟨he, bel⟩ => ?_
 subst he
 exact ⟨_, rfl, _, _, _, [], _, [], hW', trodAll_mk1 (shut_bool Try.underlying4 _), (trodAll_cons_mk (Below.trod laidOut (by kernel_rfl) (of_decide_eq_true (by kernel_rfl)) k0 bel lt0) trodAll_mk0), rfl, bel.frame _, fun h => by cases h⟩

theorem over : Rows.fnOneLeaseRow.holds Try.pinned (OpenSpec.ofChange Rows.fnOneLeaseSpec) :=
 OpenClaim.holds_of_wide 3 Try.f3 rfl rfl rfl rfl rfl rfl rfl ⟨rfl, rfl, rfl, rfl, rfl⟩ rfl rfl rfl rfl rfl (by kernel_rfl) Try.func3 (by kernel_rfl)
  (of_decide_eq_true (by kernel_rfl)) (by unfold Func.isWrapper; first | (rw [if_pos (by decide +kernel)]; kernel_rfl) | (rw [if_neg (by decide +kernel)]; exact ⟨rfl, rfl⟩))
  (fun os started H enc _ => lifted os started H enc)

/-- ████ THE STATEMENT ████ -/
theorem proved : Rows.FnOneLeaseSaid := over
#print axioms proved
end Go.Proofs.Ytaioedcaopbgkaa.fnOneLease
