/-
  FnExactInsOk returns true at every instruction and leaves it as it was: impl.InsOk answers as spec.InsOk.
-/
import Derived.Test.YtnpbckgaeaameaaRows
import Derived.Test.YtnpbckgaeaameaaP1
import Derived.Test.YtnpbckgaeaameaaP2
import Derived.Test.YtnpbckgaeaameaaP3
import Derived.Test.YtnpbckgaeaameaaP4
import Derived.Test.YtnpbckgaeaameaaP5
import Derived.Test.YtnpbckgaeaameaaP6
import Derived.Test.YtnpbckgaeaameaaP7
import Derived.Test.YtnpbckgaeaameaaP8
import Derived.Test.YtnpbckgaeaameaaP9
import Derived.Test.YtnpbckgaeaameaaP10
import Derived.Test.YtnpbckgaeaameaaP11
import Derived.Test.YtnpbckgaeaameaaP12
import Derived.Test.YtnpbckgaeaameaaP13
import Derived.Test.YtnpbckgaeaameaaP14
import Derived.Test.YtnpbckgaeaameaaP15
import Derived.Test.YtnpbckgaeaameaaP16
import Derived.Test.YtnpbckgaeaameaaP17
import Derived.Test.YtnpbckgaeaameaaP18
import Derived.Test.YtnpbckgaeaameaaP19
import Derived.Test.YtnpbckgaeaameaaP20
import Derived.WalkKit
import Derived.ProofKit
import Derived.OpenShut
import Derived.ShutString
import Derived.ChangeOld
import Derived.Below
namespace Go.Proofs.Ytnpbckgaeaameaa.fnExactInsOk
open Go.ChangeShapes Go.WideShapes Go.ChangeAt Go.RowKit
open Go.ChangeMaps (open_string shut_string)
set_option linter.unusedVariables false

theorem own : ownKnob Try.prog.godebug = none := by kernel_rfl
theorem laidOut : laidOutB Try.prog = true := by kernel_rfl

/-! The walk: the law returns true and writes nothing that was there. -/
set_option maxHeartbeats 1000000 in
set_option maxRecDepth 1000000 in
theorem walk (n0 : In13) (w : World) (w0 : IntI n0) (wp0 : n0.2.2.2.2.length ≤ maxLen) :
    Calls Try.prog 5 #[insVal n0] w fun e w' => e = .returned (.bool true) ∧ Below w.heap.size w w' := by
  obtain ⟨k, r, a, b, s⟩ := n0
  simp only at wp0
  unfold insVal
  simp only
  obtain ⟨⟨n0, n1, n2, n3, n4⟩, hbg⟩ := ins_new13 w (.int .i64 k) (.int .i64 r) (.int .i64 a) (.int .i64 b) (.string ⟨s.toArray⟩) 40
  obtain ⟨X, hX⟩ : ∃ X, w.alloc (.cells #[.int .i64 k, .int .i64 r, .int .i64 a, .int .i64 b, .string ⟨s.toArray⟩] 40) = X := ⟨_, rfl⟩
  obtain ⟨N, hN⟩ : ∃ N, w.heap.size = N := ⟨_, rfl⟩
  rw [hX] at n0 n1 n2 n3 n4 hbg
  rw [hN] at n0 n1 n2 n3 n4 hbg ⊢
  have hNX : N < X.heap.size := World.block_lt_of_cell? X ⟨N, 0, none⟩ n0
  have HBX : Hid (Below N w X) := hbg
  have HC : Hid (∀ Z, Below X.heap.size X Z → Z.cell? ⟨N, 0, none⟩ = some (.int .i64 k) ∧ Z.cell? ⟨N, 1, none⟩ = some (.int .i64 r) ∧ Z.cell? ⟨N, 2, none⟩ = some (.int .i64 a) ∧ Z.cell? ⟨N, 3, none⟩ = some (.int .i64 b) ∧ Z.cell? ⟨N, 4, none⟩ = some (.string ⟨s.toArray⟩)) := fun Z hz => ⟨(hz.cell (p := ⟨N, 0, none⟩) hNX).trans n0, (hz.cell (p := ⟨N, 1, none⟩) hNX).trans n1, (hz.cell (p := ⟨N, 2, none⟩) hNX).trans n2, (hz.cell (p := ⟨N, 3, none⟩) hNX).trans n3, (hz.cell (p := ⟨N, 4, none⟩) hNX).trans n4⟩
  have HE : Hid (∀ Z, Below X.heap.size X Z → Below N w Z) := fun Z hz => HBX.out.trans (hz.mono (by omega))
  have HSz : Hid (_) := fun W : World => szInsC k r a b 1048576 s W (by omega) (by omega) wp0
  clear hbg
  by_cases hz : (s.length : Int) ≤ 1048576
  · have HZ : Hid (szI s.length 1048576 = 1048576 - (s.length : Int)) := by exact (by unfold szI; rw [if_pos hz] : szI s.length 1048576 = 1048576 - (s.length : Int))
    have hge : (0 : Int) ≤ 1048576 - (s.length : Int) := by omega
    have HS : Hid (_) := fun W : World => specInsOk (k, r, a, b, s) W (by show s.length ≤ _; omega)
    have HI : Hid (_) := fun W : World => implInsOk (k, r, a, b, s) W w0 (by show s.length ≤ _; omega)
    unfold insVal at HS HI
    simp only at HS HI
    obtain ⟨z, hz2⟩ : ∃ z, insB (k, r, a, b, s) = z := ⟨_, rfl⟩
    rw [hz2] at HS HI
    have hne : (z != z) = false := by simp
    clear hz2
    go_enter Try.func5, Try.ntmps5
    go_wp2_with fail
    refine Calls.mono (HSz.out _) ?_
    rintro e w1 ⟨rfl, hB⟩
    rw [HZ.out]
    clear n0 n1 n2 n3 n4
    obtain ⟨c0, c1, c2, c3, c4⟩ := HC.out _ hB
    go_wp2_with fail
    refine Calls.mono (toInsC k r a b s _) ?_
    rintro e w2 ⟨rfl, hb2⟩
    replace hB := hB.trans (hb2.mono hB.size)
    clear hb2 c0 c1 c2 c3 c4
    go_wp2_with fail
    refine Calls.mono (HS.out _) ?_
    rintro e w3 ⟨rfl, hb3⟩
    replace hB := hB.trans (hb3.mono hB.size)
    clear hb3
    obtain ⟨c0, c1, c2, c3, c4⟩ := HC.out _ hB
    go_wp2_with fail
    refine Calls.mono (toInsC k r a b s _) ?_
    rintro e w4 ⟨rfl, hb4⟩
    replace hB := hB.trans (hb4.mono hB.size)
    clear hb4 c0 c1 c2 c3 c4
    go_wp2_with fail
    refine Calls.mono (HI.out _) ?_
    rintro e w5 ⟨rfl, hb5⟩
    have HF := HE.out _ (hB.trans (hb5.mono hB.size))
    clear hb5 hB
    go_wp2
    go_ret
    exact ⟨rfl, HF⟩
  · have HZ : Hid (szI s.length 1048576 = -1) := by exact (by unfold szI; rw [if_neg hz] : szI s.length 1048576 = -1)
    go_enter Try.func5, Try.ntmps5
    go_wp2_with fail
    refine Calls.mono (HSz.out _) ?_
    rintro e w1 ⟨rfl, hB⟩
    rw [HZ.out]
    have HF := HE.out _ hB
    clear hB n0 n1 n2 n3 n4
    go_wp2
    go_ret
    exact ⟨rfl, HF⟩

set_option maxRecDepth 100000 in
theorem lifted (os : Os) (started : os.Started) (H : Type) (enc : TypeId × Value → H) :
    ReturnsInHanded {} Try.checked os 5 .any (Rows.fnExactInsOkSpec.pre6 enc Try.prog Try.f5 Rows.fnExactInsOkRow.domain false) (Rows.fnExactInsOkSpec.post enc Try.prog Try.f5 false true false false) := by
  refine returnsInHanded_of_change (C := Try.checked) own started (by kernel_rfl) Try.func5
    (ChangeSpec.witness6 (enc := enc) (C := Try.checked) false ⟨#[], #[.agg #[.int .i64 0, .int .i64 0, .int .i64 0, .int .i64 0, .string ByteArray.empty]], []⟩ 8 (by kernel_rfl) (by kernel_rfl) (by kernel_rfl) (by kernel_rfl)) ?_
  intro W base args ds gs before hval0 hW hcnd _
  have hval : ∀ (j : Nat) t v, Try.f5.params[j]? = some t → args[j]? = some v → Value.okWide Try.prog W .any base t v := hval0
  have hW' := hW
  obtain ⟨p, q, hA0, hV, rfl, hfz, hnd⟩ := hW
  have hA : DataW.TrodAll enc Try.prog W 0 (fun _ => true) true Try.f5.params.toList args.toList ds p := hA0
  rw [Try.params5] at hA hval
  obtain ⟨v0, vs0, d0, ds0, p0, q0, hargs, rfl, rfl, h0, r0⟩ := trodAll_cons hA
  obtain ⟨rfl, rfl, rfl⟩ := trodAll_nil r0
  obtain rfl : args = #[v0] := by cases args; simp_all
  obtain ⟨rfl, rfl⟩ := trodVars_none hV
  have k0 := h0
  have lt0 : ∀ x ∈ p0, x.block < W.heap.size := by obtain ⟨m, hm⟩ := k0; exact DataW.trod_lt m _ _ _ hm
  obtain ⟨n0, rfl, w0, wp0⟩ := open_ins (hval 0 40 v0 rfl rfl) h0
  clear hA0 hval0
  refine (walk n0 W w0 wp0).mono fun e W' ⟨he, bel⟩ => ?_
  subst he
  exact ⟨_, rfl, _, _, _, [], _, [], hW', trodAll_mk1 (shut_bool Try.underlying4 _), (trodAll_cons_mk (Below.trod laidOut (by kernel_rfl) (of_decide_eq_true (by kernel_rfl)) k0 bel lt0) trodAll_mk0), rfl, bel.frame _, fun h => by cases h⟩

theorem over : Rows.fnExactInsOkRow.holds Try.pinned (OpenSpec.ofChange Rows.fnExactInsOkSpec) :=
  OpenClaim.holds_of_wide 5 Try.f5 rfl rfl rfl rfl rfl rfl rfl ⟨rfl, rfl, rfl, rfl, rfl⟩ rfl rfl rfl rfl rfl (by kernel_rfl) Try.func5 (by kernel_rfl)
    (of_decide_eq_true (by kernel_rfl)) (by unfold Func.isWrapper; first | (rw [if_pos (by decide +kernel)]; kernel_rfl) | (rw [if_neg (by decide +kernel)]; exact ⟨rfl, rfl⟩))
    (fun os started H enc _ => lifted os started H enc)

theorem proved : Rows.FnExactInsOkSaid :=
  over
#print axioms proved
end Go.Proofs.Ytnpbckgaeaameaa.fnExactInsOk
