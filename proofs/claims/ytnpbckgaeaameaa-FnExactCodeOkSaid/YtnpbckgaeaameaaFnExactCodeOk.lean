/-
  FnExactCodeOk returns true at every row of instructions and leaves it as it was: impl.CodeOk answers as spec.CodeOk.
-/
import Derived.Test.YtnpbckgaeaameaaRows
import Derived.Test.YtnpbckgaeaameaaP1
import Derived.Test.YtnpbckgaeaameaaP2
import Derived.Test.YtnpbckgaeaameaaP3
import Derived.Test.YtnpbckgaeaameaaP4
import Derived.Test.YtnpbckgaeaameaaP5
import Derived.Test.YtnpbckgaeaameaaP6
import Derived.Test.YtnpbckgaeaameaaP7
import Derived.Test.YtnpbckgaeaameaaP8
import Derived.Test.YtnpbckgaeaameaaP9
import Derived.Test.YtnpbckgaeaameaaP10
import Derived.Test.YtnpbckgaeaameaaP11
import Derived.Test.YtnpbckgaeaameaaP12
import Derived.Test.YtnpbckgaeaameaaP13
import Derived.Test.YtnpbckgaeaameaaP14
import Derived.Test.YtnpbckgaeaameaaP15
import Derived.Test.YtnpbckgaeaameaaP16
import Derived.Test.YtnpbckgaeaameaaP17
import Derived.Test.YtnpbckgaeaameaaP18
import Derived.Test.YtnpbckgaeaameaaP19
import Derived.Test.YtnpbckgaeaameaaP20
import Derived.WalkKit
import Derived.ProofKit
import Derived.OpenShut
import Derived.ShutString
import Derived.ChangeOld
import Derived.Below
namespace Go.Proofs.Ytnpbckgaeaameaa.fnExactCodeOk
open Go.ChangeShapes Go.WideShapes Go.ChangeAt Go.RowKit
open Go.ChangeMaps (open_string shut_string)
set_option linter.unusedVariables false

theorem own : ownKnob Try.prog.godebug = none := by kernel_rfl
theorem laidOut : laidOutB Try.prog = true := by kernel_rfl

/-! The walk: the law returns true and writes nothing that was there. -/
set_option maxHeartbeats 1000000 in
set_option maxRecDepth 1000000 in
theorem walk (a0 : Option Addr) (len0 cap0 : Nat) (ns0 : List In13) (w : World) (w0 : InsIn w a0 len0 ns0) (wl0 : len0 ≤ maxLen) (wm0 : LongI ns0) (wi0 : IntIs ns0) :
    Calls Try.prog 6 #[.slice a0 len0 cap0] w fun e w' => e = .returned (.bool true) ∧ Below w.heap.size w w' := by
  have hlb := w0.1
  by_cases hz : (len0 : Int) + (textsI ns0 : Int) ≤ 1048576
  · have HZ : Hid (szN len0 (textsI ns0) 1048576 = 1048576 - (len0 : Int) - (textsI ns0 : Int)) := szN_yes hz
    have hlen : len0 ≤ 1048576 := by omega
    have hge : (0 : Int) ≤ 1048576 - (len0 : Int) - (textsI ns0 : Int) := by omega
    have hsh : Hid (ShortI ns0) := shortI_of (by omega)
    have hint : Hid (IntIs ns0) := wi0
    have HS : Hid (_) := fun (A : Option Addr) (c : Nat) (W : World) (h : InsIn W A len0 ns0) => specCodeOk A len0 c ns0 W h hsh.out hlen
    have HI : Hid (_) := fun (A : Option Addr) (c : Nat) (W : World) (h : InsIn W A len0 ns0) (hc : len0 ≤ c) (hm : c ≤ maxLen) => implCodeOk A len0 c ns0 W h hint.out hsh.out hlen hc hm
    obtain ⟨z, hz2⟩ : ∃ z, codeB ns0 = z := ⟨_, rfl⟩
    rw [hz2] at HS HI
    have hne : (z != z) = false := by simp
    clear hz2
    go_enter Try.func6, Try.ntmps6
    go_wp2_with fail
    refine (szInsSC a0 len0 cap0 ns0 1048576 _ w0 (by omega) (by omega) wl0 wm0).mono ?_
    rintro e w2 ⟨rfl, hb2⟩
    rw [HZ.out]
    have hi2 := w0.below hb2
    go_wp2_with fail
    refine (toInsSC a0 len0 cap0 ns0 _ hi2 hlen).mono ?_
    rintro e w3 ⟨v3, rfl, hown3, _, hb3⟩
    obtain ⟨_, a3, cap3, rfl, hin3⟩ := own_ins hown3
    have hi3 := hi2.below hb3
    have hB3 := hb2.trans (hb3.mono hb2.size)
    clear hown3 hi2 hb3 hb2
    go_wp2_with fail
    refine Calls.mono (HS.out a3 cap3 _ hin3) ?_
    rintro e w4 ⟨rfl, hb4⟩
    have hi4 := hi3.below hb4
    have hB4 := hB3.trans (hb4.mono hB3.size)
    clear hin3 hi3 hb4 hB3
    go_wp2_with fail
    refine (toInsSC a0 len0 cap0 ns0 _ hi4 hlen).mono ?_
    rintro e w5 ⟨v5, rfl, hown5, _, hb5⟩
    obtain ⟨_, a5, cap5, rfl, hin5⟩ := own_ins hown5
    have HCp : Hid (len0 ≤ cap5 ∧ cap5 ≤ maxLen) := ⟨own_capT hown5, own_capM hown5⟩
    have hi5 := hi4.below hb5
    have hB5 := hB4.trans (hb5.mono hB4.size)
    clear hown5 hi4 hb5 hB4
    go_wp2_with fail
    refine Calls.mono (HI.out a5 cap5 _ hin5 HCp.out.1 HCp.out.2) ?_
    rintro e w6 ⟨rfl, hb6⟩
    have hi6 := hi5.below hb6
    have hin6 := hin5.below hb6
    have hB6 := hB5.trans (hb6.mono hB5.size)
    clear hin5 hi5 hb6 hB5
    go_wp2_with fail
    refine (toInsSC a0 len0 cap0 ns0 _ hi6 hlen).mono ?_
    rintro e w7 ⟨v7, rfl, hown7, _, hb7⟩
    obtain ⟨_, a7, cap7, rfl, hin7⟩ := own_ins hown7
    have hin6b := hin6.below hb7
    have hB7 := hB6.trans (hb7.mono hB6.size)
    clear hown7 hi6 hb7 hB6 hin6
    go_wp2_with fail
    refine (eqInsSC a5 a7 len0 cap5 cap7 ns0 _ hin6b hin7 (by omega)).mono ?_
    rintro e w8 ⟨rfl, hb8⟩
    have hB8 := hB7.trans (hb8.mono hB7.size)
    go_wp2
    go_ret
    exact ⟨rfl, hB8⟩
  · have HZ : Hid (szN len0 (textsI ns0) 1048576 = -1) := szN_no hz
    go_enter Try.func6, Try.ntmps6
    go_wp2_with fail
    refine (szInsSC a0 len0 cap0 ns0 1048576 _ w0 (by omega) (by omega) wl0 wm0).mono ?_
    rintro e w2 ⟨rfl, hb2⟩
    rw [HZ.out]
    go_wp2
    go_ret
    exact ⟨rfl, hb2⟩

set_option maxRecDepth 100000 in
theorem lifted (os : Os) (started : os.Started) (H : Type) (enc : TypeId × Value → H) :
    ReturnsInHanded {} Try.checked os 6 .any (Rows.fnExactCodeOkSpec.pre6 enc Try.prog Try.f6 Rows.fnExactCodeOkRow.domain false) (Rows.fnExactCodeOkSpec.post enc Try.prog Try.f6 false true false false) := by
  refine returnsInHanded_of_change (C := Try.checked) own started (by kernel_rfl) Try.func6
    (ChangeSpec.witness6 (enc := enc) (C := Try.checked) false ⟨#[], #[.slice none 0 0], []⟩ 8 (by kernel_rfl) (by kernel_rfl) (by kernel_rfl) (by kernel_rfl)) ?_
  intro W base args ds gs before hval0 hW hcnd _
  have hval : ∀ (j : Nat) t v, Try.f6.params[j]? = some t → args[j]? = some v → Value.okWide Try.prog W .any base t v := hval0
  have hW' := hW
  obtain ⟨p, q, hA0, hV, rfl, hfz, hnd⟩ := hW
  have hA : DataW.TrodAll enc Try.prog W 0 (fun _ => true) true Try.f6.params.toList args.toList ds p := hA0
  rw [Try.params6] at hA hval
  obtain ⟨v0, vs0, d0, ds0, p0, q0, hargs, rfl, rfl, h0, r0⟩ := trodAll_cons hA
  obtain ⟨rfl, rfl, rfl⟩ := trodAll_nil r0
  obtain rfl : args = #[v0] := by cases args; simp_all
  obtain ⟨rfl, rfl⟩ := trodVars_none hV
  have k0 := h0
  have lt0 : ∀ x ∈ p0, x.block < W.heap.size := by obtain ⟨m, hm⟩ := k0; exact DataW.trod_lt m _ _ _ hm
  obtain ⟨a0, len0, cap0, ns0, rfl, w0, wl0, wm0, wi0⟩ := open_inss (hval 0 46 v0 rfl rfl) h0
  clear hA0 hval0
  refine (walk a0 len0 cap0 ns0 W w0 wl0 wm0 wi0).mono fun e W' ⟨he, bel⟩ => ?_
  subst he
  exact ⟨_, rfl, _, _, _, [], _, [], hW', trodAll_mk1 (shut_bool Try.underlying4 _), (trodAll_cons_mk (Below.trod laidOut (by kernel_rfl) (of_decide_eq_true (by kernel_rfl)) k0 bel lt0) trodAll_mk0), rfl, bel.frame _, fun h => by cases h⟩

theorem over : Rows.fnExactCodeOkRow.holds Try.pinned (OpenSpec.ofChange Rows.fnExactCodeOkSpec) :=
  OpenClaim.holds_of_wide 6 Try.f6 rfl rfl rfl rfl rfl rfl rfl ⟨rfl, rfl, rfl, rfl, rfl⟩ rfl rfl rfl rfl rfl (by kernel_rfl) Try.func6 (by kernel_rfl)
    (of_decide_eq_true (by kernel_rfl)) (by unfold Func.isWrapper; first | (rw [if_pos (by decide +kernel)]; kernel_rfl) | (rw [if_neg (by decide +kernel)]; exact ⟨rfl, rfl⟩))
    (fun os started H enc _ => lifted os started H enc)

theorem proved : Rows.FnExactCodeOkSaid :=
  over
#print axioms proved
end Go.Proofs.Ytnpbckgaeaameaa.fnExactCodeOk
