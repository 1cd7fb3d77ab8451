/-
  FnExactJoined returns true at every list of texts and leaves it as it was: impl.Joined answers as spec.Joined.
-/
import Derived.Test.YtfjpbbacibfnmaaRows
import Derived.Test.YtfjpbbacibfnmaaMath1
import Derived.Test.YtfjpbbacibfnmaaMathT
import Derived.Test.YtfjpbbacibfnmaaOwn
import Derived.Test.YtfjpbbacibfnmaaHexOf
import Derived.Test.YtfjpbbacibfnmaaTurned
import Derived.Test.YtfjpbbacibfnmaaMath3C
import Derived.Test.YtfjpbbacibfnmaaDraw
import Derived.Test.YtfjpbbacibfnmaaDraw2
import Derived.Test.YtfjpbbacibfnmaaChunkS
import Derived.Test.YtfjpbbacibfnmaaChunkI
import Derived.Test.YtfjpbbacibfnmaaMarks
import Derived.Test.YtfjpbbacibfnmaaMarks2
import Derived.Test.YtfjpbbacibfnmaaMarks3
import Derived.Test.YtfjpbbacibfnmaaTextsL
import Derived.WalkKit
import Derived.ProofKit
import Derived.OpenShut
import Derived.ShutString
import Derived.ChangeOld
import Derived.Below
namespace Go.Proofs.Ytfjpbbacibfnmaa.fnExactJoined
open Go.ChangeShapes Go.WideShapes Go.ChangeAt Go.RowKit
open Go.ChangeMaps (open_string shut_string)
set_option linter.unusedVariables false

theorem own : ownKnob Try.prog.godebug = none := by kernel_rfl
theorem laidOut : laidOutB Try.prog = true := by kernel_rfl

/-! The walk: the law returns true and writes nothing that was there. -/
set_option maxHeartbeats 1000000 in
set_option maxRecDepth 1000000 in
theorem walk (a0 : Option Addr) (len0 cap0 : Nat) (ts0 : List (List UInt8)) (w : World) (w0 : TextsIn w a0 len0 ts0) (wl0 : len0 ≤ maxLen) (wm0 : ∀ j, (ts0.getD j []).length ≤ maxLen) :
    Calls Try.prog 10 #[.slice a0 len0 cap0] w fun e w' => e = .returned (.bool true) ∧ Below w.heap.size w w' := by
  have hlb := w0.1
  by_cases hz : (len0 : Int) + (joinN ts0 : Int) ≤ 1048576
  · have HZ : Hid (szT len0 (joinN ts0) 1048576 = 1048576 - (len0 : Int) - (joinN ts0 : Int)) := szT_yes hz
    have hl : ts0.flatten.length ≤ 1048576 := by have : joinN ts0 = ts0.flatten.length := rfl; omega
    have hlen : len0 ≤ 1048576 := by omega
    have hge : (0 : Int) ≤ 1048576 - (len0 : Int) - (joinN ts0 : Int) := by omega
    have hself : ∀ l : List UInt8, (l != l) = false := by simp
    obtain ⟨j, hj⟩ : ∃ j, ts0.flatten = j := ⟨_, rfl⟩
    have HJ : Hid (ts0.flatten = j) := hj
    have HL : Hid (ts0.flatten.length ≤ 1048576) := hl
    clear hj hl
    go_enter Try.func10, Try.ntmps10
    go_wp2_with fail
    refine (szStringSC a0 len0 cap0 ts0 1048576 _ w0 (by omega) (by omega) wl0 wm0).mono ?_
    rintro e w1 ⟨rfl, rfl⟩
    rw [HZ.out]
    go_wp2_with fail
    refine (toStringSC a0 len0 cap0 ts0 _ w0 hlen).mono ?_
    rintro e w2 ⟨v2, rfl, hown2, _, hb2⟩
    obtain ⟨_, a2, cap2, rfl, hin2⟩ := own_texts hown2
    have hi2 := w0.below hb2
    clear hown2
    go_wp2_with fail
    refine (specJoined a2 len0 cap2 ts0 _ hin2 HL.out (by omega)).mono ?_
    rintro e w3 ⟨rfl, hb3⟩
    rw [HJ.out]
    have hi3 := hi2.below hb3
    have hB3 := hb2.trans (hb3.mono hb2.size)
    clear hin2 hi2 hb2 hb3
    go_wp2_with fail
    refine (toStringSC a0 len0 cap0 ts0 _ hi3 hlen).mono ?_
    rintro e w4 ⟨v4, rfl, hown4, _, hb4⟩
    obtain ⟨_, a4, cap4, rfl, hin4⟩ := own_texts hown4
    have hi4 := hi3.below hb4
    have hB4 := hB3.trans (hb4.mono hB3.size)
    clear hi3 hb4 hB3
    go_wp2_with fail
    refine (implJoined a4 len0 cap4 ts0 _ hin4 HL.out (by omega)).mono ?_
    rintro e w5 ⟨rfl, hb5⟩
    rw [HJ.out]
    have hi5 := hi4.below hb5
    have hown5 := own_below hown4 hb5
    have hB5 := hB4.trans (hb5.mono hB4.size)
    clear hi4 hb5 hB4 hown4 hin4
    go_wp2_with fail
    refine (toStringSC a0 len0 cap0 ts0 _ hi5 hlen).mono ?_
    rintro e w6 ⟨v6, rfl, hown6, _, hb6⟩
    have hown5b := own_below hown5 hb6
    have hB6 := hB5.trans (hb6.mono hB5.size)
    clear hi5 hb6 hB5 hown5
    rw [← hlb] at hown5b hown6
    go_wp2_with fail
    rw [← hlb]
    refine (eqStrV _ _ _ _ _ ts0 (by omega) hown5b hown6).mono ?_
    rintro e w7 ⟨rfl, hg7⟩
    have hB7 := hB6.grown hg7 hB6.size (fun k e => by cases e)
    clear hown5b hown6 hg7 hB6
    go_wp2
    go_ret
    exact ⟨rfl, hB7⟩
  · have HZ : Hid (szT len0 (joinN ts0) 1048576 = -1) := szT_no hz
    go_enter Try.func10, Try.ntmps10
    go_wp2_with fail
    refine (szStringSC a0 len0 cap0 ts0 1048576 _ w0 (by omega) (by omega) wl0 wm0).mono ?_
    rintro e w1 ⟨rfl, rfl⟩
    rw [HZ.out]
    go_wp2
    go_ret
    exact ⟨rfl, Below.refl _ _⟩

set_option maxRecDepth 100000 in
theorem lifted (os : Os) (started : os.Started) (H : Type) (enc : TypeId × Value → H) :
    ReturnsInHanded {} Try.checked os 10 .any (Rows.fnExactJoinedSpec.pre6 enc Try.prog Try.f10 Rows.fnExactJoinedRow.domain false) (Rows.fnExactJoinedSpec.post enc Try.prog Try.f10 false true false false) := by
  refine returnsInHanded_of_change (C := Try.checked) own started (by kernel_rfl) Try.func10
    (ChangeSpec.witness6 (enc := enc) (C := Try.checked) false ⟨#[], #[.slice none 0 0], []⟩ 8 (by kernel_rfl) (by kernel_rfl) (by kernel_rfl) (by kernel_rfl)) ?_
  intro W base args ds gs before hval0 hW hcnd _
  have hval : ∀ (j : Nat) t v, Try.f10.params[j]? = some t → args[j]? = some v → Value.okWide Try.prog W .any base t v := hval0
  have hW' := hW
  obtain ⟨p, q, hA0, hV, rfl, hfz, hnd⟩ := hW
  have hA : DataW.TrodAll enc Try.prog W 0 (fun _ => true) true Try.f10.params.toList args.toList ds p := hA0
  rw [Try.params10] at hA hval
  obtain ⟨v0, vs0, d0, ds0, p0, q0, hargs, rfl, rfl, h0, r0⟩ := trodAll_cons hA
  obtain ⟨rfl, rfl, rfl⟩ := trodAll_nil r0
  obtain rfl : args = #[v0] := by cases args; simp_all
  obtain ⟨rfl, rfl⟩ := trodVars_none hV
  have k0 := h0
  have lt0 : ∀ x ∈ p0, x.block < W.heap.size := by obtain ⟨m, hm⟩ := k0; exact DataW.trod_lt m _ _ _ hm
  obtain ⟨a0, len0, cap0, ts0, rfl, w0, wl0, wm0⟩ := open_texts (hval 0 42 v0 rfl rfl) h0
  clear hA0 hval0
  refine (walk a0 len0 cap0 ts0 W w0 wl0 wm0).mono fun e W' ⟨he, bel⟩ => ?_
  subst he
  exact ⟨_, rfl, _, _, _, [], _, [], hW', trodAll_mk1 (shut_bool Try.underlying4 _), (trodAll_cons_mk (Below.trod laidOut (by kernel_rfl) (of_decide_eq_true (by kernel_rfl)) k0 bel lt0) trodAll_mk0), rfl, bel.frame _, fun h => by cases h⟩

theorem over : Rows.fnExactJoinedRow.holds Try.pinned (OpenSpec.ofChange Rows.fnExactJoinedSpec) :=
  OpenClaim.holds_of_wide 10 Try.f10 rfl rfl rfl rfl rfl rfl rfl ⟨rfl, rfl, rfl, rfl, rfl⟩ rfl rfl rfl rfl rfl (by kernel_rfl) Try.func10 (by kernel_rfl)
    (of_decide_eq_true (by kernel_rfl)) (by unfold Func.isWrapper; first | (rw [if_pos (by decide +kernel)]; kernel_rfl) | (rw [if_neg (by decide +kernel)]; exact ⟨rfl, rfl⟩))
    (fun os started H enc _ => lifted os started H enc)

theorem proved : Rows.FnExactJoinedSaid :=
  over
#print axioms proved
end Go.Proofs.Ytfjpbbacibfnmaa.fnExactJoined
