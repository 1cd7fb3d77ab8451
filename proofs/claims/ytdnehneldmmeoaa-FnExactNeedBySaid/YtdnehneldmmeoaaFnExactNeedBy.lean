/-
  FnExactNeedBy returns true at every list of nodes and of orders and leaves them as they were: impl.NeedBy answers as spec.NeedBy.
-/
import Derived.Test.YtdnehneldmmeoaaRows
import Derived.Test.YtdnehneldmmeoaaP1
import Derived.Test.YtdnehneldmmeoaaP2
import Derived.Test.YtdnehneldmmeoaaP3
import Derived.Test.YtdnehneldmmeoaaP4
import Derived.Test.YtdnehneldmmeoaaP5
import Derived.Test.YtdnehneldmmeoaaP6
import Derived.Test.YtdnehneldmmeoaaP7
import Derived.Test.YtdnehneldmmeoaaP8
import Derived.Test.YtdnehneldmmeoaaP9
import Derived.Test.YtdnehneldmmeoaaP10
import Derived.Test.YtdnehneldmmeoaaP11
import Derived.Test.YtdnehneldmmeoaaP12
import Derived.Test.YtdnehneldmmeoaaP13
import Derived.Test.YtdnehneldmmeoaaP14
import Derived.Test.YtdnehneldmmeoaaP15
import Derived.WalkKit
import Derived.ProofKit
import Derived.OpenShut
import Derived.ShutString
import Derived.ChangeOld
import Derived.Below
namespace Go.Proofs.Ytdnehneldmmeoaa.fnExactNeedBy
open Go.ChangeShapes Go.WideShapes Go.ChangeAt Go.RowKit
open Go.ChangeMaps (open_string shut_string)
set_option linter.unusedVariables false

theorem own : ownKnob Try.prog.godebug = none := by kernel_rfl
theorem laidOut : laidOutB Try.prog = true := by kernel_rfl

/-! The walk: the law returns true and writes nothing that was there. -/
set_option maxHeartbeats 1000000 in
set_option maxRecDepth 1000000 in
theorem walk (a0 : Option Addr) (len0 cap0 : Nat) (ns0 : List Nd) (a1 : Option Addr) (cap1 : Nat) (xs1 : List Int) (w : World) (w0 : NodesIn w a0 len0 ns0) (wl0 : len0 ≤ maxLen) (wm0 : LongT ns0) (wi0 : IntT ns0) (w1 : AsIn w a1 xs1) (wl1 : xs1.length ≤ maxLen) (wi1 : ∀ x ∈ xs1, (Lit.int .i64 x).wf = true) :
    Calls Try.prog 6 #[.slice a0 len0 cap0, .slice a1 xs1.length cap1] w fun e w' => e = .returned (.bool true) ∧ Below w.heap.size w w' := by
  have hlb := w0.1
  have hxl2 : (xs1.length : Int) ≤ 9223372036854775807 := by unfold maxLen at wl1; omega
  have hBW : Below w.heap.size w w := Below.refl _ _
  by_cases hxb : 1048576 < (xs1.length : Int)
  · clear w0 wm0 wi0 w1 wi1
    go_enter Try.func6, Try.ntmps6
    go_wp2
    go_ret
    exact ⟨rfl, hBW⟩
  have hx : xs1.length ≤ 1048576 := by omega
  have HA : Hid (∀ Z, Below w.heap.size w Z → AsIn Z a1 xs1) := fun Z hz => w1.below hz
  have HTx : Hid (_) := fun (V : World) (h : AsIn V a1 xs1) => toInt64SC a1 cap1 xs1 V h hx
  by_cases hz : (len0 : Int) + (textsN ns0 : Int) ≤ 1048576
  · have HZ : Hid (szN len0 (textsN ns0) 1048576 = 1048576 - (len0 : Int) - (textsN ns0 : Int)) := szN_yes hz
    have hlen : len0 ≤ 1048576 := by omega
    have hge : (0 : Int) ≤ 1048576 - (len0 : Int) - (textsN ns0 : Int) := by omega
    have hsh : Hid (ShortT ns0) := short_of (by omega)
    have hint : Hid (IntT ns0) := wi0
    have HS : Hid (_) := fun (A : Option Addr) (c g : Nat) (W : World) (h : NodesIn W A len0 ns0) (k : AsIn W (some ⟨g, 0, none⟩) xs1) => specNeedBy A len0 c ns0 (some ⟨g, 0, none⟩) xs1.length xs1 W h k hsh.out hlen
    have HI : Hid (_) := fun (A : Option Addr) (c g : Nat) (W : World) (h : NodesIn W A len0 ns0) (hc : len0 ≤ c) (hm : c ≤ maxLen) (k : AsIn W (some ⟨g, 0, none⟩) xs1) => implNeedBy A len0 c ns0 (some ⟨g, 0, none⟩) xs1.length xs1 W h hint.out hsh.out hlen hc hm k hx wi1 (Nat.le_refl _) wl1
    have HEx : Hid (_) := fun (V : World) (b1 b2 g1 g2 : Nat) (h1 : V.ownsRow b1 2 1 (.slice (some ⟨g1, 0, none⟩) xs1.length xs1.length) xs1.length (intsV xs1)) (h2 : V.ownsRow b2 2 1 (.slice (some ⟨g2, 0, none⟩) xs1.length xs1.length) xs1.length (intsV xs1)) => eqIntC V b1 b2 g1 g2 xs1.length xs1.length xs1 (by omega) h1 h2
    have HAs : Hid (_) := fun (V : World) (b g : Nat) (h : V.ownsRow b 2 1 (.slice (some ⟨g, 0, none⟩) xs1.length xs1.length) xs1.length (intsV xs1)) => nums_as h rfl
    obtain ⟨z, hz2⟩ : ∃ z, needByT ns0 xs1 = z := ⟨_, rfl⟩
    rw [hz2] at HS HI
    have hne : (z != z) = false := by simp
    clear hz2 w1 wi1 wl1
    generalize xs1.length = nx at *
    go_enter Try.func6, Try.ntmps6
    go_wp2_with fail
    refine (szNodeSC a0 len0 cap0 ns0 1048576 _ w0 (by omega) (by omega) wl0 wm0).mono ?_
    rintro e w2 ⟨rfl, hB⟩
    rw [HZ.out]
    have hi := w0.below hB
    go_wp2_with fail
    refine (toNodeSC a0 len0 cap0 ns0 _ hi hlen).mono ?_
    rintro e w3 ⟨v3, rfl, hown3, _, hb3⟩
    obtain ⟨_, a3, cap3, rfl, hin3⟩ := own_nodes hown3
    replace hi := hi.below hb3
    replace hB := hB.trans (hb3.mono hB.size)
    clear hown3 hb3
    go_wp2_with fail
    refine Calls.mono (HTx.out _ (HA.out _ hB)) ?_
    rintro e w4 ⟨rfl, hx4, hb4⟩
    replace hi := hi.below hb4
    replace hin3 := hin3.below hb4
    replace hB := hB.trans (hb4.mono hB.size)
    clear hb4
    go_wp2_with fail
    refine Calls.mono (HS.out a3 cap3 _ _ hin3 (HAs.out _ _ _ hx4)) ?_
    rintro e w5 ⟨rfl, hb5⟩
    replace hi := hi.below hb5
    replace hB := hB.trans (hb5.mono hB.size)
    clear hin3 hb5 hx4
    go_wp2_with fail
    refine (toNodeSC a0 len0 cap0 ns0 _ hi hlen).mono ?_
    rintro e w6 ⟨v6, rfl, hown6, _, hb6⟩
    obtain ⟨_, a6, cap6, rfl, hin6⟩ := own_nodes hown6
    have HCp : Hid (len0 ≤ cap6 ∧ cap6 ≤ maxLen) := ⟨own_capT hown6, own_capM hown6⟩
    replace hi := hi.below hb6
    replace hB := hB.trans (hb6.mono hB.size)
    clear hown6 hb6
    go_wp2_with fail
    refine Calls.mono (HTx.out _ (HA.out _ hB)) ?_
    rintro e w7 ⟨rfl, hx7, hb7⟩
    replace hi := hi.below hb7
    replace hin6 := hin6.below hb7
    replace hB := hB.trans (hb7.mono hB.size)
    clear hb7
    go_wp2_with fail
    refine Calls.mono (HI.out a6 cap6 _ _ hin6 HCp.out.1 HCp.out.2 (HAs.out _ _ _ hx7)) ?_
    rintro e w8 ⟨rfl, hb8⟩
    replace hi := hi.below hb8
    replace hin6 := hin6.below hb8
    replace hB := hB.trans (hb8.mono hB.size)
    replace hx7 := own_below hx7 hb8
    clear hb8
    go_wp2_with fail
    refine (toNodeSC a0 len0 cap0 ns0 _ hi hlen).mono ?_
    rintro e w9 ⟨v9, rfl, hown9, _, hb9⟩
    obtain ⟨_, a9, cap9, rfl, hin9⟩ := own_nodes hown9
    replace hin6 := hin6.below hb9
    replace hB := hB.trans (hb9.mono hB.size)
    replace hx7 := own_below hx7 hb9
    clear hown9 hi hb9
    go_wp2_with fail
    refine (eqNodeSC a6 a9 len0 cap6 cap9 ns0 _ hin6 hin9 (by omega)).mono ?_
    rintro e w10 ⟨rfl, hb10⟩
    replace hB := hB.trans (hb10.mono hB.size)
    replace hx7 := own_below hx7 hb10
    clear hin6 hin9 hb10
    go_wp2_with fail
    refine Calls.mono (HTx.out _ (HA.out _ hB)) ?_
    rintro e w11 ⟨rfl, hx11, hb11⟩
    replace hB := hB.trans (hb11.mono hB.size)
    replace hx7 := own_below hx7 hb11
    clear hb11
    go_wp2_with fail
    refine Calls.mono (HEx.out _ _ _ _ _ hx7 hx11) ?_
    rintro e w12 ⟨rfl, hg12⟩
    have HF := hB.grown hg12 hB.size (by simp)
    clear hx7 hx11 hg12
    go_wp2
    go_ret
    exact ⟨rfl, HF⟩
  · have HZ : Hid (szN len0 (textsN ns0) 1048576 = -1) := szN_no hz
    clear w1 wi1 HTx HA
    go_enter Try.func6, Try.ntmps6
    go_wp2_with fail
    refine (szNodeSC a0 len0 cap0 ns0 1048576 _ w0 (by omega) (by omega) wl0 wm0).mono ?_
    rintro e w2 ⟨rfl, hb2⟩
    rw [HZ.out]
    go_wp2
    go_ret
    exact ⟨rfl, hb2⟩

set_option maxRecDepth 100000 in
theorem lifted (os : Os) (started : os.Started) (H : Type) (enc : TypeId × Value → H) :
    ReturnsInHanded {} Try.checked os 6 .any (Rows.fnExactNeedBySpec.pre6 enc Try.prog Try.f6 Rows.fnExactNeedByRow.domain false) (Rows.fnExactNeedBySpec.post enc Try.prog Try.f6 false true false false) := by
  refine returnsInHanded_of_change (C := Try.checked) own started (by kernel_rfl) Try.func6
    (ChangeSpec.witness6 (enc := enc) (C := Try.checked) false ⟨#[], #[.slice none 0 0, .slice none 0 0], []⟩ 8 (by kernel_rfl) (by kernel_rfl) (by kernel_rfl) (by kernel_rfl)) ?_
  intro W base args ds gs before hval0 hW hcnd _
  have hval : ∀ (j : Nat) t v, Try.f6.params[j]? = some t → args[j]? = some v → Value.okWide Try.prog W .any base t v := hval0
  have hW' := hW
  obtain ⟨p, q, hA0, hV, rfl, hfz, hnd⟩ := hW
  have hA : DataW.TrodAll enc Try.prog W 0 (fun _ => true) true Try.f6.params.toList args.toList ds p := hA0
  rw [Try.params6] at hA hval
  obtain ⟨v0, vs0, d0, ds0, p0, q0, hargs, rfl, rfl, h0, r0⟩ := trodAll_cons hA
  obtain ⟨v1, vs1, d1, ds1, p1, q1, rfl, rfl, rfl, h1, r1⟩ := trodAll_cons r0
  obtain ⟨rfl, rfl, rfl⟩ := trodAll_nil r1
  obtain rfl : args = #[v0, v1] := by cases args; simp_all
  obtain ⟨rfl, rfl⟩ := trodVars_none hV
  have k0 := h0
  have lt0 : ∀ x ∈ p0, x.block < W.heap.size := by obtain ⟨m, hm⟩ := k0; exact DataW.trod_lt m _ _ _ hm
  obtain ⟨a0, len0, cap0, ns0, rfl, w0, wl0, wm0, wi0⟩ := open_nodes (hval 0 38 v0 rfl rfl) h0
  have k1 := h1
  have lt1 : ∀ x ∈ p1, x.block < W.heap.size := by obtain ⟨m, hm⟩ := k1; exact DataW.trod_lt m _ _ _ hm
  obtain ⟨a1, cap1, xs1, rfl, w1, wl1, wi1⟩ := open_nums (hval 1 25 v1 rfl rfl) h1
  clear hA0 hval0
  refine (walk a0 len0 cap0 ns0 a1 cap1 xs1 W w0 wl0 wm0 wi0 w1 wl1 wi1).mono fun e W' ⟨he, bel⟩ => ?_
  subst he
  exact ⟨_, rfl, _, _, _, [], _, [], hW', trodAll_mk1 (shut_bool Try.underlying4 _), (trodAll_cons_mk (Below.trod laidOut (by kernel_rfl) (of_decide_eq_true (by kernel_rfl)) k0 bel lt0) (trodAll_cons_mk (Below.trod laidOut (by kernel_rfl) (of_decide_eq_true (by kernel_rfl)) k1 bel lt1) trodAll_mk0)), rfl, bel.frame _, fun h => by cases h⟩

theorem over : Rows.fnExactNeedByRow.holds Try.pinned (OpenSpec.ofChange Rows.fnExactNeedBySpec) :=
  OpenClaim.holds_of_wide 6 Try.f6 rfl rfl rfl rfl rfl rfl rfl ⟨rfl, rfl, rfl, rfl, rfl⟩ rfl rfl rfl rfl rfl (by kernel_rfl) Try.func6 (by kernel_rfl)
    (of_decide_eq_true (by kernel_rfl)) (by unfold Func.isWrapper; first | (rw [if_pos (by decide +kernel)]; kernel_rfl) | (rw [if_neg (by decide +kernel)]; exact ⟨rfl, rfl⟩))
    (fun os started H enc _ => lifted os started H enc)

theorem proved : Rows.FnExactNeedBySaid :=
  over
#print axioms proved
end Go.Proofs.Ytdnehneldmmeoaa.fnExactNeedBy
