/-
  FnExactCompiled returns true at every list of nodes and leaves it as it was: impl.Compiled answers as spec.Compiled, in memory of its own.
-/
import Derived.Test.YtnpbckgaeaameaaRows
import Derived.Test.YtnpbckgaeaameaaP1
import Derived.Test.YtnpbckgaeaameaaP2
import Derived.Test.YtnpbckgaeaameaaP3
import Derived.Test.YtnpbckgaeaameaaP4
import Derived.Test.YtnpbckgaeaameaaP5
import Derived.Test.YtnpbckgaeaameaaP6
import Derived.Test.YtnpbckgaeaameaaP7
import Derived.Test.YtnpbckgaeaameaaP8
import Derived.Test.YtnpbckgaeaameaaP9
import Derived.Test.YtnpbckgaeaameaaP10
import Derived.Test.YtnpbckgaeaameaaP11
import Derived.Test.YtnpbckgaeaameaaP12
import Derived.Test.YtnpbckgaeaameaaP13
import Derived.Test.YtnpbckgaeaameaaP14
import Derived.Test.YtnpbckgaeaameaaP15
import Derived.Test.YtnpbckgaeaameaaP16
import Derived.Test.YtnpbckgaeaameaaP17
import Derived.Test.YtnpbckgaeaameaaP18
import Derived.Test.YtnpbckgaeaameaaP19
import Derived.Test.YtnpbckgaeaameaaP20
import Derived.Test.YtnpbckgaeaameaaP21
import Derived.Test.YtnpbckgaeaameaaP22
import Derived.Test.YtnpbckgaeaameaaP23
import Derived.Test.YtnpbckgaeaameaaP24
import Derived.Test.YtnpbckgaeaameaaP25
import Derived.Test.YtnpbckgaeaameaaP26
import Derived.Test.YtnpbckgaeaameaaP27
import Derived.Test.YtnpbckgaeaameaaP28
import Derived.Test.YtnpbckgaeaameaaP29
import Derived.WalkKit
import Derived.ProofKit
import Derived.OpenShut
import Derived.ShutString
import Derived.ChangeOld
import Derived.Below
namespace Go.Proofs.Ytnpbckgaeaameaa.fnExactCompiled
open Go.ChangeShapes Go.WideShapes Go.ChangeAt Go.RowKit
open Go.ChangeMaps (open_string shut_string)
set_option linter.unusedVariables false

theorem own : ownKnob Try.prog.godebug = none := by kernel_rfl
theorem laidOut : laidOutB Try.prog = true := by kernel_rfl

/-! The walk: the law returns true and writes nothing that was there. -/
set_option maxHeartbeats 1000000 in
set_option maxRecDepth 1000000 in
theorem walk (a0 : Option Addr) (len0 cap0 : Nat) (ns0 : List Nd) (w : World) (w0 : NodesIn w a0 len0 ns0) (wl0 : len0 ≤ maxLen) (wm0 : LongT ns0) (wi0 : IntT ns0) :
    Calls Try.prog 7 #[.slice a0 len0 cap0] w fun e w' => e = .returned (.bool true) ∧ Below w.heap.size w w' := by
  have hlb := w0.1
  by_cases hz : (len0 : Int) + (textsN ns0 : Int) ≤ 1048576
  · have HZ : Hid (szN len0 (textsN ns0) 1048576 = 1048576 - (len0 : Int) - (textsN ns0 : Int)) := szN_yes hz
    have hlen : len0 ≤ 1048576 := by omega
    have hge : (0 : Int) ≤ 1048576 - (len0 : Int) - (textsN ns0 : Int) := by omega
    have hsh : Hid (ShortT ns0) := short_of (by omega)
    have hint : Hid (IntT ns0) := wi0
    have HS : Hid (_) := fun (A : Option Addr) (c : Nat) (W : World) (h : NodesIn W A len0 ns0) => specCompiled A len0 c ns0 W h hsh.out hlen
    have HI : Hid (_) := fun (A : Option Addr) (c : Nat) (W : World) (h : NodesIn W A len0 ns0) (hc : len0 ≤ c) (hm : c ≤ maxLen) => implCompiled A len0 c ns0 W h hint.out hsh.out hlen hc hm
    obtain ⟨z, hz2⟩ : ∃ z, compiledV ns0 = z := ⟨_, rfl⟩
    have hzl : z.length ≤ 121 := by rw [← hz2]; exact compiled_len ns0
    have hself : ∀ n : Int, (n != n) = false := by simp
    rw [hz2] at HS HI
    clear hz2
    obtain ⟨zn, hzn⟩ : ∃ n, z.length = n := ⟨_, rfl⟩
    rw [hzn] at HS HI hzl
    clear hzn
    go_enter Try.func7, Try.ntmps7
    go_wp2_with fail
    refine (szNodeSC a0 len0 cap0 ns0 1048576 _ w0 (by omega) (by omega) wl0 wm0).mono ?_
    rintro e w2 ⟨rfl, hb2⟩
    rw [HZ.out]
    have hi2 := w0.below hb2
    go_wp2_with fail
    refine (toNodeSC a0 len0 cap0 ns0 _ hi2 hlen).mono ?_
    rintro e w3 ⟨v3, rfl, hown3, _, hb3⟩
    obtain ⟨_, a3, cap3, rfl, hin3⟩ := own_nodes hown3
    have hi3 := hi2.below hb3
    have hB3 := hb2.trans (hb3.mono hb2.size)
    clear hown3 hi2 hb3 hb2
    go_wp2_with fail
    refine Calls.mono (HS.out a3 cap3 _ hin3) ?_
    rintro e w4 ⟨v4, rfl, hown4, hb4⟩
    have hlt4 : Hid (∀ k, v4.ownBlock = some k → k < w4.heap.size) := fun k e => (hown4.lt k e).2
    have hi4 := hi3.below hb4
    have hB4 := hB3.trans (hb4.mono hB3.size)
    clear hin3 hi3 hb4 hB3
    go_wp2_with fail
    refine (toNodeSC a0 len0 cap0 ns0 _ hi4 hlen).mono ?_
    rintro e w5 ⟨v5, rfl, hown5, _, hb5⟩
    obtain ⟨_, a5, cap5, rfl, hin5⟩ := own_nodes hown5
    have HC5 : Hid (len0 ≤ cap5 ∧ cap5 ≤ maxLen) := ⟨own_capT hown5, own_capM hown5⟩
    have hi5 := hi4.below hb5
    have hown4b := own_below hown4 hb5
    have hB5 := hB4.trans (hb5.mono hB4.size)
    have hlt5 : Hid (∀ k, (Value.slice a5 len0 cap5).ownBlock = some k → w4.heap.size ≤ k ∧ k < w5.heap.size) := fun k e => hown5.lt k e
    have hz4 := hB4.size
    have hz45 := hb5.size
    clear hi4 hb5 hB4 hown4
    go_wp2_with fail
    refine Calls.mono (HI.out a5 cap5 _ hin5 HC5.out.1 HC5.out.2) ?_
    rintro e w6 ⟨v6, rfl, hown6, hb6⟩
    have hi6 := hi5.below hb6
    have hown5b := own_below hown5 hb6
    have hin6 := hin5.below hb6
    have hown4c := own_below hown4b hb6
    have hB6 := hB5.trans (hb6.mono hB5.size)
    have hlt6 : Hid (∀ k, v6.ownBlock = some k → w5.heap.size ≤ k) := fun k e => (hown6.lt k e).1
    have hz5 := hB5.size
    clear hin5 hi5 hb6 hB5 hown4b hown5
    have HQ : Hid (_) := eqC13 z zn _ hown6 hown4c (by omega)
    go_wp2_with fail
    refine Calls.mono HQ.out ?_
    rintro e w7 ⟨rfl, hg7⟩
    have hb7 : Below w6.heap.size w6 w7 := (Below.refl _ _).grown hg7 (Nat.le_refl _) (by simp)
    have hi7 := hi6.below hb7
    have hin7 := hin6.below hb7
    have hown6b := own_none hown6 hg7
    have hown5c := own_none hown5b hg7
    have hown4d := own_none hown4c hg7
    have hB7 := hB6.grown hg7 hB6.size (by simp)
    clear hg7 hb7 hi6 hin6 hown6 hown5b hown4c hB6
    go_wp2_with fail
    refine (toNodeSC a0 len0 cap0 ns0 _ hi7 hlen).mono ?_
    rintro e w8 ⟨v8, rfl, hown8, _, hb8⟩
    obtain ⟨_, a8, cap8, rfl, hin8⟩ := own_nodes hown8
    have hin7b := hin7.below hb8
    have hi8 := hi7.below hb8
    have hown6c := own_below hown6b hb8
    have hown5d := own_below hown5c hb8
    have hown4e := own_below hown4d hb8
    have hB8 := hB7.trans (hb8.mono hB7.size)
    clear hown8 hi7 hin7 hb8 hB7 hown6b hown5c hown4d
    go_wp2_with fail
    refine (eqNodeSC a5 a8 len0 cap5 cap8 ns0 _ hin7b hin8 (by omega)).mono ?_
    rintro e w9 ⟨rfl, hb9⟩
    have hi9 := hi8.below hb9
    have hown6d := own_below hown6c hb9
    have hown5e := own_below hown5d hb9
    have hown4f := own_below hown4e hb9
    have hB9 := hB8.trans (hb9.mono hB8.size)
    clear hin7b hin8 hi8 hb9 hB8 hown6c hown5d hown4e
    go_wp2_with fail
    refine (markNodeSV _ _ _ 1 _ ns0 (by omega) (by omega) (by omega) hown5e).mono ?_
    rintro e wa ⟨rfl, hown5f, hga⟩
    have hown6e := hown6d.kept hga (own_ne3 (fun q e1 e2 => by have := hlt6.out q e1; have := (hlt5.out q e2).2; omega))
    have hown4g := hown4f.kept hga (own_ne3 (fun q e1 e2 => by have := hlt4.out q e1; have := (hlt5.out q e2).1; omega))
    have hBa : Below w.heap.size w wa := hB9.grown hga hB9.size (fun k e => Nat.le_trans hz4 (hlt5.out k e).1)
    have hwa := hBa
    clear hga hown6d hown4f hB9 hown5e
    have HQ : Hid (_) := eqC13 z zn _ hown6e hown4g (by omega)
    go_wp2_with fail
    refine Calls.mono HQ.out ?_
    rintro e wb ⟨rfl, hgb⟩
    have hown6f := own_none hown6e hgb
    have hown4h := own_none hown4g hgb
    have hBb := hBa.grown hgb hBa.size (by simp)
    clear hgb hown6e hown4g hBa
    go_wp2_with fail
    refine (markInsSV _ _ _ 1 _ z (by omega) (by omega) (by omega) hown6f).mono ?_
    rintro e wc ⟨rfl, hown6g, hgc⟩
    have hown4i := hown4h.kept hgc (own_ne3 (fun q e1 e2 => by have := hlt4.out q e1; have := hlt6.out q e2; omega))
    have hBc : Below w.heap.size w wc := hBb.grown hgc hBb.size (fun k e => Nat.le_trans hz5 (hlt6.out k e))
    clear hgc hown6f hown4h hBb
    go_wp2_with fail
    refine (heldInsSV _ _ _ 1 _ (by omega) (by omega) (by omega) hown6g).mono ?_
    rintro e wd ⟨rfl, hgd⟩
    have hown6h := own_none hown6g hgd
    have hown4j := own_none hown4i hgd
    have hBd := hBc.grown hgd hBc.size (by simp)
    have hid := w0.below hBd
    clear hgd hown6g hown4i hBc
    go_wp2_with fail
    refine (toNodeSC a0 len0 cap0 ns0 _ hid hlen).mono ?_
    rintro e we ⟨ve, rfl, howne, _, hbe⟩
    obtain ⟨_, ae, cape, rfl, hine⟩ := own_nodes howne
    have HCe : Hid (len0 ≤ cape ∧ cape ≤ maxLen) := ⟨own_capT howne, own_capM howne⟩
    have hown6i := own_below hown6h hbe
    have hown4k := own_below hown4j hbe
    have hBe := hBd.trans (hbe.mono hBd.size)
    clear howne hbe hBd hown6h hown4j hid
    go_wp2_with fail
    refine Calls.mono (HI.out ae cape _ hine HCe.out.1 HCe.out.2) ?_
    rintro e wf ⟨vf, rfl, hownf, hbf⟩
    have hown6j := own_below hown6i hbf
    have hown4l := own_below hown4k hbf
    have hBf := hBe.trans (hbf.mono hBe.size)
    clear hine hbf hBe hown6i hown4k
    have HQ : Hid (_) := eqC13 z zn _ hownf hown4l (by omega)
    go_wp2_with fail
    refine Calls.mono HQ.out ?_
    rintro e wg ⟨rfl, hgg⟩
    have hown6k := own_none hown6j hgg
    have hBg := hBf.grown hgg hBf.size (by simp)
    clear hgg hownf hown4l hBf hown6j
    go_wp2_with fail
    refine (heldInsSV _ _ _ 1 _ (by omega) (by omega) (by omega) hown6k).mono ?_
    rintro e wh ⟨rfl, hgh⟩
    have hBh := hBg.grown hgh hBg.size (by simp)
    clear hgh hown6k hBg
    go_wp2
    go_ret
    exact ⟨rfl, hBh⟩
  · have HZ : Hid (szN len0 (textsN ns0) 1048576 = -1) := szN_no hz
    go_enter Try.func7, Try.ntmps7
    go_wp2_with fail
    refine (szNodeSC a0 len0 cap0 ns0 1048576 _ w0 (by omega) (by omega) wl0 wm0).mono ?_
    rintro e w2 ⟨rfl, hb2⟩
    rw [HZ.out]
    go_wp2
    go_ret
    exact ⟨rfl, hb2⟩

set_option maxRecDepth 100000 in
theorem lifted (os : Os) (started : os.Started) (H : Type) (enc : TypeId × Value → H) :
    ReturnsInHanded {} Try.checked os 7 .any (Rows.fnExactCompiledSpec.pre6 enc Try.prog Try.f7 Rows.fnExactCompiledRow.domain false) (Rows.fnExactCompiledSpec.post enc Try.prog Try.f7 false true false false) := by
  refine returnsInHanded_of_change (C := Try.checked) own started (by kernel_rfl) Try.func7
    (ChangeSpec.witness6 (enc := enc) (C := Try.checked) false ⟨#[], #[.slice none 0 0], []⟩ 8 (by kernel_rfl) (by kernel_rfl) (by kernel_rfl) (by kernel_rfl)) ?_
  intro W base args ds gs before hval0 hW hcnd _
  have hval : ∀ (j : Nat) t v, Try.f7.params[j]? = some t → args[j]? = some v → Value.okWide Try.prog W .any base t v := hval0
  have hW' := hW
  obtain ⟨p, q, hA0, hV, rfl, hfz, hnd⟩ := hW
  have hA : DataW.TrodAll enc Try.prog W 0 (fun _ => true) true Try.f7.params.toList args.toList ds p := hA0
  rw [Try.params7] at hA hval
  obtain ⟨v0, vs0, d0, ds0, p0, q0, hargs, rfl, rfl, h0, r0⟩ := trodAll_cons hA
  obtain ⟨rfl, rfl, rfl⟩ := trodAll_nil r0
  obtain rfl : args = #[v0] := by cases args; simp_all
  obtain ⟨rfl, rfl⟩ := trodVars_none hV
  have k0 := h0
  have lt0 : ∀ x ∈ p0, x.block < W.heap.size := by obtain ⟨m, hm⟩ := k0; exact DataW.trod_lt m _ _ _ hm
  obtain ⟨a0, len0, cap0, ns0, rfl, w0, wl0, wm0, wi0⟩ := open_nodes (hval 0 34 v0 rfl rfl) h0
  clear hA0 hval0
  refine (walk a0 len0 cap0 ns0 W w0 wl0 wm0 wi0).mono fun e W' ⟨he, bel⟩ => ?_
  subst he
  exact ⟨_, rfl, _, _, _, [], _, [], hW', trodAll_mk1 (shut_bool Try.underlying4 _), (trodAll_cons_mk (Below.trod laidOut (by kernel_rfl) (of_decide_eq_true (by kernel_rfl)) k0 bel lt0) trodAll_mk0), rfl, bel.frame _, fun h => by cases h⟩

theorem over : Rows.fnExactCompiledRow.holds Try.pinned (OpenSpec.ofChange Rows.fnExactCompiledSpec) :=
  OpenClaim.holds_of_wide 7 Try.f7 rfl rfl rfl rfl rfl rfl rfl ⟨rfl, rfl, rfl, rfl, rfl⟩ rfl rfl rfl rfl rfl (by kernel_rfl) Try.func7 (by kernel_rfl)
    (of_decide_eq_true (by kernel_rfl)) (by unfold Func.isWrapper; first | (rw [if_pos (by decide +kernel)]; kernel_rfl) | (rw [if_neg (by decide +kernel)]; exact ⟨rfl, rfl⟩))
    (fun os started H enc _ => lifted os started H enc)

theorem proved : Rows.FnExactCompiledSaid :=
  over
#print axioms proved
end Go.Proofs.Ytnpbckgaeaameaa.fnExactCompiled
