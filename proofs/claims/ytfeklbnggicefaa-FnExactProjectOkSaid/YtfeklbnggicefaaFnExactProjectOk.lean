/-
  FnExactProjectOk returns true at every list of packages and leaves it as it was: impl.ProjectOk answers as spec.ProjectOk.
-/
import Derived.Test.YtfeklbnggicefaaRows
import Derived.Test.YtfeklbnggicefaaP1
import Derived.Test.YtfeklbnggicefaaP2
import Derived.Test.YtfeklbnggicefaaP3
import Derived.Test.YtfeklbnggicefaaP4
import Derived.Test.YtfeklbnggicefaaP5
import Derived.Test.YtfeklbnggicefaaP6
import Derived.Test.YtfeklbnggicefaaP7
import Derived.Test.YtfeklbnggicefaaP8
import Derived.Test.YtfeklbnggicefaaP9
import Derived.Test.YtfeklbnggicefaaP10
import Derived.Test.YtfeklbnggicefaaP11
import Derived.Test.YtfeklbnggicefaaP12
import Derived.Test.YtfeklbnggicefaaP13
import Derived.Test.YtfeklbnggicefaaP14
import Derived.Test.YtfeklbnggicefaaP15
import Derived.Test.YtfeklbnggicefaaP16
import Derived.Test.YtfeklbnggicefaaP17
import Derived.Test.YtfeklbnggicefaaP18
import Derived.Test.YtfeklbnggicefaaP19
import Derived.Test.YtfeklbnggicefaaP20
import Derived.Test.YtfeklbnggicefaaP21
import Derived.Test.YtfeklbnggicefaaP22
import Derived.Test.YtfeklbnggicefaaP23
import Derived.Test.YtfeklbnggicefaaP24
import Derived.Test.YtfeklbnggicefaaP25
import Derived.Test.YtfeklbnggicefaaP26
import Derived.WalkKit
import Derived.ProofKit
import Derived.OpenShut
import Derived.ShutString
import Derived.ChangeOld
import Derived.Below
namespace Go.Proofs.Ytfeklbnggicefaa.fnExactProjectOk
open Go.ChangeShapes Go.WideShapes Go.ChangeAt Go.RowKit
open Go.ChangeMaps (open_string shut_string)
set_option linter.unusedVariables false

theorem own : ownKnob Try.prog.godebug = none := by kernel_rfl
theorem laidOut : laidOutB Try.prog = true := by kernel_rfl

/-! The walk: the law returns true and writes nothing that was there. -/
set_option maxHeartbeats 1000000 in
set_option maxRecDepth 1000000 in
theorem walk (a0 : Option Addr) (len0 cap0 : Nat) (ps0 : List Pk) (w : World) (w0 : PkgsIn w a0 len0 ps0) (wl0 : len0 ≤ maxLen) (wm0 : LongPs ps0) (wi0 : IntPs ps0) :
    Calls Try.prog 4 #[.slice a0 len0 cap0] w fun e w' => e = .returned (.bool true) ∧ Below w.heap.size w w' := by
  obtain rfl : ps0.length = len0 := w0.1
  have HI : Hid (PkgsIn w a0 ps0.length ps0) := w0
  have HC0 := szPackageSC a0 ps0.length cap0 ps0 1048576 w w0 (by omega) (by omega) wl0 wm0
  by_cases hz : ((ps0.length + psSz ps0 : Nat) : Int) ≤ 1048576
  rotate_left
  · rw [szM_no hz] at HC0
    clear w0 wm0 wi0
    go_enter Try.func4, Try.ntmps4
    go_wp2_with fail
    refine HC0.mono ?_
    rintro e w1 ⟨rfl, hb1⟩
    go_wp2
    go_ret
    exact ⟨rfl, hb1⟩
  rw [szM_yes hz] at HC0
  have hge : (0 : Int) ≤ 1048576 - ((ps0.length + psSz ps0 : Nat) : Int) := by omega
  have hln : ps0.length ≤ 1048576 := by omega
  have HSZ : Hid (ps0.length + psSz ps0 ≤ 1048576) := by exact (by omega : ps0.length + psSz ps0 ≤ 1048576)
  have hsh : ShortPs ps0 := shortPs_of (by omega)
  have HSH : Hid (ShortPs ps0) := hsh
  have HIN : Hid (IntPs ps0) := wi0
  have HTo : Hid (_) := fun (V : World) (h : PkgsIn V a0 ps0.length ps0) => toPackageSC a0 ps0.length cap0 ps0 V h hln hsh
  generalize 1048576 - ((ps0.length + psSz ps0 : Nat) : Int) = left at HC0 hge
  clear w0 wm0 wi0 hsh hz wl0
  have hself : ∀ n : Int, (n != n) = false := by simp
  have hselfb : ∀ b : Bool, (b != b) = false := by simp
  have HS : Hid (_) := fun (V : World) (g : Nat) (h : PkgsOk V (some ⟨g, 0, none⟩) ps0.length ps0.length ps0) => specProjectOk (some ⟨g, 0, none⟩) ps0.length ps0.length ps0 V h.in hln HSH.out
  have HIm : Hid (_) := fun (V : World) (g : Nat) (h : PkgsOk V (some ⟨g, 0, none⟩) ps0.length ps0.length ps0) => implProjectOk (some ⟨g, 0, none⟩) ps0.length ps0.length ps0 V h
  obtain ⟨z, hz⟩ : ∃ z, projB ps0 = z := ⟨_, rfl⟩
  rw [hz] at HS HIm
  clear hz
  go_enter Try.func4, Try.ntmps4
  go_wp2_with fail
  refine HC0.mono ?_
  rintro e w1 ⟨rfl, hb1⟩
  have hB := hb1
  clear HC0
  go_wp2_with fail
  refine Calls.mono (HTo.out _ (HI.out.below hB)) ?_
  rintro e w2 ⟨rfl, ys2, hy2, hp2, hb2⟩
  have hs2 := hB.size
  obtain ⟨G2, hG2⟩ : ∃ G, w1.heap.size = G := ⟨_, rfl⟩
  rw [hG2] at hp2 hs2
  have ok2 : PkgsOk w2 (some ⟨G2, 0, none⟩) ps0.length ps0.length ps0 := hp2.ok hy2 HIN.out HSH.out rfl hln
  have hB2 := hB.trans (hb2.mono hB.size)
  clear hp2 hy2 hb2
  go_wp2_with fail
  refine Calls.mono (HS.out _ _ ok2) ?_
  rintro e w3 ⟨rfl, hb3⟩
  replace hB := hB2.trans (hb3.mono hB2.size)
  clear ok2 hB2 hb3 hs2 hG2 hb1
  go_wp2_with fail
  refine Calls.mono (HTo.out _ (HI.out.below hB)) ?_
  rintro e w4 ⟨rfl, ys4, hy4, hp4, hb4⟩
  have hs4 := hB.size
  obtain ⟨G4, hG4⟩ : ∃ G, w3.heap.size = G := ⟨_, rfl⟩
  rw [hG4] at hp4 hs4
  have ok4 : PkgsOk w4 (some ⟨G4, 0, none⟩) ps0.length ps0.length ps0 := hp4.ok hy4 HIN.out HSH.out rfl hln
  replace hB := hB.trans (hb4.mono hB.size)
  clear hp4 hy4 hb4
  go_wp2_with fail
  refine Calls.mono (HIm.out _ _ ok4) ?_
  rintro e w5 ⟨rfl, hb5⟩
  have ok5 := ok4.below hb5
  replace hB := hB.trans (hb5.mono hB.size)
  clear ok4 hb5 hs4 hG4
  go_wp2_with fail
  refine Calls.mono (HTo.out _ (HI.out.below hB)) ?_
  rintro e w6 ⟨rfl, ys6, hy6, hp6, hb6⟩
  have hs6 := hB.size
  obtain ⟨G6, hG6⟩ : ∃ G, w5.heap.size = G := ⟨_, rfl⟩
  rw [hG6] at hp6 hs6
  have ok6 : PkgsOk w6 (some ⟨G6, 0, none⟩) ps0.length ps0.length ps0 := hp6.ok hy6 HIN.out HSH.out rfl hln
  have ok5b := ok5.below hb6
  replace hB := hB.trans (hb6.mono hB.size)
  have HE : Hid (_) := eqPackageSC (some ⟨G4, 0, none⟩) (some ⟨G6, 0, none⟩) ps0.length ps0.length ps0.length ps0 w6 ok5b.in ok6.in (by omega) HSH.out
  clear hp6 hy6 hb6 ok5 ok5b ok6
  go_wp2_with fail
  refine Calls.mono HE.out ?_
  rintro e w7 ⟨rfl, hb7⟩
  replace hB := hB.trans (hb7.mono hB.size)
  go_wp2
  go_ret
  exact ⟨rfl, hB⟩

set_option maxRecDepth 100000 in
theorem lifted (os : Os) (started : os.Started) (H : Type) (enc : TypeId × Value → H) :
    ReturnsInHanded {} Try.checked os 4 .any (Rows.fnExactProjectOkSpec.pre6 enc Try.prog Try.f4 Rows.fnExactProjectOkRow.domain false) (Rows.fnExactProjectOkSpec.post enc Try.prog Try.f4 false true false false) := by
  refine returnsInHanded_of_change (C := Try.checked) own started (by kernel_rfl) Try.func4
    (ChangeSpec.witness6 (enc := enc) (C := Try.checked) false ⟨#[], #[.slice none 0 0], []⟩ 8 (by kernel_rfl) (by kernel_rfl) (by kernel_rfl) (by kernel_rfl)) ?_
  intro W base args ds gs before hval0 hW hcnd _
  have hval : ∀ (j : Nat) t v, Try.f4.params[j]? = some t → args[j]? = some v → Value.okWide Try.prog W .any base t v := hval0
  have hW' := hW
  obtain ⟨p, q, hA0, hV, rfl, hfz, hnd⟩ := hW
  have hA : DataW.TrodAll enc Try.prog W 0 (fun _ => true) true Try.f4.params.toList args.toList ds p := hA0
  rw [Try.params4] at hA hval
  obtain ⟨v0, vs0, d0, ds0, p0, q0, hargs, rfl, rfl, h0, r0⟩ := trodAll_cons hA
  obtain ⟨rfl, rfl, rfl⟩ := trodAll_nil r0
  obtain rfl : args = #[v0] := by cases args; simp_all
  obtain ⟨rfl, rfl⟩ := trodVars_none hV
  have k0 := h0
  have lt0 : ∀ x ∈ p0, x.block < W.heap.size := by obtain ⟨m, hm⟩ := k0; exact DataW.trod_lt m _ _ _ hm
  obtain ⟨a0, len0, cap0, ps0, rfl, w0, wl0, wm0, wi0⟩ := open_packages (hval 0 34 v0 rfl rfl) h0
  clear hA0 hval0
  refine (walk a0 len0 cap0 ps0 W w0 wl0 wm0 wi0).mono fun e W' ⟨he, bel⟩ => ?_
  subst he
  exact ⟨_, rfl, _, _, _, [], _, [], hW', trodAll_mk1 (shut_bool Try.underlying4 _), (trodAll_cons_mk (Below.trod laidOut (by kernel_rfl) (of_decide_eq_true (by kernel_rfl)) k0 bel lt0) trodAll_mk0), rfl, bel.frame _, fun h => by cases h⟩

theorem over : Rows.fnExactProjectOkRow.holds Try.pinned (OpenSpec.ofChange Rows.fnExactProjectOkSpec) :=
  OpenClaim.holds_of_wide 4 Try.f4 rfl rfl rfl rfl rfl rfl rfl ⟨rfl, rfl, rfl, rfl, rfl⟩ rfl rfl rfl rfl rfl (by kernel_rfl) Try.func4 (by kernel_rfl)
    (of_decide_eq_true (by kernel_rfl)) (by unfold Func.isWrapper; first | (rw [if_pos (by decide +kernel)]; kernel_rfl) | (rw [if_neg (by decide +kernel)]; exact ⟨rfl, rfl⟩))
    (fun os started H enc _ => lifted os started H enc)

theorem proved : Rows.FnExactProjectOkSaid :=
  over
#print axioms proved
end Go.Proofs.Ytfeklbnggicefaa.fnExactProjectOk
