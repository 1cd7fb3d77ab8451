/-
  FnExactImageOk returns true at every image and leaves it as it was: impl.ImageOk answers as spec.ImageOk.
-/
import Derived.Test.YthjemelnbbpdcaaRows
import Derived.Test.YthjemelnbbpdcaaP1
import Derived.Test.YthjemelnbbpdcaaP2
import Derived.Test.YthjemelnbbpdcaaP3
import Derived.Test.YthjemelnbbpdcaaP4
import Derived.Test.YthjemelnbbpdcaaP5
import Derived.Test.YthjemelnbbpdcaaP6
import Derived.Test.YthjemelnbbpdcaaP7
import Derived.Test.YthjemelnbbpdcaaP8
import Derived.Test.YthjemelnbbpdcaaP9
import Derived.Test.YthjemelnbbpdcaaP10
import Derived.Test.YthjemelnbbpdcaaP11
import Derived.Test.YthjemelnbbpdcaaP12
import Derived.Test.YthjemelnbbpdcaaP13
import Derived.Test.YthjemelnbbpdcaaP14
import Derived.Test.YthjemelnbbpdcaaP15
import Derived.Test.YthjemelnbbpdcaaP16
import Derived.Test.YthjemelnbbpdcaaP17
import Derived.Test.YthjemelnbbpdcaaP18
import Derived.Test.YthjemelnbbpdcaaP19
import Derived.Test.YthjemelnbbpdcaaP20
import Derived.Test.YthjemelnbbpdcaaP21
import Derived.Test.YthjemelnbbpdcaaP22
import Derived.Test.YthjemelnbbpdcaaP23
import Derived.WalkKit
import Derived.ProofKit
import Derived.OpenShut
import Derived.ShutString
import Derived.ChangeOld
import Derived.Below
namespace Go.Proofs.Ythjemelnbbpdcaa.fnExactImageOk
open Go.ChangeShapes Go.WideShapes Go.ChangeAt Go.RowKit
open Go.ChangeMaps (open_string shut_string)
set_option linter.unusedVariables false

theorem own : ownKnob Try.prog.godebug = none := by kernel_rfl
theorem laidOut : laidOutB Try.prog = true := by kernel_rfl

/-! The walk: the law returns true and writes nothing that was there. -/
set_option maxHeartbeats 1000000 in
set_option maxRecDepth 1000000 in
theorem walk (a0 : Option Addr) (len0 cap0 : Nat) (rs0 : List Rt) (w : World) (w0 : RtsIn w a0 len0 rs0) (wl0 : len0 ≤ maxLen) (wm0 : LongR rs0) (wi0 : IntR rs0) :
    Calls Try.prog 4 #[.agg #[.slice a0 len0 cap0]] w fun e w' => e = .returned (.bool true) ∧ Below w.heap.size w w' := by
  obtain rfl : rs0.length = len0 := w0.1
  obtain ⟨W, hW⟩ : ∃ W, w.alloc (.cells #[.slice a0 rs0.length cap0] 35) = W := ⟨_, rfl⟩
  have hB0 : Below w.heap.size w W := by rw [← hW]; exact (Below.refl _ w).alloc (Nat.le_refl _) _
  have hA := heap_alloc_new w (.cells #[.slice a0 rs0.length cap0] 35)
  rw [hW] at hA
  have HR : Hid (∀ V, Below W.heap.size W V → RtsIn V a0 rs0.length rs0) := fun V h => (w0.below hB0).below h
  obtain ⟨D, hD0⟩ : ∃ D, w.heap.size = D := ⟨_, rfl⟩
  rw [hD0] at hA hB0
  have k0 : W.cell? ⟨D, 0, none⟩ = some (.slice a0 rs0.length cap0) := cell_of_one hA
  have hDl : D < W.heap.size := lt_of_block hA
  have HK : Hid (∀ V, Below W.heap.size W V → V.cell? ⟨D, 0, none⟩ = some (.slice a0 rs0.length cap0)) := fun V h => (h.cell (p := ⟨D, 0, none⟩) hDl).trans (cell_of_one hA)
  have HB : Hid (∀ V, Below W.heap.size W V → Below w.heap.size w V) := fun V h => by rw [hD0]; exact hB0.trans (h.mono (by have := hB0.size; omega))
  have hV : Below W.heap.size W W := Below.refl _ _
  clear w0 hA hB0
  by_cases hz : ((rs0.length + rtsSz rs0 : Nat) : Int) ≤ 1048576
  · have HZ : Hid (szR (rs0.length + rtsSz rs0) 1048576 = 1048576 - ((rs0.length + rtsSz rs0 : Nat) : Int)) := szR_yes hz
    obtain ⟨hln, hsh⟩ := rt_small (by omega : rs0.length + rtsSz rs0 ≤ 1048576)
    have hge : (0 : Int) ≤ 1048576 - ((rs0.length + rtsSz rs0 : Nat) : Int) := by omega
    have HSh : Hid (ShortR rs0) := hsh
    have HS2 : Hid (∀ j, (rs0.getD j rt0).2.2.length ≤ 1048576) := fun j => (hsh j).2.1
    have HS4 : Hid (∀ j, (rs0.getD j rt0).2.2.length ≤ 4194304) := fun j => Nat.le_trans (hsh j).2.1 (by omega)
    obtain ⟨z, hz2⟩ : ∃ z, imageB rs0 = z := ⟨_, rfl⟩
    have HSp : Hid (_) := fun (g : Nat) (V : World) (h : RtsIn V (some ⟨g, 0, none⟩) rs0.length rs0) => specImageOk (some ⟨g, 0, none⟩) rs0.length rs0.length rs0 V h HSh.out hln
    have HIm : Hid (_) := fun (g : Nat) (V : World) (h : RtsCap V (some ⟨g, 0, none⟩) rs0.length rs0.length rs0) => implImageOk (some ⟨g, 0, none⟩) rs0.length rs0.length rs0 V ⟨h, wi0, HSh.out, hln⟩
    rw [hz2] at HSp HIm
    have hne : (z != z) = false := by simp
    clear hz2 hsh
    generalize ((rs0.length + rtsSz rs0 : Nat) : Int) = sz at HZ hge hz
    go_enter Try.func4, Try.ntmps4
    go_wp2_with fail
    refine (szImageC a0 rs0.length cap0 rs0 1048576 _ (HR.out _ hV) (by omega) (by omega) wl0 wm0).mono ?_
    rintro e w1 ⟨rfl, hb1⟩
    rw [HZ.out]
    replace hV := hV.trans (hb1.mono hV.size)
    replace k0 := HK.out _ hV
    clear hb1
    go_wp2_with fail
    refine (toImageC a0 rs0.length cap0 rs0 _ (HR.out _ hV) hln HS2.out).mono ?_
    rintro e w2 ⟨g2, xs2, rfl, hxs2, hof2, hap2, hb2⟩
    have hc2 := hof2.cap hxs2 rfl
    replace hV := hV.trans (hb2.mono hV.size)
    replace k0 := HK.out _ hV
    clear hb2 hof2 hap2 hxs2
    go_wp2_with fail
    refine Calls.mono (HSp.out _ _ hc2.in) ?_
    rintro e w3 ⟨rfl, hb3⟩
    replace hV := hV.trans (hb3.mono hV.size)
    replace k0 := HK.out _ hV
    clear hb3 hc2
    go_wp2_with fail
    refine (toImageC a0 rs0.length cap0 rs0 _ (HR.out _ hV) hln HS2.out).mono ?_
    rintro e w4 ⟨g4, xs4, rfl, hxs4, hof4, hap4, hb4⟩
    have hc4 := hof4.cap hxs4 rfl
    replace hV := hV.trans (hb4.mono hV.size)
    replace k0 := HK.out _ hV
    clear hb4 hof4 hap4 hxs4
    obtain ⟨P, hP0⟩ : ∃ P, w4.heap.size = P := ⟨_, rfl⟩
    obtain ⟨w5, hw5⟩ : ∃ V, w4.alloc (.cells #[.slice (some ⟨g4, 0, none⟩) rs0.length rs0.length] 26) = V := ⟨_, rfl⟩
    have hb5 : Below w4.heap.size w4 w5 := by rw [← hw5]; exact (Below.refl _ _).alloc (Nat.le_refl _) _
    have hA5 := heap_alloc_new w4 (.cells #[.slice (some ⟨g4, 0, none⟩) rs0.length rs0.length] 26)
    rw [hw5, hP0] at hA5
    have hP5 : P < w5.heap.size := lt_of_block hA5
    have HQ : Hid (∀ V, Below w5.heap.size w5 V → V.cell? ⟨P, 0, none⟩ = some (.slice (some ⟨g4, 0, none⟩) rs0.length rs0.length) ∧ RtsCap V (some ⟨g4, 0, none⟩) rs0.length rs0.length rs0) := fun V h => ⟨(h.cell (p := ⟨P, 0, none⟩) hP5).trans (cell_of_one hA5), (hc4.below hb5).below h⟩
    have hQ : Below w5.heap.size w5 w5 := Below.refl _ _
    have q0 := (HQ.out _ hQ).1
    replace hV := hV.trans (hb5.mono hV.size)
    replace k0 := HK.out _ hV
    clear hb5 hc4 hA5 hP5
    go_wp2_with fail
    refine Calls.mono (HIm.out _ _ (HQ.out _ hQ).2) ?_
    rintro e w6 ⟨rfl, hb6⟩
    replace hV := hV.trans (hb6.mono hV.size)
    replace hQ := hQ.trans (hb6.mono hQ.size)
    replace k0 := HK.out _ hV
    replace q0 := (HQ.out _ hQ).1
    clear hb6
    go_wp2_with fail
    replace hV := hV.drew
    replace hQ := hQ.drew
    go_region_held3 (fun w' => w'.cell? ⟨D, 0, none⟩ = some (.slice a0 rs0.length cap0) ∧ w'.cell? ⟨P, 0, none⟩ = some (.slice (some ⟨g4, 0, none⟩) rs0.length rs0.length)) (go_keep) (first
      | (go_at_call 13; refine (toImageC a0 rs0.length cap0 rs0 _ (HR.out _ hV) hln HS2.out).mono ?_; rintro e wn ⟨g7, xs7, rfl, hxs7, hof7, _, hbn⟩; have hc7 := hof7.cap hxs7 rfl; replace hV := hV.trans (hbn.mono hV.size); replace hQ := hQ.trans (hbn.mono hQ.size); replace k0 := HK.out _ hV; replace q0 := (HQ.out _ hQ).1; clear hbn hof7 hxs7)
      | (go_at_call 15; refine (eqImageC (some ⟨g4, 0, none⟩) (some ⟨g7, 0, none⟩) rs0.length rs0.length rs0.length rs0 _ (HQ.out _ hQ).2.in hc7.in (by omega) HS4.out).mono ?_; rintro e wn ⟨rfl, hbn⟩; replace hV := hV.trans (hbn.mono hV.size); replace hQ := hQ.trans (hbn.mono hQ.size); replace k0 := HK.out _ hV; replace q0 := (HQ.out _ hQ).1; clear hbn))
    all_goals
      go_wp2
      go_ret
      exact ⟨rfl, HB.out _ hV⟩
  · have HZ : Hid (szR (rs0.length + rtsSz rs0) 1048576 = -1) := szR_no hz
    go_enter Try.func4, Try.ntmps4
    go_wp2_with fail
    refine (szImageC a0 rs0.length cap0 rs0 1048576 _ (HR.out _ hV) (by omega) (by omega) wl0 wm0).mono ?_
    rintro e w1 ⟨rfl, hb1⟩
    rw [HZ.out]
    replace hV := hV.trans (hb1.mono hV.size)
    clear hb1
    go_wp2
    go_ret
    exact ⟨rfl, HB.out _ hV⟩

set_option maxRecDepth 100000 in
theorem lifted (os : Os) (started : os.Started) (H : Type) (enc : TypeId × Value → H) :
    ReturnsInHanded {} Try.checked os 4 .any (Rows.fnExactImageOkSpec.pre6 enc Try.prog Try.f4 Rows.fnExactImageOkRow.domain false) (Rows.fnExactImageOkSpec.post enc Try.prog Try.f4 false true false false) := by
  refine returnsInHanded_of_change (C := Try.checked) own started (by kernel_rfl) Try.func4
    (ChangeSpec.witness6 (enc := enc) (C := Try.checked) false ⟨#[], #[.agg #[.slice none 0 0]], []⟩ 8 (by kernel_rfl) (by kernel_rfl) (by kernel_rfl) (by kernel_rfl)) ?_
  intro W base args ds gs before hval0 hW hcnd _
  have hval : ∀ (j : Nat) t v, Try.f4.params[j]? = some t → args[j]? = some v → Value.okWide Try.prog W .any base t v := hval0
  have hW' := hW
  obtain ⟨p, q, hA0, hV, rfl, hfz, hnd⟩ := hW
  have hA : DataW.TrodAll enc Try.prog W 0 (fun _ => true) true Try.f4.params.toList args.toList ds p := hA0
  rw [Try.params4] at hA hval
  obtain ⟨v0, vs0, d0, ds0, p0, q0, hargs, rfl, rfl, h0, r0⟩ := trodAll_cons hA
  obtain ⟨rfl, rfl, rfl⟩ := trodAll_nil r0
  obtain rfl : args = #[v0] := by cases args; simp_all
  obtain ⟨rfl, rfl⟩ := trodVars_none hV
  have k0 := h0
  have lt0 : ∀ x ∈ p0, x.block < W.heap.size := by obtain ⟨m, hm⟩ := k0; exact DataW.trod_lt m _ _ _ hm
  obtain ⟨a0, len0, cap0, rs0, rfl, w0, wl0, wm0, wi0⟩ := open_image (hval 0 35 v0 rfl rfl) h0
  clear hA0 hval0
  refine (walk a0 len0 cap0 rs0 W w0 wl0 wm0 wi0).mono fun e W' ⟨he, bel⟩ => ?_
  subst he
  exact ⟨_, rfl, _, _, _, [], _, [], hW', trodAll_mk1 (shut_bool Try.underlying4 _), (trodAll_cons_mk (Below.trod laidOut (by kernel_rfl) (of_decide_eq_true (by kernel_rfl)) k0 bel lt0) trodAll_mk0), rfl, bel.frame _, fun h => by cases h⟩

theorem over : Rows.fnExactImageOkRow.holds Try.pinned (OpenSpec.ofChange Rows.fnExactImageOkSpec) :=
  OpenClaim.holds_of_wide 4 Try.f4 rfl rfl rfl rfl rfl rfl rfl ⟨rfl, rfl, rfl, rfl, rfl⟩ rfl rfl rfl rfl rfl (by kernel_rfl) Try.func4 (by kernel_rfl)
    (of_decide_eq_true (by kernel_rfl)) (by unfold Func.isWrapper; first | (rw [if_pos (by decide +kernel)]; kernel_rfl) | (rw [if_neg (by decide +kernel)]; exact ⟨rfl, rfl⟩))
    (fun os started H enc _ => lifted os started H enc)

theorem proved : Rows.FnExactImageOkSaid :=
  over
#print axioms proved
end Go.Proofs.Ythjemelnbbpdcaa.fnExactImageOk
