/-
  FnExactShowImage returns true at every image and leaves it as it was: impl.ShowImage answers as spec.ShowImage.
-/
import Derived.Test.YtfhkiaogfopigaaGreatDoorRows
import Derived.Test.YtfhkiaogfopigaaGreatDoorCards
import Derived.Test.YtfhkiaogfopigaaGreatDoorTie
import Derived.Test.YtfhkiaogfopigaaGreatDoorP1
import Derived.Test.YtfhkiaogfopigaaGreatDoorP2
import Derived.Test.YtfhkiaogfopigaaGreatDoorP3
import Derived.Test.YtfhkiaogfopigaaGreatDoorP4
import Derived.Test.YtfhkiaogfopigaaGreatDoorP5
import Derived.Test.YtfhkiaogfopigaaGreatDoorP6
import Derived.Test.YtfhkiaogfopigaaGreatDoorP7
import Derived.Test.YtfhkiaogfopigaaGreatDoorP8
import Derived.Test.YtfhkiaogfopigaaGreatDoorP9
import Derived.Test.YtfhkiaogfopigaaGreatDoorP10
import Derived.Test.YtfhkiaogfopigaaGreatDoorP11
import Derived.Test.YtfhkiaogfopigaaGreatDoorP12
import Derived.Test.YtfhkiaogfopigaaGreatDoorP13
import Derived.Test.YtfhkiaogfopigaaGreatDoorP14
import Derived.Test.YtfhkiaogfopigaaGreatDoorP15
import Derived.WalkKit
import Derived.Deep.RegionHeld3
import Derived.ProofKit
import Derived.OpenShut
import Derived.ShutString
import Derived.ChangeOld
import Derived.Below
import Derived.LaidLaws
import Derived.LaidHandle
import Derived.Lay
import Derived.MakeChecks
import Derived.Lib.LaidTab
import Derived.Stop.Joined
import Derived.SevenTiedAt
namespace Go.Proofs.YtfhkiaogfopigaaGreatDoor.fnExactShowImage
open Go.ChangeShapes Go.WideShapes Go.ChangeAt Go.RowKit
open Go.ChangeMaps (open_string shut_string)
set_option linter.unusedVariables false

theorem own : ownKnob Tryz.prog.godebug = none := by kernel_rfl
theorem laidOut : laidOutB Tryz.prog = true := by kernel_rfl

/-! The walk: the law returns true and writes nothing that was there. -/
set_option maxHeartbeats 8000000 in
set_option maxRecDepth 1000000 in
theorem walk (a0 : Option Addr) (len0 cap0 : Nat) (rs0 : List Rt) (w : World) (w0 : RtsIn w a0 len0 rs0) (wl0 : len0 ≤ maxLen) (wm0 : LongR rs0) (wi0 : IntR rs0) (hT : PowIs w) :
    Calls Tryz.prog 3 #[.agg #[.slice a0 len0 cap0]] w fun e w' => e = .returned (.bool true) ∧ Below w.heap.size w w' := by
  have HTW : Hid (∀ X, Below w.heap.size w X → PowIs X) := fun X hX => hT.below hX
  obtain rfl : rs0.length = len0 := w0.1
  obtain ⟨W, hW⟩ : ∃ W, w.alloc (.cells #[.slice a0 rs0.length cap0] 24) = W := ⟨_, rfl⟩
  have hB0 : Below w.heap.size w W := by rw [← hW]; exact (Below.refl _ w).alloc (Nat.le_refl _) _
  have hA := heap_alloc_new w (.cells #[.slice a0 rs0.length cap0] 24)
  rw [hW] at hA
  have HR : Hid (∀ V, Below W.heap.size W V → RtsIn V a0 rs0.length rs0) := fun V h => (w0.below hB0).below h
  obtain ⟨D, hD0⟩ : ∃ D, w.heap.size = D := ⟨_, rfl⟩
  rw [hD0] at hA hB0
  have k0 : W.cell? ⟨D, 0, none⟩ = some (.slice a0 rs0.length cap0) := cell_of_one hA
  have hDl : D < W.heap.size := lt_of_block hA
  have HK : Hid (∀ V, Below W.heap.size W V → V.cell? ⟨D, 0, none⟩ = some (.slice a0 rs0.length cap0)) := fun V h => (h.cell (p := ⟨D, 0, none⟩) hDl).trans (cell_of_one hA)
  have HB : Hid (∀ V, Below W.heap.size W V → Below w.heap.size w V) := fun V h => by rw [hD0]; exact hB0.trans (h.mono (by have := hB0.size; omega))
  have hV : Below W.heap.size W W := Below.refl _ _
  clear w0 hA hB0
  by_cases hz : ((rs0.length + rtsSz rs0 : Nat) : Int) ≤ 1048576
  · have HZ : Hid (szR (rs0.length + rtsSz rs0) 1048576 = 1048576 - ((rs0.length + rtsSz rs0 : Nat) : Int)) := szR_yes hz
    obtain ⟨hln, hsh⟩ := rt_small (by omega : rs0.length + rtsSz rs0 ≤ 1048576)
    have hge : (0 : Int) ≤ 1048576 - ((rs0.length + rtsSz rs0 : Nat) : Int) := by omega
    have HSh : Hid (ShortR rs0) := hsh
    have HS2 : Hid (∀ j, (rs0.getD j rt0).2.2.length ≤ 1048576) := fun j => (hsh j).2.1
    have HS4 : Hid (∀ j, (rs0.getD j rt0).2.2.length ≤ 4194304) := fun j => Nat.le_trans (hsh j).2.1 (by omega)
    obtain ⟨z, hz2⟩ : ∃ z, showIm rs0 = z := ⟨_, rfl⟩
    have HSp : Hid (_) := fun (g : Nat) (V : World) (h : RtsIn V (some ⟨g, 0, none⟩) rs0.length rs0) => specShowImage (some ⟨g, 0, none⟩) rs0.length rs0.length rs0 V h HSh.out hln
    have HIm : Hid (_) := fun (g : Nat) (V : World) (h : RtsCap V (some ⟨g, 0, none⟩) rs0.length rs0.length rs0) (t : PowIs V) => implShowImage (some ⟨g, 0, none⟩) rs0.length rs0.length rs0 V ⟨h, wi0, HSh.out, hln⟩ t
    rw [hz2] at HSp HIm
    have hne : (z != z) = false := by simp
    clear hz2 hsh
    generalize ((rs0.length + rtsSz rs0 : Nat) : Int) = sz at HZ hge hz
    go_enter Tryz.func3, Tryz.ntmps3
    go_wp2_with fail
    refine (szImageC a0 rs0.length cap0 rs0 1048576 _ (HR.out _ hV) (by omega) (by omega) wl0 wm0).mono ?_
    rintro e w1 ⟨rfl, hb1⟩
    rw [HZ.out]
    replace hV := hV.trans (hb1.mono hV.size)
    replace k0 := HK.out _ hV
    clear hb1
    go_wp2_with fail
    refine (toImageC a0 rs0.length cap0 rs0 _ (HR.out _ hV) hln HS2.out).mono ?_
    rintro e w2 ⟨g2, xs2, rfl, hxs2, hof2, hap2, hb2⟩
    have hc2 := hof2.cap hxs2 rfl
    replace hV := hV.trans (hb2.mono hV.size)
    replace k0 := HK.out _ hV
    clear hb2 hof2 hap2 hxs2
    go_wp2_with fail
    refine Calls.mono (HSp.out _ _ hc2.in) ?_
    rintro e w3 ⟨rfl, hb3⟩
    replace hV := hV.trans (hb3.mono hV.size)
    replace k0 := HK.out _ hV
    clear hb3 hc2
    go_wp2_with fail
    refine (toImageC a0 rs0.length cap0 rs0 _ (HR.out _ hV) hln HS2.out).mono ?_
    rintro e w4 ⟨g4, xs4, rfl, hxs4, hof4, hap4, hb4⟩
    have hc4 := hof4.cap hxs4 rfl
    replace hV := hV.trans (hb4.mono hV.size)
    replace k0 := HK.out _ hV
    clear hb4 hof4 hap4 hxs4
    obtain ⟨P, hP0⟩ : ∃ P, w4.heap.size = P := ⟨_, rfl⟩
    obtain ⟨w5, hw5⟩ : ∃ V, w4.alloc (.cells #[.slice (some ⟨g4, 0, none⟩) rs0.length rs0.length] 29) = V := ⟨_, rfl⟩
    have hb5 : Below w4.heap.size w4 w5 := by rw [← hw5]; exact (Below.refl _ _).alloc (Nat.le_refl _) _
    have hA5 := heap_alloc_new w4 (.cells #[.slice (some ⟨g4, 0, none⟩) rs0.length rs0.length] 29)
    rw [hw5, hP0] at hA5
    have hP5 : P < w5.heap.size := lt_of_block hA5
    have HQ : Hid (∀ V, Below w5.heap.size w5 V → V.cell? ⟨P, 0, none⟩ = some (.slice (some ⟨g4, 0, none⟩) rs0.length rs0.length) ∧ RtsCap V (some ⟨g4, 0, none⟩) rs0.length rs0.length rs0) := fun V h => ⟨(h.cell (p := ⟨P, 0, none⟩) hP5).trans (cell_of_one hA5), (hc4.below hb5).below h⟩
    have hQ : Below w5.heap.size w5 w5 := Below.refl _ _
    have q0 := (HQ.out _ hQ).1
    replace hV := hV.trans (hb5.mono hV.size)
    replace k0 := HK.out _ hV
    clear hb5 hc4 hA5 hP5
    go_wp2_with fail
    refine Calls.mono (HIm.out _ _ (HQ.out _ hQ).2 (HTW.out _ (HB.out _ hV))) ?_
    rintro e w6 ⟨rfl, hb6⟩
    replace hV := hV.trans (hb6.mono hV.size)
    replace hQ := hQ.trans (hb6.mono hQ.size)
    replace k0 := HK.out _ hV
    replace q0 := (HQ.out _ hQ).1
    clear hb6
    go_wp2_with fail
    replace hV := hV.drew
    replace hQ := hQ.drew
    go_region_held3 (fun w' => w'.cell? ⟨D, 0, none⟩ = some (.slice a0 rs0.length cap0) ∧ w'.cell? ⟨P, 0, none⟩ = some (.slice (some ⟨g4, 0, none⟩) rs0.length rs0.length)) (go_keep) (first
      | (go_at_call 9; refine (toImageC a0 rs0.length cap0 rs0 _ (HR.out _ hV) hln HS2.out).mono ?_; rintro e wn ⟨g7, xs7, rfl, hxs7, hof7, _, hbn⟩; have hc7 := hof7.cap hxs7 rfl; replace hV := hV.trans (hbn.mono hV.size); replace hQ := hQ.trans (hbn.mono hQ.size); replace k0 := HK.out _ hV; replace q0 := (HQ.out _ hQ).1; clear hbn hof7 hxs7)
      | (go_at_call 11; refine (eqImageC (some ⟨g4, 0, none⟩) (some ⟨g7, 0, none⟩) rs0.length rs0.length rs0.length rs0 _ (HQ.out _ hQ).2.in hc7.in (by omega) HS4.out).mono ?_; rintro e wn ⟨rfl, hbn⟩; replace hV := hV.trans (hbn.mono hV.size); replace hQ := hQ.trans (hbn.mono hQ.size); replace k0 := HK.out _ hV; replace q0 := (HQ.out _ hQ).1; clear hbn))
    all_goals
      go_wp2
      go_ret
      exact ⟨rfl, HB.out _ hV⟩
  · have HZ : Hid (szR (rs0.length + rtsSz rs0) 1048576 = -1) := szR_no hz
    go_enter Tryz.func3, Tryz.ntmps3
    go_wp2_with fail
    refine (szImageC a0 rs0.length cap0 rs0 1048576 _ (HR.out _ hV) (by omega) (by omega) wl0 wm0).mono ?_
    rintro e w1 ⟨rfl, hb1⟩
    rw [HZ.out]
    replace hV := hV.trans (hb1.mono hV.size)
    clear hb1
    go_wp2
    go_ret
    exact ⟨rfl, HB.out _ hV⟩

/-- What the listed variables give the walk: the table of powers of ten. -/
theorem pow_of_laid {W : World} (h : laidMetH Tryz.prog Rows.fnExactShowImageRow.laid W) : PowIs W := by
  rw [MakeChecks.laidMetH_plain _ _ _ (by kernel_rfl)] at h
  obtain ⟨ps, ⟨g0, t0, cs0, f0, p0, q0, hg0, ht0, hv0, hd0, ⟨g1, t1, cs1, f1, p1, q1, hg1, ht1, hv1, hd1, ⟨g2, t2, cs2, f2, p2, q2, hg2, ht2, hv2, hd2, _, _⟩, _⟩, _⟩, _, _⟩ := h
  obtain ⟨g, hg⟩ := Option.isSome_iff_exists.1 powAt
  obtain rfl := Option.some.inj (hg.symm.trans hg2)
  exact pow_of_cells hg ht2 hv2 hd2

set_option maxRecDepth 100000 in
theorem lifted (os : Os) (started : os.Started) (H : Type) (enc : TypeId × Value → H) :
    ReturnsInHanded {} Tryz.checked os 3 .any (fun w args => (Rows.fnExactShowImageSpec.pre enc Tryz.prog Tryz.f3 [] false w args ∧ laidMetH Tryz.prog Rows.fnExactShowImageRow.laid w) ∧ sizedMet enc Tryz.prog Tryz.f3 (OpenSpec.ofChange Rows.fnExactShowImageSpec) false w args)
      (Rows.fnExactShowImageSpec.post enc Tryz.prog Tryz.f3 false true false false) := by
  refine returnsInHanded_of_change_and (C := Tryz.checked) (X := fun w _ => laidMetH Tryz.prog Rows.fnExactShowImageRow.laid w) (fun _ _ _ hh h => h.of_heap hh) own started (by kernel_rfl) Tryz.func3
    (ChangeSpec.witness_shaped (enc := enc) (C := Tryz.checked) (os := os) (X := fun w _ => laidMetH Tryz.prog Rows.fnExactShowImageRow.laid w) false (World.laidAll Tryz.prog os Rows.fnExactShowImageRow.laid) #[.agg #[.slice none 0 0]] 8 (World.laidAll_os _ _ _)
      (World.shaped_of_ZipB (by kernel_rfl) (by kernel_rfl)) (by kernel_rfl) (by kernel_rfl) (by kernel_rfl)
      (by rw [MakeChecks.laidMetH_plain _ _ _ (by kernel_rfl)]; exact laidMet_laidAll _ (by kernel_rfl) (by kernel_rfl))) ?_
  intro W base args ds gs before hval0 hW _ _ hL _
  have hval : ∀ (j : Nat) t v, Tryz.f3.params[j]? = some t → args[j]? = some v → Value.okWide Tryz.prog W .any base t v := hval0
  have hW' := hW
  obtain ⟨p, q, hA0, hV, rfl, hfz, hnd⟩ := hW
  have hA : DataW.TrodAll enc Tryz.prog W 0 (fun _ => true) true Tryz.f3.params.toList args.toList ds p := hA0
  rw [Tryz.params3] at hA hval
  obtain ⟨v0, vs0, d0, ds0, p0, q0, hargs, rfl, rfl, h0, r0⟩ := trodAll_cons hA
  obtain ⟨rfl, rfl, rfl⟩ := trodAll_nil r0
  obtain rfl : args = #[v0] := by cases args; simp_all
  obtain ⟨rfl, rfl⟩ := trodVars_none hV
  have k0 := h0
  have lt0 : ∀ x ∈ p0, x.block < W.heap.size := by obtain ⟨m, hm⟩ := k0; exact DataW.trod_lt m _ _ _ hm
  obtain ⟨a0, len0, cap0, rs0, rfl, w0, wl0, wm0, wi0⟩ := open_image (hval 0 24 v0 rfl rfl) h0
  clear hA0 hval0
  refine (walk a0 len0 cap0 rs0 W w0 wl0 wm0 wi0 (pow_of_laid hL)).mono fun e W' ⟨he, bel⟩ => ?_
  subst he
  exact ⟨_, rfl, _, _, _, [], _, [], hW', trodAll_mk1 (shut_bool Tryz.underlying4 _), (trodAll_cons_mk (Below.trod laidOut (by kernel_rfl) (of_decide_eq_true (by kernel_rfl)) k0 bel lt0) trodAll_mk0), rfl, bel.frame _, fun h => by cases h⟩

theorem over : Rows.fnExactShowImageRow.holds Tryz.pinned (OpenSpec.ofChange Rows.fnExactShowImageSpec) :=
  OpenClaim.holds_of_wide 3 Tryz.f3 rfl rfl rfl rfl rfl rfl rfl ⟨rfl, rfl, rfl, rfl, rfl⟩ rfl rfl rfl rfl rfl (by kernel_rfl) Tryz.func3 (by kernel_rfl)
    (of_decide_eq_true (by kernel_rfl)) (by unfold Func.isWrapper; first | (rw [if_pos (by decide +kernel)]; kernel_rfl) | (rw [if_neg (by decide +kernel)]; exact ⟨rfl, rfl⟩))
    (fun os started H enc _ => lifted os started H enc)

/-- The tied card. -/
theorem proved : Rows.FnExactShowImageCardSaid :=
  Claim7.holds_tied_plain_at .later [] [.data, .data, .data] true (true, "9b7f67dbf5a656725ea1351e348513867f995f6ad522b67d4b45a20307b92c6b") false
    over (fun _ h => by cases h) (by kernel_rfl) (fun _ h => by cases h) fnExactShowImage_row_tie rfl ⟨rfl, rfl⟩ (by kernel_rfl) rfl
    (fun f fn hf hfn => by
      obtain rfl : f = 3 := Option.some.inj ((show Tryz.prog.funcNamed Rows.fnExactShowImageRow.func = some 3 by kernel_rfl).symm.trans hf) |>.symm
      obtain rfl : fn = Tryz.f3 := (Option.some.inj (Tryz.func3.symm.trans hfn)).symm
      exact ⟨by kernel_rfl, fun j t ht => by
        rw [Tryz.params3] at ht
        have hm : t ∈ [24] := by simpa using Array.mem_of_getElem? ht
        have hall : ([24].all fun u => !Tryz.prog.wantsStandIn u) = true := by kernel_rfl
        exact (show Tryz.prog.wantsStandIn t = false by simpa using List.all_eq_true.1 hall t hm)⟩)
    (by kernel_rfl)
#print axioms proved
end Go.Proofs.YtfhkiaogfopigaaGreatDoor.fnExactShowImage
