/-
  FnExactShowObject returns true at every object and leaves it as it was: impl.ShowObject answers as spec.ShowObject.
-/
import Derived.Test.YtfhkiaogfopigaaGreatDoorRows
import Derived.Test.YtfhkiaogfopigaaGreatDoorCards
import Derived.Test.YtfhkiaogfopigaaGreatDoorTie
import Derived.Test.YtfhkiaogfopigaaGreatDoorQ1
import Derived.Test.YtfhkiaogfopigaaGreatDoorQ2
import Derived.Test.YtfhkiaogfopigaaGreatDoorQ3
import Derived.Test.YtfhkiaogfopigaaGreatDoorQ4
import Derived.Test.YtfhkiaogfopigaaGreatDoorQ5
import Derived.Test.YtfhkiaogfopigaaGreatDoorQ6
import Derived.Test.YtfhkiaogfopigaaGreatDoorQ7
import Derived.Test.YtfhkiaogfopigaaGreatDoorQ8
import Derived.Test.YtfhkiaogfopigaaGreatDoorQ9
import Derived.Test.YtfhkiaogfopigaaGreatDoorQ10
import Derived.Test.YtfhkiaogfopigaaGreatDoorQ32
import Derived.Test.YtfhkiaogfopigaaGreatDoorQ11
import Derived.Test.YtfhkiaogfopigaaGreatDoorQ12
import Derived.Test.YtfhkiaogfopigaaGreatDoorQ13
import Derived.Test.YtfhkiaogfopigaaGreatDoorQ14
import Derived.Test.YtfhkiaogfopigaaGreatDoorQ15
import Derived.Test.YtfhkiaogfopigaaGreatDoorQ16
import Derived.Test.YtfhkiaogfopigaaGreatDoorQ17
import Derived.Test.YtfhkiaogfopigaaGreatDoorQ20
import Derived.Test.YtfhkiaogfopigaaGreatDoorQ21
import Derived.Test.YtfhkiaogfopigaaGreatDoorQ22
import Derived.Test.YtfhkiaogfopigaaGreatDoorQ23
import Derived.Test.YtfhkiaogfopigaaGreatDoorQ24
import Derived.Test.YtfhkiaogfopigaaGreatDoorQ25
import Derived.Test.YtfhkiaogfopigaaGreatDoorQ28
import Derived.Test.YtfhkiaogfopigaaGreatDoorQ29
import Derived.Test.YtfhkiaogfopigaaGreatDoorQ30
import Derived.Test.YtfhkiaogfopigaaGreatDoorQ31
import Derived.WalkKit
import Derived.Deep.RegionHeld3
import Derived.ProofKit
import Derived.OpenShut
import Derived.ShutString
import Derived.ChangeOld
import Derived.Below
import Derived.LaidLaws
import Derived.LaidHandle
import Derived.Lay
import Derived.MakeChecks
import Derived.Lib.LaidTab
import Derived.Stop.Joined
import Derived.SevenTiedAt
namespace Go.Proofs.YtfhkiaogfopigaaGreatDoor.fnExactShowObject
open Go.ChangeShapes Go.WideShapes Go.ChangeAt Go.RowKit
open Go.ChangeMaps (open_string shut_string)
set_option linter.unusedVariables false

theorem own : ownKnob Tryz.prog.godebug = none := by kernel_rfl
theorem laidOut : laidOutB Tryz.prog = true := by kernel_rfl

/-! The walk: the law returns true and writes nothing that was there. -/
set_option maxHeartbeats 8000000 in
set_option maxRecDepth 1000000 in
theorem walk (nm0 : List UInt8) (ia0 : Option Addr) (il0 ic0 : Nat) (ims0 : List (List UInt8)) (fa0 : Option Addr) (fl0 fc0 : Nat) (fs0 : List Rt) (w : World) (w0 : TextsIn w ia0 il0 ims0) (wf0 : RtsIn w fa0 fl0 fs0) (wn0 : nm0.length ≤ maxLen) (wl0 : il0 ≤ maxLen) (wm0 : ∀ j, (ims0.getD j []).length ≤ maxLen) (wk0 : fl0 ≤ maxLen) (wq0 : LongR fs0) (wi0 : IntR fs0) (hT : PowIs w) :
    Calls Tryz.prog 5 #[.agg #[.string ⟨nm0.toArray⟩, .slice ia0 il0 ic0, .slice fa0 fl0 fc0]] w fun e w' => e = .returned (.bool true) ∧ Below w.heap.size w w' := by
  obtain rfl : ims0.length = il0 := w0.1
  obtain rfl : fs0.length = fl0 := wf0.1
  obtain ⟨W, hW⟩ : ∃ W, w.alloc (.cells #[.string ⟨nm0.toArray⟩, .slice ia0 ims0.length ic0, .slice fa0 fs0.length fc0] 39) = W := ⟨_, rfl⟩
  obtain ⟨st, hB⟩ := ObIn.newL (nm := nm0) (ic := ic0) (fc := fc0) 39 w0 wf0
  rw [hW] at st hB
  obtain ⟨D, hD0⟩ : ∃ D, w.heap.size = D := ⟨_, rfl⟩
  rw [hD0] at st hB
  have hD : Hid (w.heap.size = D) := hD0
  have k0 := st.k0
  have k1 := st.k1
  have k2 := st.k2
  have hDs : D ≤ w.heap.size := Nat.le_of_eq hD0.symm
  clear w0 wf0
  by_cases hz : (obSz nm0 ims0 fs0 : Int) ≤ 1048576
  · have HZ : Hid (szR (obSz nm0 ims0 fs0) 1048576 = 1048576 - (obSz nm0 ims0 fs0 : Int)) := szR_yes hz
    obtain ⟨hil, hfl, hnl, his, hfs⟩ := ob_small (by omega : obSz nm0 ims0 fs0 ≤ 1048576)
    have hge : (0 : Int) ≤ 1048576 - (obSz nm0 ims0 fs0 : Int) := by omega
    have HIS : Hid (∀ i, (ims0.getD i []).length ≤ 1048576) := his
    have HFS : Hid (ShortR fs0) := hfs
    have HFS2 : Hid (∀ j, (fs0.getD j rt0).2.2.length ≤ 1048576) := fun j => (hfs j).2.1
    have HIF : Hid (IntR fs0) := wi0
    clear his hfs wi0
    obtain ⟨z, hz2⟩ : ∃ z, showOb (nm0, ims0, fs0) = z := ⟨_, rfl⟩
    have HS : Hid (_) := fun (a : Option Addr) (c : Nat) (g : Nat) (V : World) (h1 : TextsIn V a ims0.length ims0) (h2 : RtsIn V (some ⟨g, 0, none⟩) fs0.length fs0) => specShowObject nm0 a ims0.length c (some ⟨g, 0, none⟩) fs0.length fs0.length ims0 fs0 V h1 h2 hil hfl hnl HIS.out HFS.out
    have HI : Hid (_) := fun (a : Option Addr) (c : Nat) (g : Nat) (V : World) (h0 : a = none → c = 0) (h1 : TextsIn V a ims0.length ims0) (h2 : RtsCap V (some ⟨g, 0, none⟩) fs0.length fs0.length fs0) (t : PowIs V) => implShowObject nm0 a ims0.length c (some ⟨g, 0, none⟩) fs0.length fs0.length ims0 fs0 V ⟨h1, ⟨h2, HIF.out, HFS.out, hfl⟩, h0, hil, hnl, HIS.out⟩ t
    rw [hz2] at HS HI
    have hne : (z != z) = false := by simp
    clear hz2
    go_enter Tryz.func5, Tryz.ntmps5
    go_wp2_with fail
    refine (szObjectC nm0 ia0 ims0.length ic0 fa0 fs0.length fc0 ims0 fs0 1048576 _ st.i st.f (by omega) (by omega) wn0 wl0 wm0 wk0 wq0).mono ?_
    rintro e w1 ⟨rfl, hb1⟩
    rw [HZ.out]
    replace hB := hB.trans (hb1.mono (Nat.le_trans hDs hB.size))
    replace st := st.below hb1
    replace k0 := st.k0
    replace k1 := st.k1
    replace k2 := st.k2
    clear hb1
    go_wp2_with fail
    refine (toObjectC nm0 ia0 ims0.length ic0 fa0 fs0.length fc0 ims0 fs0 _ st.i st.f hil hfl HFS2.out).mono ?_
    rintro e w2 ⟨a2, c2, g2, xs2, rfl, hxs2, hoi2, hof2, hap2, hb2⟩
    obtain ⟨_, _, e2, hic2, hit2⟩ := own_textsO hoi2
    injection e2 with e1 _ e3
    subst e1 e3
    have hif2 : RtsIn w2 (some ⟨g2, 0, none⟩) fs0.length fs0 := by
      obtain ⟨_, _, e4, _, hq⟩ := hof2.in
      have hl : xs2.length = fs0.length := by rw [← hxs2, List.length_map]
      rw [hl] at e4 hq
      injection e4 with e5
      rw [← e5, hxs2] at hq
      exact hq
    replace hB := hB.trans (hb2.mono (Nat.le_trans hDs hB.size))
    replace st := st.below hb2
    replace k0 := st.k0
    replace k1 := st.k1
    replace k2 := st.k2
    clear hb2 hoi2 hof2 hap2 hxs2 hic2
    go_wp2_with fail
    refine Calls.mono (HS.out _ _ _ _ hit2 hif2) ?_
    rintro e w3 ⟨rfl, hb3⟩
    replace hB := hB.trans (hb3.mono (Nat.le_trans hDs hB.size))
    replace st := st.below hb3
    replace k0 := st.k0
    replace k1 := st.k1
    replace k2 := st.k2
    clear hb3 hit2 hif2
    go_wp2_with fail
    refine (toObjectC nm0 ia0 ims0.length ic0 fa0 fs0.length fc0 ims0 fs0 _ st.i st.f hil hfl HFS2.out).mono ?_
    rintro e w4 ⟨a4, c4, g4, xs4, rfl, hxs4, hoi4, hof4, hap4, hb4⟩
    obtain ⟨_, _, e4, hic4, hit4⟩ := own_textsO hoi4
    injection e4 with e1 _ e3
    subst e1 e3
    have hif4 : RtsIn w4 (some ⟨g4, 0, none⟩) fs0.length fs0 := by
      obtain ⟨_, _, e4, _, hq⟩ := hof4.in
      have hl : xs4.length = fs0.length := by rw [← hxs4, List.length_map]
      rw [hl] at e4 hq
      injection e4 with e5
      rw [← e5, hxs4] at hq
      exact hq
    replace hB := hB.trans (hb4.mono (Nat.le_trans hDs hB.size))
    replace st := st.below hb4
    replace k0 := st.k0
    replace k1 := st.k1
    replace k2 := st.k2
    have hc4 := hof4.cap hxs4 rfl
    clear hb4 hap4 hoi4 hof4 hxs4
    obtain ⟨P, hP0⟩ : ∃ P, w4.heap.size = P := ⟨_, rfl⟩
    obtain ⟨w5, hw5⟩ : ∃ W, w4.alloc (.cells #[.string ⟨nm0.toArray⟩, .slice a4 ims0.length c4, .slice (some ⟨g4, 0, none⟩) fs0.length fs0.length] 43) = W := ⟨_, rfl⟩
    obtain ⟨sx, hb5⟩ := ObIn.newL (nm := nm0) (ic := c4) (fc := fs0.length) 43 hit4 hif4
    rw [hw5] at sx hb5
    rw [hP0] at sx
    replace hB := hB.trans (hb5.mono (Nat.le_trans hDs hB.size))
    replace st := st.below hb5
    replace k0 := st.k0
    replace k1 := st.k1
    replace k2 := st.k2
    replace hc4 := hc4.below hb5
    clear hb5 hit4 hif4
    have q0 := sx.k0
    have q1 := sx.k1
    have q2 := sx.k2
    go_wp2_with fail
    refine Calls.mono (HI.out _ _ _ _ hic4 sx.i hc4 (hT.below (by rw [hD.out]; exact hB))) ?_
    rintro e w6 ⟨rfl, hb6⟩
    replace hB := hB.trans (hb6.mono (Nat.le_trans hDs hB.size))
    replace st := st.below hb6
    replace k0 := st.k0
    replace k1 := st.k1
    replace k2 := st.k2
    replace sx := sx.below hb6
    replace q0 := sx.k0
    replace q1 := sx.k1
    replace q2 := sx.k2
    clear hb6
    go_wp2_with fail
    replace st := st.drew
    replace sx := sx.drew
    replace hB := hB.drew
    go_region_held3 (fun w' => w'.cell? ⟨D, 0, none⟩ = some (.string ⟨nm0.toArray⟩) ∧ w'.cell? ⟨D, 1, none⟩ = some (.slice ia0 ims0.length ic0) ∧ w'.cell? ⟨D, 2, none⟩ = some (.slice fa0 fs0.length fc0) ∧ w'.cell? ⟨P, 0, none⟩ = some (.string ⟨nm0.toArray⟩) ∧ w'.cell? ⟨P, 1, none⟩ = some (.slice a4 ims0.length c4) ∧ w'.cell? ⟨P, 2, none⟩ = some (.slice (some ⟨g4, 0, none⟩) fs0.length fs0.length)) (go_keep) (first
      | (go_at_call 18; refine (toObjectC nm0 ia0 ims0.length ic0 fa0 fs0.length fc0 ims0 fs0 _ st.i st.f hil hfl HFS2.out).mono ?_; rintro e wn ⟨a7, c7, g7, xs7, rfl, hxs7, hoi7, hof7, _, hbn⟩; obtain ⟨_, _, e7, _, hit7⟩ := own_textsO hoi7; injection e7 with e1 _ e3; subst e1 e3; have hif7 : RtsIn wn (some ⟨g7, 0, none⟩) fs0.length fs0 := (by (obtain ⟨_, _, e4, _, hq⟩ := hof7.in); (have hl : xs7.length = fs0.length := by rw [← hxs7, List.length_map]); (rw [hl] at e4 hq); (injection e4 with e5); (rw [← e5, hxs7] at hq); exact hq); replace hB := hB.trans (hbn.mono (Nat.le_trans hDs hB.size)); replace st := st.below hbn; replace sx := sx.below hbn; clear hbn hoi7 hof7 hxs7; replace k0 := st.k0; replace k1 := st.k1; replace k2 := st.k2; replace q0 := sx.k0; replace q1 := sx.k1; replace q2 := sx.k2)
      | (go_at_call 20; refine (eqObjectC nm0 a4 a7 (some ⟨g4, 0, none⟩) (some ⟨g7, 0, none⟩) ims0.length c4 c7 fs0.length fs0.length fs0.length ims0 fs0 _ sx.i hit7 sx.f hif7 (by omega) (by omega) (fun j => Nat.le_trans (HFS2.out j) (by omega))).mono ?_; rintro e wn ⟨rfl, hbn⟩; replace hB := hB.trans (hbn.mono (Nat.le_trans hDs hB.size)); replace st := st.below hbn; replace sx := sx.below hbn; clear hbn; replace k0 := st.k0; replace k1 := st.k1; replace k2 := st.k2; replace q0 := sx.k0; replace q1 := sx.k1; replace q2 := sx.k2))
    all_goals
      go_wp2
      go_ret
      exact ⟨rfl, by rw [hD.out]; exact hB⟩
  · have HZ : Hid (szR (obSz nm0 ims0 fs0) 1048576 = -1) := szR_no hz
    go_enter Tryz.func5, Tryz.ntmps5
    go_wp2_with fail
    refine (szObjectC nm0 ia0 ims0.length ic0 fa0 fs0.length fc0 ims0 fs0 1048576 _ st.i st.f (by omega) (by omega) wn0 wl0 wm0 wk0 wq0).mono ?_
    rintro e w1 ⟨rfl, hb1⟩
    rw [HZ.out]
    replace hB := hB.trans (hb1.mono (Nat.le_trans hDs hB.size))
    go_wp2
    go_ret
    exact ⟨rfl, by rw [hD.out]; exact hB⟩

/-- What the listed variables give the walk: the table of powers of ten. -/
theorem pow_of_laid {W : World} (h : laidMetH Tryz.prog Rows.fnExactShowObjectRow.laid W) : PowIs W := by
  rw [MakeChecks.laidMetH_plain _ _ _ (by kernel_rfl)] at h
  obtain ⟨ps, ⟨g0, t0, cs0, f0, p0, q0, hg0, ht0, hv0, hd0, ⟨g1, t1, cs1, f1, p1, q1, hg1, ht1, hv1, hd1, ⟨g2, t2, cs2, f2, p2, q2, hg2, ht2, hv2, hd2, _, _⟩, _⟩, _⟩, _, _⟩ := h
  obtain ⟨g, hg⟩ := Option.isSome_iff_exists.1 powAt
  obtain rfl := Option.some.inj (hg.symm.trans hg2)
  exact pow_of_cells hg ht2 hv2 hd2

set_option maxRecDepth 100000 in
theorem lifted (os : Os) (started : os.Started) (H : Type) (enc : TypeId × Value → H) :
    ReturnsInHanded {} Tryz.checked os 5 .any (fun w args => (Rows.fnExactShowObjectSpec.pre enc Tryz.prog Tryz.f5 [] false w args ∧ laidMetH Tryz.prog Rows.fnExactShowObjectRow.laid w) ∧ sizedMet enc Tryz.prog Tryz.f5 (OpenSpec.ofChange Rows.fnExactShowObjectSpec) false w args)
      (Rows.fnExactShowObjectSpec.post enc Tryz.prog Tryz.f5 false true false false) := by
  refine returnsInHanded_of_change_and (C := Tryz.checked) (X := fun w _ => laidMetH Tryz.prog Rows.fnExactShowObjectRow.laid w) (fun _ _ _ hh h => h.of_heap hh) own started (by kernel_rfl) Tryz.func5
    (ChangeSpec.witness_shaped (enc := enc) (C := Tryz.checked) (os := os) (X := fun w _ => laidMetH Tryz.prog Rows.fnExactShowObjectRow.laid w) false (World.laidAll Tryz.prog os Rows.fnExactShowObjectRow.laid) #[.agg #[.string ByteArray.empty, .slice none 0 0, .slice none 0 0]] 8 (World.laidAll_os _ _ _)
      (World.shaped_of_ZipB (by kernel_rfl) (by kernel_rfl)) (by kernel_rfl) (by kernel_rfl) (by kernel_rfl)
      (by rw [MakeChecks.laidMetH_plain _ _ _ (by kernel_rfl)]; exact laidMet_laidAll _ (by kernel_rfl) (by kernel_rfl))) ?_
  intro W base args ds gs before hval0 hW _ _ hL _
  have hval : ∀ (j : Nat) t v, Tryz.f5.params[j]? = some t → args[j]? = some v → Value.okWide Tryz.prog W .any base t v := hval0
  have hW' := hW
  obtain ⟨p, q, hA0, hV, rfl, hfz, hnd⟩ := hW
  have hA : DataW.TrodAll enc Tryz.prog W 0 (fun _ => true) true Tryz.f5.params.toList args.toList ds p := hA0
  rw [Tryz.params5] at hA hval
  obtain ⟨v0, vs0, d0, ds0, p0, q0, hargs, rfl, rfl, h0, r0⟩ := trodAll_cons hA
  obtain ⟨rfl, rfl, rfl⟩ := trodAll_nil r0
  obtain rfl : args = #[v0] := by cases args; simp_all
  obtain ⟨rfl, rfl⟩ := trodVars_none hV
  have k0 := h0
  have lt0 : ∀ x ∈ p0, x.block < W.heap.size := by obtain ⟨m, hm⟩ := k0; exact DataW.trod_lt m _ _ _ hm
  obtain ⟨nm0, ia0, il0, ic0, ims0, fa0, fl0, fc0, fs0, rfl, w0, wf0, wn0, wl0, wm0, wk0, wq0, wi0⟩ := open_object (hval 0 39 v0 rfl rfl) h0
  clear hA0 hval0
  refine (walk nm0 ia0 il0 ic0 ims0 fa0 fl0 fc0 fs0 W w0 wf0 wn0 wl0 wm0 wk0 wq0 wi0 (pow_of_laid hL)).mono fun e W' ⟨he, bel⟩ => ?_
  subst he
  exact ⟨_, rfl, _, _, _, [], _, [], hW', trodAll_mk1 (shut_bool Tryz.underlying4 _), (trodAll_cons_mk (Below.trod laidOut (by kernel_rfl) (of_decide_eq_true (by kernel_rfl)) k0 bel lt0) trodAll_mk0), rfl, bel.frame _, fun h => by cases h⟩

theorem over : Rows.fnExactShowObjectRow.holds Tryz.pinned (OpenSpec.ofChange Rows.fnExactShowObjectSpec) :=
  OpenClaim.holds_of_wide 5 Tryz.f5 rfl rfl rfl rfl rfl rfl rfl ⟨rfl, rfl, rfl, rfl, rfl⟩ rfl rfl rfl rfl rfl (by kernel_rfl) Tryz.func5 (by kernel_rfl)
    (of_decide_eq_true (by kernel_rfl)) (by unfold Func.isWrapper; first | (rw [if_pos (by decide +kernel)]; kernel_rfl) | (rw [if_neg (by decide +kernel)]; exact ⟨rfl, rfl⟩))
    (fun os started H enc _ => lifted os started H enc)

/-- The tied card. -/
theorem proved : Rows.FnExactShowObjectCardSaid :=
  Claim7.holds_tied_plain_at .later [] [.data, .data, .data] true (true, "9b7f67dbf5a656725ea1351e348513867f995f6ad522b67d4b45a20307b92c6b") false
    over (fun _ h => by cases h) (by kernel_rfl) (fun _ h => by cases h) fnExactShowObject_row_tie rfl ⟨rfl, rfl⟩ (by kernel_rfl) rfl
    (fun f fn hf hfn => by
      obtain rfl : f = 5 := Option.some.inj ((show Tryz.prog.funcNamed Rows.fnExactShowObjectRow.func = some 5 by kernel_rfl).symm.trans hf) |>.symm
      obtain rfl : fn = Tryz.f5 := (Option.some.inj (Tryz.func5.symm.trans hfn)).symm
      exact ⟨by kernel_rfl, fun j t ht => by
        rw [Tryz.params5] at ht
        have hm : t ∈ [39] := by simpa using Array.mem_of_getElem? ht
        have hall : ([39].all fun u => !Tryz.prog.wantsStandIn u) = true := by kernel_rfl
        exact (show Tryz.prog.wantsStandIn t = false by simpa using List.all_eq_true.1 hall t hm)⟩)
    (by kernel_rfl)
#print axioms proved
end Go.Proofs.YtfhkiaogfopigaaGreatDoor.fnExactShowObject
