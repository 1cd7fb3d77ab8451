/-
  FnExactShowPackage returns true at every package and leaves it as it was: impl.ShowPackage answers as spec.ShowPackage.
-/
import Derived.Test.YtiekcenknniniaaDoorRows
import Derived.Test.YtiekcenknniniaaDoorCards
import Derived.Test.YtiekcenknniniaaDoorTie
import Derived.Test.YtiekcenknniniaaDoorP1
import Derived.Test.YtiekcenknniniaaDoorP2
import Derived.Test.YtiekcenknniniaaDoorP3
import Derived.Test.YtiekcenknniniaaDoorP4
import Derived.Test.YtiekcenknniniaaDoorP5
import Derived.Test.YtiekcenknniniaaDoorP6
import Derived.Test.YtiekcenknniniaaDoorP7
import Derived.Test.YtiekcenknniniaaDoorP8
import Derived.Test.YtiekcenknniniaaDoorP9
import Derived.Test.YtiekcenknniniaaDoorP10
import Derived.Test.YtiekcenknniniaaDoorP11
import Derived.Test.YtiekcenknniniaaDoorP12
import Derived.Test.YtiekcenknniniaaDoorP13
import Derived.Test.YtiekcenknniniaaDoorP14
import Derived.Test.YtiekcenknniniaaDoorP15
import Derived.Test.YtiekcenknniniaaDoorP16
import Derived.Test.YtiekcenknniniaaDoorP17
import Derived.WalkKit
import Derived.Deep.RegionHeld3
import Derived.ProofKit
import Derived.OpenShut
import Derived.ShutString
import Derived.ChangeOld
import Derived.Below
import Derived.LaidLaws
import Derived.LaidHandle
import Derived.Lay
import Derived.MakeChecks
import Derived.Lib.LaidTab
import Derived.Stop.Joined
import Derived.SevenTiedAt
namespace Go.Proofs.YtiekcenknniniaaDoor.fnExactShowPackage
open Go.ChangeShapes Go.WideShapes Go.ChangeAt Go.RowKit
open Go.ChangeMaps (open_string shut_string)
set_option linter.unusedVariables false

theorem own : ownKnob Tryd.prog.godebug = none := by kernel_rfl
theorem laidOut : laidOutB Tryd.prog = true := by kernel_rfl

/-! The walk: the law returns true and writes nothing that was there. -/
set_option maxHeartbeats 8000000 in
set_option maxRecDepth 1000000 in
theorem walk (nm0 : List UInt8) (ia0 : Option Addr) (il0 ic0 : Nat) (ims0 : List (List UInt8)) (fa0 : Option Addr) (fl0 fc0 : Nat) (fs0 : List Fn) (w : World) (w0 : TextsIn w ia0 il0 ims0) (wf0 : FuncsIn w fa0 fl0 fs0) (wn0 : nm0.length ≤ maxLen) (wl0 : il0 ≤ maxLen) (wm0 : ∀ j, (ims0.getD j []).length ≤ maxLen) (wk0 : fl0 ≤ maxLen) (wq0 : LongF fs0) (wi0 : IntF fs0) (hT : PowIs w) :
    Calls Tryd.prog 3 #[.agg #[.string ⟨nm0.toArray⟩, .slice ia0 il0 ic0, .slice fa0 fl0 fc0]] w fun e w' => e = .returned (.bool true) ∧ Below w.heap.size w w' := by
  obtain rfl : ims0.length = il0 := w0.1
  obtain rfl : fs0.length = fl0 := wf0.1
  obtain ⟨W, hW⟩ : ∃ W, w.alloc (.cells #[.string ⟨nm0.toArray⟩, .slice ia0 ims0.length ic0, .slice fa0 fs0.length fc0] 25) = W := ⟨_, rfl⟩
  obtain ⟨st, hB⟩ := PkIn.newL (nm := nm0) (ic := ic0) (fc := fc0) 25 w0 wf0
  rw [hW] at st hB
  obtain ⟨D, hD0⟩ : ∃ D, w.heap.size = D := ⟨_, rfl⟩
  rw [hD0] at st hB
  have hD : Hid (w.heap.size = D) := hD0
  have k0 := st.k0
  have k1 := st.k1
  have k2 := st.k2
  have hDs : D ≤ w.heap.size := Nat.le_of_eq hD0.symm
  clear w0 wf0
  by_cases hz : (pkSz nm0 ims0 fs0 : Int) ≤ 1048576
  · have HZ : Hid (szM (pkSz nm0 ims0 fs0) 1048576 = 1048576 - (pkSz nm0 ims0 fs0 : Int)) := szM_yes hz
    obtain ⟨hil, hfl, hnl, his, hfs⟩ := pk_small (by omega : pkSz nm0 ims0 fs0 ≤ 1048576)
    have hge : (0 : Int) ≤ 1048576 - (pkSz nm0 ims0 fs0 : Int) := by omega
    have HIS : Hid (∀ i, (ims0.getD i []).length ≤ 1048576) := his
    have HFS : Hid (ShortF fs0) := hfs
    have HFS2 : Hid (∀ j, (fs0.getD j fn0).2.2.length ≤ 1048576) := fun j => (hfs j).2.1
    have HIF : Hid (IntF fs0) := wi0
    clear his hfs wi0
    obtain ⟨z, hz2⟩ : ∃ z, showPk (nm0, ims0, fs0) = z := ⟨_, rfl⟩
    have HS : Hid (_) := fun (a : Option Addr) (c : Nat) (g : Nat) (V : World) (h1 : TextsIn V a ims0.length ims0) (h2 : FuncsIn V (some ⟨g, 0, none⟩) fs0.length fs0) => specShowPackage nm0 a ims0.length c (some ⟨g, 0, none⟩) fs0.length fs0.length ims0 fs0 V h1 h2 hil hfl hnl HIS.out HFS.out
    have HI : Hid (_) := fun (a : Option Addr) (c : Nat) (g : Nat) (V : World) (h0 : a = none → c = 0) (h1 : TextsIn V a ims0.length ims0) (h2 : FuncsIn V (some ⟨g, 0, none⟩) fs0.length fs0) (t : PowIs V) => implShowPackage nm0 a ims0.length c (some ⟨g, 0, none⟩) fs0.length fs0.length ims0 fs0 V ⟨h1, h2, h0, ⟨(fun e => by cases e), Nat.le_refl _⟩, HIF.out, hil, hfl, hnl, HIS.out, HFS.out⟩ t
    rw [hz2] at HS HI
    have hne : (z != z) = false := by simp
    clear hz2
    go_enter Tryd.func3, Tryd.ntmps3
    go_wp2_with fail
    refine (szPackageC nm0 ia0 ims0.length ic0 fa0 fs0.length fc0 ims0 fs0 1048576 _ st.i st.f (by omega) (by omega) wn0 wl0 wm0 wk0 wq0).mono ?_
    rintro e w1 ⟨rfl, hb1⟩
    rw [HZ.out]
    replace hB := hB.trans (hb1.mono (Nat.le_trans hDs hB.size))
    replace st := st.below hb1
    replace k0 := st.k0
    replace k1 := st.k1
    replace k2 := st.k2
    clear hb1
    go_wp2_with fail
    refine (toPackageC nm0 ia0 ims0.length ic0 fa0 fs0.length fc0 ims0 fs0 _ st.i st.f hil hfl HFS2.out).mono ?_
    rintro e w2 ⟨a2, c2, g2, xs2, rfl, hxs2, hoi2, hof2, hap2, hb2⟩
    obtain ⟨_, _, e2, hic2, hit2⟩ := own_texts0 hoi2
    injection e2 with e1 _ e3
    subst e1 e3
    have hif2 : FuncsIn w2 (some ⟨g2, 0, none⟩) fs0.length fs0 := by
      obtain ⟨_, _, e4, _, hq⟩ := hof2.in
      have hl : xs2.length = fs0.length := by rw [← hxs2, List.length_map]
      rw [hl] at e4 hq
      injection e4 with e5
      rw [← e5, hxs2] at hq
      exact hq
    replace hB := hB.trans (hb2.mono (Nat.le_trans hDs hB.size))
    replace st := st.below hb2
    replace k0 := st.k0
    replace k1 := st.k1
    replace k2 := st.k2
    clear hb2 hoi2 hof2 hap2 hxs2 hic2
    go_wp2_with fail
    refine Calls.mono (HS.out _ _ _ _ hit2 hif2) ?_
    rintro e w3 ⟨rfl, hb3⟩
    replace hB := hB.trans (hb3.mono (Nat.le_trans hDs hB.size))
    replace st := st.below hb3
    replace k0 := st.k0
    replace k1 := st.k1
    replace k2 := st.k2
    clear hb3 hit2 hif2
    go_wp2_with fail
    refine (toPackageC nm0 ia0 ims0.length ic0 fa0 fs0.length fc0 ims0 fs0 _ st.i st.f hil hfl HFS2.out).mono ?_
    rintro e w4 ⟨a4, c4, g4, xs4, rfl, hxs4, hoi4, hof4, hap4, hb4⟩
    obtain ⟨_, _, e4, hic4, hit4⟩ := own_texts0 hoi4
    injection e4 with e1 _ e3
    subst e1 e3
    have hif4 : FuncsIn w4 (some ⟨g4, 0, none⟩) fs0.length fs0 := by
      obtain ⟨_, _, e4, _, hq⟩ := hof4.in
      have hl : xs4.length = fs0.length := by rw [← hxs4, List.length_map]
      rw [hl] at e4 hq
      injection e4 with e5
      rw [← e5, hxs4] at hq
      exact hq
    replace hB := hB.trans (hb4.mono (Nat.le_trans hDs hB.size))
    replace st := st.below hb4
    replace k0 := st.k0
    replace k1 := st.k1
    replace k2 := st.k2
    clear hb4 hap4 hoi4 hof4 hxs4
    obtain ⟨P, hP0⟩ : ∃ P, w4.heap.size = P := ⟨_, rfl⟩
    obtain ⟨w5, hw5⟩ : ∃ W, w4.alloc (.cells #[.string ⟨nm0.toArray⟩, .slice a4 ims0.length c4, .slice (some ⟨g4, 0, none⟩) fs0.length fs0.length] 30) = W := ⟨_, rfl⟩
    obtain ⟨sx, hb5⟩ := PkIn.newL (nm := nm0) (ic := c4) (fc := fs0.length) 30 hit4 hif4
    rw [hw5] at sx hb5
    rw [hP0] at sx
    replace hB := hB.trans (hb5.mono (Nat.le_trans hDs hB.size))
    replace st := st.below hb5
    replace k0 := st.k0
    replace k1 := st.k1
    replace k2 := st.k2
    clear hb5 hit4 hif4
    have q0 := sx.k0
    have q1 := sx.k1
    have q2 := sx.k2
    go_wp2_with fail
    refine Calls.mono (HI.out _ _ _ _ hic4 sx.i sx.f (hT.below (by rw [hD.out]; exact hB))) ?_
    rintro e w6 ⟨rfl, hb6⟩
    replace hB := hB.trans (hb6.mono (Nat.le_trans hDs hB.size))
    replace st := st.below hb6
    replace k0 := st.k0
    replace k1 := st.k1
    replace k2 := st.k2
    replace sx := sx.below hb6
    replace q0 := sx.k0
    replace q1 := sx.k1
    replace q2 := sx.k2
    clear hb6
    go_wp2_with fail
    replace st := st.drew
    replace sx := sx.drew
    replace hB := hB.drew
    go_region_held3 (fun w' => w'.cell? ⟨D, 0, none⟩ = some (.string ⟨nm0.toArray⟩) ∧ w'.cell? ⟨D, 1, none⟩ = some (.slice ia0 ims0.length ic0) ∧ w'.cell? ⟨D, 2, none⟩ = some (.slice fa0 fs0.length fc0) ∧ w'.cell? ⟨P, 0, none⟩ = some (.string ⟨nm0.toArray⟩) ∧ w'.cell? ⟨P, 1, none⟩ = some (.slice a4 ims0.length c4) ∧ w'.cell? ⟨P, 2, none⟩ = some (.slice (some ⟨g4, 0, none⟩) fs0.length fs0.length)) (go_keep) (first
      | (go_at_call 6; refine (toPackageC nm0 ia0 ims0.length ic0 fa0 fs0.length fc0 ims0 fs0 _ st.i st.f hil hfl HFS2.out).mono ?_; rintro e wn ⟨a7, c7, g7, xs7, rfl, hxs7, hoi7, hof7, _, hbn⟩; obtain ⟨_, _, e7, _, hit7⟩ := own_texts0 hoi7; injection e7 with e1 _ e3; subst e1 e3; have hif7 : FuncsIn wn (some ⟨g7, 0, none⟩) fs0.length fs0 := (by (obtain ⟨_, _, e4, _, hq⟩ := hof7.in); (have hl : xs7.length = fs0.length := by rw [← hxs7, List.length_map]); (rw [hl] at e4 hq); (injection e4 with e5); (rw [← e5, hxs7] at hq); exact hq); replace hB := hB.trans (hbn.mono (Nat.le_trans hDs hB.size)); replace st := st.below hbn; replace sx := sx.below hbn; clear hbn hoi7 hof7 hxs7; replace k0 := st.k0; replace k1 := st.k1; replace k2 := st.k2; replace q0 := sx.k0; replace q1 := sx.k1; replace q2 := sx.k2)
      | (go_at_call 8; refine (eqPackageC nm0 a4 a7 (some ⟨g4, 0, none⟩) (some ⟨g7, 0, none⟩) ims0.length c4 c7 fs0.length fs0.length fs0.length ims0 fs0 _ sx.i hit7 sx.f hif7 (by omega) (by omega) (fun j => Nat.le_trans (HFS2.out j) (by omega))).mono ?_; rintro e wn ⟨rfl, hbn⟩; replace hB := hB.trans (hbn.mono (Nat.le_trans hDs hB.size)); replace st := st.below hbn; replace sx := sx.below hbn; clear hbn; replace k0 := st.k0; replace k1 := st.k1; replace k2 := st.k2; replace q0 := sx.k0; replace q1 := sx.k1; replace q2 := sx.k2))
    all_goals
      go_wp2
      go_ret
      exact ⟨rfl, by rw [hD.out]; exact hB⟩
  · have HZ : Hid (szM (pkSz nm0 ims0 fs0) 1048576 = -1) := szM_no hz
    go_enter Tryd.func3, Tryd.ntmps3
    go_wp2_with fail
    refine (szPackageC nm0 ia0 ims0.length ic0 fa0 fs0.length fc0 ims0 fs0 1048576 _ st.i st.f (by omega) (by omega) wn0 wl0 wm0 wk0 wq0).mono ?_
    rintro e w1 ⟨rfl, hb1⟩
    rw [HZ.out]
    replace hB := hB.trans (hb1.mono (Nat.le_trans hDs hB.size))
    go_wp2
    go_ret
    exact ⟨rfl, by rw [hD.out]; exact hB⟩

/-- What the listed variables give the walk: the table of powers of ten. -/
theorem pow_of_laid {W : World} (h : laidMetH Tryd.prog Rows.fnExactShowPackageRow.laid W) : PowIs W := by
  rw [MakeChecks.laidMetH_plain _ _ _ (by kernel_rfl)] at h
  obtain ⟨ps, ⟨g0, t0, cs0, f0, p0, q0, hg0, ht0, hv0, hd0, ⟨g1, t1, cs1, f1, p1, q1, hg1, ht1, hv1, hd1, ⟨g2, t2, cs2, f2, p2, q2, hg2, ht2, hv2, hd2, _, _⟩, _⟩, _⟩, _, _⟩ := h
  obtain ⟨g, hg⟩ := Option.isSome_iff_exists.1 powAt
  obtain rfl := Option.some.inj (hg.symm.trans hg2)
  exact pow_of_cells hg ht2 hv2 hd2

set_option maxRecDepth 100000 in
theorem lifted (os : Os) (started : os.Started) (H : Type) (enc : TypeId × Value → H) :
    ReturnsInHanded {} Tryd.checked os 3 .any (fun w args => (Rows.fnExactShowPackageSpec.pre enc Tryd.prog Tryd.f3 [] false w args ∧ laidMetH Tryd.prog Rows.fnExactShowPackageRow.laid w) ∧ sizedMet enc Tryd.prog Tryd.f3 (OpenSpec.ofChange Rows.fnExactShowPackageSpec) false w args)
      (Rows.fnExactShowPackageSpec.post enc Tryd.prog Tryd.f3 false true false false) := by
  refine returnsInHanded_of_change_and (C := Tryd.checked) (X := fun w _ => laidMetH Tryd.prog Rows.fnExactShowPackageRow.laid w) (fun _ _ _ hh h => h.of_heap hh) own started (by kernel_rfl) Tryd.func3
    (ChangeSpec.witness_shaped (enc := enc) (C := Tryd.checked) (os := os) (X := fun w _ => laidMetH Tryd.prog Rows.fnExactShowPackageRow.laid w) false (World.laidAll Tryd.prog os Rows.fnExactShowPackageRow.laid) #[.agg #[.string ByteArray.empty, .slice none 0 0, .slice none 0 0]] 8 (World.laidAll_os _ _ _)
      (World.shaped_of_ZipB (by kernel_rfl) (by kernel_rfl)) (by kernel_rfl) (by kernel_rfl) (by kernel_rfl)
      (by rw [MakeChecks.laidMetH_plain _ _ _ (by kernel_rfl)]; exact laidMet_laidAll _ (by kernel_rfl) (by kernel_rfl))) ?_
  intro W base args ds gs before hval0 hW _ _ hL _
  have hval : ∀ (j : Nat) t v, Tryd.f3.params[j]? = some t → args[j]? = some v → Value.okWide Tryd.prog W .any base t v := hval0
  have hW' := hW
  obtain ⟨p, q, hA0, hV, rfl, hfz, hnd⟩ := hW
  have hA : DataW.TrodAll enc Tryd.prog W 0 (fun _ => true) true Tryd.f3.params.toList args.toList ds p := hA0
  rw [Tryd.params3] at hA hval
  obtain ⟨v0, vs0, d0, ds0, p0, q0, hargs, rfl, rfl, h0, r0⟩ := trodAll_cons hA
  obtain ⟨rfl, rfl, rfl⟩ := trodAll_nil r0
  obtain rfl : args = #[v0] := by cases args; simp_all
  obtain ⟨rfl, rfl⟩ := trodVars_none hV
  have k0 := h0
  have lt0 : ∀ x ∈ p0, x.block < W.heap.size := by obtain ⟨m, hm⟩ := k0; exact DataW.trod_lt m _ _ _ hm
  obtain ⟨nm0, ia0, il0, ic0, ims0, fa0, fl0, fc0, fs0, rfl, w0, wf0, wn0, wl0, wm0, wk0, wq0, wi0⟩ := open_package (hval 0 25 v0 rfl rfl) h0
  clear hA0 hval0
  refine (walk nm0 ia0 il0 ic0 ims0 fa0 fl0 fc0 fs0 W w0 wf0 wn0 wl0 wm0 wk0 wq0 wi0 (pow_of_laid hL)).mono fun e W' ⟨he, bel⟩ => ?_
  subst he
  exact ⟨_, rfl, _, _, _, [], _, [], hW', trodAll_mk1 (shut_bool Tryd.underlying4 _), (trodAll_cons_mk (Below.trod laidOut (by kernel_rfl) (of_decide_eq_true (by kernel_rfl)) k0 bel lt0) trodAll_mk0), rfl, bel.frame _, fun h => by cases h⟩

theorem over : Rows.fnExactShowPackageRow.holds Tryd.pinned (OpenSpec.ofChange Rows.fnExactShowPackageSpec) :=
  OpenClaim.holds_of_wide 3 Tryd.f3 rfl rfl rfl rfl rfl rfl rfl ⟨rfl, rfl, rfl, rfl, rfl⟩ rfl rfl rfl rfl rfl (by kernel_rfl) Tryd.func3 (by kernel_rfl)
    (of_decide_eq_true (by kernel_rfl)) (by unfold Func.isWrapper; first | (rw [if_pos (by decide +kernel)]; kernel_rfl) | (rw [if_neg (by decide +kernel)]; exact ⟨rfl, rfl⟩))
    (fun os started H enc _ => lifted os started H enc)

/-- The tied card. -/
theorem proved : Rows.FnExactShowPackageCardSaid :=
  Claim7.holds_tied_plain_at .later [] [.data, .data, .data] true (true, "25582d265139506b70104c3277f9f666fd3a384537166bf0e96d095820bb6b45") true
    over (fun _ h => by cases h) (by kernel_rfl) (fun _ h => by cases h) fnExactShowPackage_row_tie rfl ⟨rfl, rfl⟩ (by kernel_rfl) rfl
    (fun f fn hf hfn => by
      obtain rfl : f = 3 := Option.some.inj ((show Tryd.prog.funcNamed Rows.fnExactShowPackageRow.func = some 3 by kernel_rfl).symm.trans hf) |>.symm
      obtain rfl : fn = Tryd.f3 := (Option.some.inj (Tryd.func3.symm.trans hfn)).symm
      exact ⟨by kernel_rfl, fun j t ht => by
        rw [Tryd.params3] at ht
        have hm : t ∈ [25] := by simpa using Array.mem_of_getElem? ht
        have hall : ([25].all fun u => !Tryd.prog.wantsStandIn u) = true := by kernel_rfl
        exact (show Tryd.prog.wantsStandIn t = false by simpa using List.all_eq_true.1 hall t hm)⟩)
    (by kernel_rfl)
#print axioms proved
end Go.Proofs.YtiekcenknniniaaDoor.fnExactShowPackage
