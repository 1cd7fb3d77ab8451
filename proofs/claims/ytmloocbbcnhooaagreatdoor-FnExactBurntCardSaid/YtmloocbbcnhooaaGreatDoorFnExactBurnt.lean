/-
  FnExactBurnt returns true at every list of packages, two texts, numbers and fuel and leaves what it was handed as it was: impl.Burnt answers as spec.Burnt.
-/
import Derived.Test.YtmloocbbcnhooaaGreatDoorRows
import Derived.Test.YtmloocbbcnhooaaGreatDoorCards
import Derived.Test.YtmloocbbcnhooaaGreatDoorTie
import Derived.Test.YtmloocbbcnhooaaGreatDoorP1
import Derived.Test.YtmloocbbcnhooaaGreatDoorP2
import Derived.Test.YtmloocbbcnhooaaGreatDoorP3
import Derived.Test.YtmloocbbcnhooaaGreatDoorP4
import Derived.Test.YtmloocbbcnhooaaGreatDoorP5
import Derived.Test.YtmloocbbcnhooaaGreatDoorP6
import Derived.Test.YtmloocbbcnhooaaGreatDoorP7
import Derived.Test.YtmloocbbcnhooaaGreatDoorP8
import Derived.Test.YtmloocbbcnhooaaGreatDoorP9
import Derived.Test.YtmloocbbcnhooaaGreatDoorP10
import Derived.Test.YtmloocbbcnhooaaGreatDoorP11
import Derived.Test.YtmloocbbcnhooaaGreatDoorP12
import Derived.Test.YtmloocbbcnhooaaGreatDoorP13
import Derived.Test.YtmloocbbcnhooaaGreatDoorP14
import Derived.Test.YtmloocbbcnhooaaGreatDoorP15
import Derived.Test.YtmloocbbcnhooaaGreatDoorP16
import Derived.Test.YtmloocbbcnhooaaGreatDoorP17
import Derived.Test.YtmloocbbcnhooaaGreatDoorP18
import Derived.Test.YtmloocbbcnhooaaGreatDoorP19
import Derived.Test.YtmloocbbcnhooaaGreatDoorP20
import Derived.Test.YtmloocbbcnhooaaGreatDoorP21
import Derived.Test.YtmloocbbcnhooaaGreatDoorP22
import Derived.Test.YtmloocbbcnhooaaGreatDoorP23
import Derived.Test.YtmloocbbcnhooaaGreatDoorP24
import Derived.Test.YtmloocbbcnhooaaGreatDoorP25
import Derived.Test.YtmloocbbcnhooaaGreatDoorP26
import Derived.Test.YtmloocbbcnhooaaGreatDoorP27
import Derived.Test.YtmloocbbcnhooaaGreatDoorP28
import Derived.Test.YtmloocbbcnhooaaGreatDoorP29
import Derived.Test.YtmloocbbcnhooaaGreatDoorP30
import Derived.Test.YtmloocbbcnhooaaGreatDoorP31
import Derived.Test.YtmloocbbcnhooaaGreatDoorP32
import Derived.Test.YtmloocbbcnhooaaGreatDoorP33
import Derived.Test.YtmloocbbcnhooaaGreatDoorP34
import Derived.Test.YtmloocbbcnhooaaGreatDoorP35
import Derived.Test.YtmloocbbcnhooaaGreatDoorP36
import Derived.Test.YtmloocbbcnhooaaGreatDoorP37
import Derived.Test.YtmloocbbcnhooaaGreatDoorP38
import Derived.Test.YtmloocbbcnhooaaGreatDoorP39
import Derived.Test.YtmloocbbcnhooaaGreatDoorP40
import Derived.WalkKit
import Derived.ProofKit
import Derived.OpenShut
import Derived.ShutString
import Derived.ChangeOld
import Derived.Below
import Derived.LaidLaws
import Derived.LaidHandle
import Derived.Lay
import Derived.MakeChecks
import Derived.Lib.LaidTab
import Derived.Stop.Joined
import Derived.SevenTiedAt
import Derived.OpenVars
import Derived.LaidMore
import Derived.Stop.LaidErr
namespace Go.Proofs.YtmloocbbcnhooaaGreatDoor.fnExactBurnt
open Go.ChangeShapes Go.WideShapes Go.ChangeAt Go.RowKit
open Go.ChangeMaps (open_string shut_string)
set_option linter.unusedVariables false

theorem own : ownKnob Tryz.prog.godebug = none := by kernel_rfl
theorem laidOut : laidOutB Tryz.prog = true := by kernel_rfl

/-! The walk: the law returns true and writes nothing that was there. -/
set_option maxHeartbeats 8000000 in
set_option maxRecDepth 1000000 in
theorem walk (a0 : Option Addr) (len0 cap0 : Nat) (ps0 : List Pk) (a1 : ByteArray) (a2 : ByteArray) (a3 : Option Addr) (cap3 : Nat) (xs3 : List Int) (a4 : Int) (w : World) (w0 : PkgsIn w a0 len0 ps0) (wl0 : len0 ≤ maxLen) (wm0 : LongPs ps0) (wi0 : IntPs ps0) (w1 : a1.size ≤ maxLen) (w2 : a2.size ≤ maxLen) (w3 : AsIn w a3 xs3) (wl3 : xs3.length ≤ maxLen) (wi3 : ∀ x ∈ xs3, (Lit.int .i64 x).wf = true) (w4 : (Lit.int .i64 a4).wf = true) (er : Nat → Addr) (hT : Err8 w er) :
    Calls Tryz.prog 6 #[.slice a0 len0 cap0, .string a1, .string a2, .slice a3 xs3.length cap3, .int .i64 a4] w fun e w' => e = .returned (.bool true) ∧ Below w.heap.size w w' := by
  have HT : Hid (Err8 w er) := hT
  clear hT
  obtain ⟨q, rfl⟩ : ∃ l : List UInt8, a1 = ⟨l.toArray⟩ := ⟨a1.data.toList, by cases a1; simp⟩
  obtain ⟨fn, rfl⟩ : ∃ l : List UInt8, a2 = ⟨l.toArray⟩ := ⟨a2.data.toList, by cases a2; simp⟩
  obtain rfl : ps0.length = len0 := w0.1
  have HD : Hid (∀ Z, Below w.heap.size w Z → PkgsIn Z a0 ps0.length ps0 ∧ AsIn Z a3 xs3) := fun Z hz => ⟨w0.below hz, w3.below hz⟩
  have hxl2 : (xs3.length : Int) ≤ 9223372036854775807 := by unfold maxLen at wl3; omega
  have hBW : Below w.heap.size w w := Below.refl _ _
  by_cases hqb : 1048576 < (q.length : Int)
  · clear w0 wm0 wi0 HD w3 wi3
    go_enter Tryz.func6, Tryz.ntmps6
    go_wp2
    go_ret
    exact ⟨rfl, hBW⟩
  have hq : q.length ≤ 1048576 := by omega
  by_cases hfb : 1048576 < (fn.length : Int)
  · clear w0 wm0 wi0 HD w3 wi3
    go_enter Tryz.func6, Tryz.ntmps6
    go_wp2
    go_ret
    exact ⟨rfl, hBW⟩
  have hf : fn.length ≤ 1048576 := by omega
  by_cases hxb : 1048576 < (xs3.length : Int)
  · clear w0 wm0 wi0 HD w3 wi3
    go_enter Tryz.func6, Tryz.ntmps6
    go_wp2
    go_ret
    exact ⟨rfl, hBW⟩
  have hx : xs3.length ≤ 1048576 := by omega
  have HC0 := szPackageSC a0 ps0.length cap0 ps0 1048576 w w0 (by omega) (by omega) wl0 wm0
  by_cases hz : ((ps0.length + psSz ps0 : Nat) : Int) ≤ 1048576
  rotate_left
  · rw [szM_no hz] at HC0
    clear w0 wm0 wi0 w3 wi3
    go_enter Tryz.func6, Tryz.ntmps6
    go_wp2_with fail
    refine HC0.mono ?_
    rintro e w1 ⟨rfl, hb1⟩
    go_wp2
    go_ret
    exact ⟨rfl, hb1⟩
  rw [szM_yes hz] at HC0
  have hln : ps0.length ≤ 1048576 := by omega
  have HSH : Hid (ShortPs ps0) := shortPs_of (by omega)
  have HIN : Hid (IntPs ps0) := wi0
  have HTo : Hid (_) := fun (V : World) (h : PkgsIn V a0 ps0.length ps0) => toPackageSC a0 ps0.length cap0 ps0 V h hln HSH.out
  have HTx : Hid (_) := fun (V : World) (h : AsIn V a3 xs3) => toInt64SC a3 cap3 xs3 V h hx
  have hge : ¬ 1048576 - ((ps0.length + psSz ps0 : Nat) : Int) < 0 := by omega
  generalize 1048576 - ((ps0.length + psSz ps0 : Nat) : Int) = left at HC0 hge
  have HS : Hid (_) := fun (V : World) (g gx : Nat) (h : PkgsOk V (some ⟨g, 0, none⟩) ps0.length ps0.length ps0) (k : AsIn V (some ⟨gx, 0, none⟩) xs3) => specBurnt (some ⟨g, 0, none⟩) ps0.length ps0.length ps0 q fn (some ⟨gx, 0, none⟩) xs3.length xs3 a4 V h.in hln HSH.out k hx
  have HIm : Hid (_) := fun (V : World) (g gx : Nat) (hw : Below w.heap.size w V) (h : PkgsOk V (some ⟨g, 0, none⟩) ps0.length ps0.length ps0) (k : AsIn V (some ⟨gx, 0, none⟩) xs3) => implBurnt (some ⟨g, 0, none⟩) ps0.length ps0.length ps0 q fn (some ⟨gx, 0, none⟩) xs3.length xs3 a4 er V (HT.out.below hw) h k hx
  have HEx : Hid (_) := fun (V : World) (b1 b2 g1 g2 : Nat) (h1 : V.ownsRow b1 2 1 (.slice (some ⟨g1, 0, none⟩) xs3.length xs3.length) xs3.length (intsV xs3)) (h2 : V.ownsRow b2 2 1 (.slice (some ⟨g2, 0, none⟩) xs3.length xs3.length) xs3.length (intsV xs3)) => eqIntC V b1 b2 g1 g2 xs3.length xs3.length xs3 (by omega) h1 h2
  have HAs : Hid (_) := fun (V : World) (b g : Nat) (h : V.ownsRow b 2 1 (.slice (some ⟨g, 0, none⟩) xs3.length xs3.length) xs3.length (intsV xs3)) => nums_as h rfl
  obtain ⟨z, hzv⟩ : ∃ z, burntV ps0 q fn xs3 a4 = z := ⟨_, rfl⟩
  rw [hzv] at HS HIm
  clear hzv w0 wm0 wi0 w3 wi3 wl3 hz wl0
  have hself0 : (z != z) = false := by simp
  generalize xs3.length = nx at *
  go_enter Tryz.func6, Tryz.ntmps6
  go_wp2_with fail
  refine HC0.mono ?_
  rintro e w1 ⟨rfl, hB⟩
  clear HC0
  go_wp2_with fail
  refine Calls.mono (HTo.out _ (HD.out _ hB).1) ?_
  rintro e w2 ⟨rfl, ys2, hy2, hp2, hb2⟩
  have ok2 := hp2.ok hy2 HIN.out HSH.out rfl hln
  replace hB := hB.trans (hb2.mono hB.size)
  clear hp2 hy2 hb2
  go_wp2_with fail
  refine Calls.mono (HTx.out _ (HD.out _ hB).2) ?_
  rintro e w3 ⟨rfl, hx3, hb3⟩
  replace hB := hB.trans (hb3.mono hB.size)
  replace ok2 := ok2.below hb3
  clear hb3
  go_wp2_with fail
  refine Calls.mono (HS.out _ _ _ ok2 (HAs.out _ _ _ hx3)) ?_
  rintro e w4 ⟨rfl, hb4⟩
  replace hB := hB.trans (hb4.mono hB.size)
  clear hb4 ok2 hx3
  go_wp2_with fail
  refine Calls.mono (HTo.out _ (HD.out _ hB).1) ?_
  rintro e w5 ⟨rfl, ys5, hy5, hp5, hb5⟩
  have ok5 := hp5.ok hy5 HIN.out HSH.out rfl hln
  replace hB := hB.trans (hb5.mono hB.size)
  clear hp5 hy5 hb5
  go_wp2_with fail
  refine Calls.mono (HTx.out _ (HD.out _ hB).2) ?_
  rintro e w6 ⟨rfl, hx6, hb6⟩
  replace hB := hB.trans (hb6.mono hB.size)
  replace ok5 := ok5.below hb6
  clear hb6
  go_wp2_with fail
  refine Calls.mono (HIm.out _ _ _ hB ok5 (HAs.out _ _ _ hx6)) ?_
  rintro e w7 ⟨rfl, hb7⟩
  replace hB := hB.trans (hb7.mono hB.size)
  replace ok5 := ok5.below hb7
  replace hx6 := own_below hx6 hb7
  clear hb7
  go_wp2_with fail
  refine Calls.mono (HTo.out _ (HD.out _ hB).1) ?_
  rintro e w8 ⟨rfl, ys8, hy8, hp8, hb8⟩
  have ok8 := hp8.ok hy8 HIN.out HSH.out rfl hln
  replace hB := hB.trans (hb8.mono hB.size)
  replace ok5 := ok5.below hb8
  replace hx6 := own_below hx6 hb8
  clear hp8 hy8 hb8
  have HE : Hid (_) := eqPackageSC _ _ ps0.length ps0.length ps0.length ps0 w8 ok5.in ok8.in (by omega) HSH.out
  go_wp2_with fail
  refine Calls.mono HE.out ?_
  rintro e w9 ⟨rfl, hb9⟩
  replace hB := hB.trans (hb9.mono hB.size)
  replace hx6 := own_below hx6 hb9
  clear ok5 ok8 hb9 HE
  go_wp2_with fail
  refine Calls.mono (HTx.out _ (HD.out _ hB).2) ?_
  rintro e w10 ⟨rfl, hx10, hb10⟩
  replace hB := hB.trans (hb10.mono hB.size)
  replace hx6 := own_below hx6 hb10
  clear hb10
  go_wp2_with fail
  refine Calls.mono (HEx.out _ _ _ _ _ hx6 hx10) ?_
  rintro e w11 ⟨rfl, hg11⟩
  have HF := hB.grown hg11 hB.size (by simp)
  clear hx6 hx10 hg11
  go_wp2
  go_ret
  exact ⟨rfl, HF⟩

/-- The listed errors, as they stand on the list. -/
def errList : List (String × List UInt8) := [("loop.example/g00346/impl.errNotTold", [115, 111, 109, 101, 116, 104, 105, 110, 103, 32, 105, 115, 32, 110, 111, 116, 32, 97, 115, 32, 116, 111, 108, 100]), ("loop.example/g00346/impl.errFar", [116, 104, 101, 32, 112, 97, 99, 107, 97, 103, 101, 32, 99, 97, 108, 108, 101, 100, 32, 105, 115, 32, 110, 111, 116, 32, 119, 105, 116, 104, 105, 110, 32, 114, 101, 97, 99, 104]), ("loop.example/g00346/impl.errFunc", [116, 104, 101, 32, 102, 117, 110, 99, 32, 99, 97, 108, 108, 101, 100, 32, 105, 115, 32, 110, 111, 116, 32, 116, 104, 101, 114, 101]), ("loop.example/g00346/impl.errCount", [116, 104, 101, 32, 99, 97, 108, 108, 32, 104, 97, 115, 32, 97, 110, 111, 116, 104, 101, 114, 32, 110, 117, 109, 98, 101, 114, 32, 111, 102, 32, 112, 97, 114, 116, 115, 32, 116, 104, 97, 110, 32, 116, 104, 101, 32, 102, 117, 110, 99, 32, 104, 97, 115, 32, 97, 114, 103, 117, 109, 101, 110, 116, 115]), ("loop.example/g00346/impl.errImport", [97, 110, 32, 105, 109, 112, 111, 114, 116, 32, 105, 115, 32, 110, 111, 116, 32, 116, 104, 101, 114, 101]), ("loop.example/g00346/impl.errRing", [116, 104, 101, 32, 112, 97, 99, 107, 97, 103, 101, 32, 105, 115, 32, 111, 110, 32, 97, 32, 114, 105, 110, 103, 32, 111, 114, 32, 98, 101, 104, 105, 110, 100, 32, 111, 110, 101]), ("loop.example/g00346/impl.errArg", [116, 104, 101, 114, 101, 32, 105, 115, 32, 110, 111, 32, 115, 117, 99, 104, 32, 97, 114, 103, 117, 109, 101, 110, 116]), ("loop.example/g00346/impl.errMain", [116, 104, 101, 114, 101, 32, 105, 115, 32, 110, 111, 32, 109, 97, 105, 110, 32, 111, 102, 32, 111, 110, 101, 32, 97, 114, 103, 117, 109, 101, 110, 116])]
/-- What the listed variables give the walk. -/
theorem errs_of_laid {W : World} (h : laidMetH Tryz.prog Rows.fnExactBurntRow.laid W) : ∃ er, Err8 W er := by
  have e2 : (Rows.fnExactBurntRow.laid.filter fun x => x.2.handleName?.isSome) = [("errors.errorType", Rows.laid_errors_errorType)] := by kernel_rfl
  have e1 : (Rows.fnExactBurntRow.laid.filter fun x => x.2.handleName?.isNone) = [("loop.example/g00346/impl.errNotTold", Rows.laid_loop_example_g00346_impl_errNotTold), ("loop.example/g00346/impl.errFar", Rows.laid_loop_example_g00346_impl_errFar), ("loop.example/g00346/impl.errFunc", Rows.laid_loop_example_g00346_impl_errFunc), ("loop.example/g00346/impl.errCount", Rows.laid_loop_example_g00346_impl_errCount), ("loop.example/g00346/impl.errImport", Rows.laid_loop_example_g00346_impl_errImport), ("loop.example/g00346/impl.errRing", Rows.laid_loop_example_g00346_impl_errRing), ("loop.example/g00346/impl.errArg", Rows.laid_loop_example_g00346_impl_errArg), ("loop.example/g00346/impl.errMain", Rows.laid_loop_example_g00346_impl_errMain)] := by kernel_rfl
  unfold laidMetH at h
  rw [e2] at h
  have h' : laidMet Tryz.prog (Rows.fnExactBurntRow.laid.filter fun x => x.2.handleName?.isNone) W ∧ handlesMet Tryz.prog [("errors.errorType", Rows.laid_errors_errorType)] W := h
  have h1 := h'.1
  rw [e1] at h1
  have h2 : laidMet Tryz.prog (errList.map fun x => (x.1, sentD x.2)) W := h1
  exact err8_of h2 (handle_of h'.2)

theorem door_met (os : Os) (args : Array Value) : laidMetH Tryz.prog Rows.fnExactBurntRow.laid ((World.doorLaid Tryz.prog 168 os).forCall (fun _ _ => 0) ⟨#[], args, []⟩).memory :=
  laidMetH_of_parts3 (fuel := 8) (laidMet_of_run' 8 (by kernel_rfl) (by kernel_rfl)) (by kernel_rfl) (by kernel_rfl)
theorem vars_len {H : Type} {enc : TypeId × Value → H} {P : Program} {w : World} {sp : Nat → Bool} : ∀ {ns : List String} {gs : List (DataW H)} {ps : List MemPlace}, DataW.TrodVars enc P w sp ns gs ps → gs.length = ns.length
  | [], [], _, _ => rfl
  | [], _ :: _, _, h => h.elim
  | _ :: _, [], _, h => h.elim
  | _ :: ns, _ :: gs, _, h => by
    obtain ⟨g, t, cs, fuel, p, q, _, _, _, _, hr, _⟩ := h
    simp [vars_len hr]

set_option maxRecDepth 100000 in
theorem lifted (os : Os) (started : os.Started) (H : Type) (enc : TypeId × Value → H) :
    ReturnsInHanded {} Tryz.checked os 6 .any (fun w args => (Rows.fnExactBurntSpec.pre enc Tryz.prog Tryz.f6 [] false w args ∧ laidMetH Tryz.prog Rows.fnExactBurntRow.laid w) ∧ sizedMet enc Tryz.prog Tryz.f6 (OpenSpec.ofChange Rows.fnExactBurntSpec) false w args)
      (Rows.fnExactBurntSpec.post enc Tryz.prog Tryz.f6 false true false false) := by
  refine returnsInHanded_of_change_and (C := Tryz.checked) (X := fun w _ => laidMetH Tryz.prog Rows.fnExactBurntRow.laid w) (fun _ _ _ hh h => h.of_heap hh) own started (by kernel_rfl) Tryz.func6
    (ChangeSpec.witness_shaped (enc := enc) (C := Tryz.checked) (os := os) (X := fun w _ => laidMetH Tryz.prog Rows.fnExactBurntRow.laid w) false (World.doorLaid Tryz.prog 168 os) #[.slice none 0 0, .string ByteArray.empty, .string ByteArray.empty, .slice none 0 0, .int .i64 0] 8 rfl
      (World.shaped_of_RefB (by kernel_rfl) (by kernel_rfl)) (by kernel_rfl) (by kernel_rfl) (by kernel_rfl) (door_met os _)) ?_
  intro W base args ds gs before hval0 hW _ _ hL _
  have hval : ∀ (j : Nat) t v, Tryz.f6.params[j]? = some t → args[j]? = some v → Value.okWide Tryz.prog W .any base t v := hval0
  have hW' := hW
  obtain ⟨p, q, hA0, hV, rfl, hfz, hnd⟩ := hW
  have hA : DataW.TrodAll enc Tryz.prog W 0 (fun _ => true) true Tryz.f6.params.toList args.toList ds p := hA0
  rw [Tryz.params6] at hA hval
  obtain ⟨v0, vs0, d0, ds0, p0, q0, hargs, rfl, rfl, h0, r0⟩ := trodAll_cons hA
  obtain ⟨v1, vs1, d1, ds1, p1, q1, rfl, rfl, rfl, h1, r1⟩ := trodAll_cons r0
  obtain ⟨v2, vs2, d2, ds2, p2, q2, rfl, rfl, rfl, h2, r2⟩ := trodAll_cons r1
  obtain ⟨v3, vs3, d3, ds3, p3, q3, rfl, rfl, rfl, h3, r3⟩ := trodAll_cons r2
  obtain ⟨v4, vs4, d4, ds4, p4, q4, rfl, rfl, rfl, h4, r4⟩ := trodAll_cons r3
  obtain ⟨rfl, rfl, rfl⟩ := trodAll_nil r4
  obtain rfl : args = #[v0, v1, v2, v3, v4] := by cases args; simp_all
  have hlen := vars_len hV
  obtain ⟨u0, u1, u2, u3, u4, u5, u6, u7, rfl⟩ : ∃ u0 u1 u2 u3 u4 u5 u6 u7, gs = [u0, u1, u2, u3, u4, u5, u6, u7] := by
    match gs, hlen with
    | [u0, u1, u2, u3, u4, u5, u6, u7], _ => exact ⟨u0, u1, u2, u3, u4, u5, u6, u7, rfl⟩
  have k0 := h0
  have lt0 : ∀ x ∈ p0, x.block < W.heap.size := by obtain ⟨m, hm⟩ := k0; exact DataW.trod_lt m _ _ _ hm
  obtain ⟨a0, len0, cap0, ps0, rfl, w0, wl0, wm0, wi0⟩ := open_packages (hval 0 43 v0 rfl rfl) h0
  have k1 := h1
  have lt1 : ∀ x ∈ p1, x.block < W.heap.size := by obtain ⟨m, hm⟩ := k1; exact DataW.trod_lt m _ _ _ hm
  obtain ⟨a1, rfl, _, _, w1⟩ := open_string Tryz.underlying9 (hval 1 9 v1 rfl rfl) h1
  have k2 := h2
  have lt2 : ∀ x ∈ p2, x.block < W.heap.size := by obtain ⟨m, hm⟩ := k2; exact DataW.trod_lt m _ _ _ hm
  obtain ⟨a2, rfl, _, _, w2⟩ := open_string Tryz.underlying9 (hval 2 9 v2 rfl rfl) h2
  have k3 := h3
  have lt3 : ∀ x ∈ p3, x.block < W.heap.size := by obtain ⟨m, hm⟩ := k3; exact DataW.trod_lt m _ _ _ hm
  obtain ⟨a3, cap3, xs3, rfl, w3, wl3, wi3⟩ := open_nums (hval 3 25 v3 rfl rfl) h3
  have k4 := h4
  have lt4 : ∀ x ∈ p4, x.block < W.heap.size := by obtain ⟨m, hm⟩ := k4; exact DataW.trod_lt m _ _ _ hm
  obtain ⟨a4, rfl, _, _, w4⟩ := open_int Tryz.underlying2 (hval 4 2 v4 rfl rfl) h4
  clear hA0 hval0
  obtain ⟨er, hE⟩ := errs_of_laid hL
  refine (walk a0 len0 cap0 ps0 a1 a2 a3 cap3 xs3 a4 W w0 wl0 wm0 wi0 w1 w2 w3 wl3 wi3 w4 er hE).mono fun e W' ⟨he, bel⟩ => ?_
  subst he
  exact ⟨_, rfl, _, _, _, [], _, _, hW', trodAll_mk1 (shut_bool Tryz.underlying4 _), (trodAll_cons_mk (Below.trod laidOut (by kernel_rfl) (of_decide_eq_true (by kernel_rfl)) k0 bel lt0) (trodAll_cons_mk (Below.trod laidOut (by kernel_rfl) (of_decide_eq_true (by kernel_rfl)) k1 bel lt1) (trodAll_cons_mk (Below.trod laidOut (by kernel_rfl) (of_decide_eq_true (by kernel_rfl)) k2 bel lt2) (trodAll_cons_mk (Below.trod laidOut (by kernel_rfl) (of_decide_eq_true (by kernel_rfl)) k3 bel lt3) (trodAll_cons_mk (Below.trod laidOut (by kernel_rfl) (of_decide_eq_true (by kernel_rfl)) k4 bel lt4) trodAll_mk0))))), Below.trodVars laidOut bel (by kernel_rfl) hV, bel.frame _, fun h => by cases h⟩

theorem over : Rows.fnExactBurntRow.holds Tryz.pinned (OpenSpec.ofChange Rows.fnExactBurntSpec) :=
  OpenClaim.holds_of_wide 6 Tryz.f6 rfl rfl rfl rfl rfl rfl rfl ⟨rfl, rfl, rfl, rfl, rfl⟩ rfl rfl rfl rfl rfl (by kernel_rfl) Tryz.func6 (by kernel_rfl)
    (of_decide_eq_true (by kernel_rfl)) (by unfold Func.isWrapper; first | (rw [if_pos (by decide +kernel)]; kernel_rfl) | (rw [if_neg (by decide +kernel)]; exact ⟨rfl, rfl⟩))
    (fun os started H enc _ => lifted os started H enc)

/-- The tied card. -/
theorem proved : Rows.FnExactBurntCardSaid :=
  Claim7.holds_tied_plain_at .later [] [.handle, .sentinel, .sentinel, .sentinel, .sentinel, .sentinel, .sentinel, .sentinel, .sentinel] true (true, "d5c2e7f061c3caec8a0c64696ec198e10ba8bbdff7aa6ba684c55d00b6d3030c") true
    over (fun _ h => by cases h) (by kernel_rfl) (fun _ h => by cases h) fnExactBurnt_row_tie rfl ⟨rfl, rfl⟩ (by kernel_rfl) rfl
    (fun f fn hf hfn => by
      obtain rfl : f = 6 := Option.some.inj ((show Tryz.prog.funcNamed Rows.fnExactBurntRow.func = some 6 by kernel_rfl).symm.trans hf) |>.symm
      obtain rfl : fn = Tryz.f6 := (Option.some.inj (Tryz.func6.symm.trans hfn)).symm
      exact ⟨by kernel_rfl, fun j t ht => by
        rw [Tryz.params6] at ht
        have hm : t ∈ [43, 9, 9, 25, 2] := by simpa using Array.mem_of_getElem? ht
        have hall : ([43, 9, 9, 25, 2].all fun u => !Tryz.prog.wantsStandIn u) = true := by kernel_rfl
        exact (show Tryz.prog.wantsStandIn t = false by simpa using List.all_eq_true.1 hall t hm)⟩)
    (by kernel_rfl)
#print axioms proved
end Go.Proofs.YtmloocbbcnhooaaGreatDoor.fnExactBurnt
