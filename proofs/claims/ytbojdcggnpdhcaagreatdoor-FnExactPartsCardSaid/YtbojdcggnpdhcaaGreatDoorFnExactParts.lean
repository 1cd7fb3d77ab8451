/-
  FnExactParts returns true at every list of packages and leaves it as it was: impl.Parts answers as spec.Parts, in memory of its own.
-/
import Derived.Test.YtbojdcggnpdhcaaGreatDoorRows
import Derived.Test.YtbojdcggnpdhcaaGreatDoorCards
import Derived.Test.YtbojdcggnpdhcaaGreatDoorTie
import Derived.Test.YtbojdcggnpdhcaaGreatDoorP1
import Derived.Test.YtbojdcggnpdhcaaGreatDoorP2
import Derived.Test.YtbojdcggnpdhcaaGreatDoorP3
import Derived.Test.YtbojdcggnpdhcaaGreatDoorP4
import Derived.Test.YtbojdcggnpdhcaaGreatDoorP5
import Derived.Test.YtbojdcggnpdhcaaGreatDoorP6
import Derived.Test.YtbojdcggnpdhcaaGreatDoorP7
import Derived.Test.YtbojdcggnpdhcaaGreatDoorP8
import Derived.Test.YtbojdcggnpdhcaaGreatDoorP9
import Derived.Test.YtbojdcggnpdhcaaGreatDoorP10
import Derived.Test.YtbojdcggnpdhcaaGreatDoorP11
import Derived.Test.YtbojdcggnpdhcaaGreatDoorP12
import Derived.Test.YtbojdcggnpdhcaaGreatDoorP13
import Derived.Test.YtbojdcggnpdhcaaGreatDoorP14
import Derived.Test.YtbojdcggnpdhcaaGreatDoorP15
import Derived.Test.YtbojdcggnpdhcaaGreatDoorP16
import Derived.Test.YtbojdcggnpdhcaaGreatDoorP17
import Derived.Test.YtbojdcggnpdhcaaGreatDoorP18
import Derived.Test.YtbojdcggnpdhcaaGreatDoorP19
import Derived.Test.YtbojdcggnpdhcaaGreatDoorP20
import Derived.Test.YtbojdcggnpdhcaaGreatDoorP21
import Derived.Test.YtbojdcggnpdhcaaGreatDoorP22
import Derived.Test.YtbojdcggnpdhcaaGreatDoorP23
import Derived.Test.YtbojdcggnpdhcaaGreatDoorP24
import Derived.Test.YtbojdcggnpdhcaaGreatDoorP25
import Derived.Test.YtbojdcggnpdhcaaGreatDoorP26
import Derived.Test.YtbojdcggnpdhcaaGreatDoorP27
import Derived.Test.YtbojdcggnpdhcaaGreatDoorP28
import Derived.Test.YtbojdcggnpdhcaaGreatDoorP29
import Derived.Test.YtbojdcggnpdhcaaGreatDoorP30
import Derived.Test.YtbojdcggnpdhcaaGreatDoorP31
import Derived.Test.YtbojdcggnpdhcaaGreatDoorP32
import Derived.Test.YtbojdcggnpdhcaaGreatDoorP33
import Derived.WalkKit
import Derived.ProofKit
import Derived.OpenShut
import Derived.ShutString
import Derived.ChangeOld
import Derived.Below
import Derived.LaidLaws
import Derived.LaidHandle
import Derived.Lay
import Derived.MakeChecks
import Derived.Lib.LaidTab
import Derived.Stop.Joined
import Derived.SevenTiedAt
import Derived.OpenVars
import Derived.LaidMore
import Derived.Stop.LaidErr
namespace Go.Proofs.YtbojdcggnpdhcaaGreatDoor.fnExactParts
open Go.ChangeShapes Go.WideShapes Go.ChangeAt Go.RowKit
open Go.ChangeMaps (open_string shut_string)
set_option linter.unusedVariables false

theorem own : ownKnob Tryz.prog.godebug = none := by kernel_rfl
theorem laidOut : laidOutB Tryz.prog = true := by kernel_rfl

/-! The walk: the law returns true and writes nothing that was there. -/
set_option maxHeartbeats 8000000 in
set_option maxRecDepth 1000000 in
theorem walk (a0 : Option Addr) (len0 cap0 : Nat) (ps0 : List Pk) (w : World) (w0 : PkgsIn w a0 len0 ps0) (wl0 : len0 ≤ maxLen) (wm0 : LongPs ps0) (wi0 : IntPs ps0) (er : Nat → Addr) (hT : Err8 w er) :
    Calls Tryz.prog 3 #[.slice a0 len0 cap0] w fun e w' => e = .returned (.bool true) ∧ Below w.heap.size w w' := by
  have HT : Hid (Err8 w er) := hT
  clear hT
  obtain rfl : ps0.length = len0 := w0.1
  have HI : Hid (PkgsIn w a0 ps0.length ps0) := w0
  have HC0 := szPackageSC a0 ps0.length cap0 ps0 1048576 w w0 (by omega) (by omega) wl0 wm0
  by_cases hz : ((ps0.length + psSz ps0 : Nat) : Int) ≤ 1048576
  rotate_left
  · rw [szM_no hz] at HC0
    clear w0 wm0 wi0
    go_enter Tryz.func3, Tryz.ntmps3
    go_wp2_with fail
    refine HC0.mono ?_
    rintro e w1 ⟨rfl, hb1⟩
    go_wp2
    go_ret
    exact ⟨rfl, hb1⟩
  rw [szM_yes hz] at HC0
  have hge : (0 : Int) ≤ 1048576 - ((ps0.length + psSz ps0 : Nat) : Int) := by omega
  have hln : ps0.length ≤ 1048576 := by omega
  have HSZ : Hid (ps0.length + psSz ps0 ≤ 1048576) := by exact (by omega : ps0.length + psSz ps0 ≤ 1048576)
  have hsh : ShortPs ps0 := shortPs_of (by omega)
  have HSH : Hid (ShortPs ps0) := hsh
  have HIN : Hid (IntPs ps0) := wi0
  have HTo : Hid (_) := fun (V : World) (h : PkgsIn V a0 ps0.length ps0) => toPackageSC a0 ps0.length cap0 ps0 V h hln hsh
  generalize 1048576 - ((ps0.length + psSz ps0 : Nat) : Int) = left at HC0 hge
  clear w0 wm0 wi0 hsh hz wl0
  have hself : ∀ n : Int, (n != n) = false := by simp
  have hselfb : ∀ b : Bool, (b != b) = false := by simp
  have HS : Hid (_) := fun (V : World) (g : Nat) (h : PkgsOk V (some ⟨g, 0, none⟩) ps0.length ps0.length ps0) => specPrt (some ⟨g, 0, none⟩) ps0.length ps0.length ps0 V h.in hln HSH.out
  have HIm : Hid (_) := fun (V : World) (g : Nat) (hw : Below w.heap.size w V) (h : PkgsOk V (some ⟨g, 0, none⟩) ps0.length ps0.length ps0) => implPrt (some ⟨g, 0, none⟩) ps0.length ps0.length ps0 er V (HT.out.below hw) h
  have hRl := prtV_len ps0
  obtain ⟨R, hR⟩ : ∃ R, prtV ps0 = R := ⟨_, rfl⟩
  rw [hR] at HS HIm hRl
  clear hR
  go_enter Tryz.func3, Tryz.ntmps3
  go_wp2_with fail
  refine HC0.mono ?_
  rintro e w1 ⟨rfl, hb1⟩
  have hB := hb1
  clear HC0
  go_wp2_with fail
  refine Calls.mono (HTo.out _ (HI.out.below hB)) ?_
  rintro e w2 ⟨rfl, ys2, hy2, hp2, hb2⟩
  have hs2 := hB.size
  obtain ⟨G2, hG2⟩ : ∃ G, w1.heap.size = G := ⟨_, rfl⟩
  rw [hG2] at hp2 hs2
  have ok2 : PkgsOk w2 (some ⟨G2, 0, none⟩) ps0.length ps0.length ps0 := hp2.ok hy2 HIN.out HSH.out rfl hln
  replace hB := hB.trans (hb2.mono hB.size)
  clear hp2 hy2 hb2
  go_wp2_with fail
  refine Calls.mono (HS.out _ _ ok2) ?_
  rintro e w3 ⟨v0, rfl, ho0, hb3⟩
  replace hB := hB.trans (hb3.mono hB.size)
  clear ok2 hb3 hs2 hG2 hb1
  go_wp2_with fail
  refine Calls.mono (HTo.out _ (HI.out.below hB)) ?_
  rintro e w4 ⟨rfl, ys4, hy4, hp4, hb4⟩
  have hs4 := hB.size
  obtain ⟨G4, hG4⟩ : ∃ G, w3.heap.size = G := ⟨_, rfl⟩
  rw [hG4] at hp4 hs4
  have ok4 : PkgsOk w4 (some ⟨G4, 0, none⟩) ps0.length ps0.length ps0 := hp4.ok hy4 HIN.out HSH.out rfl hln
  have ho0a := own_below ho0 hb4
  have h0lt : ∀ k, v0.ownBlock = some k → k < G4 := fun k e => by have := (ho0.lt k e).2; omega
  replace hB := hB.trans (hb4.mono hB.size)
  have hGT := hb4.size
  rw [hG4] at hGT
  clear ho0 hb4
  go_wp2_with fail
  refine Calls.mono (HIm.out _ _ hB ok4) ?_
  rintro e w5 ⟨g0, rfl, hg0, hb5⟩
  have hp5 := hp4.below hb5
  have ok5 := ok4.below hb5
  have ho5 := own_below ho0a hb5
  replace hB := hB.trans (hb5.mono hB.size)
  obtain ⟨T, hT⟩ : ∃ T, w4.heap.size = T := ⟨_, rfl⟩
  rw [hT] at hp5 hg0 hGT
  have HQ1 : Hid (_) := eqStrV w5 T _ g0 v0 R (by omega) hg0 ho5
  clear ok4 hb5 hG4 hp4 ho0a hT
  go_wp2_with fail
  refine Calls.mono HQ1.out ?_
  rintro e w6 ⟨rfl, hgr6⟩
  have hb6 : Below w5.heap.size w5 w6 := ⟨hgr6.os, hgr6.tape, hgr6.output, hgr6.size, fun k hk => hgr6.block k hk (by simp)⟩
  have hp6 := hp5.below hb6
  have ok6 := ok5.below hb6
  have ho6 := own_below ho5 hb6
  have hg6 := own_below hg0 hb6
  replace hB := hB.trans (hb6.mono hB.size)
  clear HQ1 hgr6 hb6 hp5 ok5 ho5 hg0
  go_wp2_with fail
  refine Calls.mono (HTo.out _ (HI.out.below hB)) ?_
  rintro e w7 ⟨rfl, ys7, hy7, hp7, hb7⟩
  have hs7 := hB.size
  obtain ⟨G7, hG7⟩ : ∃ G, w6.heap.size = G := ⟨_, rfl⟩
  rw [hG7] at hp7 hs7
  have ok7 : PkgsOk w7 (some ⟨G7, 0, none⟩) ps0.length ps0.length ps0 := hp7.ok hy7 HIN.out HSH.out rfl hln
  have hp7a := hp6.below hb7
  have ok7a := ok6.below hb7
  have ho7 := own_below ho6 hb7
  have hg7 := own_below hg6 hb7
  replace hB := hB.trans (hb7.mono hB.size)
  have HE : Hid (_) := eqPackageSC (some ⟨G4, 0, none⟩) (some ⟨G7, 0, none⟩) ps0.length ps0.length ps0.length ps0 w7 ok7a.in ok7.in (by omega) HSH.out
  clear hp7 hy7 hb7 ok7 ok7a hp6 ok6 ho6 hg6
  go_wp2_with fail
  refine Calls.mono HE.out ?_
  rintro e w8 ⟨rfl, hb8⟩
  have hp8 := hp7a.below hb8
  have ho8 := own_below ho7 hb8
  have hg8 := own_below hg7 hb8
  replace hB := hB.trans (hb8.mono hB.size)
  have hyl : ys4.length = ps0.length := by rw [← hy4, List.length_map]
  obtain ⟨hsm1, hsm2⟩ := pj_small hy4 HSZ.out
  have hp8' := hp8
  rw [← hyl] at hp8'
  have HM := markPackageSC w8 G4 T G4 ys4.length 1 ys4 hp8' (by omega) hsm1 (by omega) hsm2
  rw [hyl] at HM
  obtain ⟨M, hM⟩ : ∃ M, mend 1 ys4 = M := ⟨_, rfl⟩
  rw [hM] at HM
  have HMk : Hid (_) := HM
  clear HE hb8 hp7a ho7 hg7 hp8' hsm1 hsm2 HM hM
  go_wp2_with fail
  refine Calls.mono HMk.out ?_
  rintro e w9 ⟨rfl, hw9⟩
  have ho9 := own_wrote ho8 hw9 (fun k e h => by have := h0lt k e; omega)
  have hg9 := own_wrote hg8 hw9 (fun k e h => by have := (hg8.lt k e).1; omega)
  have hB9 : Below w.heap.size w w9 := hB.trans (hw9.below hB.size (fun k h => by omega))
  have HQ2 : Hid (_) := eqStrV w9 T _ g0 v0 R (by omega) hg9 ho9
  have hM0 : ¬ ((M : Int) < 0) := by omega
  clear HMk hp8 ho8 hg8 hB hw9
  go_wp2_with fail
  refine Calls.mono HQ2.out ?_
  rintro e w10 ⟨rfl, hgr⟩
  have hb10 : Below w9.heap.size w9 w10 := ⟨hgr.os, hgr.tape, hgr.output, hgr.size, fun k hk => hgr.block k hk (by simp)⟩
  have ho10 := own_below ho9 hb10
  have hg10 := own_below hg9 hb10
  have hB := hB9.trans (hb10.mono hB9.size)
  have HMS : Hid (_) := markStrV w10 T R.length 1 g0 _ (by omega) (by omega) (by omega) hg10
  clear HQ2 hgr hb10 ho9 hg9 hB9
  go_wp2_with fail
  refine Calls.mono HMS.out ?_
  rintro e w11 ⟨rfl, hg11, hgr11⟩
  have hT0 : w.heap.size ≤ T := by omega
  have ho11 := ho10.kept hgr11 (by
    rcases hv : v0.ownBlock with _ | k
    · exact Or.inl rfl
    · refine Or.inr (fun e => ?_)
      have h1 := h0lt k hv
      have h2 := (hg10.lt k e.symm).1
      omega)
  have hB11 : Below w.heap.size w w11 := hB.grown hgr11 hB.size (fun k e => by have := (hg10.lt k e).1; omega)
  have HH1 : Hid (_) := heldStrV w11 T R.length 1 g0 (by omega) (by omega) (by omega) hg11
  clear HMS hgr11 ho10 hg10 hB
  go_wp2_with fail
  refine Calls.mono HH1.out ?_
  rintro e w12 ⟨rfl, hgr⟩
  have hb12 : Below w11.heap.size w11 w12 := ⟨hgr.os, hgr.tape, hgr.output, hgr.size, fun k hk => hgr.block k hk (by simp)⟩
  have ho12 := own_below ho11 hb12
  have hg12 := own_below hg11 hb12
  have hB := hB11.trans (hb12.mono hB11.size)
  clear HH1 hgr hb12 ho11 hg11 hB11
  go_wp2_with fail
  refine Calls.mono (HTo.out _ (HI.out.below hB)) ?_
  rintro e w13 ⟨rfl, ys13, hy13, hp13, hb13⟩
  have hs13 := hB.size
  obtain ⟨G13, hG13⟩ : ∃ G, w12.heap.size = G := ⟨_, rfl⟩
  rw [hG13] at hp13 hs13
  have ok13 : PkgsOk w13 (some ⟨G13, 0, none⟩) ps0.length ps0.length ps0 := hp13.ok hy13 HIN.out HSH.out rfl hln
  have ho13 := own_below ho12 hb13
  have hg13 := own_below hg12 hb13
  replace hB := hB.trans (hb13.mono hB.size)
  clear hp13 hy13 hb13 ho12 hg12
  go_wp2_with fail
  refine Calls.mono (HIm.out _ _ hB ok13) ?_
  rintro e w14 ⟨h0, rfl, hh0, hb14⟩
  have ho14 := own_below ho13 hb14
  have hg14 := own_below hg13 hb14
  replace hB := hB.trans (hb14.mono hB.size)
  have HQ3 : Hid (_) := eqStrV w14 _ _ h0 v0 R (by omega) hh0 ho14
  clear ok13 hb14 ho13 hg13
  go_wp2_with fail
  refine Calls.mono HQ3.out ?_
  rintro e w15 ⟨rfl, hgr⟩
  have hb15 : Below w14.heap.size w14 w15 := ⟨hgr.os, hgr.tape, hgr.output, hgr.size, fun k hk => hgr.block k hk (by simp)⟩
  have hg15 := own_below hg14 hb15
  replace hB := hB.trans (hb15.mono hB.size)
  have HH2 : Hid (_) := heldStrV w15 T R.length 1 g0 (by omega) (by omega) (by omega) hg15
  clear HQ3 hgr hb15 ho14 hg14 hh0
  go_wp2_with fail
  refine Calls.mono HH2.out ?_
  rintro e w16 ⟨rfl, hgr⟩
  have hb16 : Below w15.heap.size w15 w16 := ⟨hgr.os, hgr.tape, hgr.output, hgr.size, fun k hk => hgr.block k hk (by simp)⟩
  replace hB := hB.trans (hb16.mono hB.size)
  clear HH2 hgr hb16 hg15
  go_wp2
  go_ret
  exact ⟨rfl, hB⟩

/-- The listed errors, as they stand on the list. -/
def errList : List (String × List UInt8) := [("loop.example/g00346/impl.errNotTold", [115, 111, 109, 101, 116, 104, 105, 110, 103, 32, 105, 115, 32, 110, 111, 116, 32, 97, 115, 32, 116, 111, 108, 100]), ("loop.example/g00346/impl.errFar", [116, 104, 101, 32, 112, 97, 99, 107, 97, 103, 101, 32, 99, 97, 108, 108, 101, 100, 32, 105, 115, 32, 110, 111, 116, 32, 119, 105, 116, 104, 105, 110, 32, 114, 101, 97, 99, 104]), ("loop.example/g00346/impl.errFunc", [116, 104, 101, 32, 102, 117, 110, 99, 32, 99, 97, 108, 108, 101, 100, 32, 105, 115, 32, 110, 111, 116, 32, 116, 104, 101, 114, 101]), ("loop.example/g00346/impl.errCount", [116, 104, 101, 32, 99, 97, 108, 108, 32, 104, 97, 115, 32, 97, 110, 111, 116, 104, 101, 114, 32, 110, 117, 109, 98, 101, 114, 32, 111, 102, 32, 112, 97, 114, 116, 115, 32, 116, 104, 97, 110, 32, 116, 104, 101, 32, 102, 117, 110, 99, 32, 104, 97, 115, 32, 97, 114, 103, 117, 109, 101, 110, 116, 115]), ("loop.example/g00346/impl.errImport", [97, 110, 32, 105, 109, 112, 111, 114, 116, 32, 105, 115, 32, 110, 111, 116, 32, 116, 104, 101, 114, 101]), ("loop.example/g00346/impl.errRing", [116, 104, 101, 32, 112, 97, 99, 107, 97, 103, 101, 32, 105, 115, 32, 111, 110, 32, 97, 32, 114, 105, 110, 103, 32, 111, 114, 32, 98, 101, 104, 105, 110, 100, 32, 111, 110, 101]), ("loop.example/g00346/impl.errArg", [116, 104, 101, 114, 101, 32, 105, 115, 32, 110, 111, 32, 115, 117, 99, 104, 32, 97, 114, 103, 117, 109, 101, 110, 116]), ("loop.example/g00346/impl.errMain", [116, 104, 101, 114, 101, 32, 105, 115, 32, 110, 111, 32, 109, 97, 105, 110, 32, 111, 102, 32, 111, 110, 101, 32, 97, 114, 103, 117, 109, 101, 110, 116])]
/-- What the listed variables give the walk. -/
theorem errs_of_laid {W : World} (h : laidMetH Tryz.prog Rows.fnExactPartsRow.laid W) : ∃ er, Err8 W er := by
  have e2 : (Rows.fnExactPartsRow.laid.filter fun x => x.2.handleName?.isSome) = [("errors.errorType", Rows.laid_errors_errorType)] := by kernel_rfl
  have e1 : (Rows.fnExactPartsRow.laid.filter fun x => x.2.handleName?.isNone) = [("loop.example/g00346/impl.errNotTold", Rows.laid_loop_example_g00346_impl_errNotTold), ("loop.example/g00346/impl.errFar", Rows.laid_loop_example_g00346_impl_errFar), ("loop.example/g00346/impl.errFunc", Rows.laid_loop_example_g00346_impl_errFunc), ("loop.example/g00346/impl.errCount", Rows.laid_loop_example_g00346_impl_errCount), ("loop.example/g00346/impl.errImport", Rows.laid_loop_example_g00346_impl_errImport), ("loop.example/g00346/impl.errRing", Rows.laid_loop_example_g00346_impl_errRing), ("loop.example/g00346/impl.errArg", Rows.laid_loop_example_g00346_impl_errArg), ("loop.example/g00346/impl.errMain", Rows.laid_loop_example_g00346_impl_errMain)] := by kernel_rfl
  unfold laidMetH at h
  rw [e2] at h
  have h' : laidMet Tryz.prog (Rows.fnExactPartsRow.laid.filter fun x => x.2.handleName?.isNone) W ∧ handlesMet Tryz.prog [("errors.errorType", Rows.laid_errors_errorType)] W := h
  have h1 := h'.1
  rw [e1] at h1
  have h2 : laidMet Tryz.prog (errList.map fun x => (x.1, sentD x.2)) W := h1
  exact err8_of h2 (handle_of h'.2)

theorem door_met (os : Os) (args : Array Value) : laidMetH Tryz.prog Rows.fnExactPartsRow.laid ((World.doorLaid Tryz.prog 168 os).forCall (fun _ _ => 0) ⟨#[], args, []⟩).memory :=
  laidMetH_of_parts3 (fuel := 8) (laidMet_of_run' 8 (by kernel_rfl) (by kernel_rfl)) (by kernel_rfl) (by kernel_rfl)
theorem vars_len {H : Type} {enc : TypeId × Value → H} {P : Program} {w : World} {sp : Nat → Bool} : ∀ {ns : List String} {gs : List (DataW H)} {ps : List MemPlace}, DataW.TrodVars enc P w sp ns gs ps → gs.length = ns.length
  | [], [], _, _ => rfl
  | [], _ :: _, _, h => h.elim
  | _ :: _, [], _, h => h.elim
  | _ :: ns, _ :: gs, _, h => by
    obtain ⟨g, t, cs, fuel, p, q, _, _, _, _, hr, _⟩ := h
    simp [vars_len hr]

set_option maxRecDepth 100000 in
theorem lifted (os : Os) (started : os.Started) (H : Type) (enc : TypeId × Value → H) :
    ReturnsInHanded {} Tryz.checked os 3 .any (fun w args => (Rows.fnExactPartsSpec.pre enc Tryz.prog Tryz.f3 [] false w args ∧ laidMetH Tryz.prog Rows.fnExactPartsRow.laid w) ∧ sizedMet enc Tryz.prog Tryz.f3 (OpenSpec.ofChange Rows.fnExactPartsSpec) false w args)
      (Rows.fnExactPartsSpec.post enc Tryz.prog Tryz.f3 false true false false) := by
  refine returnsInHanded_of_change_and (C := Tryz.checked) (X := fun w _ => laidMetH Tryz.prog Rows.fnExactPartsRow.laid w) (fun _ _ _ hh h => h.of_heap hh) own started (by kernel_rfl) Tryz.func3
    (ChangeSpec.witness_shaped (enc := enc) (C := Tryz.checked) (os := os) (X := fun w _ => laidMetH Tryz.prog Rows.fnExactPartsRow.laid w) false (World.doorLaid Tryz.prog 168 os) #[.slice none 0 0] 8 rfl
      (World.shaped_of_RefB (by kernel_rfl) (by kernel_rfl)) (by kernel_rfl) (by kernel_rfl) (by kernel_rfl) (door_met os _)) ?_
  intro W base args ds gs before hval0 hW _ _ hL _
  have hval : ∀ (j : Nat) t v, Tryz.f3.params[j]? = some t → args[j]? = some v → Value.okWide Tryz.prog W .any base t v := hval0
  have hW' := hW
  obtain ⟨p, q, hA0, hV, rfl, hfz, hnd⟩ := hW
  have hA : DataW.TrodAll enc Tryz.prog W 0 (fun _ => true) true Tryz.f3.params.toList args.toList ds p := hA0
  rw [Tryz.params3] at hA hval
  obtain ⟨v0, vs0, d0, ds0, p0, q0, hargs, rfl, rfl, h0, r0⟩ := trodAll_cons hA
  obtain ⟨rfl, rfl, rfl⟩ := trodAll_nil r0
  obtain rfl : args = #[v0] := by cases args; simp_all
  have hlen := vars_len hV
  obtain ⟨u0, u1, u2, u3, u4, u5, u6, u7, rfl⟩ : ∃ u0 u1 u2 u3 u4 u5 u6 u7, gs = [u0, u1, u2, u3, u4, u5, u6, u7] := by
    match gs, hlen with
    | [u0, u1, u2, u3, u4, u5, u6, u7], _ => exact ⟨u0, u1, u2, u3, u4, u5, u6, u7, rfl⟩
  have k0 := h0
  have lt0 : ∀ x ∈ p0, x.block < W.heap.size := by obtain ⟨m, hm⟩ := k0; exact DataW.trod_lt m _ _ _ hm
  obtain ⟨a0, len0, cap0, ps0, rfl, w0, wl0, wm0, wi0⟩ := open_packages (hval 0 22 v0 rfl rfl) h0
  clear hA0 hval0
  obtain ⟨er, hE⟩ := errs_of_laid hL
  refine (walk a0 len0 cap0 ps0 W w0 wl0 wm0 wi0 er hE).mono fun e W' ⟨he, bel⟩ => ?_
  subst he
  exact ⟨_, rfl, _, _, _, [], _, _, hW', trodAll_mk1 (shut_bool Tryz.underlying4 _), (trodAll_cons_mk (Below.trod laidOut (by kernel_rfl) (of_decide_eq_true (by kernel_rfl)) k0 bel lt0) trodAll_mk0), Below.trodVars laidOut bel (by kernel_rfl) hV, bel.frame _, fun h => by cases h⟩

theorem over : Rows.fnExactPartsRow.holds Tryz.pinned (OpenSpec.ofChange Rows.fnExactPartsSpec) :=
  OpenClaim.holds_of_wide 3 Tryz.f3 rfl rfl rfl rfl rfl rfl rfl ⟨rfl, rfl, rfl, rfl, rfl⟩ rfl rfl rfl rfl rfl (by kernel_rfl) Tryz.func3 (by kernel_rfl)
    (of_decide_eq_true (by kernel_rfl)) (by unfold Func.isWrapper; first | (rw [if_pos (by decide +kernel)]; kernel_rfl) | (rw [if_neg (by decide +kernel)]; exact ⟨rfl, rfl⟩))
    (fun os started H enc _ => lifted os started H enc)

/-- The tied card. -/
theorem proved : Rows.FnExactPartsCardSaid :=
  Claim7.holds_tied_plain_at .later [] [.handle, .sentinel, .sentinel, .sentinel, .sentinel, .sentinel, .sentinel, .sentinel, .sentinel] true (true, "89adc78e14df3b13b4a1b8240b7b4abee8886efb41c505cb973cc70e3bc4e1dc") true
    over (fun _ h => by cases h) (by kernel_rfl) (fun _ h => by cases h) fnExactParts_row_tie rfl ⟨rfl, rfl⟩ (by kernel_rfl) rfl
    (fun f fn hf hfn => by
      obtain rfl : f = 3 := Option.some.inj ((show Tryz.prog.funcNamed Rows.fnExactPartsRow.func = some 3 by kernel_rfl).symm.trans hf) |>.symm
      obtain rfl : fn = Tryz.f3 := (Option.some.inj (Tryz.func3.symm.trans hfn)).symm
      exact ⟨by kernel_rfl, fun j t ht => by
        rw [Tryz.params3] at ht
        have hm : t ∈ [22] := by simpa using Array.mem_of_getElem? ht
        have hall : ([22].all fun u => !Tryz.prog.wantsStandIn u) = true := by kernel_rfl
        exact (show Tryz.prog.wantsStandIn t = false by simpa using List.all_eq_true.1 hall t hm)⟩)
    (by kernel_rfl)
#print axioms proved
end Go.Proofs.YtbojdcggnpdhcaaGreatDoor.fnExactParts
