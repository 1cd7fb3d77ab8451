/-
  FnExactFaultOf returns true at every list of packages and leaves it as it was: impl.FaultOf answers as spec.FaultOf.
-/
import Derived.Test.YtdjglpcllcjcfaaGreatDoorRows
import Derived.Test.YtdjglpcllcjcfaaGreatDoorCards
import Derived.Test.YtdjglpcllcjcfaaGreatDoorTie
import Derived.Test.YtdjglpcllcjcfaaGreatDoorP16
import Derived.Test.YtdjglpcllcjcfaaGreatDoorP31
import Derived.Test.YtdjglpcllcjcfaaGreatDoorP23
import Derived.WalkKit
import Derived.ProofKit
import Derived.OpenShut
import Derived.ShutString
import Derived.ChangeOld
import Derived.Below
import Derived.LaidLaws
import Derived.LaidHandle
import Derived.Lay
import Derived.MakeChecks
import Derived.Lib.LaidTab
import Derived.Stop.Joined
import Derived.SevenTiedAt
import Derived.OpenVars
import Derived.LaidMore
import Derived.Stop.LaidErr
namespace Go.Proofs.YtdjglpcllcjcfaaGreatDoor.fnExactFaultOf
open Go.ChangeShapes Go.WideShapes Go.ChangeAt Go.RowKit
open Go.ChangeMaps (open_string shut_string)
set_option linter.unusedVariables false

theorem own : ownKnob Tryz.prog.godebug = none := by kernel_rfl
theorem laidOut : laidOutB Tryz.prog = true := by kernel_rfl

/-! The walk: the law returns true and writes nothing that was there. -/
set_option maxHeartbeats 8000000 in
set_option maxRecDepth 1000000 in
theorem walk (a0 : Option Addr) (len0 cap0 : Nat) (ps0 : List Pk) (w : World) (w0 : PkgsIn w a0 len0 ps0) (wl0 : len0 ≤ maxLen) (wm0 : LongPs ps0) (wi0 : IntPs ps0) (er : Nat → Addr) (hT : Err8 w er) :
    Calls Tryz.prog 4 #[.slice a0 len0 cap0] w fun e w' => e = .returned (.bool true) ∧ Below w.heap.size w w' := by
  have HT : Hid (Err8 w er) := hT
  clear hT
  obtain rfl : ps0.length = len0 := w0.1
  have HI : Hid (PkgsIn w a0 ps0.length ps0) := w0
  have HC0 := szPackageSC a0 ps0.length cap0 ps0 1048576 w w0 (by omega) (by omega) wl0 wm0
  by_cases hz : ((ps0.length + psSz ps0 : Nat) : Int) ≤ 1048576
  rotate_left
  · rw [szM_no hz] at HC0
    clear w0 wm0 wi0
    go_enter Tryz.func4, Tryz.ntmps4
    go_wp2_with fail
    refine HC0.mono ?_
    rintro e w1 ⟨rfl, hb1⟩
    go_wp2
    go_ret
    exact ⟨rfl, hb1⟩
  rw [szM_yes hz] at HC0
  have hge : (0 : Int) ≤ 1048576 - ((ps0.length + psSz ps0 : Nat) : Int) := by omega
  have hln : ps0.length ≤ 1048576 := by omega
  have HSZ : Hid (ps0.length + psSz ps0 ≤ 1048576) := by exact (by omega : ps0.length + psSz ps0 ≤ 1048576)
  have hsh : ShortPs ps0 := shortPs_of (by omega)
  have HSH : Hid (ShortPs ps0) := hsh
  have HIN : Hid (IntPs ps0) := wi0
  have HTo : Hid (_) := fun (V : World) (h : PkgsIn V a0 ps0.length ps0) => toPackageSC a0 ps0.length cap0 ps0 V h hln hsh
  generalize 1048576 - ((ps0.length + psSz ps0 : Nat) : Int) = left at HC0 hge
  clear w0 wm0 wi0 hsh hz wl0
  have hself : ∀ n : Int, (n != n) = false := by simp
  have hselfb : ∀ b : Bool, (b != b) = false := by simp
  have HS : Hid (_) := fun (V : World) (g : Nat) (h : PkgsOk V (some ⟨g, 0, none⟩) ps0.length ps0.length ps0) => specFaultOf (some ⟨g, 0, none⟩) ps0.length ps0.length ps0 V h.in hln HSH.out
  have HIm : Hid (_) := fun (V : World) (g : Nat) (hw : Below w.heap.size w V) (h : PkgsOk V (some ⟨g, 0, none⟩) ps0.length ps0.length ps0) => implFaultOf (some ⟨g, 0, none⟩) ps0.length ps0.length ps0 er V (HT.out.below hw) h
  obtain ⟨z, hz⟩ : ∃ z, faultV ps0 = z := ⟨_, rfl⟩
  rw [hz] at HS HIm
  clear hz
  have HEq : Hid (∀ V, Calls Tryz.prog 20 #[fltVal z, fltVal z] V fun e w' => e = .returned (.bool true) ∧ Below V.heap.size V w') := fun V => lawEqFault z V
  obtain ⟨zc, zp, zf⟩ := z
  unfold fltVal at HS HIm HEq
  simp only at HS HIm HEq
  go_enter Tryz.func4, Tryz.ntmps4
  go_wp2_with fail
  refine HC0.mono ?_
  rintro e w1 ⟨rfl, hb1⟩
  have hB := hb1
  clear HC0
  go_wp2_with fail
  refine Calls.mono (HTo.out _ (HI.out.below hB)) ?_
  rintro e w2 ⟨rfl, ys2, hy2, hp2, hb2⟩
  have hs2 := hB.size
  obtain ⟨G2, hG2⟩ : ∃ G, w1.heap.size = G := ⟨_, rfl⟩
  rw [hG2] at hp2 hs2
  have ok2 : PkgsOk w2 (some ⟨G2, 0, none⟩) ps0.length ps0.length ps0 := hp2.ok hy2 HIN.out HSH.out rfl hln
  have hB2 := hB.trans (hb2.mono hB.size)
  clear hp2 hy2 hb2
  go_wp2_with fail
  refine Calls.mono (HS.out _ _ ok2) ?_
  rintro e w3 ⟨rfl, hb3⟩
  replace hB := hB2.trans (hb3.mono hB2.size)
  obtain ⟨bz, hbz⟩ := Box3.new w3 (.int .i64 zc) (.string ⟨zp.toArray⟩) (.string ⟨zf.toArray⟩) 27
  obtain ⟨W3, hW3⟩ : ∃ W3, w3.alloc (.cells #[.int .i64 zc, .string ⟨zp.toArray⟩, .string ⟨zf.toArray⟩] 27) = W3 := ⟨_, rfl⟩
  rw [hW3] at bz hbz
  obtain ⟨E3, hE3⟩ : ∃ E3, w3.heap.size = E3 := ⟨_, rfl⟩
  rw [hE3] at bz
  replace hB := hB.trans (hbz.mono hB.size)
  have HZ3 : Hid (∀ Z, Below W3.heap.size W3 Z → Box3 Z E3 (.int .i64 zc) (.string ⟨zp.toArray⟩) (.string ⟨zf.toArray⟩)) := fun Z hz => bz.below hz
  clear ok2 hB2 hb3 hs2 hG2 hb1 bz hbz
  go_wp2_with fail
  refine Calls.mono (HTo.out _ (HI.out.below hB)) ?_
  rintro e w4 ⟨rfl, ys4, hy4, hp4, hb4⟩
  have hs4 := hB.size
  obtain ⟨G4, hG4⟩ : ∃ G, W3.heap.size = G := ⟨_, rfl⟩
  rw [hG4] at hp4 hs4
  have ok4 : PkgsOk w4 (some ⟨G4, 0, none⟩) ps0.length ps0.length ps0 := hp4.ok hy4 HIN.out HSH.out rfl hln
  replace hB := hB.trans (hb4.mono hB.size)
  have hb34 : Below W3.heap.size W3 w4 := hb4
  clear hp4 hy4 hb4
  go_wp2_with fail
  refine Calls.mono (HIm.out _ _ hB ok4) ?_
  rintro e w5 ⟨rfl, hb5⟩
  replace hB := hB.trans (hb5.mono hB.size)
  have hb35 := hb34.trans (hb5.mono hb34.size)
  obtain ⟨by5, hby5⟩ := Box3.new w5 (.int .i64 zc) (.string ⟨zp.toArray⟩) (.string ⟨zf.toArray⟩) 27
  obtain ⟨W5, hW5⟩ : ∃ W5, w5.alloc (.cells #[.int .i64 zc, .string ⟨zp.toArray⟩, .string ⟨zf.toArray⟩] 27) = W5 := ⟨_, rfl⟩
  rw [hW5] at by5 hby5
  have ok5 := (ok4.below hb5).below hby5
  have b3 := HZ3.out W5 (hb35.trans (hby5.mono hb35.size))
  have q0 := b3.c0
  have q1 := b3.c1
  have q2 := b3.c2
  have r0 := by5.c0
  have r1 := by5.c1
  have r2 := by5.c2
  replace hB := hB.trans (hby5.mono hB.size)
  clear ok4 hb5 hs4 hG4 b3 by5 hby5 hb35 hb34 HZ3
  go_wp2_with fail
  refine Calls.mono (HEq.out _) ?_
  rintro e w6 ⟨rfl, hb6⟩
  have ok6 := ok5.below hb6
  replace hB := hB.trans (hb6.mono hB.size)
  clear ok5 hb6
  go_wp2_with fail
  refine Calls.mono (HTo.out _ (HI.out.below hB)) ?_
  rintro e w8 ⟨rfl, ys8, hy8, hp8, hb8⟩
  have hs8 := hB.size
  obtain ⟨G8, hG8⟩ : ∃ G, w6.heap.size = G := ⟨_, rfl⟩
  rw [hG8] at hp8 hs8
  have ok8 : PkgsOk w8 (some ⟨G8, 0, none⟩) ps0.length ps0.length ps0 := hp8.ok hy8 HIN.out HSH.out rfl hln
  have ok6b := ok6.below hb8
  replace hB := hB.trans (hb8.mono hB.size)
  have HE : Hid (_) := eqPackageSC (some ⟨G4, 0, none⟩) (some ⟨G8, 0, none⟩) ps0.length ps0.length ps0.length ps0 w8 ok6b.in ok8.in (by omega) HSH.out
  clear hp8 hy8 hb8 ok6 ok6b ok8
  go_wp2_with fail
  refine Calls.mono HE.out ?_
  rintro e w9 ⟨rfl, hb9⟩
  replace hB := hB.trans (hb9.mono hB.size)
  go_wp2
  go_ret
  exact ⟨rfl, hB⟩

/-- The listed errors, as they stand on the list. -/
def errList : List (String × List UInt8) := [("loop.example/g00346/impl.errNotTold", [115, 111, 109, 101, 116, 104, 105, 110, 103, 32, 105, 115, 32, 110, 111, 116, 32, 97, 115, 32, 116, 111, 108, 100]), ("loop.example/g00346/impl.errFar", [116, 104, 101, 32, 112, 97, 99, 107, 97, 103, 101, 32, 99, 97, 108, 108, 101, 100, 32, 105, 115, 32, 110, 111, 116, 32, 119, 105, 116, 104, 105, 110, 32, 114, 101, 97, 99, 104]), ("loop.example/g00346/impl.errFunc", [116, 104, 101, 32, 102, 117, 110, 99, 32, 99, 97, 108, 108, 101, 100, 32, 105, 115, 32, 110, 111, 116, 32, 116, 104, 101, 114, 101]), ("loop.example/g00346/impl.errCount", [116, 104, 101, 32, 99, 97, 108, 108, 32, 104, 97, 115, 32, 97, 110, 111, 116, 104, 101, 114, 32, 110, 117, 109, 98, 101, 114, 32, 111, 102, 32, 112, 97, 114, 116, 115, 32, 116, 104, 97, 110, 32, 116, 104, 101, 32, 102, 117, 110, 99, 32, 104, 97, 115, 32, 97, 114, 103, 117, 109, 101, 110, 116, 115]), ("loop.example/g00346/impl.errImport", [97, 110, 32, 105, 109, 112, 111, 114, 116, 32, 105, 115, 32, 110, 111, 116, 32, 116, 104, 101, 114, 101]), ("loop.example/g00346/impl.errRing", [116, 104, 101, 32, 112, 97, 99, 107, 97, 103, 101, 32, 105, 115, 32, 111, 110, 32, 97, 32, 114, 105, 110, 103, 32, 111, 114, 32, 98, 101, 104, 105, 110, 100, 32, 111, 110, 101]), ("loop.example/g00346/impl.errArg", [116, 104, 101, 114, 101, 32, 105, 115, 32, 110, 111, 32, 115, 117, 99, 104, 32, 97, 114, 103, 117, 109, 101, 110, 116]), ("loop.example/g00346/impl.errMain", [116, 104, 101, 114, 101, 32, 105, 115, 32, 110, 111, 32, 109, 97, 105, 110, 32, 111, 102, 32, 111, 110, 101, 32, 97, 114, 103, 117, 109, 101, 110, 116])]
/-- What the listed variables give the walk. -/
theorem errs_of_laid {W : World} (h : laidMetH Tryz.prog Rows.fnExactFaultOfRow.laid W) : ∃ er, Err8 W er := by
  have e2 : (Rows.fnExactFaultOfRow.laid.filter fun x => x.2.handleName?.isSome) = [("errors.errorType", Rows.laid_errors_errorType)] := by kernel_rfl
  have e1 : (Rows.fnExactFaultOfRow.laid.filter fun x => x.2.handleName?.isNone) = [("loop.example/g00346/impl.errNotTold", Rows.laid_loop_example_g00346_impl_errNotTold), ("loop.example/g00346/impl.errFar", Rows.laid_loop_example_g00346_impl_errFar), ("loop.example/g00346/impl.errFunc", Rows.laid_loop_example_g00346_impl_errFunc), ("loop.example/g00346/impl.errCount", Rows.laid_loop_example_g00346_impl_errCount), ("loop.example/g00346/impl.errImport", Rows.laid_loop_example_g00346_impl_errImport), ("loop.example/g00346/impl.errRing", Rows.laid_loop_example_g00346_impl_errRing), ("loop.example/g00346/impl.errArg", Rows.laid_loop_example_g00346_impl_errArg), ("loop.example/g00346/impl.errMain", Rows.laid_loop_example_g00346_impl_errMain)] := by kernel_rfl
  unfold laidMetH at h
  rw [e2] at h
  have h' : laidMet Tryz.prog (Rows.fnExactFaultOfRow.laid.filter fun x => x.2.handleName?.isNone) W ∧ handlesMet Tryz.prog [("errors.errorType", Rows.laid_errors_errorType)] W := h
  have h1 := h'.1
  rw [e1] at h1
  have h2 : laidMet Tryz.prog (errList.map fun x => (x.1, sentD x.2)) W := h1
  exact err8_of h2 (handle_of h'.2)

theorem door_met (os : Os) (args : Array Value) : laidMetH Tryz.prog Rows.fnExactFaultOfRow.laid ((World.doorLaid Tryz.prog 183 os).forCall (fun _ _ => 0) ⟨#[], args, []⟩).memory :=
  laidMetH_of_parts3 (fuel := 8) (laidMet_of_run' 8 (by kernel_rfl) (by kernel_rfl)) (by kernel_rfl) (by kernel_rfl)
theorem vars_len {H : Type} {enc : TypeId × Value → H} {P : Program} {w : World} {sp : Nat → Bool} : ∀ {ns : List String} {gs : List (DataW H)} {ps : List MemPlace}, DataW.TrodVars enc P w sp ns gs ps → gs.length = ns.length
  | [], [], _, _ => rfl
  | [], _ :: _, _, h => h.elim
  | _ :: _, [], _, h => h.elim
  | _ :: ns, _ :: gs, _, h => by
    obtain ⟨g, t, cs, fuel, p, q, _, _, _, _, hr, _⟩ := h
    simp [vars_len hr]

set_option maxRecDepth 100000 in
theorem lifted (os : Os) (started : os.Started) (H : Type) (enc : TypeId × Value → H) :
    ReturnsInHanded {} Tryz.checked os 4 .any (fun w args => (Rows.fnExactFaultOfSpec.pre enc Tryz.prog Tryz.f4 [] false w args ∧ laidMetH Tryz.prog Rows.fnExactFaultOfRow.laid w) ∧ sizedMet enc Tryz.prog Tryz.f4 (OpenSpec.ofChange Rows.fnExactFaultOfSpec) false w args)
      (Rows.fnExactFaultOfSpec.post enc Tryz.prog Tryz.f4 false true false false) := by
  refine returnsInHanded_of_change_and (C := Tryz.checked) (X := fun w _ => laidMetH Tryz.prog Rows.fnExactFaultOfRow.laid w) (fun _ _ _ hh h => h.of_heap hh) own started (by kernel_rfl) Tryz.func4
    (ChangeSpec.witness_shaped (enc := enc) (C := Tryz.checked) (os := os) (X := fun w _ => laidMetH Tryz.prog Rows.fnExactFaultOfRow.laid w) false (World.doorLaid Tryz.prog 183 os) #[.slice none 0 0] 8 rfl
      (World.shaped_of_RefB (by kernel_rfl) (by kernel_rfl)) (by kernel_rfl) (by kernel_rfl) (by kernel_rfl) (door_met os _)) ?_
  intro W base args ds gs before hval0 hW _ _ hL _
  have hval : ∀ (j : Nat) t v, Tryz.f4.params[j]? = some t → args[j]? = some v → Value.okWide Tryz.prog W .any base t v := hval0
  have hW' := hW
  obtain ⟨p, q, hA0, hV, rfl, hfz, hnd⟩ := hW
  have hA : DataW.TrodAll enc Tryz.prog W 0 (fun _ => true) true Tryz.f4.params.toList args.toList ds p := hA0
  rw [Tryz.params4] at hA hval
  obtain ⟨v0, vs0, d0, ds0, p0, q0, hargs, rfl, rfl, h0, r0⟩ := trodAll_cons hA
  obtain ⟨rfl, rfl, rfl⟩ := trodAll_nil r0
  obtain rfl : args = #[v0] := by cases args; simp_all
  have hlen := vars_len hV
  obtain ⟨u0, u1, u2, u3, u4, u5, u6, u7, rfl⟩ : ∃ u0 u1 u2 u3 u4 u5 u6 u7, gs = [u0, u1, u2, u3, u4, u5, u6, u7] := by
    match gs, hlen with
    | [u0, u1, u2, u3, u4, u5, u6, u7], _ => exact ⟨u0, u1, u2, u3, u4, u5, u6, u7, rfl⟩
  have k0 := h0
  have lt0 : ∀ x ∈ p0, x.block < W.heap.size := by obtain ⟨m, hm⟩ := k0; exact DataW.trod_lt m _ _ _ hm
  obtain ⟨a0, len0, cap0, ps0, rfl, w0, wl0, wm0, wi0⟩ := open_packages (hval 0 46 v0 rfl rfl) h0
  clear hA0 hval0
  obtain ⟨er, hE⟩ := errs_of_laid hL
  refine (walk a0 len0 cap0 ps0 W w0 wl0 wm0 wi0 er hE).mono fun e W' ⟨he, bel⟩ => ?_
  subst he
  exact ⟨_, rfl, _, _, _, [], _, _, hW', trodAll_mk1 (shut_bool Tryz.underlying4 _), (trodAll_cons_mk (Below.trod laidOut (by kernel_rfl) (of_decide_eq_true (by kernel_rfl)) k0 bel lt0) trodAll_mk0), Below.trodVars laidOut bel (by kernel_rfl) hV, bel.frame _, fun h => by cases h⟩

theorem over : Rows.fnExactFaultOfRow.holds Tryz.pinned (OpenSpec.ofChange Rows.fnExactFaultOfSpec) :=
  OpenClaim.holds_of_wide 4 Tryz.f4 rfl rfl rfl rfl rfl rfl rfl ⟨rfl, rfl, rfl, rfl, rfl⟩ rfl rfl rfl rfl rfl (by kernel_rfl) Tryz.func4 (by kernel_rfl)
    (of_decide_eq_true (by kernel_rfl)) (by unfold Func.isWrapper; first | (rw [if_pos (by decide +kernel)]; kernel_rfl) | (rw [if_neg (by decide +kernel)]; exact ⟨rfl, rfl⟩))
    (fun os started H enc _ => lifted os started H enc)

/-- The tied card. -/
theorem proved : Rows.FnExactFaultOfCardSaid :=
  Claim7.holds_tied_plain_at .later [] [.handle, .sentinel, .sentinel, .sentinel, .sentinel, .sentinel, .sentinel, .sentinel, .sentinel] true (true, "7619b10c76afd45d9b19daed4e929b74ffea2c5d66d614e6ee0b0655c7baad4e") true
    over (fun _ h => by cases h) (by kernel_rfl) (fun _ h => by cases h) fnExactFaultOf_row_tie rfl ⟨rfl, rfl⟩ (by kernel_rfl) rfl
    (fun f fn hf hfn => by
      obtain rfl : f = 4 := Option.some.inj ((show Tryz.prog.funcNamed Rows.fnExactFaultOfRow.func = some 4 by kernel_rfl).symm.trans hf) |>.symm
      obtain rfl : fn = Tryz.f4 := (Option.some.inj (Tryz.func4.symm.trans hfn)).symm
      exact ⟨by kernel_rfl, fun j t ht => by
        rw [Tryz.params4] at ht
        have hm : t ∈ [46] := by simpa using Array.mem_of_getElem? ht
        have hall : ([46].all fun u => !Tryz.prog.wantsStandIn u) = true := by kernel_rfl
        exact (show Tryz.prog.wantsStandIn t = false by simpa using List.all_eq_true.1 hall t hm)⟩)
    (by kernel_rfl)
#print axioms proved
end Go.Proofs.YtdjglpcllcjcfaaGreatDoor.fnExactFaultOf
