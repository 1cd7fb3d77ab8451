/-
  FnExactCallCode returns true at every list of packages, text, number and node and leaves what it was handed as it was: impl.CallCode answers as spec.CallCode.
-/
import Derived.Test.YtdjglpcllcjcfaaDoorRows
import Derived.Test.YtdjglpcllcjcfaaDoorCards
import Derived.Test.YtdjglpcllcjcfaaDoorTie
import Derived.Test.YtdjglpcllcjcfaaDoorP14
import Derived.Test.YtdjglpcllcjcfaaDoorP23
import Derived.Test.YtdjglpcllcjcfaaDoorP22
import Derived.Test.YtdjglpcllcjcfaaDoorP24
import Derived.WalkKit
import Derived.Deep.RegionHeld3
import Derived.ProofKit
import Derived.OpenShut
import Derived.ShutString
import Derived.ChangeOld
import Derived.Below
import Derived.LaidLaws
import Derived.LaidHandle
import Derived.Lay
import Derived.MakeChecks
import Derived.Lib.LaidTab
import Derived.Stop.Joined
import Derived.SevenTiedAt
import Derived.OpenVars
import Derived.LaidMore
import Derived.Stop.LaidErr
namespace Go.Proofs.YtdjglpcllcjcfaaDoor.fnExactCallCode
open Go.ChangeShapes Go.WideShapes Go.ChangeAt Go.RowKit
open Go.ChangeMaps (open_string shut_string)
set_option linter.unusedVariables false

theorem own : ownKnob Tryd.prog.godebug = none := by kernel_rfl
theorem laidOut : laidOutB Tryd.prog = true := by kernel_rfl

/-! The walk: the law returns true and writes nothing that was there. -/
set_option maxHeartbeats 8000000 in
set_option maxRecDepth 1000000 in
theorem walk (a0 : Option Addr) (len0 cap0 : Nat) (ps0 : List Pk) (a1 : ByteArray) (a2 : Int) (n3 : Nd) (w : World) (w0 : PkgsIn w a0 len0 ps0) (wl0 : len0 ≤ maxLen) (wm0 : LongPs ps0) (wi0 : IntPs ps0) (w1 : a1.size ≤ maxLen) (w2 : (Lit.int .i64 a2).wf = true) (w3 : IntN n3) (wp3 : n3.2.2.1.length ≤ maxLen) (wf3 : n3.2.2.2.length ≤ maxLen) (er : Nat → Addr) (hT : Err4 w er) :
    Calls Tryd.prog 4 #[.slice a0 len0 cap0, .string a1, .int .i64 a2, nodeVal n3] w fun e w' => e = .returned (.bool true) ∧ Below w.heap.size w w' := by
  have HT : Hid (Err4 w er) := hT
  clear hT
  obtain ⟨hat0, hat1⟩ := bounds_i64 w2
  obtain ⟨k, A, x, fn⟩ := n3
  obtain ⟨q, rfl⟩ : ∃ l : List UInt8, a1 = ⟨l.toArray⟩ := ⟨a1.data.toList, by cases a1; simp⟩
  obtain rfl : ps0.length = len0 := w0.1
  unfold nodeVal
  simp only at wp3 wf3 ⊢
  obtain ⟨⟨n0, n1, n2, n3⟩, hb0⟩ := node_new w (.int .i64 k) (.int .i64 A) (.string ⟨x.toArray⟩) (.string ⟨fn.toArray⟩) 39
  obtain ⟨W, hW⟩ : ∃ W, w.alloc (.cells #[.int .i64 k, .int .i64 A, .string ⟨x.toArray⟩, .string ⟨fn.toArray⟩] 39) = W := ⟨_, rfl⟩
  rw [hW] at n0 n1 n2 n3 hb0
  have hsW : w.heap.size < W.heap.size := by rw [← hW]; simp
  have HD : Hid (∀ Z, Below W.heap.size W Z → (Z.cell? ⟨w.heap.size, 0, none⟩ = some (.int .i64 k) ∧ Z.cell? ⟨w.heap.size, 1, none⟩ = some (.int .i64 A) ∧ Z.cell? ⟨w.heap.size, 2, none⟩ = some (.string ⟨x.toArray⟩) ∧ Z.cell? ⟨w.heap.size, 3, none⟩ = some (.string ⟨fn.toArray⟩)) ∧ PkgsIn Z a0 ps0.length ps0 ∧ Below w.heap.size w Z) := fun Z hz => ⟨⟨(hz.cell (p := ⟨w.heap.size, 0, none⟩) hsW).trans n0, (hz.cell (p := ⟨w.heap.size, 1, none⟩) hsW).trans n1, (hz.cell (p := ⟨w.heap.size, 2, none⟩) hsW).trans n2, (hz.cell (p := ⟨w.heap.size, 3, none⟩) hsW).trans n3⟩, (w0.below hb0).below hz, hb0.trans (hz.mono hb0.size)⟩
  have hBW : Below W.heap.size W W := Below.refl _ _
  by_cases hqb : 1048576 < (q.length : Int)
  · have HE := (HD.out W hBW).2.2
    clear w0 wm0 wi0 HD
    go_enter Tryd.func4, Tryd.ntmps4
    go_wp2
    go_ret
    exact ⟨rfl, HE⟩
  have hq : q.length ≤ 1048576 := by omega
  have HC0 := szPackageSC a0 ps0.length cap0 ps0 1048576 W (HD.out W hBW).2.1 (by omega) (by omega) wl0 wm0
  by_cases hz : ((ps0.length + psSz ps0 : Nat) : Int) ≤ 1048576
  rotate_left
  · rw [szM_no hz] at HC0
    clear w0 wm0 wi0
    go_enter Tryd.func4, Tryd.ntmps4
    go_wp2_with fail
    refine HC0.mono ?_
    rintro e w1 ⟨rfl, hb1⟩
    have HE := (HD.out w1 hb1).2.2
    go_wp2
    go_ret
    exact ⟨rfl, HE⟩
  rw [szM_yes hz] at HC0
  have hln : ps0.length ≤ 1048576 := by omega
  have hsh : ShortPs ps0 := shortPs_of (by omega)
  have HSH : Hid (ShortPs ps0) := hsh
  have HIN : Hid (IntPs ps0) := wi0
  have HTo : Hid (_) := fun (V : World) (h : PkgsIn V a0 ps0.length ps0) => toPackageSC a0 ps0.length cap0 ps0 V h hln hsh
  have hge : (0 : Int) ≤ 1048576 - ((ps0.length + psSz ps0 : Nat) : Int) := by omega
  have hle : 1048576 - ((ps0.length + psSz ps0 : Nat) : Int) ≤ 1048576 := by omega
  generalize 1048576 - ((ps0.length + psSz ps0 : Nat) : Int) = left at HC0 hge hle
  clear w0 wm0 wi0 hsh hz wl0
  have HC1 : Hid (∀ V, Calls Tryd.prog 12 #[.agg #[.int .i64 k, .int .i64 A, .string ⟨x.toArray⟩, .string ⟨fn.toArray⟩], .int .i64 left] V fun e w' => e = .returned (.int .i64 (szN x.length fn.length left)) ∧ Below V.heap.size V w') := fun V => szNodeC k A left x fn V hge hle wp3 wf3
  have hself : ∀ n : Int, (n != n) = false := by simp
  have hge2 : ¬ left < 0 := by omega
  go_enter Tryd.func4, Tryd.ntmps4
  go_wp2_with fail
  refine HC0.mono ?_
  rintro e w1 ⟨rfl, hb1⟩
  obtain ⟨⟨c0, c1, c2, c3⟩, _, _⟩ := HD.out w1 hb1
  clear HC0
  go_wp2_with fail
  refine Calls.mono (HC1.out _) ?_
  rintro e w2 ⟨rfl, hb2⟩
  have hB2 := hb1.trans (hb2.mono hb1.size)
  clear hb1 hb2 c0 c1 c2 c3
  by_cases hsz : (x.length : Int) + (fn.length : Int) ≤ left
  rotate_left
  · have HE := (HD.out w2 hB2).2.2
    rw [szN_no hsz]
    go_wp2
    go_ret
    exact ⟨rfl, HE⟩
  rw [szN_yes hsz]
  have hge3 : ¬ left - (x.length : Int) - (fn.length : Int) < 0 := by omega
  have hxl : x.length ≤ 1048576 := by omega
  have hfl : fn.length ≤ 1048576 := by omega
  have HS : Hid (_) := fun (V : World) (g : Nat) (h : PkgsOk V (some ⟨g, 0, none⟩) ps0.length ps0.length ps0) => specCallCode (some ⟨g, 0, none⟩) ps0.length ps0.length ps0 q a2 (k, A, x, fn) V h.in hln HSH.out hxl hfl
  have HIm : Hid (_) := fun (V : World) (g : Nat) (hw : Below w.heap.size w V) (h : PkgsOk V (some ⟨g, 0, none⟩) ps0.length ps0.length ps0) => implCallCode (some ⟨g, 0, none⟩) ps0.length ps0.length ps0 q a2 (k, A, x, fn) er V (HT.out.below hw) h hq w3 hxl hfl ⟨hat0, hat1⟩
  unfold nodeVal at HS HIm
  simp only at HS HIm
  obtain ⟨z, hz⟩ : ∃ z, callV ps0 q a2 (k, A, x, fn) = z := ⟨_, rfl⟩
  rw [hz] at HS HIm
  have hzz := hself z
  clear hz HC1
  obtain ⟨⟨c0, c1, c2, c3⟩, _, _⟩ := HD.out w2 hB2
  go_upto_region 10 with fail
  have hB : Below W.heap.size W w2.drew := hB2.trans ⟨rfl, rfl, rfl, Nat.le_refl _, fun _ _ => rfl⟩
  go_region_held3 (fun w' => w'.cell? ⟨w.heap.size, 0, none⟩ = some (.int .i64 k) ∧ w'.cell? ⟨w.heap.size, 1, none⟩ = some (.int .i64 A) ∧ w'.cell? ⟨w.heap.size, 2, none⟩ = some (.string ⟨x.toArray⟩) ∧ w'.cell? ⟨w.heap.size, 3, none⟩ = some (.string ⟨fn.toArray⟩)) (go_keep) (first | (go_at_call 9; refine Calls.mono (HS.out _ _ ok3) ?_; rintro e wn ⟨rfl, hbn⟩; replace hB := hB.trans (hbn.mono hB.size); replace ok3 := ok3.below hbn; replace c0 := (HD.out wn hB).1.1; replace c1 := (HD.out wn hB).1.2.1; replace c2 := (HD.out wn hB).1.2.2.1; replace c3 := (HD.out wn hB).1.2.2.2; clear hbn) | (go_at_call 14; refine Calls.mono (toNodeC k A x fn _) ?_; rintro e wn ⟨rfl, hbn⟩; replace hB := hB.trans (hbn.mono hB.size); replace ok3 := ok3.below hbn; replace c0 := (HD.out wn hB).1.1; replace c1 := (HD.out wn hB).1.2.1; replace c2 := (HD.out wn hB).1.2.2.1; replace c3 := (HD.out wn hB).1.2.2.2; clear hbn) | (go_at_call 13; refine Calls.mono (HTo.out _ (HD.out _ hB).2.1) ?_; rintro e wn ⟨rfl, ys3, hy3, hp3, hbn⟩; have hs3 := hB.size; replace hB := hB.trans (hbn.mono hB.size); have ok3 := hp3.ok hy3 HIN.out HSH.out rfl hln; replace c0 := (HD.out wn hB).1.1; replace c1 := (HD.out wn hB).1.2.1; replace c2 := (HD.out wn hB).1.2.2.1; replace c3 := (HD.out wn hB).1.2.2.2; clear hbn hp3 hy3))
  clear ok3
  go_wp2_with fail
  refine Calls.mono (HTo.out _ (HD.out _ hB).2.1) ?_
  rintro e w4 ⟨rfl, ys4, hy4, hp4, hb4⟩
  have ok4 := hp4.ok hy4 HIN.out HSH.out rfl hln
  replace hB := hB.trans (hb4.mono hB.size)
  replace c0 := (HD.out w4 hB).1.1
  replace c1 := (HD.out w4 hB).1.2.1
  replace c2 := (HD.out w4 hB).1.2.2.1
  replace c3 := (HD.out w4 hB).1.2.2.2
  clear hp4 hy4 hb4
  go_wp2_with fail
  refine Calls.mono (toNodeC k A x fn _) ?_
  rintro e w5 ⟨rfl, hb5⟩
  replace hB := hB.trans (hb5.mono hB.size)
  replace ok4 := ok4.below hb5
  clear hb5 c0 c1 c2 c3
  go_wp2_with fail
  refine Calls.mono (HIm.out _ _ (HD.out _ hB).2.2 ok4) ?_
  rintro e w6 ⟨rfl, hb6⟩
  replace hB := hB.trans (hb6.mono hB.size)
  replace ok4 := ok4.below hb6
  clear hb6
  go_wp2_with fail
  refine Calls.mono (HTo.out _ (HD.out _ hB).2.1) ?_
  rintro e w7 ⟨rfl, ys7, hy7, hp7, hb7⟩
  have ok7 := hp7.ok hy7 HIN.out HSH.out rfl hln
  replace hB := hB.trans (hb7.mono hB.size)
  replace ok4 := ok4.below hb7
  clear hp7 hy7 hb7
  have HE : Hid (_) := eqPackageSC _ _ ps0.length ps0.length ps0.length ps0 w7 ok4.in ok7.in (by omega) HSH.out
  go_wp2_with fail
  refine Calls.mono HE.out ?_
  rintro e w8 ⟨rfl, hb8⟩
  replace hB := hB.trans (hb8.mono hB.size)
  have HF := (HD.out w8 hB).2.2
  go_wp2
  go_ret
  exact ⟨rfl, HF⟩

/-- The listed errors, as they stand on the list. -/
def errList : List (String × List UInt8) := [("loop.example/g00346/impl.errNotTold", [115, 111, 109, 101, 116, 104, 105, 110, 103, 32, 105, 115, 32, 110, 111, 116, 32, 97, 115, 32, 116, 111, 108, 100]), ("loop.example/g00346/impl.errFar", [116, 104, 101, 32, 112, 97, 99, 107, 97, 103, 101, 32, 99, 97, 108, 108, 101, 100, 32, 105, 115, 32, 110, 111, 116, 32, 119, 105, 116, 104, 105, 110, 32, 114, 101, 97, 99, 104]), ("loop.example/g00346/impl.errFunc", [116, 104, 101, 32, 102, 117, 110, 99, 32, 99, 97, 108, 108, 101, 100, 32, 105, 115, 32, 110, 111, 116, 32, 116, 104, 101, 114, 101]), ("loop.example/g00346/impl.errCount", [116, 104, 101, 32, 99, 97, 108, 108, 32, 104, 97, 115, 32, 97, 110, 111, 116, 104, 101, 114, 32, 110, 117, 109, 98, 101, 114, 32, 111, 102, 32, 112, 97, 114, 116, 115, 32, 116, 104, 97, 110, 32, 116, 104, 101, 32, 102, 117, 110, 99, 32, 104, 97, 115, 32, 97, 114, 103, 117, 109, 101, 110, 116, 115])]
/-- What the listed variables give the walk. -/
theorem errs_of_laid {W : World} (h : laidMetH Tryd.prog Rows.fnExactCallCodeRow.laid W) : ∃ er, Err4 W er := by
  rw [MakeChecks.laidMetH_plain _ _ _ (by kernel_rfl)] at h
  have h2 : laidMet Tryd.prog (errList.map fun x => (x.1, sentD x.2)) W := h
  obtain ⟨al, _, _, hE, _⟩ := err4_of (l := []) h2 rfl
  exact ⟨_, hE⟩

theorem door_met (os : Os) (args : Array Value) : laidMetH Tryd.prog Rows.fnExactCallCodeRow.laid ((World.doorLaid Tryd.prog 100 os).forCall (fun _ _ => 0) ⟨#[], args, []⟩).memory :=
  laidMetH_of_parts3 (fuel := 8) (laidMet_of_run' 8 (by kernel_rfl) (by kernel_rfl)) (by kernel_rfl) (by kernel_rfl)
theorem vars_len {H : Type} {enc : TypeId × Value → H} {P : Program} {w : World} {sp : Nat → Bool} : ∀ {ns : List String} {gs : List (DataW H)} {ps : List MemPlace}, DataW.TrodVars enc P w sp ns gs ps → gs.length = ns.length
  | [], [], _, _ => rfl
  | [], _ :: _, _, h => h.elim
  | _ :: _, [], _, h => h.elim
  | _ :: ns, _ :: gs, _, h => by
    obtain ⟨g, t, cs, fuel, p, q, _, _, _, _, hr, _⟩ := h
    simp [vars_len hr]

set_option maxRecDepth 100000 in
theorem lifted (os : Os) (started : os.Started) (H : Type) (enc : TypeId × Value → H) :
    ReturnsInHanded {} Tryd.checked os 4 .any (fun w args => (Rows.fnExactCallCodeSpec.pre enc Tryd.prog Tryd.f4 [] false w args ∧ laidMetH Tryd.prog Rows.fnExactCallCodeRow.laid w) ∧ sizedMet enc Tryd.prog Tryd.f4 (OpenSpec.ofChange Rows.fnExactCallCodeSpec) false w args)
      (Rows.fnExactCallCodeSpec.post enc Tryd.prog Tryd.f4 false true false false) := by
  refine returnsInHanded_of_change_and (C := Tryd.checked) (X := fun w _ => laidMetH Tryd.prog Rows.fnExactCallCodeRow.laid w) (fun _ _ _ hh h => h.of_heap hh) own started (by kernel_rfl) Tryd.func4
    (ChangeSpec.witness_shaped (enc := enc) (C := Tryd.checked) (os := os) (X := fun w _ => laidMetH Tryd.prog Rows.fnExactCallCodeRow.laid w) false (World.doorLaid Tryd.prog 100 os) #[.slice none 0 0, .string ByteArray.empty, .int .i64 0, .agg #[.int .i64 0, .int .i64 0, .string ByteArray.empty, .string ByteArray.empty]] 8 rfl
      (World.shaped_of_RefB (by kernel_rfl) (by kernel_rfl)) (by kernel_rfl) (by kernel_rfl) (by kernel_rfl) (door_met os _)) ?_
  intro W base args ds gs before hval0 hW _ _ hL _
  have hval : ∀ (j : Nat) t v, Tryd.f4.params[j]? = some t → args[j]? = some v → Value.okWide Tryd.prog W .any base t v := hval0
  have hW' := hW
  obtain ⟨p, q, hA0, hV, rfl, hfz, hnd⟩ := hW
  have hA : DataW.TrodAll enc Tryd.prog W 0 (fun _ => true) true Tryd.f4.params.toList args.toList ds p := hA0
  rw [Tryd.params4] at hA hval
  obtain ⟨v0, vs0, d0, ds0, p0, q0, hargs, rfl, rfl, h0, r0⟩ := trodAll_cons hA
  obtain ⟨v1, vs1, d1, ds1, p1, q1, rfl, rfl, rfl, h1, r1⟩ := trodAll_cons r0
  obtain ⟨v2, vs2, d2, ds2, p2, q2, rfl, rfl, rfl, h2, r2⟩ := trodAll_cons r1
  obtain ⟨v3, vs3, d3, ds3, p3, q3, rfl, rfl, rfl, h3, r3⟩ := trodAll_cons r2
  obtain ⟨rfl, rfl, rfl⟩ := trodAll_nil r3
  obtain rfl : args = #[v0, v1, v2, v3] := by cases args; simp_all
  have hlen := vars_len hV
  obtain ⟨u0, u1, u2, u3, rfl⟩ : ∃ u0 u1 u2 u3, gs = [u0, u1, u2, u3] := by
    match gs, hlen with
    | [u0, u1, u2, u3], _ => exact ⟨u0, u1, u2, u3, rfl⟩
  have k0 := h0
  have lt0 : ∀ x ∈ p0, x.block < W.heap.size := by obtain ⟨m, hm⟩ := k0; exact DataW.trod_lt m _ _ _ hm
  obtain ⟨a0, len0, cap0, ps0, rfl, w0, wl0, wm0, wi0⟩ := open_packages (hval 0 38 v0 rfl rfl) h0
  have k1 := h1
  have lt1 : ∀ x ∈ p1, x.block < W.heap.size := by obtain ⟨m, hm⟩ := k1; exact DataW.trod_lt m _ _ _ hm
  obtain ⟨a1, rfl, _, _, w1⟩ := open_string Tryd.underlying9 (hval 1 9 v1 rfl rfl) h1
  have k2 := h2
  have lt2 : ∀ x ∈ p2, x.block < W.heap.size := by obtain ⟨m, hm⟩ := k2; exact DataW.trod_lt m _ _ _ hm
  obtain ⟨a2, rfl, _, _, w2⟩ := open_int Tryd.underlying2 (hval 2 2 v2 rfl rfl) h2
  have k3 := h3
  have lt3 : ∀ x ∈ p3, x.block < W.heap.size := by obtain ⟨m, hm⟩ := k3; exact DataW.trod_lt m _ _ _ hm
  obtain ⟨n3, rfl, w3, wp3, wf3⟩ := open_node (hval 3 39 v3 rfl rfl) h3
  clear hA0 hval0
  obtain ⟨er, hE⟩ := errs_of_laid hL
  refine (walk a0 len0 cap0 ps0 a1 a2 n3 W w0 wl0 wm0 wi0 w1 w2 w3 wp3 wf3 er hE).mono fun e W' ⟨he, bel⟩ => ?_
  subst he
  exact ⟨_, rfl, _, _, _, [], _, _, hW', trodAll_mk1 (shut_bool Tryd.underlying4 _), (trodAll_cons_mk (Below.trod laidOut (by kernel_rfl) (of_decide_eq_true (by kernel_rfl)) k0 bel lt0) (trodAll_cons_mk (Below.trod laidOut (by kernel_rfl) (of_decide_eq_true (by kernel_rfl)) k1 bel lt1) (trodAll_cons_mk (Below.trod laidOut (by kernel_rfl) (of_decide_eq_true (by kernel_rfl)) k2 bel lt2) (trodAll_cons_mk (Below.trod laidOut (by kernel_rfl) (of_decide_eq_true (by kernel_rfl)) k3 bel lt3) trodAll_mk0)))), Below.trodVars laidOut bel (by kernel_rfl) hV, bel.frame _, fun h => by cases h⟩

theorem over : Rows.fnExactCallCodeRow.holds Tryd.pinned (OpenSpec.ofChange Rows.fnExactCallCodeSpec) :=
  OpenClaim.holds_of_wide 4 Tryd.f4 rfl rfl rfl rfl rfl rfl rfl ⟨rfl, rfl, rfl, rfl, rfl⟩ rfl rfl rfl rfl rfl (by kernel_rfl) Tryd.func4 (by kernel_rfl)
    (of_decide_eq_true (by kernel_rfl)) (by unfold Func.isWrapper; first | (rw [if_pos (by decide +kernel)]; kernel_rfl) | (rw [if_neg (by decide +kernel)]; exact ⟨rfl, rfl⟩))
    (fun os started H enc _ => lifted os started H enc)

/-- The tied card. -/
theorem proved : Rows.FnExactCallCodeCardSaid :=
  Claim7.holds_tied_plain_at .later [] [.sentinel, .sentinel, .sentinel, .sentinel] true (true, "676e4a09d8adbe98ab38bdcc30310c116f5e7bf3233a5543ce4a7fd73bbabad7") true
    over (fun _ h => by cases h) (by kernel_rfl) (fun _ h => by cases h) fnExactCallCode_row_tie rfl ⟨rfl, rfl⟩ (by kernel_rfl) rfl
    (fun f fn hf hfn => by
      obtain rfl : f = 4 := Option.some.inj ((show Tryd.prog.funcNamed Rows.fnExactCallCodeRow.func = some 4 by kernel_rfl).symm.trans hf) |>.symm
      obtain rfl : fn = Tryd.f4 := (Option.some.inj (Tryd.func4.symm.trans hfn)).symm
      exact ⟨by kernel_rfl, fun j t ht => by
        rw [Tryd.params4] at ht
        have hm : t ∈ [38, 9, 2, 39] := by simpa using Array.mem_of_getElem? ht
        have hall : ([38, 9, 2, 39].all fun u => !Tryd.prog.wantsStandIn u) = true := by kernel_rfl
        exact (show Tryd.prog.wantsStandIn t = false by simpa using List.all_eq_true.1 hall t hm)⟩)
    (by kernel_rfl)
#print axioms proved
end Go.Proofs.YtdjglpcllcjcfaaDoor.fnExactCallCode
