/-
  FnExactReborn returns true at every list of packages and every journal and leaves them as they were: impl.Reborn answers as spec.Reborn, in memory of its own.
-/
import Derived.Test.YtaidhjjpdkkmcaaGreatDoorRows
import Derived.Test.YtaidhjjpdkkmcaaGreatDoorCards
import Derived.Test.YtaidhjjpdkkmcaaGreatDoorTie
import Derived.Test.YtaidhjjpdkkmcaaGreatDoorP1
import Derived.Test.YtaidhjjpdkkmcaaGreatDoorP2
import Derived.Test.YtaidhjjpdkkmcaaGreatDoorP3
import Derived.Test.YtaidhjjpdkkmcaaGreatDoorP4
import Derived.Test.YtaidhjjpdkkmcaaGreatDoorP5
import Derived.Test.YtaidhjjpdkkmcaaGreatDoorP6
import Derived.Test.YtaidhjjpdkkmcaaGreatDoorP7
import Derived.Test.YtaidhjjpdkkmcaaGreatDoorP8
import Derived.Test.YtaidhjjpdkkmcaaGreatDoorP9
import Derived.Test.YtaidhjjpdkkmcaaGreatDoorP10
import Derived.Test.YtaidhjjpdkkmcaaGreatDoorP11
import Derived.Test.YtaidhjjpdkkmcaaGreatDoorP12
import Derived.Test.YtaidhjjpdkkmcaaGreatDoorP13
import Derived.Test.YtaidhjjpdkkmcaaGreatDoorP14
import Derived.Test.YtaidhjjpdkkmcaaGreatDoorP15
import Derived.Test.YtaidhjjpdkkmcaaGreatDoorP16
import Derived.Test.YtaidhjjpdkkmcaaGreatDoorP17
import Derived.Test.YtaidhjjpdkkmcaaGreatDoorP18
import Derived.Test.YtaidhjjpdkkmcaaGreatDoorP19
import Derived.Test.YtaidhjjpdkkmcaaGreatDoorP20
import Derived.Test.YtaidhjjpdkkmcaaGreatDoorP21
import Derived.Test.YtaidhjjpdkkmcaaGreatDoorP22
import Derived.Test.YtaidhjjpdkkmcaaGreatDoorP23
import Derived.Test.YtaidhjjpdkkmcaaGreatDoorP24
import Derived.Test.YtaidhjjpdkkmcaaGreatDoorP25
import Derived.Test.YtaidhjjpdkkmcaaGreatDoorP26
import Derived.Test.YtaidhjjpdkkmcaaGreatDoorP27
import Derived.Test.YtaidhjjpdkkmcaaGreatDoorP28
import Derived.Test.YtaidhjjpdkkmcaaGreatDoorP32
import Derived.Test.YtaidhjjpdkkmcaaGreatDoorP33
import Derived.Test.YtaidhjjpdkkmcaaGreatDoorP34
import Derived.Test.YtaidhjjpdkkmcaaGreatDoorP37
import Derived.Test.YtaidhjjpdkkmcaaGreatDoorP31
import Derived.Test.YtaidhjjpdkkmcaaGreatDoorP38
import Derived.Test.YtaidhjjpdkkmcaaGreatDoorP42
import Derived.WalkKit
import Derived.ProofKit
import Derived.OpenShut
import Derived.ShutString
import Derived.ChangeOld
import Derived.Below
import Derived.LaidLaws
import Derived.LaidHandle
import Derived.Lay
import Derived.MakeChecks
import Derived.Lib.LaidTab
import Derived.Stop.Joined
import Derived.SevenTiedAt
import Derived.OpenVars
import Derived.LaidMore
import Derived.Stop.LaidErr
namespace Go.Proofs.YtaidhjjpdkkmcaaGreatDoor.fnExactReborn
open Go.ChangeShapes Go.WideShapes Go.ChangeAt Go.RowKit
open Go.ChangeMaps (open_string shut_string)
set_option linter.unusedVariables false

theorem own : ownKnob Tryz.prog.godebug = none := by kernel_rfl
theorem laidOut : laidOutB Tryz.prog = true := by kernel_rfl

/-! The walk: the law returns true and writes nothing that was there. -/
set_option maxHeartbeats 8000000 in
set_option maxRecDepth 1000000 in
theorem walk (a0 : Option Addr) (len0 cap0 : Nat) (ps0 : List Pk) (a1 : ByteArray) (w : World) (w0 : PkgsIn w a0 len0 ps0) (wl0 : len0 ≤ maxLen) (wm0 : LongPs ps0) (wi0 : IntPs ps0) (w1 : a1.size ≤ maxLen) (er : Nat → Addr) (hT : Err8 w er) (hP : PowIs w) :
 Calls Tryz.prog 3 #[.slice a0 len0 cap0, .string a1] w fun e w' => e = .returned (.bool true) ∧ Below w.heap.size w w' := by
 have HT : Hid (Err8 w er ∧ PowIs w) := ⟨hT, hP⟩
 clear hT hP
 obtain ⟨l, rfl⟩ : ∃ l : List UInt8, a1 = ⟨l.toArray⟩ := ⟨a1.data.toList, by cases a1; simp⟩
 by_cases hbl : 1048576 < (l.length : Int)
 ·
  clear w0 wm0 wi0 wl0 w1
  go_enter Tryz.func3, Tryz.ntmps3
  go_wp2
  go_ret
  exact ⟨rfl, Below.refl _ _⟩
 have hjl : l.length ≤ 1048576 := by omega
 clear w1
 obtain rfl : ps0.length = len0 := w0.1
 have HI : Hid (PkgsIn w a0 ps0.length ps0) := w0
 have HC0 := szPackageSC a0 ps0.length cap0 ps0 1048576 w w0 (by omega) (by omega) wl0 wm0
 by_cases hz : ((ps0.length + psSz ps0 : Nat) : Int) ≤ 1048576
 rotate_left
 ·
  rw [szM_no hz] at HC0
  clear w0 wm0 wi0
  go_enter Tryz.func3, Tryz.ntmps3
  go_wp2_with fail
  refine HC0.mono ?_
  rintro e w1 ⟨rfl, hb1⟩
  go_wp2
  go_ret
  exact ⟨rfl, hb1⟩
 rw [szM_yes hz] at HC0
 have hge : (0 : Int) ≤ 1048576 - ((ps0.length + psSz ps0 : Nat) : Int) := by omega
 have hln : ps0.length ≤ 1048576 := by omega
 have HSZ : Hid (ps0.length + psSz ps0 ≤ 1048576) := by exact (by omega : ps0.length + psSz ps0 ≤ 1048576)
 have hsh : ShortPs ps0 := shortPs_of (by omega)
 have HSH : Hid (ShortPs ps0) := hsh
 have HIN : Hid (IntPs ps0) := wi0
 have HTo : Hid (_) := fun (V : World) (h : PkgsIn V a0 ps0.length ps0) => toPackageSC a0 ps0.length cap0 ps0 V h hln hsh
 generalize 1048576 - ((ps0.length + psSz ps0 : Nat) : Int) = left at HC0 hge
 clear w0 wm0 wi0 hsh hz wl0
 have hself : ∀ n : Int, (n != n) = false := by simp
 have hselfb : ∀ b : Bool, (b != b) = false := by simp
 have HS : Hid (_) := fun (V : World) (g : Nat) (h : PkgsOk V (some ⟨g, 0, none⟩) ps0.length ps0.length ps0) => specReborn (some ⟨g, 0, none⟩) ps0.length ps0.length ps0 l V h.in hln HSH.out hjl
 have HIm : Hid (_) := fun (V : World) (g : Nat) (hw : Below w.heap.size w V) (h : PkgsOk V (some ⟨g, 0, none⟩) ps0.length ps0.length ps0) => implReborn (some ⟨g, 0, none⟩) ps0.length ps0.length ps0 l er V (HT.out.1.below hw) (HT.out.2.below hw) h hjl
 have hrl9 := reb_len ps0 l
 have HRs : Hid (_) := reb_short ps0 l
 obtain ⟨R, hR⟩ : ∃ R, rebV ps0 l = R := ⟨_, rfl⟩
 rw [hR] at HS HIm hrl9 HRs
 obtain ⟨⟨rts, rep, rnw, rjr⟩, rb⟩ := R
 simp only at hrl9 HRs
 obtain ⟨rn, hrn⟩ : ∃ n, rts.length = n := ⟨_, rfl⟩
 have HRN : Hid (rts.length = rn) := hrn
 rw [hrn] at hrl9
 have HR4 : Hid (∀ j, (rts.getD j ta0).2.1.length ≤ 4194304) := fun j => Nat.le_trans (HRs.out j).2 (by omega)
 unfold DkOut at HS HIm
 simp only [hrn] at HS HIm
 have hne : (rb != rb) = false := by simp
 clear hR hrn
 go_enter Tryz.func3, Tryz.ntmps3
 go_wp2_with fail
 refine HC0.mono ?_
 rintro e w1 ⟨rfl, hb1⟩
 have hB := hb1
 clear HC0
 go_wp2_with fail
 refine Calls.mono (HTo.out _ (HI.out.below hB)) ?_
 rintro e w2 ⟨rfl, ys2, hy2, hp2, hb2⟩
 have hs2 := hB.size
 obtain ⟨G2, hG2⟩ : ∃ G, w1.heap.size = G := ⟨_, rfl⟩
 rw [hG2] at hp2 hs2
 have ok2 : PkgsOk w2 (some ⟨G2, 0, none⟩) ps0.length ps0.length ps0 := hp2.ok hy2 HIN.out HSH.out rfl hln
 replace hB := hB.trans (hb2.mono hB.size)
 clear hp2 hy2 hb2
 go_wp2_with fail
 refine Calls.mono (HS.out _ _ ok2) ?_
 rintro e w3 ⟨v3, rfl, va, vc, xs3, rfl, hx3, ho3, _, hb3⟩
 replace hB := hB.trans (hb3.mono hB.size)
 obtain ⟨F, hF0⟩ : ∃ F, w3.heap.size = F := ⟨_, rfl⟩
 obtain ⟨w4, hw4⟩ : ∃ W, w3.alloc (.cells #[.slice va rn vc, .int .i64 rep, .int .i64 rnw, .string ⟨rjr.toArray⟩] 26) = W := ⟨_, rfl⟩
 have bF := B4.new w3 (.slice va rn vc) (.int .i64 rep) (.int .i64 rnw) (.string ⟨rjr.toArray⟩) 26
 have hb4 : Below w3.heap.size w3 w4 := by rw [← hw4]; exact (Below.refl _ _).alloc (Nat.le_refl _) _
 have hs4 : w4.heap.size = F + 1 := by rw [← hw4, ← hF0]; simp
 rw [hw4, hF0] at bF
 have hB4 : Below w.heap.size w w4 := hB.trans (hb4.mono hB.size)
 have HB4 : Hid (Below w.heap.size w w4) := hB4
 have hT3 : TasksIn w4 va rn rts := by
  obtain ⟨a3, c3, e3, hok3⟩ := ho3.ok
  have hl3 : xs3.length = rn := by rw [← HRN.out, ← hx3, List.length_map]
  rw [hx3, hl3] at hok3
  rw [hl3] at e3
  injection e3 with e3 _ _
  subst e3
  exact hok3.in.below hb4
 have HF : Hid (∀ Z, Below w4.heap.size w4 Z → B4 Z F (.slice va rn vc) (.int .i64 rep) (.int .i64 rnw) (.string ⟨rjr.toArray⟩) ∧ TasksIn Z va rn rts) := fun Z hz => ⟨bF.below hz, hT3.below hz⟩
 clear ok2 hb3 hs2 hG2 hb1 ho3 hb4 hx3 bF hT3 hB
 have hC0 : Below w4.heap.size w4 w4 := Below.refl _ _
 go_wp2_with fail
 refine Calls.mono (HTo.out _ (HI.out.below hB4)) ?_
 rintro e w5 ⟨rfl, ys4, hy4, hp5, hb5⟩
 obtain ⟨G4, hG4⟩ : ∃ G, w4.heap.size = G := ⟨_, rfl⟩
 obtain ⟨T, hT0⟩ : ∃ T, w5.heap.size = T := ⟨_, rfl⟩
 have HG4 : Hid (w4.heap.size = G4 ∧ w.heap.size ≤ G4 ∧ G4 ≤ T ∧ w5.heap.size = T) := ⟨hG4, by rw [← hG4]; exact hB4.size, by rw [← hG4, ← hT0]; exact hb5.size, hT0⟩
 have HFl : Hid (F < G4) := by exact (by omega : F < G4)
 have HHI : Hid (∀ Z, Below w4.heap.size w4 Z → Below w.heap.size w Z) := fun Z hz => HB4.out.trans (hz.mono HB4.out.size)
 rw [hT0, hG4] at hp5
 have hok5 : PkgsOk w5 (some ⟨G4, 0, none⟩) ps0.length ps0.length ps0 := hp5.ok hy4 HIN.out HSH.out rfl hln
 have HP5 : Hid (PjOwn w5 G4 T (.slice (some ⟨G4, 0, none⟩) ps0.length ps0.length) ys4) := hp5
 have HPk : Hid (∀ Z, Below w5.heap.size w5 Z → PkgsOk Z (some ⟨G4, 0, none⟩) ps0.length ps0.length ps0) := fun Z hz => hok5.below hz
 have HC5 : Hid (Below w4.heap.size w4 w5) := hb5
 have HI5 : Hid (_) := HIm.out w5 G4 (HHI.out w5 hb5) hok5
 have hyl : ys4.length = ps0.length := by rw [← hy4, List.length_map]
 have HYl : Hid (ys4.length = ps0.length) := hyl
 have HYs : Hid (_) := pj_small hy4 HSZ.out
 clear hyl hp5 hok5 hb5 hT0 hs4 hF0 hw4 hB4 hC0 hy4
 go_wp2_with fail
 refine Calls.mono HI5.out ?_
 rintro e w6 ⟨v7, rfl, ga, gc, xs7, rfl, hx7, ho7, hap7, hb7⟩
 have hl7 : xs7.length = rn := by rw [← HRN.out, ← hx7, List.length_map]
 rw [HG4.out.2.2.2] at ho7
 obtain ⟨G, hG0⟩ : ∃ G, w6.heap.size = G := ⟨_, rfl⟩
 obtain ⟨w8, hw8⟩ : ∃ W, w6.alloc (.cells #[.slice ga rn gc, .int .i64 rep, .int .i64 rnw, .string ⟨rjr.toArray⟩] 26) = W := ⟨_, rfl⟩
 have bG := B4.new w6 (.slice ga rn gc) (.int .i64 rep) (.int .i64 rnw) (.string ⟨rjr.toArray⟩) 26
 have hb8 : Below w6.heap.size w6 w8 := by rw [← hw8]; exact (Below.refl _ _).alloc (Nat.le_refl _) _
 rw [hw8, hG0] at bG
 have HQ8 : Hid (Below w5.heap.size w5 w8) := hb7.trans (hb8.mono hb7.size)
 have HC8 : Hid (Below w4.heap.size w4 w8) := HC5.out.trans (HQ8.out.mono HC5.out.size)
 have ho8 := ho7.below hb8
 have HGin : Hid (∀ Z, TksOwn Z T (.slice ga rn gc) xs7 → TasksIn Z ga rn rts) := fun Z hz => by
  obtain ⟨a7, c7, e7, hok7⟩ := hz.ok
  rw [hx7, hl7] at hok7
  rw [hl7] at e7
  injection e7 with e7 _ _
  subst e7
  exact hok7.in
 have HGb : Hid (∀ k, TkBlocks (.slice ga rn gc) xs7 k → T ≤ k ∧ k < G) := by
  intro k hk
  rw [← hG0]
  rcases hk with e | ⟨x, hx, e⟩
  ·
   exact ho7.row.lt k e
  ·
   exact (ho7.trees x hx).lt k e
 have HGA : Hid (ApartR (xs7.map tvT) ∧ xs7.length = rn ∧ (∀ x ∈ xs7, x.1.2.1.length ≤ 1048576)) := ⟨hap7, hl7, fun x hx => by
  have hm : x.1 ∈ rts := by rw [← hx7]; exact List.mem_map_of_mem hx
  obtain ⟨j, hj, e⟩ := List.mem_iff_getElem.1 hm
  have h := (HRs.out j).2
  rw [show rts.getD j ta0 = rts[j] by simp [List.getD, hj], e] at h
  exact h⟩
 have HGe : Hid (tend 1 xs7 ≤ 30000000) := tend_nine hl7 hrl9 HGA.out.2.2
 have HG8 : Hid (B4 w8 G (.slice ga rn gc) (.int .i64 rep) (.int .i64 rnw) (.string ⟨rjr.toArray⟩) ∧ TksOwn w8 T (.slice ga rn gc) xs7) := ⟨bG, ho8⟩
 have HTG : Hid (T ≤ G) := by have h1 := hb7.size; have h2 := HG4.out.2.2.2; exact (by omega : T ≤ G)
 obtain ⟨bF, hTF⟩ := HF.out w8 HC8.out
 have f0 := bF.c0
 have f1 := bF.c1
 have f2 := bF.c2
 have f3 := bF.c3
 have g0 := bG.c0
 have g1 := bG.c1
 have g2 := bG.c2
 have g3 := bG.c3
 have HE8 : Hid (_) := eqDeskC ga va rn gc vc rts rep rnw rjr w8 (HGin.out w8 ho8) hTF (by omega) HR4.out
 clear hb7 hb8 ho7 ho8 hap7 hl7 hx7 bG bF hTF HI5
 go_wp2_with fail
 refine Calls.mono HE8.out ?_
 rintro e w9 ⟨rfl, hb9⟩
 have HQ9 : Hid (Below w5.heap.size w5 w9) := HQ8.out.trans (hb9.mono HQ8.out.size)
 have HC9 : Hid (Below w4.heap.size w4 w9) := HC5.out.trans (HQ9.out.mono HC5.out.size)
 have HG9 : Hid (B4 w9 G (.slice ga rn gc) (.int .i64 rep) (.int .i64 rnw) (.string ⟨rjr.toArray⟩) ∧ TksOwn w9 T (.slice ga rn gc) xs7) := ⟨HG8.out.1.below hb9, HG8.out.2.below hb9⟩
 have HT9 : Hid (_) := HTo.out w9 (HI.out.below (HHI.out w9 HC9.out))
 clear f0 f1 f2 f3 g0 g1 g2 g3 hb9 HE8 HG8 hG0 hw8 HQ8 HC8
 go_wp2_with fail
 refine Calls.mono HT9.out ?_
 rintro e w10 ⟨rfl, ys7, hy7, hp7, hb10⟩
 obtain ⟨G7, hG7⟩ : ∃ G, w9.heap.size = G := ⟨_, rfl⟩
 rw [hG7] at hp7
 have hok7 : PkgsOk w10 (some ⟨G7, 0, none⟩) ps0.length ps0.length ps0 := hp7.ok hy7 HIN.out HSH.out rfl hln
 have HQ10 : Hid (Below w5.heap.size w5 w10) := HQ9.out.trans (hb10.mono HQ9.out.size)
 have HG10 : Hid (B4 w10 G (.slice ga rn gc) (.int .i64 rep) (.int .i64 rnw) (.string ⟨rjr.toArray⟩) ∧ TksOwn w10 T (.slice ga rn gc) xs7) := ⟨HG9.out.1.below hb10, HG9.out.2.below hb10⟩
 have HE10 : Hid (_) := eqPackageSC (some ⟨G4, 0, none⟩) (some ⟨G7, 0, none⟩) ps0.length ps0.length ps0.length ps0 w10 (HPk.out w10 HQ10.out).in hok7.in (by omega) HSH.out
 clear hp7 hy7 hb10 hok7 HT9 HG9 HQ9 HC9
 go_wp2_with fail
 refine Calls.mono HE10.out ?_
 rintro e w11 ⟨rfl, hb11⟩
 have HQ11 : Hid (Below w5.heap.size w5 w11) := HQ10.out.trans (hb11.mono HQ10.out.size)
 have HC11 : Hid (Below w4.heap.size w4 w11) := HC5.out.trans (HQ11.out.mono HC5.out.size)
 have HG11 : Hid (B4 w11 G (.slice ga rn gc) (.int .i64 rep) (.int .i64 rnw) (.string ⟨rjr.toArray⟩) ∧ TksOwn w11 T (.slice ga rn gc) xs7) := ⟨HG10.out.1.below hb11, HG10.out.2.below hb11⟩
 have hp11 := HP5.out.below HQ11.out
 rw [← HYl.out] at hp11
 have hM := markPackageSC w11 G4 T G4 ys4.length 1 ys4 hp11 (by have := HYl.out; omega) HYs.out.1 (by omega) HYs.out.2
 rw [HYl.out] at hM
 have HMk : Hid (_) := hM
 have hM0 : ¬ ((mend 1 ys4 : Nat) : Int) < 0 := by omega
 clear hp11 hM hb11 HE10 HG10 HQ10
 generalize mend 1 ys4 = M at HMk hM0
 go_wp2_with fail
 refine Calls.mono HMk.out ?_
 rintro e w12 ⟨rfl, hw12⟩
 have HC12 : Hid (Below w4.heap.size w4 w12) := HC11.out.trans (hw12.below HC11.out.size (fun k h => by have := HG4.out.1; omega))
 have HG12 : Hid (B4 w12 G (.slice ga rn gc) (.int .i64 rep) (.int .i64 rnw) (.string ⟨rjr.toArray⟩) ∧ TksOwn w12 T (.slice ga rn gc) xs7) :=
  ⟨HG11.out.1.keep (hw12.block G HG11.out.1.lt (fun e => by have := HTG.out; omega)), own_wrote HG11.out.2.row hw12 (fun k e1 e2 => by have h1 := (HG11.out.2.row.lt k e1).1; omega), fun x hx => own_wrote (HG11.out.2.trees x hx) hw12 (fun k e1 e2 => by have h1 := ((HG11.out.2.trees x hx).lt k e1).1; omega)⟩
 obtain ⟨bF, hTF⟩ := HF.out w12 HC12.out
 have f0 := bF.c0
 have f1 := bF.c1
 have f2 := bF.c2
 have f3 := bF.c3
 have bG := HG12.out.1
 have g0 := bG.c0
 have g1 := bG.c1
 have g2 := bG.c2
 have g3 := bG.c3
 have HE12 : Hid (_) := eqDeskC ga va rn gc vc rts rep rnw rjr w12 (HGin.out w12 HG12.out.2) hTF (by omega) HR4.out
 clear hw12 bF bG hTF HMk HG11
 go_wp2_with fail
 refine Calls.mono HE12.out ?_
 rintro e w13 ⟨rfl, hb13⟩
 have HC13 : Hid (Below w4.heap.size w4 w13) := HC12.out.trans (hb13.mono HC12.out.size)
 have HG13 : Hid (B4 w13 G (.slice ga rn gc) (.int .i64 rep) (.int .i64 rnw) (.string ⟨rjr.toArray⟩) ∧ TksOwn w13 T (.slice ga rn gc) xs7) := ⟨HG12.out.1.below hb13, HG12.out.2.below hb13⟩
 clear f0 f1 f2 f3 g0 g1 g2 g3 hb13 HE12 HG12
 have bG := HG13.out.1
 have g0 := bG.c0
 have g1 := bG.c1
 have g2 := bG.c2
 have g3 := bG.c3
 have HMg : Hid (_) := markDeskV w13 T 1 (.slice ga rn gc) (.int .i64 rep) (.int .i64 rnw) (.string ⟨rjr.toArray⟩) xs7 (by have := HGA.out.2.1; omega) (by omega) HGe.out (fun x hx => Nat.le_trans (HGA.out.2.2 x hx) (by omega)) HGA.out.1 HG13.out.2
 clear bG
 go_wp2_with fail
 refine Calls.mono HMg.out ?_
 rintro e w14 ⟨rfl, ho14, hw14⟩
 have HC14 : Hid (Below w4.heap.size w4 w14) := HC13.out.trans (hw14.below HC13.out.size (fun k e => by have h1 := HGb.out k e; have h2 := HG4.out; omega))
 have HG14 : Hid (B4 w14 G (.slice ga rn gc) (.int .i64 rep) (.int .i64 rnw) (.string ⟨rjr.toArray⟩) ∧ TksOwn w14 T (.slice ga rn gc) (tmark 1 xs7)) := ⟨HG13.out.1.keep (hw14.block G HG13.out.1.lt (fun e => by have := HGb.out G e; omega)), ho14⟩
 clear g0 g1 g2 g3 ho14 hw14 HMg HG13
 have bG := HG14.out.1
 have g0 := bG.c0
 have g1 := bG.c1
 have g2 := bG.c2
 have g3 := bG.c3
 have HHd : Hid (∀ Z, TksOwn Z T (.slice ga rn gc) (tmark 1 xs7) → _) := fun Z h => heldDeskV Z T 1 (.slice ga rn gc) (.int .i64 rep) (.int .i64 rnw) (.string ⟨rjr.toArray⟩) xs7 (by have := HGA.out.2.1; omega) (by omega) HGe.out (fun x hx => Nat.le_trans (HGA.out.2.2 x hx) (by omega)) h
 have hge3 : ¬ ((tend 1 xs7 : Nat) : Int) < 0 := by omega
 generalize tend 1 xs7 = zg at HHd hge3 ⊢
 have hzz : ((zg : Int) != (zg : Int)) = false := by simp
 clear bG
 go_wp2_with fail
 refine Calls.mono (HHd.out _ HG14.out.2) ?_
 rintro e w15 ⟨rfl, hg15⟩
 have HC15 : Hid (Below w4.heap.size w4 w15) := HC14.out.grown hg15 HC14.out.size (by simp)
 have HG15 : Hid (B4 w15 G (.slice ga rn gc) (.int .i64 rep) (.int .i64 rnw) (.string ⟨rjr.toArray⟩) ∧ TksOwn w15 T (.slice ga rn gc) (tmark 1 xs7)) := ⟨HG14.out.1.grown hg15 (by simp), HG14.out.2.still hg15⟩
 have HT15 : Hid (_) := HTo.out w15 (HI.out.below (HHI.out w15 HC15.out))
 clear g0 g1 g2 g3 hg15 HG14
 go_wp2_with fail
 refine Calls.mono HT15.out ?_
 rintro e w16 ⟨rfl, ys13, hy13, hp13, hb16⟩
 obtain ⟨G13, hG13⟩ : ∃ G, w15.heap.size = G := ⟨_, rfl⟩
 rw [hG13] at hp13
 have hok13 : PkgsOk w16 (some ⟨G13, 0, none⟩) ps0.length ps0.length ps0 := hp13.ok hy13 HIN.out HSH.out rfl hln
 have HC16 : Hid (Below w4.heap.size w4 w16) := HC15.out.trans (hb16.mono HC15.out.size)
 have HG16 : Hid (B4 w16 G (.slice ga rn gc) (.int .i64 rep) (.int .i64 rnw) (.string ⟨rjr.toArray⟩) ∧ TksOwn w16 T (.slice ga rn gc) (tmark 1 xs7)) := ⟨HG15.out.1.below hb16, HG15.out.2.below hb16⟩
 have HI16 : Hid (_) := HIm.out w16 G13 (HHI.out w16 HC16.out) hok13
 clear hp13 hy13 hb16 hok13 HT15 HG15
 go_wp2_with fail
 refine Calls.mono HI16.out ?_
 rintro e w17 ⟨v17, rfl, ha, hc, xs17, rfl, hx17, ho17, _, hb17⟩
 obtain ⟨H, hH0⟩ : ∃ H, w17.heap.size = H := ⟨_, rfl⟩
 obtain ⟨w18, hw18⟩ : ∃ W, w17.alloc (.cells #[.slice ha rn hc, .int .i64 rep, .int .i64 rnw, .string ⟨rjr.toArray⟩] 26) = W := ⟨_, rfl⟩
 have bH := B4.new w17 (.slice ha rn hc) (.int .i64 rep) (.int .i64 rnw) (.string ⟨rjr.toArray⟩) 26
 have hb18 : Below w17.heap.size w17 w18 := by rw [← hw18]; exact (Below.refl _ _).alloc (Nat.le_refl _) _
 rw [hw18, hH0] at bH
 have hb178 : Below w16.heap.size w16 w18 := hb17.trans (hb18.mono hb17.size)
 have HC18 : Hid (Below w4.heap.size w4 w18) := HC16.out.trans (hb178.mono HC16.out.size)
 have HG18 : Hid (B4 w18 G (.slice ga rn gc) (.int .i64 rep) (.int .i64 rnw) (.string ⟨rjr.toArray⟩) ∧ TksOwn w18 T (.slice ga rn gc) (tmark 1 xs7)) := ⟨HG16.out.1.below hb178, HG16.out.2.below hb178⟩
 have hT17 : TasksIn w18 ha rn rts := by
  obtain ⟨a3, c3, e3, hok3⟩ := ho17.ok
  have hl3 : xs17.length = rn := by rw [← HRN.out, ← hx17, List.length_map]
  rw [hx17, hl3] at hok3
  rw [hl3] at e3
  injection e3 with e3 _ _
  subst e3
  exact hok3.in.below hb18
 obtain ⟨bF, hTF⟩ := HF.out w18 HC18.out
 have f0 := bF.c0
 have f1 := bF.c1
 have f2 := bF.c2
 have f3 := bF.c3
 have h0 := bH.c0
 have h1 := bH.c1
 have h2 := bH.c2
 have h3 := bH.c3
 have HE18 : Hid (_) := eqDeskC ha va rn hc vc rts rep rnw rjr w18 hT17 hTF (by omega) HR4.out
 clear hb17 hb18 hb178 ho17 hx17 hT17 hTF bF bH HI16 HG16
 go_wp2_with fail
 refine Calls.mono HE18.out ?_
 rintro e w19 ⟨rfl, hb19⟩
 have HC19 : Hid (Below w4.heap.size w4 w19) := HC18.out.trans (hb19.mono HC18.out.size)
 have HG19 : Hid (B4 w19 G (.slice ga rn gc) (.int .i64 rep) (.int .i64 rnw) (.string ⟨rjr.toArray⟩) ∧ TksOwn w19 T (.slice ga rn gc) (tmark 1 xs7)) := ⟨HG18.out.1.below hb19, HG18.out.2.below hb19⟩
 clear f0 f1 f2 f3 h0 h1 h2 h3 hb19 HE18 HG18
 have bG := HG19.out.1
 have g0 := bG.c0
 have g1 := bG.c1
 have g2 := bG.c2
 have g3 := bG.c3
 clear bG
 go_wp2_with fail
 refine Calls.mono (HHd.out _ HG19.out.2) ?_
 rintro e w20 ⟨rfl, hg20⟩
 have HC20 : Hid (Below w4.heap.size w4 w20) := HC19.out.grown hg20 HC19.out.size (by simp)
 clear g0 g1 g2 g3 hg20
 go_wp2
 go_ret
 exact ⟨rfl, HHI.out _ HC20.out⟩

/-- The listed errors, as they stand on the list. -/
def errList : List (String × List UInt8) := [("loop.example/g00346/impl.errNotTold", [115, 111, 109, 101, 116, 104, 105, 110, 103, 32, 105, 115, 32, 110, 111, 116, 32, 97, 115, 32, 116, 111, 108, 100]), ("loop.example/g00346/impl.errFar", [116, 104, 101, 32, 112, 97, 99, 107, 97, 103, 101, 32, 99, 97, 108, 108, 101, 100, 32, 105, 115, 32, 110, 111, 116, 32, 119, 105, 116, 104, 105, 110, 32, 114, 101, 97, 99, 104]), ("loop.example/g00346/impl.errFunc", [116, 104, 101, 32, 102, 117, 110, 99, 32, 99, 97, 108, 108, 101, 100, 32, 105, 115, 32, 110, 111, 116, 32, 116, 104, 101, 114, 101]), ("loop.example/g00346/impl.errCount", [116, 104, 101, 32, 99, 97, 108, 108, 32, 104, 97, 115, 32, 97, 110, 111, 116, 104, 101, 114, 32, 110, 117, 109, 98, 101, 114, 32, 111, 102, 32, 112, 97, 114, 116, 115, 32, 116, 104, 97, 110, 32, 116, 104, 101, 32, 102, 117, 110, 99, 32, 104, 97, 115, 32, 97, 114, 103, 117, 109, 101, 110, 116, 115]), ("loop.example/g00346/impl.errImport", [97, 110, 32, 105, 109, 112, 111, 114, 116, 32, 105, 115, 32, 110, 111, 116, 32, 116, 104, 101, 114, 101]), ("loop.example/g00346/impl.errRing", [116, 104, 101, 32, 112, 97, 99, 107, 97, 103, 101, 32, 105, 115, 32, 111, 110, 32, 97, 32, 114, 105, 110, 103, 32, 111, 114, 32, 98, 101, 104, 105, 110, 100, 32, 111, 110, 101]), ("loop.example/g00346/impl.errArg", [116, 104, 101, 114, 101, 32, 105, 115, 32, 110, 111, 32, 115, 117, 99, 104, 32, 97, 114, 103, 117, 109, 101, 110, 116]), ("loop.example/g00346/impl.errMain", [116, 104, 101, 114, 101, 32, 105, 115, 32, 110, 111, 32, 109, 97, 105, 110, 32, 111, 102, 32, 111, 110, 101, 32, 97, 114, 103, 117, 109, 101, 110, 116])]
/-- What the listed variables give the walk. -/
theorem errs_of_laid {W : World} (h : laidMetH Tryz.prog Rows.fnExactRebornRow.laid W) : ∃ er, Err8 W er := by
 have e2 : (Rows.fnExactRebornRow.laid.filter fun x => x.2.handleName?.isSome) = [("errors.errorType", Rows.laid_errors_errorType)] := by kernel_rfl
 have e1 : (Rows.fnExactRebornRow.laid.filter fun x => x.2.handleName?.isNone) = [("math/bits.deBruijn32tab", Rows.laid_math_bits_deBruijn32tab), ("math/bits.deBruijn64tab", Rows.laid_math_bits_deBruijn64tab), ("internal/strconv.uint64pow10", Rows.laid_internal_strconv_uint64pow10), ("loop.example/g00346/impl.errNotTold", Rows.laid_loop_example_g00346_impl_errNotTold), ("loop.example/g00346/impl.errFar", Rows.laid_loop_example_g00346_impl_errFar), ("loop.example/g00346/impl.errFunc", Rows.laid_loop_example_g00346_impl_errFunc), ("loop.example/g00346/impl.errCount", Rows.laid_loop_example_g00346_impl_errCount), ("loop.example/g00346/impl.errImport", Rows.laid_loop_example_g00346_impl_errImport), ("loop.example/g00346/impl.errRing", Rows.laid_loop_example_g00346_impl_errRing), ("loop.example/g00346/impl.errArg", Rows.laid_loop_example_g00346_impl_errArg), ("loop.example/g00346/impl.errMain", Rows.laid_loop_example_g00346_impl_errMain)] := by kernel_rfl
 unfold laidMetH at h
 rw [e2] at h
 have h' : laidMet Tryz.prog (Rows.fnExactRebornRow.laid.filter fun x => x.2.handleName?.isNone) W ∧ handlesMet Tryz.prog [("errors.errorType", Rows.laid_errors_errorType)] W := h
 have h1 := h'.1
 rw [e1] at h1
 have h2 : laidMet Tryz.prog (errList.map fun x => (x.1, sentD x.2)) W := h1.tail.tail.tail
 exact err8_of h2 (handle_of h'.2)

theorem pow_of_laid {W : World} (h : laidMetH Tryz.prog Rows.fnExactRebornRow.laid W) : PowIs W := by
 have e2 : (Rows.fnExactRebornRow.laid.filter fun x => x.2.handleName?.isSome) = [("errors.errorType", Rows.laid_errors_errorType)] := by kernel_rfl
 have e1 : (Rows.fnExactRebornRow.laid.filter fun x => x.2.handleName?.isNone) = [("math/bits.deBruijn32tab", Rows.laid_math_bits_deBruijn32tab), ("math/bits.deBruijn64tab", Rows.laid_math_bits_deBruijn64tab), ("internal/strconv.uint64pow10", Rows.laid_internal_strconv_uint64pow10), ("loop.example/g00346/impl.errNotTold", Rows.laid_loop_example_g00346_impl_errNotTold), ("loop.example/g00346/impl.errFar", Rows.laid_loop_example_g00346_impl_errFar), ("loop.example/g00346/impl.errFunc", Rows.laid_loop_example_g00346_impl_errFunc), ("loop.example/g00346/impl.errCount", Rows.laid_loop_example_g00346_impl_errCount), ("loop.example/g00346/impl.errImport", Rows.laid_loop_example_g00346_impl_errImport), ("loop.example/g00346/impl.errRing", Rows.laid_loop_example_g00346_impl_errRing), ("loop.example/g00346/impl.errArg", Rows.laid_loop_example_g00346_impl_errArg), ("loop.example/g00346/impl.errMain", Rows.laid_loop_example_g00346_impl_errMain)] := by kernel_rfl
 unfold laidMetH at h
 rw [e2] at h
 have h' : laidMet Tryz.prog (Rows.fnExactRebornRow.laid.filter fun x => x.2.handleName?.isNone) W ∧ handlesMet Tryz.prog [("errors.errorType", Rows.laid_errors_errorType)] W := h
 have h1 := h'.1
 rw [e1] at h1
 obtain ⟨ps, ⟨g0, t0, cs0, f0, p0, q0, hg0, ht0, hv0, hd0, ⟨g1, t1, cs1, f1, p1, q1, hg1, ht1, hv1, hd1, ⟨g2, t2, cs2, f2, p2, q2, hg2, ht2, hv2, hd2, _, _⟩, _⟩, _⟩, _, _⟩ := h1
 obtain ⟨g, hg⟩ := Option.isSome_iff_exists.1 powAt
 obtain rfl := Option.some.inj (hg.symm.trans hg2)
 exact pow_of_cells hg ht2 hv2 hd2

theorem door_met (os : Os) (args : Array Value) : laidMetH Tryz.prog Rows.fnExactRebornRow.laid ((World.doorLaid Tryz.prog 183 os).forCall (fun _ _ => 0) ⟨#[], args, []⟩).memory :=
 laidMetH_of_parts3 (fuel := 8) (laidMet_of_run' 8 (by kernel_rfl) (by kernel_rfl)) (by kernel_rfl) (by kernel_rfl)
theorem vars_len {H : Type} {enc : TypeId × Value → H} {P : Program} {w : World} {sp : Nat → Bool} : ∀ {ns : List String} {gs : List (DataW H)} {ps : List MemPlace}, DataW.TrodVars enc P w sp ns gs ps → gs.length = ns.length
 | [], [], _, _ => rfl
 | [], _ :: _, _, h => h.elim
 | _ :: _, [], _, h => h.elim
 | _ :: ns, _ :: gs, _, h => by
  obtain ⟨g, t, cs, fuel, p, q, _, _, _, _, hr, _⟩ := h
  simp [vars_len hr]

set_option maxRecDepth 100000 in
theorem lifted (os : Os) (started : os.Started) (H : Type) (enc : TypeId × Value → H) :
 ReturnsInHanded {} Tryz.checked os 3 .any (fun w args => (Rows.fnExactRebornSpec.pre enc Tryz.prog Tryz.f3 [] false w args ∧ laidMetH Tryz.prog Rows.fnExactRebornRow.laid w) ∧ sizedMet enc Tryz.prog Tryz.f3 (OpenSpec.ofChange Rows.fnExactRebornSpec) false w args)
  (Rows.fnExactRebornSpec.post enc Tryz.prog Tryz.f3 false true false false) := by
 refine returnsInHanded_of_change_and (C := Tryz.checked) (X := fun w _ => laidMetH Tryz.prog Rows.fnExactRebornRow.laid w) (fun _ _ _ hh h => h.of_heap hh) own started (by kernel_rfl) Tryz.func3
  (ChangeSpec.witness_shaped (enc := enc) (C := Tryz.checked) (os := os) (X := fun w _ => laidMetH Tryz.prog Rows.fnExactRebornRow.laid w) false (World.doorLaid Tryz.prog 183 os) #[.slice none 0 0, .string ByteArray.empty] 8 rfl
   (World.shaped_of_RefB (by kernel_rfl) (by kernel_rfl)) (by kernel_rfl) (by kernel_rfl) (by kernel_rfl) (door_met os _)) ?_
 intro W base args ds gs before hval0 hW _ _ hL _
 have hval : ∀ (j : Nat) t v, Tryz.f3.params[j]? = some t → args[j]? = some v → Value.okWide Tryz.prog W .any base t v := hval0
 have hW' := hW
 obtain ⟨p, q, hA0, hV, rfl, hfz, hnd⟩ := hW
 have hA : DataW.TrodAll enc Tryz.prog W 0 (fun _ => true) true Tryz.f3.params.toList args.toList ds p := hA0
 rw [Tryz.params3] at hA hval
 obtain ⟨v0, vs0, d0, ds0, p0, q0, hargs, rfl, rfl, h0, r0⟩ := trodAll_cons hA
 obtain ⟨v1, vs1, d1, ds1, p1, q1, rfl, rfl, rfl, h1, r1⟩ := trodAll_cons r0
 obtain ⟨rfl, rfl, rfl⟩ := trodAll_nil r1
 obtain rfl : args = #[v0, v1] := by cases args; simp_all
 have hlen := vars_len hV
 obtain ⟨u0, u1, u2, u3, u4, u5, u6, u7, rfl⟩ : ∃ u0 u1 u2 u3 u4 u5 u6 u7, gs = [u0, u1, u2, u3, u4, u5, u6, u7] := by
  match gs, hlen with
  | [u0, u1, u2, u3, u4, u5, u6, u7], _ => exact ⟨u0, u1, u2, u3, u4, u5, u6, u7, rfl⟩
 have k0 := h0
 have lt0 : ∀ x ∈ p0, x.block < W.heap.size := by obtain ⟨m, hm⟩ := k0; exact DataW.trod_lt m _ _ _ hm
 obtain ⟨a0, len0, cap0, ps0, rfl, w0, wl0, wm0, wi0⟩ := open_packages (hval 0 22 v0 rfl rfl) h0
 have k1 := h1
 have lt1 : ∀ x ∈ p1, x.block < W.heap.size := by obtain ⟨m, hm⟩ := k1; exact DataW.trod_lt m _ _ _ hm
 obtain ⟨a1, rfl, _, _, w1⟩ := open_string Tryz.underlying9 (hval 1 9 v1 rfl rfl) h1
 clear hA0 hval0
 obtain ⟨er, hE⟩ := errs_of_laid hL
 refine (walk a0 len0 cap0 ps0 a1 W w0 wl0 wm0 wi0 w1 er hE (pow_of_laid hL)).mono fun e W' ⟨he, bel⟩ => ?_
 subst he
 exact ⟨_, rfl, _, _, _, [], _, _, hW', trodAll_mk1 (shut_bool Tryz.underlying4 _), (trodAll_cons_mk (Below.trod laidOut (by kernel_rfl) (of_decide_eq_true (by kernel_rfl)) k0 bel lt0) (trodAll_cons_mk (Below.trod laidOut (by kernel_rfl) (of_decide_eq_true (by kernel_rfl)) k1 bel lt1) trodAll_mk0)), Below.trodVars laidOut bel (by kernel_rfl) hV, bel.frame _, fun h => by cases h⟩

theorem over : Rows.fnExactRebornRow.holds Tryz.pinned (OpenSpec.ofChange Rows.fnExactRebornSpec) :=
 OpenClaim.holds_of_wide 3 Tryz.f3 rfl rfl rfl rfl rfl rfl rfl ⟨rfl, rfl, rfl, rfl, rfl⟩ rfl rfl rfl rfl rfl (by kernel_rfl) Tryz.func3 (by kernel_rfl)
  (of_decide_eq_true (by kernel_rfl)) (by unfold Func.isWrapper; first | (rw [if_pos (by decide +kernel)]; kernel_rfl) | (rw [if_neg (by decide +kernel)]; exact ⟨rfl, rfl⟩))
  (fun os started H enc _ => lifted os started H enc)

/-- The tied card. -/
theorem proved : Rows.FnExactRebornCardSaid :=
 Claim7.holds_tied_plain_at .later [] [.data, .data, .data, .handle, .sentinel, .sentinel, .sentinel, .sentinel, .sentinel, .sentinel, .sentinel, .sentinel] true (true, "124cdafd8dac4d08d6f33240851b416843df50f686d5384e0cb9f7f803bbb8b2") true
  over (fun _ h => by cases h) (by kernel_rfl) (fun _ h => by cases h) fnExactReborn_row_tie rfl ⟨rfl, rfl⟩ (by kernel_rfl) rfl
  (fun f fn hf hfn => by
   obtain rfl : f = 3 := Option.some.inj ((show Tryz.prog.funcNamed Rows.fnExactRebornRow.func = some 3 by kernel_rfl).symm.trans hf) |>.symm
   obtain rfl : fn = Tryz.f3 := (Option.some.inj (Tryz.func3.symm.trans hfn)).symm
   exact ⟨by kernel_rfl, fun j t ht => by
    rw [Tryz.params3] at ht
    have hm : t ∈ [22, 9] := by simpa using Array.mem_of_getElem? ht
    have hall : ([22, 9].all fun u => !Tryz.prog.wantsStandIn u) = true := by kernel_rfl
    exact (show Tryz.prog.wantsStandIn t = false by simpa using List.all_eq_true.1 hall t hm)⟩)
  (by kernel_rfl)
#print axioms proved
end Go.Proofs.YtaidhjjpdkkmcaaGreatDoor.fnExactReborn
