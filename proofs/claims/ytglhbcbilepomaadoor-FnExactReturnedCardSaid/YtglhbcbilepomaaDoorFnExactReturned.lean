/-
  FnExactReturned returns true at every desk and numbers and leaves the desk as it was: impl.Returned answers as spec.Returned, in memory of its own.
-/
import Derived.Test.YtglhbcbilepomaaDoorRows
import Derived.Test.YtglhbcbilepomaaDoorCards
import Derived.Test.YtglhbcbilepomaaDoorTie
import Derived.Test.YtglhbcbilepomaaDoorP10
import Derived.Test.YtglhbcbilepomaaDoorP11
import Derived.Test.YtglhbcbilepomaaDoorP13
import Derived.Test.YtglhbcbilepomaaDoorP22
import Derived.Test.YtglhbcbilepomaaDoorP17
import Derived.WalkKit
import Derived.Deep.RegionHeld3
import Derived.ProofKit
import Derived.OpenShut
import Derived.ShutString
import Derived.ChangeOld
import Derived.Below
import Derived.LaidLaws
import Derived.LaidHandle
import Derived.Lay
import Derived.MakeChecks
import Derived.Lib.LaidTab
import Derived.Stop.Joined
import Derived.SevenTiedAt
namespace Go.Proofs.YtglhbcbilepomaaDoor.fnExactReturned
open Go.ChangeShapes Go.WideShapes Go.ChangeAt Go.RowKit
open Go.ChangeMaps (open_string shut_string)
set_option linter.unusedVariables false

theorem own : ownKnob Tryd.prog.godebug = none := by kernel_rfl
theorem laidOut : laidOutB Tryd.prog = true := by kernel_rfl

/-! The walk: the law returns true and writes nothing that was there. -/
set_option maxHeartbeats 8000000 in
set_option maxRecDepth 1000000 in
theorem walk (a0 : Option Addr) (len0 cap0 : Nat) (ts0 : List Ta) (ep0 nw0 : Int) (jr0 : List UInt8) (a1 : Int) (a2 : Int) (a3 : Int) (w : World) (w0 : TasksIn w a0 len0 ts0) (wl0 : len0 ≤ maxLen) (wm0 : LongTa ts0) (wi0 : IntTas ts0) (we0 : -9223372036854775808 ≤ ep0 ∧ ep0 ≤ 9223372036854775807) (wn0 : -9223372036854775808 ≤ nw0 ∧ nw0 ≤ 9223372036854775807) (wj0 : jr0.length ≤ maxLen) (w1 : (Lit.int .i64 a1).wf = true) (w2 : (Lit.int .i64 a2).wf = true) (w3 : (Lit.int .i64 a3).wf = true) (hT : PowIs w) :
    Calls Tryd.prog 3 #[.agg #[.slice a0 len0 cap0, .int .i64 ep0, .int .i64 nw0, .string ⟨jr0.toArray⟩], .int .i64 a1, .int .i64 a2, .int .i64 a3] w fun e w' => e = .returned (.bool true) ∧ Below w.heap.size w w' := by
  obtain rfl : ts0.length = len0 := w0.1
  have HTW : Hid (∀ X, Below w.heap.size w X → PowIs X) := fun X hX => hT.below hX
  obtain ⟨W, hW⟩ : ∃ W, w.alloc (.cells #[.slice a0 ts0.length cap0, .int .i64 ep0, .int .i64 nw0, .string ⟨jr0.toArray⟩] 24) = W := ⟨_, rfl⟩
  have hbW : Below w.heap.size w W := by rw [← hW]; exact (Below.refl _ _).alloc (Nat.le_refl _) _
  have hsW : W.heap.size = w.heap.size + 1 := by rw [← hW]; simp
  have bD := B4.new w (.slice a0 ts0.length cap0) (.int .i64 ep0) (.int .i64 nw0) (.string ⟨jr0.toArray⟩) 24
  rw [hW] at bD
  obtain ⟨D, hD0⟩ : ∃ D, w.heap.size = D := ⟨_, rfl⟩
  have HB : Hid (∀ Z, Below W.heap.size W Z → Below w.heap.size w Z) := fun Z hz => hbW.trans (hz.mono hbW.size)
  rw [hD0] at bD hsW
  have HK : Hid (∀ Z, Below W.heap.size W Z → B4 Z D (.slice a0 ts0.length cap0) (.int .i64 ep0) (.int .i64 nw0) (.string ⟨jr0.toArray⟩) ∧ TasksIn Z a0 ts0.length ts0) := fun Z hz => ⟨bD.below hz, (w0.below hbW).below hz⟩
  have hT0 := (HK.out W (Below.refl _ _)).2
  have k0 := bD.c0
  have k1 := bD.c1
  have k2 := bD.c2
  have k3 := bD.c3
  have HZ0 : Hid (_) := szDeskC a0 ts0.length cap0 ts0 ep0 nw0 jr0 1048576 W hT0 (by omega) (by omega) wl0 wm0 wj0
  clear w0 hbW hT0 bD
  by_cases hz : ((ts0.length + tasSz ts0 + jr0.length : Nat) : Int) ≤ 1048576
  · have HZ : Hid (szD (ts0.length + tasSz ts0 + jr0.length) 1048576 = 1048576 - ((ts0.length + tasSz ts0 + jr0.length : Nat) : Int)) := szD_yes hz
    rw [HZ.out] at HZ0
    have hln : ts0.length ≤ 1048576 := by omega
    have hjn : jr0.length ≤ 1048576 := by omega
    have hsh := short_ta (fs := ts0) (by omega)
    have htz : tasSz ts0 ≤ 1048576 := by omega
    have HN2 : Hid (∀ j, (ts0.getD j ta0).2.1.length ≤ 1048576) := fun j => (hsh j).2
    have HN4 : Hid (∀ j, (ts0.getD j ta0).2.1.length ≤ 4194304) := fun j => Nat.le_trans (hsh j).2 (by omega)
    have HRB : Hid (_) := returned_small (d := (ts0, ep0, nw0, jr0)) (k := a1) (e := a2) (key := a3) HN2.out
    have HS : Hid (_) := fun (a : Option Addr) (c : Nat) (V : World) (h : TasksOk V a ts0.length c ts0) => specReturned a ts0.length c ts0 ep0 nw0 jr0 a1 a2 a3 V h hsh hln (bounds_i64 w1).1 (bounds_i64 w1).2 (bounds_i64 w3).1 (bounds_i64 w3).2
    have HI : Hid (_) := fun (a : Option Addr) (V : World) (h : TasksOk V a ts0.length ts0.length ts0) (ht : PowIs V) => implReturned a ts0.length ts0.length ts0 ep0 nw0 jr0 a1 a2 a3 V h hsh hln hjn (Nat.le_refl _) ht (bounds_i64 w1).1 (bounds_i64 w1).2 (bounds_i64 w3).1 (bounds_i64 w3).2
    have HTo : Hid (_) := fun (V : World) (h : TasksIn V a0 ts0.length ts0) => toDeskC a0 ts0.length cap0 ts0 ep0 nw0 jr0 V h hln HN2.out
    obtain ⟨R, hR⟩ : ∃ R, returnedV (ts0, ep0, nw0, jr0) a1 a2 a3 = R := ⟨_, rfl⟩
    rw [hR] at HS HI HRB
    obtain ⟨⟨rts, rep, rnw, rjr⟩, rb⟩ := R
    obtain ⟨rn, hrn⟩ : ∃ n, rts.length = n := ⟨_, rfl⟩
    have HRN : Hid (rts.length = rn) := hrn
    simp only at HRB
    have hrb8 : rn ≤ 8 := by rw [← hrn]; exact HRB.out.1
    have HR4 : Hid (∀ j, (rts.getD j ta0).2.1.length ≤ 4194304) := fun j => Nat.le_trans (HRB.out.2 j) (by omega)
    unfold DkOut at HS HI
    simp only [hrn] at HS HI
    have hne : (rb != rb) = false := by simp
    have hge : (0 : Int) ≤ 1048576 - ((ts0.length + tasSz ts0 + jr0.length : Nat) : Int) := by omega
    generalize ((ts0.length + tasSz ts0 + jr0.length : Nat) : Int) = sz at HZ0 hge
    clear hR hsh hz HZ hrn
    go_enter Tryd.func3, Tryd.ntmps3
    go_wp2_with fail
    refine Calls.mono HZ0.out ?_
    rintro e w1 ⟨rfl, hb1⟩
    have HB1 : Hid (Below W.heap.size W w1) := hb1
    clear k0 k1 k2 k3 hb1 HZ0
    obtain ⟨bD, hT1⟩ := HK.out w1 HB1.out
    have k0 := bD.c0
    have k1 := bD.c1
    have k2 := bD.c2
    have k3 := bD.c3
    have HT1 : Hid (_) := HTo.out w1 hT1
    clear bD hT1
    go_wp2_with fail
    refine Calls.mono HT1.out ?_
    rintro e w2 ⟨g2, xs2, rfl, hx2, ho2, _, hb2⟩
    obtain ⟨a2, c2, e2, hok2⟩ := ho2.ok
    have hl2 : xs2.length = ts0.length := by rw [← hx2, List.length_map]
    rw [hx2, hl2] at hok2
    rw [hl2] at e2
    injection e2 with e2 _ e3
    subst e2 e3
    have HB2 : Hid (Below W.heap.size W w2) := HB1.out.trans (hb2.mono HB1.out.size)
    have HS2 : Hid (_) := HS.out _ _ w2 hok2
    clear k0 k1 k2 k3 hb2 ho2 hok2 HT1 HS hx2 hl2
    go_wp2_with fail
    refine Calls.mono HS2.out ?_
    rintro e w3 ⟨v3, rfl, va, vc, xs3, rfl, hx3, ho3, _, hb3⟩
    have HB3 : Hid (Below W.heap.size W w3) := HB2.out.trans (hb3.mono HB2.out.size)
    obtain ⟨F, hF0⟩ : ∃ F, w3.heap.size = F := ⟨_, rfl⟩
    obtain ⟨w4, hw4⟩ : ∃ W, w3.alloc (.cells #[.slice va rn vc, .int .i64 rep, .int .i64 rnw, .string ⟨rjr.toArray⟩] 28) = W := ⟨_, rfl⟩
    have bF := B4.new w3 (.slice va rn vc) (.int .i64 rep) (.int .i64 rnw) (.string ⟨rjr.toArray⟩) 28
    have hb4 : Below w3.heap.size w3 w4 := by rw [← hw4]; exact (Below.refl _ _).alloc (Nat.le_refl _) _
    have hs4 : w4.heap.size = F + 1 := by rw [← hw4, ← hF0]; simp
    rw [hw4, hF0] at bF
    have HB4 : Hid (Below W.heap.size W w4) := HB3.out.trans (hb4.mono HB3.out.size)
    have hT3 : TasksIn w4 va rn rts := by
      obtain ⟨a3, c3, e3, hok3⟩ := ho3.ok
      have hl3 : xs3.length = rn := by rw [← HRN.out, ← hx3, List.length_map]
      rw [hx3, hl3] at hok3
      rw [hl3] at e3
      injection e3 with e3 _ _
      subst e3
      exact hok3.in.below hb4
    have HF : Hid (∀ Z, Below w4.heap.size w4 Z → B4 Z F (.slice va rn vc) (.int .i64 rep) (.int .i64 rnw) (.string ⟨rjr.toArray⟩) ∧ TasksIn Z va rn rts) := fun Z hz => ⟨bF.below hz, hT3.below hz⟩
    obtain ⟨bD, hT4⟩ := HK.out w4 HB4.out
    have k0 := bD.c0
    have k1 := bD.c1
    have k2 := bD.c2
    have k3 := bD.c3
    have HT4 : Hid (_) := HTo.out w4 hT4
    have HDF : Hid (D < w4.heap.size ∧ W.heap.size ≤ w4.heap.size) := ⟨bD.lt, HB4.out.size⟩
    clear hb3 ho3 hb4 hx3 bF hT3 bD hT4 HS2
    go_wp2_with fail
    refine Calls.mono HT4.out ?_
    rintro e w5 ⟨g5, xs5, rfl, hx5, ho5, hap5, hb5⟩
    have hl5 : xs5.length = ts0.length := by rw [← hx5, List.length_map]
    obtain ⟨P, hP0⟩ : ∃ P, w5.heap.size = P := ⟨_, rfl⟩
    obtain ⟨w6, hw6⟩ : ∃ W, w5.alloc (.cells #[.slice (some ⟨g5, 0, none⟩) ts0.length ts0.length, .int .i64 ep0, .int .i64 nw0, .string ⟨jr0.toArray⟩] 28) = W := ⟨_, rfl⟩
    have bP := B4.new w5 (.slice (some ⟨g5, 0, none⟩) ts0.length ts0.length) (.int .i64 ep0) (.int .i64 nw0) (.string ⟨jr0.toArray⟩) 28
    have hb6 : Below w5.heap.size w5 w6 := by rw [← hw6]; exact (Below.refl _ _).alloc (Nat.le_refl _) _
    have hs6 : w6.heap.size = P + 1 := by rw [← hw6, ← hP0]; simp
    rw [hw6, hP0] at bP
    have HC6 : Hid (Below w4.heap.size w4 w6) := hb5.trans (hb6.mono hb5.size)
    have ho6 := ho5.below hb6
    have hok6 : TasksOk w6 (some ⟨g5, 0, none⟩) ts0.length ts0.length ts0 := by
      obtain ⟨a5, c5, e5, hok5⟩ := ho6.ok
      rw [hx5, hl5] at hok5
      rw [hl5] at e5
      injection e5 with e5 _ e6
      subst e5 e6
      exact hok5
    have HX : Hid (∀ Z, Below w6.heap.size w6 Z → B4 Z P (.slice (some ⟨g5, 0, none⟩) ts0.length ts0.length) (.int .i64 ep0) (.int .i64 nw0) (.string ⟨jr0.toArray⟩) ∧ TksOwn Z w4.heap.size (.slice (some ⟨g5, 0, none⟩) ts0.length ts0.length) xs5 ∧ TasksIn Z (some ⟨g5, 0, none⟩) ts0.length ts0) := fun Z hz => ⟨bP.below hz, ho6.below hz, hok6.in.below hz⟩
    have HXb : Hid (∀ k, TkBlocks (.slice (some ⟨g5, 0, none⟩) ts0.length ts0.length) xs5 k → w4.heap.size ≤ k ∧ k < P) := by
      intro k hk
      rw [← hP0]
      rcases hk with e | ⟨x, hx, e⟩
      · exact ho5.row.lt k e
      · exact (ho5.trees x hx).lt k e
    have HXA : Hid (ApartR (xs5.map tvT) ∧ xs5.length = ts0.length ∧ (∀ x ∈ xs5, x.1.2.1.length ≤ 1100000) ∧ tend 1 xs5 ≤ 30000000) := by
      refine ⟨hap5, hl5, fun x hx => ?_, ?_⟩
      · have h := tasSz_mem ts0 x.1 (by rw [← hx5]; exact List.mem_map_of_mem hx)
        unfold taSz at h
        omega
      · have h := tend_sz 1 xs5
        rw [hx5, hl5] at h
        omega
    have HI6 : Hid (_) := HI.out _ w6 hok6 (HTW.out w6 (HB.out _ (HB4.out.trans (HC6.out.mono HB4.out.size))))
    have HI' : Hid (_) := HI.out
    have p0 := bP.c0
    have p1 := bP.c1
    have p2 := bP.c2
    have p3 := bP.c3
    clear k0 k1 k2 k3 hb5 hb6 ho5 ho6 hok6 hap5 hl5 hx5 bP HI HT4
    go_wp2_with fail
    refine Calls.mono HI6.out ?_
    rintro e w7 ⟨v7, rfl, ga, gc, xs7, rfl, hx7, ho7, hap7, hb7⟩
    have hl7 : xs7.length = rn := by rw [← HRN.out, ← hx7, List.length_map]
    obtain ⟨G, hG0⟩ : ∃ G, w7.heap.size = G := ⟨_, rfl⟩
    obtain ⟨w8, hw8⟩ : ∃ W, w7.alloc (.cells #[.slice ga rn gc, .int .i64 rep, .int .i64 rnw, .string ⟨rjr.toArray⟩] 28) = W := ⟨_, rfl⟩
    have bG := B4.new w7 (.slice ga rn gc) (.int .i64 rep) (.int .i64 rnw) (.string ⟨rjr.toArray⟩) 28
    have hb8 : Below w7.heap.size w7 w8 := by rw [← hw8]; exact (Below.refl _ _).alloc (Nat.le_refl _) _
    have hs8 : w8.heap.size = G + 1 := by rw [← hw8, ← hG0]; simp
    rw [hw8, hG0] at bG
    have HQ8 : Hid (Below w6.heap.size w6 w8) := hb7.trans (hb8.mono hb7.size)
    have HC8 : Hid (Below w4.heap.size w4 w8) := HC6.out.trans (HQ8.out.mono HC6.out.size)
    have ho8 := ho7.below hb8
    have hin8 : ∀ Z, TksOwn Z w6.heap.size (.slice ga rn gc) xs7 → TasksIn Z ga rn rts := fun Z hz => by
      obtain ⟨a7, c7, e7, hok7⟩ := hz.ok
      rw [hx7, hl7] at hok7
      rw [hl7] at e7
      injection e7 with e7 _ _
      subst e7
      exact hok7.in
    have HGin : Hid (_) := hin8
    have HGb : Hid (∀ k, TkBlocks (.slice ga rn gc) xs7 k → w6.heap.size ≤ k ∧ k < G) := by
      intro k hk
      rw [← hG0]
      rcases hk with e | ⟨x, hx, e⟩
      · exact ho7.row.lt k e
      · exact (ho7.trees x hx).lt k e
    have HGA : Hid (ApartR (xs7.map tvT) ∧ xs7.length = rn ∧ (∀ x ∈ xs7, x.1.2.1.length ≤ 1048576)) := ⟨hap7, hl7, fun x hx => by
      have hm : x.1 ∈ rts := by rw [← hx7]; exact List.mem_map_of_mem hx
      obtain ⟨j, hj, e⟩ := List.mem_iff_getElem.1 hm
      have h := HRB.out.2 j
      rw [show rts.getD j ta0 = rts[j] by simp [List.getD, hj], e] at h
      exact h⟩
    have HGe : Hid (tend 1 xs7 ≤ 30000000) := tend_few hl7 hrb8 HGA.out.2.2
    have HG8 : Hid (B4 w8 G (.slice ga rn gc) (.int .i64 rep) (.int .i64 rnw) (.string ⟨rjr.toArray⟩) ∧ TksOwn w8 w6.heap.size (.slice ga rn gc) xs7) := ⟨bG, ho8⟩
    have HPG : Hid (P < w6.heap.size ∧ w6.heap.size ≤ G ∧ F < w4.heap.size) := ⟨by omega, by have := hb7.size; omega, by omega⟩
    obtain ⟨bF, hTF⟩ := HF.out w8 HC8.out
    have f0 := bF.c0
    have f1 := bF.c1
    have f2 := bF.c2
    have f3 := bF.c3
    have g0 := bG.c0
    have g1 := bG.c1
    have g2 := bG.c2
    have g3 := bG.c3
    have HE8 : Hid (_) := eqDeskC ga va rn gc vc rts rep rnw rjr w8 (HGin.out w8 ho8) hTF (by omega) HR4.out
    clear p0 p1 p2 p3 hb7 hb8 ho7 ho8 hin8 hap7 hl7 hx7 bG bF hTF HI6
    go_wp2_with fail
    refine Calls.mono HE8.out ?_
    rintro e w9 ⟨rfl, hb9⟩
    have HQ9 : Hid (Below w6.heap.size w6 w9) := HQ8.out.trans (hb9.mono HQ8.out.size)
    have HC9 : Hid (Below w4.heap.size w4 w9) := HC8.out.trans (hb9.mono HC8.out.size)
    have HG9 : Hid (B4 w9 G (.slice ga rn gc) (.int .i64 rep) (.int .i64 rnw) (.string ⟨rjr.toArray⟩) ∧ TksOwn w9 w6.heap.size (.slice ga rn gc) xs7) := ⟨HG8.out.1.below hb9, HG8.out.2.below hb9⟩
    clear f0 f1 f2 f3 g0 g1 g2 g3 hb9 HE8 HG8
    obtain ⟨bD, -⟩ := HK.out w9 (HB4.out.trans (HC9.out.mono HB4.out.size))
    have k0 := bD.c0
    have k1 := bD.c1
    have k2 := bD.c2
    have k3 := bD.c3
    obtain ⟨bP, -, -⟩ := HX.out w9 HQ9.out
    have p0 := bP.c0
    have p1 := bP.c1
    have p2 := bP.c2
    have p3 := bP.c3
    clear bD bP
    go_wp2_with fail
    have HU : Hid (Below w9.heap.size w9 w9.drew) := ⟨rfl, rfl, rfl, Nat.le_refl _, fun _ _ => rfl⟩
    have HKu : Hid (∀ Z, Below w9.heap.size w9 Z → B4 Z D (.slice a0 ts0.length cap0) (.int .i64 ep0) (.int .i64 nw0) (.string ⟨jr0.toArray⟩) ∧ TasksIn Z a0 ts0.length ts0) := fun Z hz => HK.out Z (HB4.out.trans ((HC9.out.trans (hz.mono HC9.out.size)).mono HB4.out.size))
    have HXu : Hid (∀ Z, Below w9.heap.size w9 Z → B4 Z P (.slice (some ⟨g5, 0, none⟩) ts0.length ts0.length) (.int .i64 ep0) (.int .i64 nw0) (.string ⟨jr0.toArray⟩) ∧ TasksIn Z (some ⟨g5, 0, none⟩) ts0.length ts0) := fun Z hz => by
      obtain ⟨h1, _, h2⟩ := HX.out Z (HQ9.out.trans (hz.mono HQ9.out.size))
      exact ⟨h1, h2⟩
    go_region_held3 (fun w' => w'.cell? ⟨D, 0, none⟩ = some (.slice a0 ts0.length cap0) ∧ w'.cell? ⟨D, 1, none⟩ = some (.int .i64 ep0) ∧ w'.cell? ⟨D, 2, none⟩ = some (.int .i64 nw0) ∧ w'.cell? ⟨D, 3, none⟩ = some (.string ⟨jr0.toArray⟩) ∧ w'.cell? ⟨P, 0, none⟩ = some (.slice (some ⟨g5, 0, none⟩) ts0.length ts0.length) ∧ w'.cell? ⟨P, 1, none⟩ = some (.int .i64 ep0) ∧ w'.cell? ⟨P, 2, none⟩ = some (.int .i64 nw0) ∧ w'.cell? ⟨P, 3, none⟩ = some (.string ⟨jr0.toArray⟩)) (go_keep) (first
      | (go_at_call 6; refine Calls.mono (HTo.out _ (HKu.out _ HU.out).2) ?_; rintro e wn ⟨gy, xsy, rfl, hxy, hoy, _, hbn⟩; obtain ⟨ay, cy, ey, hoky⟩ := hoy.ok; have hly : xsy.length = ts0.length := (by rw [← hxy, List.length_map]); rw [hxy, hly] at hoky; rw [hly] at ey; injection ey with ey _ ez; subst ey ez; replace HU : Hid (Below w9.heap.size w9 wn) := HU.out.trans (hbn.mono HU.out.size); clear k0 k1 k2 k3 p0 p1 p2 p3 hbn hoy; obtain ⟨bD, -⟩ := HKu.out wn HU.out; obtain ⟨bP, hTn⟩ := HXu.out wn HU.out; have k0 := bD.c0; have k1 := bD.c1; have k2 := bD.c2; have k3 := bD.c3; have p0 := bP.c0; have p1 := bP.c1; have p2 := bP.c2; have p3 := bP.c3; clear bD bP)
      | (go_at_call 8; refine Calls.mono (eqDeskC (some ⟨g5, 0, none⟩) (some ⟨gy, 0, none⟩) ts0.length ts0.length ts0.length ts0 ep0 nw0 jr0 _ hTn hoky.in (by omega) HN4.out) ?_; rintro e wm ⟨rfl, hbm⟩; replace HU : Hid (Below w9.heap.size w9 wm) := HU.out.trans (hbm.mono HU.out.size); clear k0 k1 k2 k3 p0 p1 p2 p3 hbm hTn hoky; obtain ⟨bD, -⟩ := HKu.out wm HU.out; obtain ⟨bP, -⟩ := HXu.out wm HU.out; have k0 := bD.c0; have k1 := bD.c1; have k2 := bD.c2; have k3 := bD.c3; have p0 := bP.c0; have p1 := bP.c1; have p2 := bP.c2; have p3 := bP.c3; clear bD bP))
    have HQ10 : Hid (Below w6.heap.size w6 wm) := HQ9.out.trans (HU.out.mono HQ9.out.size)
    have HC10 : Hid (Below w4.heap.size w4 wm) := HC9.out.trans (HU.out.mono HC9.out.size)
    have HG10 : Hid (B4 wm G (.slice ga rn gc) (.int .i64 rep) (.int .i64 rnw) (.string ⟨rjr.toArray⟩) ∧ TksOwn wm w6.heap.size (.slice ga rn gc) xs7) := ⟨HG9.out.1.below HU.out, HG9.out.2.below HU.out⟩
    obtain ⟨bP, hoX, -⟩ := HX.out wm HQ10.out
    have HMk : Hid (_) := markDeskV wm w4.heap.size 1 (.slice (some ⟨g5, 0, none⟩) ts0.length ts0.length) (.int .i64 ep0) (.int .i64 nw0) (.string ⟨jr0.toArray⟩) xs5 (by have := HXA.out.2.1; omega) (by omega) HXA.out.2.2.2 HXA.out.2.2.1 HXA.out.1 hoX
    clear k0 k1 k2 k3 hoX bP HG9 HKu HXu
    have hge2 : ¬ ((tend 1 xs5 : Nat) : Int) < 0 := by omega
    generalize tend 1 xs5 = zx at HMk hge2
    go_wp2_with fail
    refine Calls.mono HMk.out ?_
    rintro e w11 ⟨rfl, _, hw11⟩
    have HC11 : Hid (Below w4.heap.size w4 w11) := HC10.out.trans (hw11.below HC10.out.size (fun k e => (HXb.out k e).1))
    have HG11 : Hid (B4 w11 G (.slice ga rn gc) (.int .i64 rep) (.int .i64 rnw) (.string ⟨rjr.toArray⟩) ∧ TksOwn w11 w6.heap.size (.slice ga rn gc) xs7) := by
      have h6 := HPG.out
      refine ⟨HG10.out.1.keep (hw11.block G HG10.out.1.lt (fun e => by have := HXb.out G e; omega)), own_wroteR HG10.out.2.row hw11 (fun k e1 e2 => ?_), fun x hx => own_wroteR (HG10.out.2.trees x hx) hw11 (fun k e1 e2 => ?_)⟩
      · have h1 := (HG10.out.2.row.lt k e1).1
        have h2 := HXb.out k e2
        omega
      · have h1 := ((HG10.out.2.trees x hx).lt k e1).1
        have h2 := HXb.out k e2
        omega
    obtain ⟨bF, hTF⟩ := HF.out w11 HC11.out
    have f0 := bF.c0
    have f1 := bF.c1
    have f2 := bF.c2
    have f3 := bF.c3
    have bG := HG11.out.1
    have g0 := bG.c0
    have g1 := bG.c1
    have g2 := bG.c2
    have g3 := bG.c3
    have HE11 : Hid (_) := eqDeskC ga va rn gc vc rts rep rnw rjr w11 (HGin.out w11 HG11.out.2) hTF (by omega) HR4.out
    clear p0 p1 p2 p3 hw11 bF bG hTF HMk HG10
    go_wp2_with fail
    refine Calls.mono HE11.out ?_
    rintro e w12 ⟨rfl, hb12⟩
    have HC12 : Hid (Below w4.heap.size w4 w12) := HC11.out.trans (hb12.mono HC11.out.size)
    have HG12 : Hid (B4 w12 G (.slice ga rn gc) (.int .i64 rep) (.int .i64 rnw) (.string ⟨rjr.toArray⟩) ∧ TksOwn w12 w6.heap.size (.slice ga rn gc) xs7) := ⟨HG11.out.1.below hb12, HG11.out.2.below hb12⟩
    clear f0 f1 f2 f3 g0 g1 g2 g3 hb12 HE11 HG11
    have bG := HG12.out.1
    have g0 := bG.c0
    have g1 := bG.c1
    have g2 := bG.c2
    have g3 := bG.c3
    have HMg : Hid (_) := markDeskV w12 w6.heap.size 1 (.slice ga rn gc) (.int .i64 rep) (.int .i64 rnw) (.string ⟨rjr.toArray⟩) xs7 (by have := HGA.out.2.1; omega) (by omega) HGe.out (fun x hx => Nat.le_trans (HGA.out.2.2 x hx) (by omega)) HGA.out.1 HG12.out.2
    clear bG
    go_wp2_with fail
    refine Calls.mono HMg.out ?_
    rintro e w13 ⟨rfl, ho13, hw13⟩
    have HC13 : Hid (Below w4.heap.size w4 w13) := HC12.out.trans (hw13.below HC12.out.size (fun k e => by have h1 := HGb.out k e; have h2 := HC6.out.size; omega))
    have HG13 : Hid (B4 w13 G (.slice ga rn gc) (.int .i64 rep) (.int .i64 rnw) (.string ⟨rjr.toArray⟩) ∧ TksOwn w13 w6.heap.size (.slice ga rn gc) (tmark 1 xs7)) := ⟨HG12.out.1.keep (hw13.block G HG12.out.1.lt (fun e => by have := HGb.out G e; omega)), ho13⟩
    clear g0 g1 g2 g3 ho13 hw13 HMg HG12
    have bG := HG13.out.1
    have g0 := bG.c0
    have g1 := bG.c1
    have g2 := bG.c2
    have g3 := bG.c3
    have HHd : Hid (∀ Z, TksOwn Z w6.heap.size (.slice ga rn gc) (tmark 1 xs7) → _) := fun Z h => heldDeskV Z w6.heap.size 1 (.slice ga rn gc) (.int .i64 rep) (.int .i64 rnw) (.string ⟨rjr.toArray⟩) xs7 (by have := HGA.out.2.1; omega) (by omega) HGe.out (fun x hx => Nat.le_trans (HGA.out.2.2 x hx) (by omega)) h
    have hge3 : ¬ ((tend 1 xs7 : Nat) : Int) < 0 := by omega
    generalize tend 1 xs7 = zg at HHd hge3 ⊢
    have hzz : ((zg : Int) != (zg : Int)) = false := by simp
    clear bG
    go_wp2_with fail
    refine Calls.mono (HHd.out _ HG13.out.2) ?_
    rintro e w14 ⟨rfl, hg14⟩
    have HC14 : Hid (Below w4.heap.size w4 w14) := HC13.out.grown hg14 HC13.out.size (by simp)
    have HG14 : Hid (B4 w14 G (.slice ga rn gc) (.int .i64 rep) (.int .i64 rnw) (.string ⟨rjr.toArray⟩) ∧ TksOwn w14 w6.heap.size (.slice ga rn gc) (tmark 1 xs7)) := ⟨HG13.out.1.grown hg14 (by simp), HG13.out.2.still hg14⟩
    clear g0 g1 g2 g3 hg14 HG13
    obtain ⟨bD, hT14⟩ := HK.out w14 (HB4.out.trans (HC14.out.mono HB4.out.size))
    have k0 := bD.c0
    have k1 := bD.c1
    have k2 := bD.c2
    have k3 := bD.c3
    have HT14 : Hid (_) := HTo.out w14 hT14
    clear bD hT14
    go_wp2_with fail
    refine Calls.mono HT14.out ?_
    rintro e w15 ⟨g15, xs15, rfl, hx15, ho15, _, hb15⟩
    have hok15 : TasksOk w15 (some ⟨g15, 0, none⟩) ts0.length ts0.length ts0 := by
      obtain ⟨a5, c5, e5, hok5⟩ := ho15.ok
      have hl15 : xs15.length = ts0.length := by rw [← hx15, List.length_map]
      rw [hx15, hl15] at hok5
      rw [hl15] at e5
      injection e5 with e5 _ e6
      subst e5 e6
      exact hok5
    have HC15 : Hid (Below w4.heap.size w4 w15) := HC14.out.trans (hb15.mono HC14.out.size)
    have HG15 : Hid (B4 w15 G (.slice ga rn gc) (.int .i64 rep) (.int .i64 rnw) (.string ⟨rjr.toArray⟩) ∧ TksOwn w15 w6.heap.size (.slice ga rn gc) (tmark 1 xs7)) := ⟨HG14.out.1.below hb15, HG14.out.2.below hb15⟩
    have HI15 : Hid (_) := HI'.out _ w15 hok15 (HTW.out w15 (HB.out _ (HB4.out.trans (HC15.out.mono HB4.out.size))))
    clear k0 k1 k2 k3 hb15 ho15 hok15 hx15 HT14 HG14
    go_wp2_with fail
    refine Calls.mono HI15.out ?_
    rintro e w16 ⟨v16, rfl, ha, hc, xs16, rfl, hx16, ho16, _, hb16⟩
    obtain ⟨H, hH0⟩ : ∃ H, w16.heap.size = H := ⟨_, rfl⟩
    obtain ⟨w17, hw17⟩ : ∃ W, w16.alloc (.cells #[.slice ha rn hc, .int .i64 rep, .int .i64 rnw, .string ⟨rjr.toArray⟩] 28) = W := ⟨_, rfl⟩
    have bH := B4.new w16 (.slice ha rn hc) (.int .i64 rep) (.int .i64 rnw) (.string ⟨rjr.toArray⟩) 28
    have hb17 : Below w16.heap.size w16 w17 := by rw [← hw17]; exact (Below.refl _ _).alloc (Nat.le_refl _) _
    rw [hw17, hH0] at bH
    have hb167 : Below w15.heap.size w15 w17 := hb16.trans (hb17.mono hb16.size)
    have HC17 : Hid (Below w4.heap.size w4 w17) := HC15.out.trans (hb167.mono HC15.out.size)
    have HG17 : Hid (B4 w17 G (.slice ga rn gc) (.int .i64 rep) (.int .i64 rnw) (.string ⟨rjr.toArray⟩) ∧ TksOwn w17 w6.heap.size (.slice ga rn gc) (tmark 1 xs7)) := ⟨HG15.out.1.below hb167, HG15.out.2.below hb167⟩
    have hT16 : TasksIn w17 ha rn rts := by
      obtain ⟨a3, c3, e3, hok3⟩ := ho16.ok
      have hl3 : xs16.length = rn := by rw [← HRN.out, ← hx16, List.length_map]
      rw [hx16, hl3] at hok3
      rw [hl3] at e3
      injection e3 with e3 _ _
      subst e3
      exact hok3.in.below hb17
    obtain ⟨bF, hTF⟩ := HF.out w17 HC17.out
    have f0 := bF.c0
    have f1 := bF.c1
    have f2 := bF.c2
    have f3 := bF.c3
    have h0 := bH.c0
    have h1 := bH.c1
    have h2 := bH.c2
    have h3 := bH.c3
    have HE17 : Hid (_) := eqDeskC ha va rn hc vc rts rep rnw rjr w17 hT16 hTF (by omega) HR4.out
    clear hb16 hb17 hb167 ho16 hx16 hT16 hTF bF bH HI15 HG15
    go_wp2_with fail
    refine Calls.mono HE17.out ?_
    rintro e w18 ⟨rfl, hb18⟩
    have HC18 : Hid (Below w4.heap.size w4 w18) := HC17.out.trans (hb18.mono HC17.out.size)
    have HG18 : Hid (B4 w18 G (.slice ga rn gc) (.int .i64 rep) (.int .i64 rnw) (.string ⟨rjr.toArray⟩) ∧ TksOwn w18 w6.heap.size (.slice ga rn gc) (tmark 1 xs7)) := ⟨HG17.out.1.below hb18, HG17.out.2.below hb18⟩
    clear f0 f1 f2 f3 h0 h1 h2 h3 hb18 HE17 HG17
    have bG := HG18.out.1
    have g0 := bG.c0
    have g1 := bG.c1
    have g2 := bG.c2
    have g3 := bG.c3
    clear bG
    go_wp2_with fail
    refine Calls.mono (HHd.out _ HG18.out.2) ?_
    rintro e w19 ⟨rfl, hg19⟩
    have HC19 : Hid (Below w4.heap.size w4 w19) := HC18.out.grown hg19 HC18.out.size (by simp)
    clear g0 g1 g2 g3 hg19
    go_wp2
    go_ret
    exact ⟨rfl, HB.out _ (HB4.out.trans (HC19.out.mono HB4.out.size))⟩
  · have HZ : Hid (szD (ts0.length + tasSz ts0 + jr0.length) 1048576 = -1) := szD_no hz
    rw [HZ.out] at HZ0
    go_enter Tryd.func3, Tryd.ntmps3
    go_wp2_with fail
    refine Calls.mono HZ0.out ?_
    rintro e w1 ⟨rfl, hb1⟩
    go_wp2
    go_ret
    exact ⟨rfl, HB.out _ hb1⟩

/-- What the listed variables give the walk: the table of powers of ten. -/
theorem pow_of_laid {W : World} (h : laidMetH Tryd.prog Rows.fnExactReturnedRow.laid W) : PowIs W := by
  rw [MakeChecks.laidMetH_plain _ _ _ (by kernel_rfl)] at h
  obtain ⟨ps, ⟨g0, t0, cs0, f0, p0, q0, hg0, ht0, hv0, hd0, ⟨g1, t1, cs1, f1, p1, q1, hg1, ht1, hv1, hd1, ⟨g2, t2, cs2, f2, p2, q2, hg2, ht2, hv2, hd2, _, _⟩, _⟩, _⟩, _, _⟩ := h
  obtain ⟨g, hg⟩ := Option.isSome_iff_exists.1 powAt
  obtain rfl := Option.some.inj (hg.symm.trans hg2)
  exact pow_of_cells hg ht2 hv2 hd2

set_option maxRecDepth 100000 in
theorem lifted (os : Os) (started : os.Started) (H : Type) (enc : TypeId × Value → H) :
    ReturnsInHanded {} Tryd.checked os 3 .any (fun w args => (Rows.fnExactReturnedSpec.pre enc Tryd.prog Tryd.f3 [] false w args ∧ laidMetH Tryd.prog Rows.fnExactReturnedRow.laid w) ∧ sizedMet enc Tryd.prog Tryd.f3 (OpenSpec.ofChange Rows.fnExactReturnedSpec) false w args)
      (Rows.fnExactReturnedSpec.post enc Tryd.prog Tryd.f3 false true false false) := by
  refine returnsInHanded_of_change_and (C := Tryd.checked) (X := fun w _ => laidMetH Tryd.prog Rows.fnExactReturnedRow.laid w) (fun _ _ _ hh h => h.of_heap hh) own started (by kernel_rfl) Tryd.func3
    (ChangeSpec.witness_shaped (enc := enc) (C := Tryd.checked) (os := os) (X := fun w _ => laidMetH Tryd.prog Rows.fnExactReturnedRow.laid w) false (World.laidAll Tryd.prog os Rows.fnExactReturnedRow.laid) #[.agg #[.slice none 0 0, .int .i64 0, .int .i64 0, .string ByteArray.empty], .int .i64 0, .int .i64 0, .int .i64 0] 8 (World.laidAll_os _ _ _)
      (World.shaped_of_ZipB (by kernel_rfl) (by kernel_rfl)) (by kernel_rfl) (by kernel_rfl) (by kernel_rfl)
      (by rw [MakeChecks.laidMetH_plain _ _ _ (by kernel_rfl)]; exact laidMet_laidAll _ (by kernel_rfl) (by kernel_rfl))) ?_
  intro W base args ds gs before hval0 hW _ _ hL _
  have hval : ∀ (j : Nat) t v, Tryd.f3.params[j]? = some t → args[j]? = some v → Value.okWide Tryd.prog W .any base t v := hval0
  have hW' := hW
  obtain ⟨p, q, hA0, hV, rfl, hfz, hnd⟩ := hW
  have hA : DataW.TrodAll enc Tryd.prog W 0 (fun _ => true) true Tryd.f3.params.toList args.toList ds p := hA0
  rw [Tryd.params3] at hA hval
  obtain ⟨v0, vs0, d0, ds0, p0, q0, hargs, rfl, rfl, h0, r0⟩ := trodAll_cons hA
  obtain ⟨v1, vs1, d1, ds1, p1, q1, rfl, rfl, rfl, h1, r1⟩ := trodAll_cons r0
  obtain ⟨v2, vs2, d2, ds2, p2, q2, rfl, rfl, rfl, h2, r2⟩ := trodAll_cons r1
  obtain ⟨v3, vs3, d3, ds3, p3, q3, rfl, rfl, rfl, h3, r3⟩ := trodAll_cons r2
  obtain ⟨rfl, rfl, rfl⟩ := trodAll_nil r3
  obtain rfl : args = #[v0, v1, v2, v3] := by cases args; simp_all
  obtain ⟨rfl, rfl⟩ := trodVars_none hV
  have k0 := h0
  have lt0 : ∀ x ∈ p0, x.block < W.heap.size := by obtain ⟨m, hm⟩ := k0; exact DataW.trod_lt m _ _ _ hm
  obtain ⟨a0, len0, cap0, ts0, ep0, nw0, jr0, rfl, w0, wl0, wm0, wi0, we0, wn0, wj0⟩ := open_desk (hval 0 24 v0 rfl rfl) h0
  have k1 := h1
  have lt1 : ∀ x ∈ p1, x.block < W.heap.size := by obtain ⟨m, hm⟩ := k1; exact DataW.trod_lt m _ _ _ hm
  obtain ⟨a1, rfl, _, _, w1⟩ := open_int Tryd.underlying2 (hval 1 2 v1 rfl rfl) h1
  have k2 := h2
  have lt2 : ∀ x ∈ p2, x.block < W.heap.size := by obtain ⟨m, hm⟩ := k2; exact DataW.trod_lt m _ _ _ hm
  obtain ⟨a2, rfl, _, _, w2⟩ := open_int Tryd.underlying2 (hval 2 2 v2 rfl rfl) h2
  have k3 := h3
  have lt3 : ∀ x ∈ p3, x.block < W.heap.size := by obtain ⟨m, hm⟩ := k3; exact DataW.trod_lt m _ _ _ hm
  obtain ⟨a3, rfl, _, _, w3⟩ := open_int Tryd.underlying2 (hval 3 2 v3 rfl rfl) h3
  clear hA0 hval0
  refine (walk a0 len0 cap0 ts0 ep0 nw0 jr0 a1 a2 a3 W w0 wl0 wm0 wi0 we0 wn0 wj0 w1 w2 w3 (pow_of_laid hL)).mono fun e W' ⟨he, bel⟩ => ?_
  subst he
  exact ⟨_, rfl, _, _, _, [], _, [], hW', trodAll_mk1 (shut_bool Tryd.underlying4 _), (trodAll_cons_mk (Below.trod laidOut (by kernel_rfl) (of_decide_eq_true (by kernel_rfl)) k0 bel lt0) (trodAll_cons_mk (Below.trod laidOut (by kernel_rfl) (of_decide_eq_true (by kernel_rfl)) k1 bel lt1) (trodAll_cons_mk (Below.trod laidOut (by kernel_rfl) (of_decide_eq_true (by kernel_rfl)) k2 bel lt2) (trodAll_cons_mk (Below.trod laidOut (by kernel_rfl) (of_decide_eq_true (by kernel_rfl)) k3 bel lt3) trodAll_mk0)))), rfl, bel.frame _, fun h => by cases h⟩

theorem over : Rows.fnExactReturnedRow.holds Tryd.pinned (OpenSpec.ofChange Rows.fnExactReturnedSpec) :=
  OpenClaim.holds_of_wide 3 Tryd.f3 rfl rfl rfl rfl rfl rfl rfl ⟨rfl, rfl, rfl, rfl, rfl⟩ rfl rfl rfl rfl rfl (by kernel_rfl) Tryd.func3 (by kernel_rfl)
    (of_decide_eq_true (by kernel_rfl)) (by unfold Func.isWrapper; first | (rw [if_pos (by decide +kernel)]; kernel_rfl) | (rw [if_neg (by decide +kernel)]; exact ⟨rfl, rfl⟩))
    (fun os started H enc _ => lifted os started H enc)

/-- The tied card. -/
theorem proved : Rows.FnExactReturnedCardSaid :=
  Claim7.holds_tied_plain_at .later [] [.data, .data, .data] true (true, "01898cb1304540518474a9bf7fa9eac1a71e7d49c682f057a2b0b0bfe313235f") false
    over (fun _ h => by cases h) (by kernel_rfl) (fun _ h => by cases h) fnExactReturned_row_tie rfl ⟨rfl, rfl⟩ (by kernel_rfl) rfl
    (fun f fn hf hfn => by
      obtain rfl : f = 3 := Option.some.inj ((show Tryd.prog.funcNamed Rows.fnExactReturnedRow.func = some 3 by kernel_rfl).symm.trans hf) |>.symm
      obtain rfl : fn = Tryd.f3 := (Option.some.inj (Tryd.func3.symm.trans hfn)).symm
      exact ⟨by kernel_rfl, fun j t ht => by
        rw [Tryd.params3] at ht
        have hm : t ∈ [24, 2, 2, 2] := by simpa using Array.mem_of_getElem? ht
        have hall : ([24, 2, 2, 2].all fun u => !Tryd.prog.wantsStandIn u) = true := by kernel_rfl
        exact (show Tryd.prog.wantsStandIn t = false by simpa using List.all_eq_true.1 hall t hm)⟩)
    (by kernel_rfl)
#print axioms proved
end Go.Proofs.YtglhbcbilepomaaDoor.fnExactReturned
