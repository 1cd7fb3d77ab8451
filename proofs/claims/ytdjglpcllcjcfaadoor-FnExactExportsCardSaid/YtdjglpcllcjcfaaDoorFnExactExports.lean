/-
  FnExactExports returns true at every package and leaves it as it was: impl.Exports answers as spec.Exports, in memory of its own.
-/
import Derived.Test.YtdjglpcllcjcfaaDoorRows
import Derived.Test.YtdjglpcllcjcfaaDoorCards
import Derived.Test.YtdjglpcllcjcfaaDoorTie
import Derived.Test.YtdjglpcllcjcfaaDoorP19
import Derived.Test.YtdjglpcllcjcfaaDoorP20
import Derived.Test.YtdjglpcllcjcfaaDoorP21
import Derived.Test.YtdjglpcllcjcfaaDoorP11
import Derived.WalkKit
import Derived.Deep.RegionHeld3
import Derived.ProofKit
import Derived.OpenShut
import Derived.ShutString
import Derived.ChangeOld
import Derived.Below
import Derived.LaidLaws
import Derived.LaidHandle
import Derived.Lay
import Derived.MakeChecks
import Derived.Lib.LaidTab
import Derived.Stop.Joined
import Derived.SevenTiedAt
namespace Go.Proofs.YtdjglpcllcjcfaaDoor.fnExactExports
open Go.ChangeShapes Go.WideShapes Go.ChangeAt Go.RowKit
open Go.ChangeMaps (open_string shut_string)
set_option linter.unusedVariables false

theorem own : ownKnob Tryd.prog.godebug = none := by kernel_rfl
theorem laidOut : laidOutB Tryd.prog = true := by kernel_rfl

/-! The walk: the law returns true and writes nothing that was there. -/
set_option maxHeartbeats 8000000 in
set_option maxRecDepth 1000000 in
theorem walk (nm0 : List UInt8) (ia0 : Option Addr) (il0 ic0 : Nat) (ims0 : List (List UInt8)) (fa0 : Option Addr) (fl0 fc0 : Nat) (fs0 : List Fn) (w : World) (w0 : TextsIn w ia0 il0 ims0) (wf0 : FuncsIn w fa0 fl0 fs0) (wn0 : nm0.length ≤ maxLen) (wl0 : il0 ≤ maxLen) (wm0 : ∀ j, (ims0.getD j []).length ≤ maxLen) (wk0 : fl0 ≤ maxLen) (wq0 : LongF fs0) (wi0 : IntF fs0) (hT : PowIs w) :
    Calls Tryd.prog 5 #[.agg #[.string ⟨nm0.toArray⟩, .slice ia0 il0 ic0, .slice fa0 fl0 fc0]] w fun e w' => e = .returned (.bool true) ∧ Below w.heap.size w w' := by
  have HPW : Hid (PowIs w) := hT
  clear hT
  obtain rfl : ims0.length = il0 := w0.1
  obtain rfl : fs0.length = fl0 := wf0.1
  have HI0 : Hid (TextsIn w ia0 ims0.length ims0) := w0
  have HF0 : Hid (FuncsIn w fa0 fs0.length fs0) := wf0
  obtain ⟨W, hW⟩ : ∃ W, w.alloc (.cells #[.string ⟨nm0.toArray⟩, .slice ia0 ims0.length ic0, .slice fa0 fs0.length fc0] 48) = W := ⟨_, rfl⟩
  obtain ⟨bD, hB⟩ := Box3.new w (.string ⟨nm0.toArray⟩) (.slice ia0 ims0.length ic0) (.slice fa0 fs0.length fc0) 48
  rw [hW] at bD hB
  obtain ⟨D, hD0⟩ : ∃ D, w.heap.size = D := ⟨_, rfl⟩
  rw [hD0] at bD hB
  have hD : Hid (w.heap.size = D) := hD0
  have k0 := bD.c0
  have k1 := bD.c1
  have k2 := bD.c2
  have hDs : D ≤ w.heap.size := Nat.le_of_eq hD0.symm
  have HI : Hid (∀ V, Below D w V → TextsIn V ia0 ims0.length ims0) := fun V h => HI0.out.below (by rw [hD.out]; exact h)
  have HF : Hid (∀ V, Below D w V → FuncsIn V fa0 fs0.length fs0) := fun V h => HF0.out.below (by rw [hD.out]; exact h)
  clear w0 wf0 HI0 HF0
  have hself : ∀ n : Int, (n != n) = false := by simp
  by_cases hz : (pkSz nm0 ims0 fs0 : Int) ≤ 1048576
  rotate_left
  · have HZ : Hid (szM (pkSz nm0 ims0 fs0) 1048576 = -1) := szM_no hz
    go_enter Tryd.func5, Tryd.ntmps5
    go_wp2_with fail
    refine (szPackageC nm0 ia0 ims0.length ic0 fa0 fs0.length fc0 ims0 fs0 1048576 _ (HI.out _ hB) (HF.out _ hB) (by omega) (by omega) wn0 wl0 wm0 wk0 wq0).mono ?_
    rintro e w1 ⟨rfl, hb1⟩
    rw [HZ.out]
    replace hB := hB.trans (hb1.mono (Nat.le_trans hDs hB.size))
    go_wp2
    go_ret
    exact ⟨rfl, by rw [hD.out]; exact hB⟩
  have HZ : Hid (szM (pkSz nm0 ims0 fs0) 1048576 = 1048576 - (pkSz nm0 ims0 fs0 : Int)) := szM_yes hz
  obtain ⟨hil, hfl, hnl, his, hfs⟩ := pk_small (by omega : pkSz nm0 ims0 fs0 ≤ 1048576)
  have hge : (0 : Int) ≤ 1048576 - (pkSz nm0 ims0 fs0 : Int) := by omega
  have HIS : Hid (∀ i, (ims0.getD i []).length ≤ 1048576) := his
  have HFS : Hid (ShortF fs0) := hfs
  have HFS2 : Hid (∀ j, (fs0.getD j fn0).2.2.length ≤ 1048576) := fun j => (hfs j).2.1
  have HIF : Hid (IntF fs0) := wi0
  clear his hfs wi0
  have HS : Hid (_) := fun (a : Option Addr) (c : Nat) (g : Nat) (V : World) (h1 : TextsIn V a ims0.length ims0) (h2 : FuncsIn V (some ⟨g, 0, none⟩) fs0.length fs0) => specExports nm0 a ims0.length c (some ⟨g, 0, none⟩) fs0.length fs0.length ims0 fs0 V h1 h2 hil hfl hnl HIS.out HFS.out
  have HIm : Hid (_) := fun (a : Option Addr) (c : Nat) (g : Nat) (V : World) (hw : Below D w V) (h0 : a = none → c = 0) (h1 : TextsIn V a ims0.length ims0) (h2 : FuncsIn V (some ⟨g, 0, none⟩) fs0.length fs0) => implExports nm0 a ims0.length c (some ⟨g, 0, none⟩) fs0.length fs0.length ims0 fs0 V (HPW.out.below (by rw [hD.out]; exact hw)) ⟨h1, h2, h0, ⟨(fun e => by cases e), Nat.le_refl _⟩, HIF.out, hil, hfl, hnl, HIS.out, HFS.out⟩
  have hRl := exportsV_len (nm0, ims0, fs0)
  obtain ⟨R, hR⟩ : ∃ R, exportsV (nm0, ims0, fs0) = R := ⟨_, rfl⟩
  rw [hR] at HS HIm hRl
  clear hR
  go_enter Tryd.func5, Tryd.ntmps5
  go_wp2_with fail
  refine (szPackageC nm0 ia0 ims0.length ic0 fa0 fs0.length fc0 ims0 fs0 1048576 _ (HI.out _ hB) (HF.out _ hB) (by omega) (by omega) wn0 wl0 wm0 wk0 wq0).mono ?_
  rintro e w1 ⟨rfl, hb1⟩
  rw [HZ.out]
  replace hB := hB.trans (hb1.mono (Nat.le_trans hDs hB.size))
  replace bD := bD.below hb1
  replace k0 := bD.c0
  replace k1 := bD.c1
  replace k2 := bD.c2
  clear hb1
  go_wp2_with fail
  refine (toPackageC nm0 ia0 ims0.length ic0 fa0 fs0.length fc0 ims0 fs0 _ (HI.out _ hB) (HF.out _ hB) hil hfl HFS2.out).mono ?_
  rintro e w2 ⟨a2, c2, g2, xs2, rfl, hxs2, hoi2, hof2, hap2, hb2⟩
  obtain ⟨_, _, e2, hic2, hit2⟩ := own_texts0 hoi2
  injection e2 with e1 _ e3
  subst e1 e3
  have hif2 : FuncsIn w2 (some ⟨g2, 0, none⟩) fs0.length fs0 := by
    obtain ⟨_, _, e4, _, hq⟩ := hof2.in
    have hl : xs2.length = fs0.length := by rw [← hxs2, List.length_map]
    rw [hl] at e4 hq
    injection e4 with e5
    rw [← e5, hxs2] at hq
    exact hq
  replace hB := hB.trans (hb2.mono (Nat.le_trans hDs hB.size))
  replace bD := bD.below hb2
  replace k0 := bD.c0
  replace k1 := bD.c1
  replace k2 := bD.c2
  clear hb2 hoi2 hof2 hap2 hxs2 hic2
  go_wp2_with fail
  refine Calls.mono (HS.out _ _ _ _ hit2 hif2) ?_
  rintro e w3 ⟨v0, rfl, ho0, hb3⟩
  replace hB := hB.trans (hb3.mono (Nat.le_trans hDs hB.size))
  replace bD := bD.below hb3
  replace k0 := bD.c0
  replace k1 := bD.c1
  replace k2 := bD.c2
  clear hb3 hit2 hif2
  obtain ⟨Q, hQ⟩ : ∃ Q, w3.heap.size = Q := ⟨_, rfl⟩
  have h0lt : Hid (∀ k, v0.ownBlock = some k → k < Q) := fun k e => by rw [← hQ]; exact (ho0.lt k e).2
  have hDQ : D < Q := by rw [← hQ]; exact bD.lt
  go_wp2_with fail
  refine (toPackageC nm0 ia0 ims0.length ic0 fa0 fs0.length fc0 ims0 fs0 _ (HI.out _ hB) (HF.out _ hB) hil hfl HFS2.out).mono ?_
  rintro e w4 ⟨a4, c4, g4, xs4, rfl, hxs4, hoi4, hof4, hap4, hb4⟩
  obtain ⟨_, _, e4, hic4, hit4⟩ := own_texts0 hoi4
  injection e4 with e1 _ e3
  subst e1 e3
  have hif4 : FuncsIn w4 (some ⟨g4, 0, none⟩) fs0.length fs0 := by
    obtain ⟨_, _, e4, _, hq⟩ := hof4.in
    have hl : xs4.length = fs0.length := by rw [← hxs4, List.length_map]
    rw [hl] at e4 hq
    injection e4 with e5
    rw [← e5, hxs4] at hq
    exact hq
  replace ho0 := own_below ho0 hb4
  have hQP4 : w3.heap.size ≤ w4.heap.size := hb4.size
  replace hB := hB.trans (hb4.mono (Nat.le_trans hDs hB.size))
  replace bD := bD.below hb4
  replace k0 := bD.c0
  replace k1 := bD.c1
  replace k2 := bD.c2
  clear hb4
  obtain ⟨P, hP0⟩ : ∃ P, w4.heap.size = P := ⟨_, rfl⟩
  obtain ⟨w5, hw5⟩ : ∃ W, w4.alloc (.cells #[.string ⟨nm0.toArray⟩, .slice a4 ims0.length c4, .slice (some ⟨g4, 0, none⟩) fs0.length fs0.length] 33) = W := ⟨_, rfl⟩
  obtain ⟨bP, hb5⟩ := Box3.new w4 (.string ⟨nm0.toArray⟩) (.slice a4 ims0.length c4) (.slice (some ⟨g4, 0, none⟩) fs0.length fs0.length) 33
  rw [hw5] at bP hb5
  rw [hP0] at bP
  have hPB : Hid (∀ k, PkBlocks (.slice a4 ims0.length c4) (.slice (some ⟨g4, 0, none⟩) fs0.length fs0.length) xs4 k → Q ≤ k ∧ k < P) := by
    intro k hk
    rw [← hP0, ← hQ]
    rcases hk with e | e | ⟨x, hx, e⟩
    · have := hoi4.lt k e; omega
    · have := hof4.row.lt k e; omega
    · have := (hof4.trees x hx).lt k e; omega
  have hQP : Q ≤ P := by rw [← hP0, ← hQ]; exact hQP4
  replace hoi4 := own_below hoi4 hb5
  replace hof4 := hof4.below hb5
  replace hit4 := hit4.below hb5
  replace hif4 := hif4.below hb5
  replace ho0 := own_below ho0 hb5
  replace hB := hB.trans (hb5.mono (Nat.le_trans hDs hB.size))
  replace bD := bD.below hb5
  replace k0 := bD.c0
  replace k1 := bD.c1
  replace k2 := bD.c2
  clear hb5
  have p0 := bP.c0
  have p1 := bP.c1
  have p2 := bP.c2
  go_wp2_with fail
  refine Calls.mono (HIm.out _ _ _ _ hB hic4 hit4 hif4) ?_
  rintro e w6 ⟨v9, rfl, ho9, hb6⟩
  have hP6 : P < w5.heap.size := bP.lt
  have h9P : Hid (∀ k, v9.ownBlock = some k → P < k) := fun k e => by have := (ho9.lt k e).1; omega
  replace hoi4 := own_below hoi4 hb6
  replace hof4 := hof4.below hb6
  replace hit4 := hit4.below hb6
  replace hif4 := hif4.below hb6
  replace ho0 := own_below ho0 hb6
  replace hB := hB.trans (hb6.mono (Nat.le_trans hDs hB.size))
  replace bD := bD.below hb6
  replace bP := bP.below hb6
  replace k0 := bD.c0
  replace k1 := bD.c1
  replace k2 := bD.c2
  replace p0 := bP.c0
  replace p1 := bP.c1
  replace p2 := bP.c2
  clear hb6
  have HQ1 : Hid (_) := eqStrV w6 _ _ v9 v0 R (by omega) ho9 ho0
  go_wp2_with fail
  refine Calls.mono HQ1.out ?_
  rintro e w7 ⟨rfl, hg7⟩
  have hb7 : Below w6.heap.size w6 w7 := ⟨hg7.os, hg7.tape, hg7.output, hg7.size, fun k hk => hg7.block k hk (by simp)⟩
  replace hoi4 := own_below hoi4 hb7
  replace hof4 := hof4.below hb7
  replace hit4 := hit4.below hb7
  replace hif4 := hif4.below hb7
  replace ho0 := own_below ho0 hb7
  replace ho9 := own_below ho9 hb7
  replace hB := hB.trans (hb7.mono (Nat.le_trans hDs hB.size))
  replace bD := bD.below hb7
  replace bP := bP.below hb7
  replace k0 := bD.c0
  replace k1 := bD.c1
  replace k2 := bD.c2
  replace p0 := bP.c0
  replace p1 := bP.c1
  replace p2 := bP.c2
  clear hb7 hg7 HQ1
  go_upto_region 10 with fail
  replace hB : Below D w w7.drew := hB.drew
  replace bD := bD.drew
  replace bP := bP.drew
  replace hoi4 : w7.drew.ownsRow w3.heap.size 9 1 (.slice a4 ims0.length c4) ims0.length (strV ims0) := own_none hoi4 (grown_drew _ _)
  replace hof4 : FnsOwn w7.drew w3.heap.size (.slice (some ⟨g4, 0, none⟩) fs0.length fs0.length) xs4 := hof4.none (grown_drew _ _)
  replace ho0 : w7.drew.ownsRow w2.heap.size 9 1 v0 R.length (strV R) := own_none ho0 (grown_drew _ _)
  replace ho9 : w7.drew.ownsRow w5.heap.size 9 1 v9 R.length (strV R) := own_none ho9 (grown_drew _ _)
  replace hit4 : TextsIn w7.drew a4 ims0.length ims0 := hit4
  replace hif4 : FuncsIn w7.drew (some ⟨g4, 0, none⟩) fs0.length fs0 := hif4
  go_region_held3 (fun w' => w'.cell? ⟨D, 0, none⟩ = some (.string ⟨nm0.toArray⟩) ∧ w'.cell? ⟨D, 1, none⟩ = some (.slice ia0 ims0.length ic0) ∧ w'.cell? ⟨D, 2, none⟩ = some (.slice fa0 fs0.length fc0) ∧ w'.cell? ⟨P, 0, none⟩ = some (.string ⟨nm0.toArray⟩) ∧ w'.cell? ⟨P, 1, none⟩ = some (.slice a4 ims0.length c4) ∧ w'.cell? ⟨P, 2, none⟩ = some (.slice (some ⟨g4, 0, none⟩) fs0.length fs0.length)) (go_keep) (first | (go_at_call 18; refine (toPackageC nm0 ia0 ims0.length ic0 fa0 fs0.length fc0 ims0 fs0 _ (HI.out _ hB) (HF.out _ hB) hil hfl HFS2.out).mono ?_; rintro e wn ⟨a7, c7, g7, xs7, rfl, hxs7, hoi7, hof7, _, hbn⟩; obtain ⟨_, _, e7, _, hit7⟩ := own_texts0 hoi7; injection e7 with e1 _ e3; subst e1 e3; have hif7 : FuncsIn wn (some ⟨g7, 0, none⟩) fs0.length fs0 := (by (obtain ⟨_, _, e4, _, hq⟩ := hof7.in); (have hl : xs7.length = fs0.length := by rw [← hxs7, List.length_map]); (rw [hl] at e4 hq); (injection e4 with e5); (rw [← e5, hxs7] at hq); exact hq); replace hoi4 := own_below hoi4 hbn; replace hof4 := hof4.below hbn; replace hit4 := hit4.below hbn; replace hif4 := hif4.below hbn; replace ho0 := own_below ho0 hbn; replace ho9 := own_below ho9 hbn; replace hB := hB.trans (hbn.mono (Nat.le_trans hDs hB.size)); replace bD := bD.below hbn; replace bP := bP.below hbn; replace k0 := bD.c0; replace k1 := bD.c1; replace k2 := bD.c2; replace p0 := bP.c0; replace p1 := bP.c1; replace p2 := bP.c2; clear hbn; clear hoi7 hof7 hxs7) | (go_at_call 21; refine (eqPackageC nm0 a4 a7 (some ⟨g4, 0, none⟩) (some ⟨g7, 0, none⟩) ims0.length c4 c7 fs0.length fs0.length fs0.length ims0 fs0 _ hit4 hit7 hif4 hif7 (by omega) (by omega) (fun j => Nat.le_trans (HFS2.out j) (by omega))).mono ?_; rintro e wn ⟨rfl, hbn⟩; replace hoi4 := own_below hoi4 hbn; replace hof4 := hof4.below hbn; replace hit4 := hit4.below hbn; replace hif4 := hif4.below hbn; replace ho0 := own_below ho0 hbn; replace ho9 := own_below ho9 hbn; replace hB := hB.trans (hbn.mono (Nat.le_trans hDs hB.size)); replace bD := bD.below hbn; replace bP := bP.below hbn; replace k0 := bD.c0; replace k1 := bD.c1; replace k2 := bD.c2; replace p0 := bP.c0; replace p1 := bP.c1; replace p2 := bP.c2; clear hbn))
  obtain ⟨wc, hwc⟩ : ∃ wc, wc = wn := ⟨_, rfl⟩
  subst hwc
  have hfe : fend (1 + ims0.length) xs4 ≤ 30000000 := by
    have h1 := fend_le (1 + ims0.length) xs4
    rw [hxs4] at h1
    have h2 : xs4.length = fs0.length := by rw [← hxs4, List.length_map]
    unfold pkSz at hz
    omega
  have hlf : xs4.length = fs0.length := by rw [← hxs4, List.length_map]
  have hMk := markPackageC nm0 wc w3.heap.size 1 ims0.length (.slice a4 ims0.length c4) (.slice (some ⟨g4, 0, none⟩) fs0.length fs0.length) (strV ims0) xs4 (by omega) (by omega) (by omega) (by omega) hfe (fun x hx => by have := short_mem HFS.out (hxs4 ▸ List.mem_map_of_mem hx : x.1 ∈ fs0); omega) hap4 hoi4 hof4
  have HMk : Hid (_) := hMk
  have hge2 : ¬ ((fend (1 + ims0.length) xs4 : Nat) : Int) < 0 := by omega
  clear hMk hoi4 hof4 hit4 hif4
  go_wp2_with fail
  refine Calls.mono HMk.out ?_
  rintro e wm ⟨rfl, _, _, hwm⟩
  have hnD : ¬ PkBlocks (.slice a4 ims0.length c4) (.slice (some ⟨g4, 0, none⟩) fs0.length fs0.length) xs4 D := fun e => by have := hPB.out D e; omega
  replace hB : Below D w wm := hB.trans (hwm.below (by have := bD.lt; omega) (fun k e => by have := hPB.out k e; omega))
  replace bD := bD.wrote hwm hnD
  replace ho0 := own_wrote ho0 hwm (fun k e h => by have := hPB.out k h; have := h0lt.out k e; omega)
  replace ho9 := own_wrote ho9 hwm (fun k e h => by have := hPB.out k h; have := h9P.out k e; omega)
  clear hwm hnD HMk p0 p1 p2 bP
  replace k0 := bD.c0
  replace k1 := bD.c1
  replace k2 := bD.c2
  have HQ2 : Hid (_) := eqStrV wm _ _ v9 v0 R (by omega) ho9 ho0
  go_wp2_with fail
  refine Calls.mono HQ2.out ?_
  rintro e w10 ⟨rfl, hg10⟩
  have hb10 : Below wm.heap.size wm w10 := ⟨hg10.os, hg10.tape, hg10.output, hg10.size, fun k hk => hg10.block k hk (by simp)⟩
  replace ho0 := own_below ho0 hb10
  replace ho9 := own_below ho9 hb10
  replace hB := hB.trans (hb10.mono (Nat.le_trans hDs hB.size))
  replace bD := bD.below hb10
  replace k0 := bD.c0
  replace k1 := bD.c1
  replace k2 := bD.c2
  clear hb10 hg10 HQ2
  have HMS : Hid (_) := markStrV w10 _ R.length 1 v9 _ (by omega) (by omega) (by omega) ho9
  go_wp2_with fail
  refine Calls.mono HMS.out ?_
  rintro e w11 ⟨rfl, hh11, hg11⟩
  have o9 : ∀ k, v9.ownBlock = some k → P < k := h9P.out
  replace ho0 := ho0.kept hg11 (by
    rcases hv : v0.ownBlock with _ | k
    · exact Or.inl rfl
    · refine Or.inr (fun e => ?_)
      have h1 := h0lt.out k hv
      have h2 := o9 k e.symm
      omega)
  replace hB : Below D w w11 := hB.grown hg11 (by have := bD.lt; omega) (fun k e => by have := o9 k e; omega)
  replace bD := bD.grown hg11 (fun e => by have := o9 D e.symm; omega)
  replace k0 := bD.c0
  replace k1 := bD.c1
  replace k2 := bD.c2
  clear HMS hg11 ho9
  have HH1 : Hid (_) := heldStrV w11 _ R.length 1 v9 (by omega) (by omega) (by omega) hh11
  go_wp2_with fail
  refine Calls.mono HH1.out ?_
  rintro e w12 ⟨rfl, hg12⟩
  have hb12 : Below w11.heap.size w11 w12 := ⟨hg12.os, hg12.tape, hg12.output, hg12.size, fun k hk => hg12.block k hk (by simp)⟩
  replace ho0 := own_below ho0 hb12
  replace hh11 := own_below hh11 hb12
  replace hB := hB.trans (hb12.mono (Nat.le_trans hDs hB.size))
  replace bD := bD.below hb12
  replace k0 := bD.c0
  replace k1 := bD.c1
  replace k2 := bD.c2
  clear hb12 hg12 HH1
  go_wp2_with fail
  refine (toPackageC nm0 ia0 ims0.length ic0 fa0 fs0.length fc0 ims0 fs0 _ (HI.out _ hB) (HF.out _ hB) hil hfl HFS2.out).mono ?_
  rintro e w13 ⟨a13, c13, g13, xs13, rfl, hxs13, hoi13, hof13, hap13, hb13⟩
  obtain ⟨_, _, e13, hic13, hit13⟩ := own_texts0 hoi13
  injection e13 with e1 _ e3
  subst e1 e3
  have hif13 : FuncsIn w13 (some ⟨g13, 0, none⟩) fs0.length fs0 := by
    obtain ⟨_, _, e4, _, hq⟩ := hof13.in
    have hl : xs13.length = fs0.length := by rw [← hxs13, List.length_map]
    rw [hl] at e4 hq
    injection e4 with e5
    rw [← e5, hxs13] at hq
    exact hq
  replace ho0 := own_below ho0 hb13
  replace hh11 := own_below hh11 hb13
  replace hB := hB.trans (hb13.mono (Nat.le_trans hDs hB.size))
  replace bD := bD.below hb13
  replace k0 := bD.c0
  replace k1 := bD.c1
  replace k2 := bD.c2
  clear hb13 hoi13 hof13 hap13 hxs13
  go_wp2_with fail
  refine Calls.mono (HIm.out _ _ _ _ hB hic13 hit13 hif13) ?_
  rintro e w14 ⟨v14, rfl, ho14, hb14⟩
  replace ho0 := own_below ho0 hb14
  replace hh11 := own_below hh11 hb14
  replace hB := hB.trans (hb14.mono (Nat.le_trans hDs hB.size))
  replace bD := bD.below hb14
  replace k0 := bD.c0
  replace k1 := bD.c1
  replace k2 := bD.c2
  clear hb14 hic13 hit13 hif13
  have HQ3 : Hid (_) := eqStrV w14 _ _ v14 v0 R (by omega) ho14 ho0
  go_wp2_with fail
  refine Calls.mono HQ3.out ?_
  rintro e w15 ⟨rfl, hg15⟩
  have hb15 : Below w14.heap.size w14 w15 := ⟨hg15.os, hg15.tape, hg15.output, hg15.size, fun k hk => hg15.block k hk (by simp)⟩
  replace hh11 := own_below hh11 hb15
  replace hB := hB.trans (hb15.mono (Nat.le_trans hDs hB.size))
  replace bD := bD.below hb15
  replace k0 := bD.c0
  replace k1 := bD.c1
  replace k2 := bD.c2
  clear hb15 hg15 HQ3 ho14 ho0
  have HH2 : Hid (_) := heldStrV w15 _ R.length 1 v9 (by omega) (by omega) (by omega) hh11
  go_wp2_with fail
  refine Calls.mono HH2.out ?_
  rintro e w16 ⟨rfl, hg16⟩
  have hb16 : Below w15.heap.size w15 w16 := ⟨hg16.os, hg16.tape, hg16.output, hg16.size, fun k hk => hg16.block k hk (by simp)⟩
  replace hB := hB.trans (hb16.mono (Nat.le_trans hDs hB.size))
  replace bD := bD.below hb16
  replace k0 := bD.c0
  replace k1 := bD.c1
  replace k2 := bD.c2
  clear hb16 hg16 HH2 hh11
  go_wp2
  go_ret
  exact ⟨rfl, by rw [hD.out]; exact hB⟩

/-- What the listed variables give the walk: the table of powers of ten. -/
theorem pow_of_laid {W : World} (h : laidMetH Tryd.prog Rows.fnExactExportsRow.laid W) : PowIs W := by
  rw [MakeChecks.laidMetH_plain _ _ _ (by kernel_rfl)] at h
  obtain ⟨ps, ⟨g0, t0, cs0, f0, p0, q0, hg0, ht0, hv0, hd0, ⟨g1, t1, cs1, f1, p1, q1, hg1, ht1, hv1, hd1, ⟨g2, t2, cs2, f2, p2, q2, hg2, ht2, hv2, hd2, _, _⟩, _⟩, _⟩, _, _⟩ := h
  obtain ⟨g, hg⟩ := Option.isSome_iff_exists.1 powAt
  obtain rfl := Option.some.inj (hg.symm.trans hg2)
  exact pow_of_cells hg ht2 hv2 hd2

set_option maxRecDepth 100000 in
theorem lifted (os : Os) (started : os.Started) (H : Type) (enc : TypeId × Value → H) :
    ReturnsInHanded {} Tryd.checked os 5 .any (fun w args => (Rows.fnExactExportsSpec.pre enc Tryd.prog Tryd.f5 [] false w args ∧ laidMetH Tryd.prog Rows.fnExactExportsRow.laid w) ∧ sizedMet enc Tryd.prog Tryd.f5 (OpenSpec.ofChange Rows.fnExactExportsSpec) false w args)
      (Rows.fnExactExportsSpec.post enc Tryd.prog Tryd.f5 false true false false) := by
  refine returnsInHanded_of_change_and (C := Tryd.checked) (X := fun w _ => laidMetH Tryd.prog Rows.fnExactExportsRow.laid w) (fun _ _ _ hh h => h.of_heap hh) own started (by kernel_rfl) Tryd.func5
    (ChangeSpec.witness_shaped (enc := enc) (C := Tryd.checked) (os := os) (X := fun w _ => laidMetH Tryd.prog Rows.fnExactExportsRow.laid w) false (World.laidAll Tryd.prog os Rows.fnExactExportsRow.laid) #[.agg #[.string ByteArray.empty, .slice none 0 0, .slice none 0 0]] 8 (World.laidAll_os _ _ _)
      (World.shaped_of_ZipB (by kernel_rfl) (by kernel_rfl)) (by kernel_rfl) (by kernel_rfl) (by kernel_rfl)
      (by rw [MakeChecks.laidMetH_plain _ _ _ (by kernel_rfl)]; exact laidMet_laidAll _ (by kernel_rfl) (by kernel_rfl))) ?_
  intro W base args ds gs before hval0 hW _ _ hL _
  have hval : ∀ (j : Nat) t v, Tryd.f5.params[j]? = some t → args[j]? = some v → Value.okWide Tryd.prog W .any base t v := hval0
  have hW' := hW
  obtain ⟨p, q, hA0, hV, rfl, hfz, hnd⟩ := hW
  have hA : DataW.TrodAll enc Tryd.prog W 0 (fun _ => true) true Tryd.f5.params.toList args.toList ds p := hA0
  rw [Tryd.params5] at hA hval
  obtain ⟨v0, vs0, d0, ds0, p0, q0, hargs, rfl, rfl, h0, r0⟩ := trodAll_cons hA
  obtain ⟨rfl, rfl, rfl⟩ := trodAll_nil r0
  obtain rfl : args = #[v0] := by cases args; simp_all
  obtain ⟨rfl, rfl⟩ := trodVars_none hV
  have k0 := h0
  have lt0 : ∀ x ∈ p0, x.block < W.heap.size := by obtain ⟨m, hm⟩ := k0; exact DataW.trod_lt m _ _ _ hm
  obtain ⟨nm0, ia0, il0, ic0, ims0, fa0, fl0, fc0, fs0, rfl, w0, wf0, wn0, wl0, wm0, wk0, wq0, wi0⟩ := open_package (hval 0 48 v0 rfl rfl) h0
  clear hA0 hval0
  refine (walk nm0 ia0 il0 ic0 ims0 fa0 fl0 fc0 fs0 W w0 wf0 wn0 wl0 wm0 wk0 wq0 wi0 (pow_of_laid hL)).mono fun e W' ⟨he, bel⟩ => ?_
  subst he
  exact ⟨_, rfl, _, _, _, [], _, [], hW', trodAll_mk1 (shut_bool Tryd.underlying4 _), (trodAll_cons_mk (Below.trod laidOut (by kernel_rfl) (of_decide_eq_true (by kernel_rfl)) k0 bel lt0) trodAll_mk0), rfl, bel.frame _, fun h => by cases h⟩

theorem over : Rows.fnExactExportsRow.holds Tryd.pinned (OpenSpec.ofChange Rows.fnExactExportsSpec) :=
  OpenClaim.holds_of_wide 5 Tryd.f5 rfl rfl rfl rfl rfl rfl rfl ⟨rfl, rfl, rfl, rfl, rfl⟩ rfl rfl rfl rfl rfl (by kernel_rfl) Tryd.func5 (by kernel_rfl)
    (of_decide_eq_true (by kernel_rfl)) (by unfold Func.isWrapper; first | (rw [if_pos (by decide +kernel)]; kernel_rfl) | (rw [if_neg (by decide +kernel)]; exact ⟨rfl, rfl⟩))
    (fun os started H enc _ => lifted os started H enc)

/-- The tied card. -/
theorem proved : Rows.FnExactExportsCardSaid :=
  Claim7.holds_tied_plain_at .later [] [.data, .data, .data] true (true, "676e4a09d8adbe98ab38bdcc30310c116f5e7bf3233a5543ce4a7fd73bbabad7") true
    over (fun _ h => by cases h) (by kernel_rfl) (fun _ h => by cases h) fnExactExports_row_tie rfl ⟨rfl, rfl⟩ (by kernel_rfl) rfl
    (fun f fn hf hfn => by
      obtain rfl : f = 5 := Option.some.inj ((show Tryd.prog.funcNamed Rows.fnExactExportsRow.func = some 5 by kernel_rfl).symm.trans hf) |>.symm
      obtain rfl : fn = Tryd.f5 := (Option.some.inj (Tryd.func5.symm.trans hfn)).symm
      exact ⟨by kernel_rfl, fun j t ht => by
        rw [Tryd.params5] at ht
        have hm : t ∈ [48] := by simpa using Array.mem_of_getElem? ht
        have hall : ([48].all fun u => !Tryd.prog.wantsStandIn u) = true := by kernel_rfl
        exact (show Tryd.prog.wantsStandIn t = false by simpa using List.all_eq_true.1 hall t hm)⟩)
    (by kernel_rfl)
#print axioms proved
end Go.Proofs.YtdjglpcllcjcfaaDoor.fnExactExports
