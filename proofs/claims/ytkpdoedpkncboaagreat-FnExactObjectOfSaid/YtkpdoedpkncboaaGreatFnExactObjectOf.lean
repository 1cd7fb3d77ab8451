/-
  FnExactObjectOf returns true at every package and leaves it as it was: impl.ObjectOf answers as spec.ObjectOf, in memory of its own.
-/
import Derived.Test.YtkpdoedpkncboaaGreatRows
import Derived.Test.YtkpdoedpkncboaaGreatP1
import Derived.Test.YtkpdoedpkncboaaGreatP2
import Derived.Test.YtkpdoedpkncboaaGreatP3
import Derived.Test.YtkpdoedpkncboaaGreatP4
import Derived.Test.YtkpdoedpkncboaaGreatP5
import Derived.Test.YtkpdoedpkncboaaGreatP6
import Derived.Test.YtkpdoedpkncboaaGreatP7
import Derived.Test.YtkpdoedpkncboaaGreatP8
import Derived.Test.YtkpdoedpkncboaaGreatP9
import Derived.Test.YtkpdoedpkncboaaGreatP10
import Derived.Test.YtkpdoedpkncboaaGreatP11
import Derived.Test.YtkpdoedpkncboaaGreatP12
import Derived.Test.YtkpdoedpkncboaaGreatP13
import Derived.Test.YtkpdoedpkncboaaGreatP14
import Derived.Test.YtkpdoedpkncboaaGreatP15
import Derived.Test.YtkpdoedpkncboaaGreatP16
import Derived.Test.YtkpdoedpkncboaaGreatP17
import Derived.Test.YtkpdoedpkncboaaGreatP18
import Derived.Test.YtkpdoedpkncboaaGreatP19
import Derived.Test.YtkpdoedpkncboaaGreatP20
import Derived.Test.YtkpdoedpkncboaaGreatP21
import Derived.Test.YtkpdoedpkncboaaGreatP22
import Derived.Test.YtkpdoedpkncboaaGreatP23
import Derived.Test.YtkpdoedpkncboaaGreatP24
import Derived.Test.YtkpdoedpkncboaaGreatP25
import Derived.Test.YtkpdoedpkncboaaGreatP26
import Derived.Test.YtkpdoedpkncboaaGreatP27
import Derived.Test.YtkpdoedpkncboaaGreatP28
import Derived.Test.YtkpdoedpkncboaaGreatP29
import Derived.WalkKit
import Derived.ProofKit
import Derived.OpenShut
import Derived.ShutString
import Derived.ChangeOld
import Derived.Below
namespace Go.Proofs.YtkpdoedpkncboaaGreat.fnExactObjectOf
open Go.ChangeShapes Go.WideShapes Go.ChangeAt Go.RowKit
open Go.ChangeMaps (open_string shut_string)
set_option linter.unusedVariables false

theorem own : ownKnob Tryz.prog.godebug = none := by kernel_rfl
theorem laidOut : laidOutB Tryz.prog = true := by kernel_rfl

set_option maxHeartbeats 1000000 in
set_option maxRecDepth 1000000 in
theorem walk (nm0 : List UInt8) (ia0 : Option Addr) (il0 ic0 : Nat) (ims0 : List (List UInt8)) (fa0 : Option Addr) (fl0 fc0 : Nat) (fs0 : List Fn) (w : World) (w0 : zae w ia0 il0 ims0) (wf0 : zav w fa0 fl0 fs0) (wn0 : nm0.length ≤ maxLen) (wl0 : il0 ≤ maxLen) (wm0 : ∀ j, (ims0.getD j []).length ≤ maxLen) (wk0 : fl0 ≤ maxLen) (wq0 : zjQ fs0) (wi0 : IntF fs0) :
 Calls Tryz.prog 3 #[.agg #[.string ⟨nm0.toArray⟩, .slice ia0 il0 ic0, .slice fa0 fl0 fc0]] w fun e w' => e = .returned (.bool true) ∧ Below w.heap.size w w' := by
 obtain rfl : ims0.length = il0 := w0.1
 obtain rfl : fs0.length = fl0 := wf0.1
 have HI0 : Hid (zae w ia0 ims0.length ims0) := w0
 have HF0 : Hid (zav w fa0 fs0.length fs0) := wf0
 obtain ⟨W, hW⟩ : ∃ W, w.alloc (.cells #[.string ⟨nm0.toArray⟩, .slice ia0 ims0.length ic0, .slice fa0 fs0.length fc0] 25) = W := ⟨_, rfl⟩
 obtain ⟨bD, hB⟩ := Box3.new w (.string ⟨nm0.toArray⟩) (.slice ia0 ims0.length ic0) (.slice fa0 fs0.length fc0) 25
 rw [hW] at bD hB
 obtain ⟨D, hD0⟩ : ∃ D, w.heap.size = D := ⟨_, rfl⟩
 rw [hD0] at bD hB
 have hD : Hid (w.heap.size = D) := hD0
 have k0 := bD.c0
 have k1 := bD.c1
 have k2 := bD.c2
 have hDs : D ≤ w.heap.size := Nat.le_of_eq hD0.symm
 have HI : Hid (∀ V, Below D w V → zae V ia0 ims0.length ims0) := fun V h => HI0.out.below (by rw [hD.out]; exact h)
 have HF : Hid (∀ V, Below D w V → zav V fa0 fs0.length fs0) := fun V h => HF0.out.below (by rw [hD.out]; exact h)
 clear w0 wf0 HI0 HF0
 have hself : ∀ n : Int, (n != n) = false := by simp
 by_cases hz : (pkSz nm0 ims0 fs0 : Int) ≤ 1048576
 ·
  have HZ : Hid (szM (pkSz nm0 ims0 fs0) 1048576 = 1048576 - (pkSz nm0 ims0 fs0 : Int)) := zdl hz
  obtain ⟨hil, hfl, hnl, his, hfs⟩ := pk_small (by omega : pkSz nm0 ims0 fs0 ≤ 1048576)
  have hge : (0 : Int) ≤ 1048576 - (pkSz nm0 ims0 fs0 : Int) := by omega
  have HIS : Hid (∀ i, (ims0.getD i []).length ≤ 1048576) := his
  have HFS : Hid (zdk fs0) := hfs
  have HFS2 : Hid (∀ j, (fs0.getD j fn0).2.2.length ≤ 1048576) := fun j => (hfs j).2.1
  have HIF : Hid (IntF fs0) := wi0
  clear his hfs wi0
  have HPk : Hid (∀ (V : World) (lo hi : Nat) (a : Option Addr) (c g : Nat) (xs : List FV), (a = none → c = 0) → Pv11 V lo hi a ims0.length c (some ⟨g, 0, none⟩) fs0.length fs0.length ims0 fs0 xs → PkOk V nm0 a ims0.length c (some ⟨g, 0, none⟩) fs0.length fs0.length ims0 fs0) := fun V lo hi a c g xs h0 h => ⟨h.in.1, h.in.2, h0, ⟨(fun e => by cases e), Nat.le_refl _⟩, HIF.out, hil, hfl, hnl, HIS.out, HFS.out⟩
  have HS : Hid (_) := fun (a : Option Addr) (c g : Nat) (V : World) (h : PkOk V nm0 a ims0.length c (some ⟨g, 0, none⟩) fs0.length fs0.length ims0 fs0) => zgK nm0 a ims0.length c (some ⟨g, 0, none⟩) fs0.length fs0.length ims0 fs0 V h
  have HIm : Hid (_) := fun (a : Option Addr) (c g : Nat) (V : World) (h : PkOk V nm0 a ims0.length c (some ⟨g, 0, none⟩) fs0.length fs0.length ims0 fs0) => zha nm0 a ims0.length c (some ⟨g, 0, none⟩) fs0.length fs0.length ims0 fs0 V h
  obtain ⟨hq6, hq8, hq60⟩ := zhK (nm0, ims0, fs0)
  obtain ⟨X, hX⟩ : ∃ X, zbQ (zao (nm0, ims0, fs0)) = X := ⟨_, rfl⟩
  rw [hX] at HS HIm hq6 hq8 hq60
  obtain ⟨xn, xi, xf⟩ := X
  simp only at HS HIm hq6 hq8 hq60
  have H60 : Hid (∀ f ∈ xf, f.2.2.length ≤ 200) := hq60
  have H60j : Hid (∀ j, (xf.getD j rt0).2.2.length ≤ 4194304) := fun j => by
   by_cases hj : j < xf.length
   ·
    have hg : xf.getD j rt0 = xf[j] := by simp [List.getD, hj]
    rw [hg]; have := hq60 _ (List.getElem_mem hj); omega
   ·
    have hg : xf.getD j rt0 = rt0 := by simp [List.getD, hj]
    rw [hg]; simp [rt0]
  obtain ⟨nI, hnI⟩ : ∃ n, xi.length = n := ⟨_, rfl⟩
  obtain ⟨nF, hnF⟩ : ∃ n, xf.length = n := ⟨_, rfl⟩
  have HnI : Hid (xi.length = nI) := hnI
  have HnF : Hid (xf.length = nF) := hnF
  rw [hnI] at hq6
  rw [hnF] at hq8
  clear hX hq60 hnI hnF
  go_enter Tryz.func3, Tryz.ntmps3
  go_wp2_with fail
  refine (zfF nm0 ia0 ims0.length ic0 fa0 fs0.length fc0 ims0 fs0 1048576 _ (HI.out _ hB) (HF.out _ hB) (by omega) (by omega) wn0 wl0 wm0 wk0 wq0).mono ?_
  rintro e w1 ⟨rfl, hb1⟩
  rw [HZ.out]
  replace hB := hB.trans (hb1.mono (Nat.le_trans hDs hB.size))
  replace bD := bD.below hb1
  replace k0 := bD.c0
  replace k1 := bD.c1
  replace k2 := bD.c2
  clear hb1
  go_wp2_with fail
  refine (zcY nm0 ia0 ims0.length ic0 fa0 fs0.length fc0 ims0 fs0 _ (HI.out _ hB) (HF.out _ hB) hil hfl HFS2.out).mono ?_
  rintro e w2 ⟨a2, c2, g2, xs2, rfl, hxs2, hoi2, hof2, hap2, hb2⟩
  obtain ⟨ai2, ci2, af2, cf2, e2, e3, _, hic2, pvT⟩ := Pv11.new hoi2 hof2 hxs2
  injection e2 with e21 _ e23
  injection e3 with e31 _ e33
  subst e21 e23 e31 e33
  replace hB := hB.trans (hb2.mono (Nat.le_trans hDs hB.size))
  replace bD := bD.below hb2
  replace k0 := bD.c0
  replace k1 := bD.c1
  replace k2 := bD.c2
  clear hb2 hoi2 hof2 hap2
  go_wp2_with fail
  refine Calls.mono (HS.out _ _ _ _ (HPk.out _ _ _ _ _ _ _ hic2 pvT)) ?_
  rintro e w3 ⟨vi6, vf6, xs6, rfl, hxs6, hoi6, hof6, hb3⟩
  obtain ⟨ai6, ci6, af6, cf6, rfl, rfl, _, hic6, pvW⟩ := Pv15.new hoi6 hof6 hxs6
  rw [HnI.out, HnF.out] at pvW
  rw [HnI.out, HnF.out]
  replace hB := hB.trans (hb3.mono (Nat.le_trans hDs hB.size))
  replace bD := bD.below hb3
  replace k0 := bD.c0
  replace k1 := bD.c1
  replace k2 := bD.c2
  clear hb3 pvT hoi6 hof6 hxs6 hic6
  obtain ⟨F, hF0⟩ : ∃ F, w3.heap.size = F := ⟨_, rfl⟩
  obtain ⟨w4, hw4⟩ : ∃ W, w3.alloc (.cells #[.string ⟨xn.toArray⟩, .slice ai6 nI ci6, .slice af6 nF cf6] 29) = W := ⟨_, rfl⟩
  obtain ⟨bF, hb4⟩ := Box3.new w3 (.string ⟨xn.toArray⟩) (.slice ai6 nI ci6) (.slice af6 nF cf6) 29
  rw [hw4] at bF hb4
  rw [hF0] at bF
  have hDF : D < F := by rw [← hF0]; exact bD.lt
  rw [hF0] at pvW
  replace pvW := pvW.below hb4
  replace hB := hB.trans (hb4.mono (Nat.le_trans hDs hB.size))
  replace bD := bD.below hb4
  replace k0 := bD.c0
  replace k1 := bD.c1
  replace k2 := bD.c2
  clear hb4
  have f0 := bF.c0
  have f1 := bF.c1
  have f2 := bF.c2
  go_wp2_with fail
  refine (zcY nm0 ia0 ims0.length ic0 fa0 fs0.length fc0 ims0 fs0 _ (HI.out _ hB) (HF.out _ hB) hil hfl HFS2.out).mono ?_
  rintro e w5 ⟨a5, c5, g5, xs5, rfl, hxs5, hoi5, hof5, hap5, hb5⟩
  obtain ⟨ai5, ci5, af5, cf5, e2, e3, _, hic5, pvX⟩ := Pv11.new hoi5 hof5 hxs5
  injection e2 with e21 _ e23
  injection e3 with e31 _ e33
  subst e21 e23 e31 e33
  have hF5 : F < w4.heap.size := bF.lt
  replace hB := hB.trans (hb5.mono (Nat.le_trans hDs hB.size))
  replace bD := bD.below hb5
  replace bF := bF.below hb5
  replace pvW := pvW.below hb5
  replace k0 := bD.c0
  replace k1 := bD.c1
  replace k2 := bD.c2
  replace f0 := bF.c0
  replace f1 := bF.c1
  replace f2 := bF.c2
  clear hb5 hoi5 hof5
  obtain ⟨P, hP0⟩ : ∃ P, w5.heap.size = P := ⟨_, rfl⟩
  obtain ⟨w6, hw6⟩ : ∃ W, w5.alloc (.cells #[.string ⟨nm0.toArray⟩, .slice a5 ims0.length c5, .slice (some ⟨g5, 0, none⟩) fs0.length fs0.length] 33) = W := ⟨_, rfl⟩
  obtain ⟨bP, hb6⟩ := Box3.new w5 (.string ⟨nm0.toArray⟩) (.slice a5 ims0.length c5) (.slice (some ⟨g5, 0, none⟩) fs0.length fs0.length) 33
  rw [hw6] at bP hb6
  rw [hP0] at bP
  have hFP : F < P := by rw [← hP0]; exact bF.lt
  rw [hP0] at pvX
  replace pvX := pvX.below hb6
  replace hB := hB.trans (hb6.mono (Nat.le_trans hDs hB.size))
  replace bD := bD.below hb6
  replace bF := bF.below hb6
  replace pvW := pvW.below hb6
  replace k0 := bD.c0
  replace k1 := bD.c1
  replace k2 := bD.c2
  replace f0 := bF.c0
  replace f1 := bF.c1
  replace f2 := bF.c2
  clear hb6
  have p0 := bP.c0
  have p1 := bP.c1
  have p2 := bP.c2
  go_wp2_with fail
  refine Calls.mono (HIm.out _ _ _ _ (HPk.out _ _ _ _ _ _ _ hic5 pvX)) ?_
  rintro e w7 ⟨vi9, vf9, xs9, rfl, hxs9, hoi9, hof9, hap9, hb7⟩
  obtain ⟨ai9, ci9, af9, cf9, rfl, rfl, _, hic9, pvG⟩ := Pv15.new hoi9 hof9 hxs9
  rw [HnI.out, HnF.out] at pvG
  rw [HnI.out, HnF.out]
  have hP7 : P < w6.heap.size := bP.lt
  replace hB := hB.trans (hb7.mono (Nat.le_trans hDs hB.size))
  replace bD := bD.below hb7
  replace bF := bF.below hb7
  replace bP := bP.below hb7
  replace pvW := pvW.below hb7
  replace pvX := pvX.below hb7
  replace k0 := bD.c0
  replace k1 := bD.c1
  replace k2 := bD.c2
  replace f0 := bF.c0
  replace f1 := bF.c1
  replace f2 := bF.c2
  replace p0 := bP.c0
  replace p1 := bP.c1
  replace p2 := bP.c2
  clear hb7 hoi9 hof9 hic9
  obtain ⟨G, hG0⟩ : ∃ G, w7.heap.size = G := ⟨_, rfl⟩
  obtain ⟨w8, hw8⟩ : ∃ W, w7.alloc (.cells #[.string ⟨xn.toArray⟩, .slice ai9 nI ci9, .slice af9 nF cf9] 29) = W := ⟨_, rfl⟩
  obtain ⟨bG, hb8⟩ := Box3.new w7 (.string ⟨xn.toArray⟩) (.slice ai9 nI ci9) (.slice af9 nF cf9) 29
  rw [hw8] at bG hb8
  rw [hG0] at bG
  have hPG : P < G := by rw [← hG0]; exact bP.lt
  rw [hG0] at pvG
  replace pvG := pvG.below hb8
  replace hB := hB.trans (hb8.mono (Nat.le_trans hDs hB.size))
  replace bD := bD.below hb8
  replace bF := bF.below hb8
  replace bP := bP.below hb8
  replace pvW := pvW.below hb8
  replace pvX := pvX.below hb8
  replace k0 := bD.c0
  replace k1 := bD.c1
  replace k2 := bD.c2
  replace f0 := bF.c0
  replace f1 := bF.c1
  replace f2 := bF.c2
  replace p0 := bP.c0
  replace p1 := bP.c1
  replace p2 := bP.c2
  clear hb8
  have g0 := bG.c0
  have g1 := bG.c1
  have g2 := bG.c2
  go_wp2_with fail
  refine Calls.mono (zeW xn _ _ _ _ nI _ _ nF _ _ xi xf _ pvG.in.1 pvW.in.1 pvG.in.2 pvW.in.2 (by omega) (by omega) H60j.out) ?_
  rintro e w9 ⟨rfl, hb9⟩
  replace hB := hB.trans (hb9.mono (Nat.le_trans hDs hB.size))
  replace bD := bD.below hb9
  replace bF := bF.below hb9
  replace bP := bP.below hb9
  replace bG := bG.below hb9
  replace pvW := pvW.below hb9
  replace pvX := pvX.below hb9
  replace pvG := pvG.below hb9
  replace k0 := bD.c0
  replace k1 := bD.c1
  replace k2 := bD.c2
  replace f0 := bF.c0
  replace f1 := bF.c1
  replace f2 := bF.c2
  replace p0 := bP.c0
  replace p1 := bP.c1
  replace p2 := bP.c2
  replace g0 := bG.c0
  replace g1 := bG.c1
  replace g2 := bG.c2
  clear hb9
  go_upto_region 10 with fail
  go_cut [31] from 27 (fun v wx => v = .bool false ∧ Hid (Below D w wx) ∧ Hid (Box3 wx D (.string ⟨nm0.toArray⟩) (.slice ia0 ims0.length ic0) (.slice fa0 fs0.length fc0)) ∧ Hid (Box3 wx F (.string ⟨xn.toArray⟩) (.slice ai6 nI ci6) (.slice af6 nF cf6)) ∧ Hid (Box3 wx P (.string ⟨nm0.toArray⟩) (.slice a5 ims0.length c5) (.slice (some ⟨g5, 0, none⟩) fs0.length fs0.length)) ∧ Hid (Box3 wx G (.string ⟨xn.toArray⟩) (.slice ai9 nI ci9) (.slice af9 nF cf9)) ∧ Hid (Pv15 wx w2.heap.size F ai6 nI ci6 af6 nF cf6 xi xf xs6) ∧ Hid (Pv11 wx w4.heap.size P a5 ims0.length c5 (some ⟨g5, 0, none⟩) fs0.length fs0.length ims0 fs0 xs5) ∧ Hid (Pv15 wx w6.heap.size G ai9 nI ci9 af9 nF cf9 xi xf xs9))
  case first =>
   replace hB : Below D w w9.drew := hB.drew
   replace bD := bD.drew
   replace bF := bF.drew
   replace bP := bP.drew
   replace bG := bG.drew
   replace pvW := pvW.drew
   replace pvX := pvX.drew
   replace pvG := pvG.drew
   go_region_held3 (fun w' => w'.cell? ⟨D, 0, none⟩ = some (.string ⟨nm0.toArray⟩) ∧ w'.cell? ⟨D, 1, none⟩ = some (.slice ia0 ims0.length ic0) ∧ w'.cell? ⟨D, 2, none⟩ = some (.slice fa0 fs0.length fc0) ∧ w'.cell? ⟨P, 0, none⟩ = some (.string ⟨nm0.toArray⟩) ∧ w'.cell? ⟨P, 1, none⟩ = some (.slice a5 ims0.length c5) ∧ w'.cell? ⟨P, 2, none⟩ = some (.slice (some ⟨g5, 0, none⟩) fs0.length fs0.length)) (go_keep) (first
    | (go_at_call 6; refine (zcY nm0 ia0 ims0.length ic0 fa0 fs0.length fc0 ims0 fs0 _ (HI.out _ hB) (HF.out _ hB) hil hfl HFS2.out).mono ?_; rintro e wn ⟨a7, c7, g7, xs7, rfl, hxs7, hoi7, hof7, _, hbn⟩; obtain ⟨_, _, _, _, e2, e3, _, _, pv7⟩ := Pv11.new hoi7 hof7 hxs7; injection e2 with e21 _ e23; injection e3 with e31 _ e33; subst e21 e23 e31 e33; replace hB := hB.trans (hbn.mono (Nat.le_trans hDs hB.size)); replace bD := bD.below hbn; replace bF := bF.below hbn; replace bP := bP.below hbn; replace bG := bG.below hbn; replace pvW := pvW.below hbn; replace pvX := pvX.below hbn; replace pvG := pvG.below hbn; replace k0 := bD.c0; replace k1 := bD.c1; replace k2 := bD.c2; replace f0 := bF.c0; replace f1 := bF.c1; replace f2 := bF.c2; replace p0 := bP.c0; replace p1 := bP.c1; replace p2 := bP.c2; replace g0 := bG.c0; replace g1 := bG.c1; replace g2 := bG.c2; clear hbn)
    | (go_at_call 9; refine (zjL nm0 a5 a7 (some ⟨g5, 0, none⟩) (some ⟨g7, 0, none⟩) ims0.length c5 c7 fs0.length fs0.length fs0.length ims0 fs0 _ pvX.in.1 pv7.in.1 pvX.in.2 pv7.in.2 (by omega) (by omega) (fun j => Nat.le_trans (HFS2.out j) (by omega))).mono ?_; rintro e wn ⟨rfl, hbn⟩; replace hB := hB.trans (hbn.mono (Nat.le_trans hDs hB.size)); replace bD := bD.below hbn; replace bF := bF.below hbn; replace bP := bP.below hbn; replace bG := bG.below hbn; replace pvW := pvW.below hbn; replace pvX := pvX.below hbn; replace pvG := pvG.below hbn; replace k0 := bD.c0; replace k1 := bD.c1; replace k2 := bD.c2; replace f0 := bF.c0; replace f1 := bF.c1; replace f2 := bF.c2; replace p0 := bP.c0; replace p1 := bP.c1; replace p2 := bP.c2; replace g0 := bG.c0; replace g1 := bG.c1; replace g2 := bG.c2; clear hbn))
   all_goals go_wp2_with fail
   all_goals go_meet
   all_goals exact ⟨rfl, hB, bD, bF, bP, bG, pvW, pvX, pvG⟩
  case rest =>
   obtain ⟨rfl, HBx, HbD, HbF, HbP, HbG, HpW, HpX, HpG⟩ := hcut
   replace hB := HBx.out
   replace bD := HbD.out
   replace bF := HbF.out
   replace bP := HbP.out
   replace bG := HbG.out
   replace pvW := HpW.out
   replace pvX := HpX.out
   replace pvG := HpG.out
   clear HBx HbD HbF HbP HbG HpW HpX HpG
   replace k0 := bD.c0
   replace k1 := bD.c1
   replace k2 := bD.c2
   replace f0 := bF.c0
   replace f1 := bF.c1
   replace f2 := bF.c2
   replace p0 := bP.c0
   replace p1 := bP.c1
   replace p2 := bP.c2
   replace g0 := bG.c0
   replace g1 := bG.c1
   replace g2 := bG.c2
   have hfe : fend (1 + ims0.length) xs5 ≤ 30000000 := by
    have h1 := fend_le (1 + ims0.length) xs5
    rw [hxs5] at h1
    have h2 : xs5.length = fs0.length := by rw [← hxs5, List.length_map]
    unfold pkSz at hz
    omega
   have hlf : xs5.length = fs0.length := by rw [← hxs5, List.length_map]
   have HPB : Hid (∀ k, zdE (.slice a5 ims0.length c5) (.slice (some ⟨g5, 0, none⟩) fs0.length fs0.length) xs5 k → F < k ∧ k < P) := fun k e => by have := pvX.at_ k e; omega
   have HGB : Hid (∀ k, zdF (.slice ai9 nI ci9) (.slice af9 nF cf9) xs9 k → P < k ∧ k < G) := fun k e => by have := pvG.at_ k e; omega
   have HMk : Hid (_) := zgX nm0 wc w4.heap.size 1 ims0.length (.slice a5 ims0.length c5) (.slice (some ⟨g5, 0, none⟩) fs0.length fs0.length) (strV ims0) xs5 (by omega) (by omega) (by omega) (by omega) hfe (fun x hx => by have := zkn HFS.out (hxs5 ▸ List.mem_map_of_mem hx : x.1 ∈ fs0); omega) hap5 pvX.oi pvX.of
   have hge2 : ¬ ((fend (1 + ims0.length) xs5 : Nat) : Int) < 0 := by omega
   clear pvX
   go_wp2_with fail
   refine Calls.mono HMk.out ?_
   rintro e wm ⟨rfl, _, _, hwm⟩
   have hwmR : zaQ wc wm _ := ⟨hwm.os, hwm.tape, hwm.output, hwm.size, hwm.block⟩
   replace hB : Below D w wm := hB.trans (hwm.below (by have := bD.lt; omega) (fun k e => by have := HPB.out k e; omega))
   replace bD := bD.wrote hwm (fun e => by have := HPB.out D e; omega)
   replace bF := bF.wrote hwm (fun e => by have := HPB.out F e; omega)
   replace bG := bG.wrote hwm (fun e => by have := HPB.out G e; omega)
   replace pvW := pvW.wrote hwmR (fun k e => by have := HPB.out k e; omega)
   replace pvG := pvG.wrote hwmR (fun k e => by have := HPB.out k e; omega)
   clear hwm hwmR HMk bP p0 p1 p2
   replace k0 := bD.c0
   replace k1 := bD.c1
   replace k2 := bD.c2
   replace f0 := bF.c0
   replace f1 := bF.c1
   replace f2 := bF.c2
   replace g0 := bG.c0
   replace g1 := bG.c1
   replace g2 := bG.c2
   go_wp2_with fail
   refine Calls.mono (zeW xn _ _ _ _ nI _ _ nF _ _ xi xf _ pvG.in.1 pvW.in.1 pvG.in.2 pvW.in.2 (by omega) (by omega) H60j.out) ?_
   rintro e wq ⟨rfl, hbq⟩
   replace hB := hB.trans (hbq.mono (Nat.le_trans hDs hB.size))
   replace bD := bD.below hbq
   replace bF := bF.below hbq
   replace bG := bG.below hbq
   replace pvW := pvW.below hbq
   replace pvG := pvG.below hbq
   replace k0 := bD.c0
   replace k1 := bD.c1
   replace k2 := bD.c2
   replace f0 := bF.c0
   replace f1 := bF.c1
   replace f2 := bF.c2
   replace g0 := bG.c0
   replace g1 := bG.c1
   replace g2 := bG.c2
   clear hbq
   have hlg : xs9.length = nF := pvG.len
   have h609 : Hid (∀ x ∈ xs9, x.1.2.2.length ≤ 200) := fun x hx => H60.out _ (hxs9 ▸ List.mem_map_of_mem hx : x.1 ∈ xf)
   have hfg : rend (1 + nI) xs9 ≤ 30000000 := by have := zja (1 + nI) xs9 h609.out; omega
   have HMg : Hid (_) := zhO xn wq w6.heap.size 1 nI (.slice ai9 nI ci9) (.slice af9 nF cf9) (strV xi) xs9 (by omega) (by omega) (by omega) (by omega) hfg (fun x hx => by have := h609.out x hx; omega) hap9 pvG.oi pvG.of
   have hge3 : ¬ ((rend (1 + nI) xs9 : Nat) : Int) < 0 := by omega
   clear pvG
   go_wp2_with fail
   refine Calls.mono HMg.out ?_
   rintro e wk ⟨rfl, hoik, hofk, hwk⟩
   have hwkP : zb4 wq wk _ := ⟨hwk.os, hwk.tape, hwk.output, hwk.size, hwk.block⟩
   replace hB : Below D w wk := hB.trans (hwk.below (by have := bD.lt; omega) (fun k e => by have := HGB.out k e; omega))
   replace bD := bD.wrote hwkP (fun e => by have := HGB.out D e; omega)
   replace bF := bF.wrote hwkP (fun e => by have := HGB.out F e; omega)
   replace bG := bG.wrote hwkP (fun e => by have := HGB.out G e; omega)
   replace pvW := pvW.wrote hwk (fun k e => by have := HGB.out k e; omega)
   clear hwk hwkP HMg
   replace k0 := bD.c0
   replace k1 := bD.c1
   replace k2 := bD.c2
   replace f0 := bF.c0
   replace f1 := bF.c1
   replace f2 := bF.c2
   replace g0 := bG.c0
   replace g1 := bG.c1
   replace g2 := bG.c2
   go_wp2_with fail
   refine Calls.mono (zeO xn _ _ 1 nI _ _ xs9 (by omega) (by omega) (by omega) (by omega) hfg (fun x hx => by have := h609.out x hx; omega) hoik hofk) ?_
   rintro e wh ⟨rfl, hgh⟩
   replace hB : Below D w wh := hB.grown hgh (by have := bD.lt; omega) (by simp)
   replace bD := bD.grown hgh (by simp)
   replace bF := bF.grown hgh (by simp)
   replace bG := bG.grown hgh (by simp)
   replace pvW := pvW.none hgh
   replace hoik := zaN hoik hgh
   replace hofk := hofk.none hgh
   clear hgh
   replace k0 := bD.c0
   replace k1 := bD.c1
   replace k2 := bD.c2
   replace f0 := bF.c0
   replace f1 := bF.c1
   replace f2 := bF.c2
   replace g0 := bG.c0
   replace g1 := bG.c1
   replace g2 := bG.c2
   go_wp2_with fail
   refine (zcY nm0 ia0 ims0.length ic0 fa0 fs0.length fc0 ims0 fs0 _ (HI.out _ hB) (HF.out _ hB) hil hfl HFS2.out).mono ?_
   rintro e wt ⟨a11, c11, g11, xs11, rfl, hxs11, hoi11, hof11, hap11, hb11⟩
   obtain ⟨_, _, _, _, e2, e3, _, hic11, pvT⟩ := Pv11.new hoi11 hof11 hxs11
   injection e2 with e21 _ e23
   injection e3 with e31 _ e33
   subst e21 e23 e31 e33
   replace hoik := za2 hoik hb11
   replace hofk := hofk.below hb11
   replace hB := hB.trans (hb11.mono (Nat.le_trans hDs hB.size))
   replace bD := bD.below hb11
   replace bF := bF.below hb11
   replace bG := bG.below hb11
   replace pvW := pvW.below hb11
   replace k0 := bD.c0
   replace k1 := bD.c1
   replace k2 := bD.c2
   replace f0 := bF.c0
   replace f1 := bF.c1
   replace f2 := bF.c2
   replace g0 := bG.c0
   replace g1 := bG.c1
   replace g2 := bG.c2
   clear hb11 hoi11 hof11 hap11
   go_wp2_with fail
   refine Calls.mono (HIm.out _ _ _ _ (HPk.out _ _ _ _ _ _ _ hic11 pvT)) ?_
   rintro e wu ⟨vi12, vf12, xs12, rfl, hxs12, hoi12, hof12, _, hb12⟩
   obtain ⟨ai12, ci12, af12, cf12, rfl, rfl, _, hic12, pvH⟩ := Pv15.new hoi12 hof12 hxs12
   rw [HnI.out, HnF.out] at pvH
   rw [HnI.out, HnF.out]
   replace hoik := za2 hoik hb12
   replace hofk := hofk.below hb12
   replace hB := hB.trans (hb12.mono (Nat.le_trans hDs hB.size))
   replace bD := bD.below hb12
   replace bF := bF.below hb12
   replace bG := bG.below hb12
   replace pvW := pvW.below hb12
   replace k0 := bD.c0
   replace k1 := bD.c1
   replace k2 := bD.c2
   replace f0 := bF.c0
   replace f1 := bF.c1
   replace f2 := bF.c2
   replace g0 := bG.c0
   replace g1 := bG.c1
   replace g2 := bG.c2
   clear hb12 pvT hoi12 hof12 hxs12 hic12 hic11 hxs11
   obtain ⟨H, hH0⟩ : ∃ H, wu.heap.size = H := ⟨_, rfl⟩
   obtain ⟨wv, hwv⟩ : ∃ W, wu.alloc (.cells #[.string ⟨xn.toArray⟩, .slice ai12 nI ci12, .slice af12 nF cf12] 29) = W := ⟨_, rfl⟩
   obtain ⟨bH, hb13⟩ := Box3.new wu (.string ⟨xn.toArray⟩) (.slice ai12 nI ci12) (.slice af12 nF cf12) 29
   rw [hwv] at bH hb13
   rw [hH0] at bH
   replace pvH := pvH.below hb13
   replace hoik := za2 hoik hb13
   replace hofk := hofk.below hb13
   replace hB := hB.trans (hb13.mono (Nat.le_trans hDs hB.size))
   replace bD := bD.below hb13
   replace bF := bF.below hb13
   replace bG := bG.below hb13
   replace pvW := pvW.below hb13
   replace k0 := bD.c0
   replace k1 := bD.c1
   replace k2 := bD.c2
   replace f0 := bF.c0
   replace f1 := bF.c1
   replace f2 := bF.c2
   replace g0 := bG.c0
   replace g1 := bG.c1
   replace g2 := bG.c2
   clear hb13
   have h0 := bH.c0
   have h1 := bH.c1
   have h2 := bH.c2
   go_wp2_with fail
   refine Calls.mono (zeW xn _ _ _ _ nI _ _ nF _ _ xi xf _ pvH.in.1 pvW.in.1 pvH.in.2 pvW.in.2 (by omega) (by omega) H60j.out) ?_
   rintro e wx ⟨rfl, hbx⟩
   replace hB := hB.trans (hbx.mono (Nat.le_trans hDs hB.size))
   replace bD := bD.below hbx
   replace bF := bF.below hbx
   replace bG := bG.below hbx
   replace pvW := pvW.below hbx
   replace k0 := bD.c0
   replace k1 := bD.c1
   replace k2 := bD.c2
   replace f0 := bF.c0
   replace f1 := bF.c1
   replace f2 := bF.c2
   replace g0 := bG.c0
   replace g1 := bG.c1
   replace g2 := bG.c2
   replace hoik := za2 hoik hbx
   replace hofk := hofk.below hbx
   clear hbx bH h0 h1 h2
   go_wp2_with fail
   refine Calls.mono (zeO xn _ _ 1 nI _ _ xs9 (by omega) (by omega) (by omega) (by omega) hfg (fun x hx => by have := h609.out x hx; omega) hoik hofk) ?_
   rintro e wy ⟨rfl, hgy⟩
   replace hB : Below D w wy := hB.grown hgy (by have := bD.lt; omega) (by simp)
   go_wp2
   go_ret
   exact ⟨rfl, by rw [hD.out]; exact hB⟩
 ·
  have HZ : Hid (szM (pkSz nm0 ims0 fs0) 1048576 = -1) := zdi hz
  go_enter Tryz.func3, Tryz.ntmps3
  go_wp2_with fail
  refine (zfF nm0 ia0 ims0.length ic0 fa0 fs0.length fc0 ims0 fs0 1048576 _ (HI.out _ hB) (HF.out _ hB) (by omega) (by omega) wn0 wl0 wm0 wk0 wq0).mono ?_
  rintro e w1 ⟨rfl, hb1⟩
  rw [HZ.out]
  replace hB := hB.trans (hb1.mono (Nat.le_trans hDs hB.size))
  go_wp2
  go_ret
  exact ⟨rfl, by rw [hD.out]; exact hB⟩

set_option maxRecDepth 100000 in
theorem lifted (os : Os) (started : os.Started) (H : Type) (enc : TypeId × Value → H) :
 ReturnsInHanded {} Tryz.checked os 3 .any (Rows.fnExactObjectOfSpec.pre6 enc Tryz.prog Tryz.f3 Rows.fnExactObjectOfRow.domain false) (Rows.fnExactObjectOfSpec.post enc Tryz.prog Tryz.f3 false true false false) := by
 refine returnsInHanded_of_change (C := Tryz.checked) own started (by kernel_rfl) Tryz.func3
  (ChangeSpec.witness6 (enc := enc) (C := Tryz.checked) false ⟨#[], #[.agg #[.string ByteArray.empty, .slice none 0 0, .slice none 0 0]], []⟩ 8 (by kernel_rfl) (by kernel_rfl) (by kernel_rfl) (by kernel_rfl)) ?_
 intro W base args ds gs before hval0 hW hcnd _
 have hval : ∀ (j : Nat) t v, Tryz.f3.params[j]? = some t → args[j]? = some v → Value.okWide Tryz.prog W .any base t v := hval0
 have hW' := hW
 obtain ⟨p, q, hA0, hV, rfl, hfz, hnd⟩ := hW
 have hA : DataW.TrodAll enc Tryz.prog W 0 (fun _ => true) true Tryz.f3.params.toList args.toList ds p := hA0
 rw [Tryz.params3] at hA hval
 obtain ⟨v0, vs0, d0, ds0, p0, q0, hargs, rfl, rfl, h0, r0⟩ := trodAll_cons hA
 obtain ⟨rfl, rfl, rfl⟩ := trodAll_nil r0
 obtain rfl : args = #[v0] := by cases args; simp_all
 obtain ⟨rfl, rfl⟩ := trodVars_none hV
 have k0 := h0
 have lt0 : ∀ x ∈ p0, x.block < W.heap.size := by obtain ⟨m, hm⟩ := k0; exact DataW.trod_lt m _ _ _ hm
 obtain ⟨nm0, ia0, il0, ic0, ims0, fa0, fl0, fc0, fs0, rfl, w0, wf0, wn0, wl0, wm0, wk0, wq0, wi0⟩ := zgR (hval 0 25 v0 rfl rfl) h0
 clear hA0 hval0
 refine (walk nm0 ia0 il0 ic0 ims0 fa0 fl0 fc0 fs0 W w0 wf0 wn0 wl0 wm0 wk0 wq0 wi0).mono fun e W' ⟨he, bel⟩ => ?_
 subst he
 exact ⟨_, rfl, _, _, _, [], _, [], hW', trodAll_mk1 (shut_bool Tryz.underlying4 _), (trodAll_cons_mk (Below.trod laidOut (by kernel_rfl) (of_decide_eq_true (by kernel_rfl)) k0 bel lt0) trodAll_mk0), rfl, bel.frame _, fun h => by cases h⟩

theorem over : Rows.fnExactObjectOfRow.holds Tryz.pinned (OpenSpec.ofChange Rows.fnExactObjectOfSpec) :=
 OpenClaim.holds_of_wide 3 Tryz.f3 rfl rfl rfl rfl rfl rfl rfl ⟨rfl, rfl, rfl, rfl, rfl⟩ rfl rfl rfl rfl rfl (by kernel_rfl) Tryz.func3 (by kernel_rfl)
  (of_decide_eq_true (by kernel_rfl)) (by unfold Func.isWrapper; first | (rw [if_pos (by decide +kernel)]; kernel_rfl) | (rw [if_neg (by decide +kernel)]; exact ⟨rfl, rfl⟩))
  (fun os started H enc _ => lifted os started H enc)

theorem proved : Rows.FnExactObjectOfSaid :=
 over
#print axioms proved
end Go.Proofs.YtkpdoedpkncboaaGreat.fnExactObjectOf
