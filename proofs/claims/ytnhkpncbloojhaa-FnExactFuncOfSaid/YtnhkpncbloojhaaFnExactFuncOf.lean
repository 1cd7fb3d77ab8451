/-
  FnExactFuncOf returns true at every package and every text and leaves them as they were: impl.FuncOf answers as spec.FuncOf, in memory of its own.
-/
import Derived.Test.YtnhkpncbloojhaaRows
import Derived.Test.YtnhkpncbloojhaaP1
import Derived.Test.YtnhkpncbloojhaaP2
import Derived.Test.YtnhkpncbloojhaaP3
import Derived.Test.YtnhkpncbloojhaaP4
import Derived.Test.YtnhkpncbloojhaaP5
import Derived.Test.YtnhkpncbloojhaaP6
import Derived.Test.YtnhkpncbloojhaaP7
import Derived.Test.YtnhkpncbloojhaaP8
import Derived.Test.YtnhkpncbloojhaaP9
import Derived.Test.YtnhkpncbloojhaaP10
import Derived.Test.YtnhkpncbloojhaaP11
import Derived.Test.YtnhkpncbloojhaaP12
import Derived.Test.YtnhkpncbloojhaaP13
import Derived.Test.YtnhkpncbloojhaaP14
import Derived.Test.YtnhkpncbloojhaaP15
import Derived.Test.YtnhkpncbloojhaaP16
import Derived.WalkKit
import Derived.ProofKit
import Derived.OpenShut
import Derived.ShutString
import Derived.ChangeOld
import Derived.Below
namespace Go.Proofs.Ytnhkpncbloojhaa.fnExactFuncOf
open Go.ChangeShapes Go.WideShapes Go.ChangeAt Go.RowKit
open Go.ChangeMaps (open_string shut_string)
set_option linter.unusedVariables false

theorem own : ownKnob Try.prog.godebug = none := by kernel_rfl
theorem laidOut : laidOutB Try.prog = true := by kernel_rfl

/-! The walk: the law returns true and writes nothing that was there. -/
set_option maxHeartbeats 1000000 in
set_option maxRecDepth 1000000 in
theorem walk (nm0 : List UInt8) (ia0 : Option Addr) (il0 ic0 : Nat) (ims0 : List (List UInt8)) (fa0 : Option Addr) (fl0 fc0 : Nat) (fs0 : List Fn) (a1 : ByteArray) (w : World) (w0 : TextsIn w ia0 il0 ims0) (wf0 : FuncsIn w fa0 fl0 fs0) (wn0 : nm0.length ≤ maxLen) (wl0 : il0 ≤ maxLen) (wm0 : ∀ j, (ims0.getD j []).length ≤ maxLen) (wk0 : fl0 ≤ maxLen) (wq0 : LongF fs0) (wi0 : IntF fs0) (w1 : a1.size ≤ maxLen) :
    Calls Try.prog 4 #[.agg #[.string ⟨nm0.toArray⟩, .slice ia0 il0 ic0, .slice fa0 fl0 fc0], .string a1] w fun e w' => e = .returned (.bool true) ∧ Below w.heap.size w w' := by
  obtain ⟨q, rfl⟩ : ∃ l : List UInt8, a1 = ⟨l.toArray⟩ := ⟨a1.data.toList, by cases a1; simp⟩
  obtain rfl : ims0.length = il0 := w0.1
  obtain rfl : fs0.length = fl0 := wf0.1
  have HI0 : Hid (TextsIn w ia0 ims0.length ims0) := w0
  have HF0 : Hid (FuncsIn w fa0 fs0.length fs0) := wf0
  obtain ⟨W, hW⟩ : ∃ W, w.alloc (.cells #[.string ⟨nm0.toArray⟩, .slice ia0 ims0.length ic0, .slice fa0 fs0.length fc0] 25) = W := ⟨_, rfl⟩
  obtain ⟨bD, hB⟩ := Box3.new w (.string ⟨nm0.toArray⟩) (.slice ia0 ims0.length ic0) (.slice fa0 fs0.length fc0) 25
  rw [hW] at bD hB
  obtain ⟨D, hD0⟩ : ∃ D, w.heap.size = D := ⟨_, rfl⟩
  rw [hD0] at bD hB
  have hD : Hid (w.heap.size = D) := hD0
  have k0 := bD.c0
  have k1 := bD.c1
  have k2 := bD.c2
  have hDs : D ≤ w.heap.size := Nat.le_of_eq hD0.symm
  have HI : Hid (∀ V, Below D w V → TextsIn V ia0 ims0.length ims0) := fun V h => HI0.out.below (by rw [hD.out]; exact h)
  have HF : Hid (∀ V, Below D w V → FuncsIn V fa0 fs0.length fs0) := fun V h => HF0.out.below (by rw [hD.out]; exact h)
  clear w0 wf0 HI0 HF0
  have hself : ∀ n : Int, (n != n) = false := by simp
  by_cases hbig : 1048576 < (q.length : Int)
  · go_enter Try.func4, Try.ntmps4
    go_wp2
    go_ret
    exact ⟨rfl, by rw [hD.out]; exact hB⟩
  by_cases hz : (pkSz nm0 ims0 fs0 : Int) ≤ 1048576
  · have HZ : Hid (szM (pkSz nm0 ims0 fs0) 1048576 = 1048576 - (pkSz nm0 ims0 fs0 : Int)) := szM_yes hz
    obtain ⟨hil, hfl, hnl, his, hfs⟩ := pk_small (by omega : pkSz nm0 ims0 fs0 ≤ 1048576)
    have hge : (0 : Int) ≤ 1048576 - (pkSz nm0 ims0 fs0 : Int) := by omega
    have HIS : Hid (∀ i, (ims0.getD i []).length ≤ 1048576) := his
    have HFS : Hid (ShortF fs0) := hfs
    have HFS2 : Hid (∀ j, (fs0.getD j fn0).2.2.length ≤ 1048576) := fun j => (hfs j).2.1
    have HIF : Hid (IntF fs0) := wi0
    clear his hfs wi0
    have hq : q.length ≤ 1048576 := by omega
    have HS : Hid (_) := fun (a : Option Addr) (c : Nat) (g : Nat) (V : World) (h1 : TextsIn V a ims0.length ims0) (h2 : FuncsIn V (some ⟨g, 0, none⟩) fs0.length fs0) => specFuncOf nm0 a ims0.length c (some ⟨g, 0, none⟩) fs0.length fs0.length ims0 fs0 q V h1 h2 hil hfl hnl HIS.out HFS.out
    have HIm : Hid (_) := fun (a : Option Addr) (c : Nat) (g : Nat) (V : World) (h0 : a = none → c = 0) (h1 : TextsIn V a ims0.length ims0) (h2 : FuncsIn V (some ⟨g, 0, none⟩) fs0.length fs0) => implFuncOf nm0 a ims0.length c (some ⟨g, 0, none⟩) fs0.length fs0.length ims0 fs0 q V ⟨h1, h2, h0, ⟨(fun e => by cases e), Nat.le_refl _⟩, HIF.out, hil, hfl, hnl, HIS.out, HFS.out⟩ hq
    have hTl : (foundV (nm0, ims0, fs0) q).2.2.length ≤ 1048576 := found_short HFS.out
    obtain ⟨X, hX⟩ : ∃ X, foundV (nm0, ims0, fs0) q = X := ⟨_, rfl⟩
    obtain ⟨ok, hok⟩ : ∃ ok, foundB (nm0, ims0, fs0) q = ok := ⟨_, rfl⟩
    rw [hX] at HS HIm hTl
    rw [hok] at HS HIm
    obtain ⟨xn, xa, T⟩ := X
    simp only at HS HIm hTl
    obtain ⟨n, hn⟩ : ∃ n, T.length = n := ⟨_, rfl⟩
    rw [hn] at HS HIm hTl
    have hne : (ok != ok) = false := by simp
    clear hX hok hn
    go_enter Try.func4, Try.ntmps4
    go_wp2_with fail
    refine (szPackageC nm0 ia0 ims0.length ic0 fa0 fs0.length fc0 ims0 fs0 1048576 _ (HI.out _ hB) (HF.out _ hB) (by omega) (by omega) wn0 wl0 wm0 wk0 wq0).mono ?_
    rintro e w1 ⟨rfl, hb1⟩
    rw [HZ.out]
    replace hB := hB.trans (hb1.mono (Nat.le_trans hDs hB.size))
    replace bD := bD.below hb1
    replace k0 := bD.c0
    replace k1 := bD.c1
    replace k2 := bD.c2
    clear hb1
    go_wp2_with fail
    refine (toPackageC nm0 ia0 ims0.length ic0 fa0 fs0.length fc0 ims0 fs0 _ (HI.out _ hB) (HF.out _ hB) hil hfl HFS2.out).mono ?_
    rintro e w2 ⟨a2, c2, g2, xs2, rfl, hxs2, hoi2, hof2, hap2, hb2⟩
    obtain ⟨_, _, e2, hic2, hit2⟩ := own_texts0 hoi2
    injection e2 with e1 _ e3
    subst e1 e3
    have hif2 : FuncsIn w2 (some ⟨g2, 0, none⟩) fs0.length fs0 := by
      obtain ⟨_, _, e4, _, hq⟩ := hof2.in
      have hl : xs2.length = fs0.length := by rw [← hxs2, List.length_map]
      rw [hl] at e4 hq
      injection e4 with e5
      rw [← e5, hxs2] at hq
      exact hq
    replace hB := hB.trans (hb2.mono (Nat.le_trans hDs hB.size))
    replace bD := bD.below hb2
    replace k0 := bD.c0
    replace k1 := bD.c1
    replace k2 := bD.c2
    clear hb2 hoi2 hof2 hap2 hxs2 hic2
    go_wp2_with fail
    refine Calls.mono (HS.out _ _ _ _ hit2 hif2) ?_
    rintro e w3 ⟨v6, rfl, ht6, hb3⟩
    obtain ⟨_, a6, c6, rfl, _⟩ := own_nodes ht6
    replace hB := hB.trans (hb3.mono (Nat.le_trans hDs hB.size))
    replace bD := bD.below hb3
    replace k0 := bD.c0
    replace k1 := bD.c1
    replace k2 := bD.c2
    clear hb3 hit2 hif2
    obtain ⟨F, hF0⟩ : ∃ F, w3.heap.size = F := ⟨_, rfl⟩
    obtain ⟨w4, hw4⟩ : ∃ W, w3.alloc (.cells #[.string ⟨xn.toArray⟩, .int .i64 xa, .slice a6 n c6] 36) = W := ⟨_, rfl⟩
    obtain ⟨bF, hb4⟩ := Box3.new w3 (.string ⟨xn.toArray⟩) (.int .i64 xa) (.slice a6 n c6) 36
    rw [hw4] at bF hb4
    rw [hF0] at bF
    have hDF : D < F := by rw [← hF0]; exact bD.lt
    have h6F : Hid (∀ k, (Value.slice a6 n c6).ownBlock = some k → k < F) := fun k e => by rw [← hF0]; exact (ht6.lt k e).2
    replace ht6 := own_below ht6 hb4
    replace hB := hB.trans (hb4.mono (Nat.le_trans hDs hB.size))
    replace bD := bD.below hb4
    replace k0 := bD.c0
    replace k1 := bD.c1
    replace k2 := bD.c2
    clear hb4
    have f0 := bF.c0
    have f1 := bF.c1
    have f2 := bF.c2
    go_wp2_with fail
    refine (toPackageC nm0 ia0 ims0.length ic0 fa0 fs0.length fc0 ims0 fs0 _ (HI.out _ hB) (HF.out _ hB) hil hfl HFS2.out).mono ?_
    rintro e w5 ⟨a5, c5, g5, xs5, rfl, hxs5, hoi5, hof5, hap5, hb5⟩
    obtain ⟨_, _, e5, hic5, hit5⟩ := own_texts0 hoi5
    injection e5 with e1 _ e3
    subst e1 e3
    have hif5 : FuncsIn w5 (some ⟨g5, 0, none⟩) fs0.length fs0 := by
      obtain ⟨_, _, e4, _, hq⟩ := hof5.in
      have hl : xs5.length = fs0.length := by rw [← hxs5, List.length_map]
      rw [hl] at e4 hq
      injection e4 with e5
      rw [← e5, hxs5] at hq
      exact hq
    replace ht6 := own_below ht6 hb5
    have hF5 : F < w4.heap.size := bF.lt
    replace hB := hB.trans (hb5.mono (Nat.le_trans hDs hB.size))
    replace bD := bD.below hb5
    replace bF := bF.below hb5
    replace k0 := bD.c0
    replace k1 := bD.c1
    replace k2 := bD.c2
    replace f0 := bF.c0
    replace f1 := bF.c1
    replace f2 := bF.c2
    clear hb5
    obtain ⟨P, hP0⟩ : ∃ P, w5.heap.size = P := ⟨_, rfl⟩
    obtain ⟨w6, hw6⟩ : ∃ W, w5.alloc (.cells #[.string ⟨nm0.toArray⟩, .slice a5 ims0.length c5, .slice (some ⟨g5, 0, none⟩) fs0.length fs0.length] 30) = W := ⟨_, rfl⟩
    obtain ⟨bP, hb6⟩ := Box3.new w5 (.string ⟨nm0.toArray⟩) (.slice a5 ims0.length c5) (.slice (some ⟨g5, 0, none⟩) fs0.length fs0.length) 30
    rw [hw6] at bP hb6
    rw [hP0] at bP
    have hPB : Hid (∀ k, PkBlocks (.slice a5 ims0.length c5) (.slice (some ⟨g5, 0, none⟩) fs0.length fs0.length) xs5 k → F < k ∧ k < P) := by
      intro k hk
      rw [← hP0]
      rcases hk with e | e | ⟨x, hx, e⟩
      · have := hoi5.lt k e; omega
      · have := hof5.row.lt k e; omega
      · have := (hof5.trees x hx).lt k e; omega
    have hFP : F < P := by rw [← hP0]; exact bF.lt
    replace hoi5 := own_below hoi5 hb6
    replace hof5 := hof5.below hb6
    replace hit5 := hit5.below hb6
    replace hif5 := hif5.below hb6
    replace ht6 := own_below ht6 hb6
    replace hB := hB.trans (hb6.mono (Nat.le_trans hDs hB.size))
    replace bD := bD.below hb6
    replace bF := bF.below hb6
    replace k0 := bD.c0
    replace k1 := bD.c1
    replace k2 := bD.c2
    replace f0 := bF.c0
    replace f1 := bF.c1
    replace f2 := bF.c2
    clear hb6
    have p0 := bP.c0
    have p1 := bP.c1
    have p2 := bP.c2
    go_wp2_with fail
    refine Calls.mono (HIm.out _ _ _ _ hic5 hit5 hif5) ?_
    rintro e w7 ⟨v9, rfl, ht9, hb7⟩
    obtain ⟨_, a9, c9, rfl, _⟩ := own_nodes ht9
    have hP7 : P < w6.heap.size := bP.lt
    replace hoi5 := own_below hoi5 hb7
    replace hof5 := hof5.below hb7
    replace hit5 := hit5.below hb7
    replace hif5 := hif5.below hb7
    replace ht6 := own_below ht6 hb7
    replace hB := hB.trans (hb7.mono (Nat.le_trans hDs hB.size))
    replace bD := bD.below hb7
    replace bF := bF.below hb7
    replace bP := bP.below hb7
    replace k0 := bD.c0
    replace k1 := bD.c1
    replace k2 := bD.c2
    replace f0 := bF.c0
    replace f1 := bF.c1
    replace f2 := bF.c2
    replace p0 := bP.c0
    replace p1 := bP.c1
    replace p2 := bP.c2
    clear hb7
    obtain ⟨G, hG0⟩ : ∃ G, w7.heap.size = G := ⟨_, rfl⟩
    obtain ⟨w8, hw8⟩ : ∃ W, w7.alloc (.cells #[.string ⟨xn.toArray⟩, .int .i64 xa, .slice a9 n c9] 36) = W := ⟨_, rfl⟩
    obtain ⟨bG, hb8⟩ := Box3.new w7 (.string ⟨xn.toArray⟩) (.int .i64 xa) (.slice a9 n c9) 36
    rw [hw8] at bG hb8
    rw [hG0] at bG
    have hPG : P < G := by rw [← hG0]; exact bP.lt
    have h9P : Hid (∀ k, (Value.slice a9 n c9).ownBlock = some k → P < k ∧ k < G) := fun k e => by have := ht9.lt k e; rw [← hG0]; omega
    replace hoi5 := own_below hoi5 hb8
    replace hof5 := hof5.below hb8
    replace hit5 := hit5.below hb8
    replace hif5 := hif5.below hb8
    replace ht6 := own_below ht6 hb8
    replace ht9 := own_below ht9 hb8
    replace hB := hB.trans (hb8.mono (Nat.le_trans hDs hB.size))
    replace bD := bD.below hb8
    replace bF := bF.below hb8
    replace bP := bP.below hb8
    replace k0 := bD.c0
    replace k1 := bD.c1
    replace k2 := bD.c2
    replace f0 := bF.c0
    replace f1 := bF.c1
    replace f2 := bF.c2
    replace p0 := bP.c0
    replace p1 := bP.c1
    replace p2 := bP.c2
    clear hb8
    have g0 := bG.c0
    have g1 := bG.c1
    have g2 := bG.c2
    obtain ⟨_, _, _, ey, hy9⟩ := own_nodes ht9
    injection ey with ey1 _ ey3
    subst ey1 ey3
    obtain ⟨_, _, _, ez, hz6⟩ := own_nodes ht6
    injection ez with ez1 _ ez3
    subst ez1 ez3
    go_wp2_with fail
    refine Calls.mono (eqFuncC xn xa T _ _ n _ _ _ hy9 hz6 (by omega)) ?_
    rintro e w9 ⟨rfl, hb9⟩
    clear hy9 hz6
    replace hoi5 := own_below hoi5 hb9
    replace hof5 := hof5.below hb9
    replace hit5 := hit5.below hb9
    replace hif5 := hif5.below hb9
    replace ht6 := own_below ht6 hb9
    replace ht9 := own_below ht9 hb9
    replace hB := hB.trans (hb9.mono (Nat.le_trans hDs hB.size))
    replace bD := bD.below hb9
    replace bF := bF.below hb9
    replace bP := bP.below hb9
    replace bG := bG.below hb9
    replace k0 := bD.c0
    replace k1 := bD.c1
    replace k2 := bD.c2
    replace f0 := bF.c0
    replace f1 := bF.c1
    replace f2 := bF.c2
    replace p0 := bP.c0
    replace p1 := bP.c1
    replace p2 := bP.c2
    replace g0 := bG.c0
    replace g1 := bG.c1
    replace g2 := bG.c2
    clear hb9
    go_upto_region 12 with fail
    go_cut [52] from 48 (fun v wx => v = .bool false ∧ Hid (Below D w wx) ∧ Hid (Box3 wx D (.string ⟨nm0.toArray⟩) (.slice ia0 ims0.length ic0) (.slice fa0 fs0.length fc0)) ∧ Hid (Box3 wx F (.string ⟨xn.toArray⟩) (.int .i64 xa) (.slice a6 n c6)) ∧ Hid (Box3 wx P (.string ⟨nm0.toArray⟩) (.slice a5 ims0.length c5) (.slice (some ⟨g5, 0, none⟩) fs0.length fs0.length)) ∧ Hid (Box3 wx G (.string ⟨xn.toArray⟩) (.int .i64 xa) (.slice a9 n c9)) ∧ Hid (wx.ownsRow w4.heap.size 9 1 (.slice a5 ims0.length c5) ims0.length (strV ims0)) ∧ Hid (FnsOwn wx w4.heap.size (.slice (some ⟨g5, 0, none⟩) fs0.length fs0.length) xs5) ∧ Hid (wx.ownsRow w2.heap.size 70 4 (.slice a6 n c6) n (nodesV T)) ∧ Hid (wx.ownsRow w6.heap.size 70 4 (.slice a9 n c9) n (nodesV T)))
    case first =>
      replace hB : Below D w w9.drew := hB.drew
      replace bD := bD.drew
      replace bF := bF.drew
      replace bP := bP.drew
      replace bG := bG.drew
      replace hoi5 : w9.drew.ownsRow w4.heap.size 9 1 (.slice a5 ims0.length c5) ims0.length (strV ims0) := own_none hoi5 (grown_drew _ _)
      replace hof5 : FnsOwn w9.drew w4.heap.size (.slice (some ⟨g5, 0, none⟩) fs0.length fs0.length) xs5 := hof5.none (grown_drew _ _)
      replace ht6 : w9.drew.ownsRow w2.heap.size 70 4 (.slice a6 n c6) n (nodesV T) := own_none ht6 (grown_drew _ _)
      replace ht9 : w9.drew.ownsRow w6.heap.size 70 4 (.slice a9 n c9) n (nodesV T) := own_none ht9 (grown_drew _ _)
      replace hit5 : TextsIn w9.drew a5 ims0.length ims0 := hit5
      replace hif5 : FuncsIn w9.drew (some ⟨g5, 0, none⟩) fs0.length fs0 := hif5
      go_region_held3 (fun w' => w'.cell? ⟨D, 0, none⟩ = some (.string ⟨nm0.toArray⟩) ∧ w'.cell? ⟨D, 1, none⟩ = some (.slice ia0 ims0.length ic0) ∧ w'.cell? ⟨D, 2, none⟩ = some (.slice fa0 fs0.length fc0) ∧ w'.cell? ⟨P, 0, none⟩ = some (.string ⟨nm0.toArray⟩) ∧ w'.cell? ⟨P, 1, none⟩ = some (.slice a5 ims0.length c5) ∧ w'.cell? ⟨P, 2, none⟩ = some (.slice (some ⟨g5, 0, none⟩) fs0.length fs0.length)) (go_keep) (first
        | (go_at_call 7; refine (toPackageC nm0 ia0 ims0.length ic0 fa0 fs0.length fc0 ims0 fs0 _ (HI.out _ hB) (HF.out _ hB) hil hfl HFS2.out).mono ?_; rintro e wn ⟨a7, c7, g7, xs7, rfl, hxs7, hoi7, hof7, _, hbn⟩; obtain ⟨_, _, e7, _, hit7⟩ := own_texts0 hoi7; injection e7 with e1 _ e3; subst e1 e3; have hif7 : FuncsIn wn (some ⟨g7, 0, none⟩) fs0.length fs0 := (by (obtain ⟨_, _, e4, _, hq⟩ := hof7.in); (have hl : xs7.length = fs0.length := by rw [← hxs7, List.length_map]); (rw [hl] at e4 hq); (injection e4 with e5); (rw [← e5, hxs7] at hq); exact hq); replace hoi5 := own_below hoi5 hbn; replace hof5 := hof5.below hbn; replace hit5 := hit5.below hbn; replace hif5 := hif5.below hbn; replace ht6 := own_below ht6 hbn; replace ht9 := own_below ht9 hbn; replace hB := hB.trans (hbn.mono (Nat.le_trans hDs hB.size)); replace bD := bD.below hbn; replace bF := bF.below hbn; replace bP := bP.below hbn; replace bG := bG.below hbn; replace k0 := bD.c0; replace k1 := bD.c1; replace k2 := bD.c2; replace f0 := bF.c0; replace f1 := bF.c1; replace f2 := bF.c2; replace p0 := bP.c0; replace p1 := bP.c1; replace p2 := bP.c2; replace g0 := bG.c0; replace g1 := bG.c1; replace g2 := bG.c2; clear hbn; clear hoi7 hof7 hxs7)
        | (go_at_call 9; refine (eqPackageC nm0 a5 a7 (some ⟨g5, 0, none⟩) (some ⟨g7, 0, none⟩) ims0.length c5 c7 fs0.length fs0.length fs0.length ims0 fs0 _ hit5 hit7 hif5 hif7 (by omega) (by omega) (fun j => Nat.le_trans (HFS2.out j) (by omega))).mono ?_; rintro e wn ⟨rfl, hbn⟩; replace hoi5 := own_below hoi5 hbn; replace hof5 := hof5.below hbn; replace hit5 := hit5.below hbn; replace hif5 := hif5.below hbn; replace ht6 := own_below ht6 hbn; replace ht9 := own_below ht9 hbn; replace hB := hB.trans (hbn.mono (Nat.le_trans hDs hB.size)); replace bD := bD.below hbn; replace bF := bF.below hbn; replace bP := bP.below hbn; replace bG := bG.below hbn; replace k0 := bD.c0; replace k1 := bD.c1; replace k2 := bD.c2; replace f0 := bF.c0; replace f1 := bF.c1; replace f2 := bF.c2; replace p0 := bP.c0; replace p1 := bP.c1; replace p2 := bP.c2; replace g0 := bG.c0; replace g1 := bG.c1; replace g2 := bG.c2; clear hbn))
      all_goals go_wp2_with fail
      all_goals go_meet
      all_goals exact ⟨rfl, hB, bD, bF, bP, bG, hoi5, hof5, ht6, ht9⟩
    case rest =>
      obtain ⟨rfl, HBx, HbD, HbF, HbP, HbG, Hoi, Hof, Ht6, Ht9⟩ := hcut
      clear hoi5 hof5 hit5 hif5 ht6 ht9
      replace hB := HBx.out
      replace bD := HbD.out
      replace bF := HbF.out
      replace bP := HbP.out
      replace bG := HbG.out
      have hoi5 := Hoi.out
      have hof5 := Hof.out
      have ht6 := Ht6.out
      have ht9 := Ht9.out
      clear HBx HbD HbF HbP HbG Hoi Hof Ht6 Ht9
      replace k0 := bD.c0
      replace k1 := bD.c1
      replace k2 := bD.c2
      replace f0 := bF.c0
      replace f1 := bF.c1
      replace f2 := bF.c2
      replace p0 := bP.c0
      replace p1 := bP.c1
      replace p2 := bP.c2
      replace g0 := bG.c0
      replace g1 := bG.c1
      replace g2 := bG.c2
      have hfe : fend (1 + ims0.length) xs5 ≤ 30000000 := by
        have h1 := fend_le (1 + ims0.length) xs5
        rw [hxs5] at h1
        have h2 : xs5.length = fs0.length := by rw [← hxs5, List.length_map]
        unfold pkSz at hz
        omega
      have hlf : xs5.length = fs0.length := by rw [← hxs5, List.length_map]
      have hMk := markPackageC nm0 wc w4.heap.size 1 ims0.length (.slice a5 ims0.length c5) (.slice (some ⟨g5, 0, none⟩) fs0.length fs0.length) (strV ims0) xs5 (by omega) (by omega) (by omega) (by omega) hfe (fun x hx => by have := short_mem HFS.out (hxs5 ▸ List.mem_map_of_mem hx : x.1 ∈ fs0); omega) hap5 hoi5 hof5
      have HMk : Hid (_) := hMk
      have hge2 : ¬ ((fend (1 + ims0.length) xs5 : Nat) : Int) < 0 := by omega
      clear hMk hoi5 hof5
      go_wp2_with fail
      refine Calls.mono HMk.out ?_
      rintro e wm ⟨rfl, _, _, hwm⟩
      have hnD : ¬ PkBlocks (.slice a5 ims0.length c5) (.slice (some ⟨g5, 0, none⟩) fs0.length fs0.length) xs5 D := fun e => by have := hPB.out D e; omega
      have hnF : ¬ PkBlocks (.slice a5 ims0.length c5) (.slice (some ⟨g5, 0, none⟩) fs0.length fs0.length) xs5 F := fun e => by have := hPB.out F e; omega
      have hnP : ¬ PkBlocks (.slice a5 ims0.length c5) (.slice (some ⟨g5, 0, none⟩) fs0.length fs0.length) xs5 P := fun e => by have := hPB.out P e; omega
      have hnG : ¬ PkBlocks (.slice a5 ims0.length c5) (.slice (some ⟨g5, 0, none⟩) fs0.length fs0.length) xs5 G := fun e => by have := hPB.out G e; omega
      replace hB : Below D w wm := hB.trans (hwm.below (by have := bD.lt; omega) (fun k e => by have := hPB.out k e; omega))
      replace bD := bD.wrote hwm hnD
      replace bF := bF.wrote hwm hnF
      replace bP := bP.wrote hwm hnP
      replace bG := bG.wrote hwm hnG
      replace ht6 := own_wrote ht6 hwm (fun k e h => by have := hPB.out k h; have := h6F.out k e; omega)
      replace ht9 := own_wrote ht9 hwm (fun k e h => by have := hPB.out k h; have := h9P.out k e; omega)
      clear hwm hnD hnF hnP hnG HMk
      replace k0 := bD.c0
      replace k1 := bD.c1
      replace k2 := bD.c2
      replace f0 := bF.c0
      replace f1 := bF.c1
      replace f2 := bF.c2
      replace p0 := bP.c0
      replace p1 := bP.c1
      replace p2 := bP.c2
      replace g0 := bG.c0
      replace g1 := bG.c1
      replace g2 := bG.c2
      obtain ⟨_, _, _, ey, hy9⟩ := own_nodes ht9
      injection ey with ey1 _ ey3
      subst ey1 ey3
      obtain ⟨_, _, _, ez, hz6⟩ := own_nodes ht6
      injection ez with ez1 _ ez3
      subst ez1 ez3
      go_wp2_with fail
      refine Calls.mono (eqFuncC xn xa T _ _ n _ _ _ hy9 hz6 (by omega)) ?_
      rintro e wq ⟨rfl, hbq⟩
      clear hy9 hz6
      replace ht6 := own_below ht6 hbq
      replace ht9 := own_below ht9 hbq
      replace hB := hB.trans (hbq.mono (Nat.le_trans hDs hB.size))
      replace bD := bD.below hbq
      replace bF := bF.below hbq
      replace bP := bP.below hbq
      replace bG := bG.below hbq
      replace k0 := bD.c0
      replace k1 := bD.c1
      replace k2 := bD.c2
      replace f0 := bF.c0
      replace f1 := bF.c1
      replace f2 := bF.c2
      replace p0 := bP.c0
      replace p1 := bP.c1
      replace p2 := bP.c2
      replace g0 := bG.c0
      replace g1 := bG.c1
      replace g2 := bG.c2
      clear hbq
      go_wp2_with fail
      refine Calls.mono (markFuncC xn xa _ _ n 1 _ T (by omega) (by omega) (by omega) ht9) ?_
      rintro e wk ⟨rfl, htk, hgk⟩
      have o9 : ∀ k, (Value.slice a9 n c9).ownBlock = some k → P < k ∧ k < G := h9P.out
      replace hB : Below D w wk := hB.grown hgk (by have := bD.lt; omega) (fun k e => by have := o9 k e; omega)
      replace bD := bD.grown hgk (fun e => by have := o9 D e.symm; omega)
      replace bF := bF.grown hgk (fun e => by have := o9 F e.symm; omega)
      replace bG := bG.grown hgk (fun e => by have := o9 G e.symm; omega)
      replace ht6 := ht6.kept hgk (by
        cases h6 : (Value.slice a6 n c6).ownBlock with
        | none => exact Or.inl rfl
        | some k => exact Or.inr (fun e => by have := h6F.out k h6; have := o9 k e.symm; omega))
      clear hgk ht9 o9 bP p0 p1 p2
      replace k0 := bD.c0
      replace k1 := bD.c1
      replace k2 := bD.c2
      replace f0 := bF.c0
      replace f1 := bF.c1
      replace f2 := bF.c2
      replace g0 := bG.c0
      replace g1 := bG.c1
      replace g2 := bG.c2
      go_wp2_with fail
      refine Calls.mono (heldFuncC xn xa _ _ n 1 _ (by omega) (by omega) (by omega) htk) ?_
      rintro e wh ⟨rfl, hgh⟩
      replace hB : Below D w wh := hB.grown hgh (by have := bD.lt; omega) (by simp)
      replace bD := bD.grown hgh (by simp)
      replace bF := bF.grown hgh (by simp)
      replace bG := bG.grown hgh (by simp)
      replace ht6 := own_none ht6 hgh
      replace htk := own_none htk hgh
      have hge3 : ¬ ((1 + 4 * n : Nat) : Int) < 0 := by omega
      clear hgh
      replace k0 := bD.c0
      replace k1 := bD.c1
      replace k2 := bD.c2
      replace f0 := bF.c0
      replace f1 := bF.c1
      replace f2 := bF.c2
      replace g0 := bG.c0
      replace g1 := bG.c1
      replace g2 := bG.c2
      go_wp2_with fail
      refine (toPackageC nm0 ia0 ims0.length ic0 fa0 fs0.length fc0 ims0 fs0 _ (HI.out _ hB) (HF.out _ hB) hil hfl HFS2.out).mono ?_
      rintro e wt ⟨a11, c11, g11, xs11, rfl, hxs11, hoi11, hof11, hap11, hb11⟩
      obtain ⟨_, _, e11, hic11, hit11⟩ := own_texts0 hoi11
      injection e11 with e1 _ e3
      subst e1 e3
      have hif11 : FuncsIn wt (some ⟨g11, 0, none⟩) fs0.length fs0 := by
        obtain ⟨_, _, e4, _, hq⟩ := hof11.in
        have hl : xs11.length = fs0.length := by rw [← hxs11, List.length_map]
        rw [hl] at e4 hq
        injection e4 with e5
        rw [← e5, hxs11] at hq
        exact hq
      replace ht6 := own_below ht6 hb11
      replace htk := own_below htk hb11
      replace hB := hB.trans (hb11.mono (Nat.le_trans hDs hB.size))
      replace bD := bD.below hb11
      replace bF := bF.below hb11
      replace bG := bG.below hb11
      replace k0 := bD.c0
      replace k1 := bD.c1
      replace k2 := bD.c2
      replace f0 := bF.c0
      replace f1 := bF.c1
      replace f2 := bF.c2
      replace g0 := bG.c0
      replace g1 := bG.c1
      replace g2 := bG.c2
      clear hb11 hoi11 hof11 hap11 hxs11
      go_wp2_with fail
      refine Calls.mono (HIm.out _ _ _ _ hic11 hit11 hif11) ?_
      rintro e wu ⟨v12, rfl, ht12, hb12⟩
      obtain ⟨_, a12, c12, rfl, _⟩ := own_nodes ht12
      replace ht6 := own_below ht6 hb12
      replace htk := own_below htk hb12
      replace hB := hB.trans (hb12.mono (Nat.le_trans hDs hB.size))
      replace bD := bD.below hb12
      replace bF := bF.below hb12
      replace bG := bG.below hb12
      replace k0 := bD.c0
      replace k1 := bD.c1
      replace k2 := bD.c2
      replace f0 := bF.c0
      replace f1 := bF.c1
      replace f2 := bF.c2
      replace g0 := bG.c0
      replace g1 := bG.c1
      replace g2 := bG.c2
      clear hb12 hit11 hif11 hic11
      obtain ⟨H, hH0⟩ : ∃ H, wu.heap.size = H := ⟨_, rfl⟩
      obtain ⟨wv, hwv⟩ : ∃ W, wu.alloc (.cells #[.string ⟨xn.toArray⟩, .int .i64 xa, .slice a12 n c12] 36) = W := ⟨_, rfl⟩
      obtain ⟨bH, hb13⟩ := Box3.new wu (.string ⟨xn.toArray⟩) (.int .i64 xa) (.slice a12 n c12) 36
      rw [hwv] at bH hb13
      rw [hH0] at bH
      replace ht12 := own_below ht12 hb13
      replace ht6 := own_below ht6 hb13
      replace htk := own_below htk hb13
      replace hB := hB.trans (hb13.mono (Nat.le_trans hDs hB.size))
      replace bD := bD.below hb13
      replace bF := bF.below hb13
      replace bG := bG.below hb13
      replace k0 := bD.c0
      replace k1 := bD.c1
      replace k2 := bD.c2
      replace f0 := bF.c0
      replace f1 := bF.c1
      replace f2 := bF.c2
      replace g0 := bG.c0
      replace g1 := bG.c1
      replace g2 := bG.c2
      clear hb13
      have h0 := bH.c0
      have h1 := bH.c1
      have h2 := bH.c2
      obtain ⟨_, _, _, ey, hy9⟩ := own_nodes ht12
      injection ey with ey1 _ ey3
      subst ey1 ey3
      obtain ⟨_, _, _, ez, hz6⟩ := own_nodes ht6
      injection ez with ez1 _ ez3
      subst ez1 ez3
      go_wp2_with fail
      refine Calls.mono (eqFuncC xn xa T _ _ n _ _ _ hy9 hz6 (by omega)) ?_
      rintro e wx ⟨rfl, hbx⟩
      clear hy9 hz6
      replace ht6 := own_below ht6 hbx
      replace htk := own_below htk hbx
      replace hB := hB.trans (hbx.mono (Nat.le_trans hDs hB.size))
      replace bD := bD.below hbx
      replace bF := bF.below hbx
      replace bG := bG.below hbx
      replace k0 := bD.c0
      replace k1 := bD.c1
      replace k2 := bD.c2
      replace f0 := bF.c0
      replace f1 := bF.c1
      replace f2 := bF.c2
      replace g0 := bG.c0
      replace g1 := bG.c1
      replace g2 := bG.c2
      clear hbx
      go_wp2_with fail
      refine Calls.mono (heldFuncC xn xa _ _ n 1 _ (by omega) (by omega) (by omega) htk) ?_
      rintro e wy ⟨rfl, hgy⟩
      replace hB : Below D w wy := hB.grown hgy (by have := bD.lt; omega) (by simp)
      go_wp2
      go_ret
      exact ⟨rfl, by rw [hD.out]; exact hB⟩
  · have HZ : Hid (szM (pkSz nm0 ims0 fs0) 1048576 = -1) := szM_no hz
    go_enter Try.func4, Try.ntmps4
    go_wp2_with fail
    refine (szPackageC nm0 ia0 ims0.length ic0 fa0 fs0.length fc0 ims0 fs0 1048576 _ (HI.out _ hB) (HF.out _ hB) (by omega) (by omega) wn0 wl0 wm0 wk0 wq0).mono ?_
    rintro e w1 ⟨rfl, hb1⟩
    rw [HZ.out]
    replace hB := hB.trans (hb1.mono (Nat.le_trans hDs hB.size))
    go_wp2
    go_ret
    exact ⟨rfl, by rw [hD.out]; exact hB⟩

set_option maxRecDepth 100000 in
theorem lifted (os : Os) (started : os.Started) (H : Type) (enc : TypeId × Value → H) :
    ReturnsInHanded {} Try.checked os 4 .any (Rows.fnExactFuncOfSpec.pre6 enc Try.prog Try.f4 Rows.fnExactFuncOfRow.domain false) (Rows.fnExactFuncOfSpec.post enc Try.prog Try.f4 false true false false) := by
  refine returnsInHanded_of_change (C := Try.checked) own started (by kernel_rfl) Try.func4
    (ChangeSpec.witness6 (enc := enc) (C := Try.checked) false ⟨#[], #[.agg #[.string ByteArray.empty, .slice none 0 0, .slice none 0 0], .string ByteArray.empty], []⟩ 8 (by kernel_rfl) (by kernel_rfl) (by kernel_rfl) (by kernel_rfl)) ?_
  intro W base args ds gs before hval0 hW hcnd _
  have hval : ∀ (j : Nat) t v, Try.f4.params[j]? = some t → args[j]? = some v → Value.okWide Try.prog W .any base t v := hval0
  have hW' := hW
  obtain ⟨p, q, hA0, hV, rfl, hfz, hnd⟩ := hW
  have hA : DataW.TrodAll enc Try.prog W 0 (fun _ => true) true Try.f4.params.toList args.toList ds p := hA0
  rw [Try.params4] at hA hval
  obtain ⟨v0, vs0, d0, ds0, p0, q0, hargs, rfl, rfl, h0, r0⟩ := trodAll_cons hA
  obtain ⟨v1, vs1, d1, ds1, p1, q1, rfl, rfl, rfl, h1, r1⟩ := trodAll_cons r0
  obtain ⟨rfl, rfl, rfl⟩ := trodAll_nil r1
  obtain rfl : args = #[v0, v1] := by cases args; simp_all
  obtain ⟨rfl, rfl⟩ := trodVars_none hV
  have k0 := h0
  have lt0 : ∀ x ∈ p0, x.block < W.heap.size := by obtain ⟨m, hm⟩ := k0; exact DataW.trod_lt m _ _ _ hm
  obtain ⟨nm0, ia0, il0, ic0, ims0, fa0, fl0, fc0, fs0, rfl, w0, wf0, wn0, wl0, wm0, wk0, wq0, wi0⟩ := open_package (hval 0 25 v0 rfl rfl) h0
  have k1 := h1
  have lt1 : ∀ x ∈ p1, x.block < W.heap.size := by obtain ⟨m, hm⟩ := k1; exact DataW.trod_lt m _ _ _ hm
  obtain ⟨a1, rfl, _, _, w1⟩ := open_string Try.underlying9 (hval 1 9 v1 rfl rfl) h1
  clear hA0 hval0
  refine (walk nm0 ia0 il0 ic0 ims0 fa0 fl0 fc0 fs0 a1 W w0 wf0 wn0 wl0 wm0 wk0 wq0 wi0 w1).mono fun e W' ⟨he, bel⟩ => ?_
  subst he
  exact ⟨_, rfl, _, _, _, [], _, [], hW', trodAll_mk1 (shut_bool Try.underlying4 _), (trodAll_cons_mk (Below.trod laidOut (by kernel_rfl) (of_decide_eq_true (by kernel_rfl)) k0 bel lt0) (trodAll_cons_mk (Below.trod laidOut (by kernel_rfl) (of_decide_eq_true (by kernel_rfl)) k1 bel lt1) trodAll_mk0)), rfl, bel.frame _, fun h => by cases h⟩

theorem over : Rows.fnExactFuncOfRow.holds Try.pinned (OpenSpec.ofChange Rows.fnExactFuncOfSpec) :=
  OpenClaim.holds_of_wide 4 Try.f4 rfl rfl rfl rfl rfl rfl rfl ⟨rfl, rfl, rfl, rfl, rfl⟩ rfl rfl rfl rfl rfl (by kernel_rfl) Try.func4 (by kernel_rfl)
    (of_decide_eq_true (by kernel_rfl)) (by unfold Func.isWrapper; first | (rw [if_pos (by decide +kernel)]; kernel_rfl) | (rw [if_neg (by decide +kernel)]; exact ⟨rfl, rfl⟩))
    (fun os started H enc _ => lifted os started H enc)

theorem proved : Rows.FnExactFuncOfSaid :=
  over
#print axioms proved
end Go.Proofs.Ytnhkpncbloojhaa.fnExactFuncOf
