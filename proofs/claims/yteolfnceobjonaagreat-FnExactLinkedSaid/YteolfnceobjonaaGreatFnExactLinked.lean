/-
  FnExactLinked returns true at every list of objects and leaves it as it was: impl.Linked answers as spec.Linked, in memory of its own.
-/
import Derived.Test.YteolfnceobjonaaGreatRows
import Derived.Test.YteolfnceobjonaaGreatP1
import Derived.Test.YteolfnceobjonaaGreatP2
import Derived.Test.YteolfnceobjonaaGreatP3
import Derived.Test.YteolfnceobjonaaGreatP4
import Derived.Test.YteolfnceobjonaaGreatP5
import Derived.Test.YteolfnceobjonaaGreatP6
import Derived.Test.YteolfnceobjonaaGreatP7
import Derived.Test.YteolfnceobjonaaGreatP8
import Derived.Test.YteolfnceobjonaaGreatP9
import Derived.Test.YteolfnceobjonaaGreatP10
import Derived.Test.YteolfnceobjonaaGreatP11
import Derived.Test.YteolfnceobjonaaGreatP12
import Derived.Test.YteolfnceobjonaaGreatP13
import Derived.Test.YteolfnceobjonaaGreatP14
import Derived.Test.YteolfnceobjonaaGreatP15
import Derived.Test.YteolfnceobjonaaGreatP16
import Derived.Test.YteolfnceobjonaaGreatP17
import Derived.Test.YteolfnceobjonaaGreatP18
import Derived.Test.YteolfnceobjonaaGreatP19
import Derived.Test.YteolfnceobjonaaGreatP20
import Derived.Test.YteolfnceobjonaaGreatP21
import Derived.Test.YteolfnceobjonaaGreatP22
import Derived.Test.YteolfnceobjonaaGreatP23
import Derived.Test.YteolfnceobjonaaGreatP24
import Derived.Test.YteolfnceobjonaaGreatP25
import Derived.Test.YteolfnceobjonaaGreatP26
import Derived.Test.YteolfnceobjonaaGreatP27
import Derived.WalkKit
import Derived.ProofKit
import Derived.OpenShut
import Derived.ShutString
import Derived.ChangeOld
import Derived.Below
namespace Go.Proofs.YteolfnceobjonaaGreat.fnExactLinked
open Go.ChangeShapes Go.WideShapes Go.ChangeAt Go.RowKit
open Go.ChangeMaps (open_string shut_string)
set_option linter.unusedVariables false

theorem own : ownKnob Tryz.prog.godebug = none := by kernel_rfl
theorem laidOut : laidOutB Tryz.prog = true := by kernel_rfl

/-! The walk: the law returns true and writes nothing that was there. -/
set_option maxHeartbeats 1000000 in
set_option maxRecDepth 1000000 in
theorem walk (a0 : Option Addr) (len0 cap0 : Nat) (os0 : List Ob) (w : World) (w0 : ObjsIn w a0 len0 os0) (wl0 : len0 ≤ maxLen) (wm0 : LongOs os0) (wi0 : IntOs os0) :
    Calls Tryz.prog 5 #[.slice a0 len0 cap0] w fun e w' => e = .returned (.bool true) ∧ Below w.heap.size w w' := by
  obtain rfl : os0.length = len0 := w0.1
  have HI : Hid (ObjsIn w a0 os0.length os0) := w0
  have HC0 := szObjectSC a0 os0.length cap0 os0 1048576 w w0 (by omega) (by omega) wl0 wm0
  by_cases hz : ((os0.length + osSz os0 : Nat) : Int) ≤ 1048576
  rotate_left
  · rw [szR_no hz] at HC0
    clear w0 wm0 wi0
    go_enter Tryz.func5, Tryz.ntmps5
    go_wp2_with fail
    refine HC0.mono ?_
    rintro e w1 ⟨rfl, hb1⟩
    go_wp2
    go_ret
    exact ⟨rfl, hb1⟩
  rw [szR_yes hz] at HC0
  have hge : (0 : Int) ≤ 1048576 - ((os0.length + osSz os0 : Nat) : Int) := by omega
  have hln : os0.length ≤ 1048576 := by omega
  have HSZ : Hid (os0.length + osSz os0 ≤ 1048576) := by exact (by omega : os0.length + osSz os0 ≤ 1048576)
  have hsh : ShortOs os0 := shortOs_of (by omega)
  have HSH : Hid (ShortOs os0) := hsh
  have HIN : Hid (IntOs os0) := wi0
  have HTo : Hid (_) := fun (V : World) (h : ObjsIn V a0 os0.length os0) => toObjectSC a0 os0.length cap0 os0 V h hln hsh
  generalize 1048576 - ((os0.length + osSz os0 : Nat) : Int) = left at HC0 hge
  clear w0 wm0 wi0 hsh hz wl0
  have hself : ∀ n : Int, (n != n) = false := by simp
  have hselfb : ∀ b : Bool, (b != b) = false := by simp
  obtain ⟨h64, h200⟩ := linkedV_small os0
  have HS : Hid (∀ (V : World) (g : Nat), ObjsOk V (some ⟨g, 0, none⟩) os0.length os0.length os0 → Calls Tryz.prog 18 #[.slice (some ⟨g, 0, none⟩) os0.length os0.length] V fun e w' => ∃ v xs, e = .returned (.tuple #[.agg #[v], .int .i64 (linkC os0)]) ∧ xs.map (·.1) = linkedV os0 ∧ RtsOwn w' V.heap.size v xs ∧ Below V.heap.size V w') := fun V g h => specLinked (some ⟨g, 0, none⟩) os0.length os0.length os0 V h.in hln HSH.out
  have HIm : Hid (∀ (V : World) (g : Nat), ObjsOk V (some ⟨g, 0, none⟩) os0.length os0.length os0 → Calls Tryz.prog 19 #[.slice (some ⟨g, 0, none⟩) os0.length os0.length] V fun e w' => ∃ v xs, e = .returned (.tuple #[.agg #[v], .int .i64 (linkC os0)]) ∧ xs.map (·.1) = linkedV os0 ∧ RtsOwn w' V.heap.size v xs ∧ ApartR (xs.map rvT) ∧ Below V.heap.size V w') := fun V g h => implLinked (some ⟨g, 0, none⟩) os0.length os0.length os0 V h
  obtain ⟨rs, hrs⟩ : ∃ rs, linkedV os0 = rs := ⟨_, rfl⟩
  obtain ⟨res, hres⟩ : ∃ res, linkC os0 = res := ⟨_, rfl⟩
  rw [hrs, hres] at HS HIm
  rw [hrs] at h64 h200
  have H200 : Hid (∀ r ∈ rs, r.2.2.length ≤ 200) := h200
  have H200j : Hid (∀ j, (rs.getD j rt0).2.2.length ≤ 4194304) := fun j => by
    by_cases hj : j < rs.length
    · have hg : rs.getD j rt0 = rs[j] := by simp [List.getD, hj]
      rw [hg]; have := h200 _ (List.getElem_mem hj); omega
    · have hg : rs.getD j rt0 = rt0 := by simp [List.getD, hj]
      rw [hg]; simp [rt0]
  have hne : (res != res) = false := by simp
  clear hrs hres h200
  go_enter Tryz.func5, Tryz.ntmps5
  go_wp2_with fail
  refine HC0.mono ?_
  rintro e w1 ⟨rfl, hb1⟩
  have hB := hb1
  clear HC0
  go_wp2_with fail
  refine Calls.mono (HTo.out _ (HI.out.below hB)) ?_
  rintro e w2 ⟨rfl, ys2, hy2, hp2, hb2⟩
  have hs2 := hB.size
  obtain ⟨G2, hG2⟩ : ∃ G, w1.heap.size = G := ⟨_, rfl⟩
  rw [hG2] at hp2 hs2
  have ok2 : ObjsOk w2 (some ⟨G2, 0, none⟩) os0.length os0.length os0 := hp2.ok hy2 HIN.out HSH.out rfl hln
  replace hB := hB.trans (hb2.mono hB.size)
  clear hp2 hy2 hb2
  go_wp2_with fail
  refine Calls.mono (HS.out _ _ ok2) ?_
  rintro e w3 ⟨v1, xs1, rfl, hxs1, hof1, hb3⟩
  replace hB := hB.trans (hb3.mono hB.size)
  obtain ⟨a1, c1, rfl, _, hin1⟩ := hof1.in
  rw [hxs1] at hin1
  have hl1 : xs1.length = rs.length := hin1.1.symm
  rw [hl1] at hin1 ⊢
  obtain ⟨n, hn⟩ : ∃ n, rs.length = n := ⟨_, rfl⟩
  have HN : Hid (rs.length = n) := hn
  rw [hn] at hin1 h64 ⊢
  obtain ⟨A, hA0⟩ : ∃ A, w3.heap.size = A := ⟨_, rfl⟩
  obtain ⟨w4, hw4⟩ : ∃ W, w3.alloc (.cells #[.slice a1 n c1] 35) = W := ⟨_, rfl⟩
  have hb4 : Below w3.heap.size w3 w4 := by rw [← hw4]; exact (Below.refl _ _).alloc (Nat.le_refl _) _
  have hA4 := heap_alloc_new w3 (.cells #[.slice a1 n c1] 35)
  rw [hw4, hA0] at hA4
  have hAl : A < w4.heap.size := lt_of_block hA4
  have HA : Hid (∀ V, Below w4.heap.size w4 V → V.cell? ⟨A, 0, none⟩ = some (.slice a1 n c1) ∧ RtsIn V a1 n rs) := fun V h => ⟨(h.cell (p := ⟨A, 0, none⟩) hAl).trans (cell_of_one hA4), (hin1.below hb4).below h⟩
  replace hB := hB.trans (hb4.mono hB.size)
  have HB4 : Hid (Below w.heap.size w w4) := hB
  have hC : Below w4.heap.size w4 w4 := Below.refl _ _
  clear ok2 hb3 hs2 hG2 hb1 hb4 hin1 hof1 hxs1 hl1 hA4 hAl hn
  go_wp2_with fail
  refine Calls.mono (HTo.out _ (HI.out.below hB)) ?_
  rintro e w5 ⟨rfl, ys5, hy5, hp5, hb5⟩
  have hs5 := hB.size
  obtain ⟨G5, hG5⟩ : ∃ G, w4.heap.size = G := ⟨_, rfl⟩
  rw [hG5] at hp5 hs5
  have ok5 : ObjsOk w5 (some ⟨G5, 0, none⟩) os0.length os0.length os0 := hp5.ok hy5 HIN.out HSH.out rfl hln
  replace hB := hB.trans (hb5.mono hB.size)
  replace hC := hC.trans (hb5.mono (Nat.le_refl _))
  have hGT := hb5.size
  obtain ⟨T, hT⟩ : ∃ T, w5.heap.size = T := ⟨_, rfl⟩
  rw [hG5, hT] at hGT
  rw [hT] at hp5
  clear hb5
  go_wp2_with fail
  refine Calls.mono (HIm.out _ _ ok5) ?_
  rintro e w6 ⟨v6, xs6, rfl, hxs6, hof6, hap6, hb6⟩
  obtain ⟨a6, c6, rfl, _, hin6⟩ := hof6.in
  rw [hxs6] at hin6
  have hl6 : xs6.length = n := by rw [← HN.out]; exact hin6.1.symm
  have HXm : Hid (xs6.map (·.1) = rs) := hxs6
  have h206 : Hid (∀ x ∈ xs6, x.1.2.2.length ≤ 200) := fun x hx => H200.out _ (hxs6 ▸ List.mem_map_of_mem hx : x.1 ∈ rs)
  have hre : rend 1 xs6 ≤ 30000000 := by have := rend_small 1 xs6 h206.out; omega
  have HL6 : Hid (xs6.length = n) := hl6
  rw [hl6] at hin6 hof6 ⊢
  rw [hT] at hof6
  obtain ⟨B, hB0⟩ : ∃ B, w6.heap.size = B := ⟨_, rfl⟩
  obtain ⟨w7, hw7⟩ : ∃ W, w6.alloc (.cells #[.slice a6 n c6] 35) = W := ⟨_, rfl⟩
  have hb7 : Below w6.heap.size w6 w7 := by rw [← hw7]; exact (Below.refl _ _).alloc (Nat.le_refl _) _
  have hA7 := heap_alloc_new w6 (.cells #[.slice a6 n c6] 35)
  rw [hw7, hB0] at hA7
  have hTB : T ≤ B := by have := hb6.size; omega
  have hb57 : Below w5.heap.size w5 w7 := hb6.trans (hb7.mono hb6.size)
  have hPB : Hid (∀ k, RtBlocks (.slice a6 n c6) xs6 k → T ≤ k ∧ k < B) := by
    intro k hk
    rw [← hB0]
    rcases hk with e | ⟨x, hx, e⟩
    · exact hof6.row.lt k e
    · exact (hof6.trees x hx).lt k e
  have hO7 : RtsOwn w7 T (.slice a6 n c6) xs6 := hof6.below hb7
  have hI7 : RtsIn w7 a6 n rs := hin6.below hb7
  have hB7 : w7.heap[B]? = some (.cells #[.slice a6 n c6] 35) := hA7
  have hp7 := hp5.below hb57
  have ok7 := ok5.below hb57
  replace hC := hC.trans (hb57.mono hC.size)
  have HAp : Hid (ApartR (xs6.map rvT)) := hap6
  have HE1 : Hid (_) := eqImageC a6 a1 n c6 c1 rs w7 hI7 (HA.out w7 hC).2 (by omega) H200j.out
  have f0 := (HA.out w7 hC).1
  have g0 : w7.cell? ⟨B, 0, none⟩ = some (.slice a6 n c6) := cell_of_one hB7
  clear hb6 hb7 hb57 hof6 hap6 hin6 hA7 hxs6 hl6 hp5 ok5 hT hI7
  go_wp2_with fail
  refine Calls.mono HE1.out ?_
  rintro e w8 ⟨rfl, hb8⟩
  have hp8 := hp7.below hb8
  have ok8 := ok7.below hb8
  have hO8 := hO7.below hb8
  have hB8 := (hb8.block B (lt_of_block hB7)).trans hB7
  replace hC := hC.trans (hb8.mono hC.size)
  replace hB := HB4.out.trans (hC.mono HB4.out.size)
  clear HE1 hb8 hp7 ok7 hO7 hB7 f0 g0
  go_wp2_with fail
  refine Calls.mono (HTo.out _ (HI.out.below hB)) ?_
  rintro e w9 ⟨rfl, ys9, hy9, hp9, hb9⟩
  have hs9 := hB.size
  obtain ⟨G9, hG9⟩ : ∃ G, w8.heap.size = G := ⟨_, rfl⟩
  rw [hG9] at hp9 hs9
  have ok9 : ObjsOk w9 (some ⟨G9, 0, none⟩) os0.length os0.length os0 := hp9.ok hy9 HIN.out HSH.out rfl hln
  have hp9a := hp8.below hb9
  have ok9a := ok8.below hb9
  have hO9 := hO8.below hb9
  have hB9 := (hb9.block B (lt_of_block hB8)).trans hB8
  replace hC := hC.trans ((Below.mono hb9 hC.size))
  replace hB := HB4.out.trans (hC.mono HB4.out.size)
  have HE : Hid (_) := eqObjectSC (some ⟨G5, 0, none⟩) (some ⟨G9, 0, none⟩) os0.length os0.length os0.length os0 w9 ok9a.in ok9.in (by omega) HSH.out
  clear hp9 hy9 hb9 ok9 ok9a hp8 ok8 hO8 hB8
  go_wp2_with fail
  refine Calls.mono HE.out ?_
  rintro e w10 ⟨rfl, hb10⟩
  have hp10 := hp9a.below hb10
  have hO10 := hO9.below hb10
  have hB10 := (hb10.block B (lt_of_block hB9)).trans hB9
  replace hC := hC.trans (hb10.mono hC.size)
  have hyl : ys5.length = os0.length := by rw [← hy5, List.length_map]
  obtain ⟨hsm1, hsm2⟩ := oj_small hy5 HSZ.out
  have hp10' := hp10
  rw [← hyl] at hp10'
  have HM := markObjectSC w10 G5 T G5 ys5.length 1 ys5 hp10' (by omega) hsm1 (by omega) hsm2
  rw [hyl] at HM
  obtain ⟨M, hM⟩ : ∃ M, oend 1 ys5 = M := ⟨_, rfl⟩
  rw [hM] at HM
  have HMk : Hid (_) := HM
  clear HE hb10 hp9a hO9 hB9 hp10' hsm1 hsm2 HM hM
  go_wp2_with fail
  refine Calls.mono HMk.out ?_
  rintro e w11 ⟨rfl, hw11⟩
  have hO11 : RtsOwn w11 T (.slice a6 n c6) xs6 := ⟨own_wroteR hO10.row hw11 (fun k e h => by have := (hO10.row.lt k e).1; omega), fun x hx => own_wroteR (hO10.trees x hx) hw11 (fun k e h => by have := ((hO10.trees x hx).lt k e).1; omega)⟩
  have hB11 : w11.heap[B]? = some (.cells #[.slice a6 n c6] 35) := (hw11.block B (lt_of_block hB10) (fun h => by omega)).trans hB10
  have hC11 : Below w4.heap.size w4 w11 := hC.trans (hw11.below hC.size (fun k h => by omega))
  have hI11 : RtsIn w11 a6 n rs := by
    obtain ⟨a', c', e', _, hi'⟩ := hO11.in
    injection e' with e1 _ _
    subst e1
    rw [HL6.out, HXm.out] at hi'
    exact hi'
  have HQ2 : Hid (_) := eqImageC a6 a1 n c6 c1 rs w11 hI11 (HA.out w11 hC11).2 (by omega) H200j.out
  have hM0 : ¬ ((M : Int) < 0) := by omega
  have f0 := (HA.out w11 hC11).1
  have g0 : w11.cell? ⟨B, 0, none⟩ = some (.slice a6 n c6) := cell_of_one hB11
  clear HMk hp10 hO10 hB10 hC hw11 hI11
  go_wp2_with fail
  refine Calls.mono HQ2.out ?_
  rintro e w12 ⟨rfl, hb12⟩
  have hO12 := hO11.below hb12
  have hB12 := (hb12.block B (lt_of_block hB11)).trans hB11
  have hC12 := hC11.trans (hb12.mono hC11.size)
  have HMI : Hid (_) := markImageV w12 T 1 (.slice a6 n c6) xs6 (by have := HL6.out; omega) (by omega) hre (fun x hx => by have := h206.out x hx; omega) HAp.out hO12
  replace g0 : w12.cell? ⟨B, 0, none⟩ = some (.slice a6 n c6) := cell_of_one hB12
  replace f0 := (HA.out w12 hC12).1
  have hge2 : ¬ ((rend 1 xs6 : Nat) : Int) < 0 := by omega
  clear HQ2 hb12 hO11 hB11 hC11 hO12
  go_wp2_with fail
  refine Calls.mono HMI.out ?_
  rintro e w13 ⟨rfl, hof13, hw13⟩
  have hT4 : w4.heap.size ≤ T := by omega
  have hC13 : Below w4.heap.size w4 w13 := hC12.trans (hw13.below hC12.size (fun k e => by have := (hPB.out k e).1; omega))
  have HB13 : Hid (w13.heap[B]? = some (.cells #[.slice a6 n c6] 35)) := (hw13.block B (lt_of_block hB12) (fun e => by have := (hPB.out B e).2; omega)).trans hB12
  replace f0 := (HA.out w13 hC13).1
  replace g0 : w13.cell? ⟨B, 0, none⟩ = some (.slice a6 n c6) := cell_of_one HB13.out
  have HHd : Hid (∀ V, RtsOwn V T (.slice a6 n c6) (rmark 1 xs6) → _) := fun V h => heldImageV V T 1 (.slice a6 n c6) xs6 (by have := HL6.out; omega) (by omega) hre (fun x hx => by have := h206.out x hx; omega) (rmark_len 1 xs6) h
  have HO13 : Hid (RtsOwn w13 T (.slice a6 n c6) (rmark 1 xs6)) := hof13
  clear hw13 hof13 HMI hre hC12 hB12
  generalize rend 1 xs6 = z at HHd hge2 ⊢
  have hzz : ((z : Int) != (z : Int)) = false := by simp
  go_wp2_with fail
  refine Calls.mono (HHd.out _ HO13.out) ?_
  rintro e w14 ⟨rfl, hg14⟩
  have hC14 : Below w4.heap.size w4 w14 := hC13.grown hg14 hC13.size (by simp)
  have HO14 : Hid (RtsOwn w14 T (.slice a6 n c6) (rmark 1 xs6)) := HO13.out.none hg14
  have HB14 : Hid (w14.heap[B]? = some (.cells #[.slice a6 n c6] 35)) := (hg14.block B (lt_of_block HB13.out) (by simp)).trans HB13.out
  replace hB := HB4.out.trans (hC14.mono HB4.out.size)
  clear hg14 hC13 f0 g0
  go_wp2_with fail
  refine Calls.mono (HTo.out _ (HI.out.below hB)) ?_
  rintro e w15 ⟨rfl, ys15, hy15, hp15, hb15⟩
  have hs15 := hB.size
  obtain ⟨G15, hG15⟩ : ∃ G, w14.heap.size = G := ⟨_, rfl⟩
  rw [hG15] at hp15 hs15
  have ok15 : ObjsOk w15 (some ⟨G15, 0, none⟩) os0.length os0.length os0 := hp15.ok hy15 HIN.out HSH.out rfl hln
  have hb15s := hb15
  replace hB := hB.trans (hb15.mono hB.size)
  have hC15 := hC14.trans (hb15s.mono hC14.size)
  have HO15 : Hid (RtsOwn w15 T (.slice a6 n c6) (rmark 1 xs6)) := HO14.out.below hb15s
  have HB15 : Hid (w15.heap[B]? = some (.cells #[.slice a6 n c6] 35)) := (hb15s.block B (lt_of_block HB14.out)).trans HB14.out
  clear hp15 hy15 hb15 hb15s hC14
  go_wp2_with fail
  refine Calls.mono (HIm.out _ _ ok15) ?_
  rintro e w16 ⟨v8, xs8, rfl, hxs8, hof8, _, hb16⟩
  obtain ⟨a8, c8, rfl, _, hin8⟩ := hof8.in
  rw [hxs8] at hin8
  have hl8 : xs8.length = n := by rw [← HN.out]; exact hin8.1.symm
  rw [hl8] at hin8 ⊢
  obtain ⟨H, hH0⟩ : ∃ H, w16.heap.size = H := ⟨_, rfl⟩
  obtain ⟨w17, hw17⟩ : ∃ W, w16.alloc (.cells #[.slice a8 n c8] 35) = W := ⟨_, rfl⟩
  have hb17 : Below w16.heap.size w16 w17 := by rw [← hw17]; exact (Below.refl _ _).alloc (Nat.le_refl _) _
  have hA17 := heap_alloc_new w16 (.cells #[.slice a8 n c8] 35)
  rw [hw17, hH0] at hA17
  have hb57 : Below w15.heap.size w15 w17 := hb16.trans (hb17.mono hb16.size)
  have hC17 : Below w4.heap.size w4 w17 := hC15.trans (hb57.mono hC15.size)
  have HO17 : Hid (RtsOwn w17 T (.slice a6 n c6) (rmark 1 xs6)) := HO15.out.below hb57
  have HB17 : Hid (w17.heap[B]? = some (.cells #[.slice a6 n c6] 35)) := (hb57.block B (lt_of_block HB15.out)).trans HB15.out
  have HQ3 : Hid (_) := eqImageC a8 a1 n c8 c1 rs w17 (hin8.below hb17) (HA.out w17 hC17).2 (by omega) H200j.out
  have f0 := (HA.out w17 hC17).1
  have g0 : w17.cell? ⟨B, 0, none⟩ = some (.slice a6 n c6) := cell_of_one HB17.out
  have h0 : w17.cell? ⟨H, 0, none⟩ = some (.slice a8 n c8) := cell_of_one hA17
  clear hb16 hb17 hb57 hof8 hin8 hxs8 hl8 hA17 ok15 hC15
  go_wp2_with fail
  refine Calls.mono HQ3.out ?_
  rintro e w18 ⟨rfl, hb18⟩
  have hC18 := hC17.trans (hb18.mono hC17.size)
  have HO18 : Hid (RtsOwn w18 T (.slice a6 n c6) (rmark 1 xs6)) := HO17.out.below hb18
  replace g0 : w18.cell? ⟨B, 0, none⟩ = some (.slice a6 n c6) := cell_of_one ((hb18.block B (lt_of_block HB17.out)).trans HB17.out)
  clear hb18 f0 h0 hC17 HQ3
  go_wp2_with fail
  refine Calls.mono (HHd.out _ HO18.out) ?_
  rintro e w19 ⟨rfl, hg19⟩
  have hC19 := hC18.grown hg19 hC18.size (by simp)
  clear hg19
  go_wp2
  go_ret
  exact ⟨rfl, HB4.out.trans (hC19.mono HB4.out.size)⟩

set_option maxRecDepth 100000 in
theorem lifted (os : Os) (started : os.Started) (H : Type) (enc : TypeId × Value → H) :
    ReturnsInHanded {} Tryz.checked os 5 .any (Rows.fnExactLinkedSpec.pre6 enc Tryz.prog Tryz.f5 Rows.fnExactLinkedRow.domain false) (Rows.fnExactLinkedSpec.post enc Tryz.prog Tryz.f5 false true false false) := by
  refine returnsInHanded_of_change (C := Tryz.checked) own started (by kernel_rfl) Tryz.func5
    (ChangeSpec.witness6 (enc := enc) (C := Tryz.checked) false ⟨#[], #[.slice none 0 0], []⟩ 8 (by kernel_rfl) (by kernel_rfl) (by kernel_rfl) (by kernel_rfl)) ?_
  intro W base args ds gs before hval0 hW hcnd _
  have hval : ∀ (j : Nat) t v, Tryz.f5.params[j]? = some t → args[j]? = some v → Value.okWide Tryz.prog W .any base t v := hval0
  have hW' := hW
  obtain ⟨p, q, hA0, hV, rfl, hfz, hnd⟩ := hW
  have hA : DataW.TrodAll enc Tryz.prog W 0 (fun _ => true) true Tryz.f5.params.toList args.toList ds p := hA0
  rw [Tryz.params5] at hA hval
  obtain ⟨v0, vs0, d0, ds0, p0, q0, hargs, rfl, rfl, h0, r0⟩ := trodAll_cons hA
  obtain ⟨rfl, rfl, rfl⟩ := trodAll_nil r0
  obtain rfl : args = #[v0] := by cases args; simp_all
  obtain ⟨rfl, rfl⟩ := trodVars_none hV
  have k0 := h0
  have lt0 : ∀ x ∈ p0, x.block < W.heap.size := by obtain ⟨m, hm⟩ := k0; exact DataW.trod_lt m _ _ _ hm
  obtain ⟨a0, len0, cap0, os0, rfl, w0, wl0, wm0, wi0⟩ := open_objects (hval 0 22 v0 rfl rfl) h0
  clear hA0 hval0
  refine (walk a0 len0 cap0 os0 W w0 wl0 wm0 wi0).mono fun e W' ⟨he, bel⟩ => ?_
  subst he
  exact ⟨_, rfl, _, _, _, [], _, [], hW', trodAll_mk1 (shut_bool Tryz.underlying4 _), (trodAll_cons_mk (Below.trod laidOut (by kernel_rfl) (of_decide_eq_true (by kernel_rfl)) k0 bel lt0) trodAll_mk0), rfl, bel.frame _, fun h => by cases h⟩

theorem over : Rows.fnExactLinkedRow.holds Tryz.pinned (OpenSpec.ofChange Rows.fnExactLinkedSpec) :=
  OpenClaim.holds_of_wide 5 Tryz.f5 rfl rfl rfl rfl rfl rfl rfl ⟨rfl, rfl, rfl, rfl, rfl⟩ rfl rfl rfl rfl rfl (by kernel_rfl) Tryz.func5 (by kernel_rfl)
    (of_decide_eq_true (by kernel_rfl)) (by unfold Func.isWrapper; first | (rw [if_pos (by decide +kernel)]; kernel_rfl) | (rw [if_neg (by decide +kernel)]; exact ⟨rfl, rfl⟩))
    (fun os started H enc _ => lifted os started H enc)

theorem proved : Rows.FnExactLinkedSaid :=
  over
#print axioms proved
end Go.Proofs.YteolfnceobjonaaGreat.fnExactLinked
