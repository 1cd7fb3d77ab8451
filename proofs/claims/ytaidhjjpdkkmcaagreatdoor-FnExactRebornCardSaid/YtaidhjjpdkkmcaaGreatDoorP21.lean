/-
  Parts of one proof, one behind the other: ProjM, NodeIn, PackIn, ProjIn, ProjK, HasI.
-/
import Derived.Test.YtaidhjjpdkkmcaaGreatDoorP20
import Derived.Deep.RegionWith
import Derived.Test.YtaidhjjpdkkmcaaGreatDoorP10
import Derived.Test.YtaidhjjpdkkmcaaGreatDoorRows
import Derived.WalkKit
import Derived.ProofKit
import Derived.OpenShut
import Derived.ShutString
import Derived.ChangeOld
import Derived.Below
import Derived.Lib.SmallJoins
import Derived.Deep.SlicePairs
import Derived.Test.YtaidhjjpdkkmcaaGreatDoorP11
import Derived.SliceStrings
import Derived.Test.YtaidhjjpdkkmcaaGreatDoorP18
import Derived.Test.YtaidhjjpdkkmcaaGreatDoorP4

/-! The laws' own helper markPackageS. -/
namespace Go.Proofs.YtaidhjjpdkkmcaaGreatDoor
open Go.RowKit

set_option maxHeartbeats 1000000 in
set_option maxRecDepth 100000 in
theorem markStrCB (w : World) (base g cp n k0 : Nat) (xs : List Value) (hn : n ≤ 1100000) (hk0 : 0 < k0) (hk1 : k0 ≤ 30000000)
 (h : w.ownsRow base 9 1 (.slice (some ⟨g, 0, none⟩) n cp) n xs) :
 Calls Tryz.prog 28 #[.slice (some ⟨g, 0, none⟩) n cp, .int .i64 k0] w fun e w' => e = .returned (.int .i64 ((k0 + n : Nat) : Int)) ∧ w'.ownsRow base 9 1 (.slice (some ⟨g, 0, none⟩) n cp) n (marksV k0 n) ∧ w.grownBy w' (some g) := by
 have hxl : Hid (xs.length = n) := by exact (by have := h.1; omega : xs.length = n)
 have hgl : g < w.heap.size := (h.lt g rfl).2
 go_enter Tryz.func28, Tryz.ntmps28
 go_wp2
 go_loopw [1, 5] (fun k i wr => ∃ m : Nat, m ≤ n ∧ i = .int .i64 m ∧ k = .int .i64 ((k0 + m : Nat) : Int) ∧ wr.ownsRow base 9 1 (.slice (some ⟨g, 0, none⟩) n cp) n (marksV k0 m ++ xs.drop m) ∧ w.grownBy wr (some g)) (fun _ i _ => n - (intOf i).toNat)
 case atStart => exact ⟨0, Nat.zero_le _, rfl, rfl, h, World.grownBy.refl _ _⟩
 case round =>
  obtain ⟨m, hm, rfl, rfl, hown, hg⟩ := hrel
  by_cases hlt : m < n
  ·
   go_wp2_with fail
   refine (markTextC (k0 + m) _ (by omega) (by omega)).mono ?_
   rintro e w1 ⟨rfl, hg1⟩
   have hown1 := own_none hown hg1
   have hc1 : ∃ u, w1.cell? ⟨g, m, none⟩ = some u := by
    rw [hown1.cellAt m (by omega)]
    have hl : m < (marksV k0 m ++ xs.drop m).length := by rw [List.length_append, marksV_len, List.length_drop]; have := hxl.out; omega
    exact ⟨_, List.getElem?_eq_getElem hl⟩
   obtain ⟨u, hc1⟩ := hc1
   have hf1 := hown1.frozenAt m
   have hst := hown1.stored m (.string ⟨(markL (k0 + m)).toArray⟩)
   rw [marks_set k0 m xs (by have := hxl.out; omega)] at hst
   have hg2 : w.grownBy w1 (some g) := hg.andThen hg1 (by simp)
   have hst2 := hg2.trans hst.2
   have hst1 := hst.1
   clear hown hown1 hg1 hst hg2 hg
   go_wp2
   go_roundw
   case rel => exact ⟨m + 1, by omega, by go_num, by go_num, hst1, hst2⟩
   case measure => simp [intOf]; omega
  ·
   obtain rfl : m = n := by omega
   have hd : xs.drop m = [] := List.drop_eq_nil_of_le (by have := hxl.out; omega)
   rw [hd, List.append_nil] at hown
   clear hd
   go_wp2
   go_ret
   exact ⟨rfl, hown, hg⟩

theorem markStrVB (w : World) (base n k0 : Nat) (v : Value) (xs : List Value) (hn : n ≤ 1100000) (hk0 : 0 < k0) (hk1 : k0 ≤ 30000000) (h : w.ownsRow base 9 1 v n xs) :
 Calls Tryz.prog 28 #[v, .int .i64 k0] w fun e w' => e = .returned (.int .i64 ((k0 + n : Nat) : Int)) ∧ w'.ownsRow base 9 1 v n (marksV k0 n) ∧ w.grownBy w' v.ownBlock := by
 rcases own_forms h with ⟨rfl, rfl, rfl⟩ | ⟨g, cp, rfl⟩
 ·
  refine (markStrNil w k0).mono ?_
  rintro e w' ⟨rfl, rfl⟩
  exact ⟨rfl, h, World.grownBy.refl _ _⟩
 ·
  exact markStrCB w base g cp n k0 xs hn hk0 hk1 h

/-- Where the marks end. -/
def mend (k : Nat) : List PV → Nat
 | [] => k
 | y :: r => mend (fend (k + 1 + y.ims.length) y.xs) r
theorem mend_snoc (k : Nat) (ys : List PV) (j : Nat) (hj : j < ys.length) : mend k (ys.take (j + 1)) = fend (mend k (ys.take j) + 1 + (ys.getD j pv0).ims.length) (ys.getD j pv0).xs := by
 have e : ys.getD j pv0 = ys[j] := by simp [List.getD, hj]
 have app : ∀ (x y : List PV) (k : Nat), mend k (x ++ y) = mend (mend k x) y := by
  intro x
  induction x with
  | nil => intro y k; rfl
  | cons a r ih => intro y k; simp only [List.cons_append, mend, ih]
 rw [List.take_succ_eq_append_getElem hj, app, e]
 rfl
theorem mend_ge (k : Nat) (ys : List PV) : k ≤ mend k ys := by
 induction ys generalizing k with
 | nil => exact Nat.le_refl _
 | cons y r ih =>
  have h1 := ih (fend (k + 1 + y.ims.length) y.xs)
  have h2 := fend_ge (k + 1 + y.ims.length) y.xs
  unfold mend; omega
theorem mend_take (k : Nat) (ys : List PV) (j : Nat) : mend k (ys.take j) ≤ mend k ys := by
 have app : ∀ (x y : List PV) (k : Nat), mend k (x ++ y) = mend (mend k x) y := by
  intro x
  induction x with
  | nil => intro y k; rfl
  | cons a r ih => intro y k; simp only [List.cons_append, mend, ih]
 have := app (ys.take j) (ys.drop j) k
 rw [List.take_append_drop] at this
 rw [this]
 exact mend_ge _ _
theorem pvsV_name (ys : List PV) (j : Nat) (x : List UInt8) : (pvsV ys).set (j * 3) (.string ⟨x.toArray⟩) = pvsV (ys.set j ⟨x, (ys.getD j pv0).ims, (ys.getD j pv0).xs, (ys.getD j pv0).ia, (ys.getD j pv0).ic, (ys.getD j pv0).fa, (ys.getD j pv0).fc, (ys.getD j pv0).lo, (ys.getD j pv0).hi⟩) := by
 induction ys generalizing j with
 | nil => simp [pvsV]
 | cons b r ih =>
  cases j with
  | zero => simp [pvsV, pvI, pvF]
  | succ j => rw [show (j + 1) * 3 = j * 3 + 1 + 1 + 1 by omega]; simp [pvsV, ih]
theorem PvOk.blocks {w : World} {y : PV} (h : PvOk w y) {q : Nat} (hq : PkBlocks (pvI y) (pvF y) y.xs q) : y.lo ≤ q ∧ q < y.hi := by
 refine ⟨?_, h.top q hq⟩
 rcases hq with e | e | ⟨x, hx, e⟩
 ·
  exact (h.im.lt q e).1
 ·
  exact (h.fo.row.lt q e).1
 ·
  exact ((h.fo.trees x hx).lt q e).1
/-- Rows that bear the same lists. -/
def SameL (zs ys : List PV) : Prop := zs.length = ys.length ∧ ∀ i, pvI (zs.getD i pv0) = pvI (ys.getD i pv0) ∧ pvF (zs.getD i pv0) = pvF (ys.getD i pv0)
theorem SameL.name {zs ys : List PV} (h : SameL zs ys) (j : Nat) (x : List UInt8) : SameL (zs.set j ⟨x, (zs.getD j pv0).ims, (zs.getD j pv0).xs, (zs.getD j pv0).ia, (zs.getD j pv0).ic, (zs.getD j pv0).fa, (zs.getD j pv0).fc, (zs.getD j pv0).lo, (zs.getD j pv0).hi⟩) ys := by
 refine ⟨by rw [List.length_set]; exact h.1, fun i => ?_⟩
 by_cases hij : j = i
 ·
  subst hij
  by_cases hj : j < zs.length
  ·
   rw [show (zs.set j _).getD j pv0 = ⟨x, (zs.getD j pv0).ims, (zs.getD j pv0).xs, (zs.getD j pv0).ia, (zs.getD j pv0).ic, (zs.getD j pv0).fa, (zs.getD j pv0).fc, (zs.getD j pv0).lo, (zs.getD j pv0).hi⟩ by simp [List.getD, hj]]
   exact ⟨(h.2 j).1, (h.2 j).2⟩
  ·
   rw [List.set_eq_of_length_le (by omega)]; exact h.2 j
 ·
  rw [show (zs.set j _).getD i pv0 = zs.getD i pv0 by simp [List.getD, List.getElem?_set_ne hij]]
  exact h.2 i

set_option maxHeartbeats 4000000 in
set_option maxRecDepth 100000 in
theorem markPackageSC (w : World) (B T g cp k0 : Nat) (ys : List PV) (h : PjOwn w B T (.slice (some ⟨g, 0, none⟩) ys.length cp) ys) (hn : ys.length ≤ 1048576) (hb : ∀ y ∈ ys, y.ims.length ≤ 1100000 ∧ y.xs.length ≤ 1100000 ∧ ∀ x ∈ y.xs, x.1.2.2.length ≤ 1100000) (hk0 : 0 < k0) (hk1 : mend k0 ys ≤ 30000000) :
 Calls Tryz.prog 10 #[.slice (some ⟨g, 0, none⟩) ys.length cp, .int .i64 k0] w fun e w' => e = .returned (.int .i64 ((mend k0 ys : Nat) : Int)) ∧ Wrote w w' (fun q => B ≤ q ∧ q < T) := by
 have HB : Hid (∀ y ∈ ys, y.ims.length ≤ 1100000 ∧ y.xs.length ≤ 1100000 ∧ ∀ x ∈ y.xs, x.1.2.2.length ≤ 1100000) := hb
 have hgb := h.row.lt g rfl
 have hgo := h.off g rfl
 have HGO : Hid (∀ y ∈ ys, g < y.lo ∨ y.hi ≤ g) := hgo.2
 have hgT : g < T := hgo.1
 have HSQ : Hid (ys.Pairwise (fun a b => a.hi ≤ b.lo)) := h.seq
 have HLH : Hid (∀ y ∈ ys, B ≤ y.lo ∧ y.hi ≤ T) := fun y hy => (h.each y hy).2
 have HR0 : Hid (w.ownsRow B 51 3 (.slice (some ⟨g, 0, none⟩) ys.length cp) ys.length (pvsV ys)) := h.row
 have HE0 : Hid (∀ j, 0 ≤ j → j < ys.length → PvOk w (ys.getD j pv0)) := fun j _ hj => (h.each _ (by simp [List.getD, hj])).1
 have HS0 : Hid (SameL ys ys) := ⟨rfl, fun _ => ⟨rfl, rfl⟩⟩
 have HMT : Hid (∀ j, mend k0 (ys.take j) ≤ mend k0 ys) := mend_take k0 ys
 have HMG : Hid (∀ j, k0 ≤ mend k0 (ys.take j)) := fun j => mend_ge _ _
 clear h hb hgo
 go_enter Tryz.func10, Tryz.ntmps10
 go_wp2
 go_loopw [1, 5] (fun kv iv wr => ∃ (j : Nat) (zs : List PV), j ≤ ys.length ∧ iv = .int .i64 (j : Int) ∧ kv = .int .i64 ((mend k0 (ys.take j) : Nat) : Int) ∧ Hid (SameL zs ys) ∧ Hid (wr.ownsRow B 51 3 (.slice (some ⟨g, 0, none⟩) ys.length cp) ys.length (pvsV zs)) ∧ Hid (∀ i, j ≤ i → i < ys.length → PvOk wr (ys.getD i pv0)) ∧ Hid (Wrote w wr (fun q => B ≤ q ∧ q < T))) (fun _ iv _ => ys.length - (intOf iv).toNat)
 case atStart => exact ⟨0, ys, by omega, rfl, rfl, HS0, HR0, HE0, Wrote.refl _ _⟩
 case round =>
  obtain ⟨j, zs, hj, rfl, rfl, HS, HR, HE, HW⟩ := hrel
  clear HS0 HR0 HE0
  by_cases hlt : (j : Int) < (ys.length : Int)
  ·
   have hj2 : j < ys.length := by omega
   have hmem : ys.getD j pv0 ∈ ys := by simp [List.getD, hj2]
   have hyok := HE.out j (Nat.le_refl _) hj2
   have hbd := HB.out _ hmem
   have hlh := HLH.out _ hmem
   have hgo := HGO.out _ hmem
   have hst := mend_snoc k0 ys j hj2
   have hm1 := HMT.out (j + 1)
   have hmg := HMG.out j
   have hsi := HS.out.2 j
   have hzl := HS.out.1
   obtain ⟨v0, v1, v2⟩ := pvsV_at zs j (by omega)
   rw [hsi.1] at v1
   rw [hsi.2] at v2
   have hrow := HR.out
   have hlater : ∀ i, j + 1 ≤ i → i < ys.length → (ys.getD j pv0).hi ≤ (ys.getD i pv0).lo := fun i hi1 hi2 => by
    have := List.pairwise_iff_getElem.1 HSQ.out j i hj2 hi2 (by omega)
    simpa [List.getD, hj2, hi2] using this
   have HLT : Hid (∀ i, j + 1 ≤ i → i < ys.length → (ys.getD j pv0).hi ≤ (ys.getD i pv0).lo) := hlater
   obtain ⟨y, hy⟩ : ∃ y, ys.getD j pv0 = y := ⟨_, rfl⟩
   rw [hy] at hyok hbd hlh hgo hst v1 v2 HLT
   obtain ⟨m, hm⟩ : ∃ m, mend k0 (ys.take j) = m := ⟨_, rfl⟩
   rw [hm] at hst hmg ⊢
   obtain ⟨u0, d0⟩ : ∃ u, wr.cell? ⟨g, j * 3, none⟩ = some u := by
    rw [hrow.cellAt (j * 3) (by omega), v0]; exact ⟨_, rfl⟩
   have HY : Hid (ys.getD j pv0 = y) := hy
   have HMJ : Hid (mend k0 (ys.take j) = m) := hm
   clear hlater hy hm hsi hmem
   have hfg := fend_ge (m + 1 + y.ims.length) y.xs
   have hM : m + 1 + y.ims.length ≤ 30000000 := by omega
   go_wp2_with fail
   refine (markTextC m _ (by omega) (by omega)).mono ?_
   rintro e w1 ⟨rfl, hg1⟩
   have hrow1 := own_none hrow hg1
   have hb1 : Below wr.heap.size wr w1 := ⟨hg1.os, hg1.tape, hg1.output, hg1.size, fun q hq => hg1.block q hq (by simp)⟩
   obtain ⟨x0, hx0⟩ : ∃ x0, markL m = x0 := ⟨_, rfl⟩
   rw [hx0]
   have e0 : w1.cell? ⟨g, j * 3, none⟩ = some u0 := (hb1.cell (p := ⟨g, j * 3, none⟩) (hrow.lt g rfl).2).trans d0
   have f0 := hrow1.frozenAt (j * 3)
   obtain ⟨hrow2, hg2⟩ := hrow1.stored (j * 3) (.string ⟨x0.toArray⟩)
   rw [pvsV_name zs j x0] at hrow2
   have HS2 := HS.out.name j x0
   generalize zs.set j _ = zs2 at hrow2 HS2
   obtain ⟨Z, hZ⟩ : ∃ Z, w1.setCell ⟨g, j * 3, none⟩ (.string ⟨x0.toArray⟩) = Z := ⟨_, rfl⟩
   rw [hZ] at hrow2 hg2
   have hwZ : Wrote wr Z (fun q => q = g) := (Wrote.of_below hb1).trans (Wrote.of_grown hg2 (fun q e => by injection e with e; exact e.symm))
   have hyZ : PvOk Z y := hyok.wrote hwZ (fun q e => by rw [e]; exact hgo)
   have hsz2 := HS2.1
   obtain ⟨_, t1, t2⟩ := pvsV_at zs2 j (by omega)
   rw [(HS2.2 j).1, HY.out] at t1
   rw [(HS2.2 j).2, HY.out] at t2
   have k1 : Z.cell? ⟨g, j * 3 + 1, none⟩ = some (pvI y) := (hrow2.cellAt (j * 3 + 1) (by omega)).trans t1
   have HC1 := markStrVB Z y.lo y.ims.length (m + 1) (pvI y) _ hbd.1 (by omega) (by omega) hyZ.im
   rw [show ((m + 1 : Nat) : Int) = (m : Int) + 1 by omega] at HC1
   have HS3 : Hid (SameL zs2 ys) := HS2
   have HR2 : Hid (Z.ownsRow B 51 3 (.slice (some ⟨g, 0, none⟩) ys.length cp) ys.length (pvsV zs2)) := hrow2
   have HYZ : Hid (PvOk Z y) := hyZ
   have HWZ : Hid (Wrote wr Z (fun q => q = g)) := hwZ
   have HT2 : Hid ((pvsV zs2)[j * 3 + 2]? = some (pvF y)) := t2
   clear hrow hrow1 hrow2 hg1 hb1 hg2 hwZ hyok hyZ t1 t2 v0 v1 v2 HS2 HS HR hx0
   go_wp2_with fail
   refine HC1.mono ?_
   rintro e w3 ⟨rfl, _, hg3⟩
   have hrow3 := HR2.out.kept hg3 (own_types HR2.out HYZ.out.im (by decide))
   have k2 : w3.cell? ⟨g, j * 3 + 2, none⟩ = some (pvF y) := (hrow3.cellAt (j * 3 + 2) (by omega)).trans HT2.out
   have hf3 := HYZ.out.fo.texts HYZ.out.im hg3
   have HC2 := markFuncSV w3 y.lo (m + 1 + y.ims.length) (pvF y) y.xs hbd.2.1 (by omega) (by omega) hbd.2.2 HYZ.out.ap hf3
   have HW3 : Hid (Wrote Z w3 (PkBlocks (pvI y) (pvF y) y.xs)) := Wrote.of_grown hg3 (fun q e => Or.inl e)
   clear HC1 hg3 hrow3 hf3 k1 HT2
   go_wp2_with fail
   refine HC2.mono ?_
   rintro e w4 ⟨rfl, _, hw4⟩
   have hWy : Wrote Z w4 (fun q => y.lo ≤ q ∧ q < y.hi) := (HW3.out.trans (hw4.mono (fun _ e => Or.inr e))).mono (fun q hq => HYZ.out.blocks hq)
   have hWr : Wrote wr w4 (fun q => q = g ∨ (y.lo ≤ q ∧ q < y.hi)) := (HWZ.out.mono (fun _ e => Or.inl e)).trans (hWy.mono (fun _ e => Or.inr e))
   have HR4 : Hid (w4.ownsRow B 51 3 (.slice (some ⟨g, 0, none⟩) ys.length cp) ys.length (pvsV zs2)) := own_wrote HR2.out hWy (fun q hq hS => by
    have e2 : g = q := by simpa [Value.ownBlock] using hq
    omega)
   have HE4 : Hid (∀ i, j + 1 ≤ i → i < ys.length → PvOk w4 (ys.getD i pv0)) := fun i hi1 hi2 => (HE.out i (by omega) hi2).wrote hWr (fun q hq => by
    rcases hq with e | e
    ·
     rw [e]; exact HGO.out _ (by simp [List.getD, hi2])
    ·
     have := HLT.out i hi1 hi2; omega)
   have HW4 : Hid (Wrote w w4 (fun q => B ≤ q ∧ q < T)) := HW.out.trans (hWr.mono (fun q hq => by
    rcases hq with e | e
    ·
     rw [e]; exact ⟨hgb.1, hgT⟩
    ·
     omega))
   have HMS : Hid (mend k0 (ys.take (j + 1)) = fend (m + 1 + y.ims.length) y.xs) := hst
   clear HC2 hw4 hWy hWr HW3 HYZ HWZ HR2 HE HW k2 hst
   go_wp2
   go_roundw
   case rel => exact ⟨j + 1, zs2, by omega, by go_num, by rw [HMS.out], HS3, HR4, HE4, HW4⟩
   case measure => simp [intOf]; omega
  ·
   obtain rfl : j = ys.length := by omega
   have HEnd : Hid (mend k0 (ys.take ys.length) = mend k0 ys) := by exact (by rw [List.take_of_length_le (Nat.le_refl _)] : mend k0 (ys.take ys.length) = mend k0 ys)
   clear HS HR HE
   go_wp2
   go_ret
   exact ⟨by rw [← HEnd.out]; rfl, HW.out⟩

end Go.Proofs.YtaidhjjpdkkmcaaGreatDoor

/-! A node, and a row of nodes, that came in, as the walks take them. -/
namespace Go.Proofs.YtaidhjjpdkkmcaaGreatDoor
open Go.ChangeShapes Go.WideShapes Go.ChangeAt Go.RowKit Go.Joins Go.Deep

theorem cellsNode : Tryz.prog.cellsOf 154 = 4 := by kernel_rfl

end Go.Proofs.YtaidhjjpdkkmcaaGreatDoor

/-! A package that came in, as the walks take it. -/
namespace Go.Proofs.YtaidhjjpdkkmcaaGreatDoor
open Go.ChangeShapes Go.WideShapes Go.ChangeAt Go.RowKit Go.Joins Go.Deep

section
variable {H : Type} {enc : TypeId × Value → H} {W : World} {base : Nat} {spare : Nat → Bool} {held : Bool} {fuel : Nat} {v : Value} {x : DataW H × List MemPlace}

set_option maxRecDepth 100000 in
theorem trod_nodes (hf : DataW.trod enc Tryz.prog W base spare held fuel 102 [v] = some x) :
 ∃ a len cap ns, v = .slice a len cap ∧ (a = none → cap = 0) ∧ NodesIn W a len ns ∧ len ≤ maxLen ∧ LongT ns ∧ IntT ns := by
 rcases open_slice Tryz.underlying102 hf with ⟨hcs, _⟩ | ⟨a, len, cap, q, n, D, Pl, hcs, _, hl, hm, hq, _, hx⟩
 ·
  simp at hcs
  subst hcs
  exact ⟨none, 0, 0, [], rfl, fun _ => rfl, ⟨rfl, fun j hj => by omega⟩, by decide, (fun j => by simp [nd0]), IntT.nil⟩
 ·
  simp at hcs
  subst hcs
  have hlq : len ≤ q := by rw [hq]; split <;> omega
  have each : ∀ i, i < len → ∃ x : Nd, W.cell? (a.add (i * 4)) = some (.int .i64 x.1) ∧ W.cell? (a.add (i * 4 + 1)) = some (.int .i64 x.2.1) ∧ W.cell? (a.add (i * 4 + 2)) = some (.string ⟨x.2.2.1.toArray⟩) ∧ W.cell? (a.add (i * 4 + 3)) = some (.string ⟨x.2.2.2.toArray⟩) ∧ x.2.2.1.length ≤ maxLen ∧ x.2.2.2.length ≤ maxLen ∧ IntN x := by
   intro i hi
   obtain ⟨cs', h1, h2⟩ := hx i (by omega)
   rw [cellsNode] at h1
   obtain ⟨_, hlen, hcell⟩ := World.cells?_some h1
   match cs', hlen with
   | [v0, v1, v2, v3], _ =>
    obtain ⟨y0, y1, y2, y3, k, _, _, t0, t1, t2, t3⟩ := trod_struct4 Tryz.underlying154 h2
    have k2 : Tryz.prog.cellsOf 2 = 1 := by kernel_rfl
    have k9 : Tryz.prog.cellsOf 9 = 1 := by kernel_rfl
    simp [k2, k9] at t0 t1 t2 t3
    obtain ⟨kd, e0, _, wk⟩ := DataW.trod_int Tryz.underlying2 t0
    obtain ⟨aa, e1, _, wa⟩ := DataW.trod_int Tryz.underlying2 t1
    obtain ⟨s2, e2, _, z2⟩ := DataW.trod_string Tryz.underlying9 t2
    obtain ⟨s3, e3, _, z3⟩ := DataW.trod_string Tryz.underlying9 t3
    simp at e0 e1 e2 e3
    subst e0 e1 e2 e3
    have g0 := hcell 0 (by omega)
    have g1 := hcell 1 (by omega)
    have g2 := hcell 2 (by omega)
    have g3 := hcell 3 (by omega)
    rw [add_add] at g0 g1 g2 g3
    exact ⟨(kd, aa, s2.data.toList, s3.data.toList), by simpa using g0, by simpa using g1, by simpa using g2, by simpa using g3, z2, z3, ⟨bounds_i64 wk, bounds_i64 wa⟩⟩
  obtain ⟨f, hf2⟩ := choose_lt each
  refine ⟨some a, len, cap, (List.range len).map f, rfl, (fun e => by cases e), ⟨by simp, fun j hj => ?_⟩, by omega, (fun j => ?_), (fun j => ?_)⟩
  rotate_left
  ·
   by_cases hj : j < len
   ·
    have hg : ((List.range len).map f).getD j nd0 = f j := by simp [List.getD, hj]
    rw [hg]; exact ⟨(hf2 j hj).2.2.2.2.1, (hf2 j hj).2.2.2.2.2.1⟩
   ·
    have hg : ((List.range len).map f).getD j nd0 = nd0 := by simp [List.getD, hj]
    rw [hg]; simp [nd0]
  ·
   by_cases hj : j < len
   ·
    have hg : ((List.range len).map f).getD j nd0 = f j := by simp [List.getD, hj]
    rw [hg]; exact (hf2 j hj).2.2.2.2.2.2
   ·
    have hg : ((List.range len).map f).getD j nd0 = nd0 := by simp [List.getD, hj]
    rw [hg]; exact intN_nd0
  obtain ⟨c0, c1, c2, c3, _, _, _⟩ := hf2 j hj
  have hsp : a.spot = none := by
   have h0 := (hf2 0 (by omega)).1
   simpa [Addr.add] using World.cell?_spot h0
  obtain ⟨b, off, spot⟩ := a
  simp at hsp
  subst hsp
  have e : ∀ i, (⟨b, off, none⟩ : Addr).add i = ⟨b, off + i, none⟩ := fun i => by unfold Addr.add; split <;> simp_all
  rw [e] at c0 c1 c2 c3
  have hg : ((List.range len).map f).getD j nd0 = f j := by simp [List.getD, hj]
  rw [hg]
  exact ⟨b, off, rfl, World.block_lt_of_cell? W ⟨b, off + j * 4, none⟩ c0, c0, by rw [Nat.add_assoc]; exact c1, by rw [Nat.add_assoc]; exact c2, by rw [Nat.add_assoc]; exact c3⟩

set_option maxRecDepth 100000 in
theorem trod_texts (hf : DataW.trod enc Tryz.prog W base spare held fuel 37 [v] = some x) :
 ∃ a len cap ts, v = .slice a len cap ∧ TextsIn W a len ts ∧ len ≤ maxLen ∧ ∀ j, (ts.getD j []).length ≤ maxLen := by
 rcases open_strings Tryz.underlying37 Tryz.underlying9 (by kernel_rfl) hf with ⟨hcs, _⟩ | ⟨a, len, cap, ss, hcs, _, hl, hm, hlen, _, hcell, hsz⟩
 ·
  simp at hcs
  subst hcs
  exact ⟨none, 0, 0, [], rfl, ⟨rfl, fun j hj => by omega⟩, by decide, fun j => by simp⟩
 ·
  simp at hcs
  subst hcs
  have hls : len ≤ ss.length := by rw [hlen]; split <;> omega
  have hgd : ∀ j, j < len → ((ss.take len).map (fun s => s.data.toList)).getD j [] = (ss.getD j ByteArray.empty).data.toList := by
   intro j hj
   have hj2 : j < ss.length := by omega
   simp [List.getD, hj, hj2]
  refine ⟨some a, len, cap, (ss.take len).map (fun s => s.data.toList), rfl, ⟨by simp; omega, fun j hj => ?_⟩, by omega, fun j => ?_⟩
  ·
   have hc := hcell j (by omega)
   have hsp : a.spot = none := by
    have h0 := hcell 0 (by omega)
    simpa [Addr.add] using World.cell?_spot h0
   obtain ⟨b, off, spot⟩ := a
   simp at hsp
   subst hsp
   have e : ∀ i, (⟨b, off, none⟩ : Addr).add i = ⟨b, off + i, none⟩ := fun i => by unfold Addr.add; split <;> simp_all
   rw [e] at hc
   refine ⟨b, off, rfl, World.block_lt_of_cell? W ⟨b, off + j, none⟩ hc, ?_⟩
   rw [hc, hgd j hj]
  ·
   by_cases hj : j < len
   ·
    rw [hgd j hj]
    have hj2 : j < ss.length := by omega
    have : ss.getD j ByteArray.empty ∈ ss := by simp [List.getD, hj2]
    have hz := hsz _ this
    simpa using hz
   ·
    have : ((ss.take len).map (fun s => s.data.toList)).getD j [] = [] := by rw [List.getD, List.getElem?_eq_none (by simp; omega)]; rfl
    rw [this]; simp

theorem cellsFunc : Tryz.prog.cellsOf 104 = 3 := by kernel_rfl
theorem cellsPackage : Tryz.prog.cellsOf 40 = 3 := by kernel_rfl

set_option maxRecDepth 100000 in
theorem trod_fns (hf : DataW.trod enc Tryz.prog W base spare held fuel 38 [v] = some x) :
 ∃ a len cap fs, v = .slice a len cap ∧ FuncsIn W a len fs ∧ len ≤ maxLen ∧ LongF fs ∧ IntF fs := by
 rcases open_slice Tryz.underlying38 hf with ⟨hcs, _⟩ | ⟨a, len, cap, q, n, D, Pl, hcs, _, hl, hm, hq, _, hx⟩
 ·
  simp at hcs
  subst hcs
  exact ⟨none, 0, 0, [], rfl, ⟨rfl, fun j hj => by omega⟩, by decide, (fun j => by simp [fn0, LongT, nd0]), (fun j => ⟨by simp [fn0], IntT.nil⟩)⟩
 ·
  simp at hcs
  subst hcs
  have hlq : len ≤ q := by rw [hq]; split <;> omega
  have each : ∀ i, i < len → ∃ y : Fn, W.cell? (a.add (i * 3)) = some (.string ⟨y.1.toArray⟩) ∧ W.cell? (a.add (i * 3 + 1)) = some (.int .i64 y.2.1) ∧
   (∃ ta tl tc, W.cell? (a.add (i * 3 + 2)) = some (.slice ta tl tc) ∧ (ta = none → tc = 0) ∧ NodesIn W ta tl y.2.2) ∧ (y.1.length ≤ maxLen ∧ y.2.2.length ≤ maxLen ∧ LongT y.2.2) ∧ ((-9223372036854775808 ≤ y.2.1 ∧ y.2.1 ≤ 9223372036854775807) ∧ IntT y.2.2) := by
   intro i hi
   obtain ⟨cs', h1, h2⟩ := hx i (by omega)
   rw [cellsFunc] at h1
   obtain ⟨_, hlen, hcell⟩ := World.cells?_some h1
   match cs', hlen with
   | [v0, v1, v2], _ =>
    obtain ⟨y0, y1, y2, k, _, _, t0, t1, t2⟩ := trod_struct3 Tryz.underlying104 h2
    have k2 : Tryz.prog.cellsOf 2 = 1 := by kernel_rfl
    have k9 : Tryz.prog.cellsOf 9 = 1 := by kernel_rfl
    have kn : Tryz.prog.cellsOf 102 = 1 := by kernel_rfl
    simp [k2, k9, kn] at t0 t1 t2
    obtain ⟨s0, e0, _, z0⟩ := DataW.trod_string Tryz.underlying9 t0
    obtain ⟨aa, e1, _, wa⟩ := DataW.trod_int Tryz.underlying2 t1
    obtain ⟨ta, tl, tc, ns, e2, hnc, hns, hnl, hlt, hit⟩ := trod_nodes t2
    simp at e0 e1
    subst e0 e1 e2
    have g0 := hcell 0 (by omega)
    have g1 := hcell 1 (by omega)
    have g2 := hcell 2 (by omega)
    rw [add_add] at g0 g1 g2
    exact ⟨(s0.data.toList, aa, ns), by simpa using g0, by simpa using g1, ⟨ta, tl, tc, by simpa using g2, hnc, hns⟩, ⟨z0, by rw [show ((s0.data.toList, aa, ns) : Fn).2.2 = ns from rfl, hns.1]; exact hnl, hlt⟩, ⟨bounds_i64 wa, hit⟩⟩
  obtain ⟨f, hf2⟩ := choose_lt each
  refine ⟨some a, len, cap, (List.range len).map f, rfl, ⟨by simp, fun j hj => ?_⟩, by omega, (fun j => ?_), (fun j => ?_)⟩
  rotate_left
  ·
   by_cases hj : j < len
   ·
    have hg : ((List.range len).map f).getD j fn0 = f j := by simp [List.getD, hj]
    rw [hg]; exact (hf2 j hj).2.2.2.1
   ·
    have hg : ((List.range len).map f).getD j fn0 = fn0 := by simp [List.getD, hj]
    rw [hg]; simp [fn0, LongT, nd0]
  ·
   by_cases hj : j < len
   ·
    have hg : ((List.range len).map f).getD j fn0 = f j := by simp [List.getD, hj]
    rw [hg]; exact (hf2 j hj).2.2.2.2
   ·
    have hg : ((List.range len).map f).getD j fn0 = fn0 := by simp [List.getD, hj]
    rw [hg]; exact ⟨by simp [fn0], IntT.nil⟩
  obtain ⟨c0, c1, ⟨ta, tl, tc, c2, hnc, hns⟩, _, _⟩ := hf2 j hj
  have hsp : a.spot = none := by
   have h0 := (hf2 0 (by omega)).1
   simpa [Addr.add] using World.cell?_spot h0
  obtain ⟨b, off, spot⟩ := a
  simp at hsp
  subst hsp
  have e : ∀ i, (⟨b, off, none⟩ : Addr).add i = ⟨b, off + i, none⟩ := fun i => by unfold Addr.add; split <;> simp_all
  rw [e] at c0 c1 c2
  have hg : ((List.range len).map f).getD j fn0 = f j := by simp [List.getD, hj]
  rw [hg]
  exact ⟨b, off, rfl, World.block_lt_of_cell? W ⟨b, off + j * 3, none⟩ c0, c0, by rw [Nat.add_assoc]; exact c1, ta, tl, tc, by rw [Nat.add_assoc]; exact c2, hnc, hns⟩

end

end Go.Proofs.YtaidhjjpdkkmcaaGreatDoor

/-! A project that came in, as the walks take it. -/
namespace Go.Proofs.YtaidhjjpdkkmcaaGreatDoor
open Go.ChangeShapes Go.WideShapes Go.ChangeAt Go.RowKit Go.Joins Go.Deep

section
variable {H : Type} {enc : TypeId × Value → H} {W : World} {base : Nat} {spare : Nat → Bool} {held : Bool} {fuel : Nat} {v : Value} {x : DataW H × List MemPlace}

set_option maxRecDepth 100000 in
theorem trod_pkgs (hf : DataW.trod enc Tryz.prog W base spare held fuel 22 [v] = some x) :
 ∃ a len cap ps, v = .slice a len cap ∧ PkgsIn W a len ps ∧ len ≤ maxLen ∧ LongPs ps ∧ IntPs ps := by
 rcases open_slice Tryz.underlying22 hf with ⟨hcs, _⟩ | ⟨a, len, cap, q, n, D, Pl, hcs, _, hl, hm, hq, _, hx⟩
 ·
  simp at hcs
  subst hcs
  exact ⟨none, 0, 0, [], rfl, ⟨rfl, fun j hj => by omega⟩, by decide, (fun j => by simp [pk0, LongF, fn0, LongT, nd0]), (fun j i => ⟨by simp [pk0, fn0], by simp [pk0, fn0, IntT, IntN, nd0]⟩)⟩
 ·
  simp at hcs
  subst hcs
  have hlq : len ≤ q := by rw [hq]; split <;> omega
  have each : ∀ i, i < len → ∃ y : Pk, W.cell? (a.add (i * 3)) = some (.string ⟨y.1.toArray⟩) ∧
   (∃ ia il ic fa fl fc, W.cell? (a.add (i * 3 + 1)) = some (.slice ia il ic) ∧ W.cell? (a.add (i * 3 + 2)) = some (.slice fa fl fc) ∧ TextsIn W ia il y.2.1 ∧ FuncsIn W fa fl y.2.2) ∧
   (y.1.length ≤ maxLen ∧ y.2.1.length ≤ maxLen ∧ (∀ i, (y.2.1.getD i []).length ≤ maxLen) ∧ y.2.2.length ≤ maxLen ∧ LongF y.2.2) ∧ IntF y.2.2 := by
   intro i hi
   obtain ⟨cs', h1, h2⟩ := hx i (by omega)
   rw [cellsPackage] at h1
   obtain ⟨_, hlen, hcell⟩ := World.cells?_some h1
   match cs', hlen with
   | [v0, v1, v2], _ =>
    obtain ⟨y0, y1, y2, k, _, _, t0, t1, t2⟩ := trod_struct3 Tryz.underlying40 h2
    have k9 : Tryz.prog.cellsOf 9 = 1 := by kernel_rfl
    have ks : Tryz.prog.cellsOf 37 = 1 := by kernel_rfl
    have kf : Tryz.prog.cellsOf 38 = 1 := by kernel_rfl
    simp [k9, ks, kf] at t0 t1 t2
    obtain ⟨s0, e0, _, z0⟩ := DataW.trod_string Tryz.underlying9 t0
    obtain ⟨ia, il, ic, ims, e1, hti, hil, him⟩ := trod_texts t1
    obtain ⟨fa, fl, fc, fs, e2, hfi, hfl, hlf, hif⟩ := trod_fns t2
    simp at e0
    subst e0 e1 e2
    have g0 := hcell 0 (by omega)
    have g1 := hcell 1 (by omega)
    have g2 := hcell 2 (by omega)
    rw [add_add] at g0 g1 g2
    exact ⟨(s0.data.toList, ims, fs), by simpa using g0, ⟨ia, il, ic, fa, fl, fc, by simpa using g1, by simpa using g2, hti, hfi⟩, ⟨z0, by rw [show ((s0.data.toList, ims, fs) : Pk).2.1 = ims from rfl, hti.1]; exact hil, him, by rw [show ((s0.data.toList, ims, fs) : Pk).2.2 = fs from rfl, hfi.1]; exact hfl, hlf⟩, hif⟩
  obtain ⟨f, hf2⟩ := choose_lt each
  have hgd : ∀ j, j < len → ((List.range len).map f).getD j pk0 = f j := fun j hj => by simp [List.getD, hj]
  have hge : ∀ j, ¬ j < len → ((List.range len).map f).getD j pk0 = pk0 := fun j hj => by simp [List.getD, hj]
  refine ⟨some a, len, cap, (List.range len).map f, rfl, ⟨by simp, fun j hj => ?_⟩, by omega, (fun j => ?_), (fun j => ?_)⟩
  rotate_left
  ·
   by_cases hj : j < len
   ·
    rw [hgd j hj]; exact (hf2 j hj).2.2.1
   ·
    rw [hge j hj]; simp [pk0, LongF, fn0, LongT, nd0]
  ·
   by_cases hj : j < len
   ·
    rw [hgd j hj]; exact (hf2 j hj).2.2.2
   ·
    rw [hge j hj]; exact fun i => ⟨by simp [pk0, fn0], by simp [pk0, fn0, IntT, IntN, nd0]⟩
  obtain ⟨c0, ⟨ia, il, ic, fa, fl, fc, c1, c2, hti, hfi⟩, _, _⟩ := hf2 j hj
  have hsp : a.spot = none := by
   have h0 := (hf2 0 (by omega)).1
   simpa [Addr.add] using World.cell?_spot h0
  obtain ⟨b, off, spot⟩ := a
  simp at hsp
  subst hsp
  have e : ∀ i, (⟨b, off, none⟩ : Addr).add i = ⟨b, off + i, none⟩ := fun i => by unfold Addr.add; split <;> simp_all
  rw [e] at c0 c1 c2
  rw [hgd j hj]
  exact ⟨b, off, rfl, World.block_lt_of_cell? W ⟨b, off + j * 3, none⟩ c0, c0, ia, il, ic, fa, fl, fc, by rw [Nat.add_assoc]; exact c1, by rw [Nat.add_assoc]; exact c2, hti, hfi⟩

end

set_option maxRecDepth 100000 in
theorem open_packages {H : Type} {enc : TypeId × Value → H} {W : World} {base b0 : Nat} {spare : Nat → Bool} {held : Bool} {v : Value} {d : DataW H} {p : List MemPlace}
 (hv : Value.okWide Tryz.prog W .any b0 22 v) (h : DataW.Trod enc Tryz.prog W base spare held 22 v d p) :
 ∃ a len cap ps, v = .slice a len cap ∧ PkgsIn W a len ps ∧ len ≤ maxLen ∧ LongPs ps ∧ IntPs ps := by
 obtain ⟨a0, len, cap, rfl⟩ := okWide_slice Tryz.underlying22 hv
 obtain ⟨fuel, hf⟩ := h
 exact trod_pkgs (v := .slice a0 len cap) hf

end Go.Proofs.YtaidhjjpdkkmcaaGreatDoor

/-! What the landed functions of chapter 8 are told of a project. -/
namespace Go.Proofs.YtaidhjjpdkkmcaaGreatDoor
open Go.RowKit

/-- What the landed functions are told of a project that they are handed. -/
structure PkgsOk (w : World) (a : Option Addr) (len cap : Nat) (ps : List Pk) : Prop where
 hlen : ps.length = len
 nil : a = none → cap = 0
 hcap : len ≤ cap
 small : len ≤ 1048576
 each : ∀ j, j < len → ∃ b off, a = some ⟨b, off, none⟩ ∧ b < w.heap.size ∧ w.cell? ⟨b, off + j * 3, none⟩ = some (.string ⟨(ps.getD j pk0).1.toArray⟩) ∧
  ∃ ia il ic fa fl fc, w.cell? ⟨b, off + j * 3 + 1, none⟩ = some (.slice ia il ic) ∧ w.cell? ⟨b, off + j * 3 + 2, none⟩ = some (.slice fa fl fc) ∧ PkOk w (ps.getD j pk0).1 ia il ic fa fl fc (ps.getD j pk0).2.1 (ps.getD j pk0).2.2
theorem PkgsOk.below {w w' : World} {a : Option Addr} {len cap : Nat} {ps : List Pk} (h : PkgsOk w a len cap ps) (hb : Below w.heap.size w w') : PkgsOk w' a len cap ps :=
 ⟨h.hlen, h.nil, h.hcap, h.small, fun j hj => by
  obtain ⟨b, off, e, hlt, c0, ia, il, ic, fa, fl, fc, c1, c2, hk⟩ := h.each j hj
  exact ⟨b, off, e, Nat.lt_of_lt_of_le hlt hb.size, (hb.cell (p := ⟨b, off + j * 3, none⟩) hlt).trans c0, ia, il, ic, fa, fl, fc, (hb.cell (p := ⟨b, off + j * 3 + 1, none⟩) hlt).trans c1, (hb.cell (p := ⟨b, off + j * 3 + 2, none⟩) hlt).trans c2, hk.below hb⟩⟩
theorem PkgsOk.in {w : World} {a : Option Addr} {len cap : Nat} {ps : List Pk} (h : PkgsOk w a len cap ps) : PkgsIn w a len ps :=
 ⟨h.hlen, fun j hj => by
  obtain ⟨b, off, e, hlt, c0, ia, il, ic, fa, fl, fc, c1, c2, hk⟩ := h.each j hj
  exact ⟨b, off, e, hlt, c0, ia, il, ic, fa, fl, fc, c1, c2, hk.i, hk.f⟩⟩
theorem PkgsOk.short {w : World} {a : Option Addr} {len cap : Nat} {ps : List Pk} (h : PkgsOk w a len cap ps) : ShortPs ps := fun j => by
 by_cases hj : j < len
 ·
  obtain ⟨b, off, e, hlt, c0, ia, il, ic, fa, fl, fc, c1, c2, hk⟩ := h.each j hj
  exact ⟨hk.nm, by rw [hk.i.1]; exact hk.il, hk.is, by rw [hk.f.1]; exact hk.fl, hk.fs⟩
 ·
  have : ps.getD j pk0 = pk0 := by rw [List.getD, List.getElem?_eq_none (by rw [h.hlen]; omega)]; rfl
  rw [this]
  exact ⟨by simp [pk0], by simp [pk0], fun i => by simp [pk0], by simp [pk0], fun i => by simp [pk0, fn0, ShortT, nd0]⟩
/-- A project that a call owns, as they are told of it. -/
theorem PjOwn.ok {w : World} {B T : Nat} {g len cap : Nat} {ys : List PV} {ps : List Pk} (h : PjOwn w B T (.slice (some ⟨g, 0, none⟩) len cap) ys) (hp : ys.map pvP = ps) (hi : IntPs ps) (hs : ShortPs ps) (hl : ps.length = len) (hlen : len ≤ 1048576) : PkgsOk w (some ⟨g, 0, none⟩) len cap ps := by
 have hyl : ys.length = len := by rw [← hl, ← hp, List.length_map]
 have hrow := h.row
 rw [hyl] at hrow
 have hcap : len ≤ cap := by
  rcases hrow.2 with ⟨e, _⟩ | ⟨g', cap', cur, e, _, _, hc, _⟩
  ·
   cases e
  ·
   injection e with _ _ e3; rw [e3]; exact hc
 refine ⟨hl, (fun e => (by cases e)), hcap, hlen, fun j hj => ?_⟩
 obtain ⟨v0, v1, v2⟩ := pvsV_at ys j (by omega)
 have hc := fun k (hk : k < len * 3) => World.ownsRow.cellAt hrow k hk
 have hmem : ys.getD j pv0 ∈ ys := by simp [List.getD, show j < ys.length by omega]
 have hy := (h.each _ hmem).1
 obtain ⟨ai, ci, af, cf, e1, e2, h3, h4, hti, hfi⟩ := own_pk hy.im hy.fo rfl
 have hpj : ps.getD j pk0 = pvP (ys.getD j pv0) := by rw [← hp]; exact getD_map_pv ys j
 have hsj := hs j
 have hij := hi j
 rw [hpj] at hsj hij ⊢
 refine ⟨g, 0, rfl, (hrow.lt g rfl).2, ?_, ai, (ys.getD j pv0).ims.length, ci, af, ((ys.getD j pv0).xs.map (fun x : FV => x.1)).length, cf, ?_, ?_, ⟨hti, hfi, h3, h4, hij, hsj.2.1, hsj.2.2.2.1, hsj.1, hsj.2.2.1, hsj.2.2.2.2⟩⟩
 ·
  rw [Nat.zero_add, hc _ (by omega), v0]; rfl
 ·
  rw [Nat.zero_add, hc _ (by omega), v1, e1]
 ·
  rw [Nat.zero_add, hc _ (by omega), v2, e2]

theorem fend_le8 (k : Nat) (xs : List FV) : fend k xs ≤ k + 4 * (xs.length + fnsSz (xs.map (·.1))) := by
 induction xs generalizing k with
 | nil => simp [fend, fnsSz]
 | cons x r ih =>
  have h1 := ih (k + 2 + 4 * x.1.2.2.length)
  have h2 : x.1.2.2.length ≤ fnSz x.1 := by unfold fnSz; omega
  simp only [fend, List.length_cons, List.map_cons, fnsSz]
  omega
theorem mend_le8 (k : Nat) (ys : List PV) : mend k ys ≤ k + ys.length + 4 * psSz (ys.map pvP) := by
 induction ys generalizing k with
 | nil => simp [mend, psSz]
 | cons y r ih =>
  have h1 := ih (fend (k + 1 + y.ims.length) y.xs)
  have h2 := fend_le8 (k + 1 + y.ims.length) y.xs
  have h3 : pkZ (pvP y) = y.nm.length + (y.ims.length + joinN y.ims) + (y.xs.length + fnsSz (y.xs.map (·.1))) := by unfold pkZ pkSz pvP; simp
  simp only [mend, List.length_cons, List.map_cons, psSz]
  omega
/-- How much the marks of a project may be. -/
theorem pj_small {ys : List PV} {ps : List Pk} (hp : ys.map pvP = ps) (hz : ps.length + psSz ps ≤ 1048576) : (∀ y ∈ ys, y.ims.length ≤ 1100000 ∧ y.xs.length ≤ 1100000 ∧ ∀ x ∈ y.xs, x.1.2.2.length ≤ 1100000) ∧ mend 1 ys ≤ 30000000 := by
 have hyl : ys.length = ps.length := by rw [← hp, List.length_map]
 refine ⟨fun y hy => ?_, ?_⟩
 ·
  obtain ⟨i, hi, rfl⟩ := List.mem_iff_getElem.1 hy
  have h1 := psSz_at ps i
  have h2 : ps.getD i pk0 = pvP ys[i] := by rw [← hp, getD_map_pv]; simp [List.getD, hi]
  rw [h2] at h1
  have h3 : pkZ (pvP ys[i]) = ys[i].nm.length + (ys[i].ims.length + joinN ys[i].ims) + (ys[i].xs.length + fnsSz (ys[i].xs.map (·.1))) := by unfold pkZ pkSz pvP; simp
  refine ⟨by omega, by omega, fun x hx => ?_⟩
  obtain ⟨j, hj, rfl⟩ := List.mem_iff_getElem.1 hx
  have h4 := fnsSz_at (ys[i].xs.map (·.1)) j
  have h5 : (ys[i].xs.map (·.1)).getD j fn0 = (ys[i].xs[j]).1 := by simp [List.getD, hj]
  rw [h5] at h4
  unfold fnSz at h4
  omega
 ·
  have := mend_le8 1 ys
  rw [hp] at this
  omega
end Go.Proofs.YtaidhjjpdkkmcaaGreatDoor

/-! The contract of slices.Contains at texts. -/
namespace Go.Proofs.YtaidhjjpdkkmcaaGreatDoor
open Go.RowKit

theorem not_mem_s {l : List (List UInt8)} {x : List UInt8} (h : ∀ i, i < l.length → l.getD i [] ≠ x) : ¬ x ∈ l := fun hm => by
 obtain ⟨i, hi, e⟩ := List.mem_iff_getElem.1 hm
 exact h i hi (by simp [List.getD, hi, e])

set_option maxHeartbeats 1000000 in
set_option maxRecDepth 100000 in
theorem indexStr (a : Option Addr) (n c : Nat) (l : List (List UInt8)) (x : List UInt8) (w : World) (hin : TextsIn w a n l) (hn : n ≤ 1048576) :
 Calls Tryz.prog 113 #[.slice a n c, .string ⟨x.toArray⟩] w fun e w' => ∃ y : Int, e = .returned (.int .i64 y) ∧ Hid (0 ≤ y ↔ x ∈ l) ∧ w' = w := by
 obtain rfl : l.length = n := hin.1
 have HI : Hid (TextsIn w a l.length l) := hin
 clear hin
 go_enter Tryz.func113, Tryz.ntmps113
 go_wp2
 go_loopw [8] (fun iv wr => ∃ k : Nat, iv = .int .i64 (k : Int) ∧ k ≤ l.length ∧ Hid (∀ i, i < k → l.getD i [] ≠ x) ∧ wr = w) (fun iv _ => l.length - (intOf iv).toNat)
 case atStart => exact ⟨0, rfl, by omega, (fun i hi => by omega), rfl⟩
 case round =>
  obtain ⟨k, rfl, hk, HA, hwr⟩ := hrel
  obtain rfl := hwr.symm
  by_cases hlt : (k : Int) < (l.length : Int)
  ·
   have hk2 : k < l.length := by omega
   obtain ⟨b, off, rfl, hbl, c0⟩ := HI.out.2 k hk2
   have hmem : l.getD k [] ∈ l := by simp [List.getD, hk2]
   obtain ⟨y, hy⟩ : ∃ y, l.getD k [] = y := ⟨_, rfl⟩
   rw [hy] at c0 hmem
   by_cases hxy : x = y
   ·
    subst hxy
    have HM : Hid (0 ≤ (k : Int) ↔ x ∈ l) := ⟨fun _ => hmem, fun _ => by omega⟩
    have hself : (x == x) = true := by simp
    clear HA hy hmem
    go_wp2
    go_ret
    exact ⟨_, rfl, HM, rfl⟩
   ·
    have HA2 : Hid (∀ i, i < k + 1 → l.getD i [] ≠ x) := fun i hi => by
     rcases Nat.lt_or_ge i k with h | h
     ·
      exact HA.out i h
     ·
      obtain rfl : i = k := by omega
      rw [hy]; exact fun e => hxy e.symm
    have hne : (x == y) = false := beq_eq_false_iff_ne.2 hxy
    clear HA hy hmem
    go_wp2
    go_roundw
    case rel => exact ⟨k + 1, by go_num, by omega, HA2, trivial⟩
    case measure => simp [intOf]; omega
  ·
   have HM : Hid (0 ≤ (-1 : Int) ↔ x ∈ l) := ⟨fun h => by omega, fun h => absurd h (not_mem_s (fun i hi => HA.out i (by omega)))⟩
   go_wp2
   go_ret
   exact ⟨_, rfl, HM, rfl⟩
theorem containsStr (a : Option Addr) (n c : Nat) (l : List (List UInt8)) (x : List UInt8) (w : World) (hin : TextsIn w a n l) (hn : n ≤ 1048576) :
 Calls Tryz.prog 82 #[.slice a n c, .string ⟨x.toArray⟩] w fun e w' => e = .returned (.bool (decide (x ∈ l))) ∧ w' = w := by
 have hI := indexStr a n c l x w hin hn
 go_enter Tryz.func82, Tryz.ntmps82
 go_wp2_with fail
 refine hI.mono ?_
 rintro e w1 ⟨y, rfl, HM, hw⟩
 obtain rfl := hw.symm
 clear hI
 go_wp2
 go_ret
 exact ⟨by rw [decide_eq_decide.2 HM.out.symm]; rfl, rfl⟩

end Go.Proofs.YtaidhjjpdkkmcaaGreatDoor
