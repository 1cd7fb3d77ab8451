/-
  Parts of one proof, one behind the other: ProjM, NodeIn, PackIn, ProjIn, ProjK, Draw3, DrawW, DrawT, DrawX.
-/
import Derived.Test.YtdjglpcllcjcfaaDoorP14
import Derived.Deep.RegionWith
import Derived.Test.YtdjglpcllcjcfaaDoorP9
import Derived.Test.YtdjglpcllcjcfaaDoorRows
import Derived.WalkKit
import Derived.ProofKit
import Derived.OpenShut
import Derived.ShutString
import Derived.ChangeOld
import Derived.Below
import Derived.Lib.SmallJoins
import Derived.Deep.SlicePairs
import Derived.Test.YtdjglpcllcjcfaaDoorP11
import Derived.Test.YtdjglpcllcjcfaaDoorP12
import Derived.SliceStrings
import Derived.Test.YtdjglpcllcjcfaaDoorP4
import Derived.Test.YtdjglpcllcjcfaaDoorP1
import Derived.Test.YtdjglpcllcjcfaaDoorP2
import Derived.Test.YtdjglpcllcjcfaaDoorP8
import Derived.Test.YtdjglpcllcjcfaaDoorP3

/-! The laws' own helper markPackageS. -/
namespace Go.Proofs.YtdjglpcllcjcfaaDoor
open Go.RowKit

set_option maxHeartbeats 1000000 in
set_option maxRecDepth 100000 in
theorem markStrCB (w : World) (base g cp n k0 : Nat) (xs : List Value) (hn : n ≤ 1100000) (hk0 : 0 < k0) (hk1 : k0 ≤ 30000000)
    (h : w.ownsRow base 9 1 (.slice (some ⟨g, 0, none⟩) n cp) n xs) :
    Calls Tryd.prog 23 #[.slice (some ⟨g, 0, none⟩) n cp, .int .i64 k0] w fun e w' => e = .returned (.int .i64 ((k0 + n : Nat) : Int)) ∧ w'.ownsRow base 9 1 (.slice (some ⟨g, 0, none⟩) n cp) n (marksV k0 n) ∧ w.grownBy w' (some g) := by
  have hxl : Hid (xs.length = n) := by exact (by have := h.1; omega : xs.length = n)
  have hgl : g < w.heap.size := (h.lt g rfl).2
  go_enter Tryd.func23, Tryd.ntmps23
  go_wp2
  go_loopw [1, 5] (fun k i wr => ∃ m : Nat, m ≤ n ∧ i = .int .i64 m ∧ k = .int .i64 ((k0 + m : Nat) : Int) ∧ wr.ownsRow base 9 1 (.slice (some ⟨g, 0, none⟩) n cp) n (marksV k0 m ++ xs.drop m) ∧ w.grownBy wr (some g)) (fun _ i _ => n - (intOf i).toNat)
  case atStart => exact ⟨0, Nat.zero_le _, rfl, rfl, h, World.grownBy.refl _ _⟩
  case round =>
    obtain ⟨m, hm, rfl, rfl, hown, hg⟩ := hrel
    by_cases hlt : m < n
    · go_wp2_with fail
      refine (markTextC (k0 + m) _ (by omega) (by omega)).mono ?_
      rintro e w1 ⟨rfl, hg1⟩
      have hown1 := own_none hown hg1
      have hc1 : ∃ u, w1.cell? ⟨g, m, none⟩ = some u := by
        rw [hown1.cellAt m (by omega)]
        have hl : m < (marksV k0 m ++ xs.drop m).length := by rw [List.length_append, marksV_len, List.length_drop]; have := hxl.out; omega
        exact ⟨_, List.getElem?_eq_getElem hl⟩
      obtain ⟨u, hc1⟩ := hc1
      have hf1 := hown1.frozenAt m
      have hst := hown1.stored m (.string ⟨(markL (k0 + m)).toArray⟩)
      rw [marks_set k0 m xs (by have := hxl.out; omega)] at hst
      have hg2 : w.grownBy w1 (some g) := hg.andThen hg1 (by simp)
      have hst2 := hg2.trans hst.2
      have hst1 := hst.1
      clear hown hown1 hg1 hst hg2 hg
      go_wp2
      go_roundw
      case rel => exact ⟨m + 1, by omega, by go_num, by go_num, hst1, hst2⟩
      case measure => simp [intOf]; omega
    · obtain rfl : m = n := by omega
      have hd : xs.drop m = [] := List.drop_eq_nil_of_le (by have := hxl.out; omega)
      rw [hd, List.append_nil] at hown
      clear hd
      go_wp2
      go_ret
      exact ⟨rfl, hown, hg⟩

theorem markStrVB (w : World) (base n k0 : Nat) (v : Value) (xs : List Value) (hn : n ≤ 1100000) (hk0 : 0 < k0) (hk1 : k0 ≤ 30000000) (h : w.ownsRow base 9 1 v n xs) :
    Calls Tryd.prog 23 #[v, .int .i64 k0] w fun e w' => e = .returned (.int .i64 ((k0 + n : Nat) : Int)) ∧ w'.ownsRow base 9 1 v n (marksV k0 n) ∧ w.grownBy w' v.ownBlock := by
  rcases own_forms h with ⟨rfl, rfl, rfl⟩ | ⟨g, cp, rfl⟩
  · refine (markStrNil w k0).mono ?_
    rintro e w' ⟨rfl, rfl⟩
    exact ⟨rfl, h, World.grownBy.refl _ _⟩
  · exact markStrCB w base g cp n k0 xs hn hk0 hk1 h

/-- Where the marks end. -/
def mend (k : Nat) : List PV → Nat
  | [] => k
  | y :: r => mend (fend (k + 1 + y.ims.length) y.xs) r
theorem mend_snoc (k : Nat) (ys : List PV) (j : Nat) (hj : j < ys.length) : mend k (ys.take (j + 1)) = fend (mend k (ys.take j) + 1 + (ys.getD j pv0).ims.length) (ys.getD j pv0).xs := by
  have e : ys.getD j pv0 = ys[j] := by simp [List.getD, hj]
  have app : ∀ (x y : List PV) (k : Nat), mend k (x ++ y) = mend (mend k x) y := by
    intro x
    induction x with
    | nil => intro y k; rfl
    | cons a r ih => intro y k; simp only [List.cons_append, mend, ih]
  rw [List.take_succ_eq_append_getElem hj, app, e]
  rfl
theorem mend_ge (k : Nat) (ys : List PV) : k ≤ mend k ys := by
  induction ys generalizing k with
  | nil => exact Nat.le_refl _
  | cons y r ih =>
    have h1 := ih (fend (k + 1 + y.ims.length) y.xs)
    have h2 := fend_ge (k + 1 + y.ims.length) y.xs
    unfold mend; omega
theorem mend_take (k : Nat) (ys : List PV) (j : Nat) : mend k (ys.take j) ≤ mend k ys := by
  have app : ∀ (x y : List PV) (k : Nat), mend k (x ++ y) = mend (mend k x) y := by
    intro x
    induction x with
    | nil => intro y k; rfl
    | cons a r ih => intro y k; simp only [List.cons_append, mend, ih]
  have := app (ys.take j) (ys.drop j) k
  rw [List.take_append_drop] at this
  rw [this]
  exact mend_ge _ _
theorem pvsV_name (ys : List PV) (j : Nat) (x : List UInt8) : (pvsV ys).set (j * 3) (.string ⟨x.toArray⟩) = pvsV (ys.set j ⟨x, (ys.getD j pv0).ims, (ys.getD j pv0).xs, (ys.getD j pv0).ia, (ys.getD j pv0).ic, (ys.getD j pv0).fa, (ys.getD j pv0).fc, (ys.getD j pv0).lo, (ys.getD j pv0).hi⟩) := by
  induction ys generalizing j with
  | nil => simp [pvsV]
  | cons b r ih =>
    cases j with
    | zero => simp [pvsV, pvI, pvF]
    | succ j => rw [show (j + 1) * 3 = j * 3 + 1 + 1 + 1 by omega]; simp [pvsV, ih]
theorem PvOk.blocks {w : World} {y : PV} (h : PvOk w y) {q : Nat} (hq : PkBlocks (pvI y) (pvF y) y.xs q) : y.lo ≤ q ∧ q < y.hi := by
  refine ⟨?_, h.top q hq⟩
  rcases hq with e | e | ⟨x, hx, e⟩
  · exact (h.im.lt q e).1
  · exact (h.fo.row.lt q e).1
  · exact ((h.fo.trees x hx).lt q e).1
/-- Rows that bear the same lists. -/
def SameL (zs ys : List PV) : Prop := zs.length = ys.length ∧ ∀ i, pvI (zs.getD i pv0) = pvI (ys.getD i pv0) ∧ pvF (zs.getD i pv0) = pvF (ys.getD i pv0)
theorem SameL.name {zs ys : List PV} (h : SameL zs ys) (j : Nat) (x : List UInt8) : SameL (zs.set j ⟨x, (zs.getD j pv0).ims, (zs.getD j pv0).xs, (zs.getD j pv0).ia, (zs.getD j pv0).ic, (zs.getD j pv0).fa, (zs.getD j pv0).fc, (zs.getD j pv0).lo, (zs.getD j pv0).hi⟩) ys := by
  refine ⟨by rw [List.length_set]; exact h.1, fun i => ?_⟩
  by_cases hij : j = i
  · subst hij
    by_cases hj : j < zs.length
    · rw [show (zs.set j _).getD j pv0 = ⟨x, (zs.getD j pv0).ims, (zs.getD j pv0).xs, (zs.getD j pv0).ia, (zs.getD j pv0).ic, (zs.getD j pv0).fa, (zs.getD j pv0).fc, (zs.getD j pv0).lo, (zs.getD j pv0).hi⟩ by simp [List.getD, hj]]
      exact ⟨(h.2 j).1, (h.2 j).2⟩
    · rw [List.set_eq_of_length_le (by omega)]; exact h.2 j
  · rw [show (zs.set j _).getD i pv0 = zs.getD i pv0 by simp [List.getD, List.getElem?_set_ne hij]]
    exact h.2 i


end Go.Proofs.YtdjglpcllcjcfaaDoor

/-! A node, and a row of nodes, that came in, as the walks take them. -/
namespace Go.Proofs.YtdjglpcllcjcfaaDoor
open Go.ChangeShapes Go.WideShapes Go.ChangeAt Go.RowKit Go.Joins Go.Deep

theorem cellsNode : Tryd.prog.cellsOf 39 = 4 := by kernel_rfl

set_option maxRecDepth 100000 in
theorem open_node {H : Type} {enc : TypeId × Value → H} {W : World} {base b0 : Nat} {spare : Nat → Bool} {held : Bool} {v : Value} {d : DataW H} {p : List MemPlace}
    (hv : Value.okWide Tryd.prog W .any b0 39 v) (h : DataW.Trod enc Tryd.prog W base spare held 39 v d p) :
    ∃ n : Nd, v = nodeVal n ∧ IntN n ∧ n.2.2.1.length ≤ maxLen ∧ n.2.2.2.length ≤ maxLen := by
  obtain ⟨c0, c1, c2, c3, y0, y1, y2, y3, m, rfl, _, _, t0, t1, t2, t3⟩ := open_agg4 Tryd.underlying39 (by kernel_rfl) cellsNode hv h
  obtain ⟨k, e0, _, w0⟩ := DataW.trod_int Tryd.underlying2 t0
  obtain ⟨a, e1, _, w1⟩ := DataW.trod_int Tryd.underlying2 t1
  obtain ⟨s2, e2, _, h2⟩ := DataW.trod_string Tryd.underlying9 t2
  obtain ⟨s3, e3, _, h3⟩ := DataW.trod_string Tryd.underlying9 t3
  simp at e0 e1 e2 e3
  subst e0 e1 e2 e3
  exact ⟨(k, a, s2.data.toList, s3.data.toList), rfl, ⟨bounds_i64 w0, bounds_i64 w1⟩, h2, h3⟩

set_option maxRecDepth 100000 in
theorem open_nodes {H : Type} {enc : TypeId × Value → H} {W : World} {base b0 : Nat} {spare : Nat → Bool} {held : Bool} {v : Value} {d : DataW H} {p : List MemPlace}
    (hv : Value.okWide Tryd.prog W .any b0 94 v) (h : DataW.Trod enc Tryd.prog W base spare held 94 v d p) :
    ∃ a len cap ns, v = .slice a len cap ∧ NodesIn W a len ns ∧ len ≤ maxLen ∧ LongT ns ∧ IntT ns := by
  obtain ⟨a0, len, cap, rfl⟩ := okWide_slice Tryd.underlying94 hv
  obtain ⟨fuel, hf⟩ := h
  rcases open_slice Tryd.underlying94 hf with ⟨hcs, _⟩ | ⟨a, l, c, q, n, D, Pl, hcs, _, hl, hm, hq, _, hx⟩
  · simp [Value.cells] at hcs
    obtain ⟨rfl, rfl, rfl⟩ := hcs
    exact ⟨none, 0, 0, [], rfl, ⟨rfl, fun j hj => by omega⟩, by decide, (fun j => by simp [nd0]), IntT.nil⟩
  · simp [Value.cells] at hcs
    obtain ⟨rfl, rfl, rfl⟩ := hcs
    have hlq : len ≤ q := by rw [hq]; split <;> omega
    have each : ∀ i, i < len → ∃ x : Nd, W.cell? (a.add (i * 4)) = some (.int .i64 x.1) ∧ W.cell? (a.add (i * 4 + 1)) = some (.int .i64 x.2.1) ∧ W.cell? (a.add (i * 4 + 2)) = some (.string ⟨x.2.2.1.toArray⟩) ∧ W.cell? (a.add (i * 4 + 3)) = some (.string ⟨x.2.2.2.toArray⟩) ∧ x.2.2.1.length ≤ maxLen ∧ x.2.2.2.length ≤ maxLen ∧ IntN x := by
      intro i hi
      obtain ⟨cs', h1, h2⟩ := hx i (by omega)
      rw [cellsNode] at h1
      obtain ⟨_, hlen, hcell⟩ := World.cells?_some h1
      match cs', hlen with
      | [v0, v1, v2, v3], _ =>
        obtain ⟨y0, y1, y2, y3, k, _, _, t0, t1, t2, t3⟩ := trod_struct4 Tryd.underlying39 h2
        have k2 : Tryd.prog.cellsOf 2 = 1 := by kernel_rfl
        have k9 : Tryd.prog.cellsOf 9 = 1 := by kernel_rfl
        simp [k2, k9] at t0 t1 t2 t3
        obtain ⟨kd, e0, _, wk⟩ := DataW.trod_int Tryd.underlying2 t0
        obtain ⟨aa, e1, _, wa⟩ := DataW.trod_int Tryd.underlying2 t1
        obtain ⟨s2, e2, _, z2⟩ := DataW.trod_string Tryd.underlying9 t2
        obtain ⟨s3, e3, _, z3⟩ := DataW.trod_string Tryd.underlying9 t3
        simp at e0 e1 e2 e3
        subst e0 e1 e2 e3
        have g0 := hcell 0 (by omega)
        have g1 := hcell 1 (by omega)
        have g2 := hcell 2 (by omega)
        have g3 := hcell 3 (by omega)
        rw [add_add] at g0 g1 g2 g3
        exact ⟨(kd, aa, s2.data.toList, s3.data.toList), by simpa using g0, by simpa using g1, by simpa using g2, by simpa using g3, z2, z3, ⟨bounds_i64 wk, bounds_i64 wa⟩⟩
    obtain ⟨f, hf2⟩ := choose_lt each
    refine ⟨some a, len, cap, (List.range len).map f, rfl, ⟨by simp, fun j hj => ?_⟩, by omega, (fun j => ?_), (fun j => ?_)⟩
    rotate_left
    · by_cases hj : j < len
      · have hg : ((List.range len).map f).getD j nd0 = f j := by simp [List.getD, hj]
        rw [hg]; exact ⟨(hf2 j hj).2.2.2.2.1, (hf2 j hj).2.2.2.2.2.1⟩
      · have hg : ((List.range len).map f).getD j nd0 = nd0 := by simp [List.getD, hj]
        rw [hg]; simp [nd0]
    · by_cases hj : j < len
      · have hg : ((List.range len).map f).getD j nd0 = f j := by simp [List.getD, hj]
        rw [hg]; exact (hf2 j hj).2.2.2.2.2.2
      · have hg : ((List.range len).map f).getD j nd0 = nd0 := by simp [List.getD, hj]
        rw [hg]; exact intN_nd0
    obtain ⟨c0, c1, c2, c3, _, _, _⟩ := hf2 j hj
    have hsp : a.spot = none := by
      have h0 := (hf2 0 (by omega)).1
      simpa [Addr.add] using World.cell?_spot h0
    obtain ⟨b, off, spot⟩ := a
    simp at hsp
    subst hsp
    have e : ∀ i, (⟨b, off, none⟩ : Addr).add i = ⟨b, off + i, none⟩ := fun i => by unfold Addr.add; split <;> simp_all
    rw [e] at c0 c1 c2 c3
    have hg : ((List.range len).map f).getD j nd0 = f j := by simp [List.getD, hj]
    rw [hg]
    exact ⟨b, off, rfl, World.block_lt_of_cell? W ⟨b, off + j * 4, none⟩ c0, c0, by rw [Nat.add_assoc]; exact c1, by rw [Nat.add_assoc]; exact c2, by rw [Nat.add_assoc]; exact c3⟩

end Go.Proofs.YtdjglpcllcjcfaaDoor

/-! A package that came in, as the walks take it. -/
namespace Go.Proofs.YtdjglpcllcjcfaaDoor
open Go.ChangeShapes Go.WideShapes Go.ChangeAt Go.RowKit Go.Joins Go.Deep

section
variable {H : Type} {enc : TypeId × Value → H} {W : World} {base : Nat} {spare : Nat → Bool} {held : Bool} {fuel : Nat} {v : Value} {x : DataW H × List MemPlace}

set_option maxRecDepth 100000 in
theorem trod_nodes (hf : DataW.trod enc Tryd.prog W base spare held fuel 94 [v] = some x) :
    ∃ a len cap ns, v = .slice a len cap ∧ (a = none → cap = 0) ∧ NodesIn W a len ns ∧ len ≤ maxLen ∧ LongT ns ∧ IntT ns := by
  rcases open_slice Tryd.underlying94 hf with ⟨hcs, _⟩ | ⟨a, len, cap, q, n, D, Pl, hcs, _, hl, hm, hq, _, hx⟩
  · simp at hcs
    subst hcs
    exact ⟨none, 0, 0, [], rfl, fun _ => rfl, ⟨rfl, fun j hj => by omega⟩, by decide, (fun j => by simp [nd0]), IntT.nil⟩
  · simp at hcs
    subst hcs
    have hlq : len ≤ q := by rw [hq]; split <;> omega
    have each : ∀ i, i < len → ∃ x : Nd, W.cell? (a.add (i * 4)) = some (.int .i64 x.1) ∧ W.cell? (a.add (i * 4 + 1)) = some (.int .i64 x.2.1) ∧ W.cell? (a.add (i * 4 + 2)) = some (.string ⟨x.2.2.1.toArray⟩) ∧ W.cell? (a.add (i * 4 + 3)) = some (.string ⟨x.2.2.2.toArray⟩) ∧ x.2.2.1.length ≤ maxLen ∧ x.2.2.2.length ≤ maxLen ∧ IntN x := by
      intro i hi
      obtain ⟨cs', h1, h2⟩ := hx i (by omega)
      rw [cellsNode] at h1
      obtain ⟨_, hlen, hcell⟩ := World.cells?_some h1
      match cs', hlen with
      | [v0, v1, v2, v3], _ =>
        obtain ⟨y0, y1, y2, y3, k, _, _, t0, t1, t2, t3⟩ := trod_struct4 Tryd.underlying39 h2
        have k2 : Tryd.prog.cellsOf 2 = 1 := by kernel_rfl
        have k9 : Tryd.prog.cellsOf 9 = 1 := by kernel_rfl
        simp [k2, k9] at t0 t1 t2 t3
        obtain ⟨kd, e0, _, wk⟩ := DataW.trod_int Tryd.underlying2 t0
        obtain ⟨aa, e1, _, wa⟩ := DataW.trod_int Tryd.underlying2 t1
        obtain ⟨s2, e2, _, z2⟩ := DataW.trod_string Tryd.underlying9 t2
        obtain ⟨s3, e3, _, z3⟩ := DataW.trod_string Tryd.underlying9 t3
        simp at e0 e1 e2 e3
        subst e0 e1 e2 e3
        have g0 := hcell 0 (by omega)
        have g1 := hcell 1 (by omega)
        have g2 := hcell 2 (by omega)
        have g3 := hcell 3 (by omega)
        rw [add_add] at g0 g1 g2 g3
        exact ⟨(kd, aa, s2.data.toList, s3.data.toList), by simpa using g0, by simpa using g1, by simpa using g2, by simpa using g3, z2, z3, ⟨bounds_i64 wk, bounds_i64 wa⟩⟩
    obtain ⟨f, hf2⟩ := choose_lt each
    refine ⟨some a, len, cap, (List.range len).map f, rfl, (fun e => by cases e), ⟨by simp, fun j hj => ?_⟩, by omega, (fun j => ?_), (fun j => ?_)⟩
    rotate_left
    · by_cases hj : j < len
      · have hg : ((List.range len).map f).getD j nd0 = f j := by simp [List.getD, hj]
        rw [hg]; exact ⟨(hf2 j hj).2.2.2.2.1, (hf2 j hj).2.2.2.2.2.1⟩
      · have hg : ((List.range len).map f).getD j nd0 = nd0 := by simp [List.getD, hj]
        rw [hg]; simp [nd0]
    · by_cases hj : j < len
      · have hg : ((List.range len).map f).getD j nd0 = f j := by simp [List.getD, hj]
        rw [hg]; exact (hf2 j hj).2.2.2.2.2.2
      · have hg : ((List.range len).map f).getD j nd0 = nd0 := by simp [List.getD, hj]
        rw [hg]; exact intN_nd0
    obtain ⟨c0, c1, c2, c3, _, _, _⟩ := hf2 j hj
    have hsp : a.spot = none := by
      have h0 := (hf2 0 (by omega)).1
      simpa [Addr.add] using World.cell?_spot h0
    obtain ⟨b, off, spot⟩ := a
    simp at hsp
    subst hsp
    have e : ∀ i, (⟨b, off, none⟩ : Addr).add i = ⟨b, off + i, none⟩ := fun i => by unfold Addr.add; split <;> simp_all
    rw [e] at c0 c1 c2 c3
    have hg : ((List.range len).map f).getD j nd0 = f j := by simp [List.getD, hj]
    rw [hg]
    exact ⟨b, off, rfl, World.block_lt_of_cell? W ⟨b, off + j * 4, none⟩ c0, c0, by rw [Nat.add_assoc]; exact c1, by rw [Nat.add_assoc]; exact c2, by rw [Nat.add_assoc]; exact c3⟩

set_option maxRecDepth 100000 in
theorem trod_texts (hf : DataW.trod enc Tryd.prog W base spare held fuel 30 [v] = some x) :
    ∃ a len cap ts, v = .slice a len cap ∧ TextsIn W a len ts ∧ len ≤ maxLen ∧ ∀ j, (ts.getD j []).length ≤ maxLen := by
  rcases open_strings Tryd.underlying30 Tryd.underlying9 (by kernel_rfl) hf with ⟨hcs, _⟩ | ⟨a, len, cap, ss, hcs, _, hl, hm, hlen, _, hcell, hsz⟩
  · simp at hcs
    subst hcs
    exact ⟨none, 0, 0, [], rfl, ⟨rfl, fun j hj => by omega⟩, by decide, fun j => by simp⟩
  · simp at hcs
    subst hcs
    have hls : len ≤ ss.length := by rw [hlen]; split <;> omega
    have hgd : ∀ j, j < len → ((ss.take len).map (fun s => s.data.toList)).getD j [] = (ss.getD j ByteArray.empty).data.toList := by
      intro j hj
      have hj2 : j < ss.length := by omega
      simp [List.getD, hj, hj2]
    refine ⟨some a, len, cap, (ss.take len).map (fun s => s.data.toList), rfl, ⟨by simp; omega, fun j hj => ?_⟩, by omega, fun j => ?_⟩
    · have hc := hcell j (by omega)
      have hsp : a.spot = none := by
        have h0 := hcell 0 (by omega)
        simpa [Addr.add] using World.cell?_spot h0
      obtain ⟨b, off, spot⟩ := a
      simp at hsp
      subst hsp
      have e : ∀ i, (⟨b, off, none⟩ : Addr).add i = ⟨b, off + i, none⟩ := fun i => by unfold Addr.add; split <;> simp_all
      rw [e] at hc
      refine ⟨b, off, rfl, World.block_lt_of_cell? W ⟨b, off + j, none⟩ hc, ?_⟩
      rw [hc, hgd j hj]
    · by_cases hj : j < len
      · rw [hgd j hj]
        have hj2 : j < ss.length := by omega
        have : ss.getD j ByteArray.empty ∈ ss := by simp [List.getD, hj2]
        have hz := hsz _ this
        simpa using hz
      · have : ((ss.take len).map (fun s => s.data.toList)).getD j [] = [] := by rw [List.getD, List.getElem?_eq_none (by simp; omega)]; rfl
        rw [this]; simp

theorem cellsFunc : Tryd.prog.cellsOf 96 = 3 := by kernel_rfl
theorem cellsPackage : Tryd.prog.cellsOf 48 = 3 := by kernel_rfl

set_option maxRecDepth 100000 in
theorem trod_fns (hf : DataW.trod enc Tryd.prog W base spare held fuel 46 [v] = some x) :
    ∃ a len cap fs, v = .slice a len cap ∧ FuncsIn W a len fs ∧ len ≤ maxLen ∧ LongF fs ∧ IntF fs := by
  rcases open_slice Tryd.underlying46 hf with ⟨hcs, _⟩ | ⟨a, len, cap, q, n, D, Pl, hcs, _, hl, hm, hq, _, hx⟩
  · simp at hcs
    subst hcs
    exact ⟨none, 0, 0, [], rfl, ⟨rfl, fun j hj => by omega⟩, by decide, (fun j => by simp [fn0, LongT, nd0]), (fun j => ⟨by simp [fn0], IntT.nil⟩)⟩
  · simp at hcs
    subst hcs
    have hlq : len ≤ q := by rw [hq]; split <;> omega
    have each : ∀ i, i < len → ∃ y : Fn, W.cell? (a.add (i * 3)) = some (.string ⟨y.1.toArray⟩) ∧ W.cell? (a.add (i * 3 + 1)) = some (.int .i64 y.2.1) ∧
        (∃ ta tl tc, W.cell? (a.add (i * 3 + 2)) = some (.slice ta tl tc) ∧ (ta = none → tc = 0) ∧ NodesIn W ta tl y.2.2) ∧ (y.1.length ≤ maxLen ∧ y.2.2.length ≤ maxLen ∧ LongT y.2.2) ∧ ((-9223372036854775808 ≤ y.2.1 ∧ y.2.1 ≤ 9223372036854775807) ∧ IntT y.2.2) := by
      intro i hi
      obtain ⟨cs', h1, h2⟩ := hx i (by omega)
      rw [cellsFunc] at h1
      obtain ⟨_, hlen, hcell⟩ := World.cells?_some h1
      match cs', hlen with
      | [v0, v1, v2], _ =>
        obtain ⟨y0, y1, y2, k, _, _, t0, t1, t2⟩ := trod_struct3 Tryd.underlying96 h2
        have k2 : Tryd.prog.cellsOf 2 = 1 := by kernel_rfl
        have k9 : Tryd.prog.cellsOf 9 = 1 := by kernel_rfl
        have kn : Tryd.prog.cellsOf 94 = 1 := by kernel_rfl
        simp [k2, k9, kn] at t0 t1 t2
        obtain ⟨s0, e0, _, z0⟩ := DataW.trod_string Tryd.underlying9 t0
        obtain ⟨aa, e1, _, wa⟩ := DataW.trod_int Tryd.underlying2 t1
        obtain ⟨ta, tl, tc, ns, e2, hnc, hns, hnl, hlt, hit⟩ := trod_nodes t2
        simp at e0 e1
        subst e0 e1 e2
        have g0 := hcell 0 (by omega)
        have g1 := hcell 1 (by omega)
        have g2 := hcell 2 (by omega)
        rw [add_add] at g0 g1 g2
        exact ⟨(s0.data.toList, aa, ns), by simpa using g0, by simpa using g1, ⟨ta, tl, tc, by simpa using g2, hnc, hns⟩, ⟨z0, by rw [show ((s0.data.toList, aa, ns) : Fn).2.2 = ns from rfl, hns.1]; exact hnl, hlt⟩, ⟨bounds_i64 wa, hit⟩⟩
    obtain ⟨f, hf2⟩ := choose_lt each
    refine ⟨some a, len, cap, (List.range len).map f, rfl, ⟨by simp, fun j hj => ?_⟩, by omega, (fun j => ?_), (fun j => ?_)⟩
    rotate_left
    · by_cases hj : j < len
      · have hg : ((List.range len).map f).getD j fn0 = f j := by simp [List.getD, hj]
        rw [hg]; exact (hf2 j hj).2.2.2.1
      · have hg : ((List.range len).map f).getD j fn0 = fn0 := by simp [List.getD, hj]
        rw [hg]; simp [fn0, LongT, nd0]
    · by_cases hj : j < len
      · have hg : ((List.range len).map f).getD j fn0 = f j := by simp [List.getD, hj]
        rw [hg]; exact (hf2 j hj).2.2.2.2
      · have hg : ((List.range len).map f).getD j fn0 = fn0 := by simp [List.getD, hj]
        rw [hg]; exact ⟨by simp [fn0], IntT.nil⟩
    obtain ⟨c0, c1, ⟨ta, tl, tc, c2, hnc, hns⟩, _, _⟩ := hf2 j hj
    have hsp : a.spot = none := by
      have h0 := (hf2 0 (by omega)).1
      simpa [Addr.add] using World.cell?_spot h0
    obtain ⟨b, off, spot⟩ := a
    simp at hsp
    subst hsp
    have e : ∀ i, (⟨b, off, none⟩ : Addr).add i = ⟨b, off + i, none⟩ := fun i => by unfold Addr.add; split <;> simp_all
    rw [e] at c0 c1 c2
    have hg : ((List.range len).map f).getD j fn0 = f j := by simp [List.getD, hj]
    rw [hg]
    exact ⟨b, off, rfl, World.block_lt_of_cell? W ⟨b, off + j * 3, none⟩ c0, c0, by rw [Nat.add_assoc]; exact c1, ta, tl, tc, by rw [Nat.add_assoc]; exact c2, hnc, hns⟩

end

set_option maxRecDepth 100000 in
theorem open_package {H : Type} {enc : TypeId × Value → H} {W : World} {base b0 : Nat} {spare : Nat → Bool} {held : Bool} {v : Value} {d : DataW H} {p : List MemPlace}
    (hv : Value.okWide Tryd.prog W .any b0 48 v) (h : DataW.Trod enc Tryd.prog W base spare held 48 v d p) :
    ∃ nm ia il ic ims fa fl fc fs, v = .agg #[.string ⟨(nm : List UInt8).toArray⟩, .slice ia il ic, .slice fa fl fc] ∧ TextsIn W ia il ims ∧ FuncsIn W fa fl fs ∧ nm.length ≤ maxLen ∧ il ≤ maxLen ∧ (∀ j, (ims.getD j []).length ≤ maxLen) ∧ fl ≤ maxLen ∧ LongF fs ∧ IntF fs := by
  obtain ⟨c0, c1, c2, y0, y1, y2, m, rfl, _, _, t0, t1, t2⟩ := open_agg3 Tryd.underlying48 (by kernel_rfl) cellsPackage hv h
  obtain ⟨s0, e0, _, h0⟩ := DataW.trod_string Tryd.underlying9 t0
  simp at e0
  subst e0
  obtain ⟨ia, il, ic, ims, rfl, hi, hil, him⟩ := trod_texts t1
  obtain ⟨fa, fl, fc, fs, rfl, hf, hfl, hlf, hif⟩ := trod_fns t2
  exact ⟨s0.data.toList, ia, il, ic, ims, fa, fl, fc, fs, rfl, hi, hf, h0, hil, him, hfl, hlf, hif⟩

end Go.Proofs.YtdjglpcllcjcfaaDoor

/-! A project that came in, as the walks take it. -/
namespace Go.Proofs.YtdjglpcllcjcfaaDoor
open Go.ChangeShapes Go.WideShapes Go.ChangeAt Go.RowKit Go.Joins Go.Deep

section
variable {H : Type} {enc : TypeId × Value → H} {W : World} {base : Nat} {spare : Nat → Bool} {held : Bool} {fuel : Nat} {v : Value} {x : DataW H × List MemPlace}

set_option maxRecDepth 100000 in
theorem trod_pkgs (hf : DataW.trod enc Tryd.prog W base spare held fuel 38 [v] = some x) :
    ∃ a len cap ps, v = .slice a len cap ∧ PkgsIn W a len ps ∧ len ≤ maxLen ∧ LongPs ps ∧ IntPs ps := by
  rcases open_slice Tryd.underlying38 hf with ⟨hcs, _⟩ | ⟨a, len, cap, q, n, D, Pl, hcs, _, hl, hm, hq, _, hx⟩
  · simp at hcs
    subst hcs
    exact ⟨none, 0, 0, [], rfl, ⟨rfl, fun j hj => by omega⟩, by decide, (fun j => by simp [pk0, LongF, fn0, LongT, nd0]), (fun j i => ⟨by simp [pk0, fn0], by simp [pk0, fn0, IntT, IntN, nd0]⟩)⟩
  · simp at hcs
    subst hcs
    have hlq : len ≤ q := by rw [hq]; split <;> omega
    have each : ∀ i, i < len → ∃ y : Pk, W.cell? (a.add (i * 3)) = some (.string ⟨y.1.toArray⟩) ∧
        (∃ ia il ic fa fl fc, W.cell? (a.add (i * 3 + 1)) = some (.slice ia il ic) ∧ W.cell? (a.add (i * 3 + 2)) = some (.slice fa fl fc) ∧ TextsIn W ia il y.2.1 ∧ FuncsIn W fa fl y.2.2) ∧
        (y.1.length ≤ maxLen ∧ y.2.1.length ≤ maxLen ∧ (∀ i, (y.2.1.getD i []).length ≤ maxLen) ∧ y.2.2.length ≤ maxLen ∧ LongF y.2.2) ∧ IntF y.2.2 := by
      intro i hi
      obtain ⟨cs', h1, h2⟩ := hx i (by omega)
      rw [cellsPackage] at h1
      obtain ⟨_, hlen, hcell⟩ := World.cells?_some h1
      match cs', hlen with
      | [v0, v1, v2], _ =>
        obtain ⟨y0, y1, y2, k, _, _, t0, t1, t2⟩ := trod_struct3 Tryd.underlying48 h2
        have k9 : Tryd.prog.cellsOf 9 = 1 := by kernel_rfl
        have ks : Tryd.prog.cellsOf 30 = 1 := by kernel_rfl
        have kf : Tryd.prog.cellsOf 46 = 1 := by kernel_rfl
        simp [k9, ks, kf] at t0 t1 t2
        obtain ⟨s0, e0, _, z0⟩ := DataW.trod_string Tryd.underlying9 t0
        obtain ⟨ia, il, ic, ims, e1, hti, hil, him⟩ := trod_texts t1
        obtain ⟨fa, fl, fc, fs, e2, hfi, hfl, hlf, hif⟩ := trod_fns t2
        simp at e0
        subst e0 e1 e2
        have g0 := hcell 0 (by omega)
        have g1 := hcell 1 (by omega)
        have g2 := hcell 2 (by omega)
        rw [add_add] at g0 g1 g2
        exact ⟨(s0.data.toList, ims, fs), by simpa using g0, ⟨ia, il, ic, fa, fl, fc, by simpa using g1, by simpa using g2, hti, hfi⟩, ⟨z0, by rw [show ((s0.data.toList, ims, fs) : Pk).2.1 = ims from rfl, hti.1]; exact hil, him, by rw [show ((s0.data.toList, ims, fs) : Pk).2.2 = fs from rfl, hfi.1]; exact hfl, hlf⟩, hif⟩
    obtain ⟨f, hf2⟩ := choose_lt each
    have hgd : ∀ j, j < len → ((List.range len).map f).getD j pk0 = f j := fun j hj => by simp [List.getD, hj]
    have hge : ∀ j, ¬ j < len → ((List.range len).map f).getD j pk0 = pk0 := fun j hj => by simp [List.getD, hj]
    refine ⟨some a, len, cap, (List.range len).map f, rfl, ⟨by simp, fun j hj => ?_⟩, by omega, (fun j => ?_), (fun j => ?_)⟩
    rotate_left
    · by_cases hj : j < len
      · rw [hgd j hj]; exact (hf2 j hj).2.2.1
      · rw [hge j hj]; simp [pk0, LongF, fn0, LongT, nd0]
    · by_cases hj : j < len
      · rw [hgd j hj]; exact (hf2 j hj).2.2.2
      · rw [hge j hj]; exact fun i => ⟨by simp [pk0, fn0], by simp [pk0, fn0, IntT, IntN, nd0]⟩
    obtain ⟨c0, ⟨ia, il, ic, fa, fl, fc, c1, c2, hti, hfi⟩, _, _⟩ := hf2 j hj
    have hsp : a.spot = none := by
      have h0 := (hf2 0 (by omega)).1
      simpa [Addr.add] using World.cell?_spot h0
    obtain ⟨b, off, spot⟩ := a
    simp at hsp
    subst hsp
    have e : ∀ i, (⟨b, off, none⟩ : Addr).add i = ⟨b, off + i, none⟩ := fun i => by unfold Addr.add; split <;> simp_all
    rw [e] at c0 c1 c2
    rw [hgd j hj]
    exact ⟨b, off, rfl, World.block_lt_of_cell? W ⟨b, off + j * 3, none⟩ c0, c0, ia, il, ic, fa, fl, fc, by rw [Nat.add_assoc]; exact c1, by rw [Nat.add_assoc]; exact c2, hti, hfi⟩

end

set_option maxRecDepth 100000 in
theorem open_packages {H : Type} {enc : TypeId × Value → H} {W : World} {base b0 : Nat} {spare : Nat → Bool} {held : Bool} {v : Value} {d : DataW H} {p : List MemPlace}
    (hv : Value.okWide Tryd.prog W .any b0 38 v) (h : DataW.Trod enc Tryd.prog W base spare held 38 v d p) :
    ∃ a len cap ps, v = .slice a len cap ∧ PkgsIn W a len ps ∧ len ≤ maxLen ∧ LongPs ps ∧ IntPs ps := by
  obtain ⟨a0, len, cap, rfl⟩ := okWide_slice Tryd.underlying38 hv
  obtain ⟨fuel, hf⟩ := h
  exact trod_pkgs (v := .slice a0 len cap) hf

end Go.Proofs.YtdjglpcllcjcfaaDoor

/-! What the landed functions of chapter 8 are told of a project. -/
namespace Go.Proofs.YtdjglpcllcjcfaaDoor
open Go.RowKit

/-- What the landed functions are told of a project that they are handed. -/
structure PkgsOk (w : World) (a : Option Addr) (len cap : Nat) (ps : List Pk) : Prop where
  hlen : ps.length = len
  nil : a = none → cap = 0
  hcap : len ≤ cap
  small : len ≤ 1048576
  each : ∀ j, j < len → ∃ b off, a = some ⟨b, off, none⟩ ∧ b < w.heap.size ∧ w.cell? ⟨b, off + j * 3, none⟩ = some (.string ⟨(ps.getD j pk0).1.toArray⟩) ∧
    ∃ ia il ic fa fl fc, w.cell? ⟨b, off + j * 3 + 1, none⟩ = some (.slice ia il ic) ∧ w.cell? ⟨b, off + j * 3 + 2, none⟩ = some (.slice fa fl fc) ∧ PkOk w (ps.getD j pk0).1 ia il ic fa fl fc (ps.getD j pk0).2.1 (ps.getD j pk0).2.2
theorem PkgsOk.below {w w' : World} {a : Option Addr} {len cap : Nat} {ps : List Pk} (h : PkgsOk w a len cap ps) (hb : Below w.heap.size w w') : PkgsOk w' a len cap ps :=
  ⟨h.hlen, h.nil, h.hcap, h.small, fun j hj => by
    obtain ⟨b, off, e, hlt, c0, ia, il, ic, fa, fl, fc, c1, c2, hk⟩ := h.each j hj
    exact ⟨b, off, e, Nat.lt_of_lt_of_le hlt hb.size, (hb.cell (p := ⟨b, off + j * 3, none⟩) hlt).trans c0, ia, il, ic, fa, fl, fc, (hb.cell (p := ⟨b, off + j * 3 + 1, none⟩) hlt).trans c1, (hb.cell (p := ⟨b, off + j * 3 + 2, none⟩) hlt).trans c2, hk.below hb⟩⟩
theorem PkgsOk.in {w : World} {a : Option Addr} {len cap : Nat} {ps : List Pk} (h : PkgsOk w a len cap ps) : PkgsIn w a len ps :=
  ⟨h.hlen, fun j hj => by
    obtain ⟨b, off, e, hlt, c0, ia, il, ic, fa, fl, fc, c1, c2, hk⟩ := h.each j hj
    exact ⟨b, off, e, hlt, c0, ia, il, ic, fa, fl, fc, c1, c2, hk.i, hk.f⟩⟩
theorem PkgsOk.short {w : World} {a : Option Addr} {len cap : Nat} {ps : List Pk} (h : PkgsOk w a len cap ps) : ShortPs ps := fun j => by
  by_cases hj : j < len
  · obtain ⟨b, off, e, hlt, c0, ia, il, ic, fa, fl, fc, c1, c2, hk⟩ := h.each j hj
    exact ⟨hk.nm, by rw [hk.i.1]; exact hk.il, hk.is, by rw [hk.f.1]; exact hk.fl, hk.fs⟩
  · have : ps.getD j pk0 = pk0 := by rw [List.getD, List.getElem?_eq_none (by rw [h.hlen]; omega)]; rfl
    rw [this]
    exact ⟨by simp [pk0], by simp [pk0], fun i => by simp [pk0], by simp [pk0], fun i => by simp [pk0, fn0, ShortT, nd0]⟩
/-- A project that a call owns, as they are told of it. -/
theorem PjOwn.ok {w : World} {B T : Nat} {g len cap : Nat} {ys : List PV} {ps : List Pk} (h : PjOwn w B T (.slice (some ⟨g, 0, none⟩) len cap) ys) (hp : ys.map pvP = ps) (hi : IntPs ps) (hs : ShortPs ps) (hl : ps.length = len) (hlen : len ≤ 1048576) : PkgsOk w (some ⟨g, 0, none⟩) len cap ps := by
  have hyl : ys.length = len := by rw [← hl, ← hp, List.length_map]
  have hrow := h.row
  rw [hyl] at hrow
  have hcap : len ≤ cap := by
    rcases hrow.2 with ⟨e, _⟩ | ⟨g', cap', cur, e, _, _, hc, _⟩
    · cases e
    · injection e with _ _ e3; rw [e3]; exact hc
  refine ⟨hl, (fun e => (by cases e)), hcap, hlen, fun j hj => ?_⟩
  obtain ⟨v0, v1, v2⟩ := pvsV_at ys j (by omega)
  have hc := fun k (hk : k < len * 3) => World.ownsRow.cellAt hrow k hk
  have hmem : ys.getD j pv0 ∈ ys := by simp [List.getD, show j < ys.length by omega]
  have hy := (h.each _ hmem).1
  obtain ⟨ai, ci, af, cf, e1, e2, h3, h4, hti, hfi⟩ := own_pk hy.im hy.fo rfl
  have hpj : ps.getD j pk0 = pvP (ys.getD j pv0) := by rw [← hp]; exact getD_map_pv ys j
  have hsj := hs j
  have hij := hi j
  rw [hpj] at hsj hij ⊢
  refine ⟨g, 0, rfl, (hrow.lt g rfl).2, ?_, ai, (ys.getD j pv0).ims.length, ci, af, ((ys.getD j pv0).xs.map (fun x : FV => x.1)).length, cf, ?_, ?_, ⟨hti, hfi, h3, h4, hij, hsj.2.1, hsj.2.2.2.1, hsj.1, hsj.2.2.1, hsj.2.2.2.2⟩⟩
  · rw [Nat.zero_add, hc _ (by omega), v0]; rfl
  · rw [Nat.zero_add, hc _ (by omega), v1, e1]
  · rw [Nat.zero_add, hc _ (by omega), v2, e2]

theorem fend_le8 (k : Nat) (xs : List FV) : fend k xs ≤ k + 4 * (xs.length + fnsSz (xs.map (·.1))) := by
  induction xs generalizing k with
  | nil => simp [fend, fnsSz]
  | cons x r ih =>
    have h1 := ih (k + 2 + 4 * x.1.2.2.length)
    have h2 : x.1.2.2.length ≤ fnSz x.1 := by unfold fnSz; omega
    simp only [fend, List.length_cons, List.map_cons, fnsSz]
    omega
theorem mend_le8 (k : Nat) (ys : List PV) : mend k ys ≤ k + ys.length + 4 * psSz (ys.map pvP) := by
  induction ys generalizing k with
  | nil => simp [mend, psSz]
  | cons y r ih =>
    have h1 := ih (fend (k + 1 + y.ims.length) y.xs)
    have h2 := fend_le8 (k + 1 + y.ims.length) y.xs
    have h3 : pkZ (pvP y) = y.nm.length + (y.ims.length + joinN y.ims) + (y.xs.length + fnsSz (y.xs.map (·.1))) := by unfold pkZ pkSz pvP; simp
    simp only [mend, List.length_cons, List.map_cons, psSz]
    omega
/-- How much the marks of a project may be. -/
theorem pj_small {ys : List PV} {ps : List Pk} (hp : ys.map pvP = ps) (hz : ps.length + psSz ps ≤ 1048576) : (∀ y ∈ ys, y.ims.length ≤ 1100000 ∧ y.xs.length ≤ 1100000 ∧ ∀ x ∈ y.xs, x.1.2.2.length ≤ 1100000) ∧ mend 1 ys ≤ 30000000 := by
  have hyl : ys.length = ps.length := by rw [← hp, List.length_map]
  refine ⟨fun y hy => ?_, ?_⟩
  · obtain ⟨i, hi, rfl⟩ := List.mem_iff_getElem.1 hy
    have h1 := psSz_at ps i
    have h2 : ps.getD i pk0 = pvP ys[i] := by rw [← hp, getD_map_pv]; simp [List.getD, hi]
    rw [h2] at h1
    have h3 : pkZ (pvP ys[i]) = ys[i].nm.length + (ys[i].ims.length + joinN ys[i].ims) + (ys[i].xs.length + fnsSz (ys[i].xs.map (·.1))) := by unfold pkZ pkSz pvP; simp
    refine ⟨by omega, by omega, fun x hx => ?_⟩
    obtain ⟨j, hj, rfl⟩ := List.mem_iff_getElem.1 hx
    have h4 := fnsSz_at (ys[i].xs.map (·.1)) j
    have h5 : (ys[i].xs.map (·.1)).getD j fn0 = (ys[i].xs[j]).1 := by simp [List.getD, hj]
    rw [h5] at h4
    unfold fnSz at h4
    omega
  · have := mend_le8 1 ys
    rw [hp] at this
    omega
theorem orderV_len (ps : List Pk) : (orderV ps).length ≤ 8 := by
  unfold orderV
  split
  · rename_i h
    have h1 := (order8_end h).1.len
    have h2 := (projB_parts h).2.1
    omega
  · simp
theorem here_parts {ps : List Pk} {s : List UInt8} (h : hereB ps s = true) : projB ps = true ∧ s ∈ names8 ps := by
  unfold hereB at h
  rw [Bool.and_eq_true, decide_eq_true_eq] at h
  exact ⟨h.1, (at8_mem ps s).1 h.2⟩
theorem reachV_len (ps : List Pk) (s : List UInt8) : (reachV ps s).length ≤ 8 := by
  unfold reachV
  split
  · rename_i h
    have h0 := here_parts h
    have h1 := (reach8_end h0.2).1.len
    have h2 := (projB_parts h0.1).2.1
    omega
  · simp
theorem needV_len (ps : List Pk) (s : List UInt8) : (needV ps s).length ≤ 8 := by
  unfold needV
  split
  · rename_i h
    have h0 := here_parts h
    have h1 := (order8_end h0.1).1.len
    have h2 := (projB_parts h0.1).2.1
    have h3 : (need8 ps s).length ≤ (order8 ps).length := List.length_filter_le _ _
    omega
  · simp

end Go.Proofs.YtdjglpcllcjcfaaDoor

/-! The contracts of DrawHash and DrawTurned. -/
namespace Go.Proofs.YtdjglpcllcjcfaaDoor
open Go.RowKit


def pick (l : List Int) (x : Int) : Int := l.getD x.toNat 0

theorem pick_cell (l : List Int) (x : Int) (h0 : 0 ≤ x) (h1 : x < l.length) (W : World) (e : TypeId) :
    (W.alloc (.cells (l.map (Value.int .i64)).toArray e)).cell? ⟨W.heap.size, x.toNat, none⟩ = some (.int .i64 (pick l x)) := by
  have hx : x.toNat < l.length := by omega
  rw [World.cell?_alloc_mark]
  simp [pick, hx]


end Go.Proofs.YtdjglpcllcjcfaaDoor

/-! Words, and numbers that are none, are drawn. -/
namespace Go.Proofs.YtdjglpcllcjcfaaDoor
open Go.RowKit

theorem pick_in (l : List Int) (x lo hi : Int) (h0 : 0 ≤ x) (h1 : x < l.length) (h : ∀ y ∈ l, lo ≤ y ∧ y ≤ hi) : lo ≤ pick l x ∧ pick l x ≤ hi := by
  have hx : x.toNat < l.length := by omega
  have : pick l x = l[x.toNat] := by simp [pick, List.getD, hx]
  rw [this]
  exact h _ (List.getElem_mem hx)

set_option maxHeartbeats 1000000 in
set_option maxRecDepth 100000 in
theorem drawFromG (w : World) (B : Nat) (a : Option Addr) (len cap : Nat) (lo hi : Int) (h0 : -1000000 ≤ lo) (h1 : lo ≤ hi) (h2 : hi ≤ 1000000) (h : Cur w B a len cap) :
    Calls Tryd.prog 30 #[.pointer (some ⟨B, 0, none⟩), .int .i64 lo, .int .i64 hi] w fun e w' => ∃ x : Int, e = .returned (.int .i64 x) ∧ lo ≤ x ∧ x ≤ hi ∧ Cur w' B a len cap ∧ w.grownBy w' (some B) := by
  go_enter Tryd.func30, Tryd.ntmps30
  go_wp2_with fail
  refine (drawBelow _ B a len cap (hi - lo + 1) (by omega) (by omega) h).mono ?_
  rintro e w1 ⟨x, rfl, hx0, hx1, hc, hg⟩
  go_wp2
  go_ret
  exact ⟨_, rfl, by omega, by omega, hc, hg⟩

set_option maxHeartbeats 1000000 in
set_option maxRecDepth 100000 in
theorem drawWord (w : World) (B : Nat) (a : Option Addr) (len cap : Nat) (h : Cur w B a len cap) :
    Calls Tryd.prog 104 #[.pointer (some ⟨B, 0, none⟩)] w fun e w' => ∃ x : Int, e = .returned (.int .i64 x) ∧ -2147483648 ≤ x ∧ x ≤ 2147483647 ∧ Cur w' B a len cap ∧ w.grownBy w' (some B) := by
  go_enter Tryd.func104, Tryd.ntmps104
  go_wp2_with fail
  refine (drawOnce _ B a len cap 6 (by omega) (by omega) h).mono ?_
  rintro e w1 ⟨o, rfl, hc1, hg1⟩
  have hB := hc1.lt
  rcases o with _ | _
  · go_wp2_with fail
    refine (drawBelow _ B a len cap 12 (by omega) (by omega) hc1).mono ?_
    rintro e w2 ⟨x, rfl, hx0, hx1, hc2, hg2⟩
    go_wp2
    go_ret
    exact ⟨_, rfl, by omega, by omega, hc2, hg1.trans hg2⟩
  · go_wp2_with fail
    refine (drawBelow _ B a len cap 4 (by omega) (by omega) (hc1.kept (World.grownBy_alloc _ _ none) (by simp))).mono ?_
    rintro e w2 ⟨x, rfl, hx0, hx1, hc2, hg2⟩
    have hcx := hg2.cell (pick_cell [2147483647, -2147483648, 65536, -1] x hx0 hx1 w1 2) (by simp; omega)
    have hpi := pick_in [2147483647, -2147483648, 65536, -1] x (-2147483648) 2147483647 hx0 hx1 (by simp)
    generalize pick [2147483647, -2147483648, 65536, -1] x = y at hcx hpi
    have hg := (hg1.trans (World.grownBy_alloc _ _ _)).trans hg2
    clear hc1 hg1 hg2
    go_wp2
    go_ret
    exact ⟨_, rfl, hpi.1, hpi.2, hc2, hg⟩




end Go.Proofs.YtdjglpcllcjcfaaDoor

/-! A text is drawn. -/
namespace Go.Proofs.YtdjglpcllcjcfaaDoor
open Go.RowKit


end Go.Proofs.YtdjglpcllcjcfaaDoor

/-! The contracts of DrawLines, DrawWords, DrawNameOk, DrawNumberOf. -/
namespace Go.Proofs.YtdjglpcllcjcfaaDoor
open Go.RowKit



def pickT (l : List (List UInt8)) (x : Int) : List UInt8 := l.getD x.toNat []

theorem pickT_cell (l : List (List UInt8)) (x : Int) (h0 : 0 ≤ x) (h1 : x < l.length) (W : World) (e : TypeId) :
    (W.alloc (.cells (strV l).toArray e)).cell? ⟨W.heap.size, x.toNat, none⟩ = some (.string ⟨(pickT l x).toArray⟩) := by
  have hx : x.toNat < l.length := by omega
  rw [World.cell?_alloc_mark]
  simp [pickT, strV, hx]

theorem pickT_len (l : List (List UInt8)) (x : Int) (n : Nat) (h : ∀ y ∈ l, y.length ≤ n) : (pickT l x).length ≤ n := by
  unfold pickT
  by_cases hx : x.toNat < l.length
  · have : l.getD x.toNat [] = l[x.toNat] := by simp [List.getD, hx]
    rw [this]; exact h _ (List.getElem_mem hx)
  · have : l.getD x.toNat [] = [] := by simp [List.getD, hx]
    rw [this]; simp



end Go.Proofs.YtdjglpcllcjcfaaDoor
