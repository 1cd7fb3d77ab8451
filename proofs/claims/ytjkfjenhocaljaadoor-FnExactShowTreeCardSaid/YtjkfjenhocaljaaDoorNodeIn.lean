/-
  A node, and a row of nodes, that came in, as the walks take them.
-/
import Derived.Test.YtjkfjenhocaljaaDoorNodeL
import Derived.Test.YtjkfjenhocaljaaDoorRows
import Derived.WalkKit
import Derived.ProofKit
import Derived.OpenShut
import Derived.ShutString
import Derived.ChangeOld
import Derived.Below
import Derived.Lib.SmallJoins
import Derived.Deep.SlicePairs
namespace Go.Proofs.YtjkfjenhocaljaaDoor
open Go.ChangeShapes Go.WideShapes Go.ChangeAt Go.RowKit Go.Joins Go.Deep

theorem cellsNode : Tryd.prog.cellsOf 68 = 4 := by kernel_rfl

set_option maxRecDepth 100000 in
theorem open_node {H : Type} {enc : TypeId × Value → H} {W : World} {base b0 : Nat} {spare : Nat → Bool} {held : Bool} {v : Value} {d : DataW H} {p : List MemPlace}
    (hv : Value.okWide Tryd.prog W .any b0 68 v) (h : DataW.Trod enc Tryd.prog W base spare held 68 v d p) :
    ∃ n : Nd, v = nodeVal n ∧ IntN n ∧ n.2.2.1.length ≤ maxLen ∧ n.2.2.2.length ≤ maxLen := by
  obtain ⟨c0, c1, c2, c3, y0, y1, y2, y3, m, rfl, _, _, t0, t1, t2, t3⟩ := open_agg4 Tryd.underlying68 (by kernel_rfl) cellsNode hv h
  obtain ⟨k, e0, _, w0⟩ := DataW.trod_int Tryd.underlying2 t0
  obtain ⟨a, e1, _, w1⟩ := DataW.trod_int Tryd.underlying2 t1
  obtain ⟨s2, e2, _, h2⟩ := DataW.trod_string Tryd.underlying9 t2
  obtain ⟨s3, e3, _, h3⟩ := DataW.trod_string Tryd.underlying9 t3
  simp at e0 e1 e2 e3
  subst e0 e1 e2 e3
  exact ⟨(k, a, s2.data.toList, s3.data.toList), rfl, ⟨bounds_i64 w0, bounds_i64 w1⟩, h2, h3⟩

set_option maxRecDepth 100000 in
theorem open_nodes {H : Type} {enc : TypeId × Value → H} {W : World} {base b0 : Nat} {spare : Nat → Bool} {held : Bool} {v : Value} {d : DataW H} {p : List MemPlace}
    (hv : Value.okWide Tryd.prog W .any b0 37 v) (h : DataW.Trod enc Tryd.prog W base spare held 37 v d p) :
    ∃ a len cap ns, v = .slice a len cap ∧ NodesIn W a len ns ∧ len ≤ maxLen ∧ LongT ns ∧ IntT ns := by
  obtain ⟨a0, len, cap, rfl⟩ := okWide_slice Tryd.underlying37 hv
  obtain ⟨fuel, hf⟩ := h
  rcases open_slice Tryd.underlying37 hf with ⟨hcs, _⟩ | ⟨a, l, c, q, n, D, Pl, hcs, _, hl, hm, hq, _, hx⟩
  · simp [Value.cells] at hcs
    obtain ⟨rfl, rfl, rfl⟩ := hcs
    exact ⟨none, 0, 0, [], rfl, ⟨rfl, fun j hj => by omega⟩, by decide, (fun j => by simp [nd0]), IntT.nil⟩
  · simp [Value.cells] at hcs
    obtain ⟨rfl, rfl, rfl⟩ := hcs
    have hlq : len ≤ q := by rw [hq]; split <;> omega
    have each : ∀ i, i < len → ∃ x : Nd, W.cell? (a.add (i * 4)) = some (.int .i64 x.1) ∧ W.cell? (a.add (i * 4 + 1)) = some (.int .i64 x.2.1) ∧ W.cell? (a.add (i * 4 + 2)) = some (.string ⟨x.2.2.1.toArray⟩) ∧ W.cell? (a.add (i * 4 + 3)) = some (.string ⟨x.2.2.2.toArray⟩) ∧ x.2.2.1.length ≤ maxLen ∧ x.2.2.2.length ≤ maxLen ∧ IntN x := by
      intro i hi
      obtain ⟨cs', h1, h2⟩ := hx i (by omega)
      rw [cellsNode] at h1
      obtain ⟨_, hlen, hcell⟩ := World.cells?_some h1
      match cs', hlen with
      | [v0, v1, v2, v3], _ =>
        obtain ⟨y0, y1, y2, y3, k, _, _, t0, t1, t2, t3⟩ := trod_struct4 Tryd.underlying68 h2
        have k2 : Tryd.prog.cellsOf 2 = 1 := by kernel_rfl
        have k9 : Tryd.prog.cellsOf 9 = 1 := by kernel_rfl
        simp [k2, k9] at t0 t1 t2 t3
        obtain ⟨kd, e0, _, wk⟩ := DataW.trod_int Tryd.underlying2 t0
        obtain ⟨aa, e1, _, wa⟩ := DataW.trod_int Tryd.underlying2 t1
        obtain ⟨s2, e2, _, z2⟩ := DataW.trod_string Tryd.underlying9 t2
        obtain ⟨s3, e3, _, z3⟩ := DataW.trod_string Tryd.underlying9 t3
        simp at e0 e1 e2 e3
        subst e0 e1 e2 e3
        have g0 := hcell 0 (by omega)
        have g1 := hcell 1 (by omega)
        have g2 := hcell 2 (by omega)
        have g3 := hcell 3 (by omega)
        rw [add_add] at g0 g1 g2 g3
        exact ⟨(kd, aa, s2.data.toList, s3.data.toList), by simpa using g0, by simpa using g1, by simpa using g2, by simpa using g3, z2, z3, ⟨bounds_i64 wk, bounds_i64 wa⟩⟩
    obtain ⟨f, hf2⟩ := choose_lt each
    refine ⟨some a, len, cap, (List.range len).map f, rfl, ⟨by simp, fun j hj => ?_⟩, by omega, (fun j => ?_), (fun j => ?_)⟩
    rotate_left
    · by_cases hj : j < len
      · have hg : ((List.range len).map f).getD j nd0 = f j := by simp [List.getD, hj]
        rw [hg]; exact ⟨(hf2 j hj).2.2.2.2.1, (hf2 j hj).2.2.2.2.2.1⟩
      · have hg : ((List.range len).map f).getD j nd0 = nd0 := by simp [List.getD, hj]
        rw [hg]; simp [nd0]
    · by_cases hj : j < len
      · have hg : ((List.range len).map f).getD j nd0 = f j := by simp [List.getD, hj]
        rw [hg]; exact (hf2 j hj).2.2.2.2.2.2
      · have hg : ((List.range len).map f).getD j nd0 = nd0 := by simp [List.getD, hj]
        rw [hg]; exact intN_nd0
    obtain ⟨c0, c1, c2, c3, _, _, _⟩ := hf2 j hj
    have hsp : a.spot = none := by
      have h0 := (hf2 0 (by omega)).1
      simpa [Addr.add] using World.cell?_spot h0
    obtain ⟨b, off, spot⟩ := a
    simp at hsp
    subst hsp
    have e : ∀ i, (⟨b, off, none⟩ : Addr).add i = ⟨b, off + i, none⟩ := fun i => by unfold Addr.add; split <;> simp_all
    rw [e] at c0 c1 c2 c3
    have hg : ((List.range len).map f).getD j nd0 = f j := by simp [List.getD, hj]
    rw [hg]
    exact ⟨b, off, rfl, World.block_lt_of_cell? W ⟨b, off + j * 4, none⟩ c0, c0, by rw [Nat.add_assoc]; exact c1, by rw [Nat.add_assoc]; exact c2, by rw [Nat.add_assoc]; exact c3⟩

end Go.Proofs.YtjkfjenhocaljaaDoor
