/-
  A store that came in by value, as the walks take it: its room, and its blobs by their cells.
-/
import Derived.Test.YtfjpbbacibfnmaaRows
import Derived.WalkKit
import Derived.ProofKit
import Derived.OpenShut
import Derived.ShutString
import Derived.ChangeOld
import Derived.Below
import Derived.Lib.SmallJoins
import Derived.Deep.SlicePairs
namespace Go.Proofs.Ytfjpbbacibfnmaa
open Go.ChangeShapes Go.WideShapes Go.ChangeAt Go.RowKit Go.Joins Go.Deep

/-- The blobs bs lie at a, one behind the other, a key and a text each. -/
def BlobsIn (w : World) (a : Option Addr) (len cap : Nat) (bs : List (Int × List UInt8)) : Prop :=
  bs.length = len ∧ (a = none → len = 0 ∧ cap = 0) ∧ ∀ j, j < len → ∃ b off, a = some ⟨b, off, none⟩ ∧ b < w.heap.size ∧ w.cell? ⟨b, off + j * 2, none⟩ = some (.int .i64 (bs.getD j (0, [])).1) ∧ w.cell? ⟨b, off + j * 2 + 1, none⟩ = some (.string ⟨(bs.getD j (0, [])).2.toArray⟩)

theorem cellsStore : Try.prog.cellsOf 49 = 2 := by kernel_rfl
theorem cellsBlob : Try.prog.cellsOf 98 = 2 := by kernel_rfl

set_option maxRecDepth 100000 in
theorem open_store {H : Type} {enc : TypeId × Value → H} {W : World} {base b0 : Nat} {spare : Nat → Bool} {held : Bool} {v : Value} {d : DataW H} {p : List MemPlace}
    (hv : Value.okWide Try.prog W .any b0 49 v) (h : DataW.Trod enc Try.prog W base spare held 49 v d p) :
    ∃ room a len cap bs, v = .agg #[.int .i64 room, .slice a len cap] ∧ (Lit.int .i64 room).wf = true ∧ BlobsIn W a len cap bs ∧ len ≤ maxLen ∧ ∀ j, (bs.getD j (0, [])).2.length ≤ maxLen := by
  obtain ⟨c0, c1, y0, y1, m, rfl, _, _, hy0, hy1⟩ := open_agg2 Try.underlying49 (by kernel_rfl) cellsStore hv h
  obtain ⟨room, e0, _, wroom⟩ := DataW.trod_int Try.underlying2 hy0
  simp at e0
  subst e0
  rcases open_slice_pairs Try.underlying47 Try.underlying98 cellsBlob rfl rfl (by kernel_rfl) (by kernel_rfl) hy1 with ⟨e1, _⟩ | ⟨a, len, cap, q, n, V0, V1, D0, D1, P0, P1, e1, _, hl, hm, hq, _, hc⟩
  · simp at e1
    subst e1
    exact ⟨room, none, 0, 0, [], rfl, wroom, ⟨rfl, fun _ => ⟨rfl, rfl⟩, fun j hj => by omega⟩, by decide, fun j => by simp⟩
  · simp at e1
    subst e1
    have hlq : len ≤ q := by rw [hq]; split <;> omega
    have each : ∀ i, i < len → ∃ x : Int × List UInt8, V0 i = .int .i64 x.1 ∧ V1 i = .string ⟨x.2.toArray⟩ ∧ x.2.length ≤ maxLen ∧ (Lit.int .i64 x.1).wf = true := by
      intro i hi
      obtain ⟨_, _, t0, t1⟩ := hc i (by omega)
      obtain ⟨k, e0, _, wk⟩ := DataW.trod_int Try.underlying2 t0
      obtain ⟨s, e1, _, hs⟩ := DataW.trod_string Try.underlying9 t1
      simp at e0 e1
      exact ⟨(k, s.data.toList), e0, by rw [e1], hs, wk⟩
    obtain ⟨f, hf⟩ := choose_lt each
    refine ⟨room, some a, len, cap, (List.range len).map f, rfl, wroom, ⟨by simp, fun h => (by cases h), fun j hj => ?_⟩, by omega, fun j => ?_⟩
    rotate_left
    · by_cases hj : j < len
      · have hg : ((List.range len).map f).getD j (0, []) = f j := by simp [List.getD, hj]
        rw [hg]; exact (hf j hj).2.2.1
      · have hg : ((List.range len).map f).getD j (0, []) = (0, []) := by simp [List.getD, hj]
        rw [hg]; simp
    obtain ⟨c0, c1, _, _⟩ := hc j (by omega)
    obtain ⟨f0, f1, f2, f3⟩ := hf j hj
    have hsp : a.spot = none := by
      have h0 := (hc 0 (by omega)).1
      simpa [Addr.add] using World.cell?_spot h0
    obtain ⟨b, off, spot⟩ := a
    simp at hsp
    subst hsp
    have e : ∀ i, (⟨b, off, none⟩ : Addr).add i = ⟨b, off + i, none⟩ := fun i => by unfold Addr.add; split <;> simp_all
    rw [e] at c0 c1
    have hg : ((List.range len).map f).getD j (0, []) = f j := by simp [List.getD, hj]
    rw [hg]
    exact ⟨b, off, rfl, World.block_lt_of_cell? W ⟨b, off + j * 2, none⟩ c0, by rw [c0, f0], by rw [Nat.add_assoc, c1, f1]⟩

end Go.Proofs.Ytfjpbbacibfnmaa
