/-
  Parts of one proof, one behind the other: ObIn, OsIn.
-/
import Derived.Test.YteolfnceobjonaaGreatP26
import Derived.Test.YteolfnceobjonaaGreatP9
import Derived.Test.YteolfnceobjonaaGreatP10
import Derived.SliceStrings
import Derived.Test.YteolfnceobjonaaGreatP11

/-! An object that came in, as the walks take it. -/
namespace Go.Proofs.YteolfnceobjonaaGreat
open Go.ChangeShapes Go.WideShapes Go.ChangeAt Go.RowKit Go.Joins Go.Deep

section
variable {H : Type} {enc : TypeId × Value → H} {W : World} {base : Nat} {spare : Nat → Bool} {held : Bool} {fuel : Nat} {v : Value} {x : DataW H × List MemPlace}

set_option maxRecDepth 100000 in
theorem trod_textsO (hf : DataW.trod enc Tryz.prog W base spare held fuel 24 [v] = some x) :
    ∃ a len cap ts, v = .slice a len cap ∧ TextsIn W a len ts ∧ len ≤ maxLen ∧ ∀ j, (ts.getD j []).length ≤ maxLen := by
  rcases open_strings Tryz.underlying24 Tryz.underlying9 (by kernel_rfl) hf with ⟨hcs, _⟩ | ⟨a, len, cap, ss, hcs, _, hl, hm, hlen, _, hcell, hsz⟩
  · simp at hcs
    subst hcs
    exact ⟨none, 0, 0, [], rfl, ⟨rfl, fun j hj => by omega⟩, by decide, fun j => by simp⟩
  · simp at hcs
    subst hcs
    have hls : len ≤ ss.length := by rw [hlen]; split <;> omega
    have hgd : ∀ j, j < len → ((ss.take len).map (fun s => s.data.toList)).getD j [] = (ss.getD j ByteArray.empty).data.toList := by
      intro j hj
      have hj2 : j < ss.length := by omega
      simp [List.getD, hj, hj2]
    refine ⟨some a, len, cap, (ss.take len).map (fun s => s.data.toList), rfl, ⟨by simp; omega, fun j hj => ?_⟩, by omega, fun j => ?_⟩
    · have hc := hcell j (by omega)
      have hsp : a.spot = none := by
        have h0 := hcell 0 (by omega)
        simpa [Addr.add] using World.cell?_spot h0
      obtain ⟨b, off, spot⟩ := a
      simp at hsp
      subst hsp
      have e : ∀ i, (⟨b, off, none⟩ : Addr).add i = ⟨b, off + i, none⟩ := fun i => by unfold Addr.add; split <;> simp_all
      rw [e] at hc
      refine ⟨b, off, rfl, World.block_lt_of_cell? W ⟨b, off + j, none⟩ hc, ?_⟩
      rw [hc, hgd j hj]
    · by_cases hj : j < len
      · rw [hgd j hj]
        have hj2 : j < ss.length := by omega
        have : ss.getD j ByteArray.empty ∈ ss := by simp [List.getD, hj2]
        have hz := hsz _ this
        simpa using hz
      · have : ((ss.take len).map (fun s => s.data.toList)).getD j [] = [] := by rw [List.getD, List.getElem?_eq_none (by simp; omega)]; rfl
        rw [this]; simp

end

theorem cellsObject : Tryz.prog.cellsOf 59 = 3 := by kernel_rfl
end Go.Proofs.YteolfnceobjonaaGreat

/-! A list of objects that came in, as the walks take it. -/
namespace Go.Proofs.YteolfnceobjonaaGreat
open Go.ChangeShapes Go.WideShapes Go.ChangeAt Go.RowKit Go.Joins Go.Deep

section
variable {H : Type} {enc : TypeId × Value → H} {W : World} {base : Nat} {spare : Nat → Bool} {held : Bool} {fuel : Nat} {v : Value} {x : DataW H × List MemPlace}

set_option maxRecDepth 100000 in
theorem trod_objs (hf : DataW.trod enc Tryz.prog W base spare held fuel 22 [v] = some x) :
    ∃ a len cap os, v = .slice a len cap ∧ ObjsIn W a len os ∧ len ≤ maxLen ∧ LongOs os ∧ IntOs os := by
  rcases open_slice Tryz.underlying22 hf with ⟨hcs, _⟩ | ⟨a, len, cap, q, n, D, Pl, hcs, _, hl, hm, hq, _, hx⟩
  · simp at hcs
    subst hcs
    exact ⟨none, 0, 0, [], rfl, ⟨rfl, fun j hj => by omega⟩, by decide, (fun j => by simp [ob0, LongR, rt0, LongI, in0]), (fun j i => ⟨by simp [ob0, rt0], by simp [ob0, rt0, IntIs, IntI, in0]⟩)⟩
  · simp at hcs
    subst hcs
    have hlq : len ≤ q := by rw [hq]; split <;> omega
    have each : ∀ i, i < len → ∃ y : Ob, W.cell? (a.add (i * 3)) = some (.string ⟨y.1.toArray⟩) ∧
        (∃ ia il ic fa fl fc, W.cell? (a.add (i * 3 + 1)) = some (.slice ia il ic) ∧ W.cell? (a.add (i * 3 + 2)) = some (.slice fa fl fc) ∧ TextsIn W ia il y.2.1 ∧ RtsIn W fa fl y.2.2) ∧
        (y.1.length ≤ maxLen ∧ y.2.1.length ≤ maxLen ∧ (∀ i, (y.2.1.getD i []).length ≤ maxLen) ∧ y.2.2.length ≤ maxLen ∧ LongR y.2.2) ∧ IntR y.2.2 := by
      intro i hi
      obtain ⟨cs', h1, h2⟩ := hx i (by omega)
      rw [cellsObject] at h1
      obtain ⟨_, hlen, hcell⟩ := World.cells?_some h1
      match cs', hlen with
      | [v0, v1, v2], _ =>
        obtain ⟨y0, y1, y2, k, _, _, t0, t1, t2⟩ := trod_struct3 Tryz.underlying59 h2
        have k9 : Tryz.prog.cellsOf 9 = 1 := by kernel_rfl
        have ks : Tryz.prog.cellsOf 24 = 1 := by kernel_rfl
        have kf : Tryz.prog.cellsOf 57 = 1 := by kernel_rfl
        simp [k9, ks, kf] at t0 t1 t2
        obtain ⟨s0, e0, _, z0⟩ := DataW.trod_string Tryz.underlying9 t0
        obtain ⟨ia, il, ic, ims, e1, hti, hil, him⟩ := trod_textsO t1
        obtain ⟨fa, fl, fc, fs, e2, hfi, hfl, hlf, hif⟩ := trod_rts t2
        simp at e0
        subst e0 e1 e2
        have g0 := hcell 0 (by omega)
        have g1 := hcell 1 (by omega)
        have g2 := hcell 2 (by omega)
        rw [add_add] at g0 g1 g2
        exact ⟨(s0.data.toList, ims, fs), by simpa using g0, ⟨ia, il, ic, fa, fl, fc, by simpa using g1, by simpa using g2, hti, hfi⟩, ⟨z0, by rw [show ((s0.data.toList, ims, fs) : Ob).2.1 = ims from rfl, hti.1]; exact hil, him, by rw [show ((s0.data.toList, ims, fs) : Ob).2.2 = fs from rfl, hfi.1]; exact hfl, hlf⟩, hif⟩
    obtain ⟨f, hf2⟩ := choose_lt each
    have hgd : ∀ j, j < len → ((List.range len).map f).getD j ob0 = f j := fun j hj => by simp [List.getD, hj]
    have hge : ∀ j, ¬ j < len → ((List.range len).map f).getD j ob0 = ob0 := fun j hj => by simp [List.getD, hj]
    refine ⟨some a, len, cap, (List.range len).map f, rfl, ⟨by simp, fun j hj => ?_⟩, by omega, (fun j => ?_), (fun j => ?_)⟩
    rotate_left
    · by_cases hj : j < len
      · rw [hgd j hj]; exact (hf2 j hj).2.2.1
      · rw [hge j hj]; simp [ob0, LongR, rt0, LongI, in0]
    · by_cases hj : j < len
      · rw [hgd j hj]; exact (hf2 j hj).2.2.2
      · rw [hge j hj]; exact fun i => ⟨by simp [ob0, rt0], by simp [ob0, rt0, IntIs, IntI, in0]⟩
    obtain ⟨c0, ⟨ia, il, ic, fa, fl, fc, c1, c2, hti, hfi⟩, _, _⟩ := hf2 j hj
    have hsp : a.spot = none := by
      have h0 := (hf2 0 (by omega)).1
      simpa [Addr.add] using World.cell?_spot h0
    obtain ⟨b, off, spot⟩ := a
    simp at hsp
    subst hsp
    have e : ∀ i, (⟨b, off, none⟩ : Addr).add i = ⟨b, off + i, none⟩ := fun i => by unfold Addr.add; split <;> simp_all
    rw [e] at c0 c1 c2
    rw [hgd j hj]
    exact ⟨b, off, rfl, World.block_lt_of_cell? W ⟨b, off + j * 3, none⟩ c0, c0, ia, il, ic, fa, fl, fc, by rw [Nat.add_assoc]; exact c1, by rw [Nat.add_assoc]; exact c2, hti, hfi⟩

end

set_option maxRecDepth 100000 in
theorem open_objects {H : Type} {enc : TypeId × Value → H} {W : World} {base b0 : Nat} {spare : Nat → Bool} {held : Bool} {v : Value} {d : DataW H} {p : List MemPlace}
    (hv : Value.okWide Tryz.prog W .any b0 22 v) (h : DataW.Trod enc Tryz.prog W base spare held 22 v d p) :
    ∃ a len cap os, v = .slice a len cap ∧ ObjsIn W a len os ∧ len ≤ maxLen ∧ LongOs os ∧ IntOs os := by
  obtain ⟨a0, len, cap, rfl⟩ := okWide_slice Tryz.underlying22 hv
  obtain ⟨fuel, hf⟩ := h
  exact trod_objs (v := .slice a0 len cap) hf

end Go.Proofs.YteolfnceobjonaaGreat
