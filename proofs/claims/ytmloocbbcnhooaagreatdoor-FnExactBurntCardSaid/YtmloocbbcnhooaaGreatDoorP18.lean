/-
  Parts of one proof, one behind the other: PackIn, ProjIn, ProjK, MeanS, MeanS2.
-/
import Derived.Test.YtmloocbbcnhooaaGreatDoorP17
import Derived.Test.YtmloocbbcnhooaaGreatDoorP14
import Derived.SliceStrings
import Derived.Test.YtmloocbbcnhooaaGreatDoorP16
import Derived.Test.YtmloocbbcnhooaaGreatDoorP7
import Derived.Test.YtmloocbbcnhooaaGreatDoorP15
import Derived.Test.YtmloocbbcnhooaaGreatDoorP2
import Derived.Test.YtmloocbbcnhooaaGreatDoorP13
import Derived.Deep.RegionHeld3

/-! A package that came in, as the walks take it. -/
namespace Go.Proofs.YtmloocbbcnhooaaGreatDoor
open Go.ChangeShapes Go.WideShapes Go.ChangeAt Go.RowKit Go.Joins Go.Deep

section
variable {H : Type} {enc : TypeId × Value → H} {W : World} {base : Nat} {spare : Nat → Bool} {held : Bool} {fuel : Nat} {v : Value} {x : DataW H × List MemPlace}

set_option maxRecDepth 100000 in
theorem trod_nodes (hf : DataW.trod enc Tryz.prog W base spare held fuel 116 [v] = some x) :
    ∃ a len cap ns, v = .slice a len cap ∧ (a = none → cap = 0) ∧ NodesIn W a len ns ∧ len ≤ maxLen ∧ LongT ns ∧ IntT ns := by
  rcases open_slice Tryz.underlying116 hf with ⟨hcs, _⟩ | ⟨a, len, cap, q, n, D, Pl, hcs, _, hl, hm, hq, _, hx⟩
  · simp at hcs
    subst hcs
    exact ⟨none, 0, 0, [], rfl, fun _ => rfl, ⟨rfl, fun j hj => by omega⟩, by decide, (fun j => by simp [nd0]), IntT.nil⟩
  · simp at hcs
    subst hcs
    have hlq : len ≤ q := by rw [hq]; split <;> omega
    have each : ∀ i, i < len → ∃ x : Nd, W.cell? (a.add (i * 4)) = some (.int .i64 x.1) ∧ W.cell? (a.add (i * 4 + 1)) = some (.int .i64 x.2.1) ∧ W.cell? (a.add (i * 4 + 2)) = some (.string ⟨x.2.2.1.toArray⟩) ∧ W.cell? (a.add (i * 4 + 3)) = some (.string ⟨x.2.2.2.toArray⟩) ∧ x.2.2.1.length ≤ maxLen ∧ x.2.2.2.length ≤ maxLen ∧ IntN x := by
      intro i hi
      obtain ⟨cs', h1, h2⟩ := hx i (by omega)
      rw [cellsNode] at h1
      obtain ⟨_, hlen, hcell⟩ := World.cells?_some h1
      match cs', hlen with
      | [v0, v1, v2, v3], _ =>
        obtain ⟨y0, y1, y2, y3, k, _, _, t0, t1, t2, t3⟩ := trod_struct4 Tryz.underlying165 h2
        have k2 : Tryz.prog.cellsOf 2 = 1 := by kernel_rfl
        have k9 : Tryz.prog.cellsOf 9 = 1 := by kernel_rfl
        simp [k2, k9] at t0 t1 t2 t3
        obtain ⟨kd, e0, _, wk⟩ := DataW.trod_int Tryz.underlying2 t0
        obtain ⟨aa, e1, _, wa⟩ := DataW.trod_int Tryz.underlying2 t1
        obtain ⟨s2, e2, _, z2⟩ := DataW.trod_string Tryz.underlying9 t2
        obtain ⟨s3, e3, _, z3⟩ := DataW.trod_string Tryz.underlying9 t3
        simp at e0 e1 e2 e3
        subst e0 e1 e2 e3
        have g0 := hcell 0 (by omega)
        have g1 := hcell 1 (by omega)
        have g2 := hcell 2 (by omega)
        have g3 := hcell 3 (by omega)
        rw [add_add] at g0 g1 g2 g3
        exact ⟨(kd, aa, s2.data.toList, s3.data.toList), by simpa using g0, by simpa using g1, by simpa using g2, by simpa using g3, z2, z3, ⟨bounds_i64 wk, bounds_i64 wa⟩⟩
    obtain ⟨f, hf2⟩ := choose_lt each
    refine ⟨some a, len, cap, (List.range len).map f, rfl, (fun e => by cases e), ⟨by simp, fun j hj => ?_⟩, by omega, (fun j => ?_), (fun j => ?_)⟩
    rotate_left
    · by_cases hj : j < len
      · have hg : ((List.range len).map f).getD j nd0 = f j := by simp [List.getD, hj]
        rw [hg]; exact ⟨(hf2 j hj).2.2.2.2.1, (hf2 j hj).2.2.2.2.2.1⟩
      · have hg : ((List.range len).map f).getD j nd0 = nd0 := by simp [List.getD, hj]
        rw [hg]; simp [nd0]
    · by_cases hj : j < len
      · have hg : ((List.range len).map f).getD j nd0 = f j := by simp [List.getD, hj]
        rw [hg]; exact (hf2 j hj).2.2.2.2.2.2
      · have hg : ((List.range len).map f).getD j nd0 = nd0 := by simp [List.getD, hj]
        rw [hg]; exact intN_nd0
    obtain ⟨c0, c1, c2, c3, _, _, _⟩ := hf2 j hj
    have hsp : a.spot = none := by
      have h0 := (hf2 0 (by omega)).1
      simpa [Addr.add] using World.cell?_spot h0
    obtain ⟨b, off, spot⟩ := a
    simp at hsp
    subst hsp
    have e : ∀ i, (⟨b, off, none⟩ : Addr).add i = ⟨b, off + i, none⟩ := fun i => by unfold Addr.add; split <;> simp_all
    rw [e] at c0 c1 c2 c3
    have hg : ((List.range len).map f).getD j nd0 = f j := by simp [List.getD, hj]
    rw [hg]
    exact ⟨b, off, rfl, World.block_lt_of_cell? W ⟨b, off + j * 4, none⟩ c0, c0, by rw [Nat.add_assoc]; exact c1, by rw [Nat.add_assoc]; exact c2, by rw [Nat.add_assoc]; exact c3⟩

set_option maxRecDepth 100000 in
theorem trod_texts (hf : DataW.trod enc Tryz.prog W base spare held fuel 32 [v] = some x) :
    ∃ a len cap ts, v = .slice a len cap ∧ TextsIn W a len ts ∧ len ≤ maxLen ∧ ∀ j, (ts.getD j []).length ≤ maxLen := by
  rcases open_strings Tryz.underlying32 Tryz.underlying9 (by kernel_rfl) hf with ⟨hcs, _⟩ | ⟨a, len, cap, ss, hcs, _, hl, hm, hlen, _, hcell, hsz⟩
  · simp at hcs
    subst hcs
    exact ⟨none, 0, 0, [], rfl, ⟨rfl, fun j hj => by omega⟩, by decide, fun j => by simp⟩
  · simp at hcs
    subst hcs
    have hls : len ≤ ss.length := by rw [hlen]; split <;> omega
    have hgd : ∀ j, j < len → ((ss.take len).map (fun s => s.data.toList)).getD j [] = (ss.getD j ByteArray.empty).data.toList := by
      intro j hj
      have hj2 : j < ss.length := by omega
      simp [List.getD, hj, hj2]
    refine ⟨some a, len, cap, (ss.take len).map (fun s => s.data.toList), rfl, ⟨by simp; omega, fun j hj => ?_⟩, by omega, fun j => ?_⟩
    · have hc := hcell j (by omega)
      have hsp : a.spot = none := by
        have h0 := hcell 0 (by omega)
        simpa [Addr.add] using World.cell?_spot h0
      obtain ⟨b, off, spot⟩ := a
      simp at hsp
      subst hsp
      have e : ∀ i, (⟨b, off, none⟩ : Addr).add i = ⟨b, off + i, none⟩ := fun i => by unfold Addr.add; split <;> simp_all
      rw [e] at hc
      refine ⟨b, off, rfl, World.block_lt_of_cell? W ⟨b, off + j, none⟩ hc, ?_⟩
      rw [hc, hgd j hj]
    · by_cases hj : j < len
      · rw [hgd j hj]
        have hj2 : j < ss.length := by omega
        have : ss.getD j ByteArray.empty ∈ ss := by simp [List.getD, hj2]
        have hz := hsz _ this
        simpa using hz
      · have : ((ss.take len).map (fun s => s.data.toList)).getD j [] = [] := by rw [List.getD, List.getElem?_eq_none (by simp; omega)]; rfl
        rw [this]; simp

theorem cellsFunc : Tryz.prog.cellsOf 118 = 3 := by kernel_rfl
theorem cellsPackage : Tryz.prog.cellsOf 71 = 3 := by kernel_rfl

set_option maxRecDepth 100000 in
theorem trod_fns (hf : DataW.trod enc Tryz.prog W base spare held fuel 69 [v] = some x) :
    ∃ a len cap fs, v = .slice a len cap ∧ FuncsIn W a len fs ∧ len ≤ maxLen ∧ LongF fs ∧ IntF fs := by
  rcases open_slice Tryz.underlying69 hf with ⟨hcs, _⟩ | ⟨a, len, cap, q, n, D, Pl, hcs, _, hl, hm, hq, _, hx⟩
  · simp at hcs
    subst hcs
    exact ⟨none, 0, 0, [], rfl, ⟨rfl, fun j hj => by omega⟩, by decide, (fun j => by simp [fn0, LongT, nd0]), (fun j => ⟨by simp [fn0], IntT.nil⟩)⟩
  · simp at hcs
    subst hcs
    have hlq : len ≤ q := by rw [hq]; split <;> omega
    have each : ∀ i, i < len → ∃ y : Fn, W.cell? (a.add (i * 3)) = some (.string ⟨y.1.toArray⟩) ∧ W.cell? (a.add (i * 3 + 1)) = some (.int .i64 y.2.1) ∧
        (∃ ta tl tc, W.cell? (a.add (i * 3 + 2)) = some (.slice ta tl tc) ∧ (ta = none → tc = 0) ∧ NodesIn W ta tl y.2.2) ∧ (y.1.length ≤ maxLen ∧ y.2.2.length ≤ maxLen ∧ LongT y.2.2) ∧ ((-9223372036854775808 ≤ y.2.1 ∧ y.2.1 ≤ 9223372036854775807) ∧ IntT y.2.2) := by
      intro i hi
      obtain ⟨cs', h1, h2⟩ := hx i (by omega)
      rw [cellsFunc] at h1
      obtain ⟨_, hlen, hcell⟩ := World.cells?_some h1
      match cs', hlen with
      | [v0, v1, v2], _ =>
        obtain ⟨y0, y1, y2, k, _, _, t0, t1, t2⟩ := trod_struct3 Tryz.underlying118 h2
        have k2 : Tryz.prog.cellsOf 2 = 1 := by kernel_rfl
        have k9 : Tryz.prog.cellsOf 9 = 1 := by kernel_rfl
        have kn : Tryz.prog.cellsOf 116 = 1 := by kernel_rfl
        simp [k2, k9, kn] at t0 t1 t2
        obtain ⟨s0, e0, _, z0⟩ := DataW.trod_string Tryz.underlying9 t0
        obtain ⟨aa, e1, _, wa⟩ := DataW.trod_int Tryz.underlying2 t1
        obtain ⟨ta, tl, tc, ns, e2, hnc, hns, hnl, hlt, hit⟩ := trod_nodes t2
        simp at e0 e1
        subst e0 e1 e2
        have g0 := hcell 0 (by omega)
        have g1 := hcell 1 (by omega)
        have g2 := hcell 2 (by omega)
        rw [add_add] at g0 g1 g2
        exact ⟨(s0.data.toList, aa, ns), by simpa using g0, by simpa using g1, ⟨ta, tl, tc, by simpa using g2, hnc, hns⟩, ⟨z0, by rw [show ((s0.data.toList, aa, ns) : Fn).2.2 = ns from rfl, hns.1]; exact hnl, hlt⟩, ⟨bounds_i64 wa, hit⟩⟩
    obtain ⟨f, hf2⟩ := choose_lt each
    refine ⟨some a, len, cap, (List.range len).map f, rfl, ⟨by simp, fun j hj => ?_⟩, by omega, (fun j => ?_), (fun j => ?_)⟩
    rotate_left
    · by_cases hj : j < len
      · have hg : ((List.range len).map f).getD j fn0 = f j := by simp [List.getD, hj]
        rw [hg]; exact (hf2 j hj).2.2.2.1
      · have hg : ((List.range len).map f).getD j fn0 = fn0 := by simp [List.getD, hj]
        rw [hg]; simp [fn0, LongT, nd0]
    · by_cases hj : j < len
      · have hg : ((List.range len).map f).getD j fn0 = f j := by simp [List.getD, hj]
        rw [hg]; exact (hf2 j hj).2.2.2.2
      · have hg : ((List.range len).map f).getD j fn0 = fn0 := by simp [List.getD, hj]
        rw [hg]; exact ⟨by simp [fn0], IntT.nil⟩
    obtain ⟨c0, c1, ⟨ta, tl, tc, c2, hnc, hns⟩, _, _⟩ := hf2 j hj
    have hsp : a.spot = none := by
      have h0 := (hf2 0 (by omega)).1
      simpa [Addr.add] using World.cell?_spot h0
    obtain ⟨b, off, spot⟩ := a
    simp at hsp
    subst hsp
    have e : ∀ i, (⟨b, off, none⟩ : Addr).add i = ⟨b, off + i, none⟩ := fun i => by unfold Addr.add; split <;> simp_all
    rw [e] at c0 c1 c2
    have hg : ((List.range len).map f).getD j fn0 = f j := by simp [List.getD, hj]
    rw [hg]
    exact ⟨b, off, rfl, World.block_lt_of_cell? W ⟨b, off + j * 3, none⟩ c0, c0, by rw [Nat.add_assoc]; exact c1, ta, tl, tc, by rw [Nat.add_assoc]; exact c2, hnc, hns⟩

end

set_option maxRecDepth 100000 in
theorem open_package {H : Type} {enc : TypeId × Value → H} {W : World} {base b0 : Nat} {spare : Nat → Bool} {held : Bool} {v : Value} {d : DataW H} {p : List MemPlace}
    (hv : Value.okWide Tryz.prog W .any b0 71 v) (h : DataW.Trod enc Tryz.prog W base spare held 71 v d p) :
    ∃ nm ia il ic ims fa fl fc fs, v = .agg #[.string ⟨(nm : List UInt8).toArray⟩, .slice ia il ic, .slice fa fl fc] ∧ TextsIn W ia il ims ∧ FuncsIn W fa fl fs ∧ nm.length ≤ maxLen ∧ il ≤ maxLen ∧ (∀ j, (ims.getD j []).length ≤ maxLen) ∧ fl ≤ maxLen ∧ LongF fs ∧ IntF fs := by
  obtain ⟨c0, c1, c2, y0, y1, y2, m, rfl, _, _, t0, t1, t2⟩ := open_agg3 Tryz.underlying71 (by kernel_rfl) cellsPackage hv h
  obtain ⟨s0, e0, _, h0⟩ := DataW.trod_string Tryz.underlying9 t0
  simp at e0
  subst e0
  obtain ⟨ia, il, ic, ims, rfl, hi, hil, him⟩ := trod_texts t1
  obtain ⟨fa, fl, fc, fs, rfl, hf, hfl, hlf, hif⟩ := trod_fns t2
  exact ⟨s0.data.toList, ia, il, ic, ims, fa, fl, fc, fs, rfl, hi, hf, h0, hil, him, hfl, hlf, hif⟩

end Go.Proofs.YtmloocbbcnhooaaGreatDoor

/-! A project that came in, as the walks take it. -/
namespace Go.Proofs.YtmloocbbcnhooaaGreatDoor
open Go.ChangeShapes Go.WideShapes Go.ChangeAt Go.RowKit Go.Joins Go.Deep

section
variable {H : Type} {enc : TypeId × Value → H} {W : World} {base : Nat} {spare : Nat → Bool} {held : Bool} {fuel : Nat} {v : Value} {x : DataW H × List MemPlace}

set_option maxRecDepth 100000 in
theorem trod_pkgs (hf : DataW.trod enc Tryz.prog W base spare held fuel 43 [v] = some x) :
    ∃ a len cap ps, v = .slice a len cap ∧ PkgsIn W a len ps ∧ len ≤ maxLen ∧ LongPs ps ∧ IntPs ps := by
  rcases open_slice Tryz.underlying43 hf with ⟨hcs, _⟩ | ⟨a, len, cap, q, n, D, Pl, hcs, _, hl, hm, hq, _, hx⟩
  · simp at hcs
    subst hcs
    exact ⟨none, 0, 0, [], rfl, ⟨rfl, fun j hj => by omega⟩, by decide, (fun j => by simp [pk0, LongF, fn0, LongT, nd0]), (fun j i => ⟨by simp [pk0, fn0], by simp [pk0, fn0, IntT, IntN, nd0]⟩)⟩
  · simp at hcs
    subst hcs
    have hlq : len ≤ q := by rw [hq]; split <;> omega
    have each : ∀ i, i < len → ∃ y : Pk, W.cell? (a.add (i * 3)) = some (.string ⟨y.1.toArray⟩) ∧
        (∃ ia il ic fa fl fc, W.cell? (a.add (i * 3 + 1)) = some (.slice ia il ic) ∧ W.cell? (a.add (i * 3 + 2)) = some (.slice fa fl fc) ∧ TextsIn W ia il y.2.1 ∧ FuncsIn W fa fl y.2.2) ∧
        (y.1.length ≤ maxLen ∧ y.2.1.length ≤ maxLen ∧ (∀ i, (y.2.1.getD i []).length ≤ maxLen) ∧ y.2.2.length ≤ maxLen ∧ LongF y.2.2) ∧ IntF y.2.2 := by
      intro i hi
      obtain ⟨cs', h1, h2⟩ := hx i (by omega)
      rw [cellsPackage] at h1
      obtain ⟨_, hlen, hcell⟩ := World.cells?_some h1
      match cs', hlen with
      | [v0, v1, v2], _ =>
        obtain ⟨y0, y1, y2, k, _, _, t0, t1, t2⟩ := trod_struct3 Tryz.underlying71 h2
        have k9 : Tryz.prog.cellsOf 9 = 1 := by kernel_rfl
        have ks : Tryz.prog.cellsOf 32 = 1 := by kernel_rfl
        have kf : Tryz.prog.cellsOf 69 = 1 := by kernel_rfl
        simp [k9, ks, kf] at t0 t1 t2
        obtain ⟨s0, e0, _, z0⟩ := DataW.trod_string Tryz.underlying9 t0
        obtain ⟨ia, il, ic, ims, e1, hti, hil, him⟩ := trod_texts t1
        obtain ⟨fa, fl, fc, fs, e2, hfi, hfl, hlf, hif⟩ := trod_fns t2
        simp at e0
        subst e0 e1 e2
        have g0 := hcell 0 (by omega)
        have g1 := hcell 1 (by omega)
        have g2 := hcell 2 (by omega)
        rw [add_add] at g0 g1 g2
        exact ⟨(s0.data.toList, ims, fs), by simpa using g0, ⟨ia, il, ic, fa, fl, fc, by simpa using g1, by simpa using g2, hti, hfi⟩, ⟨z0, by rw [show ((s0.data.toList, ims, fs) : Pk).2.1 = ims from rfl, hti.1]; exact hil, him, by rw [show ((s0.data.toList, ims, fs) : Pk).2.2 = fs from rfl, hfi.1]; exact hfl, hlf⟩, hif⟩
    obtain ⟨f, hf2⟩ := choose_lt each
    have hgd : ∀ j, j < len → ((List.range len).map f).getD j pk0 = f j := fun j hj => by simp [List.getD, hj]
    have hge : ∀ j, ¬ j < len → ((List.range len).map f).getD j pk0 = pk0 := fun j hj => by simp [List.getD, hj]
    refine ⟨some a, len, cap, (List.range len).map f, rfl, ⟨by simp, fun j hj => ?_⟩, by omega, (fun j => ?_), (fun j => ?_)⟩
    rotate_left
    · by_cases hj : j < len
      · rw [hgd j hj]; exact (hf2 j hj).2.2.1
      · rw [hge j hj]; simp [pk0, LongF, fn0, LongT, nd0]
    · by_cases hj : j < len
      · rw [hgd j hj]; exact (hf2 j hj).2.2.2
      · rw [hge j hj]; exact fun i => ⟨by simp [pk0, fn0], by simp [pk0, fn0, IntT, IntN, nd0]⟩
    obtain ⟨c0, ⟨ia, il, ic, fa, fl, fc, c1, c2, hti, hfi⟩, _, _⟩ := hf2 j hj
    have hsp : a.spot = none := by
      have h0 := (hf2 0 (by omega)).1
      simpa [Addr.add] using World.cell?_spot h0
    obtain ⟨b, off, spot⟩ := a
    simp at hsp
    subst hsp
    have e : ∀ i, (⟨b, off, none⟩ : Addr).add i = ⟨b, off + i, none⟩ := fun i => by unfold Addr.add; split <;> simp_all
    rw [e] at c0 c1 c2
    rw [hgd j hj]
    exact ⟨b, off, rfl, World.block_lt_of_cell? W ⟨b, off + j * 3, none⟩ c0, c0, ia, il, ic, fa, fl, fc, by rw [Nat.add_assoc]; exact c1, by rw [Nat.add_assoc]; exact c2, hti, hfi⟩

end

set_option maxRecDepth 100000 in
theorem open_packages {H : Type} {enc : TypeId × Value → H} {W : World} {base b0 : Nat} {spare : Nat → Bool} {held : Bool} {v : Value} {d : DataW H} {p : List MemPlace}
    (hv : Value.okWide Tryz.prog W .any b0 43 v) (h : DataW.Trod enc Tryz.prog W base spare held 43 v d p) :
    ∃ a len cap ps, v = .slice a len cap ∧ PkgsIn W a len ps ∧ len ≤ maxLen ∧ LongPs ps ∧ IntPs ps := by
  obtain ⟨a0, len, cap, rfl⟩ := okWide_slice Tryz.underlying43 hv
  obtain ⟨fuel, hf⟩ := h
  exact trod_pkgs (v := .slice a0 len cap) hf

end Go.Proofs.YtmloocbbcnhooaaGreatDoor

/-! What the landed functions of chapter 8 are told of a project. -/
namespace Go.Proofs.YtmloocbbcnhooaaGreatDoor
open Go.RowKit

/-- What the landed functions are told of a project that they are handed. -/
structure PkgsOk (w : World) (a : Option Addr) (len cap : Nat) (ps : List Pk) : Prop where
  hlen : ps.length = len
  nil : a = none → cap = 0
  hcap : len ≤ cap
  small : len ≤ 1048576
  each : ∀ j, j < len → ∃ b off, a = some ⟨b, off, none⟩ ∧ b < w.heap.size ∧ w.cell? ⟨b, off + j * 3, none⟩ = some (.string ⟨(ps.getD j pk0).1.toArray⟩) ∧
    ∃ ia il ic fa fl fc, w.cell? ⟨b, off + j * 3 + 1, none⟩ = some (.slice ia il ic) ∧ w.cell? ⟨b, off + j * 3 + 2, none⟩ = some (.slice fa fl fc) ∧ PkOk w (ps.getD j pk0).1 ia il ic fa fl fc (ps.getD j pk0).2.1 (ps.getD j pk0).2.2
theorem PkgsOk.below {w w' : World} {a : Option Addr} {len cap : Nat} {ps : List Pk} (h : PkgsOk w a len cap ps) (hb : Below w.heap.size w w') : PkgsOk w' a len cap ps :=
  ⟨h.hlen, h.nil, h.hcap, h.small, fun j hj => by
    obtain ⟨b, off, e, hlt, c0, ia, il, ic, fa, fl, fc, c1, c2, hk⟩ := h.each j hj
    exact ⟨b, off, e, Nat.lt_of_lt_of_le hlt hb.size, (hb.cell (p := ⟨b, off + j * 3, none⟩) hlt).trans c0, ia, il, ic, fa, fl, fc, (hb.cell (p := ⟨b, off + j * 3 + 1, none⟩) hlt).trans c1, (hb.cell (p := ⟨b, off + j * 3 + 2, none⟩) hlt).trans c2, hk.below hb⟩⟩
theorem PkgsOk.in {w : World} {a : Option Addr} {len cap : Nat} {ps : List Pk} (h : PkgsOk w a len cap ps) : PkgsIn w a len ps :=
  ⟨h.hlen, fun j hj => by
    obtain ⟨b, off, e, hlt, c0, ia, il, ic, fa, fl, fc, c1, c2, hk⟩ := h.each j hj
    exact ⟨b, off, e, hlt, c0, ia, il, ic, fa, fl, fc, c1, c2, hk.i, hk.f⟩⟩
theorem PkgsOk.short {w : World} {a : Option Addr} {len cap : Nat} {ps : List Pk} (h : PkgsOk w a len cap ps) : ShortPs ps := fun j => by
  by_cases hj : j < len
  · obtain ⟨b, off, e, hlt, c0, ia, il, ic, fa, fl, fc, c1, c2, hk⟩ := h.each j hj
    exact ⟨hk.nm, by rw [hk.i.1]; exact hk.il, hk.is, by rw [hk.f.1]; exact hk.fl, hk.fs⟩
  · have : ps.getD j pk0 = pk0 := by rw [List.getD, List.getElem?_eq_none (by rw [h.hlen]; omega)]; rfl
    rw [this]
    exact ⟨by simp [pk0], by simp [pk0], fun i => by simp [pk0], by simp [pk0], fun i => by simp [pk0, fn0, ShortT, nd0]⟩
/-- A project that a call owns, as they are told of it. -/
theorem PjOwn.ok {w : World} {B T : Nat} {g len cap : Nat} {ys : List PV} {ps : List Pk} (h : PjOwn w B T (.slice (some ⟨g, 0, none⟩) len cap) ys) (hp : ys.map pvP = ps) (hi : IntPs ps) (hs : ShortPs ps) (hl : ps.length = len) (hlen : len ≤ 1048576) : PkgsOk w (some ⟨g, 0, none⟩) len cap ps := by
  have hyl : ys.length = len := by rw [← hl, ← hp, List.length_map]
  have hrow := h.row
  rw [hyl] at hrow
  have hcap : len ≤ cap := by
    rcases hrow.2 with ⟨e, _⟩ | ⟨g', cap', cur, e, _, _, hc, _⟩
    · cases e
    · injection e with _ _ e3; rw [e3]; exact hc
  refine ⟨hl, (fun e => (by cases e)), hcap, hlen, fun j hj => ?_⟩
  obtain ⟨v0, v1, v2⟩ := pvsV_at ys j (by omega)
  have hc := fun k (hk : k < len * 3) => World.ownsRow.cellAt hrow k hk
  have hmem : ys.getD j pv0 ∈ ys := by simp [List.getD, show j < ys.length by omega]
  have hy := (h.each _ hmem).1
  obtain ⟨ai, ci, af, cf, e1, e2, h3, h4, hti, hfi⟩ := own_pk hy.im hy.fo rfl
  have hpj : ps.getD j pk0 = pvP (ys.getD j pv0) := by rw [← hp]; exact getD_map_pv ys j
  have hsj := hs j
  have hij := hi j
  rw [hpj] at hsj hij ⊢
  refine ⟨g, 0, rfl, (hrow.lt g rfl).2, ?_, ai, (ys.getD j pv0).ims.length, ci, af, ((ys.getD j pv0).xs.map (fun x : FV => x.1)).length, cf, ?_, ?_, ⟨hti, hfi, h3, h4, hij, hsj.2.1, hsj.2.2.2.1, hsj.1, hsj.2.2.1, hsj.2.2.2.2⟩⟩
  · rw [Nat.zero_add, hc _ (by omega), v0]; rfl
  · rw [Nat.zero_add, hc _ (by omega), v1, e1]
  · rw [Nat.zero_add, hc _ (by omega), v2, e2]

theorem fend_le8 (k : Nat) (xs : List FV) : fend k xs ≤ k + 4 * (xs.length + fnsSz (xs.map (·.1))) := by
  induction xs generalizing k with
  | nil => simp [fend, fnsSz]
  | cons x r ih =>
    have h1 := ih (k + 2 + 4 * x.1.2.2.length)
    have h2 : x.1.2.2.length ≤ fnSz x.1 := by unfold fnSz; omega
    simp only [fend, List.length_cons, List.map_cons, fnsSz]
    omega
theorem mend_le8 (k : Nat) (ys : List PV) : mend k ys ≤ k + ys.length + 4 * psSz (ys.map pvP) := by
  induction ys generalizing k with
  | nil => simp [mend, psSz]
  | cons y r ih =>
    have h1 := ih (fend (k + 1 + y.ims.length) y.xs)
    have h2 := fend_le8 (k + 1 + y.ims.length) y.xs
    have h3 : pkZ (pvP y) = y.nm.length + (y.ims.length + joinN y.ims) + (y.xs.length + fnsSz (y.xs.map (·.1))) := by unfold pkZ pkSz pvP; simp
    simp only [mend, List.length_cons, List.map_cons, psSz]
    omega
/-- How much the marks of a project may be. -/
theorem pj_small {ys : List PV} {ps : List Pk} (hp : ys.map pvP = ps) (hz : ps.length + psSz ps ≤ 1048576) : (∀ y ∈ ys, y.ims.length ≤ 1100000 ∧ y.xs.length ≤ 1100000 ∧ ∀ x ∈ y.xs, x.1.2.2.length ≤ 1100000) ∧ mend 1 ys ≤ 30000000 := by
  have hyl : ys.length = ps.length := by rw [← hp, List.length_map]
  refine ⟨fun y hy => ?_, ?_⟩
  · obtain ⟨i, hi, rfl⟩ := List.mem_iff_getElem.1 hy
    have h1 := psSz_at ps i
    have h2 : ps.getD i pk0 = pvP ys[i] := by rw [← hp, getD_map_pv]; simp [List.getD, hi]
    rw [h2] at h1
    have h3 : pkZ (pvP ys[i]) = ys[i].nm.length + (ys[i].ims.length + joinN ys[i].ims) + (ys[i].xs.length + fnsSz (ys[i].xs.map (·.1))) := by unfold pkZ pkSz pvP; simp
    refine ⟨by omega, by omega, fun x hx => ?_⟩
    obtain ⟨j, hj, rfl⟩ := List.mem_iff_getElem.1 hx
    have h4 := fnsSz_at (ys[i].xs.map (·.1)) j
    have h5 : (ys[i].xs.map (·.1)).getD j fn0 = (ys[i].xs[j]).1 := by simp [List.getD, hj]
    rw [h5] at h4
    unfold fnSz at h4
    omega
  · have := mend_le8 1 ys
    rw [hp] at this
    omega
theorem orderV_len (ps : List Pk) : (orderV ps).length ≤ 8 := by
  unfold orderV
  split
  · rename_i h
    have h1 := (order8_end h).1.len
    have h2 := (projB_parts h).2.1
    omega
  · simp
theorem here_parts {ps : List Pk} {s : List UInt8} (h : hereB ps s = true) : projB ps = true ∧ s ∈ names8 ps := by
  unfold hereB at h
  rw [Bool.and_eq_true, decide_eq_true_eq] at h
  exact ⟨h.1, (at8_mem ps s).1 h.2⟩
theorem reachV_len (ps : List Pk) (s : List UInt8) : (reachV ps s).length ≤ 8 := by
  unfold reachV
  split
  · rename_i h
    have h0 := here_parts h
    have h1 := (reach8_end h0.2).1.len
    have h2 := (projB_parts h0.1).2.1
    omega
  · simp
theorem needV_len (ps : List Pk) (s : List UInt8) : (needV ps s).length ≤ 8 := by
  unfold needV
  split
  · rename_i h
    have h0 := here_parts h
    have h1 := (order8_end h0.1).1.len
    have h2 := (projB_parts h0.1).2.1
    have h3 : (need8 ps s).length ≤ (order8 ps).length := List.length_filter_le _ _
    omega
  · simp

end Go.Proofs.YtmloocbbcnhooaaGreatDoor

/-! The contract of chapter 10's specification: the value of a tree, part by part. -/
namespace Go.Proofs.YtmloocbbcnhooaaGreatDoor
open Go.RowKit

/-- A walk's block: the project, the fuel, the code. -/
structure Wk (Z : World) (W : Nat) (l : Value) (f : Nat) (c : Int) : Prop where
  c0 : Z.cell? ⟨W, 0, none⟩ = some l
  c1 : Z.cell? ⟨W, 1, none⟩ = some (.int .i64 (f : Int))
  c2 : Z.cell? ⟨W, 2, none⟩ = some (.int .i64 c)
  fr : ∀ j, Z.frozen? ⟨W, j, none⟩ = false
variable {Z Y B : World} {W f d : Nat} {l : Value} {c m : Int} {a aa ta la : Option Addr} {lc : Nat} {xs : List Int} {ps : List Pk} {t : List Nd}
theorem Wk.lt (h : Wk Z W l f c) : W < Z.heap.size := World.block_lt_of_cell? Z ⟨W, 0, none⟩ h.c0
theorem Wk.below (h : Wk Z W l f c) (hb : Below Z.heap.size Z Y) : Wk Y W l f c :=
  ⟨(hb.cell (p := ⟨W, 0, none⟩) h.lt).trans h.c0, (hb.cell (p := ⟨W, 1, none⟩) h.lt).trans h.c1, (hb.cell (p := ⟨W, 2, none⟩) h.lt).trans h.c2, fun j => (hb.frozen (p := ⟨W, j, none⟩) h.lt).trans (h.fr j)⟩
theorem Wk.fuel (h : Wk Z W l f c) (g : Nat) : Wk (Z.setCell ⟨W, 1, none⟩ (.int .i64 (g : Int))) W l g c :=
  ⟨(World.cell?_setCell_other _ _ _ _ (by simp)).trans h.c0, World.cell?_setCell_same _ _ _ h.c1, (World.cell?_setCell_other _ _ _ _ (by simp)).trans h.c2, fun j => by simpa using h.fr j⟩
theorem Wk.code (h : Wk Z W l f c) (g : Int) : Wk (Z.setCell ⟨W, 2, none⟩ (.int .i64 g)) W l f g :=
  ⟨(World.cell?_setCell_other _ _ _ _ (by simp)).trans h.c0, (World.cell?_setCell_other _ _ _ _ (by simp)).trans h.c1, World.cell?_setCell_same _ _ _ h.c2, fun j => by simpa using h.fr j⟩
abbrev Wr (Z Y : World) (W : Nat) : Prop := Wrote Z Y (fun k => k = W)
theorem wr_set (Z : World) (W o : Nat) (v : Value) : Wr Z (Z.setCell ⟨W, o, none⟩ v) W := Wrote.of_grown (grown_set Z W o v) (fun k e => by injection e with e; exact e.symm)
theorem wr_cell {Z Y : World} {W : Nat} (h : Wr Z Y W) {b o : Nat} (hb : b < Z.heap.size) (hn : b ≠ W) {v : Value} (hc : Z.cell? ⟨b, o, none⟩ = some v) : Y.cell? ⟨b, o, none⟩ = some v := by
  have e := h.block b hb hn
  rw [World.cell?_of_block (a := ⟨b, o, none⟩) e]
  exact hc
theorem wr_base {B Z Y : World} {W : Nat} (hb : Below B.heap.size B Z) (hW : B.heap.size ≤ W) (h : Wr Z Y W) : Below B.heap.size B Y := hb.trans (h.below hb.size (fun k e => by rw [e]; exact hW))
/-- Numbers that lie off the walk's block. -/
def As (Z : World) (W : Nat) (a : Option Addr) (xs : List Int) : Prop := ∀ j, j < xs.length → ∃ b off, a = some ⟨b, off, none⟩ ∧ b ≠ W ∧ b < Z.heap.size ∧ Z.cell? ⟨b, off + j, none⟩ = some (.int .i64 (xs.getD j 0))
theorem As.wr (h : As Z W a xs) (hw : Wr Z Y W) : As Y W a xs := fun j hj => by
  obtain ⟨b, off, e, hn, hl, hc⟩ := h j hj
  exact ⟨b, off, e, hn, Nat.lt_of_lt_of_le hl hw.size, wr_cell hw hl hn hc⟩
theorem As.below (h : As Z W a xs) (hb : Below Z.heap.size Z Y) : As Y W a xs := h.wr (Wrote.of_below hb)
theorem as_own {Z : World} {B W : Nat} {v : Value} {xs : List Int} (h : Z.ownsRow B 2 1 v xs.length (intsV xs)) (hB : W < B) : ∃ a c, v = .slice a xs.length c ∧ As Z W a xs := by
  rcases own_forms h with ⟨rfl, h0, _⟩ | ⟨g, c, rfl⟩
  · exact ⟨none, 0, by rw [h0], fun j hj => by omega⟩
  · refine ⟨_, c, rfl, fun j hj => ⟨g, 0, rfl, ?_, (h.lt g rfl).2, ?_⟩⟩
    · have := (h.lt g rfl).1; omega
    · have h1 := h.cellAt j (by omega)
      rw [Nat.zero_add, h1, intsV_at xs j hj]
      simp [List.getD, hj]

/-- What l10Value is told. -/
def Val10 (B : World) (la : Option Addr) (lc : Nat) (ps : List Pk) (W d : Nat) : Prop :=
  ∀ (Z : World) (f : Nat) (c : Int) (ta : Option Addr) (tc : Nat) (t : List Nd) (m : Int) (a : Nat) (aa : Option Addr) (ac : Nat) (xs : List Int),
    Below B.heap.size B Z → f < d → Wk Z W (.slice la ps.length lc) f c → NodesIn B ta t.length t → Tr10 ps t m → ShortT t → t.length ≤ 1048576 → 0 ≤ endV t (a : Int) → As Z W aa xs → (xs.length : Int) = m → (∀ x ∈ xs, Word10 x) →
    Calls Tryz.prog 48 #[.pointer (some ⟨W, 0, none⟩), .slice ta t.length tc, .int .i64 (a : Int), .slice aa xs.length ac] Z fun e Z' =>
      e = .returned (.int .i64 (val10 ps d t (a : Int) xs (f, c)).1) ∧ Wk Z' W (.slice la ps.length lc) (val10 ps d t (a : Int) xs (f, c)).2.1 (val10 ps d t (a : Int) xs (f, c)).2.2 ∧ Wr Z Z' W
theorem Val10.at (h : Val10 B la lc ps W d) (hB : Below B.heap.size B Z) (hf : f < d) (hw : Wk Z W (.slice la ps.length lc) f c) (hin : NodesIn B ta t.length t) (htr : Tr10 ps t m) (hsh : ShortT t) (hlen : t.length ≤ 1048576) {q : Int} {k : Nat} (hq : q = (k : Int)) (hp : 0 ≤ endV t (k : Int)) (ha : As Z W aa xs) (hm : (xs.length : Int) = m) (hx : ∀ x ∈ xs, Word10 x) (tc ac : Nat) :
    Calls Tryz.prog 48 #[.pointer (some ⟨W, 0, none⟩), .slice ta t.length tc, .int .i64 q, .slice aa xs.length ac] Z fun e Z' =>
      e = .returned (.int .i64 (val10 ps d t q xs (f, c)).1) ∧ Wk Z' W (.slice la ps.length lc) (val10 ps d t q xs (f, c)).2.1 (val10 ps d t q xs (f, c)).2.2 ∧ Wr Z Z' W := by
  subst hq
  exact h Z f c ta tc t m k aa ac xs hB hf hw hin htr hsh hlen hp ha hm hx

end Go.Proofs.YtmloocbbcnhooaaGreatDoor

/-! The contract of chapter 10's specification: the value of a tree (the walk). -/
namespace Go.Proofs.YtmloocbbcnhooaaGreatDoor
open Go.RowKit

theorem val_stop (ps : List Pk) (d : Nat) (t : List Nd) (a : Int) (xs : List Int) (f : Nat) {c : Int} (h : c ≠ 0) : val10 ps d t a xs (f, c) = (0, (f, c)) := (Sk10.val ps d t a xs).stop (f, c) h
theorem val_dry (ps : List Pk) (d : Nat) (t : List Nd) (a : Int) (xs : List Int) : val10 ps (d + 1) t a xs (0, 0) = (0, (0, 2)) := rfl
theorem val_node (ps : List Pk) (d : Nat) (t : List Nd) (a : Nat) (xs : List Int) (f : Nat) : val10 ps (d + 1) t (a : Int) xs (f + 1, 0) = node10 ps (val10 ps d) t (a : Int) xs (t.getD a nd0) (f, 0) := rfl

theorem done_zero {k a b : Int} (h : doneB k a b = false) : doneV k a b = 0 := by
  by_cases hw : (-2147483648 ≤ a ∧ a ≤ 2147483647) ∧ (-2147483648 ≤ b ∧ b ≤ 2147483647)
  · obtain ⟨h3, h4, h5, h6, h0⟩ := done_in k a b hw
    have n3 : k ≠ 3 := fun e => by rw [(h3 e).2] at h; cases h
    have n4 : k ≠ 4 := fun e => by rw [(h4 e).2] at h; cases h
    have n5 : k ≠ 5 := fun e => by rw [(h5 e).2] at h; cases h
    exact (h0 n3 n4 n5 (fun e => by rw [(h6 e.1 e.2).2] at h; cases h)).1
  · exact (done_no k a b hw).1

theorem natT (l : List Int) : ∀ u ∈ intsV l, u.oneCell' = true := fun u hu => by
  obtain ⟨x, _, rfl⟩ := List.mem_map.1 hu
  rfl
theorem push_int {X : World} {B n : Nat} {v : Value} {l : List Int} (x : Int) (hv : X.ownsRow B 2 1 v n (intsV l)) (hb : B ≤ X.heap.size) (hn : n ≤ 1048576) :
    ∃ v' Y, (Builtin.append_ #[25, 25] 25 #[v, .slice (some ⟨X.heap.size, 0, none⟩) 1 1]).run Tryz.prog (X.alloc (.cells #[.int .i64 x] 2)) = .ok v' Y ∧ Y.ownsRow B 2 1 v' (n + 1) (intsV (l ++ [x])) ∧ X.grownBy Y v.ownBlock := by
  obtain ⟨i0, hi, hz0, hz1, hz2⟩ := info_parts infoInt
  obtain ⟨v', Y, hrun, hown, hg, _, _⟩ := run_append_own_at (P := Tryz.prog) (X.alloc (.cells #[.int .i64 x] 2)) B 25 25 2 i0 _ 1 8 Tryz.underlying25 hi hz0 hz1 hz2 rfl (by decide) _ _ _ (hv.alloc _) ⟨X.heap.size, 0, none⟩ 1 1 (intsV [x]) rfl (fun j u hu => cell_one_new X _ 2 j u hu) (natT [x]) (by unfold maxLen; omega) (by omega) (by simp; omega)
  exact ⟨v', Y, hrun, by rw [intsV_append]; exact hown, (World.grownBy_alloc X _ _).trans hg⟩
theorem wr_push {V Y Y' : World} {W : Nat} {row : Option Nat} (h : Wr V Y W) (hg : Y.grownBy Y' row) (hrow : ∀ k, row = some k → V.heap.size ≤ k) : Wr V Y' W :=
  ⟨hg.os.trans h.os, hg.tape.trans h.tape, hg.output.trans h.output, Nat.le_trans h.size hg.size, fun k hk hn => (hg.block k (Nat.lt_of_lt_of_le hk h.size) (fun e => by have := hrow k e.symm; omega)).trans (h.block k hk hn)⟩
theorem Wk.keep {Z Y : World} {W f : Nat} {l : Value} {c : Int} (h : Wk Z W l f c) (e : Y.heap[W]? = Z.heap[W]?) : Wk Y W l f c :=
  ⟨(World.cell?_of_block (a := ⟨W, 0, none⟩) e).trans h.c0, (World.cell?_of_block (a := ⟨W, 1, none⟩) e).trans h.c1, (World.cell?_of_block (a := ⟨W, 2, none⟩) e).trans h.c2, fun j => by have := h.fr j; simp only [World.frozen?] at this ⊢; rw [e]; exact this⟩
theorem args_drop (R : Int → Cmp10) (K : List Int → Cmp10) {pts : List Int} {i : Nat} (hi : i < pts.length) (acc : List Int) (s : St10) : args10 R (pts.drop i) acc K s = args10 R (pts.drop (i + 1)) (acc ++ [(R (pts.getD i 0) s).1]) K (R (pts.getD i 0) s).2 := by
  have e : pts.getD i 0 = pts[i] := by simp [List.getD, hi]
  rw [List.drop_eq_getElem_cons hi, e]
  rfl

set_option maxHeartbeats 8000000 in
set_option maxRecDepth 100000 in
theorem specVal2 (B : World) (la : Option Addr) (lc : Nat) (ps : List Pk) (W : Nat) (_hP : PkgsIn B la ps.length ps) (_hlp : ps.length ≤ 1048576) (_hshp : ShortPs ps) (hflt : faultV ps = (0, [], [])) (hW : B.heap.size ≤ W) (d : Nat) (hd : d + 1 ≤ 20001) (ih : Val10 B la lc ps W d)
    (Z : World) (f : Nat) (ta : Option Addr) (tc : Nat) (t : List Nd) (m : Int) (a : Nat) (aa : Option Addr) (ac : Nat) (xs : List Int) (hB : Below B.heap.size B Z) (hf : f + 1 < d + 1) (hw : Wk Z W (.slice la ps.length lc) (f + 1) 0) (hin : NodesIn B ta t.length t) (htr : Tr10 ps t m) (hsh : ShortT t) (hlen : t.length ≤ 1048576) (hp : 0 ≤ endV t (a : Int)) (ha : As Z W aa xs) (hm : (xs.length : Int) = m) (hx : ∀ x ∈ xs, Word10 x) (hkd : (t.getD a nd0).1 ≤ 2) :
    Calls Tryz.prog 48 #[.pointer (some ⟨W, 0, none⟩), .slice ta t.length tc, .int .i64 (a : Int), .slice aa xs.length ac] Z fun e Z' =>
      e = .returned (.int .i64 (val10 ps (d + 1) t (a : Int) xs (f + 1, 0)).1) ∧ Wk Z' W (.slice la ps.length lc) (val10 ps (d + 1) t (a : Int) xs (f + 1, 0)).2.1 (val10 ps (d + 1) t (a : Int) xs (f + 1, 0)).2.2 ∧ Wr Z Z' W := by
      have k0 := hw.c0
      have k1 := hw.c1
      have k2 := hw.c2
      have k3 := hw.fr 1
      have k4 := hw.fr 2
      have IH : Hid (Val10 B la lc ps W d) := ih
      clear ih
      rw [val_node]
      obtain ⟨hal, hnb, _, _, _⟩ := end_parts hp
      obtain ⟨n, hn⟩ : ∃ n, t.getD a nd0 = n := ⟨_, rfl⟩
      rw [hn] at hkd
      have hmem : n ∈ t := by rw [← hn]; simp [List.getD, hal]
      obtain ⟨bt, ot, rfl, hbt, q0, q1, q2, q3⟩ := (hin.below hB).2 a hal
      rw [hn] at q0 q1 q2 q3
      have hf1 : ((f + 1 : Nat) : Int) - 1 = (f : Int) := by omega
      have hfz : (((f + 1 : Nat) : Int) == 0) = false := beq_eq_false_iff_ne.2 (by omega)
      have hw1 := hw.fuel f
      have hr1 := wr_set Z W 1 (.int .i64 (f : Int))
      have hal2 : (a : Int) < (t.length : Int) := by omega
      have hbW : bt ≠ W := by
        obtain ⟨b', o', e, hb', _⟩ := hin.2 a hal
        simp only [Option.some.injEq, Addr.mk.injEq, and_true] at e
        omega
      replace q0 := wr_cell hr1 hbt hbW q0
      replace q1 := wr_cell hr1 hbt hbW q1
      replace q2 := wr_cell hr1 hbt hbW q2
      replace q3 := wr_cell hr1 hbt hbW q3
      obtain ⟨Z1, hZ1⟩ : ∃ Z1, Z.setCell ⟨W, 1, none⟩ (.int .i64 (f : Int)) = Z1 := ⟨_, rfl⟩
      rw [hZ1] at hw1 hr1 q0 q1 q2 q3
      have hnd := nodeB_iff.1 (htr.good n hmem)
      have harg := htr.arg n hmem
      have hcall := htr.call n hmem
      have HPl : Hid (∀ i, i < kidsN n → ∃ q : Nat, (pts10 t (a : Int)).getD i 0 = (q : Int) ∧ q < t.length ∧ 0 ≤ endV t (q : Int)) := fun i hi => part_place hp (by rw [hn]; exact hi)
      have hpl : (pts10 t (a : Int)).length = kidsN n := by rw [pts_len, hn]
      obtain ⟨kd, nA, np, nf⟩ := n
      unfold nodeP at hnd
      simp only at q0 q1 q2 q3 hnd harg hcall hkd
      obtain ⟨⟨n0, n1, n2, n3⟩, hbg⟩ := node_new Z1 (.int .i64 kd) (.int .i64 nA) (.string ⟨np.toArray⟩) (.string ⟨nf.toArray⟩) 39
      obtain ⟨X, hX⟩ : ∃ X, Z1.alloc (.cells #[.int .i64 kd, .int .i64 nA, .string ⟨np.toArray⟩, .string ⟨nf.toArray⟩] 39) = X := ⟨_, rfl⟩
      obtain ⟨G, hG⟩ : ∃ G, Z1.heap.size = G := ⟨_, rfl⟩
      rw [hX] at n0 n1 n2 n3 hbg
      rw [hG] at n0 n1 n2 n3
      have hGW : G ≠ W := by have := hw1.lt; omega
      have hGl : G < X.heap.size := World.block_lt_of_cell? X ⟨G, 0, none⟩ n0
      have hrX : Wr Z X W := hr1.trans (Wrote.of_below hbg)
      have hBX := wr_base hB hW hrX
      have hwX := hw1.below hbg
      have HPt : Hid (_) := specParts (some ⟨bt, ot, none⟩) tc t a X (hin.below hBX) hsh hlen hal (by rw [hn]; exact htr.good _ hmem)
      rw [hn] at HPt
      have HK : Hid (kidsN (kd, nA, np, nf) = (pts10 t (a : Int)).length) := hpl.symm
      have HPe : Hid (partsGo t (kidsN (kd, nA, np, nf)) ((a : Int) + 1) = pts10 t (a : Int)) := by
        exact (by unfold pts10; rw [Int.toNat_natCast, hn] : partsGo t (kidsN (kd, nA, np, nf)) ((a : Int) + 1) = pts10 t (a : Int))
      rw [HPe.out, HK.out] at HPt
      rw [HK.out] at HPl
      have hkl : (pts10 t (a : Int)).length = kidsN (kd, nA, np, nf) := HK.out.symm
      have hsX : W < X.heap.size := hwX.lt
      have haX := ha.wr hrX
      have HIN : Hid (NodesIn B (some ⟨bt, ot, none⟩) t.length t) := hin
      have HTR : Hid (Tr10 ps t m) := htr
      have HSH : Hid (ShortT t) := hsh
      have HX : Hid (∀ x ∈ xs, Word10 x) := hx
      have HLess : Hid (∀ (q : Int) (s : St10), (val10 ps d t q xs s).2.1 ≤ s.1) := fun q s => (Sk10.val ps d t q xs).less s
      have HWd : Hid (∀ (q : Int) (s : St10), Word10 (val10 ps d t q xs s).1) := fun q s => val_word (fun n => good_of (faultV_zero (by rw [hflt])).2.1 _ _) d t q xs htr.good hx s
      generalize hpts : pts10 t (a : Int) = pts at HPt HPl hkl
      have HPS : Hid (pts10 t (a : Int) = pts) := hpts
      obtain ⟨r, hr⟩ : ∃ r, node10 ps (val10 ps d) t (a : Int) xs (kd, nA, np, nf) (f, 0) = r := ⟨_, rfl⟩
      have HRr : Hid (r = _) := hr.symm
      rw [hn, hr]
      unfold node10 at HRr
      rw [HPS.out] at HRr
      simp only at HRr
      clear hr
      clear hw hin htr hsh hx hp ha hbt hn hmem hw1 hr1 hnb HPe HK hpts hpl
      go_enter Tryz.func48, Tryz.ntmps48
      go_wp2_with fail
      refine Calls.mono HPt.out ?_
      rintro e V ⟨v, rfl, ho, hb2⟩
      obtain ⟨pa, pc, rfl, hpV⟩ := as_own ho hsX
      have HV : Hid (∀ Y, Wr V Y W → (Y.cell? ⟨G, 0, none⟩ = some (.int .i64 kd) ∧ Y.cell? ⟨G, 1, none⟩ = some (.int .i64 nA) ∧ Y.cell? ⟨G, 2, none⟩ = some (.string ⟨np.toArray⟩) ∧ Y.cell? ⟨G, 3, none⟩ = some (.string ⟨nf.toArray⟩)) ∧ As Y W aa xs ∧ As Y W pa pts ∧ Below B.heap.size B Y ∧ Wr Z Y W) := fun Y hy =>
        have hxy : Wr X Y W := (Wrote.of_below hb2).trans hy
        ⟨⟨wr_cell hxy hGl hGW n0, wr_cell hxy hGl hGW n1, wr_cell hxy hGl hGW n2, wr_cell hxy hGl hGW n3⟩, haX.wr hxy, hpV.wr hy, wr_base hBX hW hxy, hrX.trans hxy⟩
      have hwV := hwX.below hb2
      have HC : Hid (∀ (Y : World) (g : Nat) (c : Int) (i : Nat), i < pts.length → Wr V Y W → g < d → Wk Y W (.slice la ps.length lc) g c → Calls Tryz.prog 48 #[.pointer (some ⟨W, 0, none⟩), .slice (some ⟨bt, ot, none⟩) t.length tc, .int .i64 (pts.getD i 0), .slice aa xs.length ac] Y fun e Y' =>
          e = .returned (.int .i64 (val10 ps d t (pts.getD i 0) xs (g, c)).1) ∧ Wk Y' W (.slice la ps.length lc) (val10 ps d t (pts.getD i 0) xs (g, c)).2.1 (val10 ps d t (pts.getD i 0) xs (g, c)).2.2 ∧ Wr Y Y' W) := fun Y g c i hi hy hg hwk => by
        obtain ⟨q, hq, _, hqe⟩ := HPl.out i hi
        have hv := HV.out Y hy
        exact IH.out.at hv.2.2.2.1 hg hwk HIN.out HTR.out HSH.out hlen hq hqe hv.2.1 hm HX.out tc ac
      obtain ⟨⟨g0, g1, g2, g3⟩, haV, hpV2, hBV, hrV⟩ := HV.out V (Wrote.refl _ _)
      have HWV : Hid (Wk V W (.slice la ps.length lc) f 0) := hwV
      have HRV : Hid (Wr Z V W) := hrV
      clear k0 k1 k2 k3 k4 q0 q1 q2 q3 ho hb2 n0 n1 n2 n3 hpV hwV hwX hBX haX HPt hBV hrV hrX hbg hGl
      rcases hnd with ⟨rfl, hA, rfl, rfl⟩ | ⟨rfl, hA, rfl, rfl⟩ | ⟨hk, rfl, rfl, rfl⟩ | ⟨rfl, hA, hnp, hnf⟩
      · obtain rfl : r = (nA, (f, 0)) := HRr.out.trans (by rw [if_pos rfl]; rfl)
        clear HRr
        go_wp2
        go_ret
        exact ⟨rfl, HWV.out, HRV.out⟩
      · obtain ⟨h0, h1⟩ := harg rfl
        obtain ⟨j, rfl⟩ : ∃ j : Nat, nA = (j : Int) := ⟨nA.toNat, by omega⟩
        have hre : r = (xs.getD j 0, (f, 0)) := HRr.out.trans (by rw [if_neg (by decide), if_pos rfl, Int.toNat_natCast]; rfl)
        obtain ⟨ba, oa, rfl, _, _, hca⟩ := haV j (by omega)
        have hjl : (j : Int) < (xs.length : Int) := by omega
        generalize xs.getD j 0 = xv at hca hre
        subst hre
        clear HRr
        go_wp2
        go_ret
        exact ⟨rfl, HWV.out, HRV.out⟩
      · exact absurd hkd (by omega)
      · exact absurd hkd (by omega)


end Go.Proofs.YtmloocbbcnhooaaGreatDoor
