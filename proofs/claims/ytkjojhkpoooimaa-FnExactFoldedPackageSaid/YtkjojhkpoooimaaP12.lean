/-
  Parts of one proof, one behind the other: PackIn, ProjK, MeanS, MeanS2, Draw3, DrawW, DrawT, DrawX, DrawN, DrawTr, FoldS2.
-/
import Derived.Test.YtkjojhkpoooimaaP11
import Derived.Test.YtkjojhkpoooimaaP9
import Derived.SliceStrings
import Derived.Test.YtkjojhkpoooimaaP4
import Derived.Test.YtkjojhkpoooimaaP5
import Derived.Test.YtkjojhkpoooimaaP1
import Derived.Test.YtkjojhkpoooimaaP8
import Derived.Deep.RegionHeld3
import Derived.Test.YtkjojhkpoooimaaP2
import Derived.Deep.RegionWith
import Derived.Test.YtkjojhkpoooimaaP6
import Derived.Test.YtkjojhkpoooimaaP7
import Derived.Deep.Cut
import Derived.BigQuiet
import Derived.Maps.AppendAt

/-! A package that came in, as the walks take it. -/
namespace Go.Proofs.Ytkjojhkpoooimaa
open Go.ChangeShapes Go.WideShapes Go.ChangeAt Go.RowKit Go.Joins Go.Deep

section
variable {H : Type} {enc : TypeId × Value → H} {W : World} {base : Nat} {spare : Nat → Bool} {held : Bool} {fuel : Nat} {v : Value} {x : DataW H × List MemPlace}

set_option maxRecDepth 100000 in
theorem trod_nodes (hf : DataW.trod enc Try.prog W base spare held fuel 41 [v] = some x) :
    ∃ a len cap ns, v = .slice a len cap ∧ (a = none → cap = 0) ∧ NodesIn W a len ns ∧ len ≤ maxLen ∧ LongT ns ∧ IntT ns := by
  rcases open_slice Try.underlying41 hf with ⟨hcs, _⟩ | ⟨a, len, cap, q, n, D, Pl, hcs, _, hl, hm, hq, _, hx⟩
  · simp at hcs
    subst hcs
    exact ⟨none, 0, 0, [], rfl, fun _ => rfl, ⟨rfl, fun j hj => by omega⟩, by decide, (fun j => by simp [nd0]), IntT.nil⟩
  · simp at hcs
    subst hcs
    have hlq : len ≤ q := by rw [hq]; split <;> omega
    have each : ∀ i, i < len → ∃ x : Nd, W.cell? (a.add (i * 4)) = some (.int .i64 x.1) ∧ W.cell? (a.add (i * 4 + 1)) = some (.int .i64 x.2.1) ∧ W.cell? (a.add (i * 4 + 2)) = some (.string ⟨x.2.2.1.toArray⟩) ∧ W.cell? (a.add (i * 4 + 3)) = some (.string ⟨x.2.2.2.toArray⟩) ∧ x.2.2.1.length ≤ maxLen ∧ x.2.2.2.length ≤ maxLen ∧ IntN x := by
      intro i hi
      obtain ⟨cs', h1, h2⟩ := hx i (by omega)
      rw [cellsNode] at h1
      obtain ⟨_, hlen, hcell⟩ := World.cells?_some h1
      match cs', hlen with
      | [v0, v1, v2, v3], _ =>
        obtain ⟨y0, y1, y2, y3, k, _, _, t0, t1, t2, t3⟩ := trod_struct4 Try.underlying68 h2
        have k2 : Try.prog.cellsOf 2 = 1 := by kernel_rfl
        have k9 : Try.prog.cellsOf 9 = 1 := by kernel_rfl
        simp [k2, k9] at t0 t1 t2 t3
        obtain ⟨kd, e0, _, wk⟩ := DataW.trod_int Try.underlying2 t0
        obtain ⟨aa, e1, _, wa⟩ := DataW.trod_int Try.underlying2 t1
        obtain ⟨s2, e2, _, z2⟩ := DataW.trod_string Try.underlying9 t2
        obtain ⟨s3, e3, _, z3⟩ := DataW.trod_string Try.underlying9 t3
        simp at e0 e1 e2 e3
        subst e0 e1 e2 e3
        have g0 := hcell 0 (by omega)
        have g1 := hcell 1 (by omega)
        have g2 := hcell 2 (by omega)
        have g3 := hcell 3 (by omega)
        rw [add_add] at g0 g1 g2 g3
        exact ⟨(kd, aa, s2.data.toList, s3.data.toList), by simpa using g0, by simpa using g1, by simpa using g2, by simpa using g3, z2, z3, ⟨bounds_i64 wk, bounds_i64 wa⟩⟩
    obtain ⟨f, hf2⟩ := choose_lt each
    refine ⟨some a, len, cap, (List.range len).map f, rfl, (fun e => by cases e), ⟨by simp, fun j hj => ?_⟩, by omega, (fun j => ?_), (fun j => ?_)⟩
    rotate_left
    · by_cases hj : j < len
      · have hg : ((List.range len).map f).getD j nd0 = f j := by simp [List.getD, hj]
        rw [hg]; exact ⟨(hf2 j hj).2.2.2.2.1, (hf2 j hj).2.2.2.2.2.1⟩
      · have hg : ((List.range len).map f).getD j nd0 = nd0 := by simp [List.getD, hj]
        rw [hg]; simp [nd0]
    · by_cases hj : j < len
      · have hg : ((List.range len).map f).getD j nd0 = f j := by simp [List.getD, hj]
        rw [hg]; exact (hf2 j hj).2.2.2.2.2.2
      · have hg : ((List.range len).map f).getD j nd0 = nd0 := by simp [List.getD, hj]
        rw [hg]; exact intN_nd0
    obtain ⟨c0, c1, c2, c3, _, _, _⟩ := hf2 j hj
    have hsp : a.spot = none := by
      have h0 := (hf2 0 (by omega)).1
      simpa [Addr.add] using World.cell?_spot h0
    obtain ⟨b, off, spot⟩ := a
    simp at hsp
    subst hsp
    have e : ∀ i, (⟨b, off, none⟩ : Addr).add i = ⟨b, off + i, none⟩ := fun i => by unfold Addr.add; split <;> simp_all
    rw [e] at c0 c1 c2 c3
    have hg : ((List.range len).map f).getD j nd0 = f j := by simp [List.getD, hj]
    rw [hg]
    exact ⟨b, off, rfl, World.block_lt_of_cell? W ⟨b, off + j * 4, none⟩ c0, c0, by rw [Nat.add_assoc]; exact c1, by rw [Nat.add_assoc]; exact c2, by rw [Nat.add_assoc]; exact c3⟩

set_option maxRecDepth 100000 in
theorem trod_texts (hf : DataW.trod enc Try.prog W base spare held fuel 33 [v] = some x) :
    ∃ a len cap ts, v = .slice a len cap ∧ TextsIn W a len ts ∧ len ≤ maxLen ∧ ∀ j, (ts.getD j []).length ≤ maxLen := by
  rcases open_strings Try.underlying33 Try.underlying9 (by kernel_rfl) hf with ⟨hcs, _⟩ | ⟨a, len, cap, ss, hcs, _, hl, hm, hlen, _, hcell, hsz⟩
  · simp at hcs
    subst hcs
    exact ⟨none, 0, 0, [], rfl, ⟨rfl, fun j hj => by omega⟩, by decide, fun j => by simp⟩
  · simp at hcs
    subst hcs
    have hls : len ≤ ss.length := by rw [hlen]; split <;> omega
    have hgd : ∀ j, j < len → ((ss.take len).map (fun s => s.data.toList)).getD j [] = (ss.getD j ByteArray.empty).data.toList := by
      intro j hj
      have hj2 : j < ss.length := by omega
      simp [List.getD, hj, hj2]
    refine ⟨some a, len, cap, (ss.take len).map (fun s => s.data.toList), rfl, ⟨by simp; omega, fun j hj => ?_⟩, by omega, fun j => ?_⟩
    · have hc := hcell j (by omega)
      have hsp : a.spot = none := by
        have h0 := hcell 0 (by omega)
        simpa [Addr.add] using World.cell?_spot h0
      obtain ⟨b, off, spot⟩ := a
      simp at hsp
      subst hsp
      have e : ∀ i, (⟨b, off, none⟩ : Addr).add i = ⟨b, off + i, none⟩ := fun i => by unfold Addr.add; split <;> simp_all
      rw [e] at hc
      refine ⟨b, off, rfl, World.block_lt_of_cell? W ⟨b, off + j, none⟩ hc, ?_⟩
      rw [hc, hgd j hj]
    · by_cases hj : j < len
      · rw [hgd j hj]
        have hj2 : j < ss.length := by omega
        have : ss.getD j ByteArray.empty ∈ ss := by simp [List.getD, hj2]
        have hz := hsz _ this
        simpa using hz
      · have : ((ss.take len).map (fun s => s.data.toList)).getD j [] = [] := by rw [List.getD, List.getElem?_eq_none (by simp; omega)]; rfl
        rw [this]; simp

theorem cellsFunc : Try.prog.cellsOf 108 = 3 := by kernel_rfl
theorem cellsPackage : Try.prog.cellsOf 49 = 3 := by kernel_rfl

set_option maxRecDepth 100000 in
theorem trod_fns (hf : DataW.trod enc Try.prog W base spare held fuel 47 [v] = some x) :
    ∃ a len cap fs, v = .slice a len cap ∧ FuncsIn W a len fs ∧ len ≤ maxLen ∧ LongF fs ∧ IntF fs := by
  rcases open_slice Try.underlying47 hf with ⟨hcs, _⟩ | ⟨a, len, cap, q, n, D, Pl, hcs, _, hl, hm, hq, _, hx⟩
  · simp at hcs
    subst hcs
    exact ⟨none, 0, 0, [], rfl, ⟨rfl, fun j hj => by omega⟩, by decide, (fun j => by simp [fn0, LongT, nd0]), (fun j => ⟨by simp [fn0], IntT.nil⟩)⟩
  · simp at hcs
    subst hcs
    have hlq : len ≤ q := by rw [hq]; split <;> omega
    have each : ∀ i, i < len → ∃ y : Fn, W.cell? (a.add (i * 3)) = some (.string ⟨y.1.toArray⟩) ∧ W.cell? (a.add (i * 3 + 1)) = some (.int .i64 y.2.1) ∧
        (∃ ta tl tc, W.cell? (a.add (i * 3 + 2)) = some (.slice ta tl tc) ∧ (ta = none → tc = 0) ∧ NodesIn W ta tl y.2.2) ∧ (y.1.length ≤ maxLen ∧ y.2.2.length ≤ maxLen ∧ LongT y.2.2) ∧ ((-9223372036854775808 ≤ y.2.1 ∧ y.2.1 ≤ 9223372036854775807) ∧ IntT y.2.2) := by
      intro i hi
      obtain ⟨cs', h1, h2⟩ := hx i (by omega)
      rw [cellsFunc] at h1
      obtain ⟨_, hlen, hcell⟩ := World.cells?_some h1
      match cs', hlen with
      | [v0, v1, v2], _ =>
        obtain ⟨y0, y1, y2, k, _, _, t0, t1, t2⟩ := trod_struct3 Try.underlying108 h2
        have k2 : Try.prog.cellsOf 2 = 1 := by kernel_rfl
        have k9 : Try.prog.cellsOf 9 = 1 := by kernel_rfl
        have kn : Try.prog.cellsOf 41 = 1 := by kernel_rfl
        simp [k2, k9, kn] at t0 t1 t2
        obtain ⟨s0, e0, _, z0⟩ := DataW.trod_string Try.underlying9 t0
        obtain ⟨aa, e1, _, wa⟩ := DataW.trod_int Try.underlying2 t1
        obtain ⟨ta, tl, tc, ns, e2, hnc, hns, hnl, hlt, hit⟩ := trod_nodes t2
        simp at e0 e1
        subst e0 e1 e2
        have g0 := hcell 0 (by omega)
        have g1 := hcell 1 (by omega)
        have g2 := hcell 2 (by omega)
        rw [add_add] at g0 g1 g2
        exact ⟨(s0.data.toList, aa, ns), by simpa using g0, by simpa using g1, ⟨ta, tl, tc, by simpa using g2, hnc, hns⟩, ⟨z0, by rw [show ((s0.data.toList, aa, ns) : Fn).2.2 = ns from rfl, hns.1]; exact hnl, hlt⟩, ⟨bounds_i64 wa, hit⟩⟩
    obtain ⟨f, hf2⟩ := choose_lt each
    refine ⟨some a, len, cap, (List.range len).map f, rfl, ⟨by simp, fun j hj => ?_⟩, by omega, (fun j => ?_), (fun j => ?_)⟩
    rotate_left
    · by_cases hj : j < len
      · have hg : ((List.range len).map f).getD j fn0 = f j := by simp [List.getD, hj]
        rw [hg]; exact (hf2 j hj).2.2.2.1
      · have hg : ((List.range len).map f).getD j fn0 = fn0 := by simp [List.getD, hj]
        rw [hg]; simp [fn0, LongT, nd0]
    · by_cases hj : j < len
      · have hg : ((List.range len).map f).getD j fn0 = f j := by simp [List.getD, hj]
        rw [hg]; exact (hf2 j hj).2.2.2.2
      · have hg : ((List.range len).map f).getD j fn0 = fn0 := by simp [List.getD, hj]
        rw [hg]; exact ⟨by simp [fn0], IntT.nil⟩
    obtain ⟨c0, c1, ⟨ta, tl, tc, c2, hnc, hns⟩, _, _⟩ := hf2 j hj
    have hsp : a.spot = none := by
      have h0 := (hf2 0 (by omega)).1
      simpa [Addr.add] using World.cell?_spot h0
    obtain ⟨b, off, spot⟩ := a
    simp at hsp
    subst hsp
    have e : ∀ i, (⟨b, off, none⟩ : Addr).add i = ⟨b, off + i, none⟩ := fun i => by unfold Addr.add; split <;> simp_all
    rw [e] at c0 c1 c2
    have hg : ((List.range len).map f).getD j fn0 = f j := by simp [List.getD, hj]
    rw [hg]
    exact ⟨b, off, rfl, World.block_lt_of_cell? W ⟨b, off + j * 3, none⟩ c0, c0, by rw [Nat.add_assoc]; exact c1, ta, tl, tc, by rw [Nat.add_assoc]; exact c2, hnc, hns⟩

end

set_option maxRecDepth 100000 in
theorem open_package {H : Type} {enc : TypeId × Value → H} {W : World} {base b0 : Nat} {spare : Nat → Bool} {held : Bool} {v : Value} {d : DataW H} {p : List MemPlace}
    (hv : Value.okWide Try.prog W .any b0 49 v) (h : DataW.Trod enc Try.prog W base spare held 49 v d p) :
    ∃ nm ia il ic ims fa fl fc fs, v = .agg #[.string ⟨(nm : List UInt8).toArray⟩, .slice ia il ic, .slice fa fl fc] ∧ TextsIn W ia il ims ∧ FuncsIn W fa fl fs ∧ nm.length ≤ maxLen ∧ il ≤ maxLen ∧ (∀ j, (ims.getD j []).length ≤ maxLen) ∧ fl ≤ maxLen ∧ LongF fs ∧ IntF fs := by
  obtain ⟨c0, c1, c2, y0, y1, y2, m, rfl, _, _, t0, t1, t2⟩ := open_agg3 Try.underlying49 (by kernel_rfl) cellsPackage hv h
  obtain ⟨s0, e0, _, h0⟩ := DataW.trod_string Try.underlying9 t0
  simp at e0
  subst e0
  obtain ⟨ia, il, ic, ims, rfl, hi, hil, him⟩ := trod_texts t1
  obtain ⟨fa, fl, fc, fs, rfl, hf, hfl, hlf, hif⟩ := trod_fns t2
  exact ⟨s0.data.toList, ia, il, ic, ims, fa, fl, fc, fs, rfl, hi, hf, h0, hil, him, hfl, hlf, hif⟩

end Go.Proofs.Ytkjojhkpoooimaa

/-! What the landed functions of chapter 8 are told of a project. -/
namespace Go.Proofs.Ytkjojhkpoooimaa
open Go.RowKit

/-- What the landed functions are told of a project that they are handed. -/
structure PkgsOk (w : World) (a : Option Addr) (len cap : Nat) (ps : List Pk) : Prop where
  hlen : ps.length = len
  nil : a = none → cap = 0
  hcap : len ≤ cap
  small : len ≤ 1048576
  each : ∀ j, j < len → ∃ b off, a = some ⟨b, off, none⟩ ∧ b < w.heap.size ∧ w.cell? ⟨b, off + j * 3, none⟩ = some (.string ⟨(ps.getD j pk0).1.toArray⟩) ∧
    ∃ ia il ic fa fl fc, w.cell? ⟨b, off + j * 3 + 1, none⟩ = some (.slice ia il ic) ∧ w.cell? ⟨b, off + j * 3 + 2, none⟩ = some (.slice fa fl fc) ∧ PkOk w (ps.getD j pk0).1 ia il ic fa fl fc (ps.getD j pk0).2.1 (ps.getD j pk0).2.2
theorem PkgsOk.below {w w' : World} {a : Option Addr} {len cap : Nat} {ps : List Pk} (h : PkgsOk w a len cap ps) (hb : Below w.heap.size w w') : PkgsOk w' a len cap ps :=
  ⟨h.hlen, h.nil, h.hcap, h.small, fun j hj => by
    obtain ⟨b, off, e, hlt, c0, ia, il, ic, fa, fl, fc, c1, c2, hk⟩ := h.each j hj
    exact ⟨b, off, e, Nat.lt_of_lt_of_le hlt hb.size, (hb.cell (p := ⟨b, off + j * 3, none⟩) hlt).trans c0, ia, il, ic, fa, fl, fc, (hb.cell (p := ⟨b, off + j * 3 + 1, none⟩) hlt).trans c1, (hb.cell (p := ⟨b, off + j * 3 + 2, none⟩) hlt).trans c2, hk.below hb⟩⟩
theorem PkgsOk.in {w : World} {a : Option Addr} {len cap : Nat} {ps : List Pk} (h : PkgsOk w a len cap ps) : PkgsIn w a len ps :=
  ⟨h.hlen, fun j hj => by
    obtain ⟨b, off, e, hlt, c0, ia, il, ic, fa, fl, fc, c1, c2, hk⟩ := h.each j hj
    exact ⟨b, off, e, hlt, c0, ia, il, ic, fa, fl, fc, c1, c2, hk.i, hk.f⟩⟩
/-- A project that a call owns, as they are told of it. -/
theorem PjOwn.ok {w : World} {B T : Nat} {g len cap : Nat} {ys : List PV} {ps : List Pk} (h : PjOwn w B T (.slice (some ⟨g, 0, none⟩) len cap) ys) (hp : ys.map pvP = ps) (hi : IntPs ps) (hs : ShortPs ps) (hl : ps.length = len) (hlen : len ≤ 1048576) : PkgsOk w (some ⟨g, 0, none⟩) len cap ps := by
  have hyl : ys.length = len := by rw [← hl, ← hp, List.length_map]
  have hrow := h.row
  rw [hyl] at hrow
  have hcap : len ≤ cap := by
    rcases hrow.2 with ⟨e, _⟩ | ⟨g', cap', cur, e, _, _, hc, _⟩
    · cases e
    · injection e with _ _ e3; rw [e3]; exact hc
  refine ⟨hl, (fun e => (by cases e)), hcap, hlen, fun j hj => ?_⟩
  obtain ⟨v0, v1, v2⟩ := pvsV_at ys j (by omega)
  have hc := fun k (hk : k < len * 3) => World.ownsRow.cellAt hrow k hk
  have hmem : ys.getD j pv0 ∈ ys := by simp [List.getD, show j < ys.length by omega]
  have hy := (h.each _ hmem).1
  obtain ⟨ai, ci, af, cf, e1, e2, h3, h4, hti, hfi⟩ := own_pk hy.im hy.fo rfl
  have hpj : ps.getD j pk0 = pvP (ys.getD j pv0) := by rw [← hp]; exact getD_map_pv ys j
  have hsj := hs j
  have hij := hi j
  rw [hpj] at hsj hij ⊢
  refine ⟨g, 0, rfl, (hrow.lt g rfl).2, ?_, ai, (ys.getD j pv0).ims.length, ci, af, ((ys.getD j pv0).xs.map (fun x : FV => x.1)).length, cf, ?_, ?_, ⟨hti, hfi, h3, h4, hij, hsj.2.1, hsj.2.2.2.1, hsj.1, hsj.2.2.1, hsj.2.2.2.2⟩⟩
  · rw [Nat.zero_add, hc _ (by omega), v0]; rfl
  · rw [Nat.zero_add, hc _ (by omega), v1, e1]
  · rw [Nat.zero_add, hc _ (by omega), v2, e2]

end Go.Proofs.Ytkjojhkpoooimaa

/-! The contract of chapter 10's specification: the value of a tree, part by part. -/
namespace Go.Proofs.Ytkjojhkpoooimaa
open Go.RowKit

/-- A walk's block: the project, the fuel, the code. -/
structure Wk (Z : World) (W : Nat) (l : Value) (f : Nat) (c : Int) : Prop where
  c0 : Z.cell? ⟨W, 0, none⟩ = some l
  c1 : Z.cell? ⟨W, 1, none⟩ = some (.int .i64 (f : Int))
  c2 : Z.cell? ⟨W, 2, none⟩ = some (.int .i64 c)
  fr : ∀ j, Z.frozen? ⟨W, j, none⟩ = false
variable {Z Y B : World} {W f d : Nat} {l : Value} {c m : Int} {a aa ta la : Option Addr} {lc : Nat} {xs : List Int} {ps : List Pk} {t : List Nd}
theorem Wk.lt (h : Wk Z W l f c) : W < Z.heap.size := World.block_lt_of_cell? Z ⟨W, 0, none⟩ h.c0
theorem Wk.below (h : Wk Z W l f c) (hb : Below Z.heap.size Z Y) : Wk Y W l f c :=
  ⟨(hb.cell (p := ⟨W, 0, none⟩) h.lt).trans h.c0, (hb.cell (p := ⟨W, 1, none⟩) h.lt).trans h.c1, (hb.cell (p := ⟨W, 2, none⟩) h.lt).trans h.c2, fun j => (hb.frozen (p := ⟨W, j, none⟩) h.lt).trans (h.fr j)⟩
abbrev Wr (Z Y : World) (W : Nat) : Prop := Wrote Z Y (fun k => k = W)
theorem wr_cell {Z Y : World} {W : Nat} (h : Wr Z Y W) {b o : Nat} (hb : b < Z.heap.size) (hn : b ≠ W) {v : Value} (hc : Z.cell? ⟨b, o, none⟩ = some v) : Y.cell? ⟨b, o, none⟩ = some v := by
  have e := h.block b hb hn
  rw [World.cell?_of_block (a := ⟨b, o, none⟩) e]
  exact hc
/-- Numbers that lie off the walk's block. -/
def As (Z : World) (W : Nat) (a : Option Addr) (xs : List Int) : Prop := ∀ j, j < xs.length → ∃ b off, a = some ⟨b, off, none⟩ ∧ b ≠ W ∧ b < Z.heap.size ∧ Z.cell? ⟨b, off + j, none⟩ = some (.int .i64 (xs.getD j 0))
theorem As.wr (h : As Z W a xs) (hw : Wr Z Y W) : As Y W a xs := fun j hj => by
  obtain ⟨b, off, e, hn, hl, hc⟩ := h j hj
  exact ⟨b, off, e, hn, Nat.lt_of_lt_of_le hl hw.size, wr_cell hw hl hn hc⟩
theorem As.below (h : As Z W a xs) (hb : Below Z.heap.size Z Y) : As Y W a xs := h.wr (Wrote.of_below hb)
theorem as_own {Z : World} {B W : Nat} {v : Value} {xs : List Int} (h : Z.ownsRow B 2 1 v xs.length (intsV xs)) (hB : W < B) : ∃ a c, v = .slice a xs.length c ∧ As Z W a xs := by
  rcases own_forms h with ⟨rfl, h0, _⟩ | ⟨g, c, rfl⟩
  · exact ⟨none, 0, by rw [h0], fun j hj => by omega⟩
  · refine ⟨_, c, rfl, fun j hj => ⟨g, 0, rfl, ?_, (h.lt g rfl).2, ?_⟩⟩
    · have := (h.lt g rfl).1; omega
    · have h1 := h.cellAt j (by omega)
      rw [Nat.zero_add, h1, intsV_at xs j hj]
      simp [List.getD, hj]

/-- What l10Value is told. -/
def Val10 (B : World) (la : Option Addr) (lc : Nat) (ps : List Pk) (W d : Nat) : Prop :=
  ∀ (Z : World) (f : Nat) (c : Int) (ta : Option Addr) (tc : Nat) (t : List Nd) (m : Int) (a : Nat) (aa : Option Addr) (ac : Nat) (xs : List Int),
    Below B.heap.size B Z → f < d → Wk Z W (.slice la ps.length lc) f c → NodesIn B ta t.length t → Tr10 ps t m → ShortT t → t.length ≤ 1048576 → 0 ≤ endV t (a : Int) → As Z W aa xs → (xs.length : Int) = m → (∀ x ∈ xs, Word10 x) →
    Calls Try.prog 75 #[.pointer (some ⟨W, 0, none⟩), .slice ta t.length tc, .int .i64 (a : Int), .slice aa xs.length ac] Z fun e Z' =>
      e = .returned (.int .i64 (val10 ps d t (a : Int) xs (f, c)).1) ∧ Wk Z' W (.slice la ps.length lc) (val10 ps d t (a : Int) xs (f, c)).2.1 (val10 ps d t (a : Int) xs (f, c)).2.2 ∧ Wr Z Z' W
theorem Val10.at (h : Val10 B la lc ps W d) (hB : Below B.heap.size B Z) (hf : f < d) (hw : Wk Z W (.slice la ps.length lc) f c) (hin : NodesIn B ta t.length t) (htr : Tr10 ps t m) (hsh : ShortT t) (hlen : t.length ≤ 1048576) {q : Int} {k : Nat} (hq : q = (k : Int)) (hp : 0 ≤ endV t (k : Int)) (ha : As Z W aa xs) (hm : (xs.length : Int) = m) (hx : ∀ x ∈ xs, Word10 x) (tc ac : Nat) :
    Calls Try.prog 75 #[.pointer (some ⟨W, 0, none⟩), .slice ta t.length tc, .int .i64 q, .slice aa xs.length ac] Z fun e Z' =>
      e = .returned (.int .i64 (val10 ps d t q xs (f, c)).1) ∧ Wk Z' W (.slice la ps.length lc) (val10 ps d t q xs (f, c)).2.1 (val10 ps d t q xs (f, c)).2.2 ∧ Wr Z Z' W := by
  subst hq
  exact h Z f c ta tc t m k aa ac xs hB hf hw hin htr hsh hlen hp ha hm hx

end Go.Proofs.Ytkjojhkpoooimaa

/-! The contract of chapter 10's specification: the value of a tree (the walk). -/
namespace Go.Proofs.Ytkjojhkpoooimaa
open Go.RowKit

theorem Wk.keep {Z Y : World} {W f : Nat} {l : Value} {c : Int} (h : Wk Z W l f c) (e : Y.heap[W]? = Z.heap[W]?) : Wk Y W l f c :=
  ⟨(World.cell?_of_block (a := ⟨W, 0, none⟩) e).trans h.c0, (World.cell?_of_block (a := ⟨W, 1, none⟩) e).trans h.c1, (World.cell?_of_block (a := ⟨W, 2, none⟩) e).trans h.c2, fun j => by have := h.fr j; simp only [World.frozen?] at this ⊢; rw [e]; exact this⟩
end Go.Proofs.Ytkjojhkpoooimaa

/-! The contracts of DrawHash and DrawTurned. -/
namespace Go.Proofs.Ytkjojhkpoooimaa
open Go.RowKit


def pick (l : List Int) (x : Int) : Int := l.getD x.toNat 0

end Go.Proofs.Ytkjojhkpoooimaa

/-! Words, and numbers that are none, are drawn. -/
namespace Go.Proofs.Ytkjojhkpoooimaa
open Go.RowKit

end Go.Proofs.Ytkjojhkpoooimaa

/-! A text is drawn. -/
namespace Go.Proofs.Ytkjojhkpoooimaa
open Go.RowKit


end Go.Proofs.Ytkjojhkpoooimaa

/-! The contracts of DrawLines, DrawWords, DrawNameOk, DrawNumberOf. -/
namespace Go.Proofs.Ytkjojhkpoooimaa
open Go.RowKit



def pickT (l : List (List UInt8)) (x : Int) : List UInt8 := l.getD x.toNat []

end Go.Proofs.Ytkjojhkpoooimaa

/-! A node is drawn. -/
namespace Go.Proofs.Ytkjojhkpoooimaa
open Go.RowKit

theorem Code.alloc {w : World} {B : Nat} {a : Option Addr} {len : Nat} (h : Code w B a len) (hB : B ≤ w.heap.size) (o : Obj) : Code (w.alloc o) (B + 1) a len := by
  intro j hj
  obtain ⟨b, off, x, e1, e2, e3, e0⟩ := h j hj
  exact ⟨b, off, x, e1, by omega, (World.cell?_of_block (a := ⟨b, off + j, none⟩) (Below.heap_alloc _ _ _ (by show b < _; omega))).trans e3, e0⟩

end Go.Proofs.Ytkjojhkpoooimaa

/-! A tree is drawn. -/
namespace Go.Proofs.Ytkjojhkpoooimaa
open Go.RowKit

def SmallN (n : Nd) : Prop := IntN n ∧ n.2.2.1.length ≤ 9 ∧ n.2.2.2.length ≤ 9

def SmallT (ns : List Nd) : Prop := ∀ n ∈ ns, SmallN n

theorem own_src {w : World} {base e size n : Nat} {v : Value} {xs : List Value} (h : w.ownsRow base e size v n xs) (h1 : ∀ u ∈ xs, u.oneCell' = true) : Src w v n size xs := by
  refine ⟨h.1, h1, ?_⟩
  rcases own_forms h with ⟨rfl, rfl, _⟩ | ⟨g, cp, rfl⟩
  · exact Or.inl ⟨rfl, rfl⟩
  · refine Or.inr ⟨⟨g, 0, none⟩, cp, rfl, fun j u hu => ?_⟩
    have e : (⟨g, 0, none⟩ : Addr).add j = ⟨g, j, none⟩ := by unfold Addr.add; split <;> simp_all
    have hj : j < xs.length := by
      rcases Nat.lt_or_ge j xs.length with h | h
      · exact h
      · rw [List.getElem?_eq_none h] at hu; cases hu
    rw [e, h.cellAt j (by rw [← h.1]; exact hj)]
    exact hu

def BoxN (W : World) (D : Nat) (n : Nd) : Prop :=
  W.cell? ⟨D, 0, none⟩ = some (.int .i64 n.1) ∧ W.cell? ⟨D, 1, none⟩ = some (.int .i64 n.2.1) ∧ W.cell? ⟨D, 2, none⟩ = some (.string ⟨n.2.2.1.toArray⟩) ∧ W.cell? ⟨D, 3, none⟩ = some (.string ⟨n.2.2.2.toArray⟩) ∧ ∀ j, W.frozen? ⟨D, j, none⟩ = false

theorem BoxN.lt {W : World} {D : Nat} {n : Nd} (h : BoxN W D n) : D < W.heap.size := World.block_lt_of_cell? _ ⟨D, 0, none⟩ h.1

theorem BoxN.kept {W W' : World} {D B : Nat} {n : Nd} (h : BoxN W D n) (hg : W.grownBy W' (some B)) (hne : D ≠ B) : BoxN W' D n := by
  have hb : W'.heap[D]? = W.heap[D]? := hg.block D h.lt (by simp; omega)
  obtain ⟨h0, h1, h2, h3, hf⟩ := h
  exact ⟨(World.cell?_of_block (a := ⟨D, 0, none⟩) hb).trans h0, (World.cell?_of_block (a := ⟨D, 1, none⟩) hb).trans h1, (World.cell?_of_block (a := ⟨D, 2, none⟩) hb).trans h2, (World.cell?_of_block (a := ⟨D, 3, none⟩) hb).trans h3, fun j => (World.frozen?_of_block (a := ⟨D, j, none⟩) hb).trans (hf j)⟩

end Go.Proofs.Ytkjojhkpoooimaa

/-! The contract of chapter 11's specification: what is made of a part of a tree. -/
namespace Go.Proofs.Ytkjojhkpoooimaa
open Go.RowKit

theorem infoNodes : (Try.prog.info? 24).map (fun i => (i.zero, i.size, i.bytes)) = some (some (.slice none 0 0), 1, 24) := by kernel_rfl
/-- Slices of nodes, in a row. -/
theorem push_slice {X : World} {B n : Nat} {v : Value} {vs : List Value} (a : Option Addr) (l c : Nat) (hv : X.ownsRow B 24 1 v n vs) (hb : B ≤ X.heap.size) (hn : n ≤ 1048576) :
    ∃ v' Y, (Builtin.append_ #[59, 59] 59 #[v, .slice (some ⟨X.heap.size, 0, none⟩) 1 1]).run Try.prog (X.alloc (.cells #[.slice a l c] 24)) = .ok v' Y ∧ Y.ownsRow B 24 1 v' (n + 1) (vs ++ [.slice a l c]) ∧ X.grownBy Y v.ownBlock := by
  obtain ⟨i0, hi, hz0, hz1, hz2⟩ := info_parts infoNodes
  obtain ⟨v', Y, hrun, hown, hg, _⟩ := run_append_own_at (P := Try.prog) (X.alloc (.cells #[.slice a l c] 24)) B 59 59 24 i0 _ 1 24 Try.underlying59 hi hz0 hz1 hz2 rfl (by decide) _ _ _ (hv.alloc _) ⟨X.heap.size, 0, none⟩ 1 1 [.slice a l c] rfl (fun j u hu => cell_one_new X _ 24 j u hu) (fun u hu => by rw [List.mem_singleton.1 hu]; rfl) (by unfold maxLen; omega) (by omega) (by simp; omega)
  exact ⟨v', Y, hrun, hown, (World.grownBy_alloc X _ _).trans hg⟩
/-- Nodes behind nodes. -/
theorem push_nodes {X : World} {B Bx n m g c : Nat} {v : Value} {xs ys : List Nd} (hv : X.ownsRow B 28 4 v n (nodesV xs)) (hx : X.ownsRow Bx 28 4 (.slice (some ⟨g, 0, none⟩) m c) m (nodesV ys)) (hb : B ≤ X.heap.size) (hn : n + m ≤ 1048576) :
    ∃ v' Y, (Builtin.append_ #[24, 24] 24 #[v, .slice (some ⟨g, 0, none⟩) m c]).run Try.prog X = .ok v' Y ∧ Y.ownsRow B 28 4 v' (n + m) (nodesV (xs ++ ys)) ∧ X.grownBy Y v.ownBlock ∧ (∀ k, v'.ownBlock = some k → v.ownBlock = some k ∨ X.heap.size ≤ k) := by
  obtain ⟨i0, hi, hz0, hz1, hz2⟩ := info_parts infoNode
  obtain ⟨hl, h1, ⟨e, _⟩ | ⟨ad, c', e, hc⟩⟩ := own_src hx (nodesV_one ys)
  · cases e
  · injection e with e1 _ e3
    injection e1 with e1
    subst e1 e3
    obtain ⟨v', Y, hrun, hown, hg, _, hat⟩ := run_append_own_at (P := Try.prog) X B 24 24 28 i0 _ 4 48 Try.underlying24 hi hz0 hz1 hz2 rfl (by decide) _ _ _ hv ⟨g, 0, none⟩ m c (nodesV ys) hl hc h1 (by unfold maxLen; omega) (by omega) hb
    refine ⟨v', Y, hrun, by rw [nodesV_append]; exact hown, hg, fun k e => ?_⟩
    rcases hat with h | h
    · exact Or.inl (h.symm.trans e)
    · rw [h] at e
      injection e with e
      exact Or.inr (by omega)

/-- What l11Fold is told. -/
def Fol11 (B : World) (ta : Option Addr) (tc : Nat) (t : List Nd) (d : Nat) : Prop := ∀ (w : World) (a : Nat), Below B.heap.size B w → 0 ≤ endV t (a : Int) → t.length ≤ a + d →
  Calls Try.prog 38 #[.slice ta t.length tc, .int .i64 (a : Int)] w fun e w' => ∃ v, e = .returned v ∧ w'.ownsRow w.heap.size 28 4 v (fold11 d t (a : Int)).length (nodesV (fold11 d t (a : Int))) ∧ Below w.heap.size w w'
theorem One.good {s : List Nd} (h : One s) : Good10 s := by
  induction h with
  | mk n ks hn _ _ ih =>
    intro m hm
    rcases List.mem_cons.1 hm with e | e
    · rw [e]; exact hn
    · obtain ⟨k, hk, h2⟩ := List.mem_flatten.1 e
      exact ih k hk m h2
theorem one_word {x : List Nd} (hg : Good10 x) (h : isOne11 x = true) : -2147483648 ≤ (x.getD 0 nd0).2.1 ∧ (x.getD 0 nd0).2.1 ≤ 2147483647 := by
  obtain ⟨v, p, f, rfl⟩ := one_is h
  have hn := nodeB_iff.1 (hg _ List.mem_cons_self)
  unfold nodeP at hn
  simp only at hn
  show -2147483648 ≤ v ∧ v ≤ 2147483647
  omega
theorem fold_len {t : List Nd} {a d : Nat} (h : 0 ≤ endV t (a : Int)) (hd : t.length ≤ a + d) : 0 < (fold11 d t (a : Int)).length ∧ (fold11 d t (a : Int)).length ≤ t.length ∧ Good10 (fold11 d t (a : Int)) := by
  obtain ⟨s, post, e, hs⟩ := sub_of h
  have hl := congrArg List.length e
  rw [List.length_drop, List.length_append] at hl
  have hf := fold_fo hs d t post a (by omega) e
  exact ⟨hf.res.1.pos, by have := hf.res.2.1; omega, hf.res.1.good⟩

end Go.Proofs.Ytkjojhkpoooimaa
