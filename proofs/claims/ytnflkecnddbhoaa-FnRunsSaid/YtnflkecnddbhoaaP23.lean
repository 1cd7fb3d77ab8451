/-
  Parts of one proof, one behind the other: InsZ, RtIn, ImgK, Draw14, HasS, PackS, PackS2, PackS3.
-/
import Derived.Test.YtnflkecnddbhoaaP22
import Derived.Test.YtnflkecnddbhoaaP12
import Derived.SliceStrings
import Derived.Test.YtnflkecnddbhoaaP19
import Derived.Maps.AppendAt
import Derived.Test.YtnflkecnddbhoaaP4
import Derived.Test.YtnflkecnddbhoaaP3
import Derived.BigQuiet
import Derived.Deep.RegionHeld3
import Derived.Deep.Cut

/-! A row of instructions that came in. -/
namespace Go.Proofs.Ytnflkecnddbhoaa
open Go.ChangeShapes Go.WideShapes Go.ChangeAt Go.RowKit Go.Joins Go.Deep

set_option maxRecDepth 100000 in
theorem open_inss {H : Type} {enc : TypeId × Value → H} {W : World} {base b0 : Nat} {spare : Nat → Bool} {held : Bool} {v : Value} {d : DataW H} {p : List MemPlace}
    (hv : Value.okWide Try.prog W .any b0 105 v) (h : DataW.Trod enc Try.prog W base spare held 105 v d p) :
    ∃ a len cap ns, v = .slice a len cap ∧ InsIn W a len ns ∧ len ≤ maxLen ∧ LongI ns ∧ IntIs ns := by
  obtain ⟨a0, len, cap, rfl⟩ := okWide_slice Try.underlying105 hv
  obtain ⟨fuel, hf⟩ := h
  rcases open_slice Try.underlying105 hf with ⟨hcs, _⟩ | ⟨a, l, c, q, n, D, Pl, hcs, _, hl, hm, hq, _, hx⟩
  · simp [Value.cells] at hcs
    obtain ⟨rfl, rfl, rfl⟩ := hcs
    exact ⟨none, 0, 0, [], rfl, ⟨rfl, fun j hj => by omega⟩, by decide, (fun j => by simp [in0]), (fun j => by rw [show ([] : List In13).getD j in0 = in0 by simp]; exact intI_in0)⟩
  · simp [Value.cells] at hcs
    obtain ⟨rfl, rfl, rfl⟩ := hcs
    have hlq : len ≤ q := by rw [hq]; split <;> omega
    have each : ∀ i, i < len → ∃ x : In13, W.cell? (a.add (i * 5)) = some (.int .i64 x.1) ∧ W.cell? (a.add (i * 5 + 1)) = some (.int .i64 x.2.1) ∧ W.cell? (a.add (i * 5 + 2)) = some (.int .i64 x.2.2.1) ∧ W.cell? (a.add (i * 5 + 3)) = some (.int .i64 x.2.2.2.1) ∧ W.cell? (a.add (i * 5 + 4)) = some (.string ⟨x.2.2.2.2.toArray⟩) ∧ x.2.2.2.2.length ≤ maxLen ∧ IntI x := by
      intro i hi
      obtain ⟨cs', h1, h2⟩ := hx i (by omega)
      rw [cellsIns] at h1
      obtain ⟨_, hlen, hcell⟩ := World.cells?_some h1
      match cs', hlen with
      | [v0, v1, v2, v3, v4], _ =>
        obtain ⟨xs, k, _, _, _, hxl, hxx⟩ := DataW.trod_struct Try.underlying142 h2
        match xs, hxl with
        | [y0, y1, y2, y3, y4], _ =>
          have t0 := hxx 0 _ rfl
          have t1 := hxx 1 _ rfl
          have t2 := hxx 2 _ rfl
          have t3 := hxx 3 _ rfl
          have t4 := hxx 4 _ rfl
          obtain ⟨k0, e0, _, w0⟩ := DataW.trod_int Try.underlying2 t0
          obtain ⟨k1, e1, _, w1⟩ := DataW.trod_int Try.underlying2 t1
          obtain ⟨k2, e2, _, w2⟩ := DataW.trod_int Try.underlying2 t2
          obtain ⟨k3, e3, _, w3⟩ := DataW.trod_int Try.underlying2 t3
          obtain ⟨s4, e4, _, z4⟩ := DataW.trod_string Try.underlying9 t4
          simp [cells2] at e0 e1 e2 e3
          simp [cells9] at e4
          subst e0 e1 e2 e3 e4
          have g0 := hcell 0 (by omega)
          have g1 := hcell 1 (by omega)
          have g2 := hcell 2 (by omega)
          have g3 := hcell 3 (by omega)
          have g4 := hcell 4 (by omega)
          rw [add_add] at g0 g1 g2 g3 g4
          exact ⟨(k0, k1, k2, k3, s4.data.toList), by simpa using g0, by simpa using g1, by simpa using g2, by simpa using g3, by simpa using g4, z4, ⟨bounds_i64 w0, bounds_i64 w1, bounds_i64 w2, bounds_i64 w3⟩⟩
    obtain ⟨f, hf2⟩ := choose_lt each
    refine ⟨some a, len, cap, (List.range len).map f, rfl, ⟨by simp, fun j hj => ?_⟩, by omega, (fun j => ?_), (fun j => ?_)⟩
    rotate_left
    · by_cases hj : j < len
      · have hg : ((List.range len).map f).getD j in0 = f j := by simp [List.getD, hj]
        rw [hg]; exact (hf2 j hj).2.2.2.2.2.1
      · have hg : ((List.range len).map f).getD j in0 = in0 := by simp [List.getD, hj]
        rw [hg]; simp [in0]
    · by_cases hj : j < len
      · have hg : ((List.range len).map f).getD j in0 = f j := by simp [List.getD, hj]
        rw [hg]; exact (hf2 j hj).2.2.2.2.2.2
      · have hg : ((List.range len).map f).getD j in0 = in0 := by simp [List.getD, hj]
        rw [hg]; exact intI_in0
    obtain ⟨c0, c1, c2, c3, c4, _, _⟩ := hf2 j hj
    have hsp : a.spot = none := by
      have h0 := (hf2 0 (by omega)).1
      simpa [Addr.add] using World.cell?_spot h0
    obtain ⟨b, off, spot⟩ := a
    simp at hsp
    subst hsp
    have e : ∀ i, (⟨b, off, none⟩ : Addr).add i = ⟨b, off + i, none⟩ := fun i => by unfold Addr.add; split <;> simp_all
    rw [e] at c0 c1 c2 c3 c4
    have hg : ((List.range len).map f).getD j in0 = f j := by simp [List.getD, hj]
    rw [hg]
    exact ⟨b, off, rfl, World.block_lt_of_cell? W ⟨b, off + j * 5, none⟩ c0, c0, by rw [Nat.add_assoc]; exact c1, by rw [Nat.add_assoc]; exact c2, by rw [Nat.add_assoc]; exact c3, by rw [Nat.add_assoc]; exact c4⟩

end Go.Proofs.Ytnflkecnddbhoaa

/-! An image that came in, as the walks take it. -/
namespace Go.Proofs.Ytnflkecnddbhoaa
open Go.ChangeShapes Go.WideShapes Go.ChangeAt Go.RowKit Go.Joins Go.Deep

def IntR (rs : List Rt) : Prop := ∀ j, (-9223372036854775808 ≤ (rs.getD j rt0).2.1 ∧ (rs.getD j rt0).2.1 ≤ 9223372036854775807) ∧ IntIs (rs.getD j rt0).2.2
theorem intIs_nil : IntIs [] := fun j => by rw [show ([] : List In13).getD j in0 = in0 by simp]; exact intI_in0
section
variable {H : Type} {enc : TypeId × Value → H} {W : World} {base : Nat} {spare : Nat → Bool} {held : Bool} {fuel : Nat} {v : Value} {x : DataW H × List MemPlace}
set_option maxRecDepth 100000 in
theorem trod_inss (hf : DataW.trod enc Try.prog W base spare held fuel 105 [v] = some x) :
    ∃ a len cap ns, v = .slice a len cap ∧ InsIn W a len ns ∧ len ≤ maxLen ∧ LongI ns ∧ IntIs ns := by
  rcases open_slice Try.underlying105 hf with ⟨hcs, _⟩ | ⟨a, len, cap, q, n, D, Pl, hcs, _, hl, hm, hq, _, hx⟩
  · simp at hcs
    subst hcs
    exact ⟨none, 0, 0, [], rfl, ⟨rfl, fun j hj => by omega⟩, by decide, (fun j => by simp [in0]), (fun j => by rw [show ([] : List In13).getD j in0 = in0 by simp]; exact intI_in0)⟩
  · simp at hcs
    subst hcs
    have hlq : len ≤ q := by rw [hq]; split <;> omega
    have each : ∀ i, i < len → ∃ x : In13, W.cell? (a.add (i * 5)) = some (.int .i64 x.1) ∧ W.cell? (a.add (i * 5 + 1)) = some (.int .i64 x.2.1) ∧ W.cell? (a.add (i * 5 + 2)) = some (.int .i64 x.2.2.1) ∧ W.cell? (a.add (i * 5 + 3)) = some (.int .i64 x.2.2.2.1) ∧ W.cell? (a.add (i * 5 + 4)) = some (.string ⟨x.2.2.2.2.toArray⟩) ∧ x.2.2.2.2.length ≤ maxLen ∧ IntI x := by
      intro i hi
      obtain ⟨cs', h1, h2⟩ := hx i (by omega)
      rw [cellsIns] at h1
      obtain ⟨_, hlen, hcell⟩ := World.cells?_some h1
      match cs', hlen with
      | [v0, v1, v2, v3, v4], _ =>
        obtain ⟨xs, k, _, _, _, hxl, hxx⟩ := DataW.trod_struct Try.underlying142 h2
        match xs, hxl with
        | [y0, y1, y2, y3, y4], _ =>
          have t0 := hxx 0 _ rfl
          have t1 := hxx 1 _ rfl
          have t2 := hxx 2 _ rfl
          have t3 := hxx 3 _ rfl
          have t4 := hxx 4 _ rfl
          obtain ⟨k0, e0, _, w0⟩ := DataW.trod_int Try.underlying2 t0
          obtain ⟨k1, e1, _, w1⟩ := DataW.trod_int Try.underlying2 t1
          obtain ⟨k2, e2, _, w2⟩ := DataW.trod_int Try.underlying2 t2
          obtain ⟨k3, e3, _, w3⟩ := DataW.trod_int Try.underlying2 t3
          obtain ⟨s4, e4, _, z4⟩ := DataW.trod_string Try.underlying9 t4
          simp [cells2] at e0 e1 e2 e3
          simp [cells9] at e4
          subst e0 e1 e2 e3 e4
          have g0 := hcell 0 (by omega)
          have g1 := hcell 1 (by omega)
          have g2 := hcell 2 (by omega)
          have g3 := hcell 3 (by omega)
          have g4 := hcell 4 (by omega)
          rw [add_add] at g0 g1 g2 g3 g4
          exact ⟨(k0, k1, k2, k3, s4.data.toList), by simpa using g0, by simpa using g1, by simpa using g2, by simpa using g3, by simpa using g4, z4, ⟨bounds_i64 w0, bounds_i64 w1, bounds_i64 w2, bounds_i64 w3⟩⟩
    obtain ⟨f, hf2⟩ := choose_lt each
    refine ⟨some a, len, cap, (List.range len).map f, rfl, ⟨by simp, fun j hj => ?_⟩, by omega, (fun j => ?_), (fun j => ?_)⟩
    rotate_left
    · by_cases hj : j < len
      · have hg : ((List.range len).map f).getD j in0 = f j := by simp [List.getD, hj]
        rw [hg]; exact (hf2 j hj).2.2.2.2.2.1
      · have hg : ((List.range len).map f).getD j in0 = in0 := by simp [List.getD, hj]
        rw [hg]; simp [in0]
    · by_cases hj : j < len
      · have hg : ((List.range len).map f).getD j in0 = f j := by simp [List.getD, hj]
        rw [hg]; exact (hf2 j hj).2.2.2.2.2.2
      · have hg : ((List.range len).map f).getD j in0 = in0 := by simp [List.getD, hj]
        rw [hg]; exact intI_in0
    obtain ⟨c0, c1, c2, c3, c4, _, _⟩ := hf2 j hj
    have hsp : a.spot = none := by
      have h0 := (hf2 0 (by omega)).1
      simpa [Addr.add] using World.cell?_spot h0
    obtain ⟨b, off, spot⟩ := a
    simp at hsp
    subst hsp
    have e : ∀ i, (⟨b, off, none⟩ : Addr).add i = ⟨b, off + i, none⟩ := fun i => by unfold Addr.add; split <;> simp_all
    rw [e] at c0 c1 c2 c3 c4
    have hg : ((List.range len).map f).getD j in0 = f j := by simp [List.getD, hj]
    rw [hg]
    exact ⟨b, off, rfl, World.block_lt_of_cell? W ⟨b, off + j * 5, none⟩ c0, c0, by rw [Nat.add_assoc]; exact c1, by rw [Nat.add_assoc]; exact c2, by rw [Nat.add_assoc]; exact c3, by rw [Nat.add_assoc]; exact c4⟩
theorem cellsRt : Try.prog.cellsOf 107 = 3 := by kernel_rfl
set_option maxRecDepth 100000 in
theorem trod_rts (hf : DataW.trod enc Try.prog W base spare held fuel 34 [v] = some x) :
    ∃ a len cap fs, v = .slice a len cap ∧ RtsIn W a len fs ∧ len ≤ maxLen ∧ LongR fs ∧ IntR fs := by
  rcases open_slice Try.underlying34 hf with ⟨hcs, _⟩ | ⟨a, len, cap, q, n, D, Pl, hcs, _, hl, hm, hq, _, hx⟩
  · simp at hcs
    subst hcs
    exact ⟨none, 0, 0, [], rfl, ⟨rfl, fun j hj => by omega⟩, by decide, (fun j => by simp [rt0, LongI, in0]), (fun j => ⟨by simp [rt0], intIs_nil⟩)⟩
  · simp at hcs
    subst hcs
    have hlq : len ≤ q := by rw [hq]; split <;> omega
    have each : ∀ i, i < len → ∃ y : Rt, W.cell? (a.add (i * 3)) = some (.string ⟨y.1.toArray⟩) ∧ W.cell? (a.add (i * 3 + 1)) = some (.int .i64 y.2.1) ∧
        (∃ ta tl tc, W.cell? (a.add (i * 3 + 2)) = some (.slice ta tl tc) ∧ InsIn W ta tl y.2.2) ∧ (y.1.length ≤ maxLen ∧ y.2.2.length ≤ maxLen ∧ LongI y.2.2) ∧ ((-9223372036854775808 ≤ y.2.1 ∧ y.2.1 ≤ 9223372036854775807) ∧ IntIs y.2.2) := by
      intro i hi
      obtain ⟨cs', h1, h2⟩ := hx i (by omega)
      rw [cellsRt] at h1
      obtain ⟨_, hlen, hcell⟩ := World.cells?_some h1
      match cs', hlen with
      | [v0, v1, v2], _ =>
        obtain ⟨y0, y1, y2, k, _, _, t0, t1, t2⟩ := trod_struct3 Try.underlying107 h2
        have k2 : Try.prog.cellsOf 2 = 1 := by kernel_rfl
        have k9 : Try.prog.cellsOf 9 = 1 := by kernel_rfl
        have kn : Try.prog.cellsOf 105 = 1 := by kernel_rfl
        simp [k2, k9, kn] at t0 t1 t2
        obtain ⟨s0, e0, _, z0⟩ := DataW.trod_string Try.underlying9 t0
        obtain ⟨aa, e1, _, wa⟩ := DataW.trod_int Try.underlying2 t1
        obtain ⟨ta, tl, tc, ns, e2, hns, hnl, hlt, hit⟩ := trod_inss t2
        simp at e0 e1
        subst e0 e1 e2
        have g0 := hcell 0 (by omega)
        have g1 := hcell 1 (by omega)
        have g2 := hcell 2 (by omega)
        rw [add_add] at g0 g1 g2
        exact ⟨(s0.data.toList, aa, ns), by simpa using g0, by simpa using g1, ⟨ta, tl, tc, by simpa using g2, hns⟩, ⟨z0, by rw [show ((s0.data.toList, aa, ns) : Rt).2.2 = ns from rfl, hns.1]; exact hnl, hlt⟩, ⟨bounds_i64 wa, hit⟩⟩
    obtain ⟨f, hf2⟩ := choose_lt each
    refine ⟨some a, len, cap, (List.range len).map f, rfl, ⟨by simp, fun j hj => ?_⟩, by omega, (fun j => ?_), (fun j => ?_)⟩
    rotate_left
    · by_cases hj : j < len
      · have hg : ((List.range len).map f).getD j rt0 = f j := by simp [List.getD, hj]
        rw [hg]; exact (hf2 j hj).2.2.2.1
      · have hg : ((List.range len).map f).getD j rt0 = rt0 := by simp [List.getD, hj]
        rw [hg]; simp [rt0, LongI, in0]
    · by_cases hj : j < len
      · have hg : ((List.range len).map f).getD j rt0 = f j := by simp [List.getD, hj]
        rw [hg]; exact (hf2 j hj).2.2.2.2
      · have hg : ((List.range len).map f).getD j rt0 = rt0 := by simp [List.getD, hj]
        rw [hg]; exact ⟨by simp [rt0], intIs_nil⟩
    obtain ⟨c0, c1, ⟨ta, tl, tc, c2, hns⟩, _, _⟩ := hf2 j hj
    have hsp : a.spot = none := by
      have h0 := (hf2 0 (by omega)).1
      simpa [Addr.add] using World.cell?_spot h0
    obtain ⟨b, off, spot⟩ := a
    simp at hsp
    subst hsp
    have e : ∀ i, (⟨b, off, none⟩ : Addr).add i = ⟨b, off + i, none⟩ := fun i => by unfold Addr.add; split <;> simp_all
    rw [e] at c0 c1 c2
    have hg : ((List.range len).map f).getD j rt0 = f j := by simp [List.getD, hj]
    rw [hg]
    exact ⟨b, off, rfl, World.block_lt_of_cell? W ⟨b, off + j * 3, none⟩ c0, c0, by rw [Nat.add_assoc]; exact c1, ta, tl, tc, by rw [Nat.add_assoc]; exact c2, hns⟩
end

end Go.Proofs.Ytnflkecnddbhoaa

/-! What the landed functions of chapter 14 are told of an image. -/
namespace Go.Proofs.Ytnflkecnddbhoaa
open Go.RowKit

/-- The routines rs lie at a, and so does the room of each row. -/
def RtsCap (w : World) (a : Option Addr) (len cap : Nat) (rs : List Rt) : Prop :=
  rs.length = len ∧ len ≤ cap ∧ cap ≤ maxLen ∧ ∀ j, j < len → ∃ b off, a = some ⟨b, off, none⟩ ∧ b < w.heap.size ∧ w.cell? ⟨b, off + j * 3, none⟩ = some (.string ⟨(rs.getD j rt0).1.toArray⟩) ∧ w.cell? ⟨b, off + j * 3 + 1, none⟩ = some (.int .i64 (rs.getD j rt0).2.1) ∧
    ∃ ca cl cc, w.cell? ⟨b, off + j * 3 + 2, none⟩ = some (.slice ca cl cc) ∧ InsIn w ca cl (rs.getD j rt0).2.2 ∧ cl ≤ cc ∧ cc ≤ maxLen
theorem RtsCap.in {w : World} {a : Option Addr} {len cap : Nat} {rs : List Rt} (h : RtsCap w a len cap rs) : RtsIn w a len rs := by
  refine ⟨h.1, fun j hj => ?_⟩
  obtain ⟨b, off, e, hl, c0, c1, ca, cl, cc, c2, hn, _, _⟩ := h.2.2.2 j hj
  exact ⟨b, off, e, hl, c0, c1, ca, cl, cc, c2, hn⟩
theorem RtsCap.below {w w' : World} {a : Option Addr} {len cap : Nat} {rs : List Rt} (h : RtsCap w a len cap rs) (hb : Below w.heap.size w w') : RtsCap w' a len cap rs := by
  refine ⟨h.1, h.2.1, h.2.2.1, fun j hj => ?_⟩
  obtain ⟨b, off, e, hlt, c0, c1, ca, cl, cc, c2, hn, h1, h2⟩ := h.2.2.2 j hj
  exact ⟨b, off, e, Nat.lt_of_lt_of_le hlt hb.size, (hb.cell (p := ⟨b, off + j * 3, none⟩) hlt).trans c0, (hb.cell (p := ⟨b, off + j * 3 + 1, none⟩) hlt).trans c1, ca, cl, cc, (hb.cell (p := ⟨b, off + j * 3 + 2, none⟩) hlt).trans c2, hn.below hb, h1, h2⟩
structure RtOk (w : World) (a : Option Addr) (len cap : Nat) (rs : List Rt) : Prop where
  c : RtsCap w a len cap rs
  i : IntR rs
  s : ShortR rs
  l : len ≤ 1048576
theorem RtOk.below {w w' : World} {a : Option Addr} {len cap : Nat} {rs : List Rt} (h : RtOk w a len cap rs) (hb : Below w.heap.size w w') : RtOk w' a len cap rs := ⟨h.c.below hb, h.i, h.s, h.l⟩
theorem own_capR {w : World} {base e size n c : Nat} {a : Option Addr} {xs : List Value} (h : w.ownsRow base e size (.slice a n c) n xs) : n ≤ c ∧ c ≤ maxLen := by
  rcases h.2 with ⟨h', _⟩ | ⟨g', cap', cur, h', _, _, hnc, hcm, _⟩
  · injection h' with _ h1 h2
    subst h1 h2
    exact ⟨Nat.le_refl _, Nat.zero_le _⟩
  · injection h' with _ _ h2
    omega
/-- What is owned lies so. -/
theorem RtsOwn.cap {w : World} {base n c : Nat} {a : Option Addr} {xs : List RV} {rs : List Rt} (h : RtsOwn w base (.slice a n c) xs) (hx : xs.map (·.1) = rs) (hn : rs.length = n) : RtsCap w a n c rs := by
  have hxl : xs.length = n := by rw [← hn, ← hx, List.length_map]
  obtain ⟨a', c', e, _, hin⟩ := h.in
  rw [hx, hxl] at hin
  rw [hxl] at e
  injection e with e1 _ e3
  subst e1 e3
  have hrow := h.row
  rw [hxl] at hrow
  have hc := own_capR hrow
  refine ⟨hin.1, hc.1, hc.2, fun j hj => ?_⟩
  obtain ⟨b, off, e, hlt, c0, c1, ca, cl, cc, c2, hn2⟩ := hin.2 j hj
  refine ⟨b, off, e, hlt, c0, c1, ca, cl, cc, c2, hn2, ?_⟩
  subst e
  obtain ⟨g, cp, e2⟩ := own_some hrow (by omega)
  injection e2 with e3 _ _
  injection e3 with e3
  injection e3 with e4 e5 _
  subst e4 e5
  have hmem : xs.getD j rv0 ∈ xs := by rw [List.getD_eq_getElem?_getD, List.getElem?_eq_getElem (by omega)]; exact List.getElem_mem (by omega)
  have ht := h.trees _ hmem
  obtain ⟨_, _, v2⟩ := rtsV_at xs j (by omega)
  have h2 := hrow.cellAt (j * 3 + 2) (by omega)
  rw [v2] at h2
  rw [Nat.zero_add] at c2
  rw [c2] at h2
  injection h2 with h2
  unfold rvT at h2 ht
  injection h2 with h3 h4 h5
  subst h3 h4 h5
  exact own_capR ht

theorem rt_small {rs : List Rt} (h : rs.length + rtsSz rs ≤ 1048576) : rs.length ≤ 1048576 ∧ ShortR rs := ⟨by omega, shortR_of (by omega)⟩

end Go.Proofs.Ytnflkecnddbhoaa

/-! Images are drawn: rows of routines put together. -/
namespace Go.Proofs.Ytnflkecnddbhoaa
open Go.RowKit

def SmRt (r : Rt) : Prop := r.1.length ≤ 100 ∧ (-10 ≤ r.2.1 ∧ r.2.1 ≤ 10) ∧ r.2.2.length ≤ 300 ∧ AllI r.2.2
def SmR (xs : List RV) : Prop := ∀ x ∈ xs, SmRt x.1

theorem rtsV_take (xs : List RV) (k : Nat) : rtsV (xs.take k) = (rtsV xs).take (k * 3) := by
  induction xs generalizing k with
  | nil => simp [rtsV]
  | cons x r ih =>
    cases k with
    | zero => simp [rtsV]
    | succ k =>
      rw [List.take_succ_cons, rtsV, rtsV, ih k, show (k + 1) * 3 = k * 3 + 1 + 1 + 1 by omega]
      simp
theorem rtsV_drop (xs : List RV) (k : Nat) : rtsV (xs.drop k) = (rtsV xs).drop (k * 3) := by
  induction xs generalizing k with
  | nil => simp [rtsV]
  | cons x r ih =>
    cases k with
    | zero => simp
    | succ k =>
      rw [List.drop_succ_cons, ih k, rtsV, show (k + 1) * 3 = k * 3 + 1 + 1 + 1 by omega]
      simp
def SrcR (X : World) (ad : Addr) (zs : List RV) : Prop := ∀ (j : Nat) (u : Value), (rtsV zs)[j]? = some u → X.cell? (ad.add j) = some u
section
variable {X Y : World} {Bs g c : Nat} {xs zs : List RV}
theorem app14 (hv : RtsOwn X Bs (.slice (some ⟨g, 0, none⟩) xs.length c) xs) {ad : Addr} {cz : Nat} (hs : SrcR X ad zs) (ht : ∀ z ∈ zs, X.ownsRow Bs 74 5 (rvT z) z.1.2.2.length (insV z.1.2.2)) (hB : Bs ≤ X.heap.size) (hn : xs.length + zs.length ≤ 4000) :
    ∃ g' c' Y, (Builtin.append_ #[24, 24] 24 #[.slice (some ⟨g, 0, none⟩) xs.length c, .slice (some ad) zs.length cz]).run Try.prog X = .ok (.slice (some ⟨g', 0, none⟩) (xs.length + zs.length) c') Y ∧ RtsOwn Y Bs (.slice (some ⟨g', 0, none⟩) (xs ++ zs).length c') (xs ++ zs) ∧ X.grownBy Y (some g) ∧ (g' = g ∨ g' = X.heap.size) := by
  obtain ⟨i0, hi, hz0, hz1, hz2⟩ := info_parts infoRt
  obtain ⟨v', Y, hrun, hown, hg, hnn, hat⟩ := run_append_own_at (P := Try.prog) X Bs 24 24 51 i0 _ 3 48 Try.underlying24 hi hz0 hz1 hz2 rfl (by decide) _ _ _ hv.row ad zs.length cz (rtsV zs) (by rw [rtsV_len]) hs (rtsV_one _) (by unfold maxLen; omega) (by omega) hB
  have hl : xs.length + zs.length = (xs ++ zs).length := by simp
  rw [← rtsV_append] at hown
  obtain ⟨g', c', rfl⟩ : ∃ g' c', v' = .slice (some ⟨g', 0, none⟩) (xs.length + zs.length) c' := by
    rcases own_forms hown with ⟨e, _, _⟩ | ⟨g', cp, e⟩
    · have := (hnn.1 e).1; injection this with this; cases this
    · exact ⟨g', cp, e⟩
  refine ⟨g', c', Y, hrun, ⟨by rw [← hl]; exact hown, fun x hx => ?_⟩, hg, ?_⟩
  · have hx2 : X.ownsRow Bs 74 5 (rvT x) x.1.2.2.length (insV x.1.2.2) := by
      rcases List.mem_append.1 hx with e | e
      · exact hv.trees x e
      · exact ht x e
    exact hx2.kept hg (own_typesR hx2 hv.row (by decide))
  · rcases hat with e | e
    · exact Or.inl (by simpa [Value.ownBlock] using e)
    · exact Or.inr (by simpa [Value.ownBlock] using e)
theorem empty14 (X : World) (hB : Bs ≤ X.heap.size) : RtsOwn (X.alloc (.cells #[] 51)) Bs (.slice (some ⟨X.heap.size, 0, none⟩) ([] : List RV).length 0) [] :=
  ⟨World.ownsRow_lit X #[] 0 hB (by decide) rfl, fun x hx => by cases hx⟩
theorem add14 (b o j : Nat) : (⟨b, o, none⟩ : Addr).add j = ⟨b, o + j, none⟩ := by unfold Addr.add; split <;> simp_all
theorem take14 (h : RtsOwn X Bs (.slice (some ⟨g, 0, none⟩) xs.length c) xs) {k : Nat} (hk : k ≤ xs.length) : SrcR X ⟨g, 0, none⟩ (xs.take k) := by
  have hl : (xs.take k).length = k := by rw [List.length_take]; omega
  intro j u hu
  have hj : j < k * 3 := by have := (List.getElem?_eq_some_iff.1 hu).1; rw [rtsV_len, hl] at this; exact this
  rw [add14, Nat.zero_add, World.ownsRow.cellAt h.row j (by omega)]
  rw [rtsV_take, List.getElem?_take, if_pos hj] at hu
  exact hu
theorem all14 (h : RtsOwn X Bs (.slice (some ⟨g, 0, none⟩) xs.length c) xs) : SrcR X ⟨g, 0, none⟩ xs := by
  have := take14 h (Nat.le_refl _)
  rwa [List.take_of_length_le (Nat.le_refl _)] at this
theorem drop14 (h : RtsOwn X Bs (.slice (some ⟨g, 0, none⟩) xs.length c) xs) {k : Nat} (hk : k ≤ xs.length) : SrcR X (if c = k then ⟨g, 0, none⟩ else ⟨g, k * 3, none⟩) (xs.drop k) := by
  have hcap := (own_capR h.row).1
  have hl : (xs.drop k).length = xs.length - k := List.length_drop
  intro j u hu
  have hj : j < (xs.length - k) * 3 := by have := (List.getElem?_eq_some_iff.1 hu).1; rw [rtsV_len, hl] at this; exact this
  rw [if_neg (by omega), add14, World.ownsRow.cellAt h.row (k * 3 + j) (by omega)]
  rw [rtsV_drop, List.getElem?_drop] at hu
  exact hu
theorem RtsOwn.cells (h : RtsOwn X Bs (.slice (some ⟨g, 0, none⟩) xs.length c) xs) {k : Nat} (hk : k < xs.length) : X.cell? ⟨g, k * 3, none⟩ = some (.string ⟨(xs.getD k rv0).1.1.toArray⟩) ∧ X.cell? ⟨g, k * 3 + 1, none⟩ = some (.int .i64 (xs.getD k rv0).1.2.1) ∧ X.cell? ⟨g, k * 3 + 2, none⟩ = some (rvT (xs.getD k rv0)) := by
  obtain ⟨v0, v1, v2⟩ := rtsV_at xs k hk
  refine ⟨?_, ?_, ?_⟩
  · rw [World.ownsRow.cellAt h.row (k * 3) (by omega), v0]
  · rw [World.ownsRow.cellAt h.row (k * 3 + 1) (by omega), v1]
  · rw [World.ownsRow.cellAt h.row (k * 3 + 2) (by omega), v2]
end

/-- The routines so far. -/
structure Im14 (w1 X : World) (g c : Nat) (xs : List RV) : Prop where
  fo : RtsOwn X w1.heap.size (.slice (some ⟨g, 0, none⟩) xs.length c) xs
  sm : SmR xs
  b : Below w1.heap.size w1 X
/-- The routine that is put in: its block R. -/
structure Ir2 (w1 X : World) (g c R : Nat) (xs : List RV) (y : RV) : Prop where
  o : Im14 w1 X g c xs
  r0 : X.cell? ⟨R, 0, none⟩ = some (.string ⟨y.1.1.toArray⟩)
  r1 : X.cell? ⟨R, 1, none⟩ = some (.int .i64 y.1.2.1)
  r2 : X.cell? ⟨R, 2, none⟩ = some (rvT y)
  yo : X.ownsRow w1.heap.size 74 5 (rvT y) y.1.2.2.length (insV y.1.2.2)
  ys : SmRt y.1
  rl : R < X.heap.size
section
variable {w1 X Y : World} {g c R : Nat} {xs : List RV} {y : RV}
theorem Im14.below (h : Im14 w1 X g c xs) (hb : Below X.heap.size X Y) : Im14 w1 Y g c xs := ⟨h.fo.below hb, h.sm, h.b.trans (hb.mono h.b.size)⟩
theorem Im14.drew (h : Im14 w1 X g c xs) : Im14 w1 X.drew g c xs := h.below ⟨rfl, rfl, rfl, Nat.le_refl _, fun _ _ => rfl⟩
theorem Ir2.below (h : Ir2 w1 X g c R xs y) (hb : Below X.heap.size X Y) : Ir2 w1 Y g c R xs y :=
  ⟨h.o.below hb, (hb.cell (p := ⟨R, 0, none⟩) h.rl).trans h.r0, (hb.cell (p := ⟨R, 1, none⟩) h.rl).trans h.r1, (hb.cell (p := ⟨R, 2, none⟩) h.rl).trans h.r2, own_below h.yo hb, h.ys, Nat.lt_of_lt_of_le h.rl hb.size⟩
theorem Ir2.drew (h : Ir2 w1 X g c R xs y) : Ir2 w1 X.drew g c R xs y := h.below ⟨rfl, rfl, rfl, Nat.le_refl _, fun _ _ => rfl⟩
/-- What stands behind the place, copied. -/
theorem Ir2.rest (h : Ir2 w1 X g c R xs y) {k : Nat} (hk : k ≤ xs.length) (hn : xs.length ≤ 100) :
    ∃ g1 c1 Y1, (Builtin.append_ #[24, 24] 24 #[.slice (some ⟨X.heap.size, 0, none⟩) 0 0, .slice (some (if c = k then ⟨g, 0, none⟩ else ⟨g, k * 3, none⟩)) (xs.length - k) (c - k)]).run Try.prog (X.alloc (.cells #[] 51)) = .ok (.slice (some ⟨g1, 0, none⟩) (xs.length - k) c1) Y1 ∧
      Ir2 w1 Y1 g c R xs y ∧ RtsOwn Y1 w1.heap.size (.slice (some ⟨g1, 0, none⟩) (xs.drop k).length c1) (xs.drop k) := by
  have hb : Below X.heap.size X (X.alloc (.cells #[] 51)) := (Below.refl _ _).alloc (Nat.le_refl _) _
  have h1 := h.below hb
  have hl : (xs.drop k).length = xs.length - k := List.length_drop
  obtain ⟨g1, c1, Y1, hrun, ho, hg, _⟩ := app14 (cz := c - k) (empty14 X h.o.b.size) (drop14 h1.o.fo hk) (fun z hz => h1.o.fo.trees z (List.mem_of_mem_drop hz)) h1.o.b.size (by simp; omega)
  rw [List.nil_append] at ho
  simp only [hl, List.length_nil, Nat.zero_add] at hrun
  exact ⟨g1, c1, Y1, hrun, h.below (hb.grown hg (Nat.le_of_lt (by simp)) (fun q e => by injection e with e; omega)), ho⟩
/-- The routine as a row of its own. -/
theorem one14 (X : World) (y : RV) (hB : w1.heap.size ≤ X.heap.size) (hy : X.ownsRow w1.heap.size 74 5 (rvT y) y.1.2.2.length (insV y.1.2.2)) : RtsOwn (X.alloc (.cells #[.string ⟨y.1.1.toArray⟩, .int .i64 y.1.2.1, rvT y] 51)) w1.heap.size (.slice (some ⟨X.heap.size, 0, none⟩) [y].length 1) [y] :=
  ⟨World.ownsRow_lit X #[.string ⟨y.1.1.toArray⟩, .int .i64 y.1.2.1, rvT y] 1 hB (by decide) rfl, fun x hx => by
    rw [List.mem_singleton] at hx
    subst hx
    exact own_below hy ((Below.refl _ _).alloc (Nat.le_refl _) _)⟩
/-- The three rows put together. -/
theorem Ir2.join (h : Ir2 w1 X g c R xs y) {k gh ch : Nat} (hh : RtsOwn X w1.heap.size (.slice (some ⟨gh, 0, none⟩) (xs.take k).length ch) (xs.take k)) {go_ co : Nat} (ho : RtsOwn X w1.heap.size (.slice (some ⟨go_, 0, none⟩) [y].length co) [y]) (hn : xs.length ≤ 100) :
    ∃ g' c' Y, (Builtin.append_ #[24, 24] 24 #[.slice (some ⟨gh, 0, none⟩) (xs.take k).length ch, .slice (some ⟨go_, 0, none⟩) 1 co]).run Try.prog X = .ok (.slice (some ⟨g', 0, none⟩) ((xs.take k).length + 1) c') Y ∧
      RtsOwn Y w1.heap.size (.slice (some ⟨g', 0, none⟩) (xs.take k ++ [y]).length c') (xs.take k ++ [y]) ∧ X.grownBy Y (some gh) ∧ (g' = gh ∨ g' = X.heap.size) := by
  have hl : (xs.take k).length ≤ 100 := by rw [List.length_take]; omega
  have hs : SrcR X ⟨go_, 0, none⟩ [y] := all14 ho
  have hz : (xs.take k).length + [y].length ≤ 4000 := by rw [List.length_singleton]; omega
  obtain ⟨g', c', Y, h1, h2, h3, h4⟩ := app14 (cz := co) hh hs (fun z hz => ho.trees z hz) h.o.b.size hz
  exact ⟨g', c', Y, h1, h2, h3, h4⟩
end

end Go.Proofs.Ytnflkecnddbhoaa

/-! The contract of the specification's l1Has. -/
namespace Go.Proofs.Ytnflkecnddbhoaa
open Go.RowKit

theorem mem_take_step {ts : List (List UInt8)} {s : List UInt8} {k : Nat} (h : ∀ i, i < k → ts.getD i [] ≠ s) (hk : ts.length ≤ k) : ¬ s ∈ ts := fun hm => by
  obtain ⟨i, hi, rfl⟩ := List.mem_iff_getElem.1 hm
  exact h i (by omega) (by simp [List.getD, hi])
theorem getD_mem8 {ts : List (List UInt8)} {k : Nat} (hk : k < ts.length) : ts.getD k [] ∈ ts := by
  rw [List.getD_eq_getElem?_getD, List.getElem?_eq_getElem hk]; exact List.getElem_mem hk

set_option maxHeartbeats 1000000 in
set_option maxRecDepth 100000 in
theorem specHas (a : Option Addr) (len cap : Nat) (ts : List (List UInt8)) (s : List UInt8) (w : World) (hin : TextsIn w a len ts) (hlen : len ≤ 4194304) :
    Calls Try.prog 36 #[.slice a len cap, .string ⟨s.toArray⟩] w fun e w' => e = .returned (.bool (decide (s ∈ ts))) ∧ w' = w := by
  obtain rfl : ts.length = len := hin.1
  have HI : Hid (TextsIn w a ts.length ts) := hin
  clear hin
  go_enter Try.func36, Try.ntmps36
  go_wp2
  go_loopw [5] (fun iv wr => ∃ k : Nat, iv = .int .i64 (k : Int) ∧ k ≤ ts.length ∧ Hid (∀ i, i < k → ts.getD i [] ≠ s) ∧ wr = w) (fun iv _ => ts.length - (intOf iv).toNat)
  case atStart => exact ⟨0, rfl, by omega, (fun i hi => by omega), rfl⟩
  case round =>
    obtain ⟨k, rfl, hk, HA, rfl⟩ := hrel
    by_cases hlt : (k : Int) < (ts.length : Int)
    · have hk2 : k < ts.length := by omega
      obtain ⟨b, off, rfl, hbl, c0⟩ := HI.out.2 k hk2
      have hmem := getD_mem8 hk2
      obtain ⟨x, hx⟩ : ∃ x, ts.getD k [] = x := ⟨_, rfl⟩
      rw [hx] at c0 hmem
      by_cases hxs : x = s
      · subst hxs
        have HR : Hid (decide (x ∈ ts) = true) := decide_eq_true hmem
        have hself : (x == x) = true := by simp
        clear HA hx hmem
        go_wp2
        go_ret
        exact ⟨by rw [HR.out]; rfl, rfl⟩
      · have HA2 : Hid (∀ i, i < k + 1 → ts.getD i [] ≠ s) := fun i hi => by
          rcases Nat.lt_or_ge i k with h | h
          · exact HA.out i h
          · obtain rfl : i = k := by omega
            rw [hx]; exact hxs
        have hne : (x == s) = false := by rw [beq_eq_false_iff_ne]; exact hxs
        clear HA hx hmem
        go_wp2
        go_roundw
        case rel => exact ⟨k + 1, by go_num, by omega, HA2, trivial⟩
        case measure => simp [intOf]; omega
    · have HR : Hid (decide (s ∈ ts) = false) := decide_eq_false (mem_take_step HA.out (by omega))
      go_wp2
      go_ret
      exact ⟨by rw [HR.out]; rfl, rfl⟩

end Go.Proofs.Ytnflkecnddbhoaa

/-! The contracts of chapter 7's specification: l1Rise, l7Imports, l7Func. -/
namespace Go.Proofs.Ytnflkecnddbhoaa
open Go.RowKit

set_option maxHeartbeats 2000000 in
set_option maxRecDepth 100000 in
theorem specRise (a : Option Addr) (len cap : Nat) (ts : List (List UInt8)) (w : World) (hin : TextsIn w a len ts) (hlen : len ≤ 1048576) :
    Calls Try.prog 60 #[.slice a len cap] w fun e w' => e = .returned (.bool (riseB ts)) ∧ Below w.heap.size w w' := by
  obtain rfl : ts.length = len := hin.1
  have HI : Hid (TextsIn w a ts.length ts) := hin
  clear hin
  go_enter Try.func60, Try.ntmps60
  go_wp2
  go_loopw [3] (fun iv wr => ∃ j : Nat, iv = .int .i64 ((j : Int) + 1) ∧ j ≤ ts.length ∧ Hid (∀ i, i < j → leT (ts.getD (i + 1) []) (ts.getD i []) = false) ∧ Hid (TextsIn wr a ts.length ts) ∧ Hid (Below w.heap.size w wr)) (fun iv _ => ts.length + 1 - (intOf iv).toNat)
  case atStart => exact ⟨0, rfl, by omega, (fun i hi => by omega), HI, Below.refl _ _⟩
  case round =>
    obtain ⟨j, rfl, hj, HA, HT, HB⟩ := hrel
    clear HI
    by_cases hlt : (j : Int) + 1 < (ts.length : Int)
    · obtain ⟨b, off, rfl, hbl, c0⟩ := HT.out.2 j (by omega)
      obtain ⟨b', off', he, _, c1⟩ := HT.out.2 (j + 1) (by omega)
      simp only [Option.some.injEq, Addr.mk.injEq, and_true] at he
      obtain ⟨rfl, rfl⟩ := he
      obtain ⟨x, hx⟩ : ∃ x, ts.getD j [] = x := ⟨_, rfl⟩
      obtain ⟨y, hy⟩ : ∃ y, ts.getD (j + 1) [] = y := ⟨_, rfl⟩
      rw [hx] at c0
      rw [hy] at c1
      rcases hle : leT y x with _ | _
      · have HA2 : Hid (∀ i, i < j + 1 → leT (ts.getD (i + 1) []) (ts.getD i []) = false) := fun i hi => by
          rcases Nat.lt_or_ge i j with h | h
          · exact HA.out i h
          · obtain rfl : i = j := by omega
            rw [hx, hy]; exact hle
        have HT2 : Hid (TextsIn wr (some ⟨b, off, none⟩) ts.length ts) := HT.out
        unfold leT at hle
        clear HA HT hx hy
        go_wp2_with fail
        go_quiet (fail)
        go_wp2
        go_roundw
        case rel => exact ⟨j + 1, by go_num, by omega, HA2, HT2, HB.out.trans ⟨rfl, rfl, rfl, Nat.le_refl _, fun _ _ => rfl⟩⟩
        case measure => simp [intOf]; omega
      · have HR : Hid (riseB ts = false) := riseB_no (j := j) (by omega) (by rw [hx, hy]; exact hle)
        unfold leT at hle
        clear HA HT hx hy
        go_wp2_with fail
        go_quiet (fail)
        go_wp2
        go_ret
        exact ⟨by rw [HR.out]; rfl, HB.out.trans ⟨rfl, rfl, rfl, Nat.le_refl _, fun _ _ => rfl⟩⟩
    · have HR : Hid (riseB ts = true) := riseB_yes (j := j) (by omega) HA.out
      go_wp2
      go_ret
      exact ⟨by rw [HR.out]; rfl, HB.out⟩

set_option maxHeartbeats 2000000 in
set_option maxRecDepth 100000 in
theorem specImports (a : Option Addr) (len cap : Nat) (ts : List (List UInt8)) (w : World) (hin : TextsIn w a len ts) (hlen : len ≤ 1048576) (hs : ∀ i, (ts.getD i []).length ≤ 1048576) :
    Calls Try.prog 33 #[.slice a len cap] w fun e w' => e = .returned (.bool (importsB ts)) ∧ Below w.heap.size w w' := by
  obtain rfl : ts.length = len := hin.1
  have HI : Hid (TextsIn w a ts.length ts) := hin
  have HS : Hid (∀ i, (ts.getD i []).length ≤ 1048576) := hs
  clear hin hs
  go_enter Try.func33, Try.ntmps33
  go_wp2
  go_loopw [3] (fun iv wr => ∃ j : Nat, iv = .int .i64 (j : Int) ∧ j ≤ ts.length ∧ Hid (∀ i, i < j → nameB (ts.getD i []) = true) ∧ Hid (TextsIn wr a ts.length ts) ∧ Hid (Below w.heap.size w wr)) (fun iv _ => ts.length - (intOf iv).toNat)
  case atStart => exact ⟨0, rfl, by omega, (fun i hi => by omega), HI, Below.refl _ _⟩
  case round =>
    obtain ⟨j, rfl, hj, HA, HT, HB⟩ := hrel
    clear HI
    by_cases hlt : (j : Int) < (ts.length : Int)
    · obtain ⟨b, off, rfl, hbl, c0⟩ := HT.out.2 j (by omega)
      have hxl := HS.out j
      obtain ⟨x, hx⟩ : ∃ x, ts.getD j [] = x := ⟨_, rfl⟩
      rw [hx] at c0 hxl
      have hC : Hid (_) := specNameOk x wr hxl
      rcases hnb : nameB x with _ | _
      · have HR : Hid (importsB ts = false) := importsB_no (j := j) (by omega) (by rw [hx]; exact hnb)
        rw [hnb] at hC
        clear HA HT hx hnb
        go_wp2_with (go_at_call 32; refine Calls.mono hC.out ?_; rintro e w1 ⟨rfl, rfl⟩)
        go_ret
        exact ⟨by rw [HR.out]; rfl, HB.out⟩
      · have HA2 : Hid (∀ i, i < j + 1 → nameB (ts.getD i []) = true) := fun i hi => by
          rcases Nat.lt_or_ge i j with h | h
          · exact HA.out i h
          · obtain rfl : i = j := by omega
            rw [hx]; exact hnb
        rw [hnb] at hC
        clear HA hx hnb
        go_wp2_with (go_at_call 32; refine Calls.mono hC.out ?_; rintro e w1 ⟨rfl, rfl⟩)
        go_roundw
        case rel => exact ⟨j + 1, by go_num, by omega, HA2, HT, HB⟩
        case measure => simp [intOf]; omega
    · have hall := importsB_all (l := ts) (fun i hi => HA.out i (by omega))
      by_cases h6 : (ts.length : Int) ≤ 6
      · have HR : Hid (importsB ts = riseB ts) := by
          exact (by rw [hall, decide_eq_true (show ts.length ≤ 6 by omega)]; rfl : importsB ts = riseB ts)
        have hC : Hid (_) := specRise a ts.length cap ts wr HT.out hlen
        clear hall HA HT
        go_wp2_with (go_at_call 60; refine Calls.mono hC.out ?_; rintro e w1 ⟨rfl, hb1⟩)
        go_ret
        exact ⟨by rw [HR.out]; rfl, HB.out.trans (hb1.mono HB.out.size)⟩
      · have HR : Hid (importsB ts = false) := by
          exact (by rw [hall, decide_eq_false (show ¬ ts.length ≤ 6 by omega)]; rfl : importsB ts = false)
        clear hall HA HT
        go_wp2
        go_ret
        exact ⟨by rw [HR.out]; rfl, HB.out⟩

/-- A function, as a value. -/
def FnVal (f : Fn) (ta : Option Addr) (tl tc : Nat) : Value := .agg #[.string ⟨f.1.toArray⟩, .int .i64 f.2.1, .slice ta tl tc]


end Go.Proofs.Ytnflkecnddbhoaa

/-! The contracts of chapter 7's specification: l7At, PackageOk. -/
namespace Go.Proofs.Ytnflkecnddbhoaa
open Go.RowKit

/-- The functions fs lie at a, three cells each, their trees where those say. -/
def FuncsIn (w : World) (a : Option Addr) (len : Nat) (fs : List Fn) : Prop :=
  fs.length = len ∧ ∀ j, j < len → ∃ b off, a = some ⟨b, off, none⟩ ∧ b < w.heap.size ∧ w.cell? ⟨b, off + j * 3, none⟩ = some (.string ⟨(fs.getD j fn0).1.toArray⟩) ∧ w.cell? ⟨b, off + j * 3 + 1, none⟩ = some (.int .i64 (fs.getD j fn0).2.1) ∧
    ∃ ta tl tc, w.cell? ⟨b, off + j * 3 + 2, none⟩ = some (.slice ta tl tc) ∧ (ta = none → tc = 0) ∧ NodesIn w ta tl (fs.getD j fn0).2.2

theorem FuncsIn.below {w w' : World} {a : Option Addr} {len : Nat} {fs : List Fn} (h : FuncsIn w a len fs) (hb : Below w.heap.size w w') : FuncsIn w' a len fs := by
  refine ⟨h.1, fun j hj => ?_⟩
  obtain ⟨b, off, e, hlt, c0, c1, ta, tl, tc, c2, hnc, hn⟩ := h.2 j hj
  exact ⟨b, off, e, Nat.lt_of_lt_of_le hlt hb.size, (hb.cell (p := ⟨b, off + j * 3, none⟩) hlt).trans c0, (hb.cell (p := ⟨b, off + j * 3 + 1, none⟩) hlt).trans c1, ta, tl, tc, (hb.cell (p := ⟨b, off + j * 3 + 2, none⟩) hlt).trans c2, hnc, hn.below hb⟩

/-- No name, no tree is longer than a law lets them be. -/
def ShortF (fs : List Fn) : Prop := ∀ j, (fs.getD j fn0).1.length ≤ 1048576 ∧ (fs.getD j fn0).2.2.length ≤ 1048576 ∧ ShortT (fs.getD j fn0).2.2


end Go.Proofs.Ytnflkecnddbhoaa

/-! The contract of chapter 7's specification: PackageOk. -/
namespace Go.Proofs.Ytnflkecnddbhoaa
open Go.RowKit

/-- A package in a block of its own, as a walk holds it. -/
structure PkIn (W : World) (D : Nat) (nm : List UInt8) (ia : Option Addr) (il ic : Nat) (fa : Option Addr) (fl fc : Nat) (ims : List (List UInt8)) (fs : List Fn) : Prop where
  k0 : W.cell? ⟨D, 0, none⟩ = some (.string ⟨nm.toArray⟩)
  k1 : W.cell? ⟨D, 1, none⟩ = some (.slice ia il ic)
  k2 : W.cell? ⟨D, 2, none⟩ = some (.slice fa fl fc)
  i : TextsIn W ia il ims
  f : FuncsIn W fa fl fs

theorem PkIn.below {W W' : World} {D : Nat} {nm : List UInt8} {ia : Option Addr} {il ic : Nat} {fa : Option Addr} {fl fc : Nat} {ims : List (List UInt8)} {fs : List Fn} (h : PkIn W D nm ia il ic fa fl fc ims fs) (hb : Below W.heap.size W W') : PkIn W' D nm ia il ic fa fl fc ims fs :=
  have hl : D < W.heap.size := World.block_lt_of_cell? W ⟨D, 0, none⟩ h.k0
  ⟨(hb.cell (p := ⟨D, 0, none⟩) hl).trans h.k0, (hb.cell (p := ⟨D, 1, none⟩) hl).trans h.k1, (hb.cell (p := ⟨D, 2, none⟩) hl).trans h.k2, h.i.below hb, h.f.below hb⟩

theorem PkIn.drew {W : World} {D : Nat} {nm : List UInt8} {ia : Option Addr} {il ic : Nat} {fa : Option Addr} {fl fc : Nat} {ims : List (List UInt8)} {fs : List Fn} (h : PkIn W D nm ia il ic fa fl fc ims fs) : PkIn W.drew D nm ia il ic fa fl fc ims fs := ⟨h.k0, h.k1, h.k2, h.i, h.f⟩

theorem PkIn.new {w : World} {nm : List UInt8} {ia : Option Addr} {il ic : Nat} {fa : Option Addr} {fl fc : Nat} {ims : List (List UInt8)} {fs : List Fn} (hi : TextsIn w ia il ims) (hf : FuncsIn w fa fl fs) :
    PkIn (w.alloc (.cells #[.string ⟨nm.toArray⟩, .slice ia il ic, .slice fa fl fc] 117)) w.heap.size nm ia il ic fa fl fc ims fs ∧ Below w.heap.size w (w.alloc (.cells #[.string ⟨nm.toArray⟩, .slice ia il ic, .slice fa fl fc] 117)) := by
  have hb : Below w.heap.size w (w.alloc (.cells #[.string ⟨nm.toArray⟩, .slice ia il ic, .slice fa fl fc] 117)) := (Below.refl _ _).alloc (Nat.le_refl _) _
  have hA := heap_alloc_new w (.cells #[.string ⟨nm.toArray⟩, .slice ia il ic, .slice fa fl fc] 117)
  generalize w.alloc (.cells #[.string ⟨nm.toArray⟩, .slice ia il ic, .slice fa fl fc] 117) = W at hb hA ⊢
  exact ⟨⟨by simp [World.cell?, hA], by simp [World.cell?, hA], by simp [World.cell?, hA], hi.below hb, hf.below hb⟩, hb⟩

theorem pkgB_head (p : Pk) (h : (nameB p.1 && (importsB p.2.1 && inB (p.2.2.length : Int) 1 8)) = false) : pkgB p = false := by unfold pkgB; rw [h]; rfl
theorem pkgB_no (p : Pk) {j : Nat} (hj : j < p.2.2.length) (h : ¬ funcsOk p.2.2 j) : pkgB p = false := by unfold pkgB; rw [decide_eq_false (fun g => h (g j hj)), Bool.and_false]
theorem pkgB_yes (p : Pk) (h : (nameB p.1 && (importsB p.2.1 && inB (p.2.2.length : Int) 1 8)) = true) (k : ∀ i, i < p.2.2.length → funcsOk p.2.2 i) : pkgB p = true := by unfold pkgB; rw [h, decide_eq_true k]; rfl


end Go.Proofs.Ytnflkecnddbhoaa
