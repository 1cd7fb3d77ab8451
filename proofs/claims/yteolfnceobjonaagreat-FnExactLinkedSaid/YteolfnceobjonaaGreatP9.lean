/-
  Parts of one proof, one behind the other: RtL, InsZ, RtIn, ImgK, Math14L, Math15, RtE.
-/
import Derived.Test.YteolfnceobjonaaGreatP8
import Derived.SliceStrings
import Derived.Test.YteolfnceobjonaaGreatP4
import Derived.Deep.RegionHeld3

/-! The laws' own helpers over routines: szRoutine, szRoutineS. -/
namespace Go.Proofs.YteolfnceobjonaaGreat
open Go.RowKit

def szR (m : Nat) (left : Int) : Int := if (m : Int) ≤ left then left - (m : Int) else -1
theorem szR_yes {m : Nat} {left : Int} (h : (m : Int) ≤ left) : szR m left = left - (m : Int) := by unfold szR; rw [if_pos h]
theorem szR_no {m : Nat} {left : Int} (h : ¬ (m : Int) ≤ left) : szR m left = -1 := by unfold szR; rw [if_neg h]

def rtSz (f : Rt) : Nat := f.1.length + (f.2.2.length + textsI f.2.2)
def rtsSz : List Rt → Nat
  | [] => 0
  | f :: r => rtSz f + rtsSz r
theorem rtsSz_append (x y : List Rt) : rtsSz (x ++ y) = rtsSz x + rtsSz y := by
  induction x with
  | nil => simp [rtsSz]
  | cons n r ih => simp only [List.cons_append, rtsSz, ih]; omega
theorem rtsSz_snoc (fs : List Rt) (k : Nat) (hk : k < fs.length) : rtsSz (fs.take (k + 1)) = rtsSz (fs.take k) + rtSz (fs.getD k rt0) := by
  have hg : fs.getD k rt0 = fs[k] := by simp [List.getD, hk]
  rw [hg, List.take_succ_eq_append_getElem hk, rtsSz_append]
  simp [rtsSz]
theorem rtsSz_take (fs : List Rt) (k : Nat) : rtsSz (fs.take k) ≤ rtsSz fs := by
  have := rtsSz_append (fs.take k) (fs.drop k)
  rw [List.take_append_drop] at this
  omega
theorem rtsSz_at (fs : List Rt) (j : Nat) : rtSz (fs.getD j rt0) ≤ rtsSz fs := by
  by_cases hj : j < fs.length
  · have h1 := rtsSz_snoc fs j hj
    have h2 := rtsSz_take fs (j + 1)
    omega
  · have : fs.getD j rt0 = rt0 := by rw [List.getD, List.getElem?_eq_none (by omega)]; rfl
    rw [this]; simp [rt0, rtSz, textsI]

def LongR (fs : List Rt) : Prop := ∀ j, (fs.getD j rt0).1.length ≤ maxLen ∧ (fs.getD j rt0).2.2.length ≤ maxLen ∧ LongI (fs.getD j rt0).2.2

theorem shortR_of {fs : List Rt} (h : rtsSz fs ≤ 1048576) : ShortR fs := fun j => by
  have h1 := rtsSz_at fs j
  unfold rtSz at h1
  exact ⟨by omega, by omega, shortI_of (by omega)⟩

set_option maxHeartbeats 1000000 in
set_option maxRecDepth 100000 in
theorem szRoutineC (s : List UInt8) (n : Int) (t : List In13) (ta : Option Addr) (tl tc : Nat) (left : Int) (w : World) (hin : InsIn w ta tl t) (h0 : 0 ≤ left) (h1 : left ≤ 1048576) (hs : s.length ≤ maxLen) (ht : t.length ≤ maxLen) (hm : LongI t) :
    Calls Tryz.prog 99 #[.agg #[.string ⟨s.toArray⟩, .int .i64 n, .slice ta tl tc], .int .i64 left] w fun e w' => e = .returned (.int .i64 (szR (rtSz (s, n, t)) left)) ∧ Below w.heap.size w w' := by
  obtain rfl : t.length = tl := hin.1
  unfold maxLen at hs
  have hs2 : (s.length : Int) ≤ 9223372036854775807 := by omega
  obtain ⟨W, hW⟩ : ∃ W, w.alloc (.cells #[.string ⟨s.toArray⟩, .int .i64 n, .slice ta t.length tc] 132) = W := ⟨_, rfl⟩
  have hbW : Below w.heap.size w W := by rw [← hW]; exact (Below.refl _ _).alloc (Nat.le_refl _) _
  have hA : W.heap[w.heap.size]? = some (.cells #[.string ⟨s.toArray⟩, .int .i64 n, .slice ta t.length tc] 132) := by rw [← hW]; exact heap_alloc_new w _
  have k0 : W.cell? ⟨w.heap.size, 0, none⟩ = some (.string ⟨s.toArray⟩) := by simp [World.cell?, hA]
  have k2 : W.cell? ⟨w.heap.size, 2, none⟩ = some (.slice ta t.length tc) := by simp [World.cell?, hA]
  have hinW := hin.below hbW
  clear hin hA
  by_cases hfit : (s.length : Int) ≤ left
  · have HC := szInsSC ta t.length tc t (left - (s.length : Int)) W hinW (by omega) (by omega) ht hm
    by_cases hfit2 : (t.length : Int) + (textsI t : Int) ≤ left - (s.length : Int)
    · have HZ : Hid (szN t.length (textsI t) (left - (s.length : Int)) = szR (rtSz (s, n, t)) left) := by exact (by rw [szN_yes hfit2, szR_yes (by unfold rtSz; simp only; omega)]; unfold rtSz; simp only; omega : szN t.length (textsI t) (left - (s.length : Int)) = szR (rtSz (s, n, t)) left)
      have hge : 0 ≤ szR (rtSz (s, n, t)) left := by rw [← HZ.out, szN_yes hfit2]; omega
      have hge2 : 0 ≤ left - (s.length : Int) := by omega
      rw [HZ.out] at HC
      generalize szR (rtSz (s, n, t)) left = z at HC hge ⊢
      clear HZ
      go_enter Tryz.func99, Tryz.ntmps99
      go_wp2_with fail
      refine HC.mono ?_
      rintro e w1 ⟨rfl, hb1⟩
      have hb : Below w.heap.size w w1 := hbW.trans (hb1.mono hbW.size)
      clear HC hb1
      go_wp2
      go_ret
      exact ⟨rfl, hb⟩
    · have HZ : Hid (szN t.length (textsI t) (left - (s.length : Int)) = -1) := szN_no hfit2
      have HR : Hid (szR (rtSz (s, n, t)) left = -1) := szR_no (by unfold rtSz; simp only; omega)
      have hge2 : 0 ≤ left - (s.length : Int) := by omega
      rw [HZ.out] at HC
      go_enter Tryz.func99, Tryz.ntmps99
      go_wp2_with fail
      refine HC.mono ?_
      rintro e w1 ⟨rfl, hb1⟩
      have hb : Below w.heap.size w w1 := hbW.trans (hb1.mono hbW.size)
      clear HC hb1
      go_wp2
      go_ret
      exact ⟨by rw [HR.out]; rfl, hb⟩
  · have HR : Hid (szR (rtSz (s, n, t)) left = -1) := szR_no (by unfold rtSz; simp only; omega)
    have hlt : left - (s.length : Int) < 0 := by omega
    go_enter Tryz.func99, Tryz.ntmps99
    go_wp2
    go_ret
    exact ⟨by rw [HR.out]; rfl, hbW⟩

set_option maxHeartbeats 2000000 in
set_option maxRecDepth 100000 in
theorem szRoutineSC (a : Option Addr) (len cap : Nat) (fs : List Rt) (left : Int) (w : World) (hin : RtsIn w a len fs) (h0 : 0 ≤ left) (h1 : left ≤ 1048576) (hl : len ≤ maxLen) (hm : LongR fs) :
    Calls Tryz.prog 62 #[.slice a len cap, .int .i64 left] w fun e w' => e = .returned (.int .i64 (szR (len + rtsSz fs) left)) ∧ Below w.heap.size w w' := by
  unfold maxLen at hl
  have hl2 : (len : Int) ≤ 9223372036854775807 := by omega
  have hlb := hin.1
  by_cases h : (len : Int) ≤ left
  · have hlen : len ≤ 1048576 := by omega
    have HI : Hid (RtsIn w a len fs) := hin
    have HM : Hid (LongR fs) := hm
    clear hin hm
    go_enter Tryz.func62, Tryz.ntmps62
    go_wp2
    go_loopw [1, 5] (fun l i wr => ∃ k : Nat, k ≤ len ∧ i = .int .i64 k ∧ l = .int .i64 (left - (len : Int) - (rtsSz (fs.take k) : Int)) ∧ (rtsSz (fs.take k) : Int) ≤ left - (len : Int) ∧ Below w.heap.size w wr) (fun _ i _ => len - (intOf i).toNat)
    case atStart => exact ⟨0, Nat.zero_le _, rfl, by simp [rtsSz], by simp [rtsSz]; omega, Below.refl _ _⟩
    case round =>
      obtain ⟨k, hk, rfl, rfl, hle, hB⟩ := hrel
      by_cases hkl : (k : Int) < (len : Int)
      · obtain ⟨b, off, rfl, hbl, c0, c1, ta, tl, tc, c2, hnin⟩ := (HI.out.below hB).2 k (by omega)
        have hmk := HM.out k
        have hst := rtsSz_snoc fs k (by omega)
        have htt := rtsSz_take fs (k + 1)
        obtain ⟨f, hf⟩ : ∃ f, fs.getD k rt0 = f := ⟨_, rfl⟩
        rw [hf] at c0 c1 hmk hst hnin
        obtain ⟨s, n, t⟩ := f
        simp only at c0 c1 hmk hnin
        obtain ⟨m, hmm⟩ : ∃ m, rtsSz (fs.take k) = m := ⟨_, rfl⟩
        rw [hmm] at hle hst ⊢
        obtain ⟨z, hz⟩ : ∃ z, rtSz (s, n, t) = z := ⟨_, rfl⟩
        have HC := szRoutineC s n t ta tl tc (left - (len : Int) - (m : Int)) wr hnin (by omega) (by omega) hmk.1 hmk.2.1 hmk.2.2
        rw [hz] at hst HC
        have HS : Hid (rtsSz (fs.take (k + 1)) = m + z) := hst
        clear hst hf hmm hz hnin
        by_cases hfit : (z : Int) ≤ left - (len : Int) - (m : Int)
        · have HZ : Hid (szR z (left - (len : Int) - (m : Int)) = left - (len : Int) - (rtsSz (fs.take (k + 1)) : Int)) := by
            exact (by rw [HS.out, szR_yes (by omega)]; omega : szR z (left - (len : Int) - (m : Int)) = left - (len : Int) - (rtsSz (fs.take (k + 1)) : Int))
          rw [HZ.out] at HC
          go_wp2_with fail
          refine HC.mono ?_
          rintro e w1 ⟨rfl, hb1⟩
          have hle2 : (rtsSz (fs.take (k + 1)) : Int) ≤ left - (len : Int) := by rw [HS.out]; omega
          have hge : (0 : Int) ≤ left - (len : Int) - (rtsSz (fs.take (k + 1)) : Int) := by omega
          clear HC
          go_wp2
          go_roundw
          case rel => exact ⟨k + 1, by omega, by go_num, rfl, hle2, hB.trans (hb1.mono hB.size)⟩
          case measure => simp [intOf]; omega
        · have HZ : Hid (szR z (left - (len : Int) - (m : Int)) = -1) := szR_no (by omega)
          have HR : Hid (szR (len + rtsSz fs) left = -1) := szR_no (by have := HS.out; omega)
          rw [HZ.out] at HC
          go_wp2_with fail
          refine HC.mono ?_
          rintro e w1 ⟨rfl, hb1⟩
          clear HC
          go_wp2
          go_ret
          exact ⟨by rw [HR.out]; rfl, hB.trans (hb1.mono hB.size)⟩
      · have HT : Hid (fs.take k = fs) := List.take_of_length_le (by omega)
        have HR : Hid (szR (len + rtsSz fs) left = left - (len : Int) - (rtsSz (fs.take k) : Int)) := by exact (by rw [HT.out] at hle ⊢; rw [szR_yes (by omega)]; omega : szR (len + rtsSz fs) left = left - (len : Int) - (rtsSz (fs.take k) : Int))
        go_wp2
        go_ret
        exact ⟨by rw [HR.out]; rfl, hB⟩
  · have HR : Hid (szR (len + rtsSz fs) left = -1) := szR_no (by omega)
    clear hin hm
    go_enter Tryz.func62, Tryz.ntmps62
    go_wp2
    go_ret
    exact ⟨by rw [HR.out]; rfl, Below.refl _ _⟩

end Go.Proofs.YteolfnceobjonaaGreat

/-! A row of instructions that came in. -/
namespace Go.Proofs.YteolfnceobjonaaGreat
open Go.ChangeShapes Go.WideShapes Go.ChangeAt Go.RowKit Go.Joins Go.Deep

end Go.Proofs.YteolfnceobjonaaGreat

/-! An image that came in, as the walks take it. -/
namespace Go.Proofs.YteolfnceobjonaaGreat
open Go.ChangeShapes Go.WideShapes Go.ChangeAt Go.RowKit Go.Joins Go.Deep

def IntR (rs : List Rt) : Prop := ∀ j, (-9223372036854775808 ≤ (rs.getD j rt0).2.1 ∧ (rs.getD j rt0).2.1 ≤ 9223372036854775807) ∧ IntIs (rs.getD j rt0).2.2
theorem intIs_nil : IntIs [] := fun j => by rw [show ([] : List In13).getD j in0 = in0 by simp]; exact intI_in0
section
variable {H : Type} {enc : TypeId × Value → H} {W : World} {base : Nat} {spare : Nat → Bool} {held : Bool} {fuel : Nat} {v : Value} {x : DataW H × List MemPlace}
set_option maxRecDepth 100000 in
theorem trod_inss (hf : DataW.trod enc Tryz.prog W base spare held fuel 130 [v] = some x) :
    ∃ a len cap ns, v = .slice a len cap ∧ InsIn W a len ns ∧ len ≤ maxLen ∧ LongI ns ∧ IntIs ns := by
  rcases open_slice Tryz.underlying130 hf with ⟨hcs, _⟩ | ⟨a, len, cap, q, n, D, Pl, hcs, _, hl, hm, hq, _, hx⟩
  · simp at hcs
    subst hcs
    exact ⟨none, 0, 0, [], rfl, ⟨rfl, fun j hj => by omega⟩, by decide, (fun j => by simp [in0]), (fun j => by rw [show ([] : List In13).getD j in0 = in0 by simp]; exact intI_in0)⟩
  · simp at hcs
    subst hcs
    have hlq : len ≤ q := by rw [hq]; split <;> omega
    have each : ∀ i, i < len → ∃ x : In13, W.cell? (a.add (i * 5)) = some (.int .i64 x.1) ∧ W.cell? (a.add (i * 5 + 1)) = some (.int .i64 x.2.1) ∧ W.cell? (a.add (i * 5 + 2)) = some (.int .i64 x.2.2.1) ∧ W.cell? (a.add (i * 5 + 3)) = some (.int .i64 x.2.2.2.1) ∧ W.cell? (a.add (i * 5 + 4)) = some (.string ⟨x.2.2.2.2.toArray⟩) ∧ x.2.2.2.2.length ≤ maxLen ∧ IntI x := by
      intro i hi
      obtain ⟨cs', h1, h2⟩ := hx i (by omega)
      rw [cellsIns] at h1
      obtain ⟨_, hlen, hcell⟩ := World.cells?_some h1
      match cs', hlen with
      | [v0, v1, v2, v3, v4], _ =>
        obtain ⟨xs, k, _, _, _, hxl, hxx⟩ := DataW.trod_struct Tryz.underlying216 h2
        match xs, hxl with
        | [y0, y1, y2, y3, y4], _ =>
          have t0 := hxx 0 _ rfl
          have t1 := hxx 1 _ rfl
          have t2 := hxx 2 _ rfl
          have t3 := hxx 3 _ rfl
          have t4 := hxx 4 _ rfl
          obtain ⟨k0, e0, _, w0⟩ := DataW.trod_int Tryz.underlying2 t0
          obtain ⟨k1, e1, _, w1⟩ := DataW.trod_int Tryz.underlying2 t1
          obtain ⟨k2, e2, _, w2⟩ := DataW.trod_int Tryz.underlying2 t2
          obtain ⟨k3, e3, _, w3⟩ := DataW.trod_int Tryz.underlying2 t3
          obtain ⟨s4, e4, _, z4⟩ := DataW.trod_string Tryz.underlying9 t4
          simp [cells2] at e0 e1 e2 e3
          simp [cells9] at e4
          subst e0 e1 e2 e3 e4
          have g0 := hcell 0 (by omega)
          have g1 := hcell 1 (by omega)
          have g2 := hcell 2 (by omega)
          have g3 := hcell 3 (by omega)
          have g4 := hcell 4 (by omega)
          rw [add_add] at g0 g1 g2 g3 g4
          exact ⟨(k0, k1, k2, k3, s4.data.toList), by simpa using g0, by simpa using g1, by simpa using g2, by simpa using g3, by simpa using g4, z4, ⟨bounds_i64 w0, bounds_i64 w1, bounds_i64 w2, bounds_i64 w3⟩⟩
    obtain ⟨f, hf2⟩ := choose_lt each
    refine ⟨some a, len, cap, (List.range len).map f, rfl, ⟨by simp, fun j hj => ?_⟩, by omega, (fun j => ?_), (fun j => ?_)⟩
    rotate_left
    · by_cases hj : j < len
      · have hg : ((List.range len).map f).getD j in0 = f j := by simp [List.getD, hj]
        rw [hg]; exact (hf2 j hj).2.2.2.2.2.1
      · have hg : ((List.range len).map f).getD j in0 = in0 := by simp [List.getD, hj]
        rw [hg]; simp [in0]
    · by_cases hj : j < len
      · have hg : ((List.range len).map f).getD j in0 = f j := by simp [List.getD, hj]
        rw [hg]; exact (hf2 j hj).2.2.2.2.2.2
      · have hg : ((List.range len).map f).getD j in0 = in0 := by simp [List.getD, hj]
        rw [hg]; exact intI_in0
    obtain ⟨c0, c1, c2, c3, c4, _, _⟩ := hf2 j hj
    have hsp : a.spot = none := by
      have h0 := (hf2 0 (by omega)).1
      simpa [Addr.add] using World.cell?_spot h0
    obtain ⟨b, off, spot⟩ := a
    simp at hsp
    subst hsp
    have e : ∀ i, (⟨b, off, none⟩ : Addr).add i = ⟨b, off + i, none⟩ := fun i => by unfold Addr.add; split <;> simp_all
    rw [e] at c0 c1 c2 c3 c4
    have hg : ((List.range len).map f).getD j in0 = f j := by simp [List.getD, hj]
    rw [hg]
    exact ⟨b, off, rfl, World.block_lt_of_cell? W ⟨b, off + j * 5, none⟩ c0, c0, by rw [Nat.add_assoc]; exact c1, by rw [Nat.add_assoc]; exact c2, by rw [Nat.add_assoc]; exact c3, by rw [Nat.add_assoc]; exact c4⟩
theorem cellsRt : Tryz.prog.cellsOf 132 = 3 := by kernel_rfl
set_option maxRecDepth 100000 in
theorem trod_rts (hf : DataW.trod enc Tryz.prog W base spare held fuel 57 [v] = some x) :
    ∃ a len cap fs, v = .slice a len cap ∧ RtsIn W a len fs ∧ len ≤ maxLen ∧ LongR fs ∧ IntR fs := by
  rcases open_slice Tryz.underlying57 hf with ⟨hcs, _⟩ | ⟨a, len, cap, q, n, D, Pl, hcs, _, hl, hm, hq, _, hx⟩
  · simp at hcs
    subst hcs
    exact ⟨none, 0, 0, [], rfl, ⟨rfl, fun j hj => by omega⟩, by decide, (fun j => by simp [rt0, LongI, in0]), (fun j => ⟨by simp [rt0], intIs_nil⟩)⟩
  · simp at hcs
    subst hcs
    have hlq : len ≤ q := by rw [hq]; split <;> omega
    have each : ∀ i, i < len → ∃ y : Rt, W.cell? (a.add (i * 3)) = some (.string ⟨y.1.toArray⟩) ∧ W.cell? (a.add (i * 3 + 1)) = some (.int .i64 y.2.1) ∧
        (∃ ta tl tc, W.cell? (a.add (i * 3 + 2)) = some (.slice ta tl tc) ∧ InsIn W ta tl y.2.2) ∧ (y.1.length ≤ maxLen ∧ y.2.2.length ≤ maxLen ∧ LongI y.2.2) ∧ ((-9223372036854775808 ≤ y.2.1 ∧ y.2.1 ≤ 9223372036854775807) ∧ IntIs y.2.2) := by
      intro i hi
      obtain ⟨cs', h1, h2⟩ := hx i (by omega)
      rw [cellsRt] at h1
      obtain ⟨_, hlen, hcell⟩ := World.cells?_some h1
      match cs', hlen with
      | [v0, v1, v2], _ =>
        obtain ⟨y0, y1, y2, k, _, _, t0, t1, t2⟩ := trod_struct3 Tryz.underlying132 h2
        have k2 : Tryz.prog.cellsOf 2 = 1 := by kernel_rfl
        have k9 : Tryz.prog.cellsOf 9 = 1 := by kernel_rfl
        have kn : Tryz.prog.cellsOf 130 = 1 := by kernel_rfl
        simp [k2, k9, kn] at t0 t1 t2
        obtain ⟨s0, e0, _, z0⟩ := DataW.trod_string Tryz.underlying9 t0
        obtain ⟨aa, e1, _, wa⟩ := DataW.trod_int Tryz.underlying2 t1
        obtain ⟨ta, tl, tc, ns, e2, hns, hnl, hlt, hit⟩ := trod_inss t2
        simp at e0 e1
        subst e0 e1 e2
        have g0 := hcell 0 (by omega)
        have g1 := hcell 1 (by omega)
        have g2 := hcell 2 (by omega)
        rw [add_add] at g0 g1 g2
        exact ⟨(s0.data.toList, aa, ns), by simpa using g0, by simpa using g1, ⟨ta, tl, tc, by simpa using g2, hns⟩, ⟨z0, by rw [show ((s0.data.toList, aa, ns) : Rt).2.2 = ns from rfl, hns.1]; exact hnl, hlt⟩, ⟨bounds_i64 wa, hit⟩⟩
    obtain ⟨f, hf2⟩ := choose_lt each
    refine ⟨some a, len, cap, (List.range len).map f, rfl, ⟨by simp, fun j hj => ?_⟩, by omega, (fun j => ?_), (fun j => ?_)⟩
    rotate_left
    · by_cases hj : j < len
      · have hg : ((List.range len).map f).getD j rt0 = f j := by simp [List.getD, hj]
        rw [hg]; exact (hf2 j hj).2.2.2.1
      · have hg : ((List.range len).map f).getD j rt0 = rt0 := by simp [List.getD, hj]
        rw [hg]; simp [rt0, LongI, in0]
    · by_cases hj : j < len
      · have hg : ((List.range len).map f).getD j rt0 = f j := by simp [List.getD, hj]
        rw [hg]; exact (hf2 j hj).2.2.2.2
      · have hg : ((List.range len).map f).getD j rt0 = rt0 := by simp [List.getD, hj]
        rw [hg]; exact ⟨by simp [rt0], intIs_nil⟩
    obtain ⟨c0, c1, ⟨ta, tl, tc, c2, hns⟩, _, _⟩ := hf2 j hj
    have hsp : a.spot = none := by
      have h0 := (hf2 0 (by omega)).1
      simpa [Addr.add] using World.cell?_spot h0
    obtain ⟨b, off, spot⟩ := a
    simp at hsp
    subst hsp
    have e : ∀ i, (⟨b, off, none⟩ : Addr).add i = ⟨b, off + i, none⟩ := fun i => by unfold Addr.add; split <;> simp_all
    rw [e] at c0 c1 c2
    have hg : ((List.range len).map f).getD j rt0 = f j := by simp [List.getD, hj]
    rw [hg]
    exact ⟨b, off, rfl, World.block_lt_of_cell? W ⟨b, off + j * 3, none⟩ c0, c0, by rw [Nat.add_assoc]; exact c1, ta, tl, tc, by rw [Nat.add_assoc]; exact c2, hns⟩
end

end Go.Proofs.YteolfnceobjonaaGreat

/-! What the landed functions of chapter 14 are told of an image. -/
namespace Go.Proofs.YteolfnceobjonaaGreat
open Go.RowKit

/-- The routines rs lie at a, and so does the room of each row. -/
def RtsCap (w : World) (a : Option Addr) (len cap : Nat) (rs : List Rt) : Prop :=
  rs.length = len ∧ len ≤ cap ∧ cap ≤ maxLen ∧ ∀ j, j < len → ∃ b off, a = some ⟨b, off, none⟩ ∧ b < w.heap.size ∧ w.cell? ⟨b, off + j * 3, none⟩ = some (.string ⟨(rs.getD j rt0).1.toArray⟩) ∧ w.cell? ⟨b, off + j * 3 + 1, none⟩ = some (.int .i64 (rs.getD j rt0).2.1) ∧
    ∃ ca cl cc, w.cell? ⟨b, off + j * 3 + 2, none⟩ = some (.slice ca cl cc) ∧ InsIn w ca cl (rs.getD j rt0).2.2 ∧ cl ≤ cc ∧ cc ≤ maxLen
theorem RtsCap.in {w : World} {a : Option Addr} {len cap : Nat} {rs : List Rt} (h : RtsCap w a len cap rs) : RtsIn w a len rs := by
  refine ⟨h.1, fun j hj => ?_⟩
  obtain ⟨b, off, e, hl, c0, c1, ca, cl, cc, c2, hn, _, _⟩ := h.2.2.2 j hj
  exact ⟨b, off, e, hl, c0, c1, ca, cl, cc, c2, hn⟩
theorem RtsCap.below {w w' : World} {a : Option Addr} {len cap : Nat} {rs : List Rt} (h : RtsCap w a len cap rs) (hb : Below w.heap.size w w') : RtsCap w' a len cap rs := by
  refine ⟨h.1, h.2.1, h.2.2.1, fun j hj => ?_⟩
  obtain ⟨b, off, e, hlt, c0, c1, ca, cl, cc, c2, hn, h1, h2⟩ := h.2.2.2 j hj
  exact ⟨b, off, e, Nat.lt_of_lt_of_le hlt hb.size, (hb.cell (p := ⟨b, off + j * 3, none⟩) hlt).trans c0, (hb.cell (p := ⟨b, off + j * 3 + 1, none⟩) hlt).trans c1, ca, cl, cc, (hb.cell (p := ⟨b, off + j * 3 + 2, none⟩) hlt).trans c2, hn.below hb, h1, h2⟩
structure RtOk (w : World) (a : Option Addr) (len cap : Nat) (rs : List Rt) : Prop where
  c : RtsCap w a len cap rs
  i : IntR rs
  s : ShortR rs
  l : len ≤ 1048576
theorem RtOk.below {w w' : World} {a : Option Addr} {len cap : Nat} {rs : List Rt} (h : RtOk w a len cap rs) (hb : Below w.heap.size w w') : RtOk w' a len cap rs := ⟨h.c.below hb, h.i, h.s, h.l⟩
theorem own_capR {w : World} {base e size n c : Nat} {a : Option Addr} {xs : List Value} (h : w.ownsRow base e size (.slice a n c) n xs) : n ≤ c ∧ c ≤ maxLen := by
  rcases h.2 with ⟨h', _⟩ | ⟨g', cap', cur, h', _, _, hnc, hcm, _⟩
  · injection h' with _ h1 h2
    subst h1 h2
    exact ⟨Nat.le_refl _, Nat.zero_le _⟩
  · injection h' with _ _ h2
    omega
/-- What is owned lies so. -/
theorem RtsOwn.cap {w : World} {base n c : Nat} {a : Option Addr} {xs : List RV} {rs : List Rt} (h : RtsOwn w base (.slice a n c) xs) (hx : xs.map (·.1) = rs) (hn : rs.length = n) : RtsCap w a n c rs := by
  have hxl : xs.length = n := by rw [← hn, ← hx, List.length_map]
  obtain ⟨a', c', e, _, hin⟩ := h.in
  rw [hx, hxl] at hin
  rw [hxl] at e
  injection e with e1 _ e3
  subst e1 e3
  have hrow := h.row
  rw [hxl] at hrow
  have hc := own_capR hrow
  refine ⟨hin.1, hc.1, hc.2, fun j hj => ?_⟩
  obtain ⟨b, off, e, hlt, c0, c1, ca, cl, cc, c2, hn2⟩ := hin.2 j hj
  refine ⟨b, off, e, hlt, c0, c1, ca, cl, cc, c2, hn2, ?_⟩
  subst e
  obtain ⟨g, cp, e2⟩ := own_some hrow (by omega)
  injection e2 with e3 _ _
  injection e3 with e3
  injection e3 with e4 e5 _
  subst e4 e5
  have hmem : xs.getD j rv0 ∈ xs := by rw [List.getD_eq_getElem?_getD, List.getElem?_eq_getElem (by omega)]; exact List.getElem_mem (by omega)
  have ht := h.trees _ hmem
  obtain ⟨_, _, v2⟩ := rtsV_at xs j (by omega)
  have h2 := hrow.cellAt (j * 3 + 2) (by omega)
  rw [v2] at h2
  rw [Nat.zero_add] at c2
  rw [c2] at h2
  injection h2 with h2
  unfold rvT at h2 ht
  injection h2 with h3 h4 h5
  subst h3 h4 h5
  exact own_capR ht

end Go.Proofs.YteolfnceobjonaaGreat

/-! Plain facts of chapter 14: lines read loosely, as the landed code reads them. -/
namespace Go.Proofs.YteolfnceobjonaaGreat
open Go.RowKit

theorem mem_getL {c : List In13} {k : Nat} (hk : k < c.length) : c.getD k in0 ∈ c := by rw [List.getD_eq_getElem?_getD, List.getElem?_eq_getElem hk]; exact List.getElem_mem hk
noncomputable def insLo (ws : List (List UInt8)) : In13 := if ws.length = 5 then (numV (ws.getD 0 []), numV (ws.getD 1 []), numV (ws.getD 2 []), numV (ws.getD 3 []), if ws.getD 4 [] = [45] then [] else ws.getD 4 []) else in0
noncomputable def rtLo (out : List Rt) (x : List UInt8) : List Rt :=
  if (wordsL x).length = 4 ∧ (wordsL x).getD 0 [] = kwRt then out ++ [((wordsL x).getD 1 [], numV ((wordsL x).getD 2 []), [])]
  else if out = [] then [] else addI out (insLo (wordsL x))
noncomputable def loI (out : List Rt) (ls : List (List UInt8)) : List Rt := ls.foldl rtLo out
/-- How great what is read may be. -/
structure LoR (n : Nat) (rs : List Rt) : Prop where
  l : rs.length ≤ n
  c : ∀ r ∈ rs, r.1.length ≤ 1048576 ∧ (-2147483648 ≤ r.2.1 ∧ r.2.1 ≤ 2147483647) ∧ r.2.2.length ≤ n ∧ ∀ i ∈ r.2.2, ((-2147483648 ≤ i.1 ∧ i.1 ≤ 2147483647) ∧ (-2147483648 ≤ i.2.1 ∧ i.2.1 ≤ 2147483647) ∧ (-2147483648 ≤ i.2.2.1 ∧ i.2.2.1 ≤ 2147483647) ∧ (-2147483648 ≤ i.2.2.2.1 ∧ i.2.2.2.1 ≤ 2147483647)) ∧ i.2.2.2.2.length ≤ 1048576
theorem LoR.nil (n : Nat) : LoR n [] := ⟨Nat.zero_le _, fun r hr => by cases hr⟩
theorem word_lenI (x : List UInt8) (j : Nat) : ((wordsL x).getD j []).length ≤ x.length := by
  by_cases hx : x = []
  · subst hx; simp [wordsL]
  · have hw : wordsL x = splitL 32 x := by unfold wordsL; rw [if_neg hx]
    rw [hw]
    exact split_part 32 x j
theorem insLo_bd (x : List UInt8) (hx : x.length ≤ 1048576) : ((-2147483648 ≤ (insLo (wordsL x)).1 ∧ (insLo (wordsL x)).1 ≤ 2147483647) ∧ (-2147483648 ≤ (insLo (wordsL x)).2.1 ∧ (insLo (wordsL x)).2.1 ≤ 2147483647) ∧ (-2147483648 ≤ (insLo (wordsL x)).2.2.1 ∧ (insLo (wordsL x)).2.2.1 ≤ 2147483647) ∧ (-2147483648 ≤ (insLo (wordsL x)).2.2.2.1 ∧ (insLo (wordsL x)).2.2.2.1 ≤ 2147483647)) ∧ (insLo (wordsL x)).2.2.2.2.length ≤ 1048576 := by
  have h4 := word_lenI x 4
  unfold insLo
  split
  · refine ⟨⟨numV_bd _, numV_bd _, numV_bd _, numV_bd _⟩, ?_⟩
    simp only
    split
    · simp
    · omega
  · simp [in0]
theorem LoR.step {n : Nat} {rs : List Rt} (h : LoR n rs) (x : List UInt8) (hx : x.length ≤ 1048576) : LoR (n + 1) (rtLo rs x) := by
  unfold rtLo
  split
  · refine ⟨by rw [List.length_append, List.length_singleton]; have := h.l; omega, fun r hr => ?_⟩
    rcases List.mem_append.1 hr with e | e
    · have := h.c r e; exact ⟨this.1, this.2.1, by have := this.2.2.1; omega, this.2.2.2⟩
    · rw [List.mem_singleton.1 e]
      exact ⟨by have := word_lenI x 1; simp only; omega, numV_bd _, by simp, fun i hi => by cases hi⟩
  · split
    · exact LoR.nil _
    · rename_i hne
      have hm : rs.getLastD rt0 ∈ rs := by
        rw [List.getLastD_eq_getLast?, List.getLast?_eq_some_getLast hne]
        exact List.getLast_mem hne
      have hl := h.c _ hm
      unfold addI
      refine ⟨by rw [List.length_append, List.length_dropLast, List.length_singleton]; have := h.l; omega, fun r hr => ?_⟩
      rcases List.mem_append.1 hr with e | e
      · have := h.c r (List.dropLast_subset _ e); exact ⟨this.1, this.2.1, by have := this.2.2.1; omega, this.2.2.2⟩
      · rw [List.mem_singleton.1 e]
        refine ⟨hl.1, hl.2.1, by simp only [List.length_append, List.length_singleton]; have := hl.2.2.1; omega, fun i hi => ?_⟩
        rcases List.mem_append.1 hi with e2 | e2
        · exact hl.2.2.2 i e2
        · rw [List.mem_singleton.1 e2]; exact insLo_bd x hx
theorem LoR.ok {n : Nat} {rs : List Rt} (h : LoR n rs) (hn : n ≤ 1048576) : IntR rs ∧ ShortR rs := by
  refine ⟨fun j => ?_, fun j => ?_⟩
  · by_cases hj : j < rs.length
    · have hm : rs.getD j rt0 ∈ rs := by rw [List.getD_eq_getElem?_getD, List.getElem?_eq_getElem hj]; exact List.getElem_mem hj
      have hc := h.c _ hm
      refine ⟨by omega, fun k => ?_⟩
      by_cases hk : k < (rs.getD j rt0).2.2.length
      · have hi := hc.2.2.2 _ (mem_getL hk)
        unfold IntI
        omega
      · rw [List.getD_eq_getElem?_getD, List.getElem?_eq_none (by omega)]; exact intI_in0
    · have e : rs.getD j rt0 = rt0 := by rw [List.getD_eq_getElem?_getD, List.getElem?_eq_none (by omega)]; rfl
      rw [e]
      exact ⟨by simp [rt0], intIs_nil⟩
  · by_cases hj : j < rs.length
    · have hm : rs.getD j rt0 ∈ rs := by rw [List.getD_eq_getElem?_getD, List.getElem?_eq_getElem hj]; exact List.getElem_mem hj
      have hc := h.c _ hm
      refine ⟨hc.1, by omega, fun k => ?_⟩
      by_cases hk : k < (rs.getD j rt0).2.2.length
      · exact (hc.2.2.2 _ (mem_getL hk)).2
      · rw [List.getD_eq_getElem?_getD, List.getElem?_eq_none (by omega)]; simp [in0]
    · have e : rs.getD j rt0 = rt0 := by rw [List.getD_eq_getElem?_getD, List.getElem?_eq_none (by omega)]; rfl
      rw [e]
      exact ⟨by simp [rt0], by simp [rt0], fun k => by simp [rt0, in0]⟩
end Go.Proofs.YteolfnceobjonaaGreat

/-! Plain facts of chapter 15: objects, right, shown, read strictly and read loosely. -/
namespace Go.Proofs.YteolfnceobjonaaGreat
open Go.RowKit

abbrev Ob := List UInt8 × List (List UInt8) × List Rt
def ob0 : Ob := ([], [], [])
theorem splitGo_head (b : UInt8) : ∀ (l cur : List UInt8), (splitGo b cur l).getD 0 [] = cur ++ l.takeWhile (fun c => c != b)
  | [], cur => by simp [splitGo]
  | c :: r, cur => by
    rw [splitGo]
    by_cases h : c = b
    · rw [if_pos h, List.takeWhile_cons, if_neg (by simp [h])]
      simp
    · rw [if_neg h, splitGo_head b r (cur ++ [c]), List.takeWhile_cons, if_pos (bne_iff_ne.2 h)]
      simp
theorem split_headA (b : UInt8) (l : List UInt8) : (splitL b l).getD 0 [] = cutA b l := by
  unfold splitL cutA
  rw [splitGo_head, List.nil_append]
/-- Does a call stay within reach? -/
def nearB (nm : List UInt8) (ims : List (List UInt8)) (i : In13) : Bool := decide (i.1 ≠ 9) || (decide (cutA 46 i.2.2.2.2 = nm) || decide (cutA 46 i.2.2.2.2 ∈ ims))
def one15 (nm : List UInt8) (ims : List (List UInt8)) (rs : List Rt) (j : Nat) : Prop :=
  (rtB (rs.getD j rt0) = true ∧ (0 < j → leT (rs.getD j rt0).1 (rs.getD (j - 1) rt0).1 = false) ∧ cutA 46 (rs.getD j rt0).1 = nm) ∧ (rs.getD j rt0).2.2.all (nearB nm ims) = true
instance (nm : List UInt8) (ims : List (List UInt8)) (rs : List Rt) (j : Nat) : Decidable (one15 nm ims rs j) := by unfold one15; infer_instance
def objB (o : Ob) : Bool := (nameB o.1 && (importsB o.2.1 && decide (1 ≤ o.2.2.length ∧ o.2.2.length ≤ 8))) && decide (∀ j, j < o.2.2.length → one15 o.1 o.2.1 o.2.2 j)
theorem obj_name {o : Ob} (h : nameB o.1 = false) : objB o = false := by unfold objB; rw [h]; rfl
theorem obj_imps {o : Ob} (h : importsB o.2.1 = false) : objB o = false := by unfold objB; rw [h]; simp
theorem obj_len {o : Ob} (h : ¬ (1 ≤ o.2.2.length ∧ o.2.2.length ≤ 8)) : objB o = false := by unfold objB; rw [decide_eq_false h]; simp
theorem obj_no {o : Ob} {j : Nat} (hj : j < o.2.2.length) (h : ¬ one15 o.1 o.2.1 o.2.2 j) : objB o = false := by
  have hn : ¬ (∀ j, j < o.2.2.length → one15 o.1 o.2.1 o.2.2 j) := fun e => h (e j hj)
  unfold objB
  rw [decide_eq_false hn, Bool.and_false]
theorem obj_yes {o : Ob} (h1 : nameB o.1 = true) (h2 : importsB o.2.1 = true) (h3 : 1 ≤ o.2.2.length ∧ o.2.2.length ≤ 8) (h4 : ∀ j, j < o.2.2.length → one15 o.1 o.2.1 o.2.2 j) : objB o = true := by
  unfold objB
  rw [h1, h2, decide_eq_true h3, decide_eq_true h4]; rfl
structure ObjP (o : Ob) : Prop where
  nm : nameB o.1 = true
  im : importsB o.2.1 = true
  l : 1 ≤ o.2.2.length ∧ o.2.2.length ≤ 8
  one : ∀ j, j < o.2.2.length → one15 o.1 o.2.1 o.2.2 j
theorem objB_parts {o : Ob} (h : objB o = true) : ObjP o := by
  unfold objB at h
  simp only [Bool.and_eq_true, decide_eq_true_eq] at h
  exact ⟨h.1.1, h.1.2.1, h.1.2.2, h.2⟩
theorem near_all {nm : List UInt8} {ims : List (List UInt8)} {c : List In13} (h : ∀ j, j < c.length → nearB nm ims (c.getD j in0) = true) : c.all (nearB nm ims) = true := by
  rw [List.all_eq_true]
  intro i hi
  obtain ⟨j, hj, rfl⟩ := List.getElem_of_mem hi
  have := h j hj
  simpa only [List.getD, List.getElem?_eq_getElem hj, Option.getD_some] using this
theorem near_no {nm : List UInt8} {ims : List (List UInt8)} {c : List In13} {j : Nat} (hj : j < c.length) (h : nearB nm ims (c.getD j in0) = false) : c.all (nearB nm ims) = false := by
  rw [Bool.eq_false_iff]
  intro e
  have := List.all_eq_true.1 e c[j] (List.getElem_mem hj)
  simp only [List.getD, List.getElem?_eq_getElem hj, Option.getD_some] at h
  rw [h] at this
  cases this
/-- As the landed code goes about it. -/
def two15 (o : Ob) (j : Nat) : Prop := cutA 46 (o.2.2.getD j rt0).1 = o.1 ∧ (o.2.2.getD j rt0).2.2.all (nearB o.1 o.2.1) = true
theorem objI_rts {o : Ob} (h : rtsB o.2.2 8 = false) : objB o = false := by
  rcases e : objB o with _ | _
  · rfl
  · have p := objB_parts e
    have : rtsB o.2.2 8 = true := by
      unfold rtsB
      refine decide_eq_true ⟨by have := p.l; omega, fun i hi => (p.one i hi).1.1, fun i hi => ?_⟩
      have := (p.one (i + 1) (by omega)).1.2.1 (by omega)
      rw [Nat.add_sub_cancel] at this
      exact this
    rw [this] at h
    cases h
theorem objI_no {o : Ob} {j : Nat} (hj : j < o.2.2.length) (h : ¬ two15 o j) : objB o = false := obj_no hj (fun e => h ⟨e.1.2.2, e.2⟩)
theorem objI_yes {o : Ob} (h1 : nameB o.1 = true) (h2 : importsB o.2.1 = true) (h3 : rtsB o.2.2 8 = true) (h4 : ∀ j, j < o.2.2.length → two15 o j) : objB o = true := by
  obtain ⟨q1, q2, q3⟩ := of_decide_eq_true h3
  refine obj_yes h1 h2 (by omega) (fun j hj => ⟨⟨q2 j hj, fun h0 => ?_, (h4 j hj).1⟩, (h4 j hj).2⟩)
  have := q3 (j - 1) (by omega)
  rw [show j - 1 + 1 = j by omega] at this
  exact this
def kwObject : List UInt8 := [111, 98, 106, 101, 99, 116]
def objLn (s : List UInt8) : List UInt8 := kwObject ++ [32] ++ s
def obLines (o : Ob) : List (List UInt8) := objLn o.1 :: (o.2.1.map impLn ++ imLines o.2.2)
def showO (o : Ob) : List UInt8 := termJ (obLines o)
def showOb (o : Ob) : List UInt8 := if objB o = true then showO o else []
/-- Read strictly: what is ahead of the first line that has not two words is the head. -/
noncomputable def readH : List UInt8 → List (List UInt8) → List (List UInt8) → Ob
  | nm, ims, [] => (nm, ims, readI [] [])
  | nm, ims, l :: ls =>
    if (splitL 32 l).length = 2 then (if (splitL 32 l).getD 0 [] = kwObject then readH ((splitL 32 l).getD 1 []) ims ls else readH nm (ims ++ [(splitL 32 l).getD 1 []]) ls)
    else (nm, ims, readI [] (l :: ls))
noncomputable def readO (s : List UInt8) : Ob := readH [] [] (linesL s)
noncomputable def readOB (s : List UInt8) : Bool := decide (s.length ≤ 100000) && (objB (readO s) && (showO (readO s) == s))
noncomputable def readOV (s : List UInt8) : Ob := if readOB s = true then readO s else ob0
/-- Read loosely, as the landed code does. -/
noncomputable def obLo (o : Ob) (x : List UInt8) : Ob :=
  if cutA 32 x = kwObject then (cutB 32 x, o.2.1, o.2.2)
  else if cutA 32 x = kwImport then (o.1, o.2.1 ++ [cutB 32 x], o.2.2)
  else (o.1, o.2.1, rtLo o.2.2 x)
noncomputable def loO (o : Ob) (ls : List (List UInt8)) : Ob := ls.foldl obLo o
end Go.Proofs.YteolfnceobjonaaGreat

/-! The laws' own helpers over routines: eqRoutine, eqRoutineS. -/
namespace Go.Proofs.YteolfnceobjonaaGreat
open Go.RowKit

set_option maxHeartbeats 1000000 in
set_option maxRecDepth 100000 in
theorem eqRoutineC (s : List UInt8) (n : Int) (t : List In13) (ta tb : Option Addr) (tl ca cb : Nat) (w : World) (ha : InsIn w ta tl t) (hb : InsIn w tb tl t) (hlen : tl ≤ 4194304) :
    Calls Tryz.prog 77 #[.agg #[.string ⟨s.toArray⟩, .int .i64 n, .slice ta tl ca], .agg #[.string ⟨s.toArray⟩, .int .i64 n, .slice tb tl cb]] w fun e w' => e = .returned (.bool true) ∧ Below w.heap.size w w' := by
  have h1 : ∀ n : Int, (n != n) = false := by simp
  have h2 : ∀ l : List UInt8, (l != l) = false := by simp
  have hbW : Below w.heap.size w ((w.alloc (.cells #[.string ⟨s.toArray⟩, .int .i64 n, .slice ta tl ca] 75)).alloc (.cells #[.string ⟨s.toArray⟩, .int .i64 n, .slice tb tl cb] 75)) := ((Below.refl _ _).alloc (Nat.le_refl _) _).alloc (by simp) _
  have HC := eqInsSC ta tb tl ca cb t _ (ha.below hbW) (hb.below hbW) hlen
  clear ha hb
  go_enter Tryz.func77, Tryz.ntmps77
  go_wp2_with fail
  refine HC.mono ?_
  rintro e w1 ⟨rfl, hb1⟩
  have hbd : Below w.heap.size w w1 := hbW.trans (hb1.mono hbW.size)
  clear HC hb1 hbW
  go_wp2
  go_ret
  exact ⟨rfl, hbd⟩

set_option maxHeartbeats 2000000 in
set_option maxRecDepth 100000 in
theorem eqRoutineSC (a b : Option Addr) (len ca cb : Nat) (fs : List Rt) (w : World) (ha : RtsIn w a len fs) (hb : RtsIn w b len fs) (hlen : len ≤ 4194304) (hsh : ∀ j, (fs.getD j rt0).2.2.length ≤ 4194304) :
    Calls Tryz.prog 49 #[.slice a len ca, .slice b len cb] w fun e w' => e = .returned (.bool true) ∧ Below w.heap.size w w' := by
  have HA : Hid (RtsIn w a len fs) := ha
  have HB : Hid (RtsIn w b len fs) := hb
  have HSH : Hid (∀ j, (fs.getD j rt0).2.2.length ≤ 4194304) := hsh
  clear ha hb hsh
  have h1 : ((len : Int) != (len : Int)) = false := by simp
  go_enter Tryz.func49, Tryz.ntmps49
  go_wp2
  go_loopw [5] (fun i wr => ∃ k : Nat, k ≤ len ∧ i = .int .i64 k ∧ Below w.heap.size w wr) (fun i _ => len - (intOf i).toNat)
  case atStart => exact ⟨0, Nat.zero_le _, rfl, Below.refl _ _⟩
  case round =>
    obtain ⟨k, hk, rfl, hB⟩ := hrel
    by_cases hkl : (k : Int) < (len : Int)
    · obtain ⟨b1, o1, rfl, hb1, x0, x1, ta, tl, tc, x2, hn1⟩ := (HA.out.below hB).2 k (by omega)
      obtain ⟨b2, o2, rfl, hb2, y0, y1, tb, tl2, tc2, y2, hn2⟩ := (HB.out.below hB).2 k (by omega)
      have hts := HSH.out k
      obtain ⟨f, hf⟩ : ∃ f, fs.getD k rt0 = f := ⟨_, rfl⟩
      rw [hf] at x0 x1 y0 y1 hn1 hn2 hts
      obtain ⟨s, n, t⟩ := f
      simp only at x0 x1 y0 y1 hn1 hn2 hts
      obtain rfl : t.length = tl := hn1.1
      obtain rfl : t.length = tl2 := hn2.1
      have hn1' : InsIn wr.drew ta t.length t := hn1.below ⟨rfl, rfl, rfl, Nat.le_refl _, fun _ _ => rfl⟩
      have hn2' : InsIn wr.drew tb t.length t := hn2.below ⟨rfl, rfl, rfl, Nat.le_refl _, fun _ _ => rfl⟩
      clear hf hn1 hn2
      go_wp2
      go_region_held3 (fun w' => w'.cell? ⟨b1, o1 + k * 3, none⟩ = some (.string ⟨s.toArray⟩) ∧ w'.cell? ⟨b1, o1 + k * 3 + 1, none⟩ = some (.int .i64 n) ∧ w'.cell? ⟨b1, o1 + k * 3 + 2, none⟩ = some (.slice ta t.length tc) ∧ w'.cell? ⟨b2, o2 + k * 3, none⟩ = some (.string ⟨s.toArray⟩) ∧ w'.cell? ⟨b2, o2 + k * 3 + 1, none⟩ = some (.int .i64 n) ∧ w'.cell? ⟨b2, o2 + k * 3 + 2, none⟩ = some (.slice tb t.length tc2)) (go_keep) (first | (go_at_call 77; refine (eqRoutineC s n t ta tb t.length tc tc2 _ hn1' hn2' hts).mono ?_; rintro e w1 ⟨rfl, hw1⟩; have d0 : w1.cell? ⟨b1, o1 + k * 3, none⟩ = some (.string ⟨s.toArray⟩) := (hw1.cell (p := ⟨b1, o1 + k * 3, none⟩) hb1).trans x0; have d1 : w1.cell? ⟨b1, o1 + k * 3 + 1, none⟩ = some (.int .i64 n) := (hw1.cell (p := ⟨b1, o1 + k * 3 + 1, none⟩) hb1).trans x1; have d2 : w1.cell? ⟨b1, o1 + k * 3 + 2, none⟩ = some (.slice ta t.length tc) := (hw1.cell (p := ⟨b1, o1 + k * 3 + 2, none⟩) hb1).trans x2; have e0 : w1.cell? ⟨b2, o2 + k * 3, none⟩ = some (.string ⟨s.toArray⟩) := (hw1.cell (p := ⟨b2, o2 + k * 3, none⟩) hb2).trans y0; have e1 : w1.cell? ⟨b2, o2 + k * 3 + 1, none⟩ = some (.int .i64 n) := (hw1.cell (p := ⟨b2, o2 + k * 3 + 1, none⟩) hb2).trans y1; have e2 : w1.cell? ⟨b2, o2 + k * 3 + 2, none⟩ = some (.slice tb t.length tc2) := (hw1.cell (p := ⟨b2, o2 + k * 3 + 2, none⟩) hb2).trans y2))
      all_goals go_wp2
      go_roundw
      case rel => exact ⟨k + 1, by omega, by go_num, hB.trans ⟨hw1.os, hw1.tape, hw1.output, hw1.size, fun q hq => hw1.block q (by have := hB.size; show q < wr.heap.size; omega)⟩⟩
      case measure => simp [intOf]; omega
    · go_wp2
      go_ret
      exact ⟨rfl, hB⟩

end Go.Proofs.YteolfnceobjonaaGreat
