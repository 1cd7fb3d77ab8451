/-
  Parts of one proof, one behind the other: RtL, InsZ, RtIn, RtE, InsM.
-/
import Derived.Test.YthjemelnbbpdcaaDoorP15
import Derived.SliceStrings
import Derived.Deep.RegionHeld3
import Derived.Test.YthjemelnbbpdcaaDoorP11
import Derived.Deep.RegionWith

/-! The laws' own helpers over routines: szRoutine, szRoutineS. -/
namespace Go.Proofs.YthjemelnbbpdcaaDoor
open Go.RowKit

def szR (m : Nat) (left : Int) : Int := if (m : Int) ≤ left then left - (m : Int) else -1
theorem szR_yes {m : Nat} {left : Int} (h : (m : Int) ≤ left) : szR m left = left - (m : Int) := by unfold szR; rw [if_pos h]
theorem szR_no {m : Nat} {left : Int} (h : ¬ (m : Int) ≤ left) : szR m left = -1 := by unfold szR; rw [if_neg h]

def rtSz (f : Rt) : Nat := f.1.length + (f.2.2.length + textsI f.2.2)
def rtsSz : List Rt → Nat
  | [] => 0
  | f :: r => rtSz f + rtsSz r
theorem rtsSz_append (x y : List Rt) : rtsSz (x ++ y) = rtsSz x + rtsSz y := by
  induction x with
  | nil => simp [rtsSz]
  | cons n r ih => simp only [List.cons_append, rtsSz, ih]; omega
theorem rtsSz_snoc (fs : List Rt) (k : Nat) (hk : k < fs.length) : rtsSz (fs.take (k + 1)) = rtsSz (fs.take k) + rtSz (fs.getD k rt0) := by
  have hg : fs.getD k rt0 = fs[k] := by simp [List.getD, hk]
  rw [hg, List.take_succ_eq_append_getElem hk, rtsSz_append]
  simp [rtsSz]
theorem rtsSz_take (fs : List Rt) (k : Nat) : rtsSz (fs.take k) ≤ rtsSz fs := by
  have := rtsSz_append (fs.take k) (fs.drop k)
  rw [List.take_append_drop] at this
  omega
theorem rtsSz_at (fs : List Rt) (j : Nat) : rtSz (fs.getD j rt0) ≤ rtsSz fs := by
  by_cases hj : j < fs.length
  · have h1 := rtsSz_snoc fs j hj
    have h2 := rtsSz_take fs (j + 1)
    omega
  · have : fs.getD j rt0 = rt0 := by rw [List.getD, List.getElem?_eq_none (by omega)]; rfl
    rw [this]; simp [rt0, rtSz, textsI]

def LongR (fs : List Rt) : Prop := ∀ j, (fs.getD j rt0).1.length ≤ maxLen ∧ (fs.getD j rt0).2.2.length ≤ maxLen ∧ LongI (fs.getD j rt0).2.2

theorem shortR_of {fs : List Rt} (h : rtsSz fs ≤ 1048576) : ShortR fs := fun j => by
  have h1 := rtsSz_at fs j
  unfold rtSz at h1
  exact ⟨by omega, by omega, shortI_of (by omega)⟩

set_option maxHeartbeats 1000000 in
set_option maxRecDepth 100000 in
theorem szRoutineC (s : List UInt8) (n : Int) (t : List In13) (ta : Option Addr) (tl tc : Nat) (left : Int) (w : World) (hin : InsIn w ta tl t) (h0 : 0 ≤ left) (h1 : left ≤ 1048576) (hs : s.length ≤ maxLen) (ht : t.length ≤ maxLen) (hm : LongI t) :
    Calls Tryd.prog 17 #[.agg #[.string ⟨s.toArray⟩, .int .i64 n, .slice ta tl tc], .int .i64 left] w fun e w' => e = .returned (.int .i64 (szR (rtSz (s, n, t)) left)) ∧ Below w.heap.size w w' := by
  obtain rfl : t.length = tl := hin.1
  unfold maxLen at hs
  have hs2 : (s.length : Int) ≤ 9223372036854775807 := by omega
  obtain ⟨W, hW⟩ : ∃ W, w.alloc (.cells #[.string ⟨s.toArray⟩, .int .i64 n, .slice ta t.length tc] 47) = W := ⟨_, rfl⟩
  have hbW : Below w.heap.size w W := by rw [← hW]; exact (Below.refl _ _).alloc (Nat.le_refl _) _
  have hA : W.heap[w.heap.size]? = some (.cells #[.string ⟨s.toArray⟩, .int .i64 n, .slice ta t.length tc] 47) := by rw [← hW]; exact heap_alloc_new w _
  have k0 : W.cell? ⟨w.heap.size, 0, none⟩ = some (.string ⟨s.toArray⟩) := by simp [World.cell?, hA]
  have k2 : W.cell? ⟨w.heap.size, 2, none⟩ = some (.slice ta t.length tc) := by simp [World.cell?, hA]
  have hinW := hin.below hbW
  clear hin hA
  by_cases hfit : (s.length : Int) ≤ left
  · have HC := szInsSC ta t.length tc t (left - (s.length : Int)) W hinW (by omega) (by omega) ht hm
    by_cases hfit2 : (t.length : Int) + (textsI t : Int) ≤ left - (s.length : Int)
    · have HZ : Hid (szN t.length (textsI t) (left - (s.length : Int)) = szR (rtSz (s, n, t)) left) := by exact (by rw [szN_yes hfit2, szR_yes (by unfold rtSz; simp only; omega)]; unfold rtSz; simp only; omega : szN t.length (textsI t) (left - (s.length : Int)) = szR (rtSz (s, n, t)) left)
      have hge : 0 ≤ szR (rtSz (s, n, t)) left := by rw [← HZ.out, szN_yes hfit2]; omega
      have hge2 : 0 ≤ left - (s.length : Int) := by omega
      rw [HZ.out] at HC
      generalize szR (rtSz (s, n, t)) left = z at HC hge ⊢
      clear HZ
      go_enter Tryd.func17, Tryd.ntmps17
      go_wp2_with fail
      refine HC.mono ?_
      rintro e w1 ⟨rfl, hb1⟩
      have hb : Below w.heap.size w w1 := hbW.trans (hb1.mono hbW.size)
      clear HC hb1
      go_wp2
      go_ret
      exact ⟨rfl, hb⟩
    · have HZ : Hid (szN t.length (textsI t) (left - (s.length : Int)) = -1) := szN_no hfit2
      have HR : Hid (szR (rtSz (s, n, t)) left = -1) := szR_no (by unfold rtSz; simp only; omega)
      have hge2 : 0 ≤ left - (s.length : Int) := by omega
      rw [HZ.out] at HC
      go_enter Tryd.func17, Tryd.ntmps17
      go_wp2_with fail
      refine HC.mono ?_
      rintro e w1 ⟨rfl, hb1⟩
      have hb : Below w.heap.size w w1 := hbW.trans (hb1.mono hbW.size)
      clear HC hb1
      go_wp2
      go_ret
      exact ⟨by rw [HR.out]; rfl, hb⟩
  · have HR : Hid (szR (rtSz (s, n, t)) left = -1) := szR_no (by unfold rtSz; simp only; omega)
    have hlt : left - (s.length : Int) < 0 := by omega
    go_enter Tryd.func17, Tryd.ntmps17
    go_wp2
    go_ret
    exact ⟨by rw [HR.out]; rfl, hbW⟩

set_option maxHeartbeats 2000000 in
set_option maxRecDepth 100000 in
theorem szRoutineSC (a : Option Addr) (len cap : Nat) (fs : List Rt) (left : Int) (w : World) (hin : RtsIn w a len fs) (h0 : 0 ≤ left) (h1 : left ≤ 1048576) (hl : len ≤ maxLen) (hm : LongR fs) :
    Calls Tryd.prog 9 #[.slice a len cap, .int .i64 left] w fun e w' => e = .returned (.int .i64 (szR (len + rtsSz fs) left)) ∧ Below w.heap.size w w' := by
  unfold maxLen at hl
  have hl2 : (len : Int) ≤ 9223372036854775807 := by omega
  have hlb := hin.1
  by_cases h : (len : Int) ≤ left
  · have hlen : len ≤ 1048576 := by omega
    have HI : Hid (RtsIn w a len fs) := hin
    have HM : Hid (LongR fs) := hm
    clear hin hm
    go_enter Tryd.func9, Tryd.ntmps9
    go_wp2
    go_loopw [1, 5] (fun l i wr => ∃ k : Nat, k ≤ len ∧ i = .int .i64 k ∧ l = .int .i64 (left - (len : Int) - (rtsSz (fs.take k) : Int)) ∧ (rtsSz (fs.take k) : Int) ≤ left - (len : Int) ∧ Below w.heap.size w wr) (fun _ i _ => len - (intOf i).toNat)
    case atStart => exact ⟨0, Nat.zero_le _, rfl, by simp [rtsSz], by simp [rtsSz]; omega, Below.refl _ _⟩
    case round =>
      obtain ⟨k, hk, rfl, rfl, hle, hB⟩ := hrel
      by_cases hkl : (k : Int) < (len : Int)
      · obtain ⟨b, off, rfl, hbl, c0, c1, ta, tl, tc, c2, hnin⟩ := (HI.out.below hB).2 k (by omega)
        have hmk := HM.out k
        have hst := rtsSz_snoc fs k (by omega)
        have htt := rtsSz_take fs (k + 1)
        obtain ⟨f, hf⟩ : ∃ f, fs.getD k rt0 = f := ⟨_, rfl⟩
        rw [hf] at c0 c1 hmk hst hnin
        obtain ⟨s, n, t⟩ := f
        simp only at c0 c1 hmk hnin
        obtain ⟨m, hmm⟩ : ∃ m, rtsSz (fs.take k) = m := ⟨_, rfl⟩
        rw [hmm] at hle hst ⊢
        obtain ⟨z, hz⟩ : ∃ z, rtSz (s, n, t) = z := ⟨_, rfl⟩
        have HC := szRoutineC s n t ta tl tc (left - (len : Int) - (m : Int)) wr hnin (by omega) (by omega) hmk.1 hmk.2.1 hmk.2.2
        rw [hz] at hst HC
        have HS : Hid (rtsSz (fs.take (k + 1)) = m + z) := hst
        clear hst hf hmm hz hnin
        by_cases hfit : (z : Int) ≤ left - (len : Int) - (m : Int)
        · have HZ : Hid (szR z (left - (len : Int) - (m : Int)) = left - (len : Int) - (rtsSz (fs.take (k + 1)) : Int)) := by
            exact (by rw [HS.out, szR_yes (by omega)]; omega : szR z (left - (len : Int) - (m : Int)) = left - (len : Int) - (rtsSz (fs.take (k + 1)) : Int))
          rw [HZ.out] at HC
          go_wp2_with fail
          refine HC.mono ?_
          rintro e w1 ⟨rfl, hb1⟩
          have hle2 : (rtsSz (fs.take (k + 1)) : Int) ≤ left - (len : Int) := by rw [HS.out]; omega
          have hge : (0 : Int) ≤ left - (len : Int) - (rtsSz (fs.take (k + 1)) : Int) := by omega
          clear HC
          go_wp2
          go_roundw
          case rel => exact ⟨k + 1, by omega, by go_num, rfl, hle2, hB.trans (hb1.mono hB.size)⟩
          case measure => simp [intOf]; omega
        · have HZ : Hid (szR z (left - (len : Int) - (m : Int)) = -1) := szR_no (by omega)
          have HR : Hid (szR (len + rtsSz fs) left = -1) := szR_no (by have := HS.out; omega)
          rw [HZ.out] at HC
          go_wp2_with fail
          refine HC.mono ?_
          rintro e w1 ⟨rfl, hb1⟩
          clear HC
          go_wp2
          go_ret
          exact ⟨by rw [HR.out]; rfl, hB.trans (hb1.mono hB.size)⟩
      · have HT : Hid (fs.take k = fs) := List.take_of_length_le (by omega)
        have HR : Hid (szR (len + rtsSz fs) left = left - (len : Int) - (rtsSz (fs.take k) : Int)) := by exact (by rw [HT.out] at hle ⊢; rw [szR_yes (by omega)]; omega : szR (len + rtsSz fs) left = left - (len : Int) - (rtsSz (fs.take k) : Int))
        go_wp2
        go_ret
        exact ⟨by rw [HR.out]; rfl, hB⟩
  · have HR : Hid (szR (len + rtsSz fs) left = -1) := szR_no (by omega)
    clear hin hm
    go_enter Tryd.func9, Tryd.ntmps9
    go_wp2
    go_ret
    exact ⟨by rw [HR.out]; rfl, Below.refl _ _⟩

end Go.Proofs.YthjemelnbbpdcaaDoor

/-! A row of instructions that came in. -/
namespace Go.Proofs.YthjemelnbbpdcaaDoor
open Go.ChangeShapes Go.WideShapes Go.ChangeAt Go.RowKit Go.Joins Go.Deep

set_option maxRecDepth 100000 in
theorem open_inss {H : Type} {enc : TypeId × Value → H} {W : World} {base b0 : Nat} {spare : Nat → Bool} {held : Bool} {v : Value} {d : DataW H} {p : List MemPlace}
    (hv : Value.okWide Tryd.prog W .any b0 45 v) (h : DataW.Trod enc Tryd.prog W base spare held 45 v d p) :
    ∃ a len cap ns, v = .slice a len cap ∧ InsIn W a len ns ∧ len ≤ maxLen ∧ LongI ns ∧ IntIs ns := by
  obtain ⟨a0, len, cap, rfl⟩ := okWide_slice Tryd.underlying45 hv
  obtain ⟨fuel, hf⟩ := h
  rcases open_slice Tryd.underlying45 hf with ⟨hcs, _⟩ | ⟨a, l, c, q, n, D, Pl, hcs, _, hl, hm, hq, _, hx⟩
  · simp [Value.cells] at hcs
    obtain ⟨rfl, rfl, rfl⟩ := hcs
    exact ⟨none, 0, 0, [], rfl, ⟨rfl, fun j hj => by omega⟩, by decide, (fun j => by simp [in0]), (fun j => by rw [show ([] : List In13).getD j in0 = in0 by simp]; exact intI_in0)⟩
  · simp [Value.cells] at hcs
    obtain ⟨rfl, rfl, rfl⟩ := hcs
    have hlq : len ≤ q := by rw [hq]; split <;> omega
    have each : ∀ i, i < len → ∃ x : In13, W.cell? (a.add (i * 5)) = some (.int .i64 x.1) ∧ W.cell? (a.add (i * 5 + 1)) = some (.int .i64 x.2.1) ∧ W.cell? (a.add (i * 5 + 2)) = some (.int .i64 x.2.2.1) ∧ W.cell? (a.add (i * 5 + 3)) = some (.int .i64 x.2.2.2.1) ∧ W.cell? (a.add (i * 5 + 4)) = some (.string ⟨x.2.2.2.2.toArray⟩) ∧ x.2.2.2.2.length ≤ maxLen ∧ IntI x := by
      intro i hi
      obtain ⟨cs', h1, h2⟩ := hx i (by omega)
      rw [cellsIns] at h1
      obtain ⟨_, hlen, hcell⟩ := World.cells?_some h1
      match cs', hlen with
      | [v0, v1, v2, v3, v4], _ =>
        obtain ⟨xs, k, _, _, _, hxl, hxx⟩ := DataW.trod_struct Tryd.underlying73 h2
        match xs, hxl with
        | [y0, y1, y2, y3, y4], _ =>
          have t0 := hxx 0 _ rfl
          have t1 := hxx 1 _ rfl
          have t2 := hxx 2 _ rfl
          have t3 := hxx 3 _ rfl
          have t4 := hxx 4 _ rfl
          obtain ⟨k0, e0, _, w0⟩ := DataW.trod_int Tryd.underlying2 t0
          obtain ⟨k1, e1, _, w1⟩ := DataW.trod_int Tryd.underlying2 t1
          obtain ⟨k2, e2, _, w2⟩ := DataW.trod_int Tryd.underlying2 t2
          obtain ⟨k3, e3, _, w3⟩ := DataW.trod_int Tryd.underlying2 t3
          obtain ⟨s4, e4, _, z4⟩ := DataW.trod_string Tryd.underlying9 t4
          simp [cells2] at e0 e1 e2 e3
          simp [cells9] at e4
          subst e0 e1 e2 e3 e4
          have g0 := hcell 0 (by omega)
          have g1 := hcell 1 (by omega)
          have g2 := hcell 2 (by omega)
          have g3 := hcell 3 (by omega)
          have g4 := hcell 4 (by omega)
          rw [add_add] at g0 g1 g2 g3 g4
          exact ⟨(k0, k1, k2, k3, s4.data.toList), by simpa using g0, by simpa using g1, by simpa using g2, by simpa using g3, by simpa using g4, z4, ⟨bounds_i64 w0, bounds_i64 w1, bounds_i64 w2, bounds_i64 w3⟩⟩
    obtain ⟨f, hf2⟩ := choose_lt each
    refine ⟨some a, len, cap, (List.range len).map f, rfl, ⟨by simp, fun j hj => ?_⟩, by omega, (fun j => ?_), (fun j => ?_)⟩
    rotate_left
    · by_cases hj : j < len
      · have hg : ((List.range len).map f).getD j in0 = f j := by simp [List.getD, hj]
        rw [hg]; exact (hf2 j hj).2.2.2.2.2.1
      · have hg : ((List.range len).map f).getD j in0 = in0 := by simp [List.getD, hj]
        rw [hg]; simp [in0]
    · by_cases hj : j < len
      · have hg : ((List.range len).map f).getD j in0 = f j := by simp [List.getD, hj]
        rw [hg]; exact (hf2 j hj).2.2.2.2.2.2
      · have hg : ((List.range len).map f).getD j in0 = in0 := by simp [List.getD, hj]
        rw [hg]; exact intI_in0
    obtain ⟨c0, c1, c2, c3, c4, _, _⟩ := hf2 j hj
    have hsp : a.spot = none := by
      have h0 := (hf2 0 (by omega)).1
      simpa [Addr.add] using World.cell?_spot h0
    obtain ⟨b, off, spot⟩ := a
    simp at hsp
    subst hsp
    have e : ∀ i, (⟨b, off, none⟩ : Addr).add i = ⟨b, off + i, none⟩ := fun i => by unfold Addr.add; split <;> simp_all
    rw [e] at c0 c1 c2 c3 c4
    have hg : ((List.range len).map f).getD j in0 = f j := by simp [List.getD, hj]
    rw [hg]
    exact ⟨b, off, rfl, World.block_lt_of_cell? W ⟨b, off + j * 5, none⟩ c0, c0, by rw [Nat.add_assoc]; exact c1, by rw [Nat.add_assoc]; exact c2, by rw [Nat.add_assoc]; exact c3, by rw [Nat.add_assoc]; exact c4⟩

end Go.Proofs.YthjemelnbbpdcaaDoor

/-! An image that came in, as the walks take it. -/
namespace Go.Proofs.YthjemelnbbpdcaaDoor
open Go.ChangeShapes Go.WideShapes Go.ChangeAt Go.RowKit Go.Joins Go.Deep

def IntR (rs : List Rt) : Prop := ∀ j, (-9223372036854775808 ≤ (rs.getD j rt0).2.1 ∧ (rs.getD j rt0).2.1 ≤ 9223372036854775807) ∧ IntIs (rs.getD j rt0).2.2
theorem intIs_nil : IntIs [] := fun j => by rw [show ([] : List In13).getD j in0 = in0 by simp]; exact intI_in0
section
variable {H : Type} {enc : TypeId × Value → H} {W : World} {base : Nat} {spare : Nat → Bool} {held : Bool} {fuel : Nat} {v : Value} {x : DataW H × List MemPlace}
set_option maxRecDepth 100000 in
theorem trod_inss (hf : DataW.trod enc Tryd.prog W base spare held fuel 45 [v] = some x) :
    ∃ a len cap ns, v = .slice a len cap ∧ InsIn W a len ns ∧ len ≤ maxLen ∧ LongI ns ∧ IntIs ns := by
  rcases open_slice Tryd.underlying45 hf with ⟨hcs, _⟩ | ⟨a, len, cap, q, n, D, Pl, hcs, _, hl, hm, hq, _, hx⟩
  · simp at hcs
    subst hcs
    exact ⟨none, 0, 0, [], rfl, ⟨rfl, fun j hj => by omega⟩, by decide, (fun j => by simp [in0]), (fun j => by rw [show ([] : List In13).getD j in0 = in0 by simp]; exact intI_in0)⟩
  · simp at hcs
    subst hcs
    have hlq : len ≤ q := by rw [hq]; split <;> omega
    have each : ∀ i, i < len → ∃ x : In13, W.cell? (a.add (i * 5)) = some (.int .i64 x.1) ∧ W.cell? (a.add (i * 5 + 1)) = some (.int .i64 x.2.1) ∧ W.cell? (a.add (i * 5 + 2)) = some (.int .i64 x.2.2.1) ∧ W.cell? (a.add (i * 5 + 3)) = some (.int .i64 x.2.2.2.1) ∧ W.cell? (a.add (i * 5 + 4)) = some (.string ⟨x.2.2.2.2.toArray⟩) ∧ x.2.2.2.2.length ≤ maxLen ∧ IntI x := by
      intro i hi
      obtain ⟨cs', h1, h2⟩ := hx i (by omega)
      rw [cellsIns] at h1
      obtain ⟨_, hlen, hcell⟩ := World.cells?_some h1
      match cs', hlen with
      | [v0, v1, v2, v3, v4], _ =>
        obtain ⟨xs, k, _, _, _, hxl, hxx⟩ := DataW.trod_struct Tryd.underlying73 h2
        match xs, hxl with
        | [y0, y1, y2, y3, y4], _ =>
          have t0 := hxx 0 _ rfl
          have t1 := hxx 1 _ rfl
          have t2 := hxx 2 _ rfl
          have t3 := hxx 3 _ rfl
          have t4 := hxx 4 _ rfl
          obtain ⟨k0, e0, _, w0⟩ := DataW.trod_int Tryd.underlying2 t0
          obtain ⟨k1, e1, _, w1⟩ := DataW.trod_int Tryd.underlying2 t1
          obtain ⟨k2, e2, _, w2⟩ := DataW.trod_int Tryd.underlying2 t2
          obtain ⟨k3, e3, _, w3⟩ := DataW.trod_int Tryd.underlying2 t3
          obtain ⟨s4, e4, _, z4⟩ := DataW.trod_string Tryd.underlying9 t4
          simp [cells2] at e0 e1 e2 e3
          simp [cells9] at e4
          subst e0 e1 e2 e3 e4
          have g0 := hcell 0 (by omega)
          have g1 := hcell 1 (by omega)
          have g2 := hcell 2 (by omega)
          have g3 := hcell 3 (by omega)
          have g4 := hcell 4 (by omega)
          rw [add_add] at g0 g1 g2 g3 g4
          exact ⟨(k0, k1, k2, k3, s4.data.toList), by simpa using g0, by simpa using g1, by simpa using g2, by simpa using g3, by simpa using g4, z4, ⟨bounds_i64 w0, bounds_i64 w1, bounds_i64 w2, bounds_i64 w3⟩⟩
    obtain ⟨f, hf2⟩ := choose_lt each
    refine ⟨some a, len, cap, (List.range len).map f, rfl, ⟨by simp, fun j hj => ?_⟩, by omega, (fun j => ?_), (fun j => ?_)⟩
    rotate_left
    · by_cases hj : j < len
      · have hg : ((List.range len).map f).getD j in0 = f j := by simp [List.getD, hj]
        rw [hg]; exact (hf2 j hj).2.2.2.2.2.1
      · have hg : ((List.range len).map f).getD j in0 = in0 := by simp [List.getD, hj]
        rw [hg]; simp [in0]
    · by_cases hj : j < len
      · have hg : ((List.range len).map f).getD j in0 = f j := by simp [List.getD, hj]
        rw [hg]; exact (hf2 j hj).2.2.2.2.2.2
      · have hg : ((List.range len).map f).getD j in0 = in0 := by simp [List.getD, hj]
        rw [hg]; exact intI_in0
    obtain ⟨c0, c1, c2, c3, c4, _, _⟩ := hf2 j hj
    have hsp : a.spot = none := by
      have h0 := (hf2 0 (by omega)).1
      simpa [Addr.add] using World.cell?_spot h0
    obtain ⟨b, off, spot⟩ := a
    simp at hsp
    subst hsp
    have e : ∀ i, (⟨b, off, none⟩ : Addr).add i = ⟨b, off + i, none⟩ := fun i => by unfold Addr.add; split <;> simp_all
    rw [e] at c0 c1 c2 c3 c4
    have hg : ((List.range len).map f).getD j in0 = f j := by simp [List.getD, hj]
    rw [hg]
    exact ⟨b, off, rfl, World.block_lt_of_cell? W ⟨b, off + j * 5, none⟩ c0, c0, by rw [Nat.add_assoc]; exact c1, by rw [Nat.add_assoc]; exact c2, by rw [Nat.add_assoc]; exact c3, by rw [Nat.add_assoc]; exact c4⟩
theorem cellsRt : Tryd.prog.cellsOf 47 = 3 := by kernel_rfl
set_option maxRecDepth 100000 in
theorem trod_rts (hf : DataW.trod enc Tryd.prog W base spare held fuel 22 [v] = some x) :
    ∃ a len cap fs, v = .slice a len cap ∧ RtsIn W a len fs ∧ len ≤ maxLen ∧ LongR fs ∧ IntR fs := by
  rcases open_slice Tryd.underlying22 hf with ⟨hcs, _⟩ | ⟨a, len, cap, q, n, D, Pl, hcs, _, hl, hm, hq, _, hx⟩
  · simp at hcs
    subst hcs
    exact ⟨none, 0, 0, [], rfl, ⟨rfl, fun j hj => by omega⟩, by decide, (fun j => by simp [rt0, LongI, in0]), (fun j => ⟨by simp [rt0], intIs_nil⟩)⟩
  · simp at hcs
    subst hcs
    have hlq : len ≤ q := by rw [hq]; split <;> omega
    have each : ∀ i, i < len → ∃ y : Rt, W.cell? (a.add (i * 3)) = some (.string ⟨y.1.toArray⟩) ∧ W.cell? (a.add (i * 3 + 1)) = some (.int .i64 y.2.1) ∧
        (∃ ta tl tc, W.cell? (a.add (i * 3 + 2)) = some (.slice ta tl tc) ∧ InsIn W ta tl y.2.2) ∧ (y.1.length ≤ maxLen ∧ y.2.2.length ≤ maxLen ∧ LongI y.2.2) ∧ ((-9223372036854775808 ≤ y.2.1 ∧ y.2.1 ≤ 9223372036854775807) ∧ IntIs y.2.2) := by
      intro i hi
      obtain ⟨cs', h1, h2⟩ := hx i (by omega)
      rw [cellsRt] at h1
      obtain ⟨_, hlen, hcell⟩ := World.cells?_some h1
      match cs', hlen with
      | [v0, v1, v2], _ =>
        obtain ⟨y0, y1, y2, k, _, _, t0, t1, t2⟩ := trod_struct3 Tryd.underlying47 h2
        have k2 : Tryd.prog.cellsOf 2 = 1 := by kernel_rfl
        have k9 : Tryd.prog.cellsOf 9 = 1 := by kernel_rfl
        have kn : Tryd.prog.cellsOf 45 = 1 := by kernel_rfl
        simp [k2, k9, kn] at t0 t1 t2
        obtain ⟨s0, e0, _, z0⟩ := DataW.trod_string Tryd.underlying9 t0
        obtain ⟨aa, e1, _, wa⟩ := DataW.trod_int Tryd.underlying2 t1
        obtain ⟨ta, tl, tc, ns, e2, hns, hnl, hlt, hit⟩ := trod_inss t2
        simp at e0 e1
        subst e0 e1 e2
        have g0 := hcell 0 (by omega)
        have g1 := hcell 1 (by omega)
        have g2 := hcell 2 (by omega)
        rw [add_add] at g0 g1 g2
        exact ⟨(s0.data.toList, aa, ns), by simpa using g0, by simpa using g1, ⟨ta, tl, tc, by simpa using g2, hns⟩, ⟨z0, by rw [show ((s0.data.toList, aa, ns) : Rt).2.2 = ns from rfl, hns.1]; exact hnl, hlt⟩, ⟨bounds_i64 wa, hit⟩⟩
    obtain ⟨f, hf2⟩ := choose_lt each
    refine ⟨some a, len, cap, (List.range len).map f, rfl, ⟨by simp, fun j hj => ?_⟩, by omega, (fun j => ?_), (fun j => ?_)⟩
    rotate_left
    · by_cases hj : j < len
      · have hg : ((List.range len).map f).getD j rt0 = f j := by simp [List.getD, hj]
        rw [hg]; exact (hf2 j hj).2.2.2.1
      · have hg : ((List.range len).map f).getD j rt0 = rt0 := by simp [List.getD, hj]
        rw [hg]; simp [rt0, LongI, in0]
    · by_cases hj : j < len
      · have hg : ((List.range len).map f).getD j rt0 = f j := by simp [List.getD, hj]
        rw [hg]; exact (hf2 j hj).2.2.2.2
      · have hg : ((List.range len).map f).getD j rt0 = rt0 := by simp [List.getD, hj]
        rw [hg]; exact ⟨by simp [rt0], intIs_nil⟩
    obtain ⟨c0, c1, ⟨ta, tl, tc, c2, hns⟩, _, _⟩ := hf2 j hj
    have hsp : a.spot = none := by
      have h0 := (hf2 0 (by omega)).1
      simpa [Addr.add] using World.cell?_spot h0
    obtain ⟨b, off, spot⟩ := a
    simp at hsp
    subst hsp
    have e : ∀ i, (⟨b, off, none⟩ : Addr).add i = ⟨b, off + i, none⟩ := fun i => by unfold Addr.add; split <;> simp_all
    rw [e] at c0 c1 c2
    have hg : ((List.range len).map f).getD j rt0 = f j := by simp [List.getD, hj]
    rw [hg]
    exact ⟨b, off, rfl, World.block_lt_of_cell? W ⟨b, off + j * 3, none⟩ c0, c0, by rw [Nat.add_assoc]; exact c1, ta, tl, tc, by rw [Nat.add_assoc]; exact c2, hns⟩
end
theorem cellsImage : Tryd.prog.cellsOf 24 = 1 := by kernel_rfl
set_option maxRecDepth 100000 in
theorem open_image {H : Type} {enc : TypeId × Value → H} {W : World} {base b0 : Nat} {spare : Nat → Bool} {held : Bool} {v : Value} {d : DataW H} {p : List MemPlace}
    (hv : Value.okWide Tryd.prog W .any b0 24 v) (h : DataW.Trod enc Tryd.prog W base spare held 24 v d p) :
    ∃ a len cap rs, v = .agg #[.slice a len cap] ∧ RtsIn W a len rs ∧ len ≤ maxLen ∧ LongR rs ∧ IntR rs := by
  obtain ⟨cs, rfl, hsz⟩ := okWide_struct Tryd.underlying24 hv
  obtain ⟨c0, rfl⟩ : ∃ a, cs = #[a] := by
    have h1 := hsz.trans cellsImage
    obtain ⟨l⟩ := cs
    match l, h1 with
    | [a], _ => exact ⟨a, rfl⟩
  obtain ⟨fuel, hf⟩ := h
  obtain ⟨xs, n, _, _, hl, hlen, hx⟩ := DataW.trod_struct Tryd.underlying24 hf
  match xs, hlen with
  | [y0], _ =>
    have t0 := hx 0 _ rfl
    simp only [Value.cells] at t0
    have kn : Tryd.prog.cellsOf 22 = 1 := by kernel_rfl
    have t1 : DataW.trod enc Tryd.prog W base spare held n 22 [c0] = some y0 := by simpa [kn] using t0
    obtain ⟨a, len, cap, rs, rfl, h1, h2, h3, h4⟩ := trod_rts t1
    exact ⟨a, len, cap, rs, rfl, h1, h2, h3, h4⟩

end Go.Proofs.YthjemelnbbpdcaaDoor

/-! The laws' own helpers over routines: eqRoutine, eqRoutineS. -/
namespace Go.Proofs.YthjemelnbbpdcaaDoor
open Go.RowKit

set_option maxHeartbeats 1000000 in
set_option maxRecDepth 100000 in
theorem eqRoutineC (s : List UInt8) (n : Int) (t : List In13) (ta tb : Option Addr) (tl ca cb : Nat) (w : World) (ha : InsIn w ta tl t) (hb : InsIn w tb tl t) (hlen : tl ≤ 4194304) :
    Calls Tryd.prog 29 #[.agg #[.string ⟨s.toArray⟩, .int .i64 n, .slice ta tl ca], .agg #[.string ⟨s.toArray⟩, .int .i64 n, .slice tb tl cb]] w fun e w' => e = .returned (.bool true) ∧ Below w.heap.size w w' := by
  have h1 : ∀ n : Int, (n != n) = false := by simp
  have h2 : ∀ l : List UInt8, (l != l) = false := by simp
  have hbW : Below w.heap.size w ((w.alloc (.cells #[.string ⟨s.toArray⟩, .int .i64 n, .slice ta tl ca] 40)).alloc (.cells #[.string ⟨s.toArray⟩, .int .i64 n, .slice tb tl cb] 40)) := ((Below.refl _ _).alloc (Nat.le_refl _) _).alloc (by simp) _
  have HC := eqInsSC ta tb tl ca cb t _ (ha.below hbW) (hb.below hbW) hlen
  clear ha hb
  go_enter Tryd.func29, Tryd.ntmps29
  go_wp2_with fail
  refine HC.mono ?_
  rintro e w1 ⟨rfl, hb1⟩
  have hbd : Below w.heap.size w w1 := hbW.trans (hb1.mono hbW.size)
  clear HC hb1 hbW
  go_wp2
  go_ret
  exact ⟨rfl, hbd⟩

set_option maxHeartbeats 2000000 in
set_option maxRecDepth 100000 in
theorem eqRoutineSC (a b : Option Addr) (len ca cb : Nat) (fs : List Rt) (w : World) (ha : RtsIn w a len fs) (hb : RtsIn w b len fs) (hlen : len ≤ 4194304) (hsh : ∀ j, (fs.getD j rt0).2.2.length ≤ 4194304) :
    Calls Tryd.prog 16 #[.slice a len ca, .slice b len cb] w fun e w' => e = .returned (.bool true) ∧ Below w.heap.size w w' := by
  have HA : Hid (RtsIn w a len fs) := ha
  have HB : Hid (RtsIn w b len fs) := hb
  have HSH : Hid (∀ j, (fs.getD j rt0).2.2.length ≤ 4194304) := hsh
  clear ha hb hsh
  have h1 : ((len : Int) != (len : Int)) = false := by simp
  go_enter Tryd.func16, Tryd.ntmps16
  go_wp2
  go_loopw [5] (fun i wr => ∃ k : Nat, k ≤ len ∧ i = .int .i64 k ∧ Below w.heap.size w wr) (fun i _ => len - (intOf i).toNat)
  case atStart => exact ⟨0, Nat.zero_le _, rfl, Below.refl _ _⟩
  case round =>
    obtain ⟨k, hk, rfl, hB⟩ := hrel
    by_cases hkl : (k : Int) < (len : Int)
    · obtain ⟨b1, o1, rfl, hb1, x0, x1, ta, tl, tc, x2, hn1⟩ := (HA.out.below hB).2 k (by omega)
      obtain ⟨b2, o2, rfl, hb2, y0, y1, tb, tl2, tc2, y2, hn2⟩ := (HB.out.below hB).2 k (by omega)
      have hts := HSH.out k
      obtain ⟨f, hf⟩ : ∃ f, fs.getD k rt0 = f := ⟨_, rfl⟩
      rw [hf] at x0 x1 y0 y1 hn1 hn2 hts
      obtain ⟨s, n, t⟩ := f
      simp only at x0 x1 y0 y1 hn1 hn2 hts
      obtain rfl : t.length = tl := hn1.1
      obtain rfl : t.length = tl2 := hn2.1
      have hn1' : InsIn wr.drew ta t.length t := hn1.below ⟨rfl, rfl, rfl, Nat.le_refl _, fun _ _ => rfl⟩
      have hn2' : InsIn wr.drew tb t.length t := hn2.below ⟨rfl, rfl, rfl, Nat.le_refl _, fun _ _ => rfl⟩
      clear hf hn1 hn2
      go_wp2
      go_region_held3 (fun w' => w'.cell? ⟨b1, o1 + k * 3, none⟩ = some (.string ⟨s.toArray⟩) ∧ w'.cell? ⟨b1, o1 + k * 3 + 1, none⟩ = some (.int .i64 n) ∧ w'.cell? ⟨b1, o1 + k * 3 + 2, none⟩ = some (.slice ta t.length tc) ∧ w'.cell? ⟨b2, o2 + k * 3, none⟩ = some (.string ⟨s.toArray⟩) ∧ w'.cell? ⟨b2, o2 + k * 3 + 1, none⟩ = some (.int .i64 n) ∧ w'.cell? ⟨b2, o2 + k * 3 + 2, none⟩ = some (.slice tb t.length tc2)) (go_keep) (first | (go_at_call 29; refine (eqRoutineC s n t ta tb t.length tc tc2 _ hn1' hn2' hts).mono ?_; rintro e w1 ⟨rfl, hw1⟩; have d0 : w1.cell? ⟨b1, o1 + k * 3, none⟩ = some (.string ⟨s.toArray⟩) := (hw1.cell (p := ⟨b1, o1 + k * 3, none⟩) hb1).trans x0; have d1 : w1.cell? ⟨b1, o1 + k * 3 + 1, none⟩ = some (.int .i64 n) := (hw1.cell (p := ⟨b1, o1 + k * 3 + 1, none⟩) hb1).trans x1; have d2 : w1.cell? ⟨b1, o1 + k * 3 + 2, none⟩ = some (.slice ta t.length tc) := (hw1.cell (p := ⟨b1, o1 + k * 3 + 2, none⟩) hb1).trans x2; have e0 : w1.cell? ⟨b2, o2 + k * 3, none⟩ = some (.string ⟨s.toArray⟩) := (hw1.cell (p := ⟨b2, o2 + k * 3, none⟩) hb2).trans y0; have e1 : w1.cell? ⟨b2, o2 + k * 3 + 1, none⟩ = some (.int .i64 n) := (hw1.cell (p := ⟨b2, o2 + k * 3 + 1, none⟩) hb2).trans y1; have e2 : w1.cell? ⟨b2, o2 + k * 3 + 2, none⟩ = some (.slice tb t.length tc2) := (hw1.cell (p := ⟨b2, o2 + k * 3 + 2, none⟩) hb2).trans y2))
      all_goals go_wp2
      go_roundw
      case rel => exact ⟨k + 1, by omega, by go_num, hB.trans ⟨hw1.os, hw1.tape, hw1.output, hw1.size, fun q hq => hw1.block q (by have := hB.size; show q < wr.heap.size; omega)⟩⟩
      case measure => simp [intOf]; omega
    · go_wp2
      go_ret
      exact ⟨rfl, hB⟩

end Go.Proofs.YthjemelnbbpdcaaDoor

/-! The laws' own helpers over rows of instructions: markInsS, heldInsS. -/
namespace Go.Proofs.YthjemelnbbpdcaaDoor
open Go.RowKit

/-- The marks of m instructions, from k on. -/
def marksC (k : Nat) : Nat → List In13
  | 0 => []
  | m + 1 => marksC k m ++ [(((k + 5 * m : Nat) : Int), ((k + 5 * m + 1 : Nat) : Int), ((k + 5 * m + 1 + 1 : Nat) : Int), ((k + 5 * m + 1 + 1 + 1 : Nat) : Int), markL (k + 5 * m + 1 + 1 + 1 + 1))]
theorem marksC_len (k m : Nat) : (marksC k m).length = m := by
  induction m with
  | zero => rfl
  | succ m ih => simp [marksC, ih]
theorem marksC_at (k m j : Nat) (h : j < m) : (marksC k m).getD j in0 = (((k + 5 * j : Nat) : Int), ((k + 5 * j + 1 : Nat) : Int), ((k + 5 * j + 1 + 1 : Nat) : Int), ((k + 5 * j + 1 + 1 + 1 : Nat) : Int), markL (k + 5 * j + 1 + 1 + 1 + 1)) := by
  induction m with
  | zero => omega
  | succ m ih =>
    unfold marksC
    by_cases hj : j < m
    · rw [← ih hj]
      simp [List.getD, List.getElem?_append, marksC_len, hj]
    · obtain rfl : j = m := by omega
      simp [List.getD, marksC_len]
theorem marksC_set (k i : Nat) (ns : List In13) (h : i < ns.length) : (marksC k i ++ ns.drop i).set i (((k + 5 * i : Nat) : Int), ((k + 5 * i + 1 : Nat) : Int), ((k + 5 * i + 1 + 1 : Nat) : Int), ((k + 5 * i + 1 + 1 + 1 : Nat) : Int), markL (k + 5 * i + 1 + 1 + 1 + 1)) = marksC k (i + 1) ++ ns.drop (i + 1) := by
  rw [List.set_append_right _ _ (by rw [marksC_len]; omega), marksC_len, Nat.sub_self, List.drop_eq_getElem_cons h, List.set_cons_zero]
  conv => rhs; unfold marksC
  rw [List.append_assoc]; rfl



end Go.Proofs.YthjemelnbbpdcaaDoor
