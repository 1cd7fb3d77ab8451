/-
  Parts of one proof, one behind the other: RtL, RtE, RtT, EqT, InsZ, RtIn.
-/
import Derived.Test.YtfhkiaogfopigaaGreatDoorQ7
import Derived.Deep.RegionHeld3
import Derived.Test.YtfhkiaogfopigaaGreatDoorQ4
import Derived.Test.YtfhkiaogfopigaaGreatDoorQ2
import Derived.SliceStrings

/-! The laws' own helpers over routines: szRoutine, szRoutineS. -/
namespace Go.Proofs.YtfhkiaogfopigaaGreatDoor
open Go.RowKit

def szR (m : Nat) (left : Int) : Int := if (m : Int) ≤ left then left - (m : Int) else -1
theorem szR_yes {m : Nat} {left : Int} (h : (m : Int) ≤ left) : szR m left = left - (m : Int) := by unfold szR; rw [if_pos h]
theorem szR_no {m : Nat} {left : Int} (h : ¬ (m : Int) ≤ left) : szR m left = -1 := by unfold szR; rw [if_neg h]

def rtSz (f : Rt) : Nat := f.1.length + (f.2.2.length + textsI f.2.2)
def rtsSz : List Rt → Nat
  | [] => 0
  | f :: r => rtSz f + rtsSz r
theorem rtsSz_append (x y : List Rt) : rtsSz (x ++ y) = rtsSz x + rtsSz y := by
  induction x with
  | nil => simp [rtsSz]
  | cons n r ih => simp only [List.cons_append, rtsSz, ih]; omega
theorem rtsSz_snoc (fs : List Rt) (k : Nat) (hk : k < fs.length) : rtsSz (fs.take (k + 1)) = rtsSz (fs.take k) + rtSz (fs.getD k rt0) := by
  have hg : fs.getD k rt0 = fs[k] := by simp [List.getD, hk]
  rw [hg, List.take_succ_eq_append_getElem hk, rtsSz_append]
  simp [rtsSz]
theorem rtsSz_take (fs : List Rt) (k : Nat) : rtsSz (fs.take k) ≤ rtsSz fs := by
  have := rtsSz_append (fs.take k) (fs.drop k)
  rw [List.take_append_drop] at this
  omega
theorem rtsSz_at (fs : List Rt) (j : Nat) : rtSz (fs.getD j rt0) ≤ rtsSz fs := by
  by_cases hj : j < fs.length
  · have h1 := rtsSz_snoc fs j hj
    have h2 := rtsSz_take fs (j + 1)
    omega
  · have : fs.getD j rt0 = rt0 := by rw [List.getD, List.getElem?_eq_none (by omega)]; rfl
    rw [this]; simp [rt0, rtSz, textsI]

def LongR (fs : List Rt) : Prop := ∀ j, (fs.getD j rt0).1.length ≤ maxLen ∧ (fs.getD j rt0).2.2.length ≤ maxLen ∧ LongI (fs.getD j rt0).2.2

theorem shortR_of {fs : List Rt} (h : rtsSz fs ≤ 1048576) : ShortR fs := fun j => by
  have h1 := rtsSz_at fs j
  unfold rtSz at h1
  exact ⟨by omega, by omega, shortI_of (by omega)⟩

set_option maxHeartbeats 1000000 in
set_option maxRecDepth 100000 in
theorem szRoutineC (s : List UInt8) (n : Int) (t : List In13) (ta : Option Addr) (tl tc : Nat) (left : Int) (w : World) (hin : InsIn w ta tl t) (h0 : 0 ≤ left) (h1 : left ≤ 1048576) (hs : s.length ≤ maxLen) (ht : t.length ≤ maxLen) (hm : LongI t) :
    Calls Tryz.prog 51 #[.agg #[.string ⟨s.toArray⟩, .int .i64 n, .slice ta tl tc], .int .i64 left] w fun e w' => e = .returned (.int .i64 (szR (rtSz (s, n, t)) left)) ∧ Below w.heap.size w w' := by
  obtain rfl : t.length = tl := hin.1
  unfold maxLen at hs
  have hs2 : (s.length : Int) ≤ 9223372036854775807 := by omega
  obtain ⟨W, hW⟩ : ∃ W, w.alloc (.cells #[.string ⟨s.toArray⟩, .int .i64 n, .slice ta t.length tc] 75) = W := ⟨_, rfl⟩
  have hbW : Below w.heap.size w W := by rw [← hW]; exact (Below.refl _ _).alloc (Nat.le_refl _) _
  have hA : W.heap[w.heap.size]? = some (.cells #[.string ⟨s.toArray⟩, .int .i64 n, .slice ta t.length tc] 75) := by rw [← hW]; exact heap_alloc_new w _
  have k0 : W.cell? ⟨w.heap.size, 0, none⟩ = some (.string ⟨s.toArray⟩) := by simp [World.cell?, hA]
  have k2 : W.cell? ⟨w.heap.size, 2, none⟩ = some (.slice ta t.length tc) := by simp [World.cell?, hA]
  have hinW := hin.below hbW
  clear hin hA
  by_cases hfit : (s.length : Int) ≤ left
  · have HC := szInsSC ta t.length tc t (left - (s.length : Int)) W hinW (by omega) (by omega) ht hm
    by_cases hfit2 : (t.length : Int) + (textsI t : Int) ≤ left - (s.length : Int)
    · have HZ : Hid (szN t.length (textsI t) (left - (s.length : Int)) = szR (rtSz (s, n, t)) left) := by exact (by rw [szN_yes hfit2, szR_yes (by unfold rtSz; simp only; omega)]; unfold rtSz; simp only; omega : szN t.length (textsI t) (left - (s.length : Int)) = szR (rtSz (s, n, t)) left)
      have hge : 0 ≤ szR (rtSz (s, n, t)) left := by rw [← HZ.out, szN_yes hfit2]; omega
      have hge2 : 0 ≤ left - (s.length : Int) := by omega
      rw [HZ.out] at HC
      generalize szR (rtSz (s, n, t)) left = z at HC hge ⊢
      clear HZ
      go_enter Tryz.func51, Tryz.ntmps51
      go_wp2_with fail
      refine HC.mono ?_
      rintro e w1 ⟨rfl, hb1⟩
      have hb : Below w.heap.size w w1 := hbW.trans (hb1.mono hbW.size)
      clear HC hb1
      go_wp2
      go_ret
      exact ⟨rfl, hb⟩
    · have HZ : Hid (szN t.length (textsI t) (left - (s.length : Int)) = -1) := szN_no hfit2
      have HR : Hid (szR (rtSz (s, n, t)) left = -1) := szR_no (by unfold rtSz; simp only; omega)
      have hge2 : 0 ≤ left - (s.length : Int) := by omega
      rw [HZ.out] at HC
      go_enter Tryz.func51, Tryz.ntmps51
      go_wp2_with fail
      refine HC.mono ?_
      rintro e w1 ⟨rfl, hb1⟩
      have hb : Below w.heap.size w w1 := hbW.trans (hb1.mono hbW.size)
      clear HC hb1
      go_wp2
      go_ret
      exact ⟨by rw [HR.out]; rfl, hb⟩
  · have HR : Hid (szR (rtSz (s, n, t)) left = -1) := szR_no (by unfold rtSz; simp only; omega)
    have hlt : left - (s.length : Int) < 0 := by omega
    go_enter Tryz.func51, Tryz.ntmps51
    go_wp2
    go_ret
    exact ⟨by rw [HR.out]; rfl, hbW⟩

set_option maxHeartbeats 2000000 in
set_option maxRecDepth 100000 in
theorem szRoutineSC (a : Option Addr) (len cap : Nat) (fs : List Rt) (left : Int) (w : World) (hin : RtsIn w a len fs) (h0 : 0 ≤ left) (h1 : left ≤ 1048576) (hl : len ≤ maxLen) (hm : LongR fs) :
    Calls Tryz.prog 25 #[.slice a len cap, .int .i64 left] w fun e w' => e = .returned (.int .i64 (szR (len + rtsSz fs) left)) ∧ Below w.heap.size w w' := by
  unfold maxLen at hl
  have hl2 : (len : Int) ≤ 9223372036854775807 := by omega
  have hlb := hin.1
  by_cases h : (len : Int) ≤ left
  · have hlen : len ≤ 1048576 := by omega
    have HI : Hid (RtsIn w a len fs) := hin
    have HM : Hid (LongR fs) := hm
    clear hin hm
    go_enter Tryz.func25, Tryz.ntmps25
    go_wp2
    go_loopw [1, 5] (fun l i wr => ∃ k : Nat, k ≤ len ∧ i = .int .i64 k ∧ l = .int .i64 (left - (len : Int) - (rtsSz (fs.take k) : Int)) ∧ (rtsSz (fs.take k) : Int) ≤ left - (len : Int) ∧ Below w.heap.size w wr) (fun _ i _ => len - (intOf i).toNat)
    case atStart => exact ⟨0, Nat.zero_le _, rfl, by simp [rtsSz], by simp [rtsSz]; omega, Below.refl _ _⟩
    case round =>
      obtain ⟨k, hk, rfl, rfl, hle, hB⟩ := hrel
      by_cases hkl : (k : Int) < (len : Int)
      · obtain ⟨b, off, rfl, hbl, c0, c1, ta, tl, tc, c2, hnin⟩ := (HI.out.below hB).2 k (by omega)
        have hmk := HM.out k
        have hst := rtsSz_snoc fs k (by omega)
        have htt := rtsSz_take fs (k + 1)
        obtain ⟨f, hf⟩ : ∃ f, fs.getD k rt0 = f := ⟨_, rfl⟩
        rw [hf] at c0 c1 hmk hst hnin
        obtain ⟨s, n, t⟩ := f
        simp only at c0 c1 hmk hnin
        obtain ⟨m, hmm⟩ : ∃ m, rtsSz (fs.take k) = m := ⟨_, rfl⟩
        rw [hmm] at hle hst ⊢
        obtain ⟨z, hz⟩ : ∃ z, rtSz (s, n, t) = z := ⟨_, rfl⟩
        have HC := szRoutineC s n t ta tl tc (left - (len : Int) - (m : Int)) wr hnin (by omega) (by omega) hmk.1 hmk.2.1 hmk.2.2
        rw [hz] at hst HC
        have HS : Hid (rtsSz (fs.take (k + 1)) = m + z) := hst
        clear hst hf hmm hz hnin
        by_cases hfit : (z : Int) ≤ left - (len : Int) - (m : Int)
        · have HZ : Hid (szR z (left - (len : Int) - (m : Int)) = left - (len : Int) - (rtsSz (fs.take (k + 1)) : Int)) := by
            exact (by rw [HS.out, szR_yes (by omega)]; omega : szR z (left - (len : Int) - (m : Int)) = left - (len : Int) - (rtsSz (fs.take (k + 1)) : Int))
          rw [HZ.out] at HC
          go_wp2_with fail
          refine HC.mono ?_
          rintro e w1 ⟨rfl, hb1⟩
          have hle2 : (rtsSz (fs.take (k + 1)) : Int) ≤ left - (len : Int) := by rw [HS.out]; omega
          have hge : (0 : Int) ≤ left - (len : Int) - (rtsSz (fs.take (k + 1)) : Int) := by omega
          clear HC
          go_wp2
          go_roundw
          case rel => exact ⟨k + 1, by omega, by go_num, rfl, hle2, hB.trans (hb1.mono hB.size)⟩
          case measure => simp [intOf]; omega
        · have HZ : Hid (szR z (left - (len : Int) - (m : Int)) = -1) := szR_no (by omega)
          have HR : Hid (szR (len + rtsSz fs) left = -1) := szR_no (by have := HS.out; omega)
          rw [HZ.out] at HC
          go_wp2_with fail
          refine HC.mono ?_
          rintro e w1 ⟨rfl, hb1⟩
          clear HC
          go_wp2
          go_ret
          exact ⟨by rw [HR.out]; rfl, hB.trans (hb1.mono hB.size)⟩
      · have HT : Hid (fs.take k = fs) := List.take_of_length_le (by omega)
        have HR : Hid (szR (len + rtsSz fs) left = left - (len : Int) - (rtsSz (fs.take k) : Int)) := by exact (by rw [HT.out] at hle ⊢; rw [szR_yes (by omega)]; omega : szR (len + rtsSz fs) left = left - (len : Int) - (rtsSz (fs.take k) : Int))
        go_wp2
        go_ret
        exact ⟨by rw [HR.out]; rfl, hB⟩
  · have HR : Hid (szR (len + rtsSz fs) left = -1) := szR_no (by omega)
    clear hin hm
    go_enter Tryz.func25, Tryz.ntmps25
    go_wp2
    go_ret
    exact ⟨by rw [HR.out]; rfl, Below.refl _ _⟩

end Go.Proofs.YtfhkiaogfopigaaGreatDoor

/-! The laws' own helpers over routines: eqRoutine, eqRoutineS. -/
namespace Go.Proofs.YtfhkiaogfopigaaGreatDoor
open Go.RowKit

set_option maxHeartbeats 1000000 in
set_option maxRecDepth 100000 in
theorem eqRoutineC (s : List UInt8) (n : Int) (t : List In13) (ta tb : Option Addr) (tl ca cb : Nat) (w : World) (ha : InsIn w ta tl t) (hb : InsIn w tb tl t) (hlen : tl ≤ 4194304) :
    Calls Tryz.prog 60 #[.agg #[.string ⟨s.toArray⟩, .int .i64 n, .slice ta tl ca], .agg #[.string ⟨s.toArray⟩, .int .i64 n, .slice tb tl cb]] w fun e w' => e = .returned (.bool true) ∧ Below w.heap.size w w' := by
  have h1 : ∀ n : Int, (n != n) = false := by simp
  have h2 : ∀ l : List UInt8, (l != l) = false := by simp
  have hbW : Below w.heap.size w ((w.alloc (.cells #[.string ⟨s.toArray⟩, .int .i64 n, .slice ta tl ca] 78)).alloc (.cells #[.string ⟨s.toArray⟩, .int .i64 n, .slice tb tl cb] 78)) := ((Below.refl _ _).alloc (Nat.le_refl _) _).alloc (by simp) _
  have HC := eqInsSC ta tb tl ca cb t _ (ha.below hbW) (hb.below hbW) hlen
  clear ha hb
  go_enter Tryz.func60, Tryz.ntmps60
  go_wp2_with fail
  refine HC.mono ?_
  rintro e w1 ⟨rfl, hb1⟩
  have hbd : Below w.heap.size w w1 := hbW.trans (hb1.mono hbW.size)
  clear HC hb1 hbW
  go_wp2
  go_ret
  exact ⟨rfl, hbd⟩

set_option maxHeartbeats 2000000 in
set_option maxRecDepth 100000 in
theorem eqRoutineSC (a b : Option Addr) (len ca cb : Nat) (fs : List Rt) (w : World) (ha : RtsIn w a len fs) (hb : RtsIn w b len fs) (hlen : len ≤ 4194304) (hsh : ∀ j, (fs.getD j rt0).2.2.length ≤ 4194304) :
    Calls Tryz.prog 32 #[.slice a len ca, .slice b len cb] w fun e w' => e = .returned (.bool true) ∧ Below w.heap.size w w' := by
  have HA : Hid (RtsIn w a len fs) := ha
  have HB : Hid (RtsIn w b len fs) := hb
  have HSH : Hid (∀ j, (fs.getD j rt0).2.2.length ≤ 4194304) := hsh
  clear ha hb hsh
  have h1 : ((len : Int) != (len : Int)) = false := by simp
  go_enter Tryz.func32, Tryz.ntmps32
  go_wp2
  go_loopw [5] (fun i wr => ∃ k : Nat, k ≤ len ∧ i = .int .i64 k ∧ Below w.heap.size w wr) (fun i _ => len - (intOf i).toNat)
  case atStart => exact ⟨0, Nat.zero_le _, rfl, Below.refl _ _⟩
  case round =>
    obtain ⟨k, hk, rfl, hB⟩ := hrel
    by_cases hkl : (k : Int) < (len : Int)
    · obtain ⟨b1, o1, rfl, hb1, x0, x1, ta, tl, tc, x2, hn1⟩ := (HA.out.below hB).2 k (by omega)
      obtain ⟨b2, o2, rfl, hb2, y0, y1, tb, tl2, tc2, y2, hn2⟩ := (HB.out.below hB).2 k (by omega)
      have hts := HSH.out k
      obtain ⟨f, hf⟩ : ∃ f, fs.getD k rt0 = f := ⟨_, rfl⟩
      rw [hf] at x0 x1 y0 y1 hn1 hn2 hts
      obtain ⟨s, n, t⟩ := f
      simp only at x0 x1 y0 y1 hn1 hn2 hts
      obtain rfl : t.length = tl := hn1.1
      obtain rfl : t.length = tl2 := hn2.1
      have hn1' : InsIn wr.drew ta t.length t := hn1.below ⟨rfl, rfl, rfl, Nat.le_refl _, fun _ _ => rfl⟩
      have hn2' : InsIn wr.drew tb t.length t := hn2.below ⟨rfl, rfl, rfl, Nat.le_refl _, fun _ _ => rfl⟩
      clear hf hn1 hn2
      go_wp2
      go_region_held3 (fun w' => w'.cell? ⟨b1, o1 + k * 3, none⟩ = some (.string ⟨s.toArray⟩) ∧ w'.cell? ⟨b1, o1 + k * 3 + 1, none⟩ = some (.int .i64 n) ∧ w'.cell? ⟨b1, o1 + k * 3 + 2, none⟩ = some (.slice ta t.length tc) ∧ w'.cell? ⟨b2, o2 + k * 3, none⟩ = some (.string ⟨s.toArray⟩) ∧ w'.cell? ⟨b2, o2 + k * 3 + 1, none⟩ = some (.int .i64 n) ∧ w'.cell? ⟨b2, o2 + k * 3 + 2, none⟩ = some (.slice tb t.length tc2)) (go_keep) (first | (go_at_call 60; refine (eqRoutineC s n t ta tb t.length tc tc2 _ hn1' hn2' hts).mono ?_; rintro e w1 ⟨rfl, hw1⟩; have d0 : w1.cell? ⟨b1, o1 + k * 3, none⟩ = some (.string ⟨s.toArray⟩) := (hw1.cell (p := ⟨b1, o1 + k * 3, none⟩) hb1).trans x0; have d1 : w1.cell? ⟨b1, o1 + k * 3 + 1, none⟩ = some (.int .i64 n) := (hw1.cell (p := ⟨b1, o1 + k * 3 + 1, none⟩) hb1).trans x1; have d2 : w1.cell? ⟨b1, o1 + k * 3 + 2, none⟩ = some (.slice ta t.length tc) := (hw1.cell (p := ⟨b1, o1 + k * 3 + 2, none⟩) hb1).trans x2; have e0 : w1.cell? ⟨b2, o2 + k * 3, none⟩ = some (.string ⟨s.toArray⟩) := (hw1.cell (p := ⟨b2, o2 + k * 3, none⟩) hb2).trans y0; have e1 : w1.cell? ⟨b2, o2 + k * 3 + 1, none⟩ = some (.int .i64 n) := (hw1.cell (p := ⟨b2, o2 + k * 3 + 1, none⟩) hb2).trans y1; have e2 : w1.cell? ⟨b2, o2 + k * 3 + 2, none⟩ = some (.slice tb t.length tc2) := (hw1.cell (p := ⟨b2, o2 + k * 3 + 2, none⟩) hb2).trans y2))
      all_goals go_wp2
      go_roundw
      case rel => exact ⟨k + 1, by omega, by go_num, hB.trans ⟨hw1.os, hw1.tape, hw1.output, hw1.size, fun q hq => hw1.block q (by have := hB.size; show q < wr.heap.size; omega)⟩⟩
      case measure => simp [intOf]; omega
    · go_wp2
      go_ret
      exact ⟨rfl, hB⟩

end Go.Proofs.YtfhkiaogfopigaaGreatDoor

/-! The laws' own helpers over routines: toRoutine, toRoutineS. -/
namespace Go.Proofs.YtfhkiaogfopigaaGreatDoor
open Go.RowKit

set_option maxHeartbeats 2000000 in
set_option maxRecDepth 100000 in
theorem toRoutineC (s : List UInt8) (n : Int) (t : List In13) (ta : Option Addr) (tl tc : Nat) (w : World) (hin : InsIn w ta tl t) (hlen : tl ≤ 1048576) :
    Calls Tryz.prog 56 #[.agg #[.string ⟨s.toArray⟩, .int .i64 n, .slice ta tl tc]] w fun e w' => ∃ a c, e = .returned (.agg #[.string ⟨s.toArray⟩, .int .i64 n, .slice a t.length c]) ∧ w'.ownsRow w.heap.size 81 5 (.slice a t.length c) t.length (insV t) ∧ Below w.heap.size w w' := by
  obtain rfl : t.length = tl := hin.1
  obtain ⟨D, hD⟩ : ∃ D, w.heap.size = D := ⟨_, rfl⟩
  obtain ⟨W1, hW1⟩ : ∃ W, w.alloc (.cells #[.string ⟨s.toArray⟩, .int .i64 n, .slice ta t.length tc] 75) = W := ⟨_, rfl⟩
  obtain ⟨W2, hW2⟩ : ∃ W, W1.alloc (.cells #[.string ⟨#[]⟩, .int .i64 0, .slice none 0 0] 78) = W := ⟨_, rfl⟩
  have hs1 : W1.heap.size = D + 1 := by rw [← hW1, ← hD]; simp
  have hs2 : W2.heap.size = D + 2 := by rw [← hW2]; simp [hs1]
  have hb1 : Below D w W1 := by rw [← hW1, ← hD]; exact (Below.refl _ _).alloc (Nat.le_refl _) _
  have hb12 : Below W1.heap.size W1 W2 := by rw [← hW2]; exact (Below.refl _ _).alloc (Nat.le_refl _) _
  have hb2 : Below D w W2 := hb1.trans (hb12.mono (by omega))
  have hA1 : W1.heap[D]? = some (.cells #[.string ⟨s.toArray⟩, .int .i64 n, .slice ta t.length tc] 75) := by rw [← hW1, ← hD]; exact heap_alloc_new w _
  have hR : W2.heap[D + 1]? = some (.cells #[.string ⟨#[]⟩, .int .i64 0, .slice none 0 0] 78) := by rw [← hs1, ← hW2]; exact heap_alloc_new W1 _
  obtain ⟨q0, q1, q2, _⟩ := threeR hb12 (by omega) hA1
  have a0 : ∀ o, (W2.alloc o).cell? ⟨D, 0, none⟩ = some (.string ⟨s.toArray⟩) := fun o => cell_alwR o q0
  have a1 : ∀ o, (W2.alloc o).cell? ⟨D, 1, none⟩ = some (.int .i64 n) := fun o => cell_alwR o q1
  have a2 : ∀ o, (W2.alloc o).cell? ⟨D, 2, none⟩ = some (.slice ta t.length tc) := fun o => cell_alwR o q2
  have HIN : Hid (InsIn W2 ta t.length t) := hin.below (by rw [hD]; exact hb2)
  clear hin hA1 q0 q1 q2
  go_enter Tryz.func56, Tryz.ntmps56
  go_wp2_with fail
  obtain ⟨V, hV⟩ : ∃ V, W2.alloc (.cells #[.string ⟨s.toArray⟩, .int .i64 n, .slice none 0 0] 78) = V := ⟨_, rfl⟩
  rw [hV]
  have hbV : Below W2.heap.size W2 V := by rw [← hV]; exact (Below.refl _ _).alloc (Nat.le_refl _) _
  have hsV : V.heap.size = D + 3 := by rw [← hV]; simp [hs2]
  have hL : V.heap[D + 2]? = some (.cells #[.string ⟨s.toArray⟩, .int .i64 n, .slice none 0 0] 78) := by rw [← hs2, ← hV]; exact heap_alloc_new W2 _
  have hRV : V.heap[D + 1]? = some (.cells #[.string ⟨#[]⟩, .int .i64 0, .slice none 0 0] 78) := (hbV.block _ (by omega)).trans hR
  refine (toInsSC ta t.length tc t V (HIN.out.below hbV) hlen).mono ?_
  rintro e w4 ⟨v, rfl, hown, _, hb4⟩
  obtain ⟨_, a', c', rfl, _⟩ := own_ins hown
  obtain ⟨l0, l1, l2, lf⟩ := threeR hb4 (by omega) hL
  obtain ⟨r0, r1, r2, rf⟩ := threeR hb4 (by omega) hRV
  have hB4 : Below D w w4 := hb2.trans ((hbV.mono (by omega)).trans (hb4.mono (by omega)))
  have hs4 : D + 3 ≤ w4.heap.size := by have := hb4.size; omega
  rw [hsV] at hown
  obtain ⟨U, hU⟩ : ∃ U, w4.setCell ⟨D + 2, 2, none⟩ (.slice a' t.length c') = U := ⟨_, rfl⟩
  have hgU : w4.grownBy U (some (D + 2)) := by rw [← hU]; exact grown_set _ _ _ _
  have u0 : U.cell? ⟨D + 2, 0, none⟩ = some (.string ⟨s.toArray⟩) := by rw [← hU]; exact (World.cell?_setCell_other _ _ _ _ (by simp)).trans l0
  have u1 : U.cell? ⟨D + 2, 1, none⟩ = some (.int .i64 n) := by rw [← hU]; exact (World.cell?_setCell_other _ _ _ _ (by simp)).trans l1
  have u2 : U.cell? ⟨D + 2, 2, none⟩ = some (.slice a' t.length c') := by rw [← hU]; exact World.cell?_setCell_same _ _ _ l2
  have p0 : U.cell? ⟨D + 1, 0, none⟩ = some (.string ⟨#[]⟩) := by rw [← hU]; exact (World.cell?_setCell_other _ _ _ _ (by simp)).trans r0
  have p1 : U.cell? ⟨D + 1, 1, none⟩ = some (.int .i64 0) := by rw [← hU]; exact (World.cell?_setCell_other _ _ _ _ (by simp)).trans r1
  have p2 : U.cell? ⟨D + 1, 2, none⟩ = some (.slice none 0 0) := by rw [← hU]; exact (World.cell?_setCell_other _ _ _ _ (by simp)).trans r2
  have pf : ∀ j, U.frozen? ⟨D + 1, j, none⟩ = false := fun j => by rw [← hU]; exact (World.frozen?_setCell ..).trans (rf j)
  have pf0 := pf 0
  have pf1 := pf 1
  have pf2 := pf 2
  have lf2 := lf 2
  have HOU : Hid (U.ownsRow (D + 3) 81 5 (.slice a' t.length c') t.length (insV t)) := hown.kept hgU (own_offR hown (by omega))
  have HBU : Hid (Below D w U) := hB4.grown hgU (by omega) (fun k e => by injection e with e; omega)
  have hsU : D + 3 ≤ U.heap.size := Nat.le_trans hs4 hgU.size
  clear hown hb4 hB4 hgU pf lf rf l0 l1 r0 r1 r2 a0 a1 a2 hL hRV hR hbV hb12 hb1 hb2 HIN
  go_wp2
  obtain ⟨Y, hY, y0, y1, y2, hg⟩ := set3R (.string ⟨s.toArray⟩) (.int .i64 n) (.slice a' t.length c') p0 p1 p2
  rw [hY]
  refine bodyPost_ret (v := .agg #[.string ⟨s.toArray⟩, .int .i64 n, .slice a' t.length c']) (by simp [results, Tryz.results56, go_sem, y0, y1, y2]) rfl ?_
  exact ⟨a', c', rfl, own_base (HOU.out.kept hg (own_offR HOU.out (by omega))) (by omega), by rw [hD]; exact HBU.out.grown hg (by omega) (fun k e => by injection e with e; omega)⟩

theorem rtsV_set (xs : List RV) (j : Nat) (y : RV) : (((rtsV xs).set (j * 3) (.string ⟨y.1.1.toArray⟩)).set (j * 3 + 1) (.int .i64 y.1.2.1)).set (j * 3 + 2) (rvT y) = rtsV (xs.set j y) := by
  induction xs generalizing j with
  | nil => simp [rtsV]
  | cons b r ih =>
    cases j with
    | zero => simp [rtsV]
    | succ j => rw [show (j + 1) * 3 = j * 3 + 1 + 1 + 1 by omega]; simp [rtsV, ih]

theorem made_rts (n : Nat) : (madeCells (Value.agg #[.string ⟨#[]⟩, .int .i64 0, .slice none 0 0]).cells (n * 3)).toList = rtsV (List.replicate n rv0) := by
  have hc : (Value.agg #[.string ⟨#[]⟩, .int .i64 0, .slice none 0 0]).cells = #[.string ⟨#[]⟩, .int .i64 0, .slice none 0 0] := rfl
  rw [hc]
  apply List.ext_getElem?
  intro j
  by_cases hj : j < n * 3
  · obtain ⟨v0, v1, v2⟩ := rtsV_at (List.replicate n rv0) (j / 3) (by simp; omega)
    have hg : (List.replicate n rv0).getD (j / 3) rv0 = rv0 := by simp [List.getD, List.getElem?_replicate]; split <;> rfl
    rw [hg] at v0 v1 v2
    have h3 : j % 3 = 0 ∨ j % 3 = 1 ∨ j % 3 = 2 := by omega
    rcases h3 with h' | h' | h'
    · have ej : j = j / 3 * 3 := by omega
      rw [← ej] at v0
      rw [v0]
      simp [madeCells, hj, h', rv0, rt0]
    · have ej : j = j / 3 * 3 + 1 := by omega
      rw [← ej] at v1
      rw [v1]
      simp [madeCells, hj, h', rv0, rt0]
    · have ej : j = j / 3 * 3 + 2 := by omega
      rw [← ej] at v2
      rw [v2]
      simp [madeCells, hj, h', rv0, rt0, rvT]
  · rw [List.getElem?_eq_none (by simp [madeCells]; omega), List.getElem?_eq_none (by rw [rtsV_len]; simp; omega)]

theorem fill_rt (ys : List RV) (len k : Nat) (y : RV) (hy : ys.length = k) (hk : k < len) : (ys ++ List.replicate (len - k) rv0).set k y = (ys ++ [y]) ++ List.replicate (len - (k + 1)) rv0 := by
  rw [List.set_append_right _ _ (by omega), hy, Nat.sub_self, show len - k = (len - (k + 1)) + 1 by omega, List.replicate_succ, List.set_cons_zero, List.append_assoc]
  rfl

set_option maxHeartbeats 4000000 in
set_option maxRecDepth 100000 in
theorem toRoutineSC (a : Option Addr) (len cap : Nat) (fs : List Rt) (w : World) (hin : RtsIn w a len fs) (hlen : len ≤ 1048576) (hsh : ∀ j, (fs.getD j rt0).2.2.length ≤ 1048576) :
    Calls Tryz.prog 28 #[.slice a len cap] w fun e w' => ∃ g xs, e = .returned (.slice (some ⟨g, 0, none⟩) len len) ∧ xs.map (·.1) = fs ∧ RtsOwn w' w.heap.size (.slice (some ⟨g, 0, none⟩) len len) xs ∧ ApartR (xs.map rvT) ∧ Below w.heap.size w w' := by
  obtain ⟨i0, hi, hz0, hz1, hz2⟩ := info_parts infoRt
  have hlb := hin.1
  have HI : Hid (RtsIn w a len fs) := hin
  have HSH : Hid (∀ j, (fs.getD j rt0).2.2.length ≤ 1048576) := hsh
  clear hin hsh
  go_enter Tryz.func28, Tryz.ntmps28
  go_wp2_with (at_make; refine wpList_make_full _ rfl _ _ 27 rfl w.heap.size 78 i0 _ 3 Tryz.underlying27 hi hz0 hz1 .i64 .i64 _ _ len rfl rfl rfl rfl (by rw [hz2]; omega) (by unfold maxLen; omega) (Nat.le_refl _) ?_; intro w1 hown1 hgrow1)
  rw [made_rts] at hown1
  have hB1 : Below w.heap.size w w1 := (Below.refl _ _).grown hgrow1 (Nat.le_refl _) (by simp)
  clear hgrow1
  go_loopw [4] (fun i wr => ∃ (k : Nat) (ys : List RV), k ≤ len ∧ i = .int .i64 k ∧ ys.length = k ∧ Hid (ys.map (·.1) = fs.take k) ∧ Hid (wr.ownsRow w.heap.size 78 3 (.slice (some ⟨w.heap.size, 0, none⟩) len len) len (rtsV (ys ++ List.replicate (len - k) rv0))) ∧ Hid (∀ x ∈ ys, wr.ownsRow w.heap.size 81 5 (rvT x) x.1.2.2.length (insV x.1.2.2)) ∧ Hid (ApartR (ys.map rvT)) ∧ Below w.heap.size w wr) (fun i _ => len - (intOf i).toNat)
  case atStart => exact ⟨0, [], Nat.zero_le _, rfl, rfl, (by simp : ([] : List RV).map (·.1) = fs.take 0), (by simpa using hown1 : w1.ownsRow w.heap.size 78 3 (.slice (some ⟨w.heap.size, 0, none⟩) len len) len (rtsV ([] ++ List.replicate (len - 0) rv0))), (fun x hx => (by cases hx) : ∀ x ∈ ([] : List RV), _), ApartR.nil, hB1⟩
  case round =>
    obtain ⟨k, ys, hk, rfl, hyl, HM, HR, HT, HAP, hB⟩ := hrel
    clear hown1 hB1
    by_cases hkl : (k : Int) < (len : Int)
    · obtain ⟨b, off, rfl, hbl, c0, c1, ta, tl, tc, c2, hnin⟩ := (HI.out.below hB).2 k (by omega)
      have hts := HSH.out k
      have hmk : fs.take (k + 1) = fs.take k ++ [fs.getD k rt0] := by
        have hg : fs.getD k rt0 = fs[k]'(by omega) := by simp [List.getD, show k < fs.length by omega]
        rw [hg, List.take_succ_eq_append_getElem]
      obtain ⟨f, hf⟩ : ∃ f, fs.getD k rt0 = f := ⟨_, rfl⟩
      rw [hf] at c0 c1 hnin hts hmk
      obtain ⟨s, n, t⟩ := f
      simp only at c0 c1 hnin hts
      obtain rfl : t.length = tl := hnin.1
      have HMK : Hid (fs.take (k + 1) = fs.take k ++ [(s, n, t)]) := hmk
      have HC := toRoutineC s n t ta t.length tc wr hnin (by omega)
      clear hf hnin hmk
      go_wp2_with fail
      refine HC.mono ?_
      rintro e w2 ⟨av, cv, rfl, hownT, hb2⟩
      have hown2 := own_below HR.out hb2
      have hT2 : ∀ x ∈ ys, w2.ownsRow w.heap.size 81 5 (rvT x) x.1.2.2.length (insV x.1.2.2) := fun x hx => own_below (HT.out x hx) hb2
      have hl2 : (ys ++ List.replicate (len - k) rv0).length = len := by rw [List.length_append, List.length_replicate]; omega
      obtain ⟨v0, v1, v2⟩ := rtsV_at (ys ++ List.replicate (len - k) rv0) k (by omega)
      obtain ⟨u0, d0⟩ : ∃ u, w2.cell? ⟨w.heap.size, k * 3, none⟩ = some u := by
        rw [hown2.cellAt (k * 3) (by omega), v0]; exact ⟨_, rfl⟩
      obtain ⟨u1, d1⟩ : ∃ u, w2.cell? ⟨w.heap.size, k * 3 + 1, none⟩ = some u := by
        rw [hown2.cellAt (k * 3 + 1) (by omega), v1]; exact ⟨_, rfl⟩
      obtain ⟨u2, d2⟩ : ∃ u, w2.cell? ⟨w.heap.size, k * 3 + 2, none⟩ = some u := by
        rw [hown2.cellAt (k * 3 + 2) (by omega), v2]; exact ⟨_, rfl⟩
      have e0 := hown2.frozenAt (k * 3)
      have e1 := hown2.frozenAt (k * 3 + 1)
      have e2 := hown2.frozenAt (k * 3 + 2)
      have hs1 := hown2.stored (k * 3) (.string ⟨s.toArray⟩)
      have hs2 := hs1.1.stored (k * 3 + 1) (.int .i64 n)
      have hs3 := hs2.1.stored (k * 3 + 2) (.slice av t.length cv)
      have hnew := hs3.1
      have hset := rtsV_set (ys ++ List.replicate (len - k) rv0) k ((s, n, t), av, cv)
      rw [fill_rt ys len k _ hyl (by omega)] at hset
      have hfv : rvT ((s, n, t), av, cv) = .slice av t.length cv := rfl
      rw [hfv] at hset
      simp only at hset
      rw [hset] at hnew
      have hgr : w2.grownBy (((w2.setCell ⟨w.heap.size, k * 3, none⟩ (.string ⟨s.toArray⟩)).setCell ⟨w.heap.size, k * 3 + 1, none⟩ (.int .i64 n)).setCell ⟨w.heap.size, k * 3 + 2, none⟩ (.slice av t.length cv)) (some w.heap.size) := ((grown_set _ _ _ _).trans (grown_set _ _ _ _)).trans (grown_set _ _ _ _)
      have hsome : (Value.slice (some ⟨w.heap.size, 0, none⟩) len len).ownBlock = some w.heap.size := rfl
      have offT : ∀ {v : Value} {m : Nat} {zs : List Value}, w2.ownsRow w.heap.size 81 5 v m zs → v.ownBlock = none ∨ v.ownBlock ≠ some w.heap.size := fun ho => by rw [← hsome]; exact own_typesR ho hown2 (by decide)
      have hB2 : Below w.heap.size w w2 := hB.trans (hb2.mono hB.size)
      have hownT2 := own_base hownT hB.size
      have HAP2 : Hid (ApartR ((ys ++ [((s, n, t), av, cv)]).map rvT)) := by
        rw [List.map_append]
        refine HAP.out.snoc (fun v hv => ?_)
        obtain ⟨x, hx, rfl⟩ := List.mem_map.1 hv
        exact own_aheadR (HT.out x hx) hownT (Nat.le_refl _)
      have HN : Hid (Below w.heap.size w (((w2.setCell ⟨w.heap.size, k * 3, none⟩ (.string ⟨s.toArray⟩)).setCell ⟨w.heap.size, k * 3 + 1, none⟩ (.int .i64 n)).setCell ⟨w.heap.size, k * 3 + 2, none⟩ (.slice av t.length cv))) := hB2.grown hgr hB2.size (fun q e => by injection e with e; omega)
      have HR2 : Hid ((((w2.setCell ⟨w.heap.size, k * 3, none⟩ (.string ⟨s.toArray⟩)).setCell ⟨w.heap.size, k * 3 + 1, none⟩ (.int .i64 n)).setCell ⟨w.heap.size, k * 3 + 2, none⟩ (.slice av t.length cv)).ownsRow w.heap.size 78 3 (.slice (some ⟨w.heap.size, 0, none⟩) len len) len (rtsV ((ys ++ [((s, n, t), av, cv)]) ++ List.replicate (len - (k + 1)) rv0))) := hnew
      have HT2 : Hid (∀ x ∈ ys ++ [((s, n, t), av, cv)], (((w2.setCell ⟨w.heap.size, k * 3, none⟩ (.string ⟨s.toArray⟩)).setCell ⟨w.heap.size, k * 3 + 1, none⟩ (.int .i64 n)).setCell ⟨w.heap.size, k * 3 + 2, none⟩ (.slice av t.length cv)).ownsRow w.heap.size 81 5 (rvT x) x.1.2.2.length (insV x.1.2.2)) := fun x hx => by
        rw [List.mem_append, List.mem_singleton] at hx
        rcases hx with hx | rfl
        · exact (hT2 x hx).kept hgr (offT (hT2 x hx))
        · exact hownT2.kept hgr (offT hownT2)
      have HM2 : Hid ((ys ++ [((s, n, t), av, cv)]).map (·.1) = fs.take (k + 1)) := by exact (by rw [List.map_append, HM.out, HMK.out]; rfl : (ys ++ [((s, n, t), av, cv)]).map (·.1) = fs.take (k + 1))
      have hsz2 : w.heap.size < w2.heap.size := World.block_lt_of_cell? w2 ⟨w.heap.size, k * 3, none⟩ d0
      clear hown2 hs1 hs2 hs3 hl2 v0 v1 v2 hnew hset hfv hgr hsome offT hB2 hownT2 hownT HC HR HT HM hT2 HMK
      go_wp2
      go_roundw
      case rel => exact ⟨k + 1, ys ++ [((s, n, t), av, cv)], by omega, by go_num, by simp [hyl], HM2, HR2, HT2, HAP2, HN.out⟩
      case measure => simp [intOf]; omega
    · have hd : ys ++ List.replicate (len - k) rv0 = ys := by rw [show len - k = 0 by omega]; simp
      have hrow := HR.out
      rw [hd] at hrow
      have HF : Hid (RtsOwn wr w.heap.size (.slice (some ⟨w.heap.size, 0, none⟩) len len) ys) := (⟨by rw [show ys.length = len by omega]; exact hrow, HT.out⟩ : RtsOwn wr w.heap.size (.slice (some ⟨w.heap.size, 0, none⟩) len len) ys)
      have HM2 : Hid (ys.map (·.1) = fs) := by exact (by rw [HM.out]; exact List.take_of_length_le (by omega) : ys.map (·.1) = fs)
      clear hd hrow HR HT HM
      go_wp2
      go_ret
      exact ⟨w.heap.size, rfl, ys, HM2.out, HF.out, HAP.out, hB⟩

end Go.Proofs.YtfhkiaogfopigaaGreatDoor

/-! The laws' own helper eqStringS over texts that can be read. -/
namespace Go.Proofs.YtfhkiaogfopigaaGreatDoor
open Go.RowKit

set_option maxHeartbeats 1000000 in
set_option maxRecDepth 100000 in
theorem eqTextsC (a b : Option Addr) (len ca cb : Nat) (ts : List (List UInt8)) (w : World) (ha : TextsIn w a len ts) (hb : TextsIn w b len ts) (hlen : len ≤ 4194304) :
    Calls Tryz.prog 45 #[.slice a len ca, .slice b len cb] w fun e w' => e = .returned (.bool true) ∧ Below w.heap.size w w' := by
  have hne : ((len : Int) != (len : Int)) = false := by simp
  have hself : ∀ l : List UInt8, (l != l) = false := by simp
  have HA : Hid (TextsIn w a len ts) := ha
  have HB : Hid (TextsIn w b len ts) := hb
  clear ha hb
  go_enter Tryz.func45, Tryz.ntmps45
  go_wp2
  go_loopw [5] (fun i wr => ∃ k : Nat, k ≤ len ∧ i = .int .i64 k ∧ Below w.heap.size w wr) (fun i _ => len - (intOf i).toNat)
  case atStart => exact ⟨0, Nat.zero_le _, rfl, Below.refl _ _⟩
  case round =>
    obtain ⟨k, hk, rfl, hB⟩ := hrel
    by_cases hkl : (k : Int) < (len : Int)
    · obtain ⟨b1, o1, rfl, hb1, hca⟩ := (HA.out.below hB).2 k (by omega)
      obtain ⟨b2, o2, rfl, hb2, hcb⟩ := (HB.out.below hB).2 k (by omega)
      obtain ⟨t, ht⟩ : ∃ t, ts.getD k [] = t := ⟨_, rfl⟩
      rw [ht] at hca hcb
      clear ht
      go_wp2
      go_region
      all_goals (try go_wp2)
      go_roundw
      case rel => exact ⟨k + 1, by omega, by go_num, hB.drew⟩
      case measure => simp [intOf]; omega
    · go_wp2
      go_ret
      exact ⟨rfl, hB⟩

end Go.Proofs.YtfhkiaogfopigaaGreatDoor

/-! A row of instructions that came in. -/
namespace Go.Proofs.YtfhkiaogfopigaaGreatDoor
open Go.ChangeShapes Go.WideShapes Go.ChangeAt Go.RowKit Go.Joins Go.Deep

end Go.Proofs.YtfhkiaogfopigaaGreatDoor

/-! An image that came in, as the walks take it. -/
namespace Go.Proofs.YtfhkiaogfopigaaGreatDoor
open Go.ChangeShapes Go.WideShapes Go.ChangeAt Go.RowKit Go.Joins Go.Deep

def IntR (rs : List Rt) : Prop := ∀ j, (-9223372036854775808 ≤ (rs.getD j rt0).2.1 ∧ (rs.getD j rt0).2.1 ≤ 9223372036854775807) ∧ IntIs (rs.getD j rt0).2.2
theorem intIs_nil : IntIs [] := fun j => by rw [show ([] : List In13).getD j in0 = in0 by simp]; exact intI_in0
section
variable {H : Type} {enc : TypeId × Value → H} {W : World} {base : Nat} {spare : Nat → Bool} {held : Bool} {fuel : Nat} {v : Value} {x : DataW H × List MemPlace}
set_option maxRecDepth 100000 in
theorem trod_inss (hf : DataW.trod enc Tryz.prog W base spare held fuel 73 [v] = some x) :
    ∃ a len cap ns, v = .slice a len cap ∧ InsIn W a len ns ∧ len ≤ maxLen ∧ LongI ns ∧ IntIs ns := by
  rcases open_slice Tryz.underlying73 hf with ⟨hcs, _⟩ | ⟨a, len, cap, q, n, D, Pl, hcs, _, hl, hm, hq, _, hx⟩
  · simp at hcs
    subst hcs
    exact ⟨none, 0, 0, [], rfl, ⟨rfl, fun j hj => by omega⟩, by decide, (fun j => by simp [in0]), (fun j => by rw [show ([] : List In13).getD j in0 = in0 by simp]; exact intI_in0)⟩
  · simp at hcs
    subst hcs
    have hlq : len ≤ q := by rw [hq]; split <;> omega
    have each : ∀ i, i < len → ∃ x : In13, W.cell? (a.add (i * 5)) = some (.int .i64 x.1) ∧ W.cell? (a.add (i * 5 + 1)) = some (.int .i64 x.2.1) ∧ W.cell? (a.add (i * 5 + 2)) = some (.int .i64 x.2.2.1) ∧ W.cell? (a.add (i * 5 + 3)) = some (.int .i64 x.2.2.2.1) ∧ W.cell? (a.add (i * 5 + 4)) = some (.string ⟨x.2.2.2.2.toArray⟩) ∧ x.2.2.2.2.length ≤ maxLen ∧ IntI x := by
      intro i hi
      obtain ⟨cs', h1, h2⟩ := hx i (by omega)
      rw [cellsIns] at h1
      obtain ⟨_, hlen, hcell⟩ := World.cells?_some h1
      match cs', hlen with
      | [v0, v1, v2, v3, v4], _ =>
        obtain ⟨xs, k, _, _, _, hxl, hxx⟩ := DataW.trod_struct Tryz.underlying115 h2
        match xs, hxl with
        | [y0, y1, y2, y3, y4], _ =>
          have t0 := hxx 0 _ rfl
          have t1 := hxx 1 _ rfl
          have t2 := hxx 2 _ rfl
          have t3 := hxx 3 _ rfl
          have t4 := hxx 4 _ rfl
          obtain ⟨k0, e0, _, w0⟩ := DataW.trod_int Tryz.underlying2 t0
          obtain ⟨k1, e1, _, w1⟩ := DataW.trod_int Tryz.underlying2 t1
          obtain ⟨k2, e2, _, w2⟩ := DataW.trod_int Tryz.underlying2 t2
          obtain ⟨k3, e3, _, w3⟩ := DataW.trod_int Tryz.underlying2 t3
          obtain ⟨s4, e4, _, z4⟩ := DataW.trod_string Tryz.underlying9 t4
          simp [cells2] at e0 e1 e2 e3
          simp [cells9] at e4
          subst e0 e1 e2 e3 e4
          have g0 := hcell 0 (by omega)
          have g1 := hcell 1 (by omega)
          have g2 := hcell 2 (by omega)
          have g3 := hcell 3 (by omega)
          have g4 := hcell 4 (by omega)
          rw [add_add] at g0 g1 g2 g3 g4
          exact ⟨(k0, k1, k2, k3, s4.data.toList), by simpa using g0, by simpa using g1, by simpa using g2, by simpa using g3, by simpa using g4, z4, ⟨bounds_i64 w0, bounds_i64 w1, bounds_i64 w2, bounds_i64 w3⟩⟩
    obtain ⟨f, hf2⟩ := choose_lt each
    refine ⟨some a, len, cap, (List.range len).map f, rfl, ⟨by simp, fun j hj => ?_⟩, by omega, (fun j => ?_), (fun j => ?_)⟩
    rotate_left
    · by_cases hj : j < len
      · have hg : ((List.range len).map f).getD j in0 = f j := by simp [List.getD, hj]
        rw [hg]; exact (hf2 j hj).2.2.2.2.2.1
      · have hg : ((List.range len).map f).getD j in0 = in0 := by simp [List.getD, hj]
        rw [hg]; simp [in0]
    · by_cases hj : j < len
      · have hg : ((List.range len).map f).getD j in0 = f j := by simp [List.getD, hj]
        rw [hg]; exact (hf2 j hj).2.2.2.2.2.2
      · have hg : ((List.range len).map f).getD j in0 = in0 := by simp [List.getD, hj]
        rw [hg]; exact intI_in0
    obtain ⟨c0, c1, c2, c3, c4, _, _⟩ := hf2 j hj
    have hsp : a.spot = none := by
      have h0 := (hf2 0 (by omega)).1
      simpa [Addr.add] using World.cell?_spot h0
    obtain ⟨b, off, spot⟩ := a
    simp at hsp
    subst hsp
    have e : ∀ i, (⟨b, off, none⟩ : Addr).add i = ⟨b, off + i, none⟩ := fun i => by unfold Addr.add; split <;> simp_all
    rw [e] at c0 c1 c2 c3 c4
    have hg : ((List.range len).map f).getD j in0 = f j := by simp [List.getD, hj]
    rw [hg]
    exact ⟨b, off, rfl, World.block_lt_of_cell? W ⟨b, off + j * 5, none⟩ c0, c0, by rw [Nat.add_assoc]; exact c1, by rw [Nat.add_assoc]; exact c2, by rw [Nat.add_assoc]; exact c3, by rw [Nat.add_assoc]; exact c4⟩
theorem cellsRt : Tryz.prog.cellsOf 75 = 3 := by kernel_rfl
set_option maxRecDepth 100000 in
theorem trod_rts (hf : DataW.trod enc Tryz.prog W base spare held fuel 22 [v] = some x) :
    ∃ a len cap fs, v = .slice a len cap ∧ RtsIn W a len fs ∧ len ≤ maxLen ∧ LongR fs ∧ IntR fs := by
  rcases open_slice Tryz.underlying22 hf with ⟨hcs, _⟩ | ⟨a, len, cap, q, n, D, Pl, hcs, _, hl, hm, hq, _, hx⟩
  · simp at hcs
    subst hcs
    exact ⟨none, 0, 0, [], rfl, ⟨rfl, fun j hj => by omega⟩, by decide, (fun j => by simp [rt0, LongI, in0]), (fun j => ⟨by simp [rt0], intIs_nil⟩)⟩
  · simp at hcs
    subst hcs
    have hlq : len ≤ q := by rw [hq]; split <;> omega
    have each : ∀ i, i < len → ∃ y : Rt, W.cell? (a.add (i * 3)) = some (.string ⟨y.1.toArray⟩) ∧ W.cell? (a.add (i * 3 + 1)) = some (.int .i64 y.2.1) ∧
        (∃ ta tl tc, W.cell? (a.add (i * 3 + 2)) = some (.slice ta tl tc) ∧ InsIn W ta tl y.2.2) ∧ (y.1.length ≤ maxLen ∧ y.2.2.length ≤ maxLen ∧ LongI y.2.2) ∧ ((-9223372036854775808 ≤ y.2.1 ∧ y.2.1 ≤ 9223372036854775807) ∧ IntIs y.2.2) := by
      intro i hi
      obtain ⟨cs', h1, h2⟩ := hx i (by omega)
      rw [cellsRt] at h1
      obtain ⟨_, hlen, hcell⟩ := World.cells?_some h1
      match cs', hlen with
      | [v0, v1, v2], _ =>
        obtain ⟨y0, y1, y2, k, _, _, t0, t1, t2⟩ := trod_struct3 Tryz.underlying75 h2
        have k2 : Tryz.prog.cellsOf 2 = 1 := by kernel_rfl
        have k9 : Tryz.prog.cellsOf 9 = 1 := by kernel_rfl
        have kn : Tryz.prog.cellsOf 73 = 1 := by kernel_rfl
        simp [k2, k9, kn] at t0 t1 t2
        obtain ⟨s0, e0, _, z0⟩ := DataW.trod_string Tryz.underlying9 t0
        obtain ⟨aa, e1, _, wa⟩ := DataW.trod_int Tryz.underlying2 t1
        obtain ⟨ta, tl, tc, ns, e2, hns, hnl, hlt, hit⟩ := trod_inss t2
        simp at e0 e1
        subst e0 e1 e2
        have g0 := hcell 0 (by omega)
        have g1 := hcell 1 (by omega)
        have g2 := hcell 2 (by omega)
        rw [add_add] at g0 g1 g2
        exact ⟨(s0.data.toList, aa, ns), by simpa using g0, by simpa using g1, ⟨ta, tl, tc, by simpa using g2, hns⟩, ⟨z0, by rw [show ((s0.data.toList, aa, ns) : Rt).2.2 = ns from rfl, hns.1]; exact hnl, hlt⟩, ⟨bounds_i64 wa, hit⟩⟩
    obtain ⟨f, hf2⟩ := choose_lt each
    refine ⟨some a, len, cap, (List.range len).map f, rfl, ⟨by simp, fun j hj => ?_⟩, by omega, (fun j => ?_), (fun j => ?_)⟩
    rotate_left
    · by_cases hj : j < len
      · have hg : ((List.range len).map f).getD j rt0 = f j := by simp [List.getD, hj]
        rw [hg]; exact (hf2 j hj).2.2.2.1
      · have hg : ((List.range len).map f).getD j rt0 = rt0 := by simp [List.getD, hj]
        rw [hg]; simp [rt0, LongI, in0]
    · by_cases hj : j < len
      · have hg : ((List.range len).map f).getD j rt0 = f j := by simp [List.getD, hj]
        rw [hg]; exact (hf2 j hj).2.2.2.2
      · have hg : ((List.range len).map f).getD j rt0 = rt0 := by simp [List.getD, hj]
        rw [hg]; exact ⟨by simp [rt0], intIs_nil⟩
    obtain ⟨c0, c1, ⟨ta, tl, tc, c2, hns⟩, _, _⟩ := hf2 j hj
    have hsp : a.spot = none := by
      have h0 := (hf2 0 (by omega)).1
      simpa [Addr.add] using World.cell?_spot h0
    obtain ⟨b, off, spot⟩ := a
    simp at hsp
    subst hsp
    have e : ∀ i, (⟨b, off, none⟩ : Addr).add i = ⟨b, off + i, none⟩ := fun i => by unfold Addr.add; split <;> simp_all
    rw [e] at c0 c1 c2
    have hg : ((List.range len).map f).getD j rt0 = f j := by simp [List.getD, hj]
    rw [hg]
    exact ⟨b, off, rfl, World.block_lt_of_cell? W ⟨b, off + j * 3, none⟩ c0, c0, by rw [Nat.add_assoc]; exact c1, ta, tl, tc, by rw [Nat.add_assoc]; exact c2, hns⟩
end
end Go.Proofs.YtfhkiaogfopigaaGreatDoor
