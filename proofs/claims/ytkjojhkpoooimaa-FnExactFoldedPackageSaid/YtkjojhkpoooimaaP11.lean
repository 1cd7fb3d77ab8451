/-
  Parts of one proof, one behind the other: FnMS, FnMP, ProjT, ProjM, NodeIn.
-/
import Derived.Test.YtkjojhkpoooimaaP10
import Derived.Test.YtkjojhkpoooimaaP8
import Derived.Deep.RegionWith
import Derived.Test.YtkjojhkpoooimaaP9
import Derived.Test.YtkjojhkpoooimaaP7
import Derived.Test.YtkjojhkpoooimaaRows
import Derived.WalkKit
import Derived.ProofKit
import Derived.OpenShut
import Derived.ShutString
import Derived.ChangeOld
import Derived.Below
import Derived.Lib.SmallJoins
import Derived.Deep.SlicePairs

/-! The laws' own helpers over lists of functions: what several blocks' writing leaves; marks of functions. -/
namespace Go.Proofs.Ytkjojhkpoooimaa
open Go.RowKit

/-- What functions hold when they are marked from k on, and the next mark. -/
def fmk (k : Nat) (x : FV) : FV := ((markL k, ((k + 1 : Nat) : Int), marksN (k + 2) x.1.2.2.length), x.2)
def fmark (k : Nat) : List FV → List FV
  | [] => []
  | x :: r => fmk k x :: fmark (k + 2 + 4 * x.1.2.2.length) r
def fend (k : Nat) : List FV → Nat
  | [] => k
  | x :: r => fend (k + 2 + 4 * x.1.2.2.length) r

theorem fmk_T (k : Nat) (x : FV) : fvT (fmk k x) = fvT x := by unfold fvT fmk; rw [marksN_len]
theorem fmark_len (k : Nat) (xs : List FV) : (fmark k xs).length = xs.length := by
  induction xs generalizing k with
  | nil => rfl
  | cons x r ih => simp [fmark, ih]
theorem fmark_snoc (k : Nat) (xs : List FV) (x : FV) : fmark k (xs ++ [x]) = fmark k xs ++ [fmk (fend k xs) x] ∧ fend k (xs ++ [x]) = fend k xs + 2 + 4 * x.1.2.2.length := by
  induction xs generalizing k with
  | nil => exact ⟨rfl, rfl⟩
  | cons y r ih =>
    have := ih (k + 2 + 4 * y.1.2.2.length)
    exact ⟨by rw [List.cons_append, fmark, this.1]; rfl, by rw [List.cons_append, fend, this.2]; rfl⟩
theorem fend_ge (k : Nat) (xs : List FV) : k ≤ fend k xs := by
  induction xs generalizing k with
  | nil => exact Nat.le_refl _
  | cons x r ih => have := ih (k + 2 + 4 * x.1.2.2.length); unfold fend; omega
theorem fend_app (k : Nat) (xs ys : List FV) : fend k (xs ++ ys) = fend (fend k xs) ys := by
  induction xs generalizing k with
  | nil => rfl
  | cons x r ih => rw [List.cons_append, fend, ih]; rfl
theorem fend_take (k : Nat) (xs : List FV) (m : Nat) : fend k (xs.take m) ≤ fend k xs := by
  conv => rhs; rw [← List.take_append_drop m xs, fend_app]
  exact fend_ge _ _

/-- Half way: m functions are marked. -/
def fhalf (k : Nat) (xs : List FV) (m : Nat) : List FV := fmark k (xs.take m) ++ xs.drop m
theorem fhalf_len (k : Nat) (xs : List FV) (m : Nat) : (fhalf k xs m).length = xs.length := by
  unfold fhalf; rw [List.length_append, fmark_len, ← List.length_append, List.take_append_drop]
theorem fhalf_at (k : Nat) (xs : List FV) (m : Nat) (hm : m < xs.length) : (fhalf k xs m).getD m fv0 = xs[m] := by
  unfold fhalf
  have hl : (fmark k (xs.take m)).length = m := by rw [fmark_len, List.length_take]; omega
  rw [List.getD_eq_getElem?_getD, List.getElem?_append_right (by omega), hl, Nat.sub_self, List.getElem?_drop, Nat.add_zero, List.getElem?_eq_getElem hm]
  rfl
theorem fhalf_step (k : Nat) (xs : List FV) (m : Nat) (hm : m < xs.length) : (fhalf k xs m).set m (fmk (fend k (xs.take m)) xs[m]) = fhalf k xs (m + 1) ∧ fend k (xs.take (m + 1)) = fend k (xs.take m) + 2 + 4 * xs[m].1.2.2.length := by
  have h1 := fmark_snoc k (xs.take m) xs[m]
  rw [← List.take_succ_eq_append_getElem hm] at h1
  refine ⟨?_, h1.2⟩
  have hl : (fmark k (xs.take m)).length = m := by rw [fmark_len, List.length_take]; omega
  unfold fhalf
  rw [h1.1, List.set_append_right _ _ (by omega), hl, Nat.sub_self, List.drop_eq_getElem_cons hm, List.set_cons_zero, List.append_assoc]
  rfl
theorem fhalf_T (k : Nat) (xs : List FV) (m : Nat) : (fhalf k xs m).map fvT = xs.map fvT := by
  have key : ∀ (k : Nat) (l : List FV), (fmark k l).map fvT = l.map fvT := by
    intro k l
    induction l generalizing k with
    | nil => rfl
    | cons x r ih => rw [fmark, List.map_cons, List.map_cons, fmk_T, ih]
  unfold fhalf
  rw [List.map_append, key, ← List.map_append, List.take_append_drop]

theorem set_same {α : Type} {l : List α} {i : Nat} {a : α} (h : l[i]? = some a) : l.set i a = l := by
  apply List.ext_getElem?
  intro j
  rw [List.getElem?_set]
  split
  · rename_i e
    subst e
    split
    · exact h.symm
    · rename_i hl; rw [List.getElem?_eq_none (by omega)]
  · rfl

def FnBlocks (v : Value) (xs : List FV) (k : Nat) : Prop := v.ownBlock = some k ∨ ∃ x ∈ xs, (fvT x).ownBlock = some k

set_option maxHeartbeats 2000000 in
set_option maxRecDepth 100000 in
theorem markFuncSC (w : World) (base g cp k0 : Nat) (xs : List FV) (hn : xs.length ≤ 1100000) (hk0 : 0 < k0) (hk1 : fend k0 xs ≤ 30000000) (hls : ∀ x ∈ xs, x.1.2.2.length ≤ 1100000) (hap : Apart (xs.map fvT))
    (h : FnsOwn w base (.slice (some ⟨g, 0, none⟩) xs.length cp) xs) :
    Calls Try.prog 53 #[.slice (some ⟨g, 0, none⟩) xs.length cp, .int .i64 k0] w fun e w' => e = .returned (.int .i64 ((fend k0 xs : Nat) : Int)) ∧ FnsOwn w' base (.slice (some ⟨g, 0, none⟩) xs.length cp) (fmark k0 xs) ∧ Wrote w w' (FnBlocks (.slice (some ⟨g, 0, none⟩) xs.length cp) xs) := by
  have HAP : Hid (Apart (xs.map fvT)) := hap
  have HLS : Hid (∀ x ∈ xs, x.1.2.2.length ≤ 1100000) := hls
  have hst0 : fhalf k0 xs 0 = xs := rfl
  have H0 : Hid (FnsOwn w base (.slice (some ⟨g, 0, none⟩) xs.length cp) (fhalf k0 xs 0)) := h
  clear hap hls h hst0
  go_enter Try.func53, Try.ntmps53
  go_wp2
  go_loopw [1, 5] (fun k i wr => ∃ m : Nat, m ≤ xs.length ∧ i = .int .i64 m ∧ k = .int .i64 ((fend k0 (xs.take m) : Nat) : Int) ∧ Hid (FnsOwn wr base (.slice (some ⟨g, 0, none⟩) xs.length cp) (fhalf k0 xs m)) ∧ Hid (Wrote w wr (FnBlocks (.slice (some ⟨g, 0, none⟩) xs.length cp) xs))) (fun _ i _ => xs.length - (intOf i).toNat)
  case atStart => exact ⟨0, Nat.zero_le _, rfl, rfl, H0, Wrote.refl _ _⟩
  case round =>
    obtain ⟨m, hm, rfl, rfl, HO, HW⟩ := hrel
    clear H0
    by_cases hlt : (m : Int) < (xs.length : Int)
    · have hm2 : m < xs.length := by omega
      obtain ⟨hset, hend⟩ := fhalf_step k0 xs m hm2
      have hat := fhalf_at k0 xs m hm2
      have hfl := fhalf_len k0 xs m
      have hT := fhalf_T k0 xs m
      have hend2 := fend_take k0 xs (m + 1)
      have hxl := HLS.out xs[m] (List.getElem_mem hm2)
      obtain ⟨ys, hys⟩ : ∃ ys, fhalf k0 xs m = ys := ⟨_, rfl⟩
      rw [hys] at hset hat hfl hT HO
      obtain ⟨x, hx⟩ : ∃ x, xs[m] = x := ⟨_, rfl⟩
      rw [hx] at hset hat hend hxl
      obtain ⟨q, hq⟩ : ∃ q, fend k0 (xs.take m) = q := ⟨_, rfl⟩
      have hq0 : 0 < q := by rw [← hq]; have := fend_ge k0 (xs.take m); omega
      rw [hq] at hset hend ⊢
      have hq3 : q + 2 + 4 * x.1.2.2.length ≤ 30000000 := by omega
      have HSET : Hid (ys.set m (fmk q x) = fhalf k0 xs (m + 1)) := hset
      have HEND : Hid (fend k0 (xs.take (m + 1)) = q + 2 + 4 * x.1.2.2.length) := hend
      have HT : Hid (ys.map fvT = xs.map fvT) := hT
      have HX : Hid (∃ h : m < ys.length, ys[m] = x) := ⟨by omega, by rw [List.getD_eq_getElem?_getD, List.getElem?_eq_getElem (by omega)] at hat; exact hat⟩
      have HFL : Hid (ys.length = xs.length) := hfl
      have HXM : Hid (x ∈ xs) := by rw [← hx]; exact List.getElem_mem hm2
      obtain ⟨v0, v1, v2⟩ := fnsV_at ys m (by omega)
      rw [hat] at v0 v1 v2
      have hrow := HO.out.row
      rw [hfl] at hrow
      clear hset hend hend2 hys hx hq hT hat hfl
      obtain ⟨zs, hzs⟩ : ∃ zs, fnsV ys = zs := ⟨_, rfl⟩
      have hzset := fnsV_set ys m (fmk q x)
      rw [hzs] at hrow v0 v1 v2 hzset
      have HZ : Hid (((zs.set (m * 3) (.string ⟨(markL q).toArray⟩)).set (m * 3 + 1) (.int .i64 ((q : Int) + 1))).set (m * 3 + 2) (fvT x) = fnsV (ys.set m (fmk q x))) := by
        rw [← fmk_T q x, show (q : Int) + 1 = ((q + 1 : Nat) : Int) by omega]; exact hzset
      clear hzset
      have htree : wr.ownsRow base 28 4 (fvT x) x.1.2.2.length (nodesV x.1.2.2) := by
        obtain ⟨hl, he⟩ := HX.out
        rw [← he]; exact HO.out.trees _ (List.getElem_mem hl)
      obtain ⟨hxl2, ta, tc, htv, _⟩ := own_nodes htree
      have HTV : Hid (fvT x = .slice ta x.1.2.2.length tc) := htv
      rw [htv] at v2
      clear hzs htv
      go_wp2_with fail
      refine (markTextC q _ (by omega) (by omega)).mono ?_
      rintro e w2 ⟨rfl, hg2⟩
      have hrow2 := own_none hrow hg2
      obtain ⟨u0, d0⟩ : ∃ u, w2.cell? ⟨g, m * 3, none⟩ = some u := by rw [hrow2.cellAt (m * 3) (by omega), v0]; exact ⟨_, rfl⟩
      obtain ⟨u1, d1⟩ : ∃ u, w2.cell? ⟨g, m * 3 + 1, none⟩ = some u := by rw [hrow2.cellAt (m * 3 + 1) (by omega), v1]; exact ⟨_, rfl⟩
      have d2 : w2.cell? ⟨g, m * 3 + 2, none⟩ = some (.slice ta x.1.2.2.length tc) := by rw [hrow2.cellAt (m * 3 + 2) (by omega), v2]
      have e0 := hrow2.frozenAt (m * 3)
      have e1 := hrow2.frozenAt (m * 3 + 1)
      have hs1 := hrow2.stored (m * 3) (.string ⟨(markL q).toArray⟩)
      have hs2 := hs1.1.stored (m * 3 + 1) (.int .i64 ((q : Int) + 1))
      have hW3 : Wrote w ((w2.setCell ⟨g, m * 3, none⟩ (.string ⟨(markL q).toArray⟩)).setCell ⟨g, m * 3 + 1, none⟩ (.int .i64 ((q : Int) + 1))) (FnBlocks (.slice (some ⟨g, 0, none⟩) xs.length cp) xs) :=
        ((HW.out.trans (Wrote.of_grown hg2 (fun _ e => by cases e))).trans (Wrote.of_grown hs1.2 (fun _ e => Or.inl e))).trans (Wrote.of_grown hs2.2 (fun _ e => Or.inl e))
      have htrees : ∀ z ∈ ys, ((w2.setCell ⟨g, m * 3, none⟩ (.string ⟨(markL q).toArray⟩)).setCell ⟨g, m * 3 + 1, none⟩ (.int .i64 ((q : Int) + 1))).ownsRow base 28 4 (fvT z) z.1.2.2.length (nodesV z.1.2.2) := by
        intro z hz
        have t1 := own_none (HO.out.trees z hz) hg2
        have hd := own_types t1 hrow2 (by decide)
        have t2 := t1.kept hs1.2 hd
        exact t2.kept hs2.2 hd
      have d2b : ((w2.setCell ⟨g, m * 3, none⟩ (.string ⟨(markL q).toArray⟩)).setCell ⟨g, m * 3 + 1, none⟩ (.int .i64 ((q : Int) + 1))).cell? ⟨g, m * 3 + 2, none⟩ = some (.slice ta x.1.2.2.length tc) := by
        rw [hs2.1.cellAt (m * 3 + 2) (by omega), List.getElem?_set_ne (by omega), List.getElem?_set_ne (by omega), v2]
      obtain ⟨W3, hW3e⟩ : ∃ W3, (w2.setCell ⟨g, m * 3, none⟩ (.string ⟨(markL q).toArray⟩)).setCell ⟨g, m * 3 + 1, none⟩ (.int .i64 ((q : Int) + 1)) = W3 := ⟨_, rfl⟩
      have hrow3 := hs2.1
      rw [hW3e] at hrow3 hW3 htrees d2b
      have HR3 : Hid (W3.ownsRow base 31 3 (.slice (some ⟨g, 0, none⟩) xs.length cp) xs.length ((zs.set (m * 3) (.string ⟨(markL q).toArray⟩)).set (m * 3 + 1) (.int .i64 ((q : Int) + 1)))) := hrow3
      have HW3 : Hid (Wrote w W3 (FnBlocks (.slice (some ⟨g, 0, none⟩) xs.length cp) xs)) := hW3
      have HTR : Hid (∀ z ∈ ys, W3.ownsRow base 28 4 (fvT z) z.1.2.2.length (nodesV z.1.2.2)) := htrees
      have htree3 : W3.ownsRow base 28 4 (.slice ta x.1.2.2.length tc) x.1.2.2.length (nodesV x.1.2.2) := by
        obtain ⟨hl, he⟩ := HX.out
        have h3 := htrees _ (List.getElem_mem hl)
        rw [he, HTV.out] at h3
        exact h3
      have HM : Hid (_) := markNodeSV W3 base x.1.2.2.length (q + 2) (.slice ta x.1.2.2.length tc) x.1.2.2 (by omega) (by omega) (by omega) htree3
      rw [show ((q + 2 : Nat) : Int) = (q : Int) + 1 + 1 by omega] at HM
      have HT3 : Hid (W3.ownsRow base 28 4 (.slice ta x.1.2.2.length tc) x.1.2.2.length (nodesV x.1.2.2)) := htree3
      have HV2 : Hid (zs[m * 3 + 2]? = some (.slice ta x.1.2.2.length tc)) := v2
      clear hs1 hs2 hW3 htrees hrow3 hrow2 hrow hg2 htree htree3 HW v0 v1 v2
      go_wp2_with fail
      refine Calls.mono HM.out ?_
      rintro e w4 ⟨rfl, hown4, hg4⟩
      have HO4 : Hid (FnsOwn w4 base (.slice (some ⟨g, 0, none⟩) xs.length cp) (fhalf k0 xs (m + 1))) := by
        have hrow4 := HR3.out.kept hg4 (own_types HR3.out HT3.out (by decide))
        have hz3 : ((zs.set (m * 3) (.string ⟨(markL q).toArray⟩)).set (m * 3 + 1) (.int .i64 ((q : Int) + 1))) = fnsV (ys.set m (fmk q x)) := by
          rw [← HZ.out, HTV.out]
          exact (set_same (by rw [List.getElem?_set_ne (by omega), List.getElem?_set_ne (by omega)]; exact HV2.out)).symm
        rw [hz3] at hrow4
        rw [← HSET.out]
        refine ⟨by rw [List.length_set, HFL.out]; exact hrow4, fun z hz => ?_⟩
        obtain ⟨j, hj, rfl⟩ := List.mem_iff_getElem.1 hz
        rw [List.length_set] at hj
        rw [List.getElem_set]
        by_cases hjm : m = j
        · subst hjm
          rw [if_pos rfl, fmk_T, HTV.out]
          show w4.ownsRow base _ 4 _ (marksN (q + 2) x.1.2.2.length).length (nodesV (marksN (q + 2) x.1.2.2.length))
          rw [marksN_len]
          exact hown4
        · rw [if_neg hjm]
          refine (HTR.out _ (List.getElem_mem hj)).kept hg4 ?_
          obtain ⟨hl, he⟩ := HX.out
          have hap : Apart (ys.map fvT) := by rw [HT.out]; exact HAP.out
          have hne := hap.ne (i := j) (j := m) (by simpa using hj) (by simpa using hl) (fun e => hjm e.symm)
          rw [List.getElem_map, List.getElem_map, he, HTV.out] at hne
          exact hne
      have HW4 : Hid (Wrote w w4 (FnBlocks (.slice (some ⟨g, 0, none⟩) xs.length cp) xs)) := HW3.out.trans (Wrote.of_grown hg4 (fun k e => Or.inr ⟨x, HXM.out, by rw [HTV.out]; exact e⟩))
      clear hown4 hg4 HR3 HT3 HTR HW3 HM HZ HSET HT HX HV2 HTV HXM HFL d0 d1 d2 d2b e0 e1 HO
      go_wp2
      go_roundw
      case rel => exact ⟨m + 1, by omega, by go_num, by rw [HEND.out]; go_num, HO4, HW4⟩
      case measure => simp [intOf]; omega
    · obtain rfl : m = xs.length := by omega
      have hO := HO.out
      have HK : Hid (fend k0 (xs.take xs.length) = fend k0 xs) := by exact (by rw [List.take_length] : fend k0 (xs.take xs.length) = fend k0 xs)
      have HH : Hid (fhalf k0 xs xs.length = fmark k0 xs) := by exact (by unfold fhalf; rw [List.take_length, List.drop_length, List.append_nil] : fhalf k0 xs xs.length = fmark k0 xs)
      rw [HH.out] at hO
      go_wp2
      go_ret
      exact ⟨by rw [← HK.out]; rfl, hO, HW.out⟩

theorem fmark_at (k : Nat) (xs : List FV) (m : Nat) (hm : m < xs.length) : (fmark k xs).getD m fv0 = fmk (fend k (xs.take m)) xs[m] := by
  induction xs generalizing k m with
  | nil => simp at hm
  | cons x r ih =>
    cases m with
    | zero => rfl
    | succ m =>
      have := ih (k + 2 + 4 * x.1.2.2.length) m (by simpa using hm)
      rw [List.take_succ_cons, fend, List.getElem_cons_succ, ← this]
      rfl

set_option maxHeartbeats 2000000 in
set_option maxRecDepth 100000 in
theorem heldFuncSC (w : World) (base g cp k0 : Nat) (xs : List FV) (hn : xs.length ≤ 1100000) (hk0 : 0 < k0) (hk1 : fend k0 xs ≤ 30000000) (hls : ∀ x ∈ xs, x.1.2.2.length ≤ 1100000)
    (h : FnsOwn w base (.slice (some ⟨g, 0, none⟩) xs.length cp) (fmark k0 xs)) :
    Calls Try.prog 55 #[.slice (some ⟨g, 0, none⟩) xs.length cp, .int .i64 k0] w fun e w' => e = .returned (.int .i64 ((fend k0 xs : Nat) : Int)) ∧ w.grownBy w' none := by
  have hself : ∀ l : List UInt8, (l != l) = false := by simp
  have hne : ∀ n : Int, (n != n) = false := by simp
  have HLS : Hid (∀ x ∈ xs, x.1.2.2.length ≤ 1100000) := hls
  have HF : Hid (FnsOwn w base (.slice (some ⟨g, 0, none⟩) xs.length cp) (fmark k0 xs)) := h
  clear hls h
  go_enter Try.func55, Try.ntmps55
  go_wp2
  go_loopw [1, 5] (fun k i wr => ∃ m : Nat, m ≤ xs.length ∧ i = .int .i64 m ∧ k = .int .i64 ((fend k0 (xs.take m) : Nat) : Int) ∧ w.grownBy wr none) (fun _ i _ => xs.length - (intOf i).toNat)
  case atStart => exact ⟨0, Nat.zero_le _, rfl, rfl, World.grownBy.refl _ _⟩
  case round =>
    obtain ⟨m, hm, rfl, rfl, hg⟩ := hrel
    by_cases hlt : (m : Int) < (xs.length : Int)
    · have hm2 : m < xs.length := by omega
      have hend := (fhalf_step k0 xs m hm2).2
      have hend2 := fend_take k0 xs (m + 1)
      have hat := fmark_at k0 xs m hm2
      have hxl := HLS.out xs[m] (List.getElem_mem hm2)
      have hfl := fmark_len k0 xs
      have hrow := HF.out.row
      rw [hfl] at hrow
      obtain ⟨v0, v1, v2⟩ := fnsV_at (fmark k0 xs) m (by omega)
      have hmem : (fmark k0 xs).getD m fv0 ∈ fmark k0 xs := by rw [List.getD_eq_getElem?_getD, List.getElem?_eq_getElem (by omega)]; exact List.getElem_mem (by omega)
      have htr := HF.out.trees _ hmem
      rw [hat] at v0 v1 v2 htr
      obtain ⟨x, hx⟩ : ∃ x, xs[m] = x := ⟨_, rfl⟩
      obtain ⟨q, hq⟩ : ∃ q, fend k0 (xs.take m) = q := ⟨_, rfl⟩
      rw [hx, hq] at v0 v1 v2 htr
      rw [hx, hq] at hend
      rw [hx] at hxl
      have hq0 : 0 < q := by rw [← hq]; have := fend_ge k0 (xs.take m); omega
      have hq3 : q + 2 + 4 * x.1.2.2.length ≤ 30000000 := by omega
      have HEND : Hid (fend k0 (xs.take (m + 1)) = q + 2 + 4 * x.1.2.2.length) := hend
      rw [hq]
      have c0 : wr.cell? ⟨g, m * 3, none⟩ = some (.string ⟨(markL q).toArray⟩) := hg.cell (a := ⟨g, m * 3, none⟩) ((hrow.cellAt (m * 3) (by omega)).trans v0) (by simp)
      have c1 : wr.cell? ⟨g, m * 3 + 1, none⟩ = some (.int .i64 ((q : Int) + 1)) := hg.cell (a := ⟨g, m * 3 + 1, none⟩) ((hrow.cellAt (m * 3 + 1) (by omega)).trans (v1.trans (by show some (Value.int .i64 ((q + 1 : Nat) : Int)) = _; rw [show ((q + 1 : Nat) : Int) = (q : Int) + 1 by omega]))) (by simp)
      have c2 : wr.cell? ⟨g, m * 3 + 2, none⟩ = some (fvT (fmk q x)) := hg.cell (a := ⟨g, m * 3 + 2, none⟩) ((hrow.cellAt (m * 3 + 2) (by omega)).trans v2) (by simp)
      have ht3 : wr.ownsRow base 28 4 (fvT x) x.1.2.2.length (nodesV (marksN (q + 2) x.1.2.2.length)) := by
        have t := own_none htr hg
        rw [fmk_T] at t
        have e1 : (fmk q x).1.2.2 = marksN (q + 2) x.1.2.2.length := rfl
        rw [e1, marksN_len] at t
        exact t
      rw [fmk_T] at c2
      obtain ⟨_, ta, tc, htv, _⟩ := own_nodes ht3
      rw [htv] at c2 ht3
      have HT3 : Hid (wr.ownsRow base 28 4 (.slice ta x.1.2.2.length tc) x.1.2.2.length (nodesV (marksN (q + 2) x.1.2.2.length))) := ht3
      generalize x.1.2.2.length = n at c2 HT3 HEND hq3 hxl
      have hge : ¬ ((q + 2 + 4 * n : Nat) : Int) < 0 := by omega
      clear v0 v1 v2 hrow htr hmem hat hfl hend hend2 hx hq ht3 htv
      go_wp2
      go_region_with (go_at_call 41; refine (markTextC q _ (by omega) (by omega)).mono ?_; rintro e w1 ⟨rfl, hg1⟩; have x0 := hg1.cell (a := ⟨g, m * 3, none⟩) c0 (by simp); have x1 := hg1.cell (a := ⟨g, m * 3 + 1, none⟩) c1 (by simp); have x2 := hg1.cell (a := ⟨g, m * 3 + 2, none⟩) c2 (by simp))
      all_goals
        have hG1 : wr.grownBy w1 none := by first | exact hg1 | exact (grown_drew _ _).trans hg1
        have HM := heldNodeSV w1 base n (q + 2) (.slice ta n tc) (by omega) (by omega) (by omega) (own_none HT3.out hG1)
        rw [show ((q + 2 : Nat) : Int) = (q : Int) + 1 + 1 by omega] at HM
        have HM2 : Hid (_) := HM
        clear HM hg1
        go_wp2_with fail
        refine Calls.mono HM2.out ?_
        rintro e w2 ⟨rfl, hg2⟩
        have hG2 := (hg.trans hG1).trans hg2
        clear HM2 hg2
        go_wp2
        go_roundw
        case rel => exact ⟨m + 1, by omega, by go_num, by rw [HEND.out]; go_num, hG2⟩
        case measure => simp [intOf]; omega
    · obtain rfl : m = xs.length := by omega
      have HK : Hid (fend k0 (xs.take xs.length) = fend k0 xs) := by exact (by rw [List.take_length] : fend k0 (xs.take xs.length) = fend k0 xs)
      go_wp2
      go_ret
      exact ⟨by rw [← HK.out]; rfl, hg⟩

end Go.Proofs.Ytkjojhkpoooimaa

/-! The laws' own helpers over packages: markPackage, heldPackage. -/
namespace Go.Proofs.Ytkjojhkpoooimaa
open Go.RowKit

set_option maxHeartbeats 400000 in
set_option maxRecDepth 100000 in
theorem markFuncSNil (w : World) (k0 : Nat) :
    Calls Try.prog 53 #[.slice none 0 0, .int .i64 k0] w fun e w' => e = .returned (.int .i64 (k0 : Int)) ∧ w' = w := by
  go_enter Try.func53, Try.ntmps53
  go_wp2
  refine wp_loop_rounds 1 ?_
  rw [rounds_succ]
  go_wp2
  go_ret
  exact ⟨rfl, rfl⟩

theorem markFuncSV (w : World) (base k0 : Nat) (v : Value) (xs : List FV) (hn : xs.length ≤ 1100000) (hk0 : 0 < k0) (hk1 : fend k0 xs ≤ 30000000) (hls : ∀ x ∈ xs, x.1.2.2.length ≤ 1100000) (hap : Apart (xs.map fvT)) (h : FnsOwn w base v xs) :
    Calls Try.prog 53 #[v, .int .i64 k0] w fun e w' => e = .returned (.int .i64 ((fend k0 xs : Nat) : Int)) ∧ FnsOwn w' base v (fmark k0 xs) ∧ Wrote w w' (FnBlocks v xs) := by
  rcases own_forms h.row with ⟨rfl, h0, _⟩ | ⟨g, cp, rfl⟩
  · obtain rfl : xs = [] := List.eq_nil_of_length_eq_zero h0
    refine (markFuncSNil w k0).mono ?_
    rintro e w' ⟨rfl, rfl⟩
    exact ⟨rfl, FnsOwn.nil _ _, Wrote.refl _ _⟩
  · exact markFuncSC w base g cp k0 xs hn hk0 hk1 hls hap h

set_option maxHeartbeats 400000 in
set_option maxRecDepth 100000 in
theorem heldFuncSNil (w : World) (k0 : Nat) :
    Calls Try.prog 55 #[.slice none 0 0, .int .i64 k0] w fun e w' => e = .returned (.int .i64 (k0 : Int)) ∧ w' = w := by
  go_enter Try.func55, Try.ntmps55
  go_wp2
  refine wp_loop_rounds 1 ?_
  rw [rounds_succ]
  go_wp2
  go_ret
  exact ⟨rfl, rfl⟩

theorem heldFuncSV (w : World) (base k0 : Nat) (v : Value) (xs : List FV) (hn : xs.length ≤ 1100000) (hk0 : 0 < k0) (hk1 : fend k0 xs ≤ 30000000) (hls : ∀ x ∈ xs, x.1.2.2.length ≤ 1100000) (h : FnsOwn w base v (fmark k0 xs)) :
    Calls Try.prog 55 #[v, .int .i64 k0] w fun e w' => e = .returned (.int .i64 ((fend k0 xs : Nat) : Int)) ∧ w.grownBy w' none := by
  have hl := fmark_len k0 xs
  rcases own_forms h.row with ⟨rfl, h0, _⟩ | ⟨g, cp, rfl⟩
  · obtain rfl : xs = [] := List.eq_nil_of_length_eq_zero (by omega)
    refine (heldFuncSNil w k0).mono ?_
    rintro e w' ⟨rfl, rfl⟩
    exact ⟨rfl, World.grownBy.refl _ _⟩
  · rw [hl] at h ⊢
    exact heldFuncSC w base g cp k0 xs hn hk0 hk1 hls h

theorem FnsOwn.alloc {w : World} {base : Nat} {v : Value} {xs : List FV} (h : FnsOwn w base v xs) (o : Obj) : FnsOwn (w.alloc o) base v xs := ⟨h.row.alloc o, fun x hx => (h.trees x hx).alloc o⟩
theorem FnsOwn.none {w w' : World} {base : Nat} {v : Value} {xs : List FV} (h : FnsOwn w base v xs) (hg : w.grownBy w' none) : FnsOwn w' base v xs := ⟨own_none h.row hg, fun x hx => own_none (h.trees x hx) hg⟩
/-- A row of texts, and functions: the one's writing leaves the other. -/
theorem FnsOwn.texts {w w' : World} {base b2 n : Nat} {v vi : Value} {xs : List FV} {ys : List Value} (h : FnsOwn w base v xs) (hi : w.ownsRow b2 9 1 vi n ys) (hg : w.grownBy w' vi.ownBlock) : FnsOwn w' base v xs :=
  ⟨h.row.kept hg (own_types h.row hi (by decide)), fun x hx => (h.trees x hx).kept hg (own_types (h.trees x hx) hi (by decide))⟩
theorem texts_fns {w w' : World} {base b2 n : Nat} {v vi : Value} {xs : List FV} {ys : List Value} (h : FnsOwn w base v xs) (hi : w.ownsRow b2 9 1 vi n ys) (hw : Wrote w w' (FnBlocks v xs)) : w'.ownsRow b2 9 1 vi n ys := by
  refine own_wrote hi hw (fun k hk hb => ?_)
  rcases hb with e | ⟨x, hx, e⟩
  · rcases own_types hi h.row (by decide) with e2 | e2
    · rw [hk] at e2; cases e2
    · exact e2 (by rw [hk, e])
  · rcases own_types hi (h.trees x hx) (by decide) with e2 | e2
    · rw [hk] at e2; cases e2
    · exact e2 (by rw [hk, e])

def PkBlocks (vi vf : Value) (xs : List FV) (k : Nat) : Prop := vi.ownBlock = some k ∨ FnBlocks vf xs k

set_option maxHeartbeats 1000000 in
set_option maxRecDepth 100000 in
theorem markPackageC (nm : List UInt8) (w : World) (base k0 n : Nat) (vi vf : Value) (ys : List Value) (xs : List FV) (hn : n ≤ 1100000) (hf : xs.length ≤ 1100000) (hk0 : 0 < k0) (hk1 : k0 ≤ 800000) (hk2 : fend (k0 + n) xs ≤ 30000000) (hls : ∀ x ∈ xs, x.1.2.2.length ≤ 1100000) (hap : Apart (xs.map fvT))
    (hi : w.ownsRow base 9 1 vi n ys) (h : FnsOwn w base vf xs) :
    Calls Try.prog 25 #[.agg #[.string ⟨nm.toArray⟩, vi, vf], .int .i64 k0] w fun e w' => e = .returned (.int .i64 ((fend (k0 + n) xs : Nat) : Int)) ∧ w'.ownsRow base 9 1 vi n (marksV k0 n) ∧ FnsOwn w' base vf (fmark (k0 + n) xs) ∧ Wrote w w' (PkBlocks vi vf xs) := by
  obtain ⟨ai, ci, rfl⟩ : ∃ a c, vi = .slice a n c := by
    rcases own_forms hi with ⟨rfl, rfl, _⟩ | ⟨g, cp, rfl⟩
    · exact ⟨none, 0, rfl⟩
    · exact ⟨_, cp, rfl⟩
  obtain ⟨af, cf, rfl, _, _⟩ := h.in
  obtain ⟨W0, hW0⟩ : ∃ W0, w.alloc (.cells #[.string ⟨nm.toArray⟩, .slice ai n ci, .slice af xs.length cf] 35) = W0 := ⟨_, rfl⟩
  have hb0 : Below w.heap.size w W0 := by rw [← hW0]; exact (Below.refl _ w).alloc (Nat.le_refl _) _
  have hA := heap_alloc_new w (.cells #[.string ⟨nm.toArray⟩, .slice ai n ci, .slice af xs.length cf] 35)
  rw [hW0] at hA
  obtain ⟨D, hD⟩ : ∃ D, w.heap.size = D := ⟨_, rfl⟩
  rw [hD] at hA
  have k0c : W0.cell? ⟨D, 1, none⟩ = some (.slice ai n ci) := by simp [World.cell?, hA]
  have k1c : W0.cell? ⟨D, 2, none⟩ = some (.slice af xs.length cf) := by simp [World.cell?, hA]
  have hDi : (Value.slice ai n ci).ownBlock ≠ some D := fun e => by have := (hi.lt D e).2; omega
  have hi0 := own_below hi hb0
  have hf0 := h.below hb0
  have HC : Hid (_) := markStrV W0 base n k0 (.slice ai n ci) ys hn hk0 hk1 hi0
  have HI0 : Hid (W0.ownsRow base 9 1 (.slice ai n ci) n ys) := hi0
  have HF0 : Hid (FnsOwn W0 base (.slice af xs.length cf) xs) := hf0
  have HW0 : Hid (Wrote w W0 (PkBlocks (.slice ai n ci) (.slice af xs.length cf) xs)) := Wrote.of_below hb0
  clear hi h hi0 hf0 hb0 hA
  go_enter Try.func25, Try.ntmps25
  go_wp2_with fail
  refine Calls.mono HC.out ?_
  rintro e w1 ⟨rfl, hi1, hg1⟩
  have k1d := hg1.cell (a := ⟨D, 2, none⟩) k1c (fun e => hDi e.symm)
  have hf1 := HF0.out.texts HI0.out hg1
  have HM : Hid (_) := markFuncSV w1 base (k0 + n) _ xs hf (by omega) hk2 hls hap hf1
  have HI1 : Hid (w1.ownsRow base 9 1 (.slice ai n ci) n (marksV k0 n)) := hi1
  have HF1 : Hid (FnsOwn w1 base (.slice af xs.length cf) xs) := hf1
  have HW1 : Hid (Wrote w w1 (PkBlocks (.slice ai n ci) (.slice af xs.length cf) xs)) := HW0.out.trans (Wrote.of_grown hg1 (fun _ e => Or.inl e))
  clear HC HI0 HF0 HW0 hi1 hg1 hf1 k0c k1c hls hap
  go_wp2_with fail
  refine Calls.mono HM.out ?_
  rintro e w2 ⟨rfl, hf2, hw2⟩
  have hi2 := texts_fns HF1.out HI1.out hw2
  have hW2 := HW1.out.trans (hw2.mono (fun _ e => Or.inr e))
  clear HM
  go_wp2
  go_ret
  exact ⟨rfl, hi2, hf2, hW2⟩

set_option maxHeartbeats 1000000 in
set_option maxRecDepth 100000 in
theorem heldPackageC (nm : List UInt8) (w : World) (base k0 n : Nat) (vi vf : Value) (xs : List FV) (hn : n ≤ 1100000) (hf : xs.length ≤ 1100000) (hk0 : 0 < k0) (hk1 : k0 ≤ 800000) (hk2 : fend (k0 + n) xs ≤ 30000000) (hls : ∀ x ∈ xs, x.1.2.2.length ≤ 1100000)
    (hi : w.ownsRow base 9 1 vi n (marksV k0 n)) (h : FnsOwn w base vf (fmark (k0 + n) xs)) :
    Calls Try.prog 26 #[.agg #[.string ⟨nm.toArray⟩, vi, vf], .int .i64 k0] w fun e w' => e = .returned (.int .i64 ((fend (k0 + n) xs : Nat) : Int)) ∧ w.grownBy w' none := by
  obtain ⟨ai, ci, rfl⟩ : ∃ a c, vi = .slice a n c := by
    rcases own_forms hi with ⟨rfl, rfl, _⟩ | ⟨g, cp, rfl⟩
    · exact ⟨none, 0, rfl⟩
    · exact ⟨_, cp, rfl⟩
  obtain ⟨af, cf, rfl, _, _⟩ := h.in
  have hl := fmark_len (k0 + n) xs
  rw [hl] at h ⊢
  have hHC := heldStrV (w.alloc (.cells #[.string ⟨nm.toArray⟩, .slice ai n ci, .slice af xs.length cf] 35)) base n k0 (.slice ai n ci) hn hk0 hk1 (hi.alloc _)
  have HC : Hid (_) := hHC
  have HF : Hid (FnsOwn (w.alloc (.cells #[.string ⟨nm.toArray⟩, .slice ai n ci, .slice af xs.length cf] 35)) base (.slice af xs.length cf) (fmark (k0 + n) xs)) := h.alloc _
  have hg0 : w.grownBy (w.alloc (.cells #[.string ⟨nm.toArray⟩, .slice ai n ci, .slice af xs.length cf] 35)) none := World.grownBy_alloc w _ _
  have hA := heap_alloc_new w (.cells #[.string ⟨nm.toArray⟩, .slice ai n ci, .slice af xs.length cf] 35)
  obtain ⟨W0, hW0⟩ : ∃ W0, w.alloc (.cells #[.string ⟨nm.toArray⟩, .slice ai n ci, .slice af xs.length cf] 35) = W0 := ⟨_, rfl⟩
  rw [hW0] at HC HF hg0 hA
  obtain ⟨D, hD⟩ : ∃ D, w.heap.size = D := ⟨_, rfl⟩
  rw [hD] at hA
  have k0c : W0.cell? ⟨D, 1, none⟩ = some (.slice ai n ci) := by simp [World.cell?, hA]
  have k1c : W0.cell? ⟨D, 2, none⟩ = some (.slice af xs.length cf) := by simp [World.cell?, hA]
  have hge1 : ¬ ((k0 + n : Nat) : Int) < 0 := by omega
  have hge2 : ¬ ((fend (k0 + n) xs : Nat) : Int) < 0 := by omega
  clear hi h hHC hA hl
  go_enter Try.func26, Try.ntmps26
  go_wp2_with fail
  refine Calls.mono HC.out ?_
  rintro e w1 ⟨rfl, hg1⟩
  have k1d := hg1.cell (a := ⟨D, 2, none⟩) k1c (by simp)
  have HM : Hid (_) := heldFuncSV w1 base (k0 + n) _ xs hf (by omega) hk2 hls (HF.out.none hg1)
  have hG1 := hg0.trans hg1
  clear HC HF hg0 hg1 k0c k1c hls
  go_wp2_with fail
  refine Calls.mono HM.out ?_
  rintro e w2 ⟨rfl, hg2⟩
  have hG2 := hG1.trans hg2
  clear HM
  go_wp2
  go_ret
  exact ⟨rfl, hG2⟩

theorem fend_le (k : Nat) (xs : List FV) : fend k xs ≤ k + 2 * xs.length + 4 * fnsSz (xs.map (·.1)) := by
  induction xs generalizing k with
  | nil => exact Nat.le_add_right _ _
  | cons x r ih =>
    have h := ih (k + 2 + 4 * x.1.2.2.length)
    have e : fnsSz ((x :: r).map (·.1)) = fnSz x.1 + fnsSz (r.map (·.1)) := rfl
    have e2 : x.1.2.2.length ≤ fnSz x.1 := by unfold fnSz; omega
    rw [e]
    unfold fend
    rw [List.length_cons]
    omega

theorem fend_small (k : Nat) (xs : List FV) (h : ∀ x ∈ xs, x.1.2.2.length ≤ 60) : fend k xs ≤ k + 242 * xs.length := by
  induction xs generalizing k with
  | nil => exact Nat.le_add_right _ _
  | cons x r ih =>
    have h1 := ih (k + 2 + 4 * x.1.2.2.length) (fun y hy => h y (List.mem_cons_of_mem _ hy))
    have h2 := h x (List.mem_cons_self)
    unfold fend
    rw [List.length_cons]
    omega

end Go.Proofs.Ytkjojhkpoooimaa

/-! A project that a call has made; the laws' own helper toPackageS. -/
namespace Go.Proofs.Ytkjojhkpoooimaa
open Go.RowKit

/-- A package, where its lists lie, and between which blocks. -/
structure PV where
  nm : List UInt8
  ims : List (List UInt8)
  xs : List FV
  ia : Option Addr
  ic : Nat
  fa : Option Addr
  fc : Nat
  lo : Nat
  hi : Nat
def pvI (y : PV) : Value := .slice y.ia y.ims.length y.ic
def pvF (y : PV) : Value := .slice y.fa y.xs.length y.fc
def pvP (y : PV) : Pk := (y.nm, y.ims, y.xs.map (·.1))
def pv0 : PV := ⟨[], [], [], none, 0, none, 0, 0, 0⟩
def pvsV : List PV → List Value
  | [] => []
  | y :: r => .string ⟨y.nm.toArray⟩ :: pvI y :: pvF y :: pvsV r
theorem pvsV_at (ys : List PV) (j : Nat) (hj : j < ys.length) : (pvsV ys)[j * 3]? = some (.string ⟨(ys.getD j pv0).nm.toArray⟩) ∧ (pvsV ys)[j * 3 + 1]? = some (pvI (ys.getD j pv0)) ∧ (pvsV ys)[j * 3 + 2]? = some (pvF (ys.getD j pv0)) := by
  induction ys generalizing j with
  | nil => simp at hj
  | cons n r ih =>
    cases j with
    | zero => simp [pvsV]
    | succ j =>
      obtain ⟨h0, h1, h2⟩ := ih j (by simpa using hj)
      refine ⟨?_, ?_, ?_⟩
      · rw [show (j + 1) * 3 = j * 3 + 1 + 1 + 1 by omega]; simpa [pvsV] using h0
      · rw [show (j + 1) * 3 + 1 = j * 3 + 1 + 1 + 1 + 1 by omega]; simpa [pvsV] using h1
      · rw [show (j + 1) * 3 + 2 = j * 3 + 2 + 1 + 1 + 1 by omega]; simpa [pvsV] using h2
/-- A package whose rows lie between two blocks. -/
structure PvOk (w : World) (y : PV) : Prop where
  im : w.ownsRow y.lo 9 1 (pvI y) y.ims.length (strV y.ims)
  fo : FnsOwn w y.lo (pvF y) y.xs
  ap : Apart (y.xs.map fvT)
  top : ∀ k, PkBlocks (pvI y) (pvF y) y.xs k → k < y.hi
theorem PvOk.wrote {w w' : World} {y : PV} (h : PvOk w y) {S : Nat → Prop} (hw : Wrote w w' S) (hs : ∀ k, S k → k < y.lo ∨ y.hi ≤ k) : PvOk w' y := by
  have hoff : ∀ {e size n : Nat} {v : Value} {zs : List Value}, w.ownsRow y.lo e size v n zs → (∀ k, v.ownBlock = some k → k < y.hi) → w'.ownsRow y.lo e size v n zs := fun ho ht => own_wrote ho hw (fun k hk hS => by
    have h1 := (ho.lt k hk).1
    have h2 := ht k hk
    rcases hs k hS with h3 | h3 <;> omega)
  exact ⟨hoff h.im (fun k e => h.top k (Or.inl e)), ⟨hoff h.fo.row (fun k e => h.top k (Or.inr (Or.inl e))), fun x hx => hoff (h.fo.trees x hx) (fun k e => h.top k (Or.inr (Or.inr ⟨x, hx, e⟩)))⟩, h.ap, h.top⟩
theorem PvOk.below {w w' : World} {y : PV} (h : PvOk w y) (hb : Below w.heap.size w w') : PvOk w' y := h.wrote (S := fun _ => False) (Wrote.of_below hb) (fun _ e => e.elim)

/-- A project that a call owns: its row, and its packages' lists between B and T. -/
structure PjOwn (w : World) (B T : Nat) (v : Value) (ys : List PV) : Prop where
  row : w.ownsRow B 35 3 v ys.length (pvsV ys)
  each : ∀ y ∈ ys, PvOk w y ∧ B ≤ y.lo ∧ y.hi ≤ T
  seq : ys.Pairwise (fun a b => a.hi ≤ b.lo)
  off : ∀ k, v.ownBlock = some k → k < T ∧ ∀ y ∈ ys, k < y.lo ∨ y.hi ≤ k
  sz : T ≤ w.heap.size
theorem PjOwn.below {w w' : World} {B T : Nat} {v : Value} {ys : List PV} (h : PjOwn w B T v ys) (hb : Below w.heap.size w w') : PjOwn w' B T v ys :=
  ⟨own_below h.row hb, fun y hy => ⟨(h.each y hy).1.below hb, (h.each y hy).2⟩, h.seq, h.off, Nat.le_trans h.sz hb.size⟩
theorem getD_map_pv (ys : List PV) (j : Nat) : (ys.map pvP).getD j pk0 = pvP (ys.getD j pv0) := by
  rw [List.getD_eq_getElem?_getD, List.getD_eq_getElem?_getD, List.getElem?_map]
  cases ys[j]? <;> rfl
/-- What is owned can be read. -/
theorem PjOwn.in {w : World} {B T : Nat} {v : Value} {ys : List PV} (h : PjOwn w B T v ys) : ∃ a cap, v = .slice a ys.length cap ∧ (a = none → cap = 0) ∧ PkgsIn w a ys.length (ys.map pvP) := by
  rcases own_forms h.row with ⟨rfl, h0, _⟩ | ⟨g, cp, rfl⟩
  · exact ⟨none, 0, by rw [h0], fun _ => rfl, by simp, fun j hj => by omega⟩
  · refine ⟨some ⟨g, 0, none⟩, cp, rfl, fun e => (by cases e), by simp, fun j hj => ?_⟩
    obtain ⟨v0, v1, v2⟩ := pvsV_at ys j hj
    have hc := fun k (hk : k < ys.length * 3) => World.ownsRow.cellAt h.row k hk
    have hmem : ys.getD j pv0 ∈ ys := by rw [List.getD_eq_getElem?_getD, List.getElem?_eq_getElem hj]; exact List.getElem_mem hj
    have hy := (h.each _ hmem).1
    obtain ⟨ai, ci, af, cf, e1, e2, _, _, hti, hfi⟩ := own_pk hy.im hy.fo rfl
    refine ⟨g, 0, rfl, (h.row.lt g rfl).2, ?_, ai, (ys.getD j pv0).ims.length, ci, af, ((ys.getD j pv0).xs.map (·.1)).length, cf, ?_, ?_, ?_, ?_⟩
    · rw [Nat.zero_add, hc _ (by omega), v0, getD_map_pv]; rfl
    · rw [Nat.zero_add, hc _ (by omega), v1, e1]
    · rw [Nat.zero_add, hc _ (by omega), v2, e2]
    · rw [getD_map_pv]; exact hti
    · rw [getD_map_pv]; exact hfi

end Go.Proofs.Ytkjojhkpoooimaa

/-! The laws' own helper markPackageS. -/
namespace Go.Proofs.Ytkjojhkpoooimaa
open Go.RowKit

/-- Where the marks end. -/
def mend (k : Nat) : List PV → Nat
  | [] => k
  | y :: r => mend (fend (k + 1 + y.ims.length) y.xs) r
/-- Rows that bear the same lists. -/
def SameL (zs ys : List PV) : Prop := zs.length = ys.length ∧ ∀ i, pvI (zs.getD i pv0) = pvI (ys.getD i pv0) ∧ pvF (zs.getD i pv0) = pvF (ys.getD i pv0)
end Go.Proofs.Ytkjojhkpoooimaa

/-! A node, and a row of nodes, that came in, as the walks take them. -/
namespace Go.Proofs.Ytkjojhkpoooimaa
open Go.ChangeShapes Go.WideShapes Go.ChangeAt Go.RowKit Go.Joins Go.Deep

theorem cellsNode : Try.prog.cellsOf 68 = 4 := by kernel_rfl

end Go.Proofs.Ytkjojhkpoooimaa
