/-
  Parts of one proof, one behind the other: FnMS, FnMP, NodeIn, PackIn.
-/
import Derived.Test.YtdjglpcllcjcfaaDoorP20
import Derived.Test.YtdjglpcllcjcfaaDoorP11
import Derived.Deep.RegionWith
import Derived.Test.YtdjglpcllcjcfaaDoorP5
import Derived.Test.YtdjglpcllcjcfaaDoorRows
import Derived.WalkKit
import Derived.ProofKit
import Derived.OpenShut
import Derived.ShutString
import Derived.ChangeOld
import Derived.Below
import Derived.Lib.SmallJoins
import Derived.Deep.SlicePairs
import Derived.Test.YtdjglpcllcjcfaaDoorP12
import Derived.SliceStrings

/-! The laws' own helpers over lists of functions: what several blocks' writing leaves; marks of functions. -/
namespace Go.Proofs.YtdjglpcllcjcfaaDoor
open Go.RowKit

/-- What functions hold when they are marked from k on, and the next mark. -/
def fmk (k : Nat) (x : FV) : FV := ((markL k, ((k + 1 : Nat) : Int), marksN (k + 2) x.1.2.2.length), x.2)
def fmark (k : Nat) : List FV → List FV
  | [] => []
  | x :: r => fmk k x :: fmark (k + 2 + 4 * x.1.2.2.length) r
def fend (k : Nat) : List FV → Nat
  | [] => k
  | x :: r => fend (k + 2 + 4 * x.1.2.2.length) r

theorem fmk_T (k : Nat) (x : FV) : fvT (fmk k x) = fvT x := by unfold fvT fmk; rw [marksN_len]
theorem fmark_len (k : Nat) (xs : List FV) : (fmark k xs).length = xs.length := by
  induction xs generalizing k with
  | nil => rfl
  | cons x r ih => simp [fmark, ih]
theorem fmark_snoc (k : Nat) (xs : List FV) (x : FV) : fmark k (xs ++ [x]) = fmark k xs ++ [fmk (fend k xs) x] ∧ fend k (xs ++ [x]) = fend k xs + 2 + 4 * x.1.2.2.length := by
  induction xs generalizing k with
  | nil => exact ⟨rfl, rfl⟩
  | cons y r ih =>
    have := ih (k + 2 + 4 * y.1.2.2.length)
    exact ⟨by rw [List.cons_append, fmark, this.1]; rfl, by rw [List.cons_append, fend, this.2]; rfl⟩
theorem fend_ge (k : Nat) (xs : List FV) : k ≤ fend k xs := by
  induction xs generalizing k with
  | nil => exact Nat.le_refl _
  | cons x r ih => have := ih (k + 2 + 4 * x.1.2.2.length); unfold fend; omega
theorem fend_app (k : Nat) (xs ys : List FV) : fend k (xs ++ ys) = fend (fend k xs) ys := by
  induction xs generalizing k with
  | nil => rfl
  | cons x r ih => rw [List.cons_append, fend, ih]; rfl
theorem fend_take (k : Nat) (xs : List FV) (m : Nat) : fend k (xs.take m) ≤ fend k xs := by
  conv => rhs; rw [← List.take_append_drop m xs, fend_app]
  exact fend_ge _ _

/-- Half way: m functions are marked. -/
def fhalf (k : Nat) (xs : List FV) (m : Nat) : List FV := fmark k (xs.take m) ++ xs.drop m
theorem fhalf_len (k : Nat) (xs : List FV) (m : Nat) : (fhalf k xs m).length = xs.length := by
  unfold fhalf; rw [List.length_append, fmark_len, ← List.length_append, List.take_append_drop]
theorem fhalf_at (k : Nat) (xs : List FV) (m : Nat) (hm : m < xs.length) : (fhalf k xs m).getD m fv0 = xs[m] := by
  unfold fhalf
  have hl : (fmark k (xs.take m)).length = m := by rw [fmark_len, List.length_take]; omega
  rw [List.getD_eq_getElem?_getD, List.getElem?_append_right (by omega), hl, Nat.sub_self, List.getElem?_drop, Nat.add_zero, List.getElem?_eq_getElem hm]
  rfl
theorem fhalf_step (k : Nat) (xs : List FV) (m : Nat) (hm : m < xs.length) : (fhalf k xs m).set m (fmk (fend k (xs.take m)) xs[m]) = fhalf k xs (m + 1) ∧ fend k (xs.take (m + 1)) = fend k (xs.take m) + 2 + 4 * xs[m].1.2.2.length := by
  have h1 := fmark_snoc k (xs.take m) xs[m]
  rw [← List.take_succ_eq_append_getElem hm] at h1
  refine ⟨?_, h1.2⟩
  have hl : (fmark k (xs.take m)).length = m := by rw [fmark_len, List.length_take]; omega
  unfold fhalf
  rw [h1.1, List.set_append_right _ _ (by omega), hl, Nat.sub_self, List.drop_eq_getElem_cons hm, List.set_cons_zero, List.append_assoc]
  rfl
theorem fhalf_T (k : Nat) (xs : List FV) (m : Nat) : (fhalf k xs m).map fvT = xs.map fvT := by
  have key : ∀ (k : Nat) (l : List FV), (fmark k l).map fvT = l.map fvT := by
    intro k l
    induction l generalizing k with
    | nil => rfl
    | cons x r ih => rw [fmark, List.map_cons, List.map_cons, fmk_T, ih]
  unfold fhalf
  rw [List.map_append, key, ← List.map_append, List.take_append_drop]

theorem set_same {α : Type} {l : List α} {i : Nat} {a : α} (h : l[i]? = some a) : l.set i a = l := by
  apply List.ext_getElem?
  intro j
  rw [List.getElem?_set]
  split
  · rename_i e
    subst e
    split
    · exact h.symm
    · rename_i hl; rw [List.getElem?_eq_none (by omega)]
  · rfl

def FnBlocks (v : Value) (xs : List FV) (k : Nat) : Prop := v.ownBlock = some k ∨ ∃ x ∈ xs, (fvT x).ownBlock = some k

set_option maxHeartbeats 2000000 in
set_option maxRecDepth 100000 in
theorem markFuncSC (w : World) (base g cp k0 : Nat) (xs : List FV) (hn : xs.length ≤ 1100000) (hk0 : 0 < k0) (hk1 : fend k0 xs ≤ 30000000) (hls : ∀ x ∈ xs, x.1.2.2.length ≤ 1100000) (hap : Apart (xs.map fvT))
    (h : FnsOwn w base (.slice (some ⟨g, 0, none⟩) xs.length cp) xs) :
    Calls Tryd.prog 46 #[.slice (some ⟨g, 0, none⟩) xs.length cp, .int .i64 k0] w fun e w' => e = .returned (.int .i64 ((fend k0 xs : Nat) : Int)) ∧ FnsOwn w' base (.slice (some ⟨g, 0, none⟩) xs.length cp) (fmark k0 xs) ∧ Wrote w w' (FnBlocks (.slice (some ⟨g, 0, none⟩) xs.length cp) xs) := by
  have HAP : Hid (Apart (xs.map fvT)) := hap
  have HLS : Hid (∀ x ∈ xs, x.1.2.2.length ≤ 1100000) := hls
  have hst0 : fhalf k0 xs 0 = xs := rfl
  have H0 : Hid (FnsOwn w base (.slice (some ⟨g, 0, none⟩) xs.length cp) (fhalf k0 xs 0)) := h
  clear hap hls h hst0
  go_enter Tryd.func46, Tryd.ntmps46
  go_wp2
  go_loopw [1, 5] (fun k i wr => ∃ m : Nat, m ≤ xs.length ∧ i = .int .i64 m ∧ k = .int .i64 ((fend k0 (xs.take m) : Nat) : Int) ∧ Hid (FnsOwn wr base (.slice (some ⟨g, 0, none⟩) xs.length cp) (fhalf k0 xs m)) ∧ Hid (Wrote w wr (FnBlocks (.slice (some ⟨g, 0, none⟩) xs.length cp) xs))) (fun _ i _ => xs.length - (intOf i).toNat)
  case atStart => exact ⟨0, Nat.zero_le _, rfl, rfl, H0, Wrote.refl _ _⟩
  case round =>
    obtain ⟨m, hm, rfl, rfl, HO, HW⟩ := hrel
    clear H0
    by_cases hlt : (m : Int) < (xs.length : Int)
    · have hm2 : m < xs.length := by omega
      obtain ⟨hset, hend⟩ := fhalf_step k0 xs m hm2
      have hat := fhalf_at k0 xs m hm2
      have hfl := fhalf_len k0 xs m
      have hT := fhalf_T k0 xs m
      have hend2 := fend_take k0 xs (m + 1)
      have hxl := HLS.out xs[m] (List.getElem_mem hm2)
      obtain ⟨ys, hys⟩ : ∃ ys, fhalf k0 xs m = ys := ⟨_, rfl⟩
      rw [hys] at hset hat hfl hT HO
      obtain ⟨x, hx⟩ : ∃ x, xs[m] = x := ⟨_, rfl⟩
      rw [hx] at hset hat hend hxl
      obtain ⟨q, hq⟩ : ∃ q, fend k0 (xs.take m) = q := ⟨_, rfl⟩
      have hq0 : 0 < q := by rw [← hq]; have := fend_ge k0 (xs.take m); omega
      rw [hq] at hset hend ⊢
      have hq3 : q + 2 + 4 * x.1.2.2.length ≤ 30000000 := by omega
      have HSET : Hid (ys.set m (fmk q x) = fhalf k0 xs (m + 1)) := hset
      have HEND : Hid (fend k0 (xs.take (m + 1)) = q + 2 + 4 * x.1.2.2.length) := hend
      have HT : Hid (ys.map fvT = xs.map fvT) := hT
      have HX : Hid (∃ h : m < ys.length, ys[m] = x) := ⟨by omega, by rw [List.getD_eq_getElem?_getD, List.getElem?_eq_getElem (by omega)] at hat; exact hat⟩
      have HFL : Hid (ys.length = xs.length) := hfl
      have HXM : Hid (x ∈ xs) := by rw [← hx]; exact List.getElem_mem hm2
      obtain ⟨v0, v1, v2⟩ := fnsV_at ys m (by omega)
      rw [hat] at v0 v1 v2
      have hrow := HO.out.row
      rw [hfl] at hrow
      clear hset hend hend2 hys hx hq hT hat hfl
      obtain ⟨zs, hzs⟩ : ∃ zs, fnsV ys = zs := ⟨_, rfl⟩
      have hzset := fnsV_set ys m (fmk q x)
      rw [hzs] at hrow v0 v1 v2 hzset
      have HZ : Hid (((zs.set (m * 3) (.string ⟨(markL q).toArray⟩)).set (m * 3 + 1) (.int .i64 ((q : Int) + 1))).set (m * 3 + 2) (fvT x) = fnsV (ys.set m (fmk q x))) := by
        rw [← fmk_T q x, show (q : Int) + 1 = ((q + 1 : Nat) : Int) by omega]; exact hzset
      clear hzset
      have htree : wr.ownsRow base 26 4 (fvT x) x.1.2.2.length (nodesV x.1.2.2) := by
        obtain ⟨hl, he⟩ := HX.out
        rw [← he]; exact HO.out.trees _ (List.getElem_mem hl)
      obtain ⟨hxl2, ta, tc, htv, _⟩ := own_nodes htree
      have HTV : Hid (fvT x = .slice ta x.1.2.2.length tc) := htv
      rw [htv] at v2
      clear hzs htv
      go_wp2_with fail
      refine (markTextC q _ (by omega) (by omega)).mono ?_
      rintro e w2 ⟨rfl, hg2⟩
      have hrow2 := own_none hrow hg2
      obtain ⟨u0, d0⟩ : ∃ u, w2.cell? ⟨g, m * 3, none⟩ = some u := by rw [hrow2.cellAt (m * 3) (by omega), v0]; exact ⟨_, rfl⟩
      obtain ⟨u1, d1⟩ : ∃ u, w2.cell? ⟨g, m * 3 + 1, none⟩ = some u := by rw [hrow2.cellAt (m * 3 + 1) (by omega), v1]; exact ⟨_, rfl⟩
      have d2 : w2.cell? ⟨g, m * 3 + 2, none⟩ = some (.slice ta x.1.2.2.length tc) := by rw [hrow2.cellAt (m * 3 + 2) (by omega), v2]
      have e0 := hrow2.frozenAt (m * 3)
      have e1 := hrow2.frozenAt (m * 3 + 1)
      have hs1 := hrow2.stored (m * 3) (.string ⟨(markL q).toArray⟩)
      have hs2 := hs1.1.stored (m * 3 + 1) (.int .i64 ((q : Int) + 1))
      have hW3 : Wrote w ((w2.setCell ⟨g, m * 3, none⟩ (.string ⟨(markL q).toArray⟩)).setCell ⟨g, m * 3 + 1, none⟩ (.int .i64 ((q : Int) + 1))) (FnBlocks (.slice (some ⟨g, 0, none⟩) xs.length cp) xs) :=
        ((HW.out.trans (Wrote.of_grown hg2 (fun _ e => by cases e))).trans (Wrote.of_grown hs1.2 (fun _ e => Or.inl e))).trans (Wrote.of_grown hs2.2 (fun _ e => Or.inl e))
      have htrees : ∀ z ∈ ys, ((w2.setCell ⟨g, m * 3, none⟩ (.string ⟨(markL q).toArray⟩)).setCell ⟨g, m * 3 + 1, none⟩ (.int .i64 ((q : Int) + 1))).ownsRow base 26 4 (fvT z) z.1.2.2.length (nodesV z.1.2.2) := by
        intro z hz
        have t1 := own_none (HO.out.trees z hz) hg2
        have hd := own_types t1 hrow2 (by decide)
        have t2 := t1.kept hs1.2 hd
        exact t2.kept hs2.2 hd
      have d2b : ((w2.setCell ⟨g, m * 3, none⟩ (.string ⟨(markL q).toArray⟩)).setCell ⟨g, m * 3 + 1, none⟩ (.int .i64 ((q : Int) + 1))).cell? ⟨g, m * 3 + 2, none⟩ = some (.slice ta x.1.2.2.length tc) := by
        rw [hs2.1.cellAt (m * 3 + 2) (by omega), List.getElem?_set_ne (by omega), List.getElem?_set_ne (by omega), v2]
      obtain ⟨W3, hW3e⟩ : ∃ W3, (w2.setCell ⟨g, m * 3, none⟩ (.string ⟨(markL q).toArray⟩)).setCell ⟨g, m * 3 + 1, none⟩ (.int .i64 ((q : Int) + 1)) = W3 := ⟨_, rfl⟩
      have hrow3 := hs2.1
      rw [hW3e] at hrow3 hW3 htrees d2b
      have HR3 : Hid (W3.ownsRow base 37 3 (.slice (some ⟨g, 0, none⟩) xs.length cp) xs.length ((zs.set (m * 3) (.string ⟨(markL q).toArray⟩)).set (m * 3 + 1) (.int .i64 ((q : Int) + 1)))) := hrow3
      have HW3 : Hid (Wrote w W3 (FnBlocks (.slice (some ⟨g, 0, none⟩) xs.length cp) xs)) := hW3
      have HTR : Hid (∀ z ∈ ys, W3.ownsRow base 26 4 (fvT z) z.1.2.2.length (nodesV z.1.2.2)) := htrees
      have htree3 : W3.ownsRow base 26 4 (.slice ta x.1.2.2.length tc) x.1.2.2.length (nodesV x.1.2.2) := by
        obtain ⟨hl, he⟩ := HX.out
        have h3 := htrees _ (List.getElem_mem hl)
        rw [he, HTV.out] at h3
        exact h3
      have HM : Hid (_) := markNodeSV W3 base x.1.2.2.length (q + 2) (.slice ta x.1.2.2.length tc) x.1.2.2 (by omega) (by omega) (by omega) htree3
      rw [show ((q + 2 : Nat) : Int) = (q : Int) + 1 + 1 by omega] at HM
      have HT3 : Hid (W3.ownsRow base 26 4 (.slice ta x.1.2.2.length tc) x.1.2.2.length (nodesV x.1.2.2)) := htree3
      have HV2 : Hid (zs[m * 3 + 2]? = some (.slice ta x.1.2.2.length tc)) := v2
      clear hs1 hs2 hW3 htrees hrow3 hrow2 hrow hg2 htree htree3 HW v0 v1 v2
      go_wp2_with fail
      refine Calls.mono HM.out ?_
      rintro e w4 ⟨rfl, hown4, hg4⟩
      have HO4 : Hid (FnsOwn w4 base (.slice (some ⟨g, 0, none⟩) xs.length cp) (fhalf k0 xs (m + 1))) := by
        have hrow4 := HR3.out.kept hg4 (own_types HR3.out HT3.out (by decide))
        have hz3 : ((zs.set (m * 3) (.string ⟨(markL q).toArray⟩)).set (m * 3 + 1) (.int .i64 ((q : Int) + 1))) = fnsV (ys.set m (fmk q x)) := by
          rw [← HZ.out, HTV.out]
          exact (set_same (by rw [List.getElem?_set_ne (by omega), List.getElem?_set_ne (by omega)]; exact HV2.out)).symm
        rw [hz3] at hrow4
        rw [← HSET.out]
        refine ⟨by rw [List.length_set, HFL.out]; exact hrow4, fun z hz => ?_⟩
        obtain ⟨j, hj, rfl⟩ := List.mem_iff_getElem.1 hz
        rw [List.length_set] at hj
        rw [List.getElem_set]
        by_cases hjm : m = j
        · subst hjm
          rw [if_pos rfl, fmk_T, HTV.out]
          show w4.ownsRow base _ 4 _ (marksN (q + 2) x.1.2.2.length).length (nodesV (marksN (q + 2) x.1.2.2.length))
          rw [marksN_len]
          exact hown4
        · rw [if_neg hjm]
          refine (HTR.out _ (List.getElem_mem hj)).kept hg4 ?_
          obtain ⟨hl, he⟩ := HX.out
          have hap : Apart (ys.map fvT) := by rw [HT.out]; exact HAP.out
          have hne := hap.ne (i := j) (j := m) (by simpa using hj) (by simpa using hl) (fun e => hjm e.symm)
          rw [List.getElem_map, List.getElem_map, he, HTV.out] at hne
          exact hne
      have HW4 : Hid (Wrote w w4 (FnBlocks (.slice (some ⟨g, 0, none⟩) xs.length cp) xs)) := HW3.out.trans (Wrote.of_grown hg4 (fun k e => Or.inr ⟨x, HXM.out, by rw [HTV.out]; exact e⟩))
      clear hown4 hg4 HR3 HT3 HTR HW3 HM HZ HSET HT HX HV2 HTV HXM HFL d0 d1 d2 d2b e0 e1 HO
      go_wp2
      go_roundw
      case rel => exact ⟨m + 1, by omega, by go_num, by rw [HEND.out]; go_num, HO4, HW4⟩
      case measure => simp [intOf]; omega
    · obtain rfl : m = xs.length := by omega
      have hO := HO.out
      have HK : Hid (fend k0 (xs.take xs.length) = fend k0 xs) := by exact (by rw [List.take_length] : fend k0 (xs.take xs.length) = fend k0 xs)
      have HH : Hid (fhalf k0 xs xs.length = fmark k0 xs) := by exact (by unfold fhalf; rw [List.take_length, List.drop_length, List.append_nil] : fhalf k0 xs xs.length = fmark k0 xs)
      rw [HH.out] at hO
      go_wp2
      go_ret
      exact ⟨by rw [← HK.out]; rfl, hO, HW.out⟩

theorem fmark_at (k : Nat) (xs : List FV) (m : Nat) (hm : m < xs.length) : (fmark k xs).getD m fv0 = fmk (fend k (xs.take m)) xs[m] := by
  induction xs generalizing k m with
  | nil => simp at hm
  | cons x r ih =>
    cases m with
    | zero => rfl
    | succ m =>
      have := ih (k + 2 + 4 * x.1.2.2.length) m (by simpa using hm)
      rw [List.take_succ_cons, fend, List.getElem_cons_succ, ← this]
      rfl


end Go.Proofs.YtdjglpcllcjcfaaDoor

/-! The laws' own helpers over packages: markPackage, heldPackage. -/
namespace Go.Proofs.YtdjglpcllcjcfaaDoor
open Go.RowKit

set_option maxHeartbeats 400000 in
set_option maxRecDepth 100000 in
theorem markFuncSNil (w : World) (k0 : Nat) :
    Calls Tryd.prog 46 #[.slice none 0 0, .int .i64 k0] w fun e w' => e = .returned (.int .i64 (k0 : Int)) ∧ w' = w := by
  go_enter Tryd.func46, Tryd.ntmps46
  go_wp2
  refine wp_loop_rounds 1 ?_
  rw [rounds_succ]
  go_wp2
  go_ret
  exact ⟨rfl, rfl⟩

theorem markFuncSV (w : World) (base k0 : Nat) (v : Value) (xs : List FV) (hn : xs.length ≤ 1100000) (hk0 : 0 < k0) (hk1 : fend k0 xs ≤ 30000000) (hls : ∀ x ∈ xs, x.1.2.2.length ≤ 1100000) (hap : Apart (xs.map fvT)) (h : FnsOwn w base v xs) :
    Calls Tryd.prog 46 #[v, .int .i64 k0] w fun e w' => e = .returned (.int .i64 ((fend k0 xs : Nat) : Int)) ∧ FnsOwn w' base v (fmark k0 xs) ∧ Wrote w w' (FnBlocks v xs) := by
  rcases own_forms h.row with ⟨rfl, h0, _⟩ | ⟨g, cp, rfl⟩
  · obtain rfl : xs = [] := List.eq_nil_of_length_eq_zero h0
    refine (markFuncSNil w k0).mono ?_
    rintro e w' ⟨rfl, rfl⟩
    exact ⟨rfl, FnsOwn.nil _ _, Wrote.refl _ _⟩
  · exact markFuncSC w base g cp k0 xs hn hk0 hk1 hls hap h


theorem FnsOwn.alloc {w : World} {base : Nat} {v : Value} {xs : List FV} (h : FnsOwn w base v xs) (o : Obj) : FnsOwn (w.alloc o) base v xs := ⟨h.row.alloc o, fun x hx => (h.trees x hx).alloc o⟩
theorem FnsOwn.none {w w' : World} {base : Nat} {v : Value} {xs : List FV} (h : FnsOwn w base v xs) (hg : w.grownBy w' none) : FnsOwn w' base v xs := ⟨own_none h.row hg, fun x hx => own_none (h.trees x hx) hg⟩
/-- A row of texts, and functions: the one's writing leaves the other. -/
theorem FnsOwn.texts {w w' : World} {base b2 n : Nat} {v vi : Value} {xs : List FV} {ys : List Value} (h : FnsOwn w base v xs) (hi : w.ownsRow b2 9 1 vi n ys) (hg : w.grownBy w' vi.ownBlock) : FnsOwn w' base v xs :=
  ⟨h.row.kept hg (own_types h.row hi (by decide)), fun x hx => (h.trees x hx).kept hg (own_types (h.trees x hx) hi (by decide))⟩
theorem texts_fns {w w' : World} {base b2 n : Nat} {v vi : Value} {xs : List FV} {ys : List Value} (h : FnsOwn w base v xs) (hi : w.ownsRow b2 9 1 vi n ys) (hw : Wrote w w' (FnBlocks v xs)) : w'.ownsRow b2 9 1 vi n ys := by
  refine own_wrote hi hw (fun k hk hb => ?_)
  rcases hb with e | ⟨x, hx, e⟩
  · rcases own_types hi h.row (by decide) with e2 | e2
    · rw [hk] at e2; cases e2
    · exact e2 (by rw [hk, e])
  · rcases own_types hi (h.trees x hx) (by decide) with e2 | e2
    · rw [hk] at e2; cases e2
    · exact e2 (by rw [hk, e])

def PkBlocks (vi vf : Value) (xs : List FV) (k : Nat) : Prop := vi.ownBlock = some k ∨ FnBlocks vf xs k

set_option maxHeartbeats 1000000 in
set_option maxRecDepth 100000 in
theorem markPackageC (nm : List UInt8) (w : World) (base k0 n : Nat) (vi vf : Value) (ys : List Value) (xs : List FV) (hn : n ≤ 1100000) (hf : xs.length ≤ 1100000) (hk0 : 0 < k0) (hk1 : k0 ≤ 800000) (hk2 : fend (k0 + n) xs ≤ 30000000) (hls : ∀ x ∈ xs, x.1.2.2.length ≤ 1100000) (hap : Apart (xs.map fvT))
    (hi : w.ownsRow base 9 1 vi n ys) (h : FnsOwn w base vf xs) :
    Calls Tryd.prog 22 #[.agg #[.string ⟨nm.toArray⟩, vi, vf], .int .i64 k0] w fun e w' => e = .returned (.int .i64 ((fend (k0 + n) xs : Nat) : Int)) ∧ w'.ownsRow base 9 1 vi n (marksV k0 n) ∧ FnsOwn w' base vf (fmark (k0 + n) xs) ∧ Wrote w w' (PkBlocks vi vf xs) := by
  obtain ⟨ai, ci, rfl⟩ : ∃ a c, vi = .slice a n c := by
    rcases own_forms hi with ⟨rfl, rfl, _⟩ | ⟨g, cp, rfl⟩
    · exact ⟨none, 0, rfl⟩
    · exact ⟨_, cp, rfl⟩
  obtain ⟨af, cf, rfl, _, _⟩ := h.in
  obtain ⟨W0, hW0⟩ : ∃ W0, w.alloc (.cells #[.string ⟨nm.toArray⟩, .slice ai n ci, .slice af xs.length cf] 33) = W0 := ⟨_, rfl⟩
  have hb0 : Below w.heap.size w W0 := by rw [← hW0]; exact (Below.refl _ w).alloc (Nat.le_refl _) _
  have hA := heap_alloc_new w (.cells #[.string ⟨nm.toArray⟩, .slice ai n ci, .slice af xs.length cf] 33)
  rw [hW0] at hA
  obtain ⟨D, hD⟩ : ∃ D, w.heap.size = D := ⟨_, rfl⟩
  rw [hD] at hA
  have k0c : W0.cell? ⟨D, 1, none⟩ = some (.slice ai n ci) := by simp [World.cell?, hA]
  have k1c : W0.cell? ⟨D, 2, none⟩ = some (.slice af xs.length cf) := by simp [World.cell?, hA]
  have hDi : (Value.slice ai n ci).ownBlock ≠ some D := fun e => by have := (hi.lt D e).2; omega
  have hi0 := own_below hi hb0
  have hf0 := h.below hb0
  have HC : Hid (_) := markStrV W0 base n k0 (.slice ai n ci) ys hn hk0 hk1 hi0
  have HI0 : Hid (W0.ownsRow base 9 1 (.slice ai n ci) n ys) := hi0
  have HF0 : Hid (FnsOwn W0 base (.slice af xs.length cf) xs) := hf0
  have HW0 : Hid (Wrote w W0 (PkBlocks (.slice ai n ci) (.slice af xs.length cf) xs)) := Wrote.of_below hb0
  clear hi h hi0 hf0 hb0 hA
  go_enter Tryd.func22, Tryd.ntmps22
  go_wp2_with fail
  refine Calls.mono HC.out ?_
  rintro e w1 ⟨rfl, hi1, hg1⟩
  have k1d := hg1.cell (a := ⟨D, 2, none⟩) k1c (fun e => hDi e.symm)
  have hf1 := HF0.out.texts HI0.out hg1
  have HM : Hid (_) := markFuncSV w1 base (k0 + n) _ xs hf (by omega) hk2 hls hap hf1
  have HI1 : Hid (w1.ownsRow base 9 1 (.slice ai n ci) n (marksV k0 n)) := hi1
  have HF1 : Hid (FnsOwn w1 base (.slice af xs.length cf) xs) := hf1
  have HW1 : Hid (Wrote w w1 (PkBlocks (.slice ai n ci) (.slice af xs.length cf) xs)) := HW0.out.trans (Wrote.of_grown hg1 (fun _ e => Or.inl e))
  clear HC HI0 HF0 HW0 hi1 hg1 hf1 k0c k1c hls hap
  go_wp2_with fail
  refine Calls.mono HM.out ?_
  rintro e w2 ⟨rfl, hf2, hw2⟩
  have hi2 := texts_fns HF1.out HI1.out hw2
  have hW2 := HW1.out.trans (hw2.mono (fun _ e => Or.inr e))
  clear HM
  go_wp2
  go_ret
  exact ⟨rfl, hi2, hf2, hW2⟩


theorem fend_le (k : Nat) (xs : List FV) : fend k xs ≤ k + 2 * xs.length + 4 * fnsSz (xs.map (·.1)) := by
  induction xs generalizing k with
  | nil => exact Nat.le_add_right _ _
  | cons x r ih =>
    have h := ih (k + 2 + 4 * x.1.2.2.length)
    have e : fnsSz ((x :: r).map (·.1)) = fnSz x.1 + fnsSz (r.map (·.1)) := rfl
    have e2 : x.1.2.2.length ≤ fnSz x.1 := by unfold fnSz; omega
    rw [e]
    unfold fend
    rw [List.length_cons]
    omega

theorem fend_small (k : Nat) (xs : List FV) (h : ∀ x ∈ xs, x.1.2.2.length ≤ 60) : fend k xs ≤ k + 242 * xs.length := by
  induction xs generalizing k with
  | nil => exact Nat.le_add_right _ _
  | cons x r ih =>
    have h1 := ih (k + 2 + 4 * x.1.2.2.length) (fun y hy => h y (List.mem_cons_of_mem _ hy))
    have h2 := h x (List.mem_cons_self)
    unfold fend
    rw [List.length_cons]
    omega

end Go.Proofs.YtdjglpcllcjcfaaDoor

/-! A node, and a row of nodes, that came in, as the walks take them. -/
namespace Go.Proofs.YtdjglpcllcjcfaaDoor
open Go.ChangeShapes Go.WideShapes Go.ChangeAt Go.RowKit Go.Joins Go.Deep

theorem cellsNode : Tryd.prog.cellsOf 39 = 4 := by kernel_rfl

set_option maxRecDepth 100000 in
theorem open_node {H : Type} {enc : TypeId × Value → H} {W : World} {base b0 : Nat} {spare : Nat → Bool} {held : Bool} {v : Value} {d : DataW H} {p : List MemPlace}
    (hv : Value.okWide Tryd.prog W .any b0 39 v) (h : DataW.Trod enc Tryd.prog W base spare held 39 v d p) :
    ∃ n : Nd, v = nodeVal n ∧ IntN n ∧ n.2.2.1.length ≤ maxLen ∧ n.2.2.2.length ≤ maxLen := by
  obtain ⟨c0, c1, c2, c3, y0, y1, y2, y3, m, rfl, _, _, t0, t1, t2, t3⟩ := open_agg4 Tryd.underlying39 (by kernel_rfl) cellsNode hv h
  obtain ⟨k, e0, _, w0⟩ := DataW.trod_int Tryd.underlying2 t0
  obtain ⟨a, e1, _, w1⟩ := DataW.trod_int Tryd.underlying2 t1
  obtain ⟨s2, e2, _, h2⟩ := DataW.trod_string Tryd.underlying9 t2
  obtain ⟨s3, e3, _, h3⟩ := DataW.trod_string Tryd.underlying9 t3
  simp at e0 e1 e2 e3
  subst e0 e1 e2 e3
  exact ⟨(k, a, s2.data.toList, s3.data.toList), rfl, ⟨bounds_i64 w0, bounds_i64 w1⟩, h2, h3⟩

set_option maxRecDepth 100000 in
theorem open_nodes {H : Type} {enc : TypeId × Value → H} {W : World} {base b0 : Nat} {spare : Nat → Bool} {held : Bool} {v : Value} {d : DataW H} {p : List MemPlace}
    (hv : Value.okWide Tryd.prog W .any b0 94 v) (h : DataW.Trod enc Tryd.prog W base spare held 94 v d p) :
    ∃ a len cap ns, v = .slice a len cap ∧ NodesIn W a len ns ∧ len ≤ maxLen ∧ LongT ns ∧ IntT ns := by
  obtain ⟨a0, len, cap, rfl⟩ := okWide_slice Tryd.underlying94 hv
  obtain ⟨fuel, hf⟩ := h
  rcases open_slice Tryd.underlying94 hf with ⟨hcs, _⟩ | ⟨a, l, c, q, n, D, Pl, hcs, _, hl, hm, hq, _, hx⟩
  · simp [Value.cells] at hcs
    obtain ⟨rfl, rfl, rfl⟩ := hcs
    exact ⟨none, 0, 0, [], rfl, ⟨rfl, fun j hj => by omega⟩, by decide, (fun j => by simp [nd0]), IntT.nil⟩
  · simp [Value.cells] at hcs
    obtain ⟨rfl, rfl, rfl⟩ := hcs
    have hlq : len ≤ q := by rw [hq]; split <;> omega
    have each : ∀ i, i < len → ∃ x : Nd, W.cell? (a.add (i * 4)) = some (.int .i64 x.1) ∧ W.cell? (a.add (i * 4 + 1)) = some (.int .i64 x.2.1) ∧ W.cell? (a.add (i * 4 + 2)) = some (.string ⟨x.2.2.1.toArray⟩) ∧ W.cell? (a.add (i * 4 + 3)) = some (.string ⟨x.2.2.2.toArray⟩) ∧ x.2.2.1.length ≤ maxLen ∧ x.2.2.2.length ≤ maxLen ∧ IntN x := by
      intro i hi
      obtain ⟨cs', h1, h2⟩ := hx i (by omega)
      rw [cellsNode] at h1
      obtain ⟨_, hlen, hcell⟩ := World.cells?_some h1
      match cs', hlen with
      | [v0, v1, v2, v3], _ =>
        obtain ⟨y0, y1, y2, y3, k, _, _, t0, t1, t2, t3⟩ := trod_struct4 Tryd.underlying39 h2
        have k2 : Tryd.prog.cellsOf 2 = 1 := by kernel_rfl
        have k9 : Tryd.prog.cellsOf 9 = 1 := by kernel_rfl
        simp [k2, k9] at t0 t1 t2 t3
        obtain ⟨kd, e0, _, wk⟩ := DataW.trod_int Tryd.underlying2 t0
        obtain ⟨aa, e1, _, wa⟩ := DataW.trod_int Tryd.underlying2 t1
        obtain ⟨s2, e2, _, z2⟩ := DataW.trod_string Tryd.underlying9 t2
        obtain ⟨s3, e3, _, z3⟩ := DataW.trod_string Tryd.underlying9 t3
        simp at e0 e1 e2 e3
        subst e0 e1 e2 e3
        have g0 := hcell 0 (by omega)
        have g1 := hcell 1 (by omega)
        have g2 := hcell 2 (by omega)
        have g3 := hcell 3 (by omega)
        rw [add_add] at g0 g1 g2 g3
        exact ⟨(kd, aa, s2.data.toList, s3.data.toList), by simpa using g0, by simpa using g1, by simpa using g2, by simpa using g3, z2, z3, ⟨bounds_i64 wk, bounds_i64 wa⟩⟩
    obtain ⟨f, hf2⟩ := choose_lt each
    refine ⟨some a, len, cap, (List.range len).map f, rfl, ⟨by simp, fun j hj => ?_⟩, by omega, (fun j => ?_), (fun j => ?_)⟩
    rotate_left
    · by_cases hj : j < len
      · have hg : ((List.range len).map f).getD j nd0 = f j := by simp [List.getD, hj]
        rw [hg]; exact ⟨(hf2 j hj).2.2.2.2.1, (hf2 j hj).2.2.2.2.2.1⟩
      · have hg : ((List.range len).map f).getD j nd0 = nd0 := by simp [List.getD, hj]
        rw [hg]; simp [nd0]
    · by_cases hj : j < len
      · have hg : ((List.range len).map f).getD j nd0 = f j := by simp [List.getD, hj]
        rw [hg]; exact (hf2 j hj).2.2.2.2.2.2
      · have hg : ((List.range len).map f).getD j nd0 = nd0 := by simp [List.getD, hj]
        rw [hg]; exact intN_nd0
    obtain ⟨c0, c1, c2, c3, _, _, _⟩ := hf2 j hj
    have hsp : a.spot = none := by
      have h0 := (hf2 0 (by omega)).1
      simpa [Addr.add] using World.cell?_spot h0
    obtain ⟨b, off, spot⟩ := a
    simp at hsp
    subst hsp
    have e : ∀ i, (⟨b, off, none⟩ : Addr).add i = ⟨b, off + i, none⟩ := fun i => by unfold Addr.add; split <;> simp_all
    rw [e] at c0 c1 c2 c3
    have hg : ((List.range len).map f).getD j nd0 = f j := by simp [List.getD, hj]
    rw [hg]
    exact ⟨b, off, rfl, World.block_lt_of_cell? W ⟨b, off + j * 4, none⟩ c0, c0, by rw [Nat.add_assoc]; exact c1, by rw [Nat.add_assoc]; exact c2, by rw [Nat.add_assoc]; exact c3⟩

end Go.Proofs.YtdjglpcllcjcfaaDoor

/-! A package that came in, as the walks take it. -/
namespace Go.Proofs.YtdjglpcllcjcfaaDoor
open Go.ChangeShapes Go.WideShapes Go.ChangeAt Go.RowKit Go.Joins Go.Deep

section
variable {H : Type} {enc : TypeId × Value → H} {W : World} {base : Nat} {spare : Nat → Bool} {held : Bool} {fuel : Nat} {v : Value} {x : DataW H × List MemPlace}

set_option maxRecDepth 100000 in
theorem trod_nodes (hf : DataW.trod enc Tryd.prog W base spare held fuel 94 [v] = some x) :
    ∃ a len cap ns, v = .slice a len cap ∧ (a = none → cap = 0) ∧ NodesIn W a len ns ∧ len ≤ maxLen ∧ LongT ns ∧ IntT ns := by
  rcases open_slice Tryd.underlying94 hf with ⟨hcs, _⟩ | ⟨a, len, cap, q, n, D, Pl, hcs, _, hl, hm, hq, _, hx⟩
  · simp at hcs
    subst hcs
    exact ⟨none, 0, 0, [], rfl, fun _ => rfl, ⟨rfl, fun j hj => by omega⟩, by decide, (fun j => by simp [nd0]), IntT.nil⟩
  · simp at hcs
    subst hcs
    have hlq : len ≤ q := by rw [hq]; split <;> omega
    have each : ∀ i, i < len → ∃ x : Nd, W.cell? (a.add (i * 4)) = some (.int .i64 x.1) ∧ W.cell? (a.add (i * 4 + 1)) = some (.int .i64 x.2.1) ∧ W.cell? (a.add (i * 4 + 2)) = some (.string ⟨x.2.2.1.toArray⟩) ∧ W.cell? (a.add (i * 4 + 3)) = some (.string ⟨x.2.2.2.toArray⟩) ∧ x.2.2.1.length ≤ maxLen ∧ x.2.2.2.length ≤ maxLen ∧ IntN x := by
      intro i hi
      obtain ⟨cs', h1, h2⟩ := hx i (by omega)
      rw [cellsNode] at h1
      obtain ⟨_, hlen, hcell⟩ := World.cells?_some h1
      match cs', hlen with
      | [v0, v1, v2, v3], _ =>
        obtain ⟨y0, y1, y2, y3, k, _, _, t0, t1, t2, t3⟩ := trod_struct4 Tryd.underlying39 h2
        have k2 : Tryd.prog.cellsOf 2 = 1 := by kernel_rfl
        have k9 : Tryd.prog.cellsOf 9 = 1 := by kernel_rfl
        simp [k2, k9] at t0 t1 t2 t3
        obtain ⟨kd, e0, _, wk⟩ := DataW.trod_int Tryd.underlying2 t0
        obtain ⟨aa, e1, _, wa⟩ := DataW.trod_int Tryd.underlying2 t1
        obtain ⟨s2, e2, _, z2⟩ := DataW.trod_string Tryd.underlying9 t2
        obtain ⟨s3, e3, _, z3⟩ := DataW.trod_string Tryd.underlying9 t3
        simp at e0 e1 e2 e3
        subst e0 e1 e2 e3
        have g0 := hcell 0 (by omega)
        have g1 := hcell 1 (by omega)
        have g2 := hcell 2 (by omega)
        have g3 := hcell 3 (by omega)
        rw [add_add] at g0 g1 g2 g3
        exact ⟨(kd, aa, s2.data.toList, s3.data.toList), by simpa using g0, by simpa using g1, by simpa using g2, by simpa using g3, z2, z3, ⟨bounds_i64 wk, bounds_i64 wa⟩⟩
    obtain ⟨f, hf2⟩ := choose_lt each
    refine ⟨some a, len, cap, (List.range len).map f, rfl, (fun e => by cases e), ⟨by simp, fun j hj => ?_⟩, by omega, (fun j => ?_), (fun j => ?_)⟩
    rotate_left
    · by_cases hj : j < len
      · have hg : ((List.range len).map f).getD j nd0 = f j := by simp [List.getD, hj]
        rw [hg]; exact ⟨(hf2 j hj).2.2.2.2.1, (hf2 j hj).2.2.2.2.2.1⟩
      · have hg : ((List.range len).map f).getD j nd0 = nd0 := by simp [List.getD, hj]
        rw [hg]; simp [nd0]
    · by_cases hj : j < len
      · have hg : ((List.range len).map f).getD j nd0 = f j := by simp [List.getD, hj]
        rw [hg]; exact (hf2 j hj).2.2.2.2.2.2
      · have hg : ((List.range len).map f).getD j nd0 = nd0 := by simp [List.getD, hj]
        rw [hg]; exact intN_nd0
    obtain ⟨c0, c1, c2, c3, _, _, _⟩ := hf2 j hj
    have hsp : a.spot = none := by
      have h0 := (hf2 0 (by omega)).1
      simpa [Addr.add] using World.cell?_spot h0
    obtain ⟨b, off, spot⟩ := a
    simp at hsp
    subst hsp
    have e : ∀ i, (⟨b, off, none⟩ : Addr).add i = ⟨b, off + i, none⟩ := fun i => by unfold Addr.add; split <;> simp_all
    rw [e] at c0 c1 c2 c3
    have hg : ((List.range len).map f).getD j nd0 = f j := by simp [List.getD, hj]
    rw [hg]
    exact ⟨b, off, rfl, World.block_lt_of_cell? W ⟨b, off + j * 4, none⟩ c0, c0, by rw [Nat.add_assoc]; exact c1, by rw [Nat.add_assoc]; exact c2, by rw [Nat.add_assoc]; exact c3⟩

set_option maxRecDepth 100000 in
theorem trod_texts (hf : DataW.trod enc Tryd.prog W base spare held fuel 30 [v] = some x) :
    ∃ a len cap ts, v = .slice a len cap ∧ TextsIn W a len ts ∧ len ≤ maxLen ∧ ∀ j, (ts.getD j []).length ≤ maxLen := by
  rcases open_strings Tryd.underlying30 Tryd.underlying9 (by kernel_rfl) hf with ⟨hcs, _⟩ | ⟨a, len, cap, ss, hcs, _, hl, hm, hlen, _, hcell, hsz⟩
  · simp at hcs
    subst hcs
    exact ⟨none, 0, 0, [], rfl, ⟨rfl, fun j hj => by omega⟩, by decide, fun j => by simp⟩
  · simp at hcs
    subst hcs
    have hls : len ≤ ss.length := by rw [hlen]; split <;> omega
    have hgd : ∀ j, j < len → ((ss.take len).map (fun s => s.data.toList)).getD j [] = (ss.getD j ByteArray.empty).data.toList := by
      intro j hj
      have hj2 : j < ss.length := by omega
      simp [List.getD, hj, hj2]
    refine ⟨some a, len, cap, (ss.take len).map (fun s => s.data.toList), rfl, ⟨by simp; omega, fun j hj => ?_⟩, by omega, fun j => ?_⟩
    · have hc := hcell j (by omega)
      have hsp : a.spot = none := by
        have h0 := hcell 0 (by omega)
        simpa [Addr.add] using World.cell?_spot h0
      obtain ⟨b, off, spot⟩ := a
      simp at hsp
      subst hsp
      have e : ∀ i, (⟨b, off, none⟩ : Addr).add i = ⟨b, off + i, none⟩ := fun i => by unfold Addr.add; split <;> simp_all
      rw [e] at hc
      refine ⟨b, off, rfl, World.block_lt_of_cell? W ⟨b, off + j, none⟩ hc, ?_⟩
      rw [hc, hgd j hj]
    · by_cases hj : j < len
      · rw [hgd j hj]
        have hj2 : j < ss.length := by omega
        have : ss.getD j ByteArray.empty ∈ ss := by simp [List.getD, hj2]
        have hz := hsz _ this
        simpa using hz
      · have : ((ss.take len).map (fun s => s.data.toList)).getD j [] = [] := by rw [List.getD, List.getElem?_eq_none (by simp; omega)]; rfl
        rw [this]; simp

theorem cellsFunc : Tryd.prog.cellsOf 96 = 3 := by kernel_rfl
theorem cellsPackage : Tryd.prog.cellsOf 48 = 3 := by kernel_rfl

set_option maxRecDepth 100000 in
theorem trod_fns (hf : DataW.trod enc Tryd.prog W base spare held fuel 46 [v] = some x) :
    ∃ a len cap fs, v = .slice a len cap ∧ FuncsIn W a len fs ∧ len ≤ maxLen ∧ LongF fs ∧ IntF fs := by
  rcases open_slice Tryd.underlying46 hf with ⟨hcs, _⟩ | ⟨a, len, cap, q, n, D, Pl, hcs, _, hl, hm, hq, _, hx⟩
  · simp at hcs
    subst hcs
    exact ⟨none, 0, 0, [], rfl, ⟨rfl, fun j hj => by omega⟩, by decide, (fun j => by simp [fn0, LongT, nd0]), (fun j => ⟨by simp [fn0], IntT.nil⟩)⟩
  · simp at hcs
    subst hcs
    have hlq : len ≤ q := by rw [hq]; split <;> omega
    have each : ∀ i, i < len → ∃ y : Fn, W.cell? (a.add (i * 3)) = some (.string ⟨y.1.toArray⟩) ∧ W.cell? (a.add (i * 3 + 1)) = some (.int .i64 y.2.1) ∧
        (∃ ta tl tc, W.cell? (a.add (i * 3 + 2)) = some (.slice ta tl tc) ∧ (ta = none → tc = 0) ∧ NodesIn W ta tl y.2.2) ∧ (y.1.length ≤ maxLen ∧ y.2.2.length ≤ maxLen ∧ LongT y.2.2) ∧ ((-9223372036854775808 ≤ y.2.1 ∧ y.2.1 ≤ 9223372036854775807) ∧ IntT y.2.2) := by
      intro i hi
      obtain ⟨cs', h1, h2⟩ := hx i (by omega)
      rw [cellsFunc] at h1
      obtain ⟨_, hlen, hcell⟩ := World.cells?_some h1
      match cs', hlen with
      | [v0, v1, v2], _ =>
        obtain ⟨y0, y1, y2, k, _, _, t0, t1, t2⟩ := trod_struct3 Tryd.underlying96 h2
        have k2 : Tryd.prog.cellsOf 2 = 1 := by kernel_rfl
        have k9 : Tryd.prog.cellsOf 9 = 1 := by kernel_rfl
        have kn : Tryd.prog.cellsOf 94 = 1 := by kernel_rfl
        simp [k2, k9, kn] at t0 t1 t2
        obtain ⟨s0, e0, _, z0⟩ := DataW.trod_string Tryd.underlying9 t0
        obtain ⟨aa, e1, _, wa⟩ := DataW.trod_int Tryd.underlying2 t1
        obtain ⟨ta, tl, tc, ns, e2, hnc, hns, hnl, hlt, hit⟩ := trod_nodes t2
        simp at e0 e1
        subst e0 e1 e2
        have g0 := hcell 0 (by omega)
        have g1 := hcell 1 (by omega)
        have g2 := hcell 2 (by omega)
        rw [add_add] at g0 g1 g2
        exact ⟨(s0.data.toList, aa, ns), by simpa using g0, by simpa using g1, ⟨ta, tl, tc, by simpa using g2, hnc, hns⟩, ⟨z0, by rw [show ((s0.data.toList, aa, ns) : Fn).2.2 = ns from rfl, hns.1]; exact hnl, hlt⟩, ⟨bounds_i64 wa, hit⟩⟩
    obtain ⟨f, hf2⟩ := choose_lt each
    refine ⟨some a, len, cap, (List.range len).map f, rfl, ⟨by simp, fun j hj => ?_⟩, by omega, (fun j => ?_), (fun j => ?_)⟩
    rotate_left
    · by_cases hj : j < len
      · have hg : ((List.range len).map f).getD j fn0 = f j := by simp [List.getD, hj]
        rw [hg]; exact (hf2 j hj).2.2.2.1
      · have hg : ((List.range len).map f).getD j fn0 = fn0 := by simp [List.getD, hj]
        rw [hg]; simp [fn0, LongT, nd0]
    · by_cases hj : j < len
      · have hg : ((List.range len).map f).getD j fn0 = f j := by simp [List.getD, hj]
        rw [hg]; exact (hf2 j hj).2.2.2.2
      · have hg : ((List.range len).map f).getD j fn0 = fn0 := by simp [List.getD, hj]
        rw [hg]; exact ⟨by simp [fn0], IntT.nil⟩
    obtain ⟨c0, c1, ⟨ta, tl, tc, c2, hnc, hns⟩, _, _⟩ := hf2 j hj
    have hsp : a.spot = none := by
      have h0 := (hf2 0 (by omega)).1
      simpa [Addr.add] using World.cell?_spot h0
    obtain ⟨b, off, spot⟩ := a
    simp at hsp
    subst hsp
    have e : ∀ i, (⟨b, off, none⟩ : Addr).add i = ⟨b, off + i, none⟩ := fun i => by unfold Addr.add; split <;> simp_all
    rw [e] at c0 c1 c2
    have hg : ((List.range len).map f).getD j fn0 = f j := by simp [List.getD, hj]
    rw [hg]
    exact ⟨b, off, rfl, World.block_lt_of_cell? W ⟨b, off + j * 3, none⟩ c0, c0, by rw [Nat.add_assoc]; exact c1, ta, tl, tc, by rw [Nat.add_assoc]; exact c2, hnc, hns⟩

end

set_option maxRecDepth 100000 in
theorem open_package {H : Type} {enc : TypeId × Value → H} {W : World} {base b0 : Nat} {spare : Nat → Bool} {held : Bool} {v : Value} {d : DataW H} {p : List MemPlace}
    (hv : Value.okWide Tryd.prog W .any b0 48 v) (h : DataW.Trod enc Tryd.prog W base spare held 48 v d p) :
    ∃ nm ia il ic ims fa fl fc fs, v = .agg #[.string ⟨(nm : List UInt8).toArray⟩, .slice ia il ic, .slice fa fl fc] ∧ TextsIn W ia il ims ∧ FuncsIn W fa fl fs ∧ nm.length ≤ maxLen ∧ il ≤ maxLen ∧ (∀ j, (ims.getD j []).length ≤ maxLen) ∧ fl ≤ maxLen ∧ LongF fs ∧ IntF fs := by
  obtain ⟨c0, c1, c2, y0, y1, y2, m, rfl, _, _, t0, t1, t2⟩ := open_agg3 Tryd.underlying48 (by kernel_rfl) cellsPackage hv h
  obtain ⟨s0, e0, _, h0⟩ := DataW.trod_string Tryd.underlying9 t0
  simp at e0
  subst e0
  obtain ⟨ia, il, ic, ims, rfl, hi, hil, him⟩ := trod_texts t1
  obtain ⟨fa, fl, fc, fs, rfl, hf, hfl, hlf, hif⟩ := trod_fns t2
  exact ⟨s0.data.toList, ia, il, ic, ims, fa, fl, fc, fs, rfl, hi, hf, h0, hil, him, hfl, hlf, hif⟩

end Go.Proofs.YtdjglpcllcjcfaaDoor
