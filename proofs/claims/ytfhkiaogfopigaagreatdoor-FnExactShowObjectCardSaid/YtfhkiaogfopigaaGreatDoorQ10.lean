/-
  Parts of one proof, one behind the other: RtM, ImgH, ImgH2, ObM, ObK.
-/
import Derived.Test.YtfhkiaogfopigaaGreatDoorQ9
import Derived.Test.YtfhkiaogfopigaaGreatDoorQ7
import Derived.Test.YtfhkiaogfopigaaGreatDoorQ8
import Derived.Deep.RegionWith
import Derived.Test.YtfhkiaogfopigaaGreatDoorQ3

/-! The laws' own helpers over routines: markRoutineS, heldRoutineS. -/
namespace Go.Proofs.YtfhkiaogfopigaaGreatDoor
open Go.RowKit

/-- What functions hold when they are marked from k on, and the next mark. -/
def rmk (k : Nat) (x : RV) : RV := ((markL k, ((k + 1 : Nat) : Int), marksC (k + 2) x.1.2.2.length), x.2)
def rmark (k : Nat) : List RV → List RV
  | [] => []
  | x :: r => rmk k x :: rmark (k + 2 + 5 * x.1.2.2.length) r
def rend (k : Nat) : List RV → Nat
  | [] => k
  | x :: r => rend (k + 2 + 5 * x.1.2.2.length) r

theorem rmk_T (k : Nat) (x : RV) : rvT (rmk k x) = rvT x := by unfold rvT rmk; rw [marksC_len]
theorem rmark_len (k : Nat) (xs : List RV) : (rmark k xs).length = xs.length := by
  induction xs generalizing k with
  | nil => rfl
  | cons x r ih => simp [rmark, ih]
theorem rmark_snoc (k : Nat) (xs : List RV) (x : RV) : rmark k (xs ++ [x]) = rmark k xs ++ [rmk (rend k xs) x] ∧ rend k (xs ++ [x]) = rend k xs + 2 + 5 * x.1.2.2.length := by
  induction xs generalizing k with
  | nil => exact ⟨rfl, rfl⟩
  | cons y r ih =>
    have := ih (k + 2 + 5 * y.1.2.2.length)
    exact ⟨by rw [List.cons_append, rmark, this.1]; rfl, by rw [List.cons_append, rend, this.2]; rfl⟩
theorem rend_ge (k : Nat) (xs : List RV) : k ≤ rend k xs := by
  induction xs generalizing k with
  | nil => exact Nat.le_refl _
  | cons x r ih => have := ih (k + 2 + 5 * x.1.2.2.length); unfold rend; omega
theorem rend_app (k : Nat) (xs ys : List RV) : rend k (xs ++ ys) = rend (rend k xs) ys := by
  induction xs generalizing k with
  | nil => rfl
  | cons x r ih => rw [List.cons_append, rend, ih]; rfl
theorem rend_take (k : Nat) (xs : List RV) (m : Nat) : rend k (xs.take m) ≤ rend k xs := by
  conv => rhs; rw [← List.take_append_drop m xs, rend_app]
  exact rend_ge _ _

/-- Half way: m functions are marked. -/
def rhalf (k : Nat) (xs : List RV) (m : Nat) : List RV := rmark k (xs.take m) ++ xs.drop m
theorem rhalf_len (k : Nat) (xs : List RV) (m : Nat) : (rhalf k xs m).length = xs.length := by
  unfold rhalf; rw [List.length_append, rmark_len, ← List.length_append, List.take_append_drop]
theorem rhalf_at (k : Nat) (xs : List RV) (m : Nat) (hm : m < xs.length) : (rhalf k xs m).getD m rv0 = xs[m] := by
  unfold rhalf
  have hl : (rmark k (xs.take m)).length = m := by rw [rmark_len, List.length_take]; omega
  rw [List.getD_eq_getElem?_getD, List.getElem?_append_right (by omega), hl, Nat.sub_self, List.getElem?_drop, Nat.add_zero, List.getElem?_eq_getElem hm]
  rfl
theorem rhalf_step (k : Nat) (xs : List RV) (m : Nat) (hm : m < xs.length) : (rhalf k xs m).set m (rmk (rend k (xs.take m)) xs[m]) = rhalf k xs (m + 1) ∧ rend k (xs.take (m + 1)) = rend k (xs.take m) + 2 + 5 * xs[m].1.2.2.length := by
  have h1 := rmark_snoc k (xs.take m) xs[m]
  rw [← List.take_succ_eq_append_getElem hm] at h1
  refine ⟨?_, h1.2⟩
  have hl : (rmark k (xs.take m)).length = m := by rw [rmark_len, List.length_take]; omega
  unfold rhalf
  rw [h1.1, List.set_append_right _ _ (by omega), hl, Nat.sub_self, List.drop_eq_getElem_cons hm, List.set_cons_zero, List.append_assoc]
  rfl
theorem rhalf_T (k : Nat) (xs : List RV) (m : Nat) : (rhalf k xs m).map rvT = xs.map rvT := by
  have key : ∀ (k : Nat) (l : List RV), (rmark k l).map rvT = l.map rvT := by
    intro k l
    induction l generalizing k with
    | nil => rfl
    | cons x r ih => rw [rmark, List.map_cons, List.map_cons, rmk_T, ih]
  unfold rhalf
  rw [List.map_append, key, ← List.map_append, List.take_append_drop]

theorem set_sameR {α : Type} {l : List α} {i : Nat} {a : α} (h : l[i]? = some a) : l.set i a = l := by
  apply List.ext_getElem?
  intro j
  rw [List.getElem?_set]
  split
  · rename_i e
    subst e
    split
    · exact h.symm
    · rename_i hl; rw [List.getElem?_eq_none (by omega)]
  · rfl

def RtBlocks (v : Value) (xs : List RV) (k : Nat) : Prop := v.ownBlock = some k ∨ ∃ x ∈ xs, (rvT x).ownBlock = some k

set_option maxHeartbeats 2000000 in
set_option maxRecDepth 100000 in
theorem markRoutineSC (w : World) (base g cp k0 : Nat) (xs : List RV) (hn : xs.length ≤ 1100000) (hk0 : 0 < k0) (hk1 : rend k0 xs ≤ 30000000) (hls : ∀ x ∈ xs, x.1.2.2.length ≤ 1100000) (hap : ApartR (xs.map rvT))
    (h : RtsOwn w base (.slice (some ⟨g, 0, none⟩) xs.length cp) xs) :
    Calls Tryz.prog 37 #[.slice (some ⟨g, 0, none⟩) xs.length cp, .int .i64 k0] w fun e w' => e = .returned (.int .i64 ((rend k0 xs : Nat) : Int)) ∧ RtsOwn w' base (.slice (some ⟨g, 0, none⟩) xs.length cp) (rmark k0 xs) ∧ WroteR w w' (RtBlocks (.slice (some ⟨g, 0, none⟩) xs.length cp) xs) := by
  have HAP : Hid (ApartR (xs.map rvT)) := hap
  have HLS : Hid (∀ x ∈ xs, x.1.2.2.length ≤ 1100000) := hls
  have hst0 : rhalf k0 xs 0 = xs := rfl
  have H0 : Hid (RtsOwn w base (.slice (some ⟨g, 0, none⟩) xs.length cp) (rhalf k0 xs 0)) := h
  clear hap hls h hst0
  go_enter Tryz.func37, Tryz.ntmps37
  go_wp2
  go_loopw [1, 5] (fun k i wr => ∃ m : Nat, m ≤ xs.length ∧ i = .int .i64 m ∧ k = .int .i64 ((rend k0 (xs.take m) : Nat) : Int) ∧ Hid (RtsOwn wr base (.slice (some ⟨g, 0, none⟩) xs.length cp) (rhalf k0 xs m)) ∧ Hid (WroteR w wr (RtBlocks (.slice (some ⟨g, 0, none⟩) xs.length cp) xs))) (fun _ i _ => xs.length - (intOf i).toNat)
  case atStart => exact ⟨0, Nat.zero_le _, rfl, rfl, H0, WroteR.refl _ _⟩
  case round =>
    obtain ⟨m, hm, rfl, rfl, HO, HW⟩ := hrel
    clear H0
    by_cases hlt : (m : Int) < (xs.length : Int)
    · have hm2 : m < xs.length := by omega
      obtain ⟨hset, hend⟩ := rhalf_step k0 xs m hm2
      have hat := rhalf_at k0 xs m hm2
      have hfl := rhalf_len k0 xs m
      have hT := rhalf_T k0 xs m
      have hend2 := rend_take k0 xs (m + 1)
      have hxl := HLS.out xs[m] (List.getElem_mem hm2)
      obtain ⟨ys, hys⟩ : ∃ ys, rhalf k0 xs m = ys := ⟨_, rfl⟩
      rw [hys] at hset hat hfl hT HO
      obtain ⟨x, hx⟩ : ∃ x, xs[m] = x := ⟨_, rfl⟩
      rw [hx] at hset hat hend hxl
      obtain ⟨q, hq⟩ : ∃ q, rend k0 (xs.take m) = q := ⟨_, rfl⟩
      have hq0 : 0 < q := by rw [← hq]; have := rend_ge k0 (xs.take m); omega
      rw [hq] at hset hend ⊢
      have hq3 : q + 2 + 5 * x.1.2.2.length ≤ 30000000 := by omega
      have HSET : Hid (ys.set m (rmk q x) = rhalf k0 xs (m + 1)) := hset
      have HEND : Hid (rend k0 (xs.take (m + 1)) = q + 2 + 5 * x.1.2.2.length) := hend
      have HT : Hid (ys.map rvT = xs.map rvT) := hT
      have HX : Hid (∃ h : m < ys.length, ys[m] = x) := ⟨by omega, by rw [List.getD_eq_getElem?_getD, List.getElem?_eq_getElem (by omega)] at hat; exact hat⟩
      have HFL : Hid (ys.length = xs.length) := hfl
      have HXM : Hid (x ∈ xs) := by rw [← hx]; exact List.getElem_mem hm2
      obtain ⟨v0, v1, v2⟩ := rtsV_at ys m (by omega)
      rw [hat] at v0 v1 v2
      have hrow := HO.out.row
      rw [hfl] at hrow
      clear hset hend hend2 hys hx hq hT hat hfl
      obtain ⟨zs, hzs⟩ : ∃ zs, rtsV ys = zs := ⟨_, rfl⟩
      have hzset := rtsV_set ys m (rmk q x)
      rw [hzs] at hrow v0 v1 v2 hzset
      have HZ : Hid (((zs.set (m * 3) (.string ⟨(markL q).toArray⟩)).set (m * 3 + 1) (.int .i64 ((q : Int) + 1))).set (m * 3 + 2) (rvT x) = rtsV (ys.set m (rmk q x))) := by
        rw [← rmk_T q x, show (q : Int) + 1 = ((q + 1 : Nat) : Int) by omega]; exact hzset
      clear hzset
      have htree : wr.ownsRow base 81 5 (rvT x) x.1.2.2.length (insV x.1.2.2) := by
        obtain ⟨hl, he⟩ := HX.out
        rw [← he]; exact HO.out.trees _ (List.getElem_mem hl)
      obtain ⟨hxl2, ta, tc, htv, _⟩ := own_ins htree
      have HTV : Hid (rvT x = .slice ta x.1.2.2.length tc) := htv
      rw [htv] at v2
      clear hzs htv
      go_wp2_with fail
      refine (markTextC q _ (by omega) (by omega)).mono ?_
      rintro e w2 ⟨rfl, hg2⟩
      have hrow2 := own_none hrow hg2
      obtain ⟨u0, d0⟩ : ∃ u, w2.cell? ⟨g, m * 3, none⟩ = some u := by rw [hrow2.cellAt (m * 3) (by omega), v0]; exact ⟨_, rfl⟩
      obtain ⟨u1, d1⟩ : ∃ u, w2.cell? ⟨g, m * 3 + 1, none⟩ = some u := by rw [hrow2.cellAt (m * 3 + 1) (by omega), v1]; exact ⟨_, rfl⟩
      have d2 : w2.cell? ⟨g, m * 3 + 2, none⟩ = some (.slice ta x.1.2.2.length tc) := by rw [hrow2.cellAt (m * 3 + 2) (by omega), v2]
      have e0 := hrow2.frozenAt (m * 3)
      have e1 := hrow2.frozenAt (m * 3 + 1)
      have hs1 := hrow2.stored (m * 3) (.string ⟨(markL q).toArray⟩)
      have hs2 := hs1.1.stored (m * 3 + 1) (.int .i64 ((q : Int) + 1))
      have hW3 : WroteR w ((w2.setCell ⟨g, m * 3, none⟩ (.string ⟨(markL q).toArray⟩)).setCell ⟨g, m * 3 + 1, none⟩ (.int .i64 ((q : Int) + 1))) (RtBlocks (.slice (some ⟨g, 0, none⟩) xs.length cp) xs) :=
        ((HW.out.trans (WroteR.of_grown hg2 (fun _ e => by cases e))).trans (WroteR.of_grown hs1.2 (fun _ e => Or.inl e))).trans (WroteR.of_grown hs2.2 (fun _ e => Or.inl e))
      have htrees : ∀ z ∈ ys, ((w2.setCell ⟨g, m * 3, none⟩ (.string ⟨(markL q).toArray⟩)).setCell ⟨g, m * 3 + 1, none⟩ (.int .i64 ((q : Int) + 1))).ownsRow base 81 5 (rvT z) z.1.2.2.length (insV z.1.2.2) := by
        intro z hz
        have t1 := own_none (HO.out.trees z hz) hg2
        have hd := own_typesR t1 hrow2 (by decide)
        have t2 := t1.kept hs1.2 hd
        exact t2.kept hs2.2 hd
      have d2b : ((w2.setCell ⟨g, m * 3, none⟩ (.string ⟨(markL q).toArray⟩)).setCell ⟨g, m * 3 + 1, none⟩ (.int .i64 ((q : Int) + 1))).cell? ⟨g, m * 3 + 2, none⟩ = some (.slice ta x.1.2.2.length tc) := by
        rw [hs2.1.cellAt (m * 3 + 2) (by omega), List.getElem?_set_ne (by omega), List.getElem?_set_ne (by omega), v2]
      obtain ⟨W3, hW3e⟩ : ∃ W3, (w2.setCell ⟨g, m * 3, none⟩ (.string ⟨(markL q).toArray⟩)).setCell ⟨g, m * 3 + 1, none⟩ (.int .i64 ((q : Int) + 1)) = W3 := ⟨_, rfl⟩
      have hrow3 := hs2.1
      rw [hW3e] at hrow3 hW3 htrees d2b
      have HR3 : Hid (W3.ownsRow base 78 3 (.slice (some ⟨g, 0, none⟩) xs.length cp) xs.length ((zs.set (m * 3) (.string ⟨(markL q).toArray⟩)).set (m * 3 + 1) (.int .i64 ((q : Int) + 1)))) := hrow3
      have HW3 : Hid (WroteR w W3 (RtBlocks (.slice (some ⟨g, 0, none⟩) xs.length cp) xs)) := hW3
      have HTR : Hid (∀ z ∈ ys, W3.ownsRow base 81 5 (rvT z) z.1.2.2.length (insV z.1.2.2)) := htrees
      have htree3 : W3.ownsRow base 81 5 (.slice ta x.1.2.2.length tc) x.1.2.2.length (insV x.1.2.2) := by
        obtain ⟨hl, he⟩ := HX.out
        have h3 := htrees _ (List.getElem_mem hl)
        rw [he, HTV.out] at h3
        exact h3
      have HM : Hid (_) := markInsSV W3 base x.1.2.2.length (q + 2) (.slice ta x.1.2.2.length tc) x.1.2.2 (by omega) (by omega) (by omega) htree3
      rw [show ((q + 2 : Nat) : Int) = (q : Int) + 1 + 1 by omega] at HM
      have HT3 : Hid (W3.ownsRow base 81 5 (.slice ta x.1.2.2.length tc) x.1.2.2.length (insV x.1.2.2)) := htree3
      have HV2 : Hid (zs[m * 3 + 2]? = some (.slice ta x.1.2.2.length tc)) := v2
      clear hs1 hs2 hW3 htrees hrow3 hrow2 hrow hg2 htree htree3 HW v0 v1 v2
      go_wp2_with fail
      refine Calls.mono HM.out ?_
      rintro e w4 ⟨rfl, hown4, hg4⟩
      have HO4 : Hid (RtsOwn w4 base (.slice (some ⟨g, 0, none⟩) xs.length cp) (rhalf k0 xs (m + 1))) := by
        have hrow4 := HR3.out.kept hg4 (own_typesR HR3.out HT3.out (by decide))
        have hz3 : ((zs.set (m * 3) (.string ⟨(markL q).toArray⟩)).set (m * 3 + 1) (.int .i64 ((q : Int) + 1))) = rtsV (ys.set m (rmk q x)) := by
          rw [← HZ.out, HTV.out]
          exact (set_sameR (by rw [List.getElem?_set_ne (by omega), List.getElem?_set_ne (by omega)]; exact HV2.out)).symm
        rw [hz3] at hrow4
        rw [← HSET.out]
        refine ⟨by rw [List.length_set, HFL.out]; exact hrow4, fun z hz => ?_⟩
        obtain ⟨j, hj, rfl⟩ := List.mem_iff_getElem.1 hz
        rw [List.length_set] at hj
        rw [List.getElem_set]
        by_cases hjm : m = j
        · subst hjm
          rw [if_pos rfl, rmk_T, HTV.out]
          show w4.ownsRow base _ 5 _ (marksC (q + 2) x.1.2.2.length).length (insV (marksC (q + 2) x.1.2.2.length))
          rw [marksC_len]
          exact hown4
        · rw [if_neg hjm]
          refine (HTR.out _ (List.getElem_mem hj)).kept hg4 ?_
          obtain ⟨hl, he⟩ := HX.out
          have hap : ApartR (ys.map rvT) := by rw [HT.out]; exact HAP.out
          have hne := hap.ne (i := j) (j := m) (by simpa using hj) (by simpa using hl) (fun e => hjm e.symm)
          rw [List.getElem_map, List.getElem_map, he, HTV.out] at hne
          exact hne
      have HW4 : Hid (WroteR w w4 (RtBlocks (.slice (some ⟨g, 0, none⟩) xs.length cp) xs)) := HW3.out.trans (WroteR.of_grown hg4 (fun k e => Or.inr ⟨x, HXM.out, by rw [HTV.out]; exact e⟩))
      clear hown4 hg4 HR3 HT3 HTR HW3 HM HZ HSET HT HX HV2 HTV HXM HFL d0 d1 d2 d2b e0 e1 HO
      go_wp2
      go_roundw
      case rel => exact ⟨m + 1, by omega, by go_num, by rw [HEND.out]; go_num, HO4, HW4⟩
      case measure => simp [intOf]; omega
    · obtain rfl : m = xs.length := by omega
      have hO := HO.out
      have HK : Hid (rend k0 (xs.take xs.length) = rend k0 xs) := by exact (by rw [List.take_length] : rend k0 (xs.take xs.length) = rend k0 xs)
      have HH : Hid (rhalf k0 xs xs.length = rmark k0 xs) := by exact (by unfold rhalf; rw [List.take_length, List.drop_length, List.append_nil] : rhalf k0 xs xs.length = rmark k0 xs)
      rw [HH.out] at hO
      go_wp2
      go_ret
      exact ⟨by rw [← HK.out]; rfl, hO, HW.out⟩

theorem rmark_at (k : Nat) (xs : List RV) (m : Nat) (hm : m < xs.length) : (rmark k xs).getD m rv0 = rmk (rend k (xs.take m)) xs[m] := by
  induction xs generalizing k m with
  | nil => simp at hm
  | cons x r ih =>
    cases m with
    | zero => rfl
    | succ m =>
      have := ih (k + 2 + 5 * x.1.2.2.length) m (by simpa using hm)
      rw [List.take_succ_cons, rend, List.getElem_cons_succ, ← this]
      rfl

set_option maxHeartbeats 2000000 in
set_option maxRecDepth 100000 in
theorem heldRoutineSC (w : World) (base g cp k0 : Nat) (xs : List RV) (hn : xs.length ≤ 1100000) (hk0 : 0 < k0) (hk1 : rend k0 xs ≤ 30000000) (hls : ∀ x ∈ xs, x.1.2.2.length ≤ 1100000)
    (h : RtsOwn w base (.slice (some ⟨g, 0, none⟩) xs.length cp) (rmark k0 xs)) :
    Calls Tryz.prog 38 #[.slice (some ⟨g, 0, none⟩) xs.length cp, .int .i64 k0] w fun e w' => e = .returned (.int .i64 ((rend k0 xs : Nat) : Int)) ∧ w.grownBy w' none := by
  have hself : ∀ l : List UInt8, (l != l) = false := by simp
  have hne : ∀ n : Int, (n != n) = false := by simp
  have HLS : Hid (∀ x ∈ xs, x.1.2.2.length ≤ 1100000) := hls
  have HF : Hid (RtsOwn w base (.slice (some ⟨g, 0, none⟩) xs.length cp) (rmark k0 xs)) := h
  clear hls h
  go_enter Tryz.func38, Tryz.ntmps38
  go_wp2
  go_loopw [1, 5] (fun k i wr => ∃ m : Nat, m ≤ xs.length ∧ i = .int .i64 m ∧ k = .int .i64 ((rend k0 (xs.take m) : Nat) : Int) ∧ w.grownBy wr none) (fun _ i _ => xs.length - (intOf i).toNat)
  case atStart => exact ⟨0, Nat.zero_le _, rfl, rfl, World.grownBy.refl _ _⟩
  case round =>
    obtain ⟨m, hm, rfl, rfl, hg⟩ := hrel
    by_cases hlt : (m : Int) < (xs.length : Int)
    · have hm2 : m < xs.length := by omega
      have hend := (rhalf_step k0 xs m hm2).2
      have hend2 := rend_take k0 xs (m + 1)
      have hat := rmark_at k0 xs m hm2
      have hxl := HLS.out xs[m] (List.getElem_mem hm2)
      have hfl := rmark_len k0 xs
      have hrow := HF.out.row
      rw [hfl] at hrow
      obtain ⟨v0, v1, v2⟩ := rtsV_at (rmark k0 xs) m (by omega)
      have hmem : (rmark k0 xs).getD m rv0 ∈ rmark k0 xs := by rw [List.getD_eq_getElem?_getD, List.getElem?_eq_getElem (by omega)]; exact List.getElem_mem (by omega)
      have htr := HF.out.trees _ hmem
      rw [hat] at v0 v1 v2 htr
      obtain ⟨x, hx⟩ : ∃ x, xs[m] = x := ⟨_, rfl⟩
      obtain ⟨q, hq⟩ : ∃ q, rend k0 (xs.take m) = q := ⟨_, rfl⟩
      rw [hx, hq] at v0 v1 v2 htr
      rw [hx, hq] at hend
      rw [hx] at hxl
      have hq0 : 0 < q := by rw [← hq]; have := rend_ge k0 (xs.take m); omega
      have hq3 : q + 2 + 5 * x.1.2.2.length ≤ 30000000 := by omega
      have HEND : Hid (rend k0 (xs.take (m + 1)) = q + 2 + 5 * x.1.2.2.length) := hend
      rw [hq]
      have c0 : wr.cell? ⟨g, m * 3, none⟩ = some (.string ⟨(markL q).toArray⟩) := hg.cell (a := ⟨g, m * 3, none⟩) ((hrow.cellAt (m * 3) (by omega)).trans v0) (by simp)
      have c1 : wr.cell? ⟨g, m * 3 + 1, none⟩ = some (.int .i64 ((q : Int) + 1)) := hg.cell (a := ⟨g, m * 3 + 1, none⟩) ((hrow.cellAt (m * 3 + 1) (by omega)).trans (v1.trans (by show some (Value.int .i64 ((q + 1 : Nat) : Int)) = _; rw [show ((q + 1 : Nat) : Int) = (q : Int) + 1 by omega]))) (by simp)
      have c2 : wr.cell? ⟨g, m * 3 + 2, none⟩ = some (rvT (rmk q x)) := hg.cell (a := ⟨g, m * 3 + 2, none⟩) ((hrow.cellAt (m * 3 + 2) (by omega)).trans v2) (by simp)
      have ht3 : wr.ownsRow base 81 5 (rvT x) x.1.2.2.length (insV (marksC (q + 2) x.1.2.2.length)) := by
        have t := own_none htr hg
        rw [rmk_T] at t
        have e1 : (rmk q x).1.2.2 = marksC (q + 2) x.1.2.2.length := rfl
        rw [e1, marksC_len] at t
        exact t
      rw [rmk_T] at c2
      obtain ⟨_, ta, tc, htv, _⟩ := own_ins ht3
      rw [htv] at c2 ht3
      have HT3 : Hid (wr.ownsRow base 81 5 (.slice ta x.1.2.2.length tc) x.1.2.2.length (insV (marksC (q + 2) x.1.2.2.length))) := ht3
      generalize x.1.2.2.length = n at c2 HT3 HEND hq3 hxl
      have hge : ¬ ((q + 2 + 5 * n : Nat) : Int) < 0 := by omega
      clear v0 v1 v2 hrow htr hmem hat hfl hend hend2 hx hq ht3 htv
      go_wp2
      go_region_with (go_at_call 64; refine (markTextC q _ (by omega) (by omega)).mono ?_; rintro e w1 ⟨rfl, hg1⟩; have x0 := hg1.cell (a := ⟨g, m * 3, none⟩) c0 (by simp); have x1 := hg1.cell (a := ⟨g, m * 3 + 1, none⟩) c1 (by simp); have x2 := hg1.cell (a := ⟨g, m * 3 + 2, none⟩) c2 (by simp))
      all_goals
        have hG1 : wr.grownBy w1 none := by first | exact hg1 | exact (grown_drew _ _).trans hg1
        have HM := heldInsSV w1 base n (q + 2) (.slice ta n tc) (by omega) (by omega) (by omega) (own_none HT3.out hG1)
        rw [show ((q + 2 : Nat) : Int) = (q : Int) + 1 + 1 by omega] at HM
        have HM2 : Hid (_) := HM
        clear HM hg1
        go_wp2_with fail
        refine Calls.mono HM2.out ?_
        rintro e w2 ⟨rfl, hg2⟩
        have hG2 := (hg.trans hG1).trans hg2
        clear HM2 hg2
        go_wp2
        go_roundw
        case rel => exact ⟨m + 1, by omega, by go_num, by rw [HEND.out]; go_num, hG2⟩
        case measure => simp [intOf]; omega
    · obtain rfl : m = xs.length := by omega
      have HK : Hid (rend k0 (xs.take xs.length) = rend k0 xs) := by exact (by rw [List.take_length] : rend k0 (xs.take xs.length) = rend k0 xs)
      go_wp2
      go_ret
      exact ⟨by rw [← HK.out]; rfl, hg⟩

end Go.Proofs.YtfhkiaogfopigaaGreatDoor

/-! The laws' own helpers over images: szImage, toImage, eqImage, markImage, heldImage. -/
namespace Go.Proofs.YtfhkiaogfopigaaGreatDoor
open Go.RowKit

set_option maxHeartbeats 1000000 in
set_option maxRecDepth 100000 in
theorem eqImageC (a b : Option Addr) (len ca cb : Nat) (rs : List Rt) (w : World) (ha : RtsIn w a len rs) (hb : RtsIn w b len rs) (hlen : len ≤ 4194304) (hsh : ∀ j, (rs.getD j rt0).2.2.length ≤ 4194304) :
    Calls Tryz.prog 11 #[.agg #[.slice a len ca], .agg #[.slice b len cb]] w fun e w' => e = .returned (.bool true) ∧ Below w.heap.size w w' := by
  have hbW : Below w.heap.size w ((w.alloc (.cells #[.slice a len ca] 29)).alloc (.cells #[.slice b len cb] 29)) := ((Below.refl _ _).alloc (Nat.le_refl _) _).alloc (by simp) _
  have HC : Hid (_) := eqRoutineSC a b len ca cb rs _ (ha.below hbW) (hb.below hbW) hlen hsh
  have HB : Hid (Below w.heap.size w ((w.alloc (.cells #[.slice a len ca] 29)).alloc (.cells #[.slice b len cb] 29))) := hbW
  clear ha hb hbW
  go_enter Tryz.func11, Tryz.ntmps11
  go_wp2_with fail
  refine Calls.mono HC.out ?_
  rintro e w1 ⟨rfl, hb1⟩
  go_wp2
  go_ret
  exact ⟨rfl, HB.out.trans (hb1.mono HB.out.size)⟩

set_option maxHeartbeats 1000000 in
set_option maxRecDepth 100000 in
theorem markImageC (w : World) (base g cp k0 : Nat) (xs : List RV) (hn : xs.length ≤ 1100000) (hk0 : 0 < k0) (hk1 : rend k0 xs ≤ 30000000) (hls : ∀ x ∈ xs, x.1.2.2.length ≤ 1100000) (hap : ApartR (xs.map rvT))
    (h : RtsOwn w base (.slice (some ⟨g, 0, none⟩) xs.length cp) xs) :
    Calls Tryz.prog 14 #[.agg #[.slice (some ⟨g, 0, none⟩) xs.length cp], .int .i64 k0] w fun e w' => e = .returned (.int .i64 ((rend k0 xs : Nat) : Int)) ∧ RtsOwn w' base (.slice (some ⟨g, 0, none⟩) xs.length cp) (rmark k0 xs) ∧ WroteR w w' (RtBlocks (.slice (some ⟨g, 0, none⟩) xs.length cp) xs) := by
  have hbW : Below w.heap.size w (w.alloc (.cells #[.slice (some ⟨g, 0, none⟩) xs.length cp] 29)) := (Below.refl _ _).alloc (Nat.le_refl _) _
  have HC : Hid (_) := markRoutineSC _ base g cp k0 xs hn hk0 hk1 hls hap (h.below hbW)
  have HB : Hid (Below w.heap.size w (w.alloc (.cells #[.slice (some ⟨g, 0, none⟩) xs.length cp] 29))) := hbW
  clear h hbW hap hls
  go_enter Tryz.func14, Tryz.ntmps14
  go_wp2_with fail
  refine Calls.mono HC.out ?_
  rintro e w1 ⟨rfl, ho, hw⟩
  have HF : Hid (RtsOwn w1 base (.slice (some ⟨g, 0, none⟩) xs.length cp) (rmark k0 xs) ∧ WroteR w w1 (RtBlocks (.slice (some ⟨g, 0, none⟩) xs.length cp) xs)) := ⟨ho, (WroteR.of_below HB.out).trans hw⟩
  clear ho hw HC
  go_wp2
  go_ret
  exact ⟨rfl, HF.out⟩

set_option maxHeartbeats 1000000 in
set_option maxRecDepth 100000 in
theorem heldImageC (w : World) (base g cp k0 : Nat) (xs : List RV) (hn : xs.length ≤ 1100000) (hk0 : 0 < k0) (hk1 : rend k0 xs ≤ 30000000) (hls : ∀ x ∈ xs, x.1.2.2.length ≤ 1100000)
    (h : RtsOwn w base (.slice (some ⟨g, 0, none⟩) xs.length cp) (rmark k0 xs)) :
    Calls Tryz.prog 15 #[.agg #[.slice (some ⟨g, 0, none⟩) xs.length cp], .int .i64 k0] w fun e w' => e = .returned (.int .i64 ((rend k0 xs : Nat) : Int)) ∧ w.grownBy w' none := by
  have hbW : Below w.heap.size w (w.alloc (.cells #[.slice (some ⟨g, 0, none⟩) xs.length cp] 29)) := (Below.refl _ _).alloc (Nat.le_refl _) _
  have HC : Hid (_) := heldRoutineSC _ base g cp k0 xs hn hk0 hk1 hls (h.below hbW)
  have hge : ¬ ((rend k0 xs : Nat) : Int) < 0 := by omega
  generalize rend k0 xs = z at HC hge ⊢
  clear h hbW hls hk1
  go_enter Tryz.func15, Tryz.ntmps15
  go_wp2_with fail
  refine Calls.mono HC.out ?_
  rintro e w1 ⟨rfl, hg⟩
  have HG : Hid (w.grownBy w1 none) := (World.grownBy_alloc w _ _).trans hg
  clear HC hg
  go_wp2
  go_ret
  exact ⟨rfl, HG.out⟩

end Go.Proofs.YtfhkiaogfopigaaGreatDoor

/-! An image's marks, also where it has no routine at all (nil). -/
namespace Go.Proofs.YtfhkiaogfopigaaGreatDoor
open Go.RowKit

theorem rend_small (k : Nat) (xs : List RV) (h : ∀ x ∈ xs, x.1.2.2.length ≤ 200) : rend k xs ≤ k + 1002 * xs.length := by
  induction xs generalizing k with
  | nil => simp [rend]
  | cons x r ih =>
    have h1 := h x (List.mem_cons.2 (Or.inl rfl))
    have h2 := ih (k + 2 + 5 * x.1.2.2.length) (fun y hy => h y (List.mem_cons.2 (Or.inr hy)))
    simp only [rend, List.length_cons]
    omega
theorem RtsOwn.none {w w' : World} {base : Nat} {v : Value} {xs : List RV} (h : RtsOwn w base v xs) (hg : w.grownBy w' none) : RtsOwn w' base v xs :=
  h.kept hg (by cases hv : v.ownBlock with | none => exact Or.inl rfl | some k => exact Or.inr (by simp)) (fun x _ => by cases hv : (rvT x).ownBlock with | none => exact Or.inl rfl | some k => exact Or.inr (by simp))

set_option maxHeartbeats 1000000 in
set_option maxRecDepth 100000 in
theorem markRoutineN (w : World) (k0 : Nat) : Calls Tryz.prog 37 #[.slice none 0 0, .int .i64 k0] w fun e w' => e = .returned (.int .i64 (k0 : Int)) ∧ w' = w := by
  go_enter Tryz.func37, Tryz.ntmps37
  go_wp2
  go_loopw [1, 5] (fun k i wr => k = .int .i64 (k0 : Int) ∧ i = .int .i64 0 ∧ wr = w) (fun _ _ _ => 0)
  case atStart => exact ⟨rfl, rfl, rfl⟩
  case round =>
    obtain ⟨rfl, rfl, rfl⟩ := hrel
    go_wp2
    go_ret
    exact ⟨rfl, rfl⟩
set_option maxHeartbeats 1000000 in
set_option maxRecDepth 100000 in
theorem heldRoutineN (w : World) (k0 : Nat) : Calls Tryz.prog 38 #[.slice none 0 0, .int .i64 k0] w fun e w' => e = .returned (.int .i64 (k0 : Int)) ∧ w' = w := by
  go_enter Tryz.func38, Tryz.ntmps38
  go_wp2
  go_loopw [1, 5] (fun k i wr => k = .int .i64 (k0 : Int) ∧ i = .int .i64 0 ∧ wr = w) (fun _ _ _ => 0)
  case atStart => exact ⟨rfl, rfl, rfl⟩
  case round =>
    obtain ⟨rfl, rfl, rfl⟩ := hrel
    go_wp2
    go_ret
    exact ⟨rfl, rfl⟩

set_option maxHeartbeats 1000000 in
set_option maxRecDepth 100000 in
theorem markImageV (w : World) (base k0 : Nat) (v : Value) (xs : List RV) (hn : xs.length ≤ 1100000) (hk0 : 0 < k0) (hk1 : rend k0 xs ≤ 30000000) (hls : ∀ x ∈ xs, x.1.2.2.length ≤ 1100000) (hap : ApartR (xs.map rvT)) (h : RtsOwn w base v xs) :
    Calls Tryz.prog 14 #[.agg #[v], .int .i64 k0] w fun e w' => e = .returned (.int .i64 ((rend k0 xs : Nat) : Int)) ∧ RtsOwn w' base v (rmark k0 xs) ∧ WroteR w w' (RtBlocks v xs) := by
  rcases own_forms h.row with ⟨rfl, h0, _⟩ | ⟨g, cp, rfl⟩
  · obtain rfl : xs = [] := List.eq_nil_of_length_eq_zero h0
    have HC : Hid (_) := markRoutineN (w.alloc (.cells #[.slice none 0 0] 29)) k0
    have HB : Hid (Below w.heap.size w (w.alloc (.cells #[.slice none 0 0] 29))) := (Below.refl _ _).alloc (Nat.le_refl _) _
    have hr : rend k0 [] = k0 := rfl
    rw [hr]
    clear h hap hls hk1 hr
    go_enter Tryz.func14, Tryz.ntmps14
    go_wp2_with fail
    refine Calls.mono HC.out ?_
    rintro e w1 ⟨rfl, rfl⟩
    clear HC
    go_wp2
    go_ret
    exact ⟨rfl, RtsOwn.nil _ _, WroteR.of_below HB.out⟩
  · exact markImageC w base g cp k0 xs hn hk0 hk1 hls hap h

set_option maxHeartbeats 1000000 in
set_option maxRecDepth 100000 in
theorem heldImageV (w : World) (base k0 : Nat) (v : Value) (xs : List RV) (hn : xs.length ≤ 1100000) (hk0 : 0 < k0) (hk1 : rend k0 xs ≤ 30000000) (hls : ∀ x ∈ xs, x.1.2.2.length ≤ 1100000) (hl : (rmark k0 xs).length = xs.length) (h : RtsOwn w base v (rmark k0 xs)) :
    Calls Tryz.prog 15 #[.agg #[v], .int .i64 k0] w fun e w' => e = .returned (.int .i64 ((rend k0 xs : Nat) : Int)) ∧ w.grownBy w' none := by
  have hrow := h.row
  rw [hl] at hrow
  rcases own_forms hrow with ⟨rfl, h0, _⟩ | ⟨g, cp, rfl⟩
  · obtain rfl : xs = [] := List.eq_nil_of_length_eq_zero h0
    have HC : Hid (_) := heldRoutineN (w.alloc (.cells #[.slice none 0 0] 29)) k0
    have HB : Hid (w.grownBy (w.alloc (.cells #[.slice none 0 0] 29)) none) := World.grownBy_alloc w _ _
    have hr : rend k0 [] = k0 := rfl
    rw [hr]
    clear h hls hk1 hr hrow hl
    go_enter Tryz.func15, Tryz.ntmps15
    go_wp2_with fail
    refine Calls.mono HC.out ?_
    rintro e w1 ⟨rfl, rfl⟩
    clear HC
    go_wp2
    go_ret
    exact ⟨rfl, HB.out⟩
  · exact heldImageC w base g cp k0 xs hn hk0 hk1 hls h

end Go.Proofs.YtfhkiaogfopigaaGreatDoor

/-! The laws' own helpers over objects: markObject, heldObject; three cells of a block. -/
namespace Go.Proofs.YtfhkiaogfopigaaGreatDoor
open Go.RowKit

theorem own_textsO {w : World} {base n : Nat} {v : Value} {ts : List (List UInt8)} (h : w.ownsRow base 9 1 v n (strV ts)) : ∃ a c, v = .slice a n c ∧ (a = none → c = 0) ∧ TextsIn w a n ts := by
  obtain ⟨_, a, c, rfl, hin⟩ := own_texts h
  refine ⟨a, c, rfl, fun e => ?_, hin⟩
  rcases own_forms h with ⟨e2, _, _⟩ | ⟨g, cp, e2⟩
  · injection e2
  · injection e2 with e3; rw [e] at e3; cases e3

theorem markRoutineSV (w : World) (base k0 : Nat) (v : Value) (xs : List RV) (hn : xs.length ≤ 1100000) (hk0 : 0 < k0) (hk1 : rend k0 xs ≤ 30000000) (hls : ∀ x ∈ xs, x.1.2.2.length ≤ 1100000) (hap : ApartR (xs.map rvT)) (h : RtsOwn w base v xs) :
    Calls Tryz.prog 37 #[v, .int .i64 k0] w fun e w' => e = .returned (.int .i64 ((rend k0 xs : Nat) : Int)) ∧ RtsOwn w' base v (rmark k0 xs) ∧ WroteR w w' (RtBlocks v xs) := by
  rcases own_forms h.row with ⟨rfl, h0, _⟩ | ⟨g, cp, rfl⟩
  · obtain rfl : xs = [] := List.eq_nil_of_length_eq_zero h0
    refine (markRoutineN w k0).mono ?_
    rintro e w' ⟨rfl, rfl⟩
    exact ⟨rfl, RtsOwn.nil _ _, WroteR.refl _ _⟩
  · exact markRoutineSC w base g cp k0 xs hn hk0 hk1 hls hap h

theorem heldRoutineSV (w : World) (base k0 : Nat) (v : Value) (xs : List RV) (hn : xs.length ≤ 1100000) (hk0 : 0 < k0) (hk1 : rend k0 xs ≤ 30000000) (hls : ∀ x ∈ xs, x.1.2.2.length ≤ 1100000) (h : RtsOwn w base v (rmark k0 xs)) :
    Calls Tryz.prog 38 #[v, .int .i64 k0] w fun e w' => e = .returned (.int .i64 ((rend k0 xs : Nat) : Int)) ∧ w.grownBy w' none := by
  have hl := rmark_len k0 xs
  rcases own_forms h.row with ⟨rfl, h0, _⟩ | ⟨g, cp, rfl⟩
  · obtain rfl : xs = [] := List.eq_nil_of_length_eq_zero (by omega)
    refine (heldRoutineN w k0).mono ?_
    rintro e w' ⟨rfl, rfl⟩
    exact ⟨rfl, World.grownBy.refl _ _⟩
  · rw [hl] at h ⊢
    exact heldRoutineSC w base g cp k0 xs hn hk0 hk1 hls h

theorem RtsOwn.alloc {w : World} {base : Nat} {v : Value} {xs : List RV} (h : RtsOwn w base v xs) (o : Obj) : RtsOwn (w.alloc o) base v xs := ⟨h.row.alloc o, fun x hx => (h.trees x hx).alloc o⟩
/-- A row of texts, and functions: the one's writing leaves the other. -/
theorem RtsOwn.texts {w w' : World} {base b2 n : Nat} {v vi : Value} {xs : List RV} {ys : List Value} (h : RtsOwn w base v xs) (hi : w.ownsRow b2 9 1 vi n ys) (hg : w.grownBy w' vi.ownBlock) : RtsOwn w' base v xs :=
  ⟨h.row.kept hg (own_typesR h.row hi (by decide)), fun x hx => (h.trees x hx).kept hg (own_typesR (h.trees x hx) hi (by decide))⟩
theorem texts_rts {w w' : World} {base b2 n : Nat} {v vi : Value} {xs : List RV} {ys : List Value} (h : RtsOwn w base v xs) (hi : w.ownsRow b2 9 1 vi n ys) (hw : WroteR w w' (RtBlocks v xs)) : w'.ownsRow b2 9 1 vi n ys := by
  refine own_wroteR hi hw (fun k hk hb => ?_)
  rcases hb with e | ⟨x, hx, e⟩
  · rcases own_typesR hi h.row (by decide) with e2 | e2
    · rw [hk] at e2; cases e2
    · exact e2 (by rw [hk, e])
  · rcases own_typesR hi (h.trees x hx) (by decide) with e2 | e2
    · rw [hk] at e2; cases e2
    · exact e2 (by rw [hk, e])

def ObBlocks (vi vf : Value) (xs : List RV) (k : Nat) : Prop := vi.ownBlock = some k ∨ RtBlocks vf xs k

set_option maxHeartbeats 1000000 in
set_option maxRecDepth 100000 in
theorem markObjectC (nm : List UInt8) (w : World) (base k0 n : Nat) (vi vf : Value) (ys : List Value) (xs : List RV) (hn : n ≤ 1100000) (hf : xs.length ≤ 1100000) (hk0 : 0 < k0) (hk1 : k0 ≤ 800000) (hk2 : rend (k0 + n) xs ≤ 30000000) (hls : ∀ x ∈ xs, x.1.2.2.length ≤ 1100000) (hap : ApartR (xs.map rvT))
    (hi : w.ownsRow base 9 1 vi n ys) (h : RtsOwn w base vf xs) :
    Calls Tryz.prog 23 #[.agg #[.string ⟨nm.toArray⟩, vi, vf], .int .i64 k0] w fun e w' => e = .returned (.int .i64 ((rend (k0 + n) xs : Nat) : Int)) ∧ w'.ownsRow base 9 1 vi n (marksV k0 n) ∧ RtsOwn w' base vf (rmark (k0 + n) xs) ∧ WroteR w w' (ObBlocks vi vf xs) := by
  obtain ⟨ai, ci, rfl⟩ : ∃ a c, vi = .slice a n c := by
    rcases own_forms hi with ⟨rfl, rfl, _⟩ | ⟨g, cp, rfl⟩
    · exact ⟨none, 0, rfl⟩
    · exact ⟨_, cp, rfl⟩
  obtain ⟨af, cf, rfl, _, _⟩ := h.in
  obtain ⟨W0, hW0⟩ : ∃ W0, w.alloc (.cells #[.string ⟨nm.toArray⟩, .slice ai n ci, .slice af xs.length cf] 43) = W0 := ⟨_, rfl⟩
  have hb0 : Below w.heap.size w W0 := by rw [← hW0]; exact (Below.refl _ w).alloc (Nat.le_refl _) _
  have hA := heap_alloc_new w (.cells #[.string ⟨nm.toArray⟩, .slice ai n ci, .slice af xs.length cf] 43)
  rw [hW0] at hA
  obtain ⟨D, hD⟩ : ∃ D, w.heap.size = D := ⟨_, rfl⟩
  rw [hD] at hA
  have k0c : W0.cell? ⟨D, 1, none⟩ = some (.slice ai n ci) := by simp [World.cell?, hA]
  have k1c : W0.cell? ⟨D, 2, none⟩ = some (.slice af xs.length cf) := by simp [World.cell?, hA]
  have hDi : (Value.slice ai n ci).ownBlock ≠ some D := fun e => by have := (hi.lt D e).2; omega
  have hi0 := own_below hi hb0
  have hf0 := h.below hb0
  have HC : Hid (_) := markStrV W0 base n k0 (.slice ai n ci) ys hn hk0 hk1 hi0
  have HI0 : Hid (W0.ownsRow base 9 1 (.slice ai n ci) n ys) := hi0
  have HF0 : Hid (RtsOwn W0 base (.slice af xs.length cf) xs) := hf0
  have HW0 : Hid (WroteR w W0 (ObBlocks (.slice ai n ci) (.slice af xs.length cf) xs)) := WroteR.of_below hb0
  clear hi h hi0 hf0 hb0 hA
  go_enter Tryz.func23, Tryz.ntmps23
  go_wp2_with fail
  refine Calls.mono HC.out ?_
  rintro e w1 ⟨rfl, hi1, hg1⟩
  have k1d := hg1.cell (a := ⟨D, 2, none⟩) k1c (fun e => hDi e.symm)
  have hf1 := HF0.out.texts HI0.out hg1
  have HM : Hid (_) := markRoutineSV w1 base (k0 + n) _ xs hf (by omega) hk2 hls hap hf1
  have HI1 : Hid (w1.ownsRow base 9 1 (.slice ai n ci) n (marksV k0 n)) := hi1
  have HF1 : Hid (RtsOwn w1 base (.slice af xs.length cf) xs) := hf1
  have HW1 : Hid (WroteR w w1 (ObBlocks (.slice ai n ci) (.slice af xs.length cf) xs)) := HW0.out.trans (WroteR.of_grown hg1 (fun _ e => Or.inl e))
  clear HC HI0 HF0 HW0 hi1 hg1 hf1 k0c k1c hls hap
  go_wp2_with fail
  refine Calls.mono HM.out ?_
  rintro e w2 ⟨rfl, hf2, hw2⟩
  have hi2 := texts_rts HF1.out HI1.out hw2
  have hW2 := HW1.out.trans (hw2.mono (fun _ e => Or.inr e))
  clear HM
  go_wp2
  go_ret
  exact ⟨rfl, hi2, hf2, hW2⟩

set_option maxHeartbeats 1000000 in
set_option maxRecDepth 100000 in
theorem heldObjectC (nm : List UInt8) (w : World) (base k0 n : Nat) (vi vf : Value) (xs : List RV) (hn : n ≤ 1100000) (hf : xs.length ≤ 1100000) (hk0 : 0 < k0) (hk1 : k0 ≤ 800000) (hk2 : rend (k0 + n) xs ≤ 30000000) (hls : ∀ x ∈ xs, x.1.2.2.length ≤ 1100000)
    (hi : w.ownsRow base 9 1 vi n (marksV k0 n)) (h : RtsOwn w base vf (rmark (k0 + n) xs)) :
    Calls Tryz.prog 24 #[.agg #[.string ⟨nm.toArray⟩, vi, vf], .int .i64 k0] w fun e w' => e = .returned (.int .i64 ((rend (k0 + n) xs : Nat) : Int)) ∧ w.grownBy w' none := by
  obtain ⟨ai, ci, rfl⟩ : ∃ a c, vi = .slice a n c := by
    rcases own_forms hi with ⟨rfl, rfl, _⟩ | ⟨g, cp, rfl⟩
    · exact ⟨none, 0, rfl⟩
    · exact ⟨_, cp, rfl⟩
  obtain ⟨af, cf, rfl, _, _⟩ := h.in
  have hl := rmark_len (k0 + n) xs
  rw [hl] at h ⊢
  have hHC := heldStrV (w.alloc (.cells #[.string ⟨nm.toArray⟩, .slice ai n ci, .slice af xs.length cf] 43)) base n k0 (.slice ai n ci) hn hk0 hk1 (hi.alloc _)
  have HC : Hid (_) := hHC
  have HF : Hid (RtsOwn (w.alloc (.cells #[.string ⟨nm.toArray⟩, .slice ai n ci, .slice af xs.length cf] 43)) base (.slice af xs.length cf) (rmark (k0 + n) xs)) := h.alloc _
  have hg0 : w.grownBy (w.alloc (.cells #[.string ⟨nm.toArray⟩, .slice ai n ci, .slice af xs.length cf] 43)) none := World.grownBy_alloc w _ _
  have hA := heap_alloc_new w (.cells #[.string ⟨nm.toArray⟩, .slice ai n ci, .slice af xs.length cf] 43)
  obtain ⟨W0, hW0⟩ : ∃ W0, w.alloc (.cells #[.string ⟨nm.toArray⟩, .slice ai n ci, .slice af xs.length cf] 43) = W0 := ⟨_, rfl⟩
  rw [hW0] at HC HF hg0 hA
  obtain ⟨D, hD⟩ : ∃ D, w.heap.size = D := ⟨_, rfl⟩
  rw [hD] at hA
  have k0c : W0.cell? ⟨D, 1, none⟩ = some (.slice ai n ci) := by simp [World.cell?, hA]
  have k1c : W0.cell? ⟨D, 2, none⟩ = some (.slice af xs.length cf) := by simp [World.cell?, hA]
  have hge1 : ¬ ((k0 + n : Nat) : Int) < 0 := by omega
  have hge2 : ¬ ((rend (k0 + n) xs : Nat) : Int) < 0 := by omega
  clear hi h hHC hA hl
  go_enter Tryz.func24, Tryz.ntmps24
  go_wp2_with fail
  refine Calls.mono HC.out ?_
  rintro e w1 ⟨rfl, hg1⟩
  have k1d := hg1.cell (a := ⟨D, 2, none⟩) k1c (by simp)
  have HM : Hid (_) := heldRoutineSV w1 base (k0 + n) _ xs hf (by omega) hk2 hls (HF.out.none hg1)
  have hG1 := hg0.trans hg1
  clear HC HF hg0 hg1 k0c k1c hls
  go_wp2_with fail
  refine Calls.mono HM.out ?_
  rintro e w2 ⟨rfl, hg2⟩
  have hG2 := hG1.trans hg2
  clear HM
  go_wp2
  go_ret
  exact ⟨rfl, hG2⟩

/-- Three cells of a block. -/
structure BoxO (V : World) (k : Nat) (a b c : Value) : Prop where
  c0 : V.cell? ⟨k, 0, none⟩ = some a
  c1 : V.cell? ⟨k, 1, none⟩ = some b
  c2 : V.cell? ⟨k, 2, none⟩ = some c

theorem BoxO.lt {V : World} {k : Nat} {a b c : Value} (h : BoxO V k a b c) : k < V.heap.size := World.block_lt_of_cell? V ⟨k, 0, none⟩ h.c0
theorem BoxO.keep {V V' : World} {k : Nat} {a b c : Value} (h : BoxO V k a b c) (hb : V'.heap[k]? = V.heap[k]?) : BoxO V' k a b c :=
  ⟨(World.cell?_of_block (a := ⟨k, 0, none⟩) hb).trans h.c0, (World.cell?_of_block (a := ⟨k, 1, none⟩) hb).trans h.c1, (World.cell?_of_block (a := ⟨k, 2, none⟩) hb).trans h.c2⟩
theorem BoxO.below {V V' : World} {k : Nat} {a b c : Value} (h : BoxO V k a b c) (hb : Below V.heap.size V V') : BoxO V' k a b c := h.keep (hb.block k h.lt)
theorem BoxO.wrote {V V' : World} {k : Nat} {a b c : Value} {S : Nat → Prop} (h : BoxO V k a b c) (hw : WroteR V V' S) (hk : ¬ S k) : BoxO V' k a b c := h.keep (hw.block k h.lt hk)
theorem BoxO.grown {V V' : World} {k : Nat} {a b c : Value} {row : Option Nat} (h : BoxO V k a b c) (hg : V.grownBy V' row) (hk : some k ≠ row) : BoxO V' k a b c := h.keep (hg.block k h.lt hk)
theorem BoxO.drew {V : World} {k : Nat} {a b c : Value} (h : BoxO V k a b c) : BoxO V.drew k a b c := ⟨h.c0, h.c1, h.c2⟩
theorem BoxO.new (V : World) (a b c : Value) (t : TypeId) : BoxO (V.alloc (.cells #[a, b, c] t)) V.heap.size a b c ∧ Below V.heap.size V (V.alloc (.cells #[a, b, c] t)) := by
  have hb : Below V.heap.size V (V.alloc (.cells #[a, b, c] t)) := (Below.refl _ _).alloc (Nat.le_refl _) _
  have hA := heap_alloc_new V (.cells #[a, b, c] t)
  generalize V.alloc (.cells #[a, b, c] t) = W at hb hA ⊢
  exact ⟨⟨by simp [World.cell?, hA], by simp [World.cell?, hA], by simp [World.cell?, hA]⟩, hb⟩

end Go.Proofs.YtfhkiaogfopigaaGreatDoor

/-! What the landed functions of chapter 15 are told of an object; an object in rows of its own. -/
namespace Go.Proofs.YtfhkiaogfopigaaGreatDoor
open Go.RowKit

/-- What the landed functions are told of an object that they are handed. -/
structure ObOk (w : World) (nm : List UInt8) (ia : Option Addr) (il ic : Nat) (fa : Option Addr) (fl fc : Nat) (ims : List (List UInt8)) (rs : List Rt) : Prop where
  i : TextsIn w ia il ims
  r : RtOk w fa fl fc rs
  ic : ia = none → ic = 0
  il : il ≤ 1048576
  nm : nm.length ≤ 1048576
  is : ∀ i, (ims.getD i []).length ≤ 1048576
theorem ObOk.below {w w' : World} {nm : List UInt8} {ia : Option Addr} {il ic : Nat} {fa : Option Addr} {fl fc : Nat} {ims : List (List UInt8)} {rs : List Rt} (h : ObOk w nm ia il ic fa fl fc ims rs) (hb : Below w.heap.size w w') : ObOk w' nm ia il ic fa fl fc ims rs :=
  ⟨h.i.below hb, h.r.below hb, h.ic, h.il, h.nm, h.is⟩

/-- A package that a call owns can be read. -/
theorem own_ob {w : World} {base : Nat} {vi vf : Value} {ims : List (List UInt8)} {xs : List RV} {fs : List Rt} (hoi : w.ownsRow base 9 1 vi ims.length (strV ims)) (hof : RtsOwn w base vf xs) (hxs : xs.map (·.1) = fs) :
    ∃ ai ci af cf, vi = .slice ai ims.length ci ∧ vf = .slice af fs.length cf ∧ (ai = none → ci = 0) ∧ ((af = none → cf = 0) ∧ fs.length ≤ cf) ∧ TextsIn w ai ims.length ims ∧ RtsIn w af fs.length fs := by
  obtain ⟨ai, ci, rfl, hic, hit⟩ := own_textsO hoi
  obtain ⟨af, cf, rfl, hfc, hif⟩ := hof.in
  have hl : xs.length = fs.length := by rw [← hxs, List.length_map]
  have hcp : fs.length ≤ cf := by
    rcases hof.row.2 with ⟨e, h0⟩ | ⟨g, cap, cur, e, _, _, hc, _⟩
    · rw [← hl, h0]; exact Nat.zero_le _
    · injection e with _ _ e3
      rw [e3, ← hl]; exact hc
  rw [hxs, hl] at hif
  exact ⟨ai, ci, af, cf, rfl, by rw [hl], hic, ⟨hfc, hcp⟩, hit, hif⟩

section
variable {Z Y : World} {lo hi : Nat} {ai : Option Addr} {il ci : Nat} {af : Option Addr} {fl cf : Nat} {ims : List (List UInt8)} {fs : List Rt} {xs : List RV}
end

end Go.Proofs.YtfhkiaogfopigaaGreatDoor
