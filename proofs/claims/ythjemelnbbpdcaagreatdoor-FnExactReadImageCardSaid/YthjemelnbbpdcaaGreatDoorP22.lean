/-
  Parts of one proof, one behind the other: RtM, ImgH, ImgH2, InsZ, RtIn, ImgK.
-/
import Derived.Test.YthjemelnbbpdcaaGreatDoorP21
import Derived.Test.YthjemelnbbpdcaaGreatDoorP16
import Derived.Deep.RegionWith
import Derived.SliceStrings

/-! The laws' own helpers over routines: markRoutineS, heldRoutineS. -/
namespace Go.Proofs.YthjemelnbbpdcaaGreatDoor
open Go.RowKit

/-- What functions hold when they are marked from k on, and the next mark. -/
def rmk (k : Nat) (x : RV) : RV := ((markL k, ((k + 1 : Nat) : Int), marksC (k + 2) x.1.2.2.length), x.2)
def rmark (k : Nat) : List RV → List RV
  | [] => []
  | x :: r => rmk k x :: rmark (k + 2 + 5 * x.1.2.2.length) r
def rend (k : Nat) : List RV → Nat
  | [] => k
  | x :: r => rend (k + 2 + 5 * x.1.2.2.length) r

theorem rmk_T (k : Nat) (x : RV) : rvT (rmk k x) = rvT x := by unfold rvT rmk; rw [marksC_len]
theorem rmark_len (k : Nat) (xs : List RV) : (rmark k xs).length = xs.length := by
  induction xs generalizing k with
  | nil => rfl
  | cons x r ih => simp [rmark, ih]
theorem rmark_snoc (k : Nat) (xs : List RV) (x : RV) : rmark k (xs ++ [x]) = rmark k xs ++ [rmk (rend k xs) x] ∧ rend k (xs ++ [x]) = rend k xs + 2 + 5 * x.1.2.2.length := by
  induction xs generalizing k with
  | nil => exact ⟨rfl, rfl⟩
  | cons y r ih =>
    have := ih (k + 2 + 5 * y.1.2.2.length)
    exact ⟨by rw [List.cons_append, rmark, this.1]; rfl, by rw [List.cons_append, rend, this.2]; rfl⟩
theorem rend_ge (k : Nat) (xs : List RV) : k ≤ rend k xs := by
  induction xs generalizing k with
  | nil => exact Nat.le_refl _
  | cons x r ih => have := ih (k + 2 + 5 * x.1.2.2.length); unfold rend; omega
theorem rend_app (k : Nat) (xs ys : List RV) : rend k (xs ++ ys) = rend (rend k xs) ys := by
  induction xs generalizing k with
  | nil => rfl
  | cons x r ih => rw [List.cons_append, rend, ih]; rfl
theorem rend_take (k : Nat) (xs : List RV) (m : Nat) : rend k (xs.take m) ≤ rend k xs := by
  conv => rhs; rw [← List.take_append_drop m xs, rend_app]
  exact rend_ge _ _

/-- Half way: m functions are marked. -/
def rhalf (k : Nat) (xs : List RV) (m : Nat) : List RV := rmark k (xs.take m) ++ xs.drop m
theorem rhalf_len (k : Nat) (xs : List RV) (m : Nat) : (rhalf k xs m).length = xs.length := by
  unfold rhalf; rw [List.length_append, rmark_len, ← List.length_append, List.take_append_drop]
theorem rhalf_at (k : Nat) (xs : List RV) (m : Nat) (hm : m < xs.length) : (rhalf k xs m).getD m rv0 = xs[m] := by
  unfold rhalf
  have hl : (rmark k (xs.take m)).length = m := by rw [rmark_len, List.length_take]; omega
  rw [List.getD_eq_getElem?_getD, List.getElem?_append_right (by omega), hl, Nat.sub_self, List.getElem?_drop, Nat.add_zero, List.getElem?_eq_getElem hm]
  rfl
theorem rhalf_step (k : Nat) (xs : List RV) (m : Nat) (hm : m < xs.length) : (rhalf k xs m).set m (rmk (rend k (xs.take m)) xs[m]) = rhalf k xs (m + 1) ∧ rend k (xs.take (m + 1)) = rend k (xs.take m) + 2 + 5 * xs[m].1.2.2.length := by
  have h1 := rmark_snoc k (xs.take m) xs[m]
  rw [← List.take_succ_eq_append_getElem hm] at h1
  refine ⟨?_, h1.2⟩
  have hl : (rmark k (xs.take m)).length = m := by rw [rmark_len, List.length_take]; omega
  unfold rhalf
  rw [h1.1, List.set_append_right _ _ (by omega), hl, Nat.sub_self, List.drop_eq_getElem_cons hm, List.set_cons_zero, List.append_assoc]
  rfl
theorem rhalf_T (k : Nat) (xs : List RV) (m : Nat) : (rhalf k xs m).map rvT = xs.map rvT := by
  have key : ∀ (k : Nat) (l : List RV), (rmark k l).map rvT = l.map rvT := by
    intro k l
    induction l generalizing k with
    | nil => rfl
    | cons x r ih => rw [rmark, List.map_cons, List.map_cons, rmk_T, ih]
  unfold rhalf
  rw [List.map_append, key, ← List.map_append, List.take_append_drop]

theorem set_sameR {α : Type} {l : List α} {i : Nat} {a : α} (h : l[i]? = some a) : l.set i a = l := by
  apply List.ext_getElem?
  intro j
  rw [List.getElem?_set]
  split
  · rename_i e
    subst e
    split
    · exact h.symm
    · rename_i hl; rw [List.getElem?_eq_none (by omega)]
  · rfl

def RtBlocks (v : Value) (xs : List RV) (k : Nat) : Prop := v.ownBlock = some k ∨ ∃ x ∈ xs, (rvT x).ownBlock = some k

set_option maxHeartbeats 2000000 in
set_option maxRecDepth 100000 in
theorem markRoutineSC (w : World) (base g cp k0 : Nat) (xs : List RV) (hn : xs.length ≤ 1100000) (hk0 : 0 < k0) (hk1 : rend k0 xs ≤ 30000000) (hls : ∀ x ∈ xs, x.1.2.2.length ≤ 1100000) (hap : ApartR (xs.map rvT))
    (h : RtsOwn w base (.slice (some ⟨g, 0, none⟩) xs.length cp) xs) :
    Calls Tryz.prog 37 #[.slice (some ⟨g, 0, none⟩) xs.length cp, .int .i64 k0] w fun e w' => e = .returned (.int .i64 ((rend k0 xs : Nat) : Int)) ∧ RtsOwn w' base (.slice (some ⟨g, 0, none⟩) xs.length cp) (rmark k0 xs) ∧ WroteR w w' (RtBlocks (.slice (some ⟨g, 0, none⟩) xs.length cp) xs) := by
  have HAP : Hid (ApartR (xs.map rvT)) := hap
  have HLS : Hid (∀ x ∈ xs, x.1.2.2.length ≤ 1100000) := hls
  have hst0 : rhalf k0 xs 0 = xs := rfl
  have H0 : Hid (RtsOwn w base (.slice (some ⟨g, 0, none⟩) xs.length cp) (rhalf k0 xs 0)) := h
  clear hap hls h hst0
  go_enter Tryz.func37, Tryz.ntmps37
  go_wp2
  go_loopw [1, 5] (fun k i wr => ∃ m : Nat, m ≤ xs.length ∧ i = .int .i64 m ∧ k = .int .i64 ((rend k0 (xs.take m) : Nat) : Int) ∧ Hid (RtsOwn wr base (.slice (some ⟨g, 0, none⟩) xs.length cp) (rhalf k0 xs m)) ∧ Hid (WroteR w wr (RtBlocks (.slice (some ⟨g, 0, none⟩) xs.length cp) xs))) (fun _ i _ => xs.length - (intOf i).toNat)
  case atStart => exact ⟨0, Nat.zero_le _, rfl, rfl, H0, WroteR.refl _ _⟩
  case round =>
    obtain ⟨m, hm, rfl, rfl, HO, HW⟩ := hrel
    clear H0
    by_cases hlt : (m : Int) < (xs.length : Int)
    · have hm2 : m < xs.length := by omega
      obtain ⟨hset, hend⟩ := rhalf_step k0 xs m hm2
      have hat := rhalf_at k0 xs m hm2
      have hfl := rhalf_len k0 xs m
      have hT := rhalf_T k0 xs m
      have hend2 := rend_take k0 xs (m + 1)
      have hxl := HLS.out xs[m] (List.getElem_mem hm2)
      obtain ⟨ys, hys⟩ : ∃ ys, rhalf k0 xs m = ys := ⟨_, rfl⟩
      rw [hys] at hset hat hfl hT HO
      obtain ⟨x, hx⟩ : ∃ x, xs[m] = x := ⟨_, rfl⟩
      rw [hx] at hset hat hend hxl
      obtain ⟨q, hq⟩ : ∃ q, rend k0 (xs.take m) = q := ⟨_, rfl⟩
      have hq0 : 0 < q := by rw [← hq]; have := rend_ge k0 (xs.take m); omega
      rw [hq] at hset hend ⊢
      have hq3 : q + 2 + 5 * x.1.2.2.length ≤ 30000000 := by omega
      have HSET : Hid (ys.set m (rmk q x) = rhalf k0 xs (m + 1)) := hset
      have HEND : Hid (rend k0 (xs.take (m + 1)) = q + 2 + 5 * x.1.2.2.length) := hend
      have HT : Hid (ys.map rvT = xs.map rvT) := hT
      have HX : Hid (∃ h : m < ys.length, ys[m] = x) := ⟨by omega, by rw [List.getD_eq_getElem?_getD, List.getElem?_eq_getElem (by omega)] at hat; exact hat⟩
      have HFL : Hid (ys.length = xs.length) := hfl
      have HXM : Hid (x ∈ xs) := by rw [← hx]; exact List.getElem_mem hm2
      obtain ⟨v0, v1, v2⟩ := rtsV_at ys m (by omega)
      rw [hat] at v0 v1 v2
      have hrow := HO.out.row
      rw [hfl] at hrow
      clear hset hend hend2 hys hx hq hT hat hfl
      obtain ⟨zs, hzs⟩ : ∃ zs, rtsV ys = zs := ⟨_, rfl⟩
      have hzset := rtsV_set ys m (rmk q x)
      rw [hzs] at hrow v0 v1 v2 hzset
      have HZ : Hid (((zs.set (m * 3) (.string ⟨(markL q).toArray⟩)).set (m * 3 + 1) (.int .i64 ((q : Int) + 1))).set (m * 3 + 2) (rvT x) = rtsV (ys.set m (rmk q x))) := by
        rw [← rmk_T q x, show (q : Int) + 1 = ((q + 1 : Nat) : Int) by omega]; exact hzset
      clear hzset
      have htree : wr.ownsRow base 57 5 (rvT x) x.1.2.2.length (insV x.1.2.2) := by
        obtain ⟨hl, he⟩ := HX.out
        rw [← he]; exact HO.out.trees _ (List.getElem_mem hl)
      obtain ⟨hxl2, ta, tc, htv, _⟩ := own_ins htree
      have HTV : Hid (rvT x = .slice ta x.1.2.2.length tc) := htv
      rw [htv] at v2
      clear hzs htv
      go_wp2_with fail
      refine (markTextC q _ (by omega) (by omega)).mono ?_
      rintro e w2 ⟨rfl, hg2⟩
      have hrow2 := own_none hrow hg2
      obtain ⟨u0, d0⟩ : ∃ u, w2.cell? ⟨g, m * 3, none⟩ = some u := by rw [hrow2.cellAt (m * 3) (by omega), v0]; exact ⟨_, rfl⟩
      obtain ⟨u1, d1⟩ : ∃ u, w2.cell? ⟨g, m * 3 + 1, none⟩ = some u := by rw [hrow2.cellAt (m * 3 + 1) (by omega), v1]; exact ⟨_, rfl⟩
      have d2 : w2.cell? ⟨g, m * 3 + 2, none⟩ = some (.slice ta x.1.2.2.length tc) := by rw [hrow2.cellAt (m * 3 + 2) (by omega), v2]
      have e0 := hrow2.frozenAt (m * 3)
      have e1 := hrow2.frozenAt (m * 3 + 1)
      have hs1 := hrow2.stored (m * 3) (.string ⟨(markL q).toArray⟩)
      have hs2 := hs1.1.stored (m * 3 + 1) (.int .i64 ((q : Int) + 1))
      have hW3 : WroteR w ((w2.setCell ⟨g, m * 3, none⟩ (.string ⟨(markL q).toArray⟩)).setCell ⟨g, m * 3 + 1, none⟩ (.int .i64 ((q : Int) + 1))) (RtBlocks (.slice (some ⟨g, 0, none⟩) xs.length cp) xs) :=
        ((HW.out.trans (WroteR.of_grown hg2 (fun _ e => by cases e))).trans (WroteR.of_grown hs1.2 (fun _ e => Or.inl e))).trans (WroteR.of_grown hs2.2 (fun _ e => Or.inl e))
      have htrees : ∀ z ∈ ys, ((w2.setCell ⟨g, m * 3, none⟩ (.string ⟨(markL q).toArray⟩)).setCell ⟨g, m * 3 + 1, none⟩ (.int .i64 ((q : Int) + 1))).ownsRow base 57 5 (rvT z) z.1.2.2.length (insV z.1.2.2) := by
        intro z hz
        have t1 := own_none (HO.out.trees z hz) hg2
        have hd := own_typesR t1 hrow2 (by decide)
        have t2 := t1.kept hs1.2 hd
        exact t2.kept hs2.2 hd
      have d2b : ((w2.setCell ⟨g, m * 3, none⟩ (.string ⟨(markL q).toArray⟩)).setCell ⟨g, m * 3 + 1, none⟩ (.int .i64 ((q : Int) + 1))).cell? ⟨g, m * 3 + 2, none⟩ = some (.slice ta x.1.2.2.length tc) := by
        rw [hs2.1.cellAt (m * 3 + 2) (by omega), List.getElem?_set_ne (by omega), List.getElem?_set_ne (by omega), v2]
      obtain ⟨W3, hW3e⟩ : ∃ W3, (w2.setCell ⟨g, m * 3, none⟩ (.string ⟨(markL q).toArray⟩)).setCell ⟨g, m * 3 + 1, none⟩ (.int .i64 ((q : Int) + 1)) = W3 := ⟨_, rfl⟩
      have hrow3 := hs2.1
      rw [hW3e] at hrow3 hW3 htrees d2b
      have HR3 : Hid (W3.ownsRow base 40 3 (.slice (some ⟨g, 0, none⟩) xs.length cp) xs.length ((zs.set (m * 3) (.string ⟨(markL q).toArray⟩)).set (m * 3 + 1) (.int .i64 ((q : Int) + 1)))) := hrow3
      have HW3 : Hid (WroteR w W3 (RtBlocks (.slice (some ⟨g, 0, none⟩) xs.length cp) xs)) := hW3
      have HTR : Hid (∀ z ∈ ys, W3.ownsRow base 57 5 (rvT z) z.1.2.2.length (insV z.1.2.2)) := htrees
      have htree3 : W3.ownsRow base 57 5 (.slice ta x.1.2.2.length tc) x.1.2.2.length (insV x.1.2.2) := by
        obtain ⟨hl, he⟩ := HX.out
        have h3 := htrees _ (List.getElem_mem hl)
        rw [he, HTV.out] at h3
        exact h3
      have HM : Hid (_) := markInsSV W3 base x.1.2.2.length (q + 2) (.slice ta x.1.2.2.length tc) x.1.2.2 (by omega) (by omega) (by omega) htree3
      rw [show ((q + 2 : Nat) : Int) = (q : Int) + 1 + 1 by omega] at HM
      have HT3 : Hid (W3.ownsRow base 57 5 (.slice ta x.1.2.2.length tc) x.1.2.2.length (insV x.1.2.2)) := htree3
      have HV2 : Hid (zs[m * 3 + 2]? = some (.slice ta x.1.2.2.length tc)) := v2
      clear hs1 hs2 hW3 htrees hrow3 hrow2 hrow hg2 htree htree3 HW v0 v1 v2
      go_wp2_with fail
      refine Calls.mono HM.out ?_
      rintro e w4 ⟨rfl, hown4, hg4⟩
      have HO4 : Hid (RtsOwn w4 base (.slice (some ⟨g, 0, none⟩) xs.length cp) (rhalf k0 xs (m + 1))) := by
        have hrow4 := HR3.out.kept hg4 (own_typesR HR3.out HT3.out (by decide))
        have hz3 : ((zs.set (m * 3) (.string ⟨(markL q).toArray⟩)).set (m * 3 + 1) (.int .i64 ((q : Int) + 1))) = rtsV (ys.set m (rmk q x)) := by
          rw [← HZ.out, HTV.out]
          exact (set_sameR (by rw [List.getElem?_set_ne (by omega), List.getElem?_set_ne (by omega)]; exact HV2.out)).symm
        rw [hz3] at hrow4
        rw [← HSET.out]
        refine ⟨by rw [List.length_set, HFL.out]; exact hrow4, fun z hz => ?_⟩
        obtain ⟨j, hj, rfl⟩ := List.mem_iff_getElem.1 hz
        rw [List.length_set] at hj
        rw [List.getElem_set]
        by_cases hjm : m = j
        · subst hjm
          rw [if_pos rfl, rmk_T, HTV.out]
          show w4.ownsRow base _ 5 _ (marksC (q + 2) x.1.2.2.length).length (insV (marksC (q + 2) x.1.2.2.length))
          rw [marksC_len]
          exact hown4
        · rw [if_neg hjm]
          refine (HTR.out _ (List.getElem_mem hj)).kept hg4 ?_
          obtain ⟨hl, he⟩ := HX.out
          have hap : ApartR (ys.map rvT) := by rw [HT.out]; exact HAP.out
          have hne := hap.ne (i := j) (j := m) (by simpa using hj) (by simpa using hl) (fun e => hjm e.symm)
          rw [List.getElem_map, List.getElem_map, he, HTV.out] at hne
          exact hne
      have HW4 : Hid (WroteR w w4 (RtBlocks (.slice (some ⟨g, 0, none⟩) xs.length cp) xs)) := HW3.out.trans (WroteR.of_grown hg4 (fun k e => Or.inr ⟨x, HXM.out, by rw [HTV.out]; exact e⟩))
      clear hown4 hg4 HR3 HT3 HTR HW3 HM HZ HSET HT HX HV2 HTV HXM HFL d0 d1 d2 d2b e0 e1 HO
      go_wp2
      go_roundw
      case rel => exact ⟨m + 1, by omega, by go_num, by rw [HEND.out]; go_num, HO4, HW4⟩
      case measure => simp [intOf]; omega
    · obtain rfl : m = xs.length := by omega
      have hO := HO.out
      have HK : Hid (rend k0 (xs.take xs.length) = rend k0 xs) := by exact (by rw [List.take_length] : rend k0 (xs.take xs.length) = rend k0 xs)
      have HH : Hid (rhalf k0 xs xs.length = rmark k0 xs) := by exact (by unfold rhalf; rw [List.take_length, List.drop_length, List.append_nil] : rhalf k0 xs xs.length = rmark k0 xs)
      rw [HH.out] at hO
      go_wp2
      go_ret
      exact ⟨by rw [← HK.out]; rfl, hO, HW.out⟩

theorem rmark_at (k : Nat) (xs : List RV) (m : Nat) (hm : m < xs.length) : (rmark k xs).getD m rv0 = rmk (rend k (xs.take m)) xs[m] := by
  induction xs generalizing k m with
  | nil => simp at hm
  | cons x r ih =>
    cases m with
    | zero => rfl
    | succ m =>
      have := ih (k + 2 + 5 * x.1.2.2.length) m (by simpa using hm)
      rw [List.take_succ_cons, rend, List.getElem_cons_succ, ← this]
      rfl

set_option maxHeartbeats 2000000 in
set_option maxRecDepth 100000 in
theorem heldRoutineSC (w : World) (base g cp k0 : Nat) (xs : List RV) (hn : xs.length ≤ 1100000) (hk0 : 0 < k0) (hk1 : rend k0 xs ≤ 30000000) (hls : ∀ x ∈ xs, x.1.2.2.length ≤ 1100000)
    (h : RtsOwn w base (.slice (some ⟨g, 0, none⟩) xs.length cp) (rmark k0 xs)) :
    Calls Tryz.prog 38 #[.slice (some ⟨g, 0, none⟩) xs.length cp, .int .i64 k0] w fun e w' => e = .returned (.int .i64 ((rend k0 xs : Nat) : Int)) ∧ w.grownBy w' none := by
  have hself : ∀ l : List UInt8, (l != l) = false := by simp
  have hne : ∀ n : Int, (n != n) = false := by simp
  have HLS : Hid (∀ x ∈ xs, x.1.2.2.length ≤ 1100000) := hls
  have HF : Hid (RtsOwn w base (.slice (some ⟨g, 0, none⟩) xs.length cp) (rmark k0 xs)) := h
  clear hls h
  go_enter Tryz.func38, Tryz.ntmps38
  go_wp2
  go_loopw [1, 5] (fun k i wr => ∃ m : Nat, m ≤ xs.length ∧ i = .int .i64 m ∧ k = .int .i64 ((rend k0 (xs.take m) : Nat) : Int) ∧ w.grownBy wr none) (fun _ i _ => xs.length - (intOf i).toNat)
  case atStart => exact ⟨0, Nat.zero_le _, rfl, rfl, World.grownBy.refl _ _⟩
  case round =>
    obtain ⟨m, hm, rfl, rfl, hg⟩ := hrel
    by_cases hlt : (m : Int) < (xs.length : Int)
    · have hm2 : m < xs.length := by omega
      have hend := (rhalf_step k0 xs m hm2).2
      have hend2 := rend_take k0 xs (m + 1)
      have hat := rmark_at k0 xs m hm2
      have hxl := HLS.out xs[m] (List.getElem_mem hm2)
      have hfl := rmark_len k0 xs
      have hrow := HF.out.row
      rw [hfl] at hrow
      obtain ⟨v0, v1, v2⟩ := rtsV_at (rmark k0 xs) m (by omega)
      have hmem : (rmark k0 xs).getD m rv0 ∈ rmark k0 xs := by rw [List.getD_eq_getElem?_getD, List.getElem?_eq_getElem (by omega)]; exact List.getElem_mem (by omega)
      have htr := HF.out.trees _ hmem
      rw [hat] at v0 v1 v2 htr
      obtain ⟨x, hx⟩ : ∃ x, xs[m] = x := ⟨_, rfl⟩
      obtain ⟨q, hq⟩ : ∃ q, rend k0 (xs.take m) = q := ⟨_, rfl⟩
      rw [hx, hq] at v0 v1 v2 htr
      rw [hx, hq] at hend
      rw [hx] at hxl
      have hq0 : 0 < q := by rw [← hq]; have := rend_ge k0 (xs.take m); omega
      have hq3 : q + 2 + 5 * x.1.2.2.length ≤ 30000000 := by omega
      have HEND : Hid (rend k0 (xs.take (m + 1)) = q + 2 + 5 * x.1.2.2.length) := hend
      rw [hq]
      have c0 : wr.cell? ⟨g, m * 3, none⟩ = some (.string ⟨(markL q).toArray⟩) := hg.cell (a := ⟨g, m * 3, none⟩) ((hrow.cellAt (m * 3) (by omega)).trans v0) (by simp)
      have c1 : wr.cell? ⟨g, m * 3 + 1, none⟩ = some (.int .i64 ((q : Int) + 1)) := hg.cell (a := ⟨g, m * 3 + 1, none⟩) ((hrow.cellAt (m * 3 + 1) (by omega)).trans (v1.trans (by show some (Value.int .i64 ((q + 1 : Nat) : Int)) = _; rw [show ((q + 1 : Nat) : Int) = (q : Int) + 1 by omega]))) (by simp)
      have c2 : wr.cell? ⟨g, m * 3 + 2, none⟩ = some (rvT (rmk q x)) := hg.cell (a := ⟨g, m * 3 + 2, none⟩) ((hrow.cellAt (m * 3 + 2) (by omega)).trans v2) (by simp)
      have ht3 : wr.ownsRow base 57 5 (rvT x) x.1.2.2.length (insV (marksC (q + 2) x.1.2.2.length)) := by
        have t := own_none htr hg
        rw [rmk_T] at t
        have e1 : (rmk q x).1.2.2 = marksC (q + 2) x.1.2.2.length := rfl
        rw [e1, marksC_len] at t
        exact t
      rw [rmk_T] at c2
      obtain ⟨_, ta, tc, htv, _⟩ := own_ins ht3
      rw [htv] at c2 ht3
      have HT3 : Hid (wr.ownsRow base 57 5 (.slice ta x.1.2.2.length tc) x.1.2.2.length (insV (marksC (q + 2) x.1.2.2.length))) := ht3
      generalize x.1.2.2.length = n at c2 HT3 HEND hq3 hxl
      have hge : ¬ ((q + 2 + 5 * n : Nat) : Int) < 0 := by omega
      clear v0 v1 v2 hrow htr hmem hat hfl hend hend2 hx hq ht3 htv
      go_wp2
      go_region_with (go_at_call 59; refine (markTextC q _ (by omega) (by omega)).mono ?_; rintro e w1 ⟨rfl, hg1⟩; have x0 := hg1.cell (a := ⟨g, m * 3, none⟩) c0 (by simp); have x1 := hg1.cell (a := ⟨g, m * 3 + 1, none⟩) c1 (by simp); have x2 := hg1.cell (a := ⟨g, m * 3 + 2, none⟩) c2 (by simp))
      all_goals
        have hG1 : wr.grownBy w1 none := by first | exact hg1 | exact (grown_drew _ _).trans hg1
        have HM := heldInsSV w1 base n (q + 2) (.slice ta n tc) (by omega) (by omega) (by omega) (own_none HT3.out hG1)
        rw [show ((q + 2 : Nat) : Int) = (q : Int) + 1 + 1 by omega] at HM
        have HM2 : Hid (_) := HM
        clear HM hg1
        go_wp2_with fail
        refine Calls.mono HM2.out ?_
        rintro e w2 ⟨rfl, hg2⟩
        have hG2 := (hg.trans hG1).trans hg2
        clear HM2 hg2
        go_wp2
        go_roundw
        case rel => exact ⟨m + 1, by omega, by go_num, by rw [HEND.out]; go_num, hG2⟩
        case measure => simp [intOf]; omega
    · obtain rfl : m = xs.length := by omega
      have HK : Hid (rend k0 (xs.take xs.length) = rend k0 xs) := by exact (by rw [List.take_length] : rend k0 (xs.take xs.length) = rend k0 xs)
      go_wp2
      go_ret
      exact ⟨by rw [← HK.out]; rfl, hg⟩

end Go.Proofs.YthjemelnbbpdcaaGreatDoor

/-! The laws' own helpers over images: szImage, toImage, eqImage, markImage, heldImage. -/
namespace Go.Proofs.YthjemelnbbpdcaaGreatDoor
open Go.RowKit



set_option maxHeartbeats 1000000 in
set_option maxRecDepth 100000 in
theorem eqImageC (a b : Option Addr) (len ca cb : Nat) (rs : List Rt) (w : World) (ha : RtsIn w a len rs) (hb : RtsIn w b len rs) (hlen : len ≤ 4194304) (hsh : ∀ j, (rs.getD j rt0).2.2.length ≤ 4194304) :
    Calls Tryz.prog 15 #[.agg #[.slice a len ca], .agg #[.slice b len cb]] w fun e w' => e = .returned (.bool true) ∧ Below w.heap.size w w' := by
  have hbW : Below w.heap.size w ((w.alloc (.cells #[.slice a len ca] 26)).alloc (.cells #[.slice b len cb] 26)) := ((Below.refl _ _).alloc (Nat.le_refl _) _).alloc (by simp) _
  have HC : Hid (_) := eqRoutineSC a b len ca cb rs _ (ha.below hbW) (hb.below hbW) hlen hsh
  have HB : Hid (Below w.heap.size w ((w.alloc (.cells #[.slice a len ca] 26)).alloc (.cells #[.slice b len cb] 26))) := hbW
  clear ha hb hbW
  go_enter Tryz.func15, Tryz.ntmps15
  go_wp2_with fail
  refine Calls.mono HC.out ?_
  rintro e w1 ⟨rfl, hb1⟩
  go_wp2
  go_ret
  exact ⟨rfl, HB.out.trans (hb1.mono HB.out.size)⟩

set_option maxHeartbeats 1000000 in
set_option maxRecDepth 100000 in
theorem markImageC (w : World) (base g cp k0 : Nat) (xs : List RV) (hn : xs.length ≤ 1100000) (hk0 : 0 < k0) (hk1 : rend k0 xs ≤ 30000000) (hls : ∀ x ∈ xs, x.1.2.2.length ≤ 1100000) (hap : ApartR (xs.map rvT))
    (h : RtsOwn w base (.slice (some ⟨g, 0, none⟩) xs.length cp) xs) :
    Calls Tryz.prog 16 #[.agg #[.slice (some ⟨g, 0, none⟩) xs.length cp], .int .i64 k0] w fun e w' => e = .returned (.int .i64 ((rend k0 xs : Nat) : Int)) ∧ RtsOwn w' base (.slice (some ⟨g, 0, none⟩) xs.length cp) (rmark k0 xs) ∧ WroteR w w' (RtBlocks (.slice (some ⟨g, 0, none⟩) xs.length cp) xs) := by
  have hbW : Below w.heap.size w (w.alloc (.cells #[.slice (some ⟨g, 0, none⟩) xs.length cp] 26)) := (Below.refl _ _).alloc (Nat.le_refl _) _
  have HC : Hid (_) := markRoutineSC _ base g cp k0 xs hn hk0 hk1 hls hap (h.below hbW)
  have HB : Hid (Below w.heap.size w (w.alloc (.cells #[.slice (some ⟨g, 0, none⟩) xs.length cp] 26))) := hbW
  clear h hbW hap hls
  go_enter Tryz.func16, Tryz.ntmps16
  go_wp2_with fail
  refine Calls.mono HC.out ?_
  rintro e w1 ⟨rfl, ho, hw⟩
  have HF : Hid (RtsOwn w1 base (.slice (some ⟨g, 0, none⟩) xs.length cp) (rmark k0 xs) ∧ WroteR w w1 (RtBlocks (.slice (some ⟨g, 0, none⟩) xs.length cp) xs)) := ⟨ho, (WroteR.of_below HB.out).trans hw⟩
  clear ho hw HC
  go_wp2
  go_ret
  exact ⟨rfl, HF.out⟩

set_option maxHeartbeats 1000000 in
set_option maxRecDepth 100000 in
theorem heldImageC (w : World) (base g cp k0 : Nat) (xs : List RV) (hn : xs.length ≤ 1100000) (hk0 : 0 < k0) (hk1 : rend k0 xs ≤ 30000000) (hls : ∀ x ∈ xs, x.1.2.2.length ≤ 1100000)
    (h : RtsOwn w base (.slice (some ⟨g, 0, none⟩) xs.length cp) (rmark k0 xs)) :
    Calls Tryz.prog 17 #[.agg #[.slice (some ⟨g, 0, none⟩) xs.length cp], .int .i64 k0] w fun e w' => e = .returned (.int .i64 ((rend k0 xs : Nat) : Int)) ∧ w.grownBy w' none := by
  have hbW : Below w.heap.size w (w.alloc (.cells #[.slice (some ⟨g, 0, none⟩) xs.length cp] 26)) := (Below.refl _ _).alloc (Nat.le_refl _) _
  have HC : Hid (_) := heldRoutineSC _ base g cp k0 xs hn hk0 hk1 hls (h.below hbW)
  have hge : ¬ ((rend k0 xs : Nat) : Int) < 0 := by omega
  generalize rend k0 xs = z at HC hge ⊢
  clear h hbW hls hk1
  go_enter Tryz.func17, Tryz.ntmps17
  go_wp2_with fail
  refine Calls.mono HC.out ?_
  rintro e w1 ⟨rfl, hg⟩
  have HG : Hid (w.grownBy w1 none) := (World.grownBy_alloc w _ _).trans hg
  clear HC hg
  go_wp2
  go_ret
  exact ⟨rfl, HG.out⟩

end Go.Proofs.YthjemelnbbpdcaaGreatDoor

/-! An image's marks, also where it has no routine at all (nil). -/
namespace Go.Proofs.YthjemelnbbpdcaaGreatDoor
open Go.RowKit

theorem rend_small (k : Nat) (xs : List RV) (h : ∀ x ∈ xs, x.1.2.2.length ≤ 200) : rend k xs ≤ k + 1002 * xs.length := by
  induction xs generalizing k with
  | nil => simp [rend]
  | cons x r ih =>
    have h1 := h x (List.mem_cons.2 (Or.inl rfl))
    have h2 := ih (k + 2 + 5 * x.1.2.2.length) (fun y hy => h y (List.mem_cons.2 (Or.inr hy)))
    simp only [rend, List.length_cons]
    omega
theorem RtsOwn.none {w w' : World} {base : Nat} {v : Value} {xs : List RV} (h : RtsOwn w base v xs) (hg : w.grownBy w' none) : RtsOwn w' base v xs :=
  h.kept hg (by cases hv : v.ownBlock with | none => exact Or.inl rfl | some k => exact Or.inr (by simp)) (fun x _ => by cases hv : (rvT x).ownBlock with | none => exact Or.inl rfl | some k => exact Or.inr (by simp))

set_option maxHeartbeats 1000000 in
set_option maxRecDepth 100000 in
theorem markRoutineN (w : World) (k0 : Nat) : Calls Tryz.prog 37 #[.slice none 0 0, .int .i64 k0] w fun e w' => e = .returned (.int .i64 (k0 : Int)) ∧ w' = w := by
  go_enter Tryz.func37, Tryz.ntmps37
  go_wp2
  go_loopw [1, 5] (fun k i wr => k = .int .i64 (k0 : Int) ∧ i = .int .i64 0 ∧ wr = w) (fun _ _ _ => 0)
  case atStart => exact ⟨rfl, rfl, rfl⟩
  case round =>
    obtain ⟨rfl, rfl, rfl⟩ := hrel
    go_wp2
    go_ret
    exact ⟨rfl, rfl⟩
set_option maxHeartbeats 1000000 in
set_option maxRecDepth 100000 in
theorem heldRoutineN (w : World) (k0 : Nat) : Calls Tryz.prog 38 #[.slice none 0 0, .int .i64 k0] w fun e w' => e = .returned (.int .i64 (k0 : Int)) ∧ w' = w := by
  go_enter Tryz.func38, Tryz.ntmps38
  go_wp2
  go_loopw [1, 5] (fun k i wr => k = .int .i64 (k0 : Int) ∧ i = .int .i64 0 ∧ wr = w) (fun _ _ _ => 0)
  case atStart => exact ⟨rfl, rfl, rfl⟩
  case round =>
    obtain ⟨rfl, rfl, rfl⟩ := hrel
    go_wp2
    go_ret
    exact ⟨rfl, rfl⟩

set_option maxHeartbeats 1000000 in
set_option maxRecDepth 100000 in
theorem markImageV (w : World) (base k0 : Nat) (v : Value) (xs : List RV) (hn : xs.length ≤ 1100000) (hk0 : 0 < k0) (hk1 : rend k0 xs ≤ 30000000) (hls : ∀ x ∈ xs, x.1.2.2.length ≤ 1100000) (hap : ApartR (xs.map rvT)) (h : RtsOwn w base v xs) :
    Calls Tryz.prog 16 #[.agg #[v], .int .i64 k0] w fun e w' => e = .returned (.int .i64 ((rend k0 xs : Nat) : Int)) ∧ RtsOwn w' base v (rmark k0 xs) ∧ WroteR w w' (RtBlocks v xs) := by
  rcases own_forms h.row with ⟨rfl, h0, _⟩ | ⟨g, cp, rfl⟩
  · obtain rfl : xs = [] := List.eq_nil_of_length_eq_zero h0
    have HC : Hid (_) := markRoutineN (w.alloc (.cells #[.slice none 0 0] 26)) k0
    have HB : Hid (Below w.heap.size w (w.alloc (.cells #[.slice none 0 0] 26))) := (Below.refl _ _).alloc (Nat.le_refl _) _
    have hr : rend k0 [] = k0 := rfl
    rw [hr]
    clear h hap hls hk1 hr
    go_enter Tryz.func16, Tryz.ntmps16
    go_wp2_with fail
    refine Calls.mono HC.out ?_
    rintro e w1 ⟨rfl, rfl⟩
    clear HC
    go_wp2
    go_ret
    exact ⟨rfl, RtsOwn.nil _ _, WroteR.of_below HB.out⟩
  · exact markImageC w base g cp k0 xs hn hk0 hk1 hls hap h

set_option maxHeartbeats 1000000 in
set_option maxRecDepth 100000 in
theorem heldImageV (w : World) (base k0 : Nat) (v : Value) (xs : List RV) (hn : xs.length ≤ 1100000) (hk0 : 0 < k0) (hk1 : rend k0 xs ≤ 30000000) (hls : ∀ x ∈ xs, x.1.2.2.length ≤ 1100000) (hl : (rmark k0 xs).length = xs.length) (h : RtsOwn w base v (rmark k0 xs)) :
    Calls Tryz.prog 17 #[.agg #[v], .int .i64 k0] w fun e w' => e = .returned (.int .i64 ((rend k0 xs : Nat) : Int)) ∧ w.grownBy w' none := by
  have hrow := h.row
  rw [hl] at hrow
  rcases own_forms hrow with ⟨rfl, h0, _⟩ | ⟨g, cp, rfl⟩
  · obtain rfl : xs = [] := List.eq_nil_of_length_eq_zero h0
    have HC : Hid (_) := heldRoutineN (w.alloc (.cells #[.slice none 0 0] 26)) k0
    have HB : Hid (w.grownBy (w.alloc (.cells #[.slice none 0 0] 26)) none) := World.grownBy_alloc w _ _
    have hr : rend k0 [] = k0 := rfl
    rw [hr]
    clear h hls hk1 hr hrow hl
    go_enter Tryz.func17, Tryz.ntmps17
    go_wp2_with fail
    refine Calls.mono HC.out ?_
    rintro e w1 ⟨rfl, rfl⟩
    clear HC
    go_wp2
    go_ret
    exact ⟨rfl, HB.out⟩
  · exact heldImageC w base g cp k0 xs hn hk0 hk1 hls h

end Go.Proofs.YthjemelnbbpdcaaGreatDoor

/-! A row of instructions that came in. -/
namespace Go.Proofs.YthjemelnbbpdcaaGreatDoor
open Go.ChangeShapes Go.WideShapes Go.ChangeAt Go.RowKit Go.Joins Go.Deep


end Go.Proofs.YthjemelnbbpdcaaGreatDoor

/-! An image that came in, as the walks take it. -/
namespace Go.Proofs.YthjemelnbbpdcaaGreatDoor
open Go.ChangeShapes Go.WideShapes Go.ChangeAt Go.RowKit Go.Joins Go.Deep

def IntR (rs : List Rt) : Prop := ∀ j, (-9223372036854775808 ≤ (rs.getD j rt0).2.1 ∧ (rs.getD j rt0).2.1 ≤ 9223372036854775807) ∧ IntIs (rs.getD j rt0).2.2
theorem intIs_nil : IntIs [] := fun j => by rw [show ([] : List In13).getD j in0 = in0 by simp]; exact intI_in0
section
variable {H : Type} {enc : TypeId × Value → H} {W : World} {base : Nat} {spare : Nat → Bool} {held : Bool} {fuel : Nat} {v : Value} {x : DataW H × List MemPlace}
end

end Go.Proofs.YthjemelnbbpdcaaGreatDoor

/-! What the landed functions of chapter 14 are told of an image. -/
namespace Go.Proofs.YthjemelnbbpdcaaGreatDoor
open Go.RowKit

/-- The routines rs lie at a, and so does the room of each row. -/
def RtsCap (w : World) (a : Option Addr) (len cap : Nat) (rs : List Rt) : Prop :=
  rs.length = len ∧ len ≤ cap ∧ cap ≤ maxLen ∧ ∀ j, j < len → ∃ b off, a = some ⟨b, off, none⟩ ∧ b < w.heap.size ∧ w.cell? ⟨b, off + j * 3, none⟩ = some (.string ⟨(rs.getD j rt0).1.toArray⟩) ∧ w.cell? ⟨b, off + j * 3 + 1, none⟩ = some (.int .i64 (rs.getD j rt0).2.1) ∧
    ∃ ca cl cc, w.cell? ⟨b, off + j * 3 + 2, none⟩ = some (.slice ca cl cc) ∧ InsIn w ca cl (rs.getD j rt0).2.2 ∧ cl ≤ cc ∧ cc ≤ maxLen
theorem RtsCap.in {w : World} {a : Option Addr} {len cap : Nat} {rs : List Rt} (h : RtsCap w a len cap rs) : RtsIn w a len rs := by
  refine ⟨h.1, fun j hj => ?_⟩
  obtain ⟨b, off, e, hl, c0, c1, ca, cl, cc, c2, hn, _, _⟩ := h.2.2.2 j hj
  exact ⟨b, off, e, hl, c0, c1, ca, cl, cc, c2, hn⟩
theorem RtsCap.below {w w' : World} {a : Option Addr} {len cap : Nat} {rs : List Rt} (h : RtsCap w a len cap rs) (hb : Below w.heap.size w w') : RtsCap w' a len cap rs := by
  refine ⟨h.1, h.2.1, h.2.2.1, fun j hj => ?_⟩
  obtain ⟨b, off, e, hlt, c0, c1, ca, cl, cc, c2, hn, h1, h2⟩ := h.2.2.2 j hj
  exact ⟨b, off, e, Nat.lt_of_lt_of_le hlt hb.size, (hb.cell (p := ⟨b, off + j * 3, none⟩) hlt).trans c0, (hb.cell (p := ⟨b, off + j * 3 + 1, none⟩) hlt).trans c1, ca, cl, cc, (hb.cell (p := ⟨b, off + j * 3 + 2, none⟩) hlt).trans c2, hn.below hb, h1, h2⟩
structure RtOk (w : World) (a : Option Addr) (len cap : Nat) (rs : List Rt) : Prop where
  c : RtsCap w a len cap rs
  i : IntR rs
  s : ShortR rs
  l : len ≤ 1048576
theorem RtOk.below {w w' : World} {a : Option Addr} {len cap : Nat} {rs : List Rt} (h : RtOk w a len cap rs) (hb : Below w.heap.size w w') : RtOk w' a len cap rs := ⟨h.c.below hb, h.i, h.s, h.l⟩
theorem own_capR {w : World} {base e size n c : Nat} {a : Option Addr} {xs : List Value} (h : w.ownsRow base e size (.slice a n c) n xs) : n ≤ c ∧ c ≤ maxLen := by
  rcases h.2 with ⟨h', _⟩ | ⟨g', cap', cur, h', _, _, hnc, hcm, _⟩
  · injection h' with _ h1 h2
    subst h1 h2
    exact ⟨Nat.le_refl _, Nat.zero_le _⟩
  · injection h' with _ _ h2
    omega
/-- What is owned lies so. -/
theorem RtsOwn.cap {w : World} {base n c : Nat} {a : Option Addr} {xs : List RV} {rs : List Rt} (h : RtsOwn w base (.slice a n c) xs) (hx : xs.map (·.1) = rs) (hn : rs.length = n) : RtsCap w a n c rs := by
  have hxl : xs.length = n := by rw [← hn, ← hx, List.length_map]
  obtain ⟨a', c', e, _, hin⟩ := h.in
  rw [hx, hxl] at hin
  rw [hxl] at e
  injection e with e1 _ e3
  subst e1 e3
  have hrow := h.row
  rw [hxl] at hrow
  have hc := own_capR hrow
  refine ⟨hin.1, hc.1, hc.2, fun j hj => ?_⟩
  obtain ⟨b, off, e, hlt, c0, c1, ca, cl, cc, c2, hn2⟩ := hin.2 j hj
  refine ⟨b, off, e, hlt, c0, c1, ca, cl, cc, c2, hn2, ?_⟩
  subst e
  obtain ⟨g, cp, e2⟩ := own_some hrow (by omega)
  injection e2 with e3 _ _
  injection e3 with e3
  injection e3 with e4 e5 _
  subst e4 e5
  have hmem : xs.getD j rv0 ∈ xs := by rw [List.getD_eq_getElem?_getD, List.getElem?_eq_getElem (by omega)]; exact List.getElem_mem (by omega)
  have ht := h.trees _ hmem
  obtain ⟨_, _, v2⟩ := rtsV_at xs j (by omega)
  have h2 := hrow.cellAt (j * 3 + 2) (by omega)
  rw [v2] at h2
  rw [Nat.zero_add] at c2
  rw [c2] at h2
  injection h2 with h2
  unfold rvT at h2 ht
  injection h2 with h3 h4 h5
  subst h3 h4 h5
  exact own_capR ht

theorem rt_small {rs : List Rt} (h : rs.length + rtsSz rs ≤ 1048576) : rs.length ≤ 1048576 ∧ ShortR rs := ⟨by omega, shortR_of (by omega)⟩

end Go.Proofs.YthjemelnbbpdcaaGreatDoor
