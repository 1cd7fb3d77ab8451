/-
  Parts of one proof, one behind the other: RtM, ImgH, ImgH2, ObM, ObK, StepC.
-/
import Derived.Test.YtkpdoedpkncboaaGreatP23
import Derived.Test.YtkpdoedpkncboaaGreatP22
import Derived.Deep.RegionWith
import Derived.Test.YtkpdoedpkncboaaGreatP4
import Derived.Test.YtkpdoedpkncboaaGreatP15
import Derived.Test.YtkpdoedpkncboaaGreatP1
import Derived.Deep.RegionHeld
import Derived.RegionTactic
namespace Go.Proofs.YtkpdoedpkncboaaGreat
open Go.RowKit
def rmk (k : Nat) (x : RV) : RV := ((zaZ k, ((k + 1 : Nat) : Int), zbq (k + 2) x.1.2.2.length), x.2)
def zc6 (k : Nat) : List RV → List RV
 | [] => []
 | x :: r => rmk k x :: zc6 (k + 2 + 5 * x.1.2.2.length) r
def rend (k : Nat) : List RV → Nat
 | [] => k
 | x :: r => rend (k + 2 + 5 * x.1.2.2.length) r
theorem zkt (k : Nat) (x : RV) : rvT (rmk k x) = rvT x := by unfold rvT rmk; rw [zbR]
theorem zct (k : Nat) (xs : List RV) : (zc6 k xs).length = xs.length := by
 induction xs generalizing k with
 | nil => rfl
 | cons x r ih => simp [zc6, ih]
theorem zj8 (k : Nat) (xs : List RV) (x : RV) : zc6 k (xs ++ [x]) = zc6 k xs ++ [rmk (rend k xs) x] ∧ rend k (xs ++ [x]) = rend k xs + 2 + 5 * x.1.2.2.length := by
 induction xs generalizing k with
 | nil => exact ⟨rfl, rfl⟩
 | cons y r ih =>
  have := ih (k + 2 + 5 * y.1.2.2.length)
  exact ⟨by rw [List.cons_append, zc6, this.1]; rfl, by rw [List.cons_append, rend, this.2]; rfl⟩
theorem zhF (k : Nat) (xs : List RV) : k ≤ rend k xs := by
 induction xs generalizing k with
 | nil => exact Nat.le_refl _
 | cons x r ih => have := ih (k + 2 + 5 * x.1.2.2.length); unfold rend; omega
theorem rend_app (k : Nat) (xs ys : List RV) : rend k (xs ++ ys) = rend (rend k xs) ys := by
 induction xs generalizing k with
 | nil => rfl
 | cons x r ih => rw [List.cons_append, rend, ih]; rfl
theorem zgO (k : Nat) (xs : List RV) (m : Nat) : rend k (xs.take m) ≤ rend k xs := by
 conv => rhs; rw [← List.take_append_drop m xs, rend_app]
 exact zhF _ _
def zcR (k : Nat) (xs : List RV) (m : Nat) : List RV := zc6 k (xs.take m) ++ xs.drop m
theorem zku (k : Nat) (xs : List RV) (m : Nat) : (zcR k xs m).length = xs.length := by
 unfold zcR; rw [List.length_append, zct, ← List.length_append, List.take_append_drop]
theorem rhalf_at (k : Nat) (xs : List RV) (m : Nat) (hm : m < xs.length) : (zcR k xs m).getD m rv0 = xs[m] := by
 unfold zcR
 have hl : (zc6 k (xs.take m)).length = m := by rw [zct, List.length_take]; omega
 rw [List.getD_eq_getElem?_getD, List.getElem?_append_right (by omega), hl, Nat.sub_self, List.getElem?_drop, Nat.add_zero, List.getElem?_eq_getElem hm]
 rfl
theorem zfL (k : Nat) (xs : List RV) (m : Nat) (hm : m < xs.length) : (zcR k xs m).set m (rmk (rend k (xs.take m)) xs[m]) = zcR k xs (m + 1) ∧ rend k (xs.take (m + 1)) = rend k (xs.take m) + 2 + 5 * xs[m].1.2.2.length := by
 have h1 := zj8 k (xs.take m) xs[m]
 rw [← List.take_succ_eq_append_getElem hm] at h1
 refine ⟨?_, h1.2⟩
 have hl : (zc6 k (xs.take m)).length = m := by rw [zct, List.length_take]; omega
 unfold zcR
 rw [h1.1, List.set_append_right _ _ (by omega), hl, Nat.sub_self, List.drop_eq_getElem_cons hm, zB, List.append_assoc]
 rfl
theorem rhalf_T (k : Nat) (xs : List RV) (m : Nat) : (zcR k xs m).map rvT = xs.map rvT := by
 have key : ∀ (k : Nat) (l : List RV), (zc6 k l).map rvT = l.map rvT := by
  intro k l
  induction l generalizing k with
  | nil => rfl
  | cons x r ih => rw [zc6, List.map_cons, List.map_cons, zkt, ih]
 unfold zcR
 rw [List.map_append, key, ← List.map_append, List.take_append_drop]
theorem zkp {α : Type} {l : List α} {i : Nat} {a : α} (h : l[i]? = some a) : l.set i a = l := by
 apply List.ext_getElem?
 intro j
 rw [List.getElem?_set]
 split
 ·
  rename_i e
  subst e
  split
  ·
   exact h.symm
  ·
   rename_i hl; rw [List.getElem?_eq_none (by omega)]
 ·
  rfl
def zcq (v : Value) (xs : List RV) (k : Nat) : Prop := v.ownBlock = some k ∨ ∃ x ∈ xs, (rvT x).ownBlock = some k
set_option maxHeartbeats 2000000 in
set_option maxRecDepth 100000 in
theorem zgi (w : World) (base g cp k0 : Nat) (xs : List RV) (hn : xs.length ≤ 1100000) (hk0 : 0 < k0) (hk1 : rend k0 xs ≤ 30000000) (hls : ∀ x ∈ xs, x.1.2.2.length ≤ 1100000) (hap : zbm (xs.map rvT))
 (h : za6 w base (.slice (some ⟨g, 0, none⟩) xs.length cp) xs) :
 Calls Tryz.prog 28 #[.slice (some ⟨g, 0, none⟩) xs.length cp, .int .i64 k0] w fun e w' => e = .returned (.int .i64 ((rend k0 xs : Nat) : Int)) ∧ za6 w' base (.slice (some ⟨g, 0, none⟩) xs.length cp) (zc6 k0 xs) ∧ zaQ w w' (zcq (.slice (some ⟨g, 0, none⟩) xs.length cp) xs) := by
 have HAP : Hid (zbm (xs.map rvT)) := hap
 have HLS : Hid (∀ x ∈ xs, x.1.2.2.length ≤ 1100000) := hls
 have hst0 : zcR k0 xs 0 = xs := rfl
 have H0 : Hid (za6 w base (.slice (some ⟨g, 0, none⟩) xs.length cp) (zcR k0 xs 0)) := h
 clear hap hls h hst0
 go_enter Tryz.func28, Tryz.ntmps28
 go_wp2
 go_loopw [1, 5] (fun k i wr => ∃ m : Nat, m ≤ xs.length ∧ i = .int .i64 m ∧ k = .int .i64 ((rend k0 (xs.take m) : Nat) : Int) ∧ Hid (za6 wr base (.slice (some ⟨g, 0, none⟩) xs.length cp) (zcR k0 xs m)) ∧ Hid (zaQ w wr (zcq (.slice (some ⟨g, 0, none⟩) xs.length cp) xs))) (fun _ i _ => xs.length - (intOf i).toNat)
 case atStart => exact ⟨0, Nat.zero_le _, rfl, rfl, H0, zaQ.refl _ _⟩
 case round =>
  obtain ⟨m, hm, rfl, rfl, HO, HW⟩ := hrel
  clear H0
  by_cases hlt : (m : Int) < (xs.length : Int)
  ·
   have hm2 : m < xs.length := by omega
   obtain ⟨hset, hend⟩ := zfL k0 xs m hm2
   have hat := rhalf_at k0 xs m hm2
   have hfl := zku k0 xs m
   have hT := rhalf_T k0 xs m
   have hend2 := zgO k0 xs (m + 1)
   have hxl := HLS.out xs[m] (List.getElem_mem hm2)
   obtain ⟨ys, hys⟩ : ∃ ys, zcR k0 xs m = ys := ⟨_, rfl⟩
   rw [hys] at hset hat hfl hT HO
   obtain ⟨x, hx⟩ : ∃ x, xs[m] = x := ⟨_, rfl⟩
   rw [hx] at hset hat hend hxl
   obtain ⟨q, hq⟩ : ∃ q, rend k0 (xs.take m) = q := ⟨_, rfl⟩
   have hq0 : 0 < q := by rw [← hq]; have := zhF k0 (xs.take m); omega
   rw [hq] at hset hend ⊢
   have hq3 : q + 2 + 5 * x.1.2.2.length ≤ 30000000 := by omega
   have HSET : Hid (ys.set m (rmk q x) = zcR k0 xs (m + 1)) := hset
   have HEND : Hid (rend k0 (xs.take (m + 1)) = q + 2 + 5 * x.1.2.2.length) := hend
   have HT : Hid (ys.map rvT = xs.map rvT) := hT
   have HX : Hid (∃ h : m < ys.length, ys[m] = x) := ⟨by omega, by rw [List.getD_eq_getElem?_getD, List.getElem?_eq_getElem (by omega)] at hat; exact hat⟩
   have HFL : Hid (ys.length = xs.length) := hfl
   have HXM : Hid (x ∈ xs) := by rw [← hx]; exact List.getElem_mem hm2
   obtain ⟨v0, v1, v2⟩ := zet ys m (by omega)
   rw [hat] at v0 v1 v2
   have hrow := HO.out.row
   rw [hfl] at hrow
   clear hset hend hend2 hys hx hq hT hat hfl
   obtain ⟨zs, hzs⟩ : ∃ zs, rtsV ys = zs := ⟨_, rfl⟩
   have hzset := rtsV_set ys m (rmk q x)
   rw [hzs] at hrow v0 v1 v2 hzset
   have HZ : Hid (((zs.set (m * 3) (.string ⟨(zaZ q).toArray⟩)).set (m * 3 + 1) (.int .i64 ((q : Int) + 1))).set (m * 3 + 2) (rvT x) = rtsV (ys.set m (rmk q x))) := by
    rw [← zkt q x, show (q : Int) + 1 = ((q + 1 : Nat) : Int) by omega]; exact hzset
   clear hzset
   have htree : wr.ownsRow base 88 5 (rvT x) x.1.2.2.length (insV x.1.2.2) := by
    obtain ⟨hl, he⟩ := HX.out
    rw [← he]; exact HO.out.trees _ (List.getElem_mem hl)
   obtain ⟨hxl2, ta, tc, htv, _⟩ := zdL htree
   have HTV : Hid (rvT x = .slice ta x.1.2.2.length tc) := htv
   rw [htv] at v2
   clear hzs htv
   go_wp2_with fail
   refine (zbJ q _ (by omega) (by omega)).mono ?_
   rintro e w2 ⟨rfl, hg2⟩
   have hrow2 := zaN hrow hg2
   obtain ⟨u0, d0⟩ : ∃ u, w2.cell? ⟨g, m * 3, none⟩ = some u := by rw [hrow2.cellAt (m * 3) (by omega), v0]; exact ⟨_, rfl⟩
   obtain ⟨u1, d1⟩ : ∃ u, w2.cell? ⟨g, m * 3 + 1, none⟩ = some u := by rw [hrow2.cellAt (m * 3 + 1) (by omega), v1]; exact ⟨_, rfl⟩
   have d2 : w2.cell? ⟨g, m * 3 + 2, none⟩ = some (.slice ta x.1.2.2.length tc) := by rw [hrow2.cellAt (m * 3 + 2) (by omega), v2]
   have e0 := hrow2.frozenAt (m * 3)
   have e1 := hrow2.frozenAt (m * 3 + 1)
   have hs1 := hrow2.stored (m * 3) (.string ⟨(zaZ q).toArray⟩)
   have hs2 := hs1.1.stored (m * 3 + 1) (.int .i64 ((q : Int) + 1))
   have hW3 : zaQ w ((w2.setCell ⟨g, m * 3, none⟩ (.string ⟨(zaZ q).toArray⟩)).setCell ⟨g, m * 3 + 1, none⟩ (.int .i64 ((q : Int) + 1))) (zcq (.slice (some ⟨g, 0, none⟩) xs.length cp) xs) :=
    ((HW.out.trans (zaQ.of_grown hg2 (fun _ e => by cases e))).trans (zaQ.of_grown hs1.2 (fun _ e => Or.inl e))).trans (zaQ.of_grown hs2.2 (fun _ e => Or.inl e))
   have htrees : ∀ z ∈ ys, ((w2.setCell ⟨g, m * 3, none⟩ (.string ⟨(zaZ q).toArray⟩)).setCell ⟨g, m * 3 + 1, none⟩ (.int .i64 ((q : Int) + 1))).ownsRow base 88 5 (rvT z) z.1.2.2.length (insV z.1.2.2) := by
    intro z hz
    have t1 := zaN (HO.out.trees z hz) hg2
    have hd := zaK t1 hrow2 (by decide)
    have t2 := t1.kept hs1.2 hd
    exact t2.kept hs2.2 hd
   have d2b : ((w2.setCell ⟨g, m * 3, none⟩ (.string ⟨(zaZ q).toArray⟩)).setCell ⟨g, m * 3 + 1, none⟩ (.int .i64 ((q : Int) + 1))).cell? ⟨g, m * 3 + 2, none⟩ = some (.slice ta x.1.2.2.length tc) := by
    rw [hs2.1.cellAt (m * 3 + 2) (by omega), List.getElem?_set_ne (by omega), List.getElem?_set_ne (by omega), v2]
   obtain ⟨W3, hW3e⟩ : ∃ W3, (w2.setCell ⟨g, m * 3, none⟩ (.string ⟨(zaZ q).toArray⟩)).setCell ⟨g, m * 3 + 1, none⟩ (.int .i64 ((q : Int) + 1)) = W3 := ⟨_, rfl⟩
   have hrow3 := hs2.1
   rw [hW3e] at hrow3 hW3 htrees d2b
   have HR3 : Hid (W3.ownsRow base 51 3 (.slice (some ⟨g, 0, none⟩) xs.length cp) xs.length ((zs.set (m * 3) (.string ⟨(zaZ q).toArray⟩)).set (m * 3 + 1) (.int .i64 ((q : Int) + 1)))) := hrow3
   have HW3 : Hid (zaQ w W3 (zcq (.slice (some ⟨g, 0, none⟩) xs.length cp) xs)) := hW3
   have HTR : Hid (∀ z ∈ ys, W3.ownsRow base 88 5 (rvT z) z.1.2.2.length (insV z.1.2.2)) := htrees
   have htree3 : W3.ownsRow base 88 5 (.slice ta x.1.2.2.length tc) x.1.2.2.length (insV x.1.2.2) := by
    obtain ⟨hl, he⟩ := HX.out
    have h3 := htrees _ (List.getElem_mem hl)
    rw [he, HTV.out] at h3
    exact h3
   have HM : Hid (_) := zl2 W3 base x.1.2.2.length (q + 2) (.slice ta x.1.2.2.length tc) x.1.2.2 (by omega) (by omega) (by omega) htree3
   rw [show ((q + 2 : Nat) : Int) = (q : Int) + 1 + 1 by omega] at HM
   have HT3 : Hid (W3.ownsRow base 88 5 (.slice ta x.1.2.2.length tc) x.1.2.2.length (insV x.1.2.2)) := htree3
   have HV2 : Hid (zs[m * 3 + 2]? = some (.slice ta x.1.2.2.length tc)) := v2
   clear hs1 hs2 hW3 htrees hrow3 hrow2 hrow hg2 htree htree3 HW v0 v1 v2
   go_wp2_with fail
   refine Calls.mono HM.out ?_
   rintro e w4 ⟨rfl, hown4, hg4⟩
   have HO4 : Hid (za6 w4 base (.slice (some ⟨g, 0, none⟩) xs.length cp) (zcR k0 xs (m + 1))) := by
    have hrow4 := HR3.out.kept hg4 (zaK HR3.out HT3.out (by decide))
    have hz3 : ((zs.set (m * 3) (.string ⟨(zaZ q).toArray⟩)).set (m * 3 + 1) (.int .i64 ((q : Int) + 1))) = rtsV (ys.set m (rmk q x)) := by
     rw [← HZ.out, HTV.out]
     exact (zkp (by rw [List.getElem?_set_ne (by omega), List.getElem?_set_ne (by omega)]; exact HV2.out)).symm
    rw [hz3] at hrow4
    rw [← HSET.out]
    refine ⟨by rw [List.length_set, HFL.out]; exact hrow4, fun z hz => ?_⟩
    obtain ⟨j, hj, rfl⟩ := List.mem_iff_getElem.1 hz
    rw [List.length_set] at hj
    rw [List.getElem_set]
    by_cases hjm : m = j
    ·
     subst hjm
     rw [if_pos rfl, zkt, HTV.out]
     show w4.ownsRow base _ 5 _ (zbq (q + 2) x.1.2.2.length).length (insV (zbq (q + 2) x.1.2.2.length))
     rw [zbR]
     exact hown4
    ·
     rw [if_neg hjm]
     refine (HTR.out _ (List.getElem_mem hj)).kept hg4 ?_
     obtain ⟨hl, he⟩ := HX.out
     have hap : zbm (ys.map rvT) := by rw [HT.out]; exact HAP.out
     have hne := hap.ne (i := j) (j := m) (by simpa using hj) (by simpa using hl) (fun e => hjm e.symm)
     rw [List.getElem_map, List.getElem_map, he, HTV.out] at hne
     exact hne
   have HW4 : Hid (zaQ w w4 (zcq (.slice (some ⟨g, 0, none⟩) xs.length cp) xs)) := HW3.out.trans (zaQ.of_grown hg4 (fun k e => Or.inr ⟨x, HXM.out, by rw [HTV.out]; exact e⟩))
   clear hown4 hg4 HR3 HT3 HTR HW3 HM HZ HSET HT HX HV2 HTV HXM HFL d0 d1 d2 d2b e0 e1 HO
   go_wp2
   go_roundw
   case rel => exact ⟨m + 1, by omega, by go_num, by rw [HEND.out]; go_num, HO4, HW4⟩
   case measure => simp [intOf]; omega
  ·
   obtain rfl : m = xs.length := by omega
   have hO := HO.out
   have HK : Hid (rend k0 (xs.take xs.length) = rend k0 xs) := by exact (by rw [List.take_length] : rend k0 (xs.take xs.length) = rend k0 xs)
   have HH : Hid (zcR k0 xs xs.length = zc6 k0 xs) := by exact (by unfold zcR; rw [List.take_length, List.drop_length, List.append_nil] : zcR k0 xs xs.length = zc6 k0 xs)
   rw [HH.out] at hO
   go_wp2
   go_ret
   exact ⟨by rw [← HK.out]; rfl, hO, HW.out⟩
theorem rmark_at (k : Nat) (xs : List RV) (m : Nat) (hm : m < xs.length) : (zc6 k xs).getD m rv0 = rmk (rend k (xs.take m)) xs[m] := by
 induction xs generalizing k m with
 | nil => simp at hm
 | cons x r ih =>
  cases m with
  | zero => rfl
  | succ m =>
   have := ih (k + 2 + 5 * x.1.2.2.length) m (by simpa using hm)
   rw [List.take_succ_cons, rend, List.getElem_cons_succ, ← this]
   rfl
set_option maxHeartbeats 2000000 in
set_option maxRecDepth 100000 in
theorem zgz (w : World) (base g cp k0 : Nat) (xs : List RV) (hn : xs.length ≤ 1100000) (hk0 : 0 < k0) (hk1 : rend k0 xs ≤ 30000000) (hls : ∀ x ∈ xs, x.1.2.2.length ≤ 1100000)
 (h : za6 w base (.slice (some ⟨g, 0, none⟩) xs.length cp) (zc6 k0 xs)) :
 Calls Tryz.prog 30 #[.slice (some ⟨g, 0, none⟩) xs.length cp, .int .i64 k0] w fun e w' => e = .returned (.int .i64 ((rend k0 xs : Nat) : Int)) ∧ w.grownBy w' none := by
 have hself : ∀ l : List UInt8, (l != l) = false := by simp
 have hne : ∀ n : Int, (n != n) = false := by simp
 have HLS : Hid (∀ x ∈ xs, x.1.2.2.length ≤ 1100000) := hls
 have HF : Hid (za6 w base (.slice (some ⟨g, 0, none⟩) xs.length cp) (zc6 k0 xs)) := h
 clear hls h
 go_enter Tryz.func30, Tryz.ntmps30
 go_wp2
 go_loopw [1, 5] (fun k i wr => ∃ m : Nat, m ≤ xs.length ∧ i = .int .i64 m ∧ k = .int .i64 ((rend k0 (xs.take m) : Nat) : Int) ∧ w.grownBy wr none) (fun _ i _ => xs.length - (intOf i).toNat)
 case atStart => exact ⟨0, Nat.zero_le _, rfl, rfl, World.grownBy.refl _ _⟩
 case round =>
  obtain ⟨m, hm, rfl, rfl, hg⟩ := hrel
  by_cases hlt : (m : Int) < (xs.length : Int)
  ·
   have hm2 : m < xs.length := by omega
   have hend := (zfL k0 xs m hm2).2
   have hend2 := zgO k0 xs (m + 1)
   have hat := rmark_at k0 xs m hm2
   have hxl := HLS.out xs[m] (List.getElem_mem hm2)
   have hfl := zct k0 xs
   have hrow := HF.out.row
   rw [hfl] at hrow
   obtain ⟨v0, v1, v2⟩ := zet (zc6 k0 xs) m (by omega)
   have hmem : (zc6 k0 xs).getD m rv0 ∈ zc6 k0 xs := by rw [List.getD_eq_getElem?_getD, List.getElem?_eq_getElem (by omega)]; exact List.getElem_mem (by omega)
   have htr := HF.out.trees _ hmem
   rw [hat] at v0 v1 v2 htr
   obtain ⟨x, hx⟩ : ∃ x, xs[m] = x := ⟨_, rfl⟩
   obtain ⟨q, hq⟩ : ∃ q, rend k0 (xs.take m) = q := ⟨_, rfl⟩
   rw [hx, hq] at v0 v1 v2 htr
   rw [hx, hq] at hend
   rw [hx] at hxl
   have hq0 : 0 < q := by rw [← hq]; have := zhF k0 (xs.take m); omega
   have hq3 : q + 2 + 5 * x.1.2.2.length ≤ 30000000 := by omega
   have HEND : Hid (rend k0 (xs.take (m + 1)) = q + 2 + 5 * x.1.2.2.length) := hend
   rw [hq]
   have c0 : wr.cell? ⟨g, m * 3, none⟩ = some (.string ⟨(zaZ q).toArray⟩) := hg.cell (a := ⟨g, m * 3, none⟩) ((hrow.cellAt (m * 3) (by omega)).trans v0) (by simp)
   have c1 : wr.cell? ⟨g, m * 3 + 1, none⟩ = some (.int .i64 ((q : Int) + 1)) := hg.cell (a := ⟨g, m * 3 + 1, none⟩) ((hrow.cellAt (m * 3 + 1) (by omega)).trans (v1.trans (by show some (Value.int .i64 ((q + 1 : Nat) : Int)) = _; rw [show ((q + 1 : Nat) : Int) = (q : Int) + 1 by omega]))) (by simp)
   have c2 : wr.cell? ⟨g, m * 3 + 2, none⟩ = some (rvT (rmk q x)) := hg.cell (a := ⟨g, m * 3 + 2, none⟩) ((hrow.cellAt (m * 3 + 2) (by omega)).trans v2) (by simp)
   have ht3 : wr.ownsRow base 88 5 (rvT x) x.1.2.2.length (insV (zbq (q + 2) x.1.2.2.length)) := by
    have t := zaN htr hg
    rw [zkt] at t
    have e1 : (rmk q x).1.2.2 = zbq (q + 2) x.1.2.2.length := rfl
    rw [e1, zbR] at t
    exact t
   rw [zkt] at c2
   obtain ⟨_, ta, tc, htv, _⟩ := zdL ht3
   rw [htv] at c2 ht3
   have HT3 : Hid (wr.ownsRow base 88 5 (.slice ta x.1.2.2.length tc) x.1.2.2.length (insV (zbq (q + 2) x.1.2.2.length))) := ht3
   generalize x.1.2.2.length = n at c2 HT3 HEND hq3 hxl
   have hge : ¬ ((q + 2 + 5 * n : Nat) : Int) < 0 := by omega
   clear v0 v1 v2 hrow htr hmem hat hfl hend hend2 hx hq ht3 htv
   go_wp2
   go_region_with (go_at_call 56; refine (zbJ q _ (by omega) (by omega)).mono ?_; rintro e w1 ⟨rfl, hg1⟩; have x0 := hg1.cell (a := ⟨g, m * 3, none⟩) c0 (by simp); have x1 := hg1.cell (a := ⟨g, m * 3 + 1, none⟩) c1 (by simp); have x2 := hg1.cell (a := ⟨g, m * 3 + 2, none⟩) c2 (by simp))
   all_goals
    have hG1 : wr.grownBy w1 none := by first | exact hg1 | exact (zcx _ _).trans hg1
    have HM := zlH w1 base n (q + 2) (.slice ta n tc) (by omega) (by omega) (by omega) (zaN HT3.out hG1)
    rw [show ((q + 2 : Nat) : Int) = (q : Int) + 1 + 1 by omega] at HM
    have HM2 : Hid (_) := HM
    clear HM hg1
    go_wp2_with fail
    refine Calls.mono HM2.out ?_
    rintro e w2 ⟨rfl, hg2⟩
    have hG2 := (hg.trans hG1).trans hg2
    clear HM2 hg2
    go_wp2
    go_roundw
    case rel => exact ⟨m + 1, by omega, by go_num, by rw [HEND.out]; go_num, hG2⟩
    case measure => simp [intOf]; omega
  ·
   obtain rfl : m = xs.length := by omega
   have HK : Hid (rend k0 (xs.take xs.length) = rend k0 xs) := by exact (by rw [List.take_length] : rend k0 (xs.take xs.length) = rend k0 xs)
   go_wp2
   go_ret
   exact ⟨by rw [← HK.out]; rfl, hg⟩

theorem zja (k : Nat) (xs : List RV) (h : ∀ x ∈ xs, x.1.2.2.length ≤ 200) : rend k xs ≤ k + 1002 * xs.length := by
 induction xs generalizing k with
 | nil => simp [rend]
 | cons x r ih =>
  have h1 := h x (List.mem_cons.2 (Or.inl rfl))
  have h2 := ih (k + 2 + 5 * x.1.2.2.length) (fun y hy => h y (List.mem_cons.2 (Or.inr hy)))
  simp only [rend, List.length_cons]
  omega
theorem za6.none {w w' : World} {base : Nat} {v : Value} {xs : List RV} (h : za6 w base v xs) (hg : w.grownBy w' none) : za6 w' base v xs :=
 h.kept hg (by cases hv : v.ownBlock with | none => exact Or.inl rfl | some k => exact Or.inr (by simp)) (fun x _ => by cases hv : (rvT x).ownBlock with | none => exact Or.inl rfl | some k => exact Or.inr (by simp))
set_option maxHeartbeats 1000000 in
set_option maxRecDepth 100000 in
theorem zgW (w : World) (k0 : Nat) : Calls Tryz.prog 28 #[.slice none 0 0, .int .i64 k0] w fun e w' => e = .returned (.int .i64 (k0 : Int)) ∧ w' = w := by
 go_enter Tryz.func28, Tryz.ntmps28
 go_wp2
 go_loopw [1, 5] (fun k i wr => k = .int .i64 (k0 : Int) ∧ i = .int .i64 0 ∧ wr = w) (fun _ _ _ => 0)
 case atStart => exact ⟨rfl, rfl, rfl⟩
 case round =>
  obtain ⟨rfl, rfl, rfl⟩ := hrel
  go_wp2
  go_ret
  exact ⟨rfl, rfl⟩
set_option maxHeartbeats 1000000 in
set_option maxRecDepth 100000 in
theorem zhh (w : World) (k0 : Nat) : Calls Tryz.prog 30 #[.slice none 0 0, .int .i64 k0] w fun e w' => e = .returned (.int .i64 (k0 : Int)) ∧ w' = w := by
 go_enter Tryz.func30, Tryz.ntmps30
 go_wp2
 go_loopw [1, 5] (fun k i wr => k = .int .i64 (k0 : Int) ∧ i = .int .i64 0 ∧ wr = w) (fun _ _ _ => 0)
 case atStart => exact ⟨rfl, rfl, rfl⟩
 case round =>
  obtain ⟨rfl, rfl, rfl⟩ := hrel
  go_wp2
  go_ret
  exact ⟨rfl, rfl⟩
theorem zfM {w : World} {base n : Nat} {v : Value} {ts : List (List UInt8)} (h : w.ownsRow base 9 1 v n (strV ts)) : ∃ a c, v = .slice a n c ∧ (a = none → c = 0) ∧ zae w a n ts := by
 obtain ⟨_, a, c, rfl, hin⟩ := zdt h
 refine ⟨a, c, rfl, fun e => ?_, hin⟩
 rcases zar h with ⟨e2, _, _⟩ | ⟨g, cp, e2⟩
 ·
  injection e2
 ·
  injection e2 with e3; rw [e] at e3; cases e3
theorem zgh (w : World) (base k0 : Nat) (v : Value) (xs : List RV) (hn : xs.length ≤ 1100000) (hk0 : 0 < k0) (hk1 : rend k0 xs ≤ 30000000) (hls : ∀ x ∈ xs, x.1.2.2.length ≤ 1100000) (hap : zbm (xs.map rvT)) (h : za6 w base v xs) :
 Calls Tryz.prog 28 #[v, .int .i64 k0] w fun e w' => e = .returned (.int .i64 ((rend k0 xs : Nat) : Int)) ∧ za6 w' base v (zc6 k0 xs) ∧ zaQ w w' (zcq v xs) := by
 rcases zar h.row with ⟨rfl, h0, _⟩ | ⟨g, cp, rfl⟩
 ·
  obtain rfl : xs = [] := List.eq_nil_of_length_eq_zero h0
  refine (zgW w k0).mono ?_
  rintro e w' ⟨rfl, rfl⟩
  exact ⟨rfl, za6.nil _ _, zaQ.refl _ _⟩
 ·
  exact zgi w base g cp k0 xs hn hk0 hk1 hls hap h
theorem zgy (w : World) (base k0 : Nat) (v : Value) (xs : List RV) (hn : xs.length ≤ 1100000) (hk0 : 0 < k0) (hk1 : rend k0 xs ≤ 30000000) (hls : ∀ x ∈ xs, x.1.2.2.length ≤ 1100000) (h : za6 w base v (zc6 k0 xs)) :
 Calls Tryz.prog 30 #[v, .int .i64 k0] w fun e w' => e = .returned (.int .i64 ((rend k0 xs : Nat) : Int)) ∧ w.grownBy w' none := by
 have hl := zct k0 xs
 rcases zar h.row with ⟨rfl, h0, _⟩ | ⟨g, cp, rfl⟩
 ·
  obtain rfl : xs = [] := List.eq_nil_of_length_eq_zero (by omega)
  refine (zhh w k0).mono ?_
  rintro e w' ⟨rfl, rfl⟩
  exact ⟨rfl, World.grownBy.refl _ _⟩
 ·
  rw [hl] at h ⊢
  exact zgz w base g cp k0 xs hn hk0 hk1 hls h
theorem za6.alloc {w : World} {base : Nat} {v : Value} {xs : List RV} (h : za6 w base v xs) (o : Obj) : za6 (w.alloc o) base v xs := ⟨h.row.alloc o, fun x hx => (h.trees x hx).alloc o⟩
theorem za6.texts {w w' : World} {base b2 n : Nat} {v vi : Value} {xs : List RV} {ys : List Value} (h : za6 w base v xs) (hi : w.ownsRow b2 9 1 vi n ys) (hg : w.grownBy w' vi.ownBlock) : za6 w' base v xs :=
 ⟨h.row.kept hg (zaK h.row hi (by decide)), fun x hx => (h.trees x hx).kept hg (zaK (h.trees x hx) hi (by decide))⟩
theorem zjT {w w' : World} {base b2 n : Nat} {v vi : Value} {xs : List RV} {ys : List Value} (h : za6 w base v xs) (hi : w.ownsRow b2 9 1 vi n ys) (hw : zaQ w w' (zcq v xs)) : w'.ownsRow b2 9 1 vi n ys := by
 refine zd2 hi hw (fun k hk hb => ?_)
 rcases hb with e | ⟨x, hx, e⟩
 ·
  rcases zaK hi h.row (by decide) with e2 | e2
  ·
   rw [hk] at e2; cases e2
  ·
   exact e2 (by rw [hk, e])
 ·
  rcases zaK hi (h.trees x hx) (by decide) with e2 | e2
  ·
   rw [hk] at e2; cases e2
  ·
   exact e2 (by rw [hk, e])
def zdF (vi vf : Value) (xs : List RV) (k : Nat) : Prop := vi.ownBlock = some k ∨ zcq vf xs k
set_option maxHeartbeats 1000000 in
set_option maxRecDepth 100000 in
theorem zhO (nm : List UInt8) (w : World) (base k0 n : Nat) (vi vf : Value) (ys : List Value) (xs : List RV) (hn : n ≤ 1100000) (hf : xs.length ≤ 1100000) (hk0 : 0 < k0) (hk1 : k0 ≤ 800000) (hk2 : rend (k0 + n) xs ≤ 30000000) (hls : ∀ x ∈ xs, x.1.2.2.length ≤ 1100000) (hap : zbm (xs.map rvT))
 (hi : w.ownsRow base 9 1 vi n ys) (h : za6 w base vf xs) :
 Calls Tryz.prog 11 #[.agg #[.string ⟨nm.toArray⟩, vi, vf], .int .i64 k0] w fun e w' => e = .returned (.int .i64 ((rend (k0 + n) xs : Nat) : Int)) ∧ w'.ownsRow base 9 1 vi n (zbI k0 n) ∧ za6 w' base vf (zc6 (k0 + n) xs) ∧ zaQ w w' (zdF vi vf xs) := by
 obtain ⟨ai, ci, rfl⟩ : ∃ a c, vi = .slice a n c := by
  rcases zar hi with ⟨rfl, rfl, _⟩ | ⟨g, cp, rfl⟩
  ·
   exact ⟨none, 0, rfl⟩
  ·
   exact ⟨_, cp, rfl⟩
 obtain ⟨af, cf, rfl, _, _⟩ := h.in
 obtain ⟨W0, hW0⟩ : ∃ W0, w.alloc (.cells #[.string ⟨nm.toArray⟩, .slice ai n ci, .slice af xs.length cf] 29) = W0 := ⟨_, rfl⟩
 have hb0 : Below w.heap.size w W0 := by rw [← hW0]; exact (Below.refl _ w).alloc (Nat.le_refl _) _
 have hA := heap_alloc_new w (.cells #[.string ⟨nm.toArray⟩, .slice ai n ci, .slice af xs.length cf] 29)
 rw [hW0] at hA
 obtain ⟨D, hD⟩ : ∃ D, w.heap.size = D := ⟨_, rfl⟩
 rw [hD] at hA
 have k0c : W0.cell? ⟨D, 1, none⟩ = some (.slice ai n ci) := by simp [World.cell?, hA]
 have k1c : W0.cell? ⟨D, 2, none⟩ = some (.slice af xs.length cf) := by simp [World.cell?, hA]
 have hDi : (Value.slice ai n ci).ownBlock ≠ some D := fun e => by have := (hi.lt D e).2; omega
 have hi0 := za2 hi hb0
 have hf0 := h.below hb0
 have HC : Hid (_) := ziB W0 base n k0 (.slice ai n ci) ys hn hk0 hk1 hi0
 have HI0 : Hid (W0.ownsRow base 9 1 (.slice ai n ci) n ys) := hi0
 have HF0 : Hid (za6 W0 base (.slice af xs.length cf) xs) := hf0
 have HW0 : Hid (zaQ w W0 (zdF (.slice ai n ci) (.slice af xs.length cf) xs)) := zaQ.of_below hb0
 clear hi h hi0 hf0 hb0 hA
 go_enter Tryz.func11, Tryz.ntmps11
 go_wp2_with fail
 refine Calls.mono HC.out ?_
 rintro e w1 ⟨rfl, hi1, hg1⟩
 have k1d := hg1.cell (a := ⟨D, 2, none⟩) k1c (fun e => hDi e.symm)
 have hf1 := HF0.out.texts HI0.out hg1
 have HM : Hid (_) := zgh w1 base (k0 + n) _ xs hf (by omega) hk2 hls hap hf1
 have HI1 : Hid (w1.ownsRow base 9 1 (.slice ai n ci) n (zbI k0 n)) := hi1
 have HF1 : Hid (za6 w1 base (.slice af xs.length cf) xs) := hf1
 have HW1 : Hid (zaQ w w1 (zdF (.slice ai n ci) (.slice af xs.length cf) xs)) := HW0.out.trans (zaQ.of_grown hg1 (fun _ e => Or.inl e))
 clear HC HI0 HF0 HW0 hi1 hg1 hf1 k0c k1c hls hap
 go_wp2_with fail
 refine Calls.mono HM.out ?_
 rintro e w2 ⟨rfl, hf2, hw2⟩
 have hi2 := zjT HF1.out HI1.out hw2
 have hW2 := HW1.out.trans (hw2.mono (fun _ e => Or.inr e))
 clear HM
 go_wp2
 go_ret
 exact ⟨rfl, hi2, hf2, hW2⟩
set_option maxHeartbeats 1000000 in
set_option maxRecDepth 100000 in
theorem zeO (nm : List UInt8) (w : World) (base k0 n : Nat) (vi vf : Value) (xs : List RV) (hn : n ≤ 1100000) (hf : xs.length ≤ 1100000) (hk0 : 0 < k0) (hk1 : k0 ≤ 800000) (hk2 : rend (k0 + n) xs ≤ 30000000) (hls : ∀ x ∈ xs, x.1.2.2.length ≤ 1100000)
 (hi : w.ownsRow base 9 1 vi n (zbI k0 n)) (h : za6 w base vf (zc6 (k0 + n) xs)) :
 Calls Tryz.prog 12 #[.agg #[.string ⟨nm.toArray⟩, vi, vf], .int .i64 k0] w fun e w' => e = .returned (.int .i64 ((rend (k0 + n) xs : Nat) : Int)) ∧ w.grownBy w' none := by
 obtain ⟨ai, ci, rfl⟩ : ∃ a c, vi = .slice a n c := by
  rcases zar hi with ⟨rfl, rfl, _⟩ | ⟨g, cp, rfl⟩
  ·
   exact ⟨none, 0, rfl⟩
  ·
   exact ⟨_, cp, rfl⟩
 obtain ⟨af, cf, rfl, _, _⟩ := h.in
 have hl := zct (k0 + n) xs
 rw [hl] at h ⊢
 have hHC := heldStrV (w.alloc (.cells #[.string ⟨nm.toArray⟩, .slice ai n ci, .slice af xs.length cf] 29)) base n k0 (.slice ai n ci) hn hk0 hk1 (hi.alloc _)
 have HC : Hid (_) := hHC
 have HF : Hid (za6 (w.alloc (.cells #[.string ⟨nm.toArray⟩, .slice ai n ci, .slice af xs.length cf] 29)) base (.slice af xs.length cf) (zc6 (k0 + n) xs)) := h.alloc _
 have hg0 : w.grownBy (w.alloc (.cells #[.string ⟨nm.toArray⟩, .slice ai n ci, .slice af xs.length cf] 29)) none := World.grownBy_alloc w _ _
 have hA := heap_alloc_new w (.cells #[.string ⟨nm.toArray⟩, .slice ai n ci, .slice af xs.length cf] 29)
 obtain ⟨W0, hW0⟩ : ∃ W0, w.alloc (.cells #[.string ⟨nm.toArray⟩, .slice ai n ci, .slice af xs.length cf] 29) = W0 := ⟨_, rfl⟩
 rw [hW0] at HC HF hg0 hA
 obtain ⟨D, hD⟩ : ∃ D, w.heap.size = D := ⟨_, rfl⟩
 rw [hD] at hA
 have k0c : W0.cell? ⟨D, 1, none⟩ = some (.slice ai n ci) := by simp [World.cell?, hA]
 have k1c : W0.cell? ⟨D, 2, none⟩ = some (.slice af xs.length cf) := by simp [World.cell?, hA]
 have hge1 : ¬ ((k0 + n : Nat) : Int) < 0 := by omega
 have hge2 : ¬ ((rend (k0 + n) xs : Nat) : Int) < 0 := by omega
 clear hi h hHC hA hl
 go_enter Tryz.func12, Tryz.ntmps12
 go_wp2_with fail
 refine Calls.mono HC.out ?_
 rintro e w1 ⟨rfl, hg1⟩
 have k1d := hg1.cell (a := ⟨D, 2, none⟩) k1c (by simp)
 have HM : Hid (_) := zgy w1 base (k0 + n) _ xs hf (by omega) hk2 hls (HF.out.none hg1)
 have hG1 := hg0.trans hg1
 clear HC HF hg0 hg1 k0c k1c hls
 go_wp2_with fail
 refine Calls.mono HM.out ?_
 rintro e w2 ⟨rfl, hg2⟩
 have hG2 := hG1.trans hg2
 clear HM
 go_wp2
 go_ret
 exact ⟨rfl, hG2⟩
structure ObOk (w : World) (nm : List UInt8) (ia : Option Addr) (il ic : Nat) (fa : Option Addr) (fl fc : Nat) (ims : List (List UInt8)) (rs : List Rt) : Prop where
 i : zae w ia il ims
 r : RtOk w fa fl fc rs
 ic : ia = none → ic = 0
 il : il ≤ 1048576
 nm : nm.length ≤ 1048576
 is : ∀ i, (ims.getD i []).length ≤ 1048576
theorem ObOk.below {w w' : World} {nm : List UInt8} {ia : Option Addr} {il ic : Nat} {fa : Option Addr} {fl fc : Nat} {ims : List (List UInt8)} {rs : List Rt} (h : ObOk w nm ia il ic fa fl fc ims rs) (hb : Below w.heap.size w w') : ObOk w' nm ia il ic fa fl fc ims rs :=
 ⟨h.i.below hb, h.r.below hb, h.ic, h.il, h.nm, h.is⟩
theorem own_ob {w : World} {base : Nat} {vi vf : Value} {ims : List (List UInt8)} {xs : List RV} {fs : List Rt} (hoi : w.ownsRow base 9 1 vi ims.length (strV ims)) (hof : za6 w base vf xs) (hxs : xs.map (·.1) = fs) :
 ∃ ai ci af cf, vi = .slice ai ims.length ci ∧ vf = .slice af fs.length cf ∧ (ai = none → ci = 0) ∧ ((af = none → cf = 0) ∧ fs.length ≤ cf) ∧ zae w ai ims.length ims ∧ zdh w af fs.length fs := by
 obtain ⟨ai, ci, rfl, hic, hit⟩ := zfM hoi
 obtain ⟨af, cf, rfl, hfc, hif⟩ := hof.in
 have hl : xs.length = fs.length := by rw [← hxs, List.length_map]
 have hcp : fs.length ≤ cf := by
  rcases hof.row.2 with ⟨e, h0⟩ | ⟨g, cap, cur, e, _, _, hc, _⟩
  ·
   rw [← hl, h0]; exact Nat.zero_le _
  ·
   injection e with _ _ e3
   rw [e3, ← hl]; exact hc
 rw [hxs, hl] at hif
 exact ⟨ai, ci, af, cf, rfl, by rw [hl], hic, ⟨hfc, hcp⟩, hit, hif⟩
structure Pv15 (Z : World) (lo hi : Nat) (ai : Option Addr) (il ci : Nat) (af : Option Addr) (fl cf : Nat) (ims : List (List UInt8)) (fs : List Rt) (xs : List RV) : Prop where
 oi : Z.ownsRow lo 9 1 (.slice ai il ci) il (strV ims)
 of : za6 Z lo (.slice af fl cf) xs
 xm : xs.map (·.1) = fs
 li : ims.length = il
 lf : fs.length = fl
 at_ : ∀ k, zdF (.slice ai il ci) (.slice af fl cf) xs k → lo ≤ k ∧ k < hi
section
variable {Z Y : World} {lo hi : Nat} {ai : Option Addr} {il ci : Nat} {af : Option Addr} {fl cf : Nat} {ims : List (List UInt8)} {fs : List Rt} {xs : List RV}
theorem Pv15.below (h : Pv15 Z lo hi ai il ci af fl cf ims fs xs) (hb : Below Z.heap.size Z Y) : Pv15 Y lo hi ai il ci af fl cf ims fs xs := ⟨za2 h.oi hb, h.of.below hb, h.xm, h.li, h.lf, h.at_⟩
theorem Pv15.wrote (h : Pv15 Z lo hi ai il ci af fl cf ims fs xs) {S : Nat → Prop} (hw : zaQ Z Y S) (hs : ∀ k, S k → k < lo ∨ hi ≤ k) : Pv15 Y lo hi ai il ci af fl cf ims fs xs :=
 ⟨zd2 h.oi hw (fun k e hk => by have := h.at_ k (Or.inl e); have := hs k hk; omega), ⟨zd2 h.of.row hw (fun k e hk => by have := h.at_ k (Or.inr (Or.inl e)); have := hs k hk; omega), fun x hx => zd2 (h.of.trees x hx) hw (fun k e hk => by have := h.at_ k (Or.inr (Or.inr ⟨x, hx, e⟩)); have := hs k hk; omega)⟩, h.xm, h.li, h.lf, h.at_⟩
theorem Pv15.none (h : Pv15 Z lo hi ai il ci af fl cf ims fs xs) (hg : Z.grownBy Y none) : Pv15 Y lo hi ai il ci af fl cf ims fs xs := h.wrote (S := fun _ => False) (zaQ.of_grown hg (fun k e => by cases e)) (fun k e => e.elim)
theorem Pv15.drew (h : Pv15 Z lo hi ai il ci af fl cf ims fs xs) : Pv15 Z.drew lo hi ai il ci af fl cf ims fs xs := h.below ⟨rfl, rfl, rfl, Nat.le_refl _, fun _ _ => rfl⟩
theorem Pv15.in (h : Pv15 Z lo hi ai il ci af fl cf ims fs xs) : zae Z ai il ims ∧ zdh Z af fl fs := by
 have hoi := h.oi
 rw [← h.li] at hoi
 obtain ⟨_, _, _, _, e1, e2, _, _, h1, h2⟩ := own_ob hoi h.of h.xm
 injection e1 with a1 _ a3
 injection e2 with b1 _ b3
 subst a1 a3 b1 b3
 rw [← h.li, ← h.lf]
 exact ⟨h1, h2⟩
theorem Pv15.cap (h : Pv15 Z lo hi ai il ci af fl cf ims fs xs) : zdD Z af fl cf fs := h.of.cap h.xm h.lf
theorem Pv15.len (h : Pv15 Z lo hi ai il ci af fl cf ims fs xs) : xs.length = fl := by rw [← h.lf, ← h.xm, List.length_map]
theorem Pv15.new {vi vf : Value} (hoi : Z.ownsRow lo 9 1 vi ims.length (strV ims)) (hof : za6 Z lo vf xs) (hxs : xs.map (·.1) = fs) : ∃ ai ci af cf, vi = .slice ai ims.length ci ∧ vf = .slice af fs.length cf ∧ ((af = Option.none → cf = 0) ∧ fs.length ≤ cf) ∧ (ai = Option.none → ci = 0) ∧ Pv15 Z lo Z.heap.size ai ims.length ci af fs.length cf ims fs xs := by
 obtain ⟨ai, ci, af, cf, rfl, rfl, h0, h1, _, _⟩ := own_ob hoi hof hxs
 refine ⟨ai, ci, af, cf, rfl, rfl, h1, h0, hoi, hof, hxs, rfl, rfl, fun k hk => ?_⟩
 rcases hk with e | e | ⟨x, hx, e⟩
 ·
  exact hoi.lt k e
 ·
  exact hof.row.lt k e
 ·
  exact (hof.trees x hx).lt k e
end
structure Ib (w X : World) (g : Nat) (i : In13) : Prop where
 c0 : X.cell? ⟨g, 0, none⟩ = some (.int .i64 i.1)
 c1 : X.cell? ⟨g, 1, none⟩ = some (.int .i64 i.2.1)
 c2 : X.cell? ⟨g, 2, none⟩ = some (.int .i64 i.2.2.1)
 c3 : X.cell? ⟨g, 3, none⟩ = some (.int .i64 i.2.2.2.1)
 c4 : X.cell? ⟨g, 4, none⟩ = some (.string ⟨i.2.2.2.2.toArray⟩)
 lo : w.heap.size ≤ g
 b : Below w.heap.size w X
section
variable {w X Y : World} {g : Nat} {i : In13}
theorem Ib.lt (s : Ib w X g i) : g < X.heap.size := World.block_lt_of_cell? X ⟨g, 0, none⟩ s.c0
theorem Ib.keep (s : Ib w X g i) (hb : Y.heap[g]? = X.heap[g]?) (hB : Below w.heap.size w Y) : Ib w Y g i :=
 ⟨(World.cell?_of_block (a := ⟨g, 0, none⟩) hb).trans s.c0, (World.cell?_of_block (a := ⟨g, 1, none⟩) hb).trans s.c1, (World.cell?_of_block (a := ⟨g, 2, none⟩) hb).trans s.c2, (World.cell?_of_block (a := ⟨g, 3, none⟩) hb).trans s.c3, (World.cell?_of_block (a := ⟨g, 4, none⟩) hb).trans s.c4, s.lo, hB⟩
theorem Ib.below (s : Ib w X g i) (hb : Below X.heap.size X Y) : Ib w Y g i := s.keep (hb.block g s.lt) (s.b.trans (hb.mono s.b.size))
theorem Ib.drew (s : Ib w X g i) : Ib w X.drew g i := s.below ⟨rfl, rfl, rfl, Nat.le_refl _, fun _ _ => rfl⟩
theorem Ib.new (w : World) (k R A B : Int) (nm : List UInt8) : Ib w (w.alloc (.cells #[.int .i64 k, .int .i64 R, .int .i64 A, .int .i64 B, .string ⟨nm.toArray⟩] 88)) w.heap.size (k, R, A, B, nm) := by
 have hA := heap_alloc_new w (.cells #[.int .i64 k, .int .i64 R, .int .i64 A, .int .i64 B, .string ⟨nm.toArray⟩] 88)
 have hB : Below w.heap.size w (w.alloc (.cells #[.int .i64 k, .int .i64 R, .int .i64 A, .int .i64 B, .string ⟨nm.toArray⟩] 88)) := (Below.refl _ _).alloc (Nat.le_refl _) _
 generalize w.alloc (.cells #[.int .i64 k, .int .i64 R, .int .i64 A, .int .i64 B, .string ⟨nm.toArray⟩] 88) = W at hA hB ⊢
 exact ⟨by simp [World.cell?, hA], by simp [World.cell?, hA], by simp [World.cell?, hA], by simp [World.cell?, hA], by simp [World.cell?, hA], Nat.le_refl _, hB⟩
end
structure Sb (w X : World) (g s : Nat) (i : In13) (f1 f2 f3 : Nat) : Prop where
 i : Ib w X g i
 s0 : X.cell? ⟨s, 0, none⟩ = some (.func (.func f1) #[] #[])
 s1 : X.cell? ⟨s, 1, none⟩ = some (.func (.func f2) #[] #[])
 s2 : X.cell? ⟨s, 2, none⟩ = some (.func (.func f3) #[] #[])
theorem Sb.below {w X Y : World} {g s : Nat} {i : In13} {f1 f2 f3 : Nat} (h : Sb w X g s i f1 f2 f3) (hb : Below X.heap.size X Y) : Sb w Y g s i f1 f2 f3 := by
 have hl : s < X.heap.size := World.block_lt_of_cell? X ⟨s, 0, none⟩ h.s0
 exact ⟨h.i.below hb, (hb.cell (p := ⟨s, 0, none⟩) hl).trans h.s0, (hb.cell (p := ⟨s, 1, none⟩) hl).trans h.s1, (hb.cell (p := ⟨s, 2, none⟩) hl).trans h.s2⟩
theorem Sb.drew {w X : World} {g s : Nat} {i : In13} {f1 f2 f3 : Nat} (h : Sb w X g s i f1 f2 f3) : Sb w X.drew g s i f1 f2 f3 := h.below ⟨rfl, rfl, rfl, Nat.le_refl _, fun _ _ => rfl⟩
section
variable {op : Oper} {a : Act} {w : World} {Q : Exit → Act → World → Prop} {K : Act → World → Prop}
theorem size84 : (Tryz.prog.info? 198).map (·.size) = some 3 := by kernel_rfl
theorem zel (ho : op.op = .alloc 198) (d : Nat) (hd : op.dst = some d) (h : ∀ Y g, Rb Y g 0 [.nilFunc, .nilFunc, .nilFunc] → Below w.heap.size w Y → w.heap.size ≤ g → K (a.put (some d) (.pointer (some ⟨g, 0, none⟩))) Y) : op.wp Tryz.prog a w K Q := by
 unfold Oper.wp execOp
 simp only [ho, Instr.alloc, Sem.run_bind, Tryz.zeroValue198, Result.andThen_ok, newVar, newRow, run_newObj_alloc, Sem.run_pure, Value.cells]
 have h2 := h _ _ (Rb.new w #[.nilFunc, .nilFunc, .nilFunc] 198) ((Below.refl _ _).alloc (Nat.le_refl _) _) (Nat.le_refl _)
 rw [← hd] at h2
 exact h2
theorem zek (x y : Operand) (ho : op.op = .store 198 x y) (b f1 f2 f3 : Nat) (hx : a.eval x = .pointer (some ⟨b, 0, none⟩)) (hy : a.eval y = .agg #[.func (.func f1) #[] #[], .func (.func f2) #[] #[], .func (.func f3) #[] #[]]) (ht : Rb w b 0 [.nilFunc, .nilFunc, .nilFunc])
 (h : ∀ Y, Rb Y b 0 [.func (.func f1) #[] #[], .func (.func f2) #[] #[], .func (.func f3) #[] #[]] → w.grownBy Y (some b) → K (a.put op.dst undef) Y) : op.wp Tryz.prog a w K Q := by
 refine wp_store_mid _ x y ho b 0 #[.func (.func f1) #[] #[], .func (.func f2) #[] #[], .func (.func f3) #[] #[]] hx hy ht.ok size84 (all_oneCell_toArray (by intro v hv; simp only [List.mem_cons, List.not_mem_nil, or_false] at hv; rcases hv with rfl | rfl | rfl <;> rfl)) ?_
 exact h _ (Rb.store (vs := [.func (.func f1) #[] #[], .func (.func f2) #[] #[], .func (.func f3) #[] #[]]) ht.ok ht.lt) (zbs b _ 0 w)
end
set_option maxHeartbeats 8000000 in
set_option maxRecDepth 100000 in
theorem zdj (k R A B : Int) (nm : List UInt8) (f1 f2 f3 : Nat) (t : In13 → In13) (rs : In13 → List Int) (q : In13 → Int → Bool) (n : Int) (w : World) (hk : 1 ≤ k ∧ k ≤ 10)
 (hix : ∀ W, (Instr.index 199 (.agg tb) (.int .i64 k)).run Tryz.prog W = .ok (.agg #[.func (.func f1) #[] #[], .func (.func f2) #[] #[], .func (.func f3) #[] #[]]) W)
 (e1 : ∀ args w, (callFunc f1 args).run Tryz.prog w = .ok (.enter f1 args) w) (e2 : ∀ args w, (callFunc f2 args).run Tryz.prog w = .ok (.enter f2 args) w) (e3 : ∀ args w, (callFunc f3 args).run Tryz.prog w = .ok (.enter f3 args) w)
 (h1 : Tld f1 t) (h2 : Rgs f2 rs) (h3 : Rit f3 q) (hl : nm.length ≤ 1048576) (hr : (rs (k, R, A, B, nm)).length ≤ 1048576) :
 Calls Tryz.prog 154 #[zay (k, R, A, B, nm), .int .i64 n] w fun e w' => e = .returned (.bool (decide (t (k, R, A, B, nm) = (k, R, A, B, nm)) && regB (rs (k, R, A, B, nm)) && q (k, R, A, B, nm) n)) ∧ Below w.heap.size w w' := by
 have st : Hid (_) := Ib.new w k R A B nm
 obtain ⟨W0, hW0⟩ : ∃ W0, w.alloc (.cells #[.int .i64 k, .int .i64 R, .int .i64 A, .int .i64 B, .string ⟨nm.toArray⟩] 88) = W0 := ⟨_, rfl⟩
 rw [hW0] at st
 have H1 : Hid (∀ X, Calls Tryz.prog f1 #[.agg #[.int .i64 k, .int .i64 R, .int .i64 A, .int .i64 B, .string ⟨nm.toArray⟩]] X fun e w' => e = .returned (zay (t (k, R, A, B, nm))) ∧ Below X.heap.size X w') := fun X => h1 (k, R, A, B, nm) X
 have H2 : Hid (∀ X, Calls Tryz.prog f2 #[.agg #[.int .i64 k, .int .i64 R, .int .i64 A, .int .i64 B, .string ⟨nm.toArray⟩]] X fun e w' => ∃ a c, e = .returned (.slice a (rs (k, R, A, B, nm)).length c) ∧ AsIn w' a (rs (k, R, A, B, nm)) ∧ Below X.heap.size X w') := fun X => h2 (k, R, A, B, nm) X
 have H3 : Hid (∀ X, Calls Tryz.prog f3 #[.agg #[.int .i64 k, .int .i64 R, .int .i64 A, .int .i64 B, .string ⟨nm.toArray⟩], .int .i64 n] X fun e w' => e = .returned (.bool (q (k, R, A, B, nm) n)) ∧ Below X.heap.size X w') := fun X => h3 (k, R, A, B, nm) n X hl
 have hEq := ins_eq (t (k, R, A, B, nm)) (k, R, A, B, nm)
 have H4 : Hid (∀ X a c, AsIn X a (rs (k, R, A, B, nm)) → Calls Tryz.prog 164 #[.slice a (rs (k, R, A, B, nm)).length c] X fun e w' => e = .returned (.bool (regB (rs (k, R, A, B, nm)))) ∧ w' = X) := fun X a c h => zeJ a _ c _ X rfl h hr
 generalize decide (t (k, R, A, B, nm) = (k, R, A, B, nm)) = d1 at hEq ⊢
 generalize t (k, R, A, B, nm) = ti at H1 hEq
 generalize regB (rs (k, R, A, B, nm)) = d2 at H4 ⊢
 generalize q (k, R, A, B, nm) n = d3 at H3 ⊢
 generalize rs (k, R, A, B, nm) = rl at H2 H4 hr
 obtain ⟨tk, tR, tA, tB, tn⟩ := ti
 unfold zay at H1 hEq
 dsimp only at H1 hEq
 have HSt : Hid (∀ X, Calls Tryz.prog 163 #[] X fun e w' => e = .returned (.agg tb) ∧ Below X.heap.size X w') := fun X => zls X
 clear h1 h2 h3 hl t rs q
 obtain ⟨N, hN⟩ : ∃ N, w.heap.size = N := ⟨_, rfl⟩
 have HN : Hid (w.heap.size = N) := hN
 rw [hN] at st
 have hk1 := hk.1
 have hk2 := hk.2
 have c0 := st.out.c0
 dsimp only at c0
 unfold zay
 dsimp only
 clear hk
 generalize tb = TB at hix HSt
 go_enter Tryz.func154, Tryz.ntmps154
 go_wp2
 clear hN c0
 refine wp_region_held_drew (S := fun X => Ib w X N (k, R, A, B, nm)) (by kernel_rfl) st.out.drew (fun hHeld => ?_)
 refine tkO [(1, 15), (2, 16)] ?_
 repeat (refine tkY ?_ rfl (by rfl) ?_ ?_; rotate_left; (focus (intro wq hSw; have c0 := hSw.c0; dsimp only at c0; clear hSw; first | (go_simp; done) | (go_simp; with_reducible rfl))); simp only [zP])
 refine tkZ ?_
 refine wpAnyH_ready (rs := [0, 4]) (by kernel_rfl) (by simp) ?_
 refine AllReadyH.cons rfl (fun K hK => ?_) (AllReadyH.cons rfl (fun K hK => ?_) AllReadyH.nil)
 ·
  go_simp
  refine Calls.mono (HSt.out _) ?_
  rintro e W1 ⟨rfl, hb1⟩
  dsimp only
  refine hK.out _ _ (by exact hHeld.below hb1) (fun hHeld => ?_)
  clear hK K
  (try simp only [zP])
  have hlN := hHeld.lt
  refine tkO [(3, 17)] ?_
  repeat (refine tkY ?_ rfl (by rfl) ?_ ?_; rotate_left; (focus (intro wq hSw; clear hSw; first | (go_simp; done) | (go_simp; with_reducible rfl))); simp only [zP])
  refine tkZ ?_
  refine zR 4 rfl (fun K hK => ?_)
  refine zaf rfl (zel rfl 5 rfl (fun Y2 gs hR2 hB2 hG2 => ?_))
  have hgs : N < gs := Nat.lt_of_lt_of_le hlN hG2
  refine hK.out _ _ (by exact hHeld.below hB2) (fun hHeld => ?_)
  clear hK K
  (try simp only [zP])
  refine zR 5 rfl (fun K hK => ?_)
  refine zaf rfl (zek _ _ rfl gs f1 f2 f3 rfl rfl hR2 (fun Y3 hR3 hG3 => ?_))
  refine hK.out _ _ (by exact hHeld.keep (hG3.block N hHeld.lt (by simp; omega)) (hHeld.b.grown hG3 hHeld.b.size (fun q e => by injection e with e; have := HN.out; omega))) (fun hHeld => ?_)
  clear hK K
  (try simp only [Act.put])
  have sb : Hid (Sb w Y3 N gs (k, R, A, B, nm) f1 f2 f3) := ⟨hHeld, hR3.cell 0 _ rfl, hR3.cell 1 _ rfl, hR3.cell 2 _ rfl⟩
  refine wpAnyH_done (by kernel_rfl) ?_ _
  clear hHeld hR2 hR3 hG3 hgs hb1 hB2 hG2 hlN
  go_wp2
  refine wp_region_held_drew (S := fun X => Sb w X N gs (k, R, A, B, nm) f1 f2 f3) (by kernel_rfl) sb.out.drew (fun hHeld => ?_)
  refine tkO [(0, 18), (1, 19), (2, 20), (4, 22)] ?_
  repeat (refine tkY ?_ rfl (by rfl) ?_ ?_; rotate_left; (focus (intro wq hSw; have s0 := hSw.s0; have s1 := hSw.s1; have s2 := hSw.s2; have c0 := hSw.i.c0; have c1 := hSw.i.c1; have c2 := hSw.i.c2; have c3 := hSw.i.c3; have c4 := hSw.i.c4; dsimp only at c0 c1 c2 c3 c4; clear hSw; first | (go_simp; done) | (go_simp; with_reducible rfl))); simp only [zP])
  refine tkZ ?_
  refine zR 3 rfl (fun K hK => ?_)
  go_simp
  refine Calls.mono (H1.out _) ?_
  rintro e W4 ⟨rfl, hb4⟩
  dsimp only
  refine hK.out _ _ (by exact hHeld.below hb4) (fun hHeld => ?_)
  clear hK K
  (try simp only [zP])
  refine tkO [(5, 23), (6, 24)] ?_
  repeat (refine tkY ?_ rfl (by rfl) ?_ ?_; rotate_left; (focus (intro wq hSw; clear hSw; first | (go_simp; done) | (go_simp; with_reducible rfl))); simp only [zP])
  refine tkZ ?_
  cases d1
  ·
   refine tkO [(7, 25), (8, 26), (9, 27), (10, 28), (11, 29), (12, 30), (13, 31), (14, 32), (15, 33), (16, 34), (17, 35), (18, 36), (19, 37), (20, 4)] ?_
   repeat ((first | (refine tkY ?_ rfl (by rfl) ?_ ?_; rotate_left; (focus (intro wq hSw; clear hSw; first | (go_simp; done) | (go_simp; with_reducible rfl)))) | refine tkN rfl (by rfl) ?_); simp only [zP])
   refine tkZ ?_
   have HBF : Hid (Below w.heap.size w _) := hHeld.i.b
   refine wpAnyH_done (by kernel_rfl) ?_ _
   clear hHeld sb st H1 H2 H3 H4 HSt hEq hix
   go_wp2
   go_ret
   exact ⟨rfl, HBF.out⟩
  ·
   refine tkO [(7, 25), (8, 26), (9, 27)] ?_
   repeat (refine tkY ?_ rfl (by rfl) ?_ ?_; rotate_left; (focus (intro wq hSw; have s0 := hSw.s0; have s1 := hSw.s1; have s2 := hSw.s2; have c0 := hSw.i.c0; have c1 := hSw.i.c1; have c2 := hSw.i.c2; have c3 := hSw.i.c3; have c4 := hSw.i.c4; dsimp only at c0 c1 c2 c3 c4; clear hSw; first | (go_simp; done) | (go_simp; with_reducible rfl))); simp only [zP])
   refine tkZ ?_
   refine zR 10 rfl (fun K hK => ?_)
   go_simp
   refine Calls.mono (H2.out _) ?_
   rintro e W5 ⟨ra, rc, rfl, hA5, hb5⟩
   dsimp only
   refine hK.out _ _ (by exact hHeld.below hb5) (fun hHeld => ?_)
   clear hK K
   (try simp only [zP])
   refine zR 11 rfl (fun K hK => ?_)
   go_simp
   refine Calls.mono (H4.out _ _ _ hA5) ?_
   rintro e W6 ⟨rfl, rfl⟩
   dsimp only
   refine hK.out _ _ (by exact hHeld) (fun hHeld => ?_)
   clear hK K
   (try simp only [zP])
   refine tkO [(12, 30), (13, 31)] ?_
   repeat (refine tkY ?_ rfl (by rfl) ?_ ?_; rotate_left; (focus (intro wq hSw; clear hSw; first | (go_simp; done) | (go_simp; with_reducible rfl))); simp only [zP])
   refine tkZ ?_
   cases d2
   ·
    refine tkO [(14, 32), (15, 33), (16, 34), (17, 35), (18, 36), (19, 37), (20, 4)] ?_
    repeat ((first | (refine tkY ?_ rfl (by rfl) ?_ ?_; rotate_left; (focus (intro wq hSw; clear hSw; first | (go_simp; done) | (go_simp; with_reducible rfl)))) | refine tkN rfl (by rfl) ?_); simp only [zP])
    refine tkZ ?_
    have HBF : Hid (Below w.heap.size w _) := hHeld.i.b
    refine wpAnyH_done (by kernel_rfl) ?_ _
    clear hHeld sb st H1 H2 H3 H4 HSt hEq hix
    go_wp2
    go_ret
    exact ⟨rfl, HBF.out⟩
   ·
    refine tkO [(14, 32), (15, 33), (16, 34), (17, 35)] ?_
    repeat (refine tkY ?_ rfl (by rfl) ?_ ?_; rotate_left; (focus (intro wq hSw; have s0 := hSw.s0; have s1 := hSw.s1; have s2 := hSw.s2; have c0 := hSw.i.c0; have c1 := hSw.i.c1; have c2 := hSw.i.c2; have c3 := hSw.i.c3; have c4 := hSw.i.c4; dsimp only at c0 c1 c2 c3 c4; clear hSw; first | (go_simp; done) | (go_simp; with_reducible rfl))); simp only [zP])
    refine tkZ ?_
    refine zR 18 rfl (fun K hK => ?_)
    go_simp
    refine Calls.mono (H3.out _) ?_
    rintro e W7 ⟨rfl, hb7⟩
    dsimp only
    refine hK.out _ _ (by exact hHeld.below hb7) (fun hHeld => ?_)
    clear hK K
    (try simp only [zP])
    refine tkO [(19, 37), (20, 4)] ?_
    repeat (refine tkY ?_ rfl (by rfl) ?_ ?_; rotate_left; (focus (intro wq hSw; clear hSw; first | (go_simp; done) | (go_simp; with_reducible rfl))); simp only [zP])
    refine tkZ ?_
    have HBF : Hid (Below w.heap.size w _) := hHeld.i.b
    refine wpAnyH_done (by kernel_rfl) ?_ _
    clear hHeld sb st H1 H2 H3 H4 HSt hEq hix
    go_wp2
    go_ret
    exact ⟨rfl, HBF.out⟩
 ·
  have hlN := hHeld.lt
  refine zaf rfl (zel rfl 5 rfl (fun Y2 gs hR2 hB2 hG2 => ?_))
  have hgs : N < gs := Nat.lt_of_lt_of_le hlN hG2
  refine hK.out _ _ (by exact hHeld.below hB2) (fun hHeld => ?_)
  clear hK K
  (try simp only [zP])
  refine zR 0 rfl (fun K hK => ?_)
  go_simp
  refine Calls.mono (HSt.out _) ?_
  rintro e W1 ⟨rfl, hb1⟩
  dsimp only
  replace hR2 := hR2.below hb1
  refine hK.out _ _ (by exact hHeld.below hb1) (fun hHeld => ?_)
  clear hK K
  (try simp only [zP])
  refine tkO [(3, 17)] ?_
  repeat (refine tkY ?_ rfl (by rfl) ?_ ?_; rotate_left; (focus (intro wq hSw; clear hSw; first | (go_simp; done) | (go_simp; with_reducible rfl))); simp only [zP])
  refine tkZ ?_
  refine zR 5 rfl (fun K hK => ?_)
  refine zaf rfl (zek _ _ rfl gs f1 f2 f3 rfl rfl hR2 (fun Y3 hR3 hG3 => ?_))
  refine hK.out _ _ (by exact hHeld.keep (hG3.block N hHeld.lt (by simp; omega)) (hHeld.b.grown hG3 hHeld.b.size (fun q e => by injection e with e; have := HN.out; omega))) (fun hHeld => ?_)
  clear hK K
  (try simp only [Act.put])
  have sb : Hid (Sb w Y3 N gs (k, R, A, B, nm) f1 f2 f3) := ⟨hHeld, hR3.cell 0 _ rfl, hR3.cell 1 _ rfl, hR3.cell 2 _ rfl⟩
  refine wpAnyH_done (by kernel_rfl) ?_ _
  clear hHeld hR2 hR3 hG3 hgs hb1 hB2 hG2 hlN
  go_wp2
  refine wp_region_held_drew (S := fun X => Sb w X N gs (k, R, A, B, nm) f1 f2 f3) (by kernel_rfl) sb.out.drew (fun hHeld => ?_)
  refine tkO [(0, 18), (1, 19), (2, 20), (4, 22)] ?_
  repeat (refine tkY ?_ rfl (by rfl) ?_ ?_; rotate_left; (focus (intro wq hSw; have s0 := hSw.s0; have s1 := hSw.s1; have s2 := hSw.s2; have c0 := hSw.i.c0; have c1 := hSw.i.c1; have c2 := hSw.i.c2; have c3 := hSw.i.c3; have c4 := hSw.i.c4; dsimp only at c0 c1 c2 c3 c4; clear hSw; first | (go_simp; done) | (go_simp; with_reducible rfl))); simp only [zP])
  refine tkZ ?_
  refine zR 3 rfl (fun K hK => ?_)
  go_simp
  refine Calls.mono (H1.out _) ?_
  rintro e W4 ⟨rfl, hb4⟩
  dsimp only
  refine hK.out _ _ (by exact hHeld.below hb4) (fun hHeld => ?_)
  clear hK K
  (try simp only [zP])
  refine tkO [(5, 23), (6, 24)] ?_
  repeat (refine tkY ?_ rfl (by rfl) ?_ ?_; rotate_left; (focus (intro wq hSw; clear hSw; first | (go_simp; done) | (go_simp; with_reducible rfl))); simp only [zP])
  refine tkZ ?_
  cases d1
  ·
   refine tkO [(7, 25), (8, 26), (9, 27), (10, 28), (11, 29), (12, 30), (13, 31), (14, 32), (15, 33), (16, 34), (17, 35), (18, 36), (19, 37), (20, 4)] ?_
   repeat ((first | (refine tkY ?_ rfl (by rfl) ?_ ?_; rotate_left; (focus (intro wq hSw; clear hSw; first | (go_simp; done) | (go_simp; with_reducible rfl)))) | refine tkN rfl (by rfl) ?_); simp only [zP])
   refine tkZ ?_
   have HBF : Hid (Below w.heap.size w _) := hHeld.i.b
   refine wpAnyH_done (by kernel_rfl) ?_ _
   clear hHeld sb st H1 H2 H3 H4 HSt hEq hix
   go_wp2
   go_ret
   exact ⟨rfl, HBF.out⟩
  ·
   refine tkO [(7, 25), (8, 26), (9, 27)] ?_
   repeat (refine tkY ?_ rfl (by rfl) ?_ ?_; rotate_left; (focus (intro wq hSw; have s0 := hSw.s0; have s1 := hSw.s1; have s2 := hSw.s2; have c0 := hSw.i.c0; have c1 := hSw.i.c1; have c2 := hSw.i.c2; have c3 := hSw.i.c3; have c4 := hSw.i.c4; dsimp only at c0 c1 c2 c3 c4; clear hSw; first | (go_simp; done) | (go_simp; with_reducible rfl))); simp only [zP])
   refine tkZ ?_
   refine zR 10 rfl (fun K hK => ?_)
   go_simp
   refine Calls.mono (H2.out _) ?_
   rintro e W5 ⟨ra, rc, rfl, hA5, hb5⟩
   dsimp only
   refine hK.out _ _ (by exact hHeld.below hb5) (fun hHeld => ?_)
   clear hK K
   (try simp only [zP])
   refine zR 11 rfl (fun K hK => ?_)
   go_simp
   refine Calls.mono (H4.out _ _ _ hA5) ?_
   rintro e W6 ⟨rfl, rfl⟩
   dsimp only
   refine hK.out _ _ (by exact hHeld) (fun hHeld => ?_)
   clear hK K
   (try simp only [zP])
   refine tkO [(12, 30), (13, 31)] ?_
   repeat (refine tkY ?_ rfl (by rfl) ?_ ?_; rotate_left; (focus (intro wq hSw; clear hSw; first | (go_simp; done) | (go_simp; with_reducible rfl))); simp only [zP])
   refine tkZ ?_
   cases d2
   ·
    refine tkO [(14, 32), (15, 33), (16, 34), (17, 35), (18, 36), (19, 37), (20, 4)] ?_
    repeat ((first | (refine tkY ?_ rfl (by rfl) ?_ ?_; rotate_left; (focus (intro wq hSw; clear hSw; first | (go_simp; done) | (go_simp; with_reducible rfl)))) | refine tkN rfl (by rfl) ?_); simp only [zP])
    refine tkZ ?_
    have HBF : Hid (Below w.heap.size w _) := hHeld.i.b
    refine wpAnyH_done (by kernel_rfl) ?_ _
    clear hHeld sb st H1 H2 H3 H4 HSt hEq hix
    go_wp2
    go_ret
    exact ⟨rfl, HBF.out⟩
   ·
    refine tkO [(14, 32), (15, 33), (16, 34), (17, 35)] ?_
    repeat (refine tkY ?_ rfl (by rfl) ?_ ?_; rotate_left; (focus (intro wq hSw; have s0 := hSw.s0; have s1 := hSw.s1; have s2 := hSw.s2; have c0 := hSw.i.c0; have c1 := hSw.i.c1; have c2 := hSw.i.c2; have c3 := hSw.i.c3; have c4 := hSw.i.c4; dsimp only at c0 c1 c2 c3 c4; clear hSw; first | (go_simp; done) | (go_simp; with_reducible rfl))); simp only [zP])
    refine tkZ ?_
    refine zR 18 rfl (fun K hK => ?_)
    go_simp
    refine Calls.mono (H3.out _) ?_
    rintro e W7 ⟨rfl, hb7⟩
    dsimp only
    refine hK.out _ _ (by exact hHeld.below hb7) (fun hHeld => ?_)
    clear hK K
    (try simp only [zP])
    refine tkO [(19, 37), (20, 4)] ?_
    repeat (refine tkY ?_ rfl (by rfl) ?_ ?_; rotate_left; (focus (intro wq hSw; clear hSw; first | (go_simp; done) | (go_simp; with_reducible rfl))); simp only [zP])
    refine tkZ ?_
    have HBF : Hid (Below w.heap.size w _) := hHeld.i.b
    refine wpAnyH_done (by kernel_rfl) ?_ _
    clear hHeld sb st H1 H2 H3 H4 HSt hEq hix
    go_wp2
    go_ret
    exact ⟨rfl, HBF.out⟩
end Go.Proofs.YtkpdoedpkncboaaGreat
