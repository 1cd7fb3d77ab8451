/-
  Parts of one proof, one behind the other: NodeM, FnMS, FnMP, ProjT, ProjM, NodeIn, PackIn, ProjK, MeanS, MeanS2, Draw3, DrawW, DrawT, DrawX, DrawN, DrawTr, FoldS2.
-/
import Derived.Test.YtkpdoedpkncboaaGreatP5
import Derived.Test.YtkpdoedpkncboaaGreatP4
import Derived.Deep.RegionWith
import Derived.Test.YtkpdoedpkncboaaGreatRows
import Derived.WalkKit
import Derived.ProofKit
import Derived.OpenShut
import Derived.ShutString
import Derived.ChangeOld
import Derived.Below
import Derived.Lib.SmallJoins
import Derived.Deep.SlicePairs
import Derived.SliceStrings
import Derived.Test.YtkpdoedpkncboaaGreatP2
import Derived.Test.YtkpdoedpkncboaaGreatP3
import Derived.Test.YtkpdoedpkncboaaGreatP1
import Derived.Deep.RegionHeld3
import Derived.Deep.Cut
import Derived.BigQuiet
import Derived.Maps.AppendAt
namespace Go.Proofs.YtkpdoedpkncboaaGreat
open Go.RowKit
def zbZ (k : Nat) : Nat → List Nd
 | 0 => []
 | m + 1 => zbZ k m ++ [(((k + 4 * m : Nat) : Int), ((k + 4 * m + 1 : Nat) : Int), zaZ (k + 4 * m + 1 + 1), zaZ (k + 4 * m + 1 + 1 + 1))]
theorem zd7 (k m : Nat) : (zbZ k m).length = m := by
 induction m with
 | zero => rfl
 | succ m ih => simp [zbZ, ih]
theorem zjl (k i : Nat) (ns : List Nd) (h : i < ns.length) : (zbZ k i ++ ns.drop i).set i (((k + 4 * i : Nat) : Int), ((k + 4 * i + 1 : Nat) : Int), zaZ (k + 4 * i + 1 + 1), zaZ (k + 4 * i + 1 + 1 + 1)) = zbZ k (i + 1) ++ ns.drop (i + 1) := by
 rw [List.set_append_right _ _ (by rw [zd7]; omega), zd7, Nat.sub_self, List.drop_eq_getElem_cons h, zB]
 conv => rhs; unfold zbZ
 rw [List.append_assoc]; rfl
set_option maxHeartbeats 2000000 in
set_option maxRecDepth 100000 in
theorem zjp (w : World) (base g cp n k0 : Nat) (ns : List Nd) (hn : n ≤ 1100000) (hk0 : 0 < k0) (hk1 : k0 ≤ 30000000)
 (h : w.ownsRow base 90 4 (.slice (some ⟨g, 0, none⟩) n cp) n (za0 ns)) :
 Calls Tryz.prog 57 #[.slice (some ⟨g, 0, none⟩) n cp, .int .i64 k0] w fun e w' => e = .returned (.int .i64 ((k0 + 4 * n : Nat) : Int)) ∧ w'.ownsRow base 90 4 (.slice (some ⟨g, 0, none⟩) n cp) n (za0 (zbZ k0 n)) ∧ w.grownBy w' (some g) := by
 have hbl := (zaq h).1
 go_enter Tryz.func57, Tryz.ntmps57
 go_wp2
 go_loopw [1, 5] (fun k i wr => ∃ m : Nat, m ≤ n ∧ i = .int .i64 m ∧ k = .int .i64 ((k0 + 4 * m : Nat) : Int) ∧ wr.ownsRow base 90 4 (.slice (some ⟨g, 0, none⟩) n cp) n (za0 (zbZ k0 m ++ ns.drop m)) ∧ w.grownBy wr (some g)) (fun _ i _ => n - (intOf i).toNat)
 case atStart => exact ⟨0, Nat.zero_le _, rfl, rfl, h, World.grownBy.refl _ _⟩
 case round =>
  obtain ⟨m, hm, rfl, rfl, hown, hg⟩ := hrel
  by_cases hlt : (m : Int) < (n : Int)
  ·
   have hl2 : (zbZ k0 m ++ ns.drop m).length = n := (zaq hown).1
   have hset := zjl k0 m ns (by omega)
   obtain ⟨q, hq⟩ : ∃ q, k0 + 4 * m = q := ⟨_, rfl⟩
   have hq3 : q ≤ 34500000 := by omega
   have HQ2 : Hid (k0 + 4 * (m + 1) = q + 1 + 1 + 1 + 1) := by exact (by omega : k0 + 4 * (m + 1) = q + 1 + 1 + 1 + 1)
   rw [hq] at hset ⊢
   clear hq
   obtain ⟨v0, v1, v2, v3⟩ := zcv (zbZ k0 m ++ ns.drop m) m (by omega)
   obtain ⟨xs, hxs⟩ : ∃ xs, za0 (zbZ k0 m ++ ns.drop m) = xs := ⟨_, rfl⟩
   have hset2 := zfN (zbZ k0 m ++ ns.drop m) m (q : Int) ((q + 1 : Nat) : Int) (zaZ (q + 1 + 1)) (zaZ (q + 1 + 1 + 1))
   rw [hset, hxs] at hset2
   rw [hxs] at hown v0 v1 v2 v3
   have HSET : Hid ((((xs.set (m * 4) (.int .i64 (q : Int))).set (m * 4 + 1) (.int .i64 ((q + 1 : Nat) : Int))).set (m * 4 + 2) (.string ⟨(zaZ (q + 1 + 1)).toArray⟩)).set (m * 4 + 3) (.string ⟨(zaZ (q + 1 + 1 + 1)).toArray⟩) = za0 (zbZ k0 (m + 1) ++ ns.drop (m + 1))) := hset2
   clear hset hset2 hxs
   obtain ⟨u0, d0⟩ : ∃ u, wr.cell? ⟨g, m * 4, none⟩ = some u := by rw [hown.cellAt (m * 4) (by omega), v0]; exact ⟨_, rfl⟩
   obtain ⟨u1, d1⟩ : ∃ u, wr.cell? ⟨g, m * 4 + 1, none⟩ = some u := by rw [hown.cellAt (m * 4 + 1) (by omega), v1]; exact ⟨_, rfl⟩
   have e0 := hown.frozenAt (m * 4)
   have e1 := hown.frozenAt (m * 4 + 1)
   have hs1 := hown.stored (m * 4) (.int .i64 (q : Int))
   have hs2 := hs1.1.stored (m * 4 + 1) (.int .i64 ((q + 1 : Nat) : Int))
   obtain ⟨W1, hW1⟩ : ∃ W1, (wr.setCell ⟨g, m * 4, none⟩ (.int .i64 (q : Int))).setCell ⟨g, m * 4 + 1, none⟩ (.int .i64 ((q + 1 : Nat) : Int)) = W1 := ⟨_, rfl⟩
   rw [hW1] at hs2
   have HS1 : Hid (W1.ownsRow base 90 4 (.slice (some ⟨g, 0, none⟩) n cp) n ((xs.set (m * 4) (.int .i64 (q : Int))).set (m * 4 + 1) (.int .i64 ((q + 1 : Nat) : Int)))) := hs2.1
   have HG1 : Hid (w.grownBy W1 (some g)) := (hg.trans hs1.2).trans hs2.2
   clear hs1 hs2
   go_wp2_with fail
   refine (zbJ (q + 1 + 1) _ (by omega) (by omega)).mono ?_
   rintro e w2 ⟨rfl, hg2⟩
   first | (have hg2' : W1.grownBy w2 none := hg2) | (have hg2' : W1.grownBy w2 none := by rw [← hW1]; exact hg2)
   have hown2 := zaN HS1.out hg2'
   obtain ⟨u2, d2⟩ : ∃ u, w2.cell? ⟨g, m * 4 + 2, none⟩ = some u := by
    rw [hown2.cellAt (m * 4 + 2) (by omega), List.getElem?_set_ne (by omega), List.getElem?_set_ne (by omega), v2]; exact ⟨_, rfl⟩
   have e2 := hown2.frozenAt (m * 4 + 2)
   have hs3 := hown2.stored (m * 4 + 2) (.string ⟨(zaZ (q + 1 + 1)).toArray⟩)
   have HS3 : Hid ((w2.setCell ⟨g, m * 4 + 2, none⟩ (.string ⟨(zaZ (q + 1 + 1)).toArray⟩)).ownsRow base 90 4 (.slice (some ⟨g, 0, none⟩) n cp) n (((xs.set (m * 4) (.int .i64 (q : Int))).set (m * 4 + 1) (.int .i64 ((q + 1 : Nat) : Int))).set (m * 4 + 2) (.string ⟨(zaZ (q + 1 + 1)).toArray⟩))) := hs3.1
   have HG3 : Hid (w.grownBy (w2.setCell ⟨g, m * 4 + 2, none⟩ (.string ⟨(zaZ (q + 1 + 1)).toArray⟩)) (some g)) := (HG1.out.andThen hg2' (by simp)).trans hs3.2
   clear hs3 hown2 hg2 hg2' hown hg HS1 HG1 d0 d1 e0 e1 v0 v1 v2
   go_wp2_with fail
   refine (zbJ (q + 1 + 1 + 1) _ (by omega) (by omega)).mono ?_
   rintro e w4 ⟨rfl, hg4⟩
   have hown4 := zaN HS3.out hg4
   obtain ⟨u3, d3⟩ : ∃ u, w4.cell? ⟨g, m * 4 + 3, none⟩ = some u := by
    rw [hown4.cellAt (m * 4 + 3) (by omega), List.getElem?_set_ne (by omega), List.getElem?_set_ne (by omega), List.getElem?_set_ne (by omega), v3]; exact ⟨_, rfl⟩
   have e3 := hown4.frozenAt (m * 4 + 3)
   have hs5 := hown4.stored (m * 4 + 3) (.string ⟨(zaZ (q + 1 + 1 + 1)).toArray⟩)
   rw [HSET.out] at hs5
   have hg5 := (HG3.out.andThen hg4 (by simp)).trans hs5.2
   have hs6 := hs5.1
   clear hown4 hs5 hg4 HS3 HG3 HSET v3 d2 e2
   go_wp2
   go_roundw
   case rel => exact ⟨m + 1, by omega, by go_num, by rw [HQ2.out]; go_num, hs6, hg5⟩
   case measure => simp [intOf]; omega
  ·
   obtain rfl : m = n := by omega
   have hd : ns.drop m = [] := List.drop_eq_nil_of_le (by omega)
   rw [hd, List.append_nil] at hown
   clear hd
   go_wp2
   go_ret
   exact ⟨rfl, hown, hg⟩
set_option maxHeartbeats 1000000 in
set_option maxRecDepth 100000 in
theorem zgY (w : World) (k0 : Nat) :
 Calls Tryz.prog 57 #[.slice none 0 0, .int .i64 k0] w fun e w' => e = .returned (.int .i64 (k0 : Int)) ∧ w' = w := by
 go_enter Tryz.func57, Tryz.ntmps57
 go_wp2
 refine wp_loop_rounds 1 ?_
 rw [rounds_succ]
 go_wp2
 go_ret
 exact ⟨rfl, rfl⟩
theorem zjo (w : World) (base n k0 : Nat) (v : Value) (ns : List Nd) (hn : n ≤ 1100000) (hk0 : 0 < k0) (hk1 : k0 ≤ 30000000) (h : w.ownsRow base 90 4 v n (za0 ns)) :
 Calls Tryz.prog 57 #[v, .int .i64 k0] w fun e w' => e = .returned (.int .i64 ((k0 + 4 * n : Nat) : Int)) ∧ w'.ownsRow base 90 4 v n (za0 (zbZ k0 n)) ∧ w.grownBy w' v.ownBlock := by
 rcases zar h with ⟨rfl, rfl, _⟩ | ⟨g, cp, rfl⟩
 ·
  refine (zgY w k0).mono ?_
  rintro e w' ⟨rfl, rfl⟩
  exact ⟨rfl, World.ownsRow_nil _ _ _ _, World.grownBy.refl _ _⟩
 ·
  exact zjp w base g cp n k0 ns hn hk0 hk1 h
def fmk (k : Nat) (x : FV) : FV := ((zaZ k, ((k + 1 : Nat) : Int), zbZ (k + 2) x.1.2.2.length), x.2)
def zdg (k : Nat) : List FV → List FV
 | [] => []
 | x :: r => fmk k x :: zdg (k + 2 + 4 * x.1.2.2.length) r
def fend (k : Nat) : List FV → Nat
 | [] => k
 | x :: r => fend (k + 2 + 4 * x.1.2.2.length) r
theorem fmk_T (k : Nat) (x : FV) : fvT (fmk k x) = fvT x := by unfold fvT fmk; rw [zd7]
theorem zeU (k : Nat) (xs : List FV) : (zdg k xs).length = xs.length := by
 induction xs generalizing k with
 | nil => rfl
 | cons x r ih => simp [zdg, ih]
theorem zjI (k : Nat) (xs : List FV) (x : FV) : zdg k (xs ++ [x]) = zdg k xs ++ [fmk (fend k xs) x] ∧ fend k (xs ++ [x]) = fend k xs + 2 + 4 * x.1.2.2.length := by
 induction xs generalizing k with
 | nil => exact ⟨rfl, rfl⟩
 | cons y r ih =>
  have := ih (k + 2 + 4 * y.1.2.2.length)
  exact ⟨by rw [List.cons_append, zdg, this.1]; rfl, by rw [List.cons_append, fend, this.2]; rfl⟩
theorem zlU (k : Nat) (xs : List FV) : k ≤ fend k xs := by
 induction xs generalizing k with
 | nil => exact Nat.le_refl _
 | cons x r ih => have := ih (k + 2 + 4 * x.1.2.2.length); unfold fend; omega
theorem fend_app (k : Nat) (xs ys : List FV) : fend k (xs ++ ys) = fend (fend k xs) ys := by
 induction xs generalizing k with
 | nil => rfl
 | cons x r ih => rw [List.cons_append, fend, ih]; rfl
theorem zlT (k : Nat) (xs : List FV) (m : Nat) : fend k (xs.take m) ≤ fend k xs := by
 conv => rhs; rw [← List.take_append_drop m xs, fend_app]
 exact zlU _ _
def zcS (k : Nat) (xs : List FV) (m : Nat) : List FV := zdg k (xs.take m) ++ xs.drop m
theorem zlS (k : Nat) (xs : List FV) (m : Nat) : (zcS k xs m).length = xs.length := by
 unfold zcS; rw [List.length_append, zeU, ← List.length_append, List.take_append_drop]
theorem fhalf_at (k : Nat) (xs : List FV) (m : Nat) (hm : m < xs.length) : (zcS k xs m).getD m fv0 = xs[m] := by
 unfold zcS
 have hl : (zdg k (xs.take m)).length = m := by rw [zeU, List.length_take]; omega
 rw [List.getD_eq_getElem?_getD, List.getElem?_append_right (by omega), hl, Nat.sub_self, List.getElem?_drop, Nat.add_zero, List.getElem?_eq_getElem hm]
 rfl
theorem zjJ (k : Nat) (xs : List FV) (m : Nat) (hm : m < xs.length) : (zcS k xs m).set m (fmk (fend k (xs.take m)) xs[m]) = zcS k xs (m + 1) ∧ fend k (xs.take (m + 1)) = fend k (xs.take m) + 2 + 4 * xs[m].1.2.2.length := by
 have h1 := zjI k (xs.take m) xs[m]
 rw [← List.take_succ_eq_append_getElem hm] at h1
 refine ⟨?_, h1.2⟩
 have hl : (zdg k (xs.take m)).length = m := by rw [zeU, List.length_take]; omega
 unfold zcS
 rw [h1.1, List.set_append_right _ _ (by omega), hl, Nat.sub_self, List.drop_eq_getElem_cons hm, zB, List.append_assoc]
 rfl
theorem fhalf_T (k : Nat) (xs : List FV) (m : Nat) : (zcS k xs m).map fvT = xs.map fvT := by
 have key : ∀ (k : Nat) (l : List FV), (zdg k l).map fvT = l.map fvT := by
  intro k l
  induction l generalizing k with
  | nil => rfl
  | cons x r ih => rw [zdg, List.map_cons, List.map_cons, fmk_T, ih]
 unfold zcS
 rw [List.map_append, key, ← List.map_append, List.take_append_drop]
theorem set_same {α : Type} {l : List α} {i : Nat} {a : α} (h : l[i]? = some a) : l.set i a = l := by
 apply List.ext_getElem?
 intro j
 rw [List.getElem?_set]
 split
 ·
  rename_i e
  subst e
  split
  ·
   exact h.symm
  ·
   rename_i hl; rw [List.getElem?_eq_none (by omega)]
 ·
  rfl
def zcr (v : Value) (xs : List FV) (k : Nat) : Prop := v.ownBlock = some k ∨ ∃ x ∈ xs, (fvT x).ownBlock = some k
set_option maxHeartbeats 2000000 in
set_option maxRecDepth 100000 in
theorem zjr (w : World) (base g cp k0 : Nat) (xs : List FV) (hn : xs.length ≤ 1100000) (hk0 : 0 < k0) (hk1 : fend k0 xs ≤ 30000000) (hls : ∀ x ∈ xs, x.1.2.2.length ≤ 1100000) (hap : zc5 (xs.map fvT))
 (h : zas w base (.slice (some ⟨g, 0, none⟩) xs.length cp) xs) :
 Calls Tryz.prog 27 #[.slice (some ⟨g, 0, none⟩) xs.length cp, .int .i64 k0] w fun e w' => e = .returned (.int .i64 ((fend k0 xs : Nat) : Int)) ∧ zas w' base (.slice (some ⟨g, 0, none⟩) xs.length cp) (zdg k0 xs) ∧ zb4 w w' (zcr (.slice (some ⟨g, 0, none⟩) xs.length cp) xs) := by
 have HAP : Hid (zc5 (xs.map fvT)) := hap
 have HLS : Hid (∀ x ∈ xs, x.1.2.2.length ≤ 1100000) := hls
 have hst0 : zcS k0 xs 0 = xs := rfl
 have H0 : Hid (zas w base (.slice (some ⟨g, 0, none⟩) xs.length cp) (zcS k0 xs 0)) := h
 clear hap hls h hst0
 go_enter Tryz.func27, Tryz.ntmps27
 go_wp2
 go_loopw [1, 5] (fun k i wr => ∃ m : Nat, m ≤ xs.length ∧ i = .int .i64 m ∧ k = .int .i64 ((fend k0 (xs.take m) : Nat) : Int) ∧ Hid (zas wr base (.slice (some ⟨g, 0, none⟩) xs.length cp) (zcS k0 xs m)) ∧ Hid (zb4 w wr (zcr (.slice (some ⟨g, 0, none⟩) xs.length cp) xs))) (fun _ i _ => xs.length - (intOf i).toNat)
 case atStart => exact ⟨0, Nat.zero_le _, rfl, rfl, H0, zb4.refl _ _⟩
 case round =>
  obtain ⟨m, hm, rfl, rfl, HO, HW⟩ := hrel
  clear H0
  by_cases hlt : (m : Int) < (xs.length : Int)
  ·
   have hm2 : m < xs.length := by omega
   obtain ⟨hset, hend⟩ := zjJ k0 xs m hm2
   have hat := fhalf_at k0 xs m hm2
   have hfl := zlS k0 xs m
   have hT := fhalf_T k0 xs m
   have hend2 := zlT k0 xs (m + 1)
   have hxl := HLS.out xs[m] (List.getElem_mem hm2)
   obtain ⟨ys, hys⟩ : ∃ ys, zcS k0 xs m = ys := ⟨_, rfl⟩
   rw [hys] at hset hat hfl hT HO
   obtain ⟨x, hx⟩ : ∃ x, xs[m] = x := ⟨_, rfl⟩
   rw [hx] at hset hat hend hxl
   obtain ⟨q, hq⟩ : ∃ q, fend k0 (xs.take m) = q := ⟨_, rfl⟩
   have hq0 : 0 < q := by rw [← hq]; have := zlU k0 (xs.take m); omega
   rw [hq] at hset hend ⊢
   have hq3 : q + 2 + 4 * x.1.2.2.length ≤ 30000000 := by omega
   have HSET : Hid (ys.set m (fmk q x) = zcS k0 xs (m + 1)) := hset
   have HEND : Hid (fend k0 (xs.take (m + 1)) = q + 2 + 4 * x.1.2.2.length) := hend
   have HT : Hid (ys.map fvT = xs.map fvT) := hT
   have HX : Hid (∃ h : m < ys.length, ys[m] = x) := ⟨by omega, by rw [List.getD_eq_getElem?_getD, List.getElem?_eq_getElem (by omega)] at hat; exact hat⟩
   have HFL : Hid (ys.length = xs.length) := hfl
   have HXM : Hid (x ∈ xs) := by rw [← hx]; exact List.getElem_mem hm2
   obtain ⟨v0, v1, v2⟩ := zeT ys m (by omega)
   rw [hat] at v0 v1 v2
   have hrow := HO.out.row
   rw [hfl] at hrow
   clear hset hend hend2 hys hx hq hT hat hfl
   obtain ⟨zs, hzs⟩ : ∃ zs, fnsV ys = zs := ⟨_, rfl⟩
   have hzset := ziH ys m (fmk q x)
   rw [hzs] at hrow v0 v1 v2 hzset
   have HZ : Hid (((zs.set (m * 3) (.string ⟨(zaZ q).toArray⟩)).set (m * 3 + 1) (.int .i64 ((q : Int) + 1))).set (m * 3 + 2) (fvT x) = fnsV (ys.set m (fmk q x))) := by
    rw [← fmk_T q x, show (q : Int) + 1 = ((q + 1 : Nat) : Int) by omega]; exact hzset
   clear hzset
   have htree : wr.ownsRow base 90 4 (fvT x) x.1.2.2.length (za0 x.1.2.2) := by
    obtain ⟨hl, he⟩ := HX.out
    rw [← he]; exact HO.out.trees _ (List.getElem_mem hl)
   obtain ⟨hxl2, ta, tc, htv, _⟩ := zaq htree
   have HTV : Hid (fvT x = .slice ta x.1.2.2.length tc) := htv
   rw [htv] at v2
   clear hzs htv
   go_wp2_with fail
   refine (zbJ q _ (by omega) (by omega)).mono ?_
   rintro e w2 ⟨rfl, hg2⟩
   have hrow2 := zaN hrow hg2
   obtain ⟨u0, d0⟩ : ∃ u, w2.cell? ⟨g, m * 3, none⟩ = some u := by rw [hrow2.cellAt (m * 3) (by omega), v0]; exact ⟨_, rfl⟩
   obtain ⟨u1, d1⟩ : ∃ u, w2.cell? ⟨g, m * 3 + 1, none⟩ = some u := by rw [hrow2.cellAt (m * 3 + 1) (by omega), v1]; exact ⟨_, rfl⟩
   have d2 : w2.cell? ⟨g, m * 3 + 2, none⟩ = some (.slice ta x.1.2.2.length tc) := by rw [hrow2.cellAt (m * 3 + 2) (by omega), v2]
   have e0 := hrow2.frozenAt (m * 3)
   have e1 := hrow2.frozenAt (m * 3 + 1)
   have hs1 := hrow2.stored (m * 3) (.string ⟨(zaZ q).toArray⟩)
   have hs2 := hs1.1.stored (m * 3 + 1) (.int .i64 ((q : Int) + 1))
   have hW3 : zb4 w ((w2.setCell ⟨g, m * 3, none⟩ (.string ⟨(zaZ q).toArray⟩)).setCell ⟨g, m * 3 + 1, none⟩ (.int .i64 ((q : Int) + 1))) (zcr (.slice (some ⟨g, 0, none⟩) xs.length cp) xs) :=
    ((HW.out.trans (zb4.of_grown hg2 (fun _ e => by cases e))).trans (zb4.of_grown hs1.2 (fun _ e => Or.inl e))).trans (zb4.of_grown hs2.2 (fun _ e => Or.inl e))
   have htrees : ∀ z ∈ ys, ((w2.setCell ⟨g, m * 3, none⟩ (.string ⟨(zaZ q).toArray⟩)).setCell ⟨g, m * 3 + 1, none⟩ (.int .i64 ((q : Int) + 1))).ownsRow base 90 4 (fvT z) z.1.2.2.length (za0 z.1.2.2) := by
    intro z hz
    have t1 := zaN (HO.out.trees z hz) hg2
    have hd := zah t1 hrow2 (by decide)
    have t2 := t1.kept hs1.2 hd
    exact t2.kept hs2.2 hd
   have d2b : ((w2.setCell ⟨g, m * 3, none⟩ (.string ⟨(zaZ q).toArray⟩)).setCell ⟨g, m * 3 + 1, none⟩ (.int .i64 ((q : Int) + 1))).cell? ⟨g, m * 3 + 2, none⟩ = some (.slice ta x.1.2.2.length tc) := by
    rw [hs2.1.cellAt (m * 3 + 2) (by omega), List.getElem?_set_ne (by omega), List.getElem?_set_ne (by omega), v2]
   obtain ⟨W3, hW3e⟩ : ∃ W3, (w2.setCell ⟨g, m * 3, none⟩ (.string ⟨(zaZ q).toArray⟩)).setCell ⟨g, m * 3 + 1, none⟩ (.int .i64 ((q : Int) + 1)) = W3 := ⟨_, rfl⟩
   have hrow3 := hs2.1
   rw [hW3e] at hrow3 hW3 htrees d2b
   have HR3 : Hid (W3.ownsRow base 48 3 (.slice (some ⟨g, 0, none⟩) xs.length cp) xs.length ((zs.set (m * 3) (.string ⟨(zaZ q).toArray⟩)).set (m * 3 + 1) (.int .i64 ((q : Int) + 1)))) := hrow3
   have HW3 : Hid (zb4 w W3 (zcr (.slice (some ⟨g, 0, none⟩) xs.length cp) xs)) := hW3
   have HTR : Hid (∀ z ∈ ys, W3.ownsRow base 90 4 (fvT z) z.1.2.2.length (za0 z.1.2.2)) := htrees
   have htree3 : W3.ownsRow base 90 4 (.slice ta x.1.2.2.length tc) x.1.2.2.length (za0 x.1.2.2) := by
    obtain ⟨hl, he⟩ := HX.out
    have h3 := htrees _ (List.getElem_mem hl)
    rw [he, HTV.out] at h3
    exact h3
   have HM : Hid (_) := zjo W3 base x.1.2.2.length (q + 2) (.slice ta x.1.2.2.length tc) x.1.2.2 (by omega) (by omega) (by omega) htree3
   rw [show ((q + 2 : Nat) : Int) = (q : Int) + 1 + 1 by omega] at HM
   have HT3 : Hid (W3.ownsRow base 90 4 (.slice ta x.1.2.2.length tc) x.1.2.2.length (za0 x.1.2.2)) := htree3
   have HV2 : Hid (zs[m * 3 + 2]? = some (.slice ta x.1.2.2.length tc)) := v2
   clear hs1 hs2 hW3 htrees hrow3 hrow2 hrow hg2 htree htree3 HW v0 v1 v2
   go_wp2_with fail
   refine Calls.mono HM.out ?_
   rintro e w4 ⟨rfl, hown4, hg4⟩
   have HO4 : Hid (zas w4 base (.slice (some ⟨g, 0, none⟩) xs.length cp) (zcS k0 xs (m + 1))) := by
    have hrow4 := HR3.out.kept hg4 (zah HR3.out HT3.out (by decide))
    have hz3 : ((zs.set (m * 3) (.string ⟨(zaZ q).toArray⟩)).set (m * 3 + 1) (.int .i64 ((q : Int) + 1))) = fnsV (ys.set m (fmk q x)) := by
     rw [← HZ.out, HTV.out]
     exact (set_same (by rw [List.getElem?_set_ne (by omega), List.getElem?_set_ne (by omega)]; exact HV2.out)).symm
    rw [hz3] at hrow4
    rw [← HSET.out]
    refine ⟨by rw [List.length_set, HFL.out]; exact hrow4, fun z hz => ?_⟩
    obtain ⟨j, hj, rfl⟩ := List.mem_iff_getElem.1 hz
    rw [List.length_set] at hj
    rw [List.getElem_set]
    by_cases hjm : m = j
    ·
     subst hjm
     rw [if_pos rfl, fmk_T, HTV.out]
     show w4.ownsRow base _ 4 _ (zbZ (q + 2) x.1.2.2.length).length (za0 (zbZ (q + 2) x.1.2.2.length))
     rw [zd7]
     exact hown4
    ·
     rw [if_neg hjm]
     refine (HTR.out _ (List.getElem_mem hj)).kept hg4 ?_
     obtain ⟨hl, he⟩ := HX.out
     have hap : zc5 (ys.map fvT) := by rw [HT.out]; exact HAP.out
     have hne := hap.ne (i := j) (j := m) (by simpa using hj) (by simpa using hl) (fun e => hjm e.symm)
     rw [List.getElem_map, List.getElem_map, he, HTV.out] at hne
     exact hne
   have HW4 : Hid (zb4 w w4 (zcr (.slice (some ⟨g, 0, none⟩) xs.length cp) xs)) := HW3.out.trans (zb4.of_grown hg4 (fun k e => Or.inr ⟨x, HXM.out, by rw [HTV.out]; exact e⟩))
   clear hown4 hg4 HR3 HT3 HTR HW3 HM HZ HSET HT HX HV2 HTV HXM HFL d0 d1 d2 d2b e0 e1 HO
   go_wp2
   go_roundw
   case rel => exact ⟨m + 1, by omega, by go_num, by rw [HEND.out]; go_num, HO4, HW4⟩
   case measure => simp [intOf]; omega
  ·
   obtain rfl : m = xs.length := by omega
   have hO := HO.out
   have HK : Hid (fend k0 (xs.take xs.length) = fend k0 xs) := by exact (by rw [List.take_length] : fend k0 (xs.take xs.length) = fend k0 xs)
   have HH : Hid (zcS k0 xs xs.length = zdg k0 xs) := by exact (by unfold zcS; rw [List.take_length, List.drop_length, List.append_nil] : zcS k0 xs xs.length = zdg k0 xs)
   rw [HH.out] at hO
   go_wp2
   go_ret
   exact ⟨by rw [← HK.out]; rfl, hO, HW.out⟩
set_option maxHeartbeats 400000 in
set_option maxRecDepth 100000 in
theorem zgZ (w : World) (k0 : Nat) :
 Calls Tryz.prog 27 #[.slice none 0 0, .int .i64 k0] w fun e w' => e = .returned (.int .i64 (k0 : Int)) ∧ w' = w := by
 go_enter Tryz.func27, Tryz.ntmps27
 go_wp2
 refine wp_loop_rounds 1 ?_
 rw [rounds_succ]
 go_wp2
 go_ret
 exact ⟨rfl, rfl⟩
theorem zjq (w : World) (base k0 : Nat) (v : Value) (xs : List FV) (hn : xs.length ≤ 1100000) (hk0 : 0 < k0) (hk1 : fend k0 xs ≤ 30000000) (hls : ∀ x ∈ xs, x.1.2.2.length ≤ 1100000) (hap : zc5 (xs.map fvT)) (h : zas w base v xs) :
 Calls Tryz.prog 27 #[v, .int .i64 k0] w fun e w' => e = .returned (.int .i64 ((fend k0 xs : Nat) : Int)) ∧ zas w' base v (zdg k0 xs) ∧ zb4 w w' (zcr v xs) := by
 rcases zar h.row with ⟨rfl, h0, _⟩ | ⟨g, cp, rfl⟩
 ·
  obtain rfl : xs = [] := List.eq_nil_of_length_eq_zero h0
  refine (zgZ w k0).mono ?_
  rintro e w' ⟨rfl, rfl⟩
  exact ⟨rfl, zas.nil _ _, zb4.refl _ _⟩
 ·
  exact zjr w base g cp k0 xs hn hk0 hk1 hls hap h
theorem zas.alloc {w : World} {base : Nat} {v : Value} {xs : List FV} (h : zas w base v xs) (o : Obj) : zas (w.alloc o) base v xs := ⟨h.row.alloc o, fun x hx => (h.trees x hx).alloc o⟩
theorem zas.none {w w' : World} {base : Nat} {v : Value} {xs : List FV} (h : zas w base v xs) (hg : w.grownBy w' none) : zas w' base v xs := ⟨zaN h.row hg, fun x hx => zaN (h.trees x hx) hg⟩
theorem zas.texts {w w' : World} {base b2 n : Nat} {v vi : Value} {xs : List FV} {ys : List Value} (h : zas w base v xs) (hi : w.ownsRow b2 9 1 vi n ys) (hg : w.grownBy w' vi.ownBlock) : zas w' base v xs :=
 ⟨h.row.kept hg (zah h.row hi (by decide)), fun x hx => (h.trees x hx).kept hg (zah (h.trees x hx) hi (by decide))⟩
theorem zjU {w w' : World} {base b2 n : Nat} {v vi : Value} {xs : List FV} {ys : List Value} (h : zas w base v xs) (hi : w.ownsRow b2 9 1 vi n ys) (hw : zb4 w w' (zcr v xs)) : w'.ownsRow b2 9 1 vi n ys := by
 refine zbH hi hw (fun k hk hb => ?_)
 rcases hb with e | ⟨x, hx, e⟩
 ·
  rcases zah hi h.row (by decide) with e2 | e2
  ·
   rw [hk] at e2; cases e2
  ·
   exact e2 (by rw [hk, e])
 ·
  rcases zah hi (h.trees x hx) (by decide) with e2 | e2
  ·
   rw [hk] at e2; cases e2
  ·
   exact e2 (by rw [hk, e])
def zdE (vi vf : Value) (xs : List FV) (k : Nat) : Prop := vi.ownBlock = some k ∨ zcr vf xs k
set_option maxHeartbeats 1000000 in
set_option maxRecDepth 100000 in
theorem zgX (nm : List UInt8) (w : World) (base k0 n : Nat) (vi vf : Value) (ys : List Value) (xs : List FV) (hn : n ≤ 1100000) (hf : xs.length ≤ 1100000) (hk0 : 0 < k0) (hk1 : k0 ≤ 800000) (hk2 : fend (k0 + n) xs ≤ 30000000) (hls : ∀ x ∈ xs, x.1.2.2.length ≤ 1100000) (hap : zc5 (xs.map fvT))
 (hi : w.ownsRow base 9 1 vi n ys) (h : zas w base vf xs) :
 Calls Tryz.prog 10 #[.agg #[.string ⟨nm.toArray⟩, vi, vf], .int .i64 k0] w fun e w' => e = .returned (.int .i64 ((fend (k0 + n) xs : Nat) : Int)) ∧ w'.ownsRow base 9 1 vi n (zbI k0 n) ∧ zas w' base vf (zdg (k0 + n) xs) ∧ zb4 w w' (zdE vi vf xs) := by
 obtain ⟨ai, ci, rfl⟩ : ∃ a c, vi = .slice a n c := by
  rcases zar hi with ⟨rfl, rfl, _⟩ | ⟨g, cp, rfl⟩
  ·
   exact ⟨none, 0, rfl⟩
  ·
   exact ⟨_, cp, rfl⟩
 obtain ⟨af, cf, rfl, _, _⟩ := h.in
 obtain ⟨W0, hW0⟩ : ∃ W0, w.alloc (.cells #[.string ⟨nm.toArray⟩, .slice ai n ci, .slice af xs.length cf] 33) = W0 := ⟨_, rfl⟩
 have hb0 : Below w.heap.size w W0 := by rw [← hW0]; exact (Below.refl _ w).alloc (Nat.le_refl _) _
 have hA := heap_alloc_new w (.cells #[.string ⟨nm.toArray⟩, .slice ai n ci, .slice af xs.length cf] 33)
 rw [hW0] at hA
 obtain ⟨D, hD⟩ : ∃ D, w.heap.size = D := ⟨_, rfl⟩
 rw [hD] at hA
 have k0c : W0.cell? ⟨D, 1, none⟩ = some (.slice ai n ci) := by simp [World.cell?, hA]
 have k1c : W0.cell? ⟨D, 2, none⟩ = some (.slice af xs.length cf) := by simp [World.cell?, hA]
 have hDi : (Value.slice ai n ci).ownBlock ≠ some D := fun e => by have := (hi.lt D e).2; omega
 have hi0 := za2 hi hb0
 have hf0 := h.below hb0
 have HC : Hid (_) := ziB W0 base n k0 (.slice ai n ci) ys hn hk0 hk1 hi0
 have HI0 : Hid (W0.ownsRow base 9 1 (.slice ai n ci) n ys) := hi0
 have HF0 : Hid (zas W0 base (.slice af xs.length cf) xs) := hf0
 have HW0 : Hid (zb4 w W0 (zdE (.slice ai n ci) (.slice af xs.length cf) xs)) := zb4.of_below hb0
 clear hi h hi0 hf0 hb0 hA
 go_enter Tryz.func10, Tryz.ntmps10
 go_wp2_with fail
 refine Calls.mono HC.out ?_
 rintro e w1 ⟨rfl, hi1, hg1⟩
 have k1d := hg1.cell (a := ⟨D, 2, none⟩) k1c (fun e => hDi e.symm)
 have hf1 := HF0.out.texts HI0.out hg1
 have HM : Hid (_) := zjq w1 base (k0 + n) _ xs hf (by omega) hk2 hls hap hf1
 have HI1 : Hid (w1.ownsRow base 9 1 (.slice ai n ci) n (zbI k0 n)) := hi1
 have HF1 : Hid (zas w1 base (.slice af xs.length cf) xs) := hf1
 have HW1 : Hid (zb4 w w1 (zdE (.slice ai n ci) (.slice af xs.length cf) xs)) := HW0.out.trans (zb4.of_grown hg1 (fun _ e => Or.inl e))
 clear HC HI0 HF0 HW0 hi1 hg1 hf1 k0c k1c hls hap
 go_wp2_with fail
 refine Calls.mono HM.out ?_
 rintro e w2 ⟨rfl, hf2, hw2⟩
 have hi2 := zjU HF1.out HI1.out hw2
 have hW2 := HW1.out.trans (hw2.mono (fun _ e => Or.inr e))
 clear HM
 go_wp2
 go_ret
 exact ⟨rfl, hi2, hf2, hW2⟩
theorem fend_le (k : Nat) (xs : List FV) : fend k xs ≤ k + 2 * xs.length + 4 * zbl (xs.map (·.1)) := by
 induction xs generalizing k with
 | nil => exact Nat.le_add_right _ _
 | cons x r ih =>
  have h := ih (k + 2 + 4 * x.1.2.2.length)
  have e : zbl ((x :: r).map (·.1)) = fnSz x.1 + zbl (r.map (·.1)) := rfl
  have e2 : x.1.2.2.length ≤ fnSz x.1 := by unfold fnSz; omega
  rw [e]
  unfold fend
  rw [List.length_cons]
  omega
structure PV where
 nm : List UInt8
 ims : List (List UInt8)
 xs : List FV
 ia : Option Addr
 ic : Nat
 fa : Option Addr
 fc : Nat
 lo : Nat
 hi : Nat
def pv0 : PV := ⟨[], [], [], none, 0, none, 0, 0, 0⟩

section
open Go.ChangeShapes Go.WideShapes Go.ChangeAt Go.RowKit Go.Joins Go.Deep
theorem zm4 : Tryz.prog.cellsOf 121 = 4 := by kernel_rfl
end
section
open Go.ChangeShapes Go.WideShapes Go.ChangeAt Go.RowKit Go.Joins Go.Deep
section
variable {H : Type} {enc : TypeId × Value → H} {W : World} {base : Nat} {spare : Nat → Bool} {held : Bool} {fuel : Nat} {v : Value} {x : DataW H × List MemPlace}
set_option maxRecDepth 100000 in
theorem ziY (hf : DataW.trod enc Tryz.prog W base spare held fuel 61 [v] = some x) :
 ∃ a len cap ns, v = .slice a len cap ∧ (a = none → cap = 0) ∧ za4 W a len ns ∧ len ≤ maxLen ∧ zht ns ∧ IntT ns := by
 rcases open_slice Tryz.underlying61 hf with ⟨hcs, _⟩ | ⟨a, len, cap, q, n, D, Pl, hcs, _, hl, hm, hq, _, hx⟩
 ·
  simp at hcs
  subst hcs
  exact ⟨none, 0, 0, [], rfl, fun _ => rfl, ⟨rfl, fun j hj => by omega⟩, by decide, (fun j => by simp [nd0]), IntT.nil⟩
 ·
  simp at hcs
  subst hcs
  have hlq : len ≤ q := by rw [hq]; split <;> omega
  have each : ∀ i, i < len → ∃ x : Nd, W.cell? (a.add (i * 4)) = some (.int .i64 x.1) ∧ W.cell? (a.add (i * 4 + 1)) = some (.int .i64 x.2.1) ∧ W.cell? (a.add (i * 4 + 2)) = some (.string ⟨x.2.2.1.toArray⟩) ∧ W.cell? (a.add (i * 4 + 3)) = some (.string ⟨x.2.2.2.toArray⟩) ∧ x.2.2.1.length ≤ maxLen ∧ x.2.2.2.length ≤ maxLen ∧ IntN x := by
   intro i hi
   obtain ⟨cs', h1, h2⟩ := hx i (by omega)
   rw [zm4] at h1
   obtain ⟨_, hlen, hcell⟩ := World.cells?_some h1
   match cs', hlen with
   | [v0, v1, v2, v3], _ =>
    obtain ⟨y0, y1, y2, y3, k, _, _, t0, t1, t2, t3⟩ := trod_struct4 Tryz.underlying121 h2
    have k2 : Tryz.prog.cellsOf 2 = 1 := by kernel_rfl
    have k9 : Tryz.prog.cellsOf 9 = 1 := by kernel_rfl
    simp [k2, k9] at t0 t1 t2 t3
    obtain ⟨kd, e0, _, wk⟩ := DataW.trod_int Tryz.underlying2 t0
    obtain ⟨aa, e1, _, wa⟩ := DataW.trod_int Tryz.underlying2 t1
    obtain ⟨s2, e2, _, z2⟩ := DataW.trod_string Tryz.underlying9 t2
    obtain ⟨s3, e3, _, z3⟩ := DataW.trod_string Tryz.underlying9 t3
    simp at e0 e1 e2 e3
    subst e0 e1 e2 e3
    have g0 := hcell 0 (by omega)
    have g1 := hcell 1 (by omega)
    have g2 := hcell 2 (by omega)
    have g3 := hcell 3 (by omega)
    rw [add_add] at g0 g1 g2 g3
    exact ⟨(kd, aa, s2.data.toList, s3.data.toList), by simpa using g0, by simpa using g1, by simpa using g2, by simpa using g3, z2, z3, ⟨bounds_i64 wk, bounds_i64 wa⟩⟩
  obtain ⟨f, hf2⟩ := choose_lt each
  refine ⟨some a, len, cap, (List.range len).map f, rfl, (fun e => by cases e), ⟨by simp, fun j hj => ?_⟩, by omega, (fun j => ?_), (fun j => ?_)⟩
  rotate_left
  ·
   by_cases hj : j < len
   ·
    have hg : ((List.range len).map f).getD j nd0 = f j := by simp [List.getD, hj]
    rw [hg]; exact ⟨(hf2 j hj).2.2.2.2.1, (hf2 j hj).2.2.2.2.2.1⟩
   ·
    have hg : ((List.range len).map f).getD j nd0 = nd0 := by simp [List.getD, hj]
    rw [hg]; simp [nd0]
  ·
   by_cases hj : j < len
   ·
    have hg : ((List.range len).map f).getD j nd0 = f j := by simp [List.getD, hj]
    rw [hg]; exact (hf2 j hj).2.2.2.2.2.2
   ·
    have hg : ((List.range len).map f).getD j nd0 = nd0 := by simp [List.getD, hj]
    rw [hg]; exact ziD
  obtain ⟨c0, c1, c2, c3, _, _, _⟩ := hf2 j hj
  have hsp : a.spot = none := by
   have h0 := (hf2 0 (by omega)).1
   simpa [Addr.add] using World.cell?_spot h0
  obtain ⟨b, off, spot⟩ := a
  simp at hsp
  subst hsp
  have e : ∀ i, (⟨b, off, none⟩ : Addr).add i = ⟨b, off + i, none⟩ := fun i => by unfold Addr.add; split <;> simp_all
  rw [e] at c0 c1 c2 c3
  have hg : ((List.range len).map f).getD j nd0 = f j := by simp [List.getD, hj]
  rw [hg]
  exact ⟨b, off, rfl, World.block_lt_of_cell? W ⟨b, off + j * 4, none⟩ c0, c0, by rw [Nat.add_assoc]; exact c1, by rw [Nat.add_assoc]; exact c2, by rw [Nat.add_assoc]; exact c3⟩
set_option maxRecDepth 100000 in
theorem ziX (hf : DataW.trod enc Tryz.prog W base spare held fuel 22 [v] = some x) :
 ∃ a len cap ts, v = .slice a len cap ∧ zae W a len ts ∧ len ≤ maxLen ∧ ∀ j, (ts.getD j []).length ≤ maxLen := by
 rcases open_strings Tryz.underlying22 Tryz.underlying9 (by kernel_rfl) hf with ⟨hcs, _⟩ | ⟨a, len, cap, ss, hcs, _, hl, hm, hlen, _, hcell, hsz⟩
 ·
  simp at hcs
  subst hcs
  exact ⟨none, 0, 0, [], rfl, ⟨rfl, fun j hj => by omega⟩, by decide, fun j => by simp⟩
 ·
  simp at hcs
  subst hcs
  have hls : len ≤ ss.length := by rw [hlen]; split <;> omega
  have hgd : ∀ j, j < len → ((ss.take len).map (fun s => s.data.toList)).getD j [] = (ss.getD j ByteArray.empty).data.toList := by
   intro j hj
   have hj2 : j < ss.length := by omega
   simp [List.getD, hj, hj2]
  refine ⟨some a, len, cap, (ss.take len).map (fun s => s.data.toList), rfl, ⟨by simp; omega, fun j hj => ?_⟩, by omega, fun j => ?_⟩
  ·
   have hc := hcell j (by omega)
   have hsp : a.spot = none := by
    have h0 := hcell 0 (by omega)
    simpa [Addr.add] using World.cell?_spot h0
   obtain ⟨b, off, spot⟩ := a
   simp at hsp
   subst hsp
   have e : ∀ i, (⟨b, off, none⟩ : Addr).add i = ⟨b, off + i, none⟩ := fun i => by unfold Addr.add; split <;> simp_all
   rw [e] at hc
   refine ⟨b, off, rfl, World.block_lt_of_cell? W ⟨b, off + j, none⟩ hc, ?_⟩
   rw [hc, hgd j hj]
  ·
   by_cases hj : j < len
   ·
    rw [hgd j hj]
    have hj2 : j < ss.length := by omega
    have : ss.getD j ByteArray.empty ∈ ss := by simp [List.getD, hj2]
    have hz := hsz _ this
    simpa using hz
   ·
    have : ((ss.take len).map (fun s => s.data.toList)).getD j [] = [] := by rw [List.getD, List.getElem?_eq_none (by simp; omega)]; rfl
    rw [this]; simp
theorem zm5 : Tryz.prog.cellsOf 63 = 3 := by kernel_rfl
theorem zho : Tryz.prog.cellsOf 25 = 3 := by kernel_rfl
set_option maxRecDepth 100000 in
theorem trod_fns (hf : DataW.trod enc Tryz.prog W base spare held fuel 23 [v] = some x) :
 ∃ a len cap fs, v = .slice a len cap ∧ zav W a len fs ∧ len ≤ maxLen ∧ zjQ fs ∧ IntF fs := by
 rcases open_slice Tryz.underlying23 hf with ⟨hcs, _⟩ | ⟨a, len, cap, q, n, D, Pl, hcs, _, hl, hm, hq, _, hx⟩
 ·
  simp at hcs
  subst hcs
  exact ⟨none, 0, 0, [], rfl, ⟨rfl, fun j hj => by omega⟩, by decide, (fun j => by simp [fn0, zht, nd0]), (fun j => ⟨by simp [fn0], IntT.nil⟩)⟩
 ·
  simp at hcs
  subst hcs
  have hlq : len ≤ q := by rw [hq]; split <;> omega
  have each : ∀ i, i < len → ∃ y : Fn, W.cell? (a.add (i * 3)) = some (.string ⟨y.1.toArray⟩) ∧ W.cell? (a.add (i * 3 + 1)) = some (.int .i64 y.2.1) ∧
   (∃ ta tl tc, W.cell? (a.add (i * 3 + 2)) = some (.slice ta tl tc) ∧ (ta = none → tc = 0) ∧ za4 W ta tl y.2.2) ∧ (y.1.length ≤ maxLen ∧ y.2.2.length ≤ maxLen ∧ zht y.2.2) ∧ ((-9223372036854775808 ≤ y.2.1 ∧ y.2.1 ≤ 9223372036854775807) ∧ IntT y.2.2) := by
   intro i hi
   obtain ⟨cs', h1, h2⟩ := hx i (by omega)
   rw [zm5] at h1
   obtain ⟨_, hlen, hcell⟩ := World.cells?_some h1
   match cs', hlen with
   | [v0, v1, v2], _ =>
    obtain ⟨y0, y1, y2, k, _, _, t0, t1, t2⟩ := trod_struct3 Tryz.underlying63 h2
    have k2 : Tryz.prog.cellsOf 2 = 1 := by kernel_rfl
    have k9 : Tryz.prog.cellsOf 9 = 1 := by kernel_rfl
    have kn : Tryz.prog.cellsOf 61 = 1 := by kernel_rfl
    simp [k2, k9, kn] at t0 t1 t2
    obtain ⟨s0, e0, _, z0⟩ := DataW.trod_string Tryz.underlying9 t0
    obtain ⟨aa, e1, _, wa⟩ := DataW.trod_int Tryz.underlying2 t1
    obtain ⟨ta, tl, tc, ns, e2, hnc, hns, hnl, hlt, hit⟩ := ziY t2
    simp at e0 e1
    subst e0 e1 e2
    have g0 := hcell 0 (by omega)
    have g1 := hcell 1 (by omega)
    have g2 := hcell 2 (by omega)
    rw [add_add] at g0 g1 g2
    exact ⟨(s0.data.toList, aa, ns), by simpa using g0, by simpa using g1, ⟨ta, tl, tc, by simpa using g2, hnc, hns⟩, ⟨z0, by rw [show ((s0.data.toList, aa, ns) : Fn).2.2 = ns from rfl, hns.1]; exact hnl, hlt⟩, ⟨bounds_i64 wa, hit⟩⟩
  obtain ⟨f, hf2⟩ := choose_lt each
  refine ⟨some a, len, cap, (List.range len).map f, rfl, ⟨by simp, fun j hj => ?_⟩, by omega, (fun j => ?_), (fun j => ?_)⟩
  rotate_left
  ·
   by_cases hj : j < len
   ·
    have hg : ((List.range len).map f).getD j fn0 = f j := by simp [List.getD, hj]
    rw [hg]; exact (hf2 j hj).2.2.2.1
   ·
    have hg : ((List.range len).map f).getD j fn0 = fn0 := by simp [List.getD, hj]
    rw [hg]; simp [fn0, zht, nd0]
  ·
   by_cases hj : j < len
   ·
    have hg : ((List.range len).map f).getD j fn0 = f j := by simp [List.getD, hj]
    rw [hg]; exact (hf2 j hj).2.2.2.2
   ·
    have hg : ((List.range len).map f).getD j fn0 = fn0 := by simp [List.getD, hj]
    rw [hg]; exact ⟨by simp [fn0], IntT.nil⟩
  obtain ⟨c0, c1, ⟨ta, tl, tc, c2, hnc, hns⟩, _, _⟩ := hf2 j hj
  have hsp : a.spot = none := by
   have h0 := (hf2 0 (by omega)).1
   simpa [Addr.add] using World.cell?_spot h0
  obtain ⟨b, off, spot⟩ := a
  simp at hsp
  subst hsp
  have e : ∀ i, (⟨b, off, none⟩ : Addr).add i = ⟨b, off + i, none⟩ := fun i => by unfold Addr.add; split <;> simp_all
  rw [e] at c0 c1 c2
  have hg : ((List.range len).map f).getD j fn0 = f j := by simp [List.getD, hj]
  rw [hg]
  exact ⟨b, off, rfl, World.block_lt_of_cell? W ⟨b, off + j * 3, none⟩ c0, c0, by rw [Nat.add_assoc]; exact c1, ta, tl, tc, by rw [Nat.add_assoc]; exact c2, hnc, hns⟩
end
set_option maxRecDepth 100000 in
theorem zgR {H : Type} {enc : TypeId × Value → H} {W : World} {base b0 : Nat} {spare : Nat → Bool} {held : Bool} {v : Value} {d : DataW H} {p : List MemPlace}
 (hv : Value.okWide Tryz.prog W .any b0 25 v) (h : DataW.Trod enc Tryz.prog W base spare held 25 v d p) :
 ∃ nm ia il ic ims fa fl fc fs, v = .agg #[.string ⟨(nm : List UInt8).toArray⟩, .slice ia il ic, .slice fa fl fc] ∧ zae W ia il ims ∧ zav W fa fl fs ∧ nm.length ≤ maxLen ∧ il ≤ maxLen ∧ (∀ j, (ims.getD j []).length ≤ maxLen) ∧ fl ≤ maxLen ∧ zjQ fs ∧ IntF fs := by
 obtain ⟨c0, c1, c2, y0, y1, y2, m, rfl, _, _, t0, t1, t2⟩ := open_agg3 Tryz.underlying25 (by kernel_rfl) zho hv h
 obtain ⟨s0, e0, _, h0⟩ := DataW.trod_string Tryz.underlying9 t0
 simp at e0
 subst e0
 obtain ⟨ia, il, ic, ims, rfl, hi, hil, him⟩ := ziX t1
 obtain ⟨fa, fl, fc, fs, rfl, hf, hfl, hlf, hif⟩ := trod_fns t2
 exact ⟨s0.data.toList, ia, il, ic, ims, fa, fl, fc, fs, rfl, hi, hf, h0, hil, him, hfl, hlf, hif⟩
end

variable {Z Y B : World} {W f d : Nat} {l : Value} {c m : Int} {a aa ta la : Option Addr} {lc : Nat} {xs : List Int} {ps : List Pk} {t : List Nd}
abbrev Wr (Z Y : World) (W : Nat) : Prop := zb4 Z Y (fun k => k = W)
theorem wr_cell {Z Y : World} {W : Nat} (h : Wr Z Y W) {b o : Nat} (hb : b < Z.heap.size) (hn : b ≠ W) {v : Value} (hc : Z.cell? ⟨b, o, none⟩ = some v) : Y.cell? ⟨b, o, none⟩ = some v := by
 have e := h.block b hb hn
 rw [World.cell?_of_block (a := ⟨b, o, none⟩) e]
 exact hc
def As (Z : World) (W : Nat) (a : Option Addr) (xs : List Int) : Prop := ∀ j, j < xs.length → ∃ b off, a = some ⟨b, off, none⟩ ∧ b ≠ W ∧ b < Z.heap.size ∧ Z.cell? ⟨b, off + j, none⟩ = some (.int .i64 (xs.getD j 0))
theorem As.wr (h : As Z W a xs) (hw : Wr Z Y W) : As Y W a xs := fun j hj => by
 obtain ⟨b, off, e, hn, hl, hc⟩ := h j hj
 exact ⟨b, off, e, hn, Nat.lt_of_lt_of_le hl hw.size, wr_cell hw hl hn hc⟩
theorem As.below (h : As Z W a xs) (hb : Below Z.heap.size Z Y) : As Y W a xs := h.wr (zb4.of_below hb)
theorem zfZ {Z : World} {B W : Nat} {v : Value} {xs : List Int} (h : Z.ownsRow B 2 1 v xs.length (zaF xs)) (hB : W < B) : ∃ a c, v = .slice a xs.length c ∧ As Z W a xs := by
 rcases zar h with ⟨rfl, h0, _⟩ | ⟨g, c, rfl⟩
 ·
  exact ⟨none, 0, by rw [h0], fun j hj => by omega⟩
 ·
  refine ⟨_, c, rfl, fun j hj => ⟨g, 0, rfl, ?_, (h.lt g rfl).2, ?_⟩⟩
  ·
   have := (h.lt g rfl).1; omega
  ·
   have h1 := h.cellAt j (by omega)
   rw [Nat.zero_add, h1, zgm xs j hj]
   simp [List.getD, hj]





theorem Code.alloc {w : World} {B : Nat} {a : Option Addr} {len : Nat} (h : Code w B a len) (hB : B ≤ w.heap.size) (o : Obj) : Code (w.alloc o) (B + 1) a len := by
 intro j hj
 obtain ⟨b, off, x, e1, e2, e3, e0⟩ := h j hj
 exact ⟨b, off, x, e1, by omega, (World.cell?_of_block (a := ⟨b, off + j, none⟩) (Below.heap_alloc _ _ _ (by show b < _; omega))).trans e3, e0⟩
theorem zhJ {w : World} {base e size n : Nat} {v : Value} {xs : List Value} (h : w.ownsRow base e size v n xs) (h1 : ∀ u ∈ xs, u.oneCell' = true) : Src w v n size xs := by
 refine ⟨h.1, h1, ?_⟩
 rcases zar h with ⟨rfl, rfl, _⟩ | ⟨g, cp, rfl⟩
 ·
  exact Or.inl ⟨rfl, rfl⟩
 ·
  refine Or.inr ⟨⟨g, 0, none⟩, cp, rfl, fun j u hu => ?_⟩
  have e : (⟨g, 0, none⟩ : Addr).add j = ⟨g, j, none⟩ := by unfold Addr.add; split <;> simp_all
  have hj : j < xs.length := by
   rcases Nat.lt_or_ge j xs.length with h | h
   ·
    exact h
   ·
    rw [List.getElem?_eq_none h] at hu; cases hu
  rw [e, h.cellAt j (by rw [← h.1]; exact hj)]
  exact hu
theorem zlg : (Tryz.prog.info? 46).map (fun i => (i.zero, i.size, i.bytes)) = some (some (.slice none 0 0), 1, 24) := by kernel_rfl
theorem zbO {X : World} {B n : Nat} {v : Value} {vs : List Value} (a : Option Addr) (l c : Nat) (hv : X.ownsRow B 46 1 v n vs) (hb : B ≤ X.heap.size) (hn : n ≤ 1048576) :
 ∃ v' Y, (Builtin.append_ #[93, 93] 93 #[v, .slice (some ⟨X.heap.size, 0, none⟩) 1 1]).run Tryz.prog (X.alloc (.cells #[.slice a l c] 46)) = .ok v' Y ∧ Y.ownsRow B 46 1 v' (n + 1) (vs ++ [.slice a l c]) ∧ X.grownBy Y v.ownBlock := by
 obtain ⟨i0, hi, hz0, hz1, hz2⟩ := info_parts zlg
 obtain ⟨v', Y, hrun, hown, hg, _⟩ := run_append_own_at (P := Tryz.prog) (X.alloc (.cells #[.slice a l c] 46)) B 93 93 46 i0 _ 1 24 Tryz.underlying93 hi hz0 hz1 hz2 rfl (by decide) _ _ _ (hv.alloc _) ⟨X.heap.size, 0, none⟩ 1 1 [.slice a l c] rfl (fun j u hu => cell_one_new X _ 46 j u hu) (fun u hu => by rw [List.mem_singleton.1 hu]; rfl) (by unfold maxLen; omega) (by omega) (by simp; omega)
 exact ⟨v', Y, hrun, hown, (World.grownBy_alloc X _ _).trans hg⟩
theorem zbA {X : World} {B Bx n m g c : Nat} {v : Value} {xs ys : List Nd} (hv : X.ownsRow B 90 4 v n (za0 xs)) (hx : X.ownsRow Bx 90 4 (.slice (some ⟨g, 0, none⟩) m c) m (za0 ys)) (hb : B ≤ X.heap.size) (hn : n + m ≤ 1048576) :
 ∃ v' Y, (Builtin.append_ #[46, 46] 46 #[v, .slice (some ⟨g, 0, none⟩) m c]).run Tryz.prog X = .ok v' Y ∧ Y.ownsRow B 90 4 v' (n + m) (za0 (xs ++ ys)) ∧ X.grownBy Y v.ownBlock ∧ (∀ k, v'.ownBlock = some k → v.ownBlock = some k ∨ X.heap.size ≤ k) := by
 obtain ⟨i0, hi, hz0, hz1, hz2⟩ := info_parts zd8
 obtain ⟨hl, h1, ⟨e, _⟩ | ⟨ad, c', e, hc⟩⟩ := zhJ hx (zd4 ys)
 ·
  cases e
 ·
  injection e with e1 _ e3
  injection e1 with e1
  subst e1 e3
  obtain ⟨v', Y, hrun, hown, hg, _, hat⟩ := run_append_own_at (P := Tryz.prog) X B 46 46 90 i0 _ 4 48 Tryz.underlying46 hi hz0 hz1 hz2 rfl (by decide) _ _ _ hv ⟨g, 0, none⟩ m c (za0 ys) hl hc h1 (by unfold maxLen; omega) (by omega) hb
  refine ⟨v', Y, hrun, by rw [zcG]; exact hown, hg, fun k e => ?_⟩
  rcases hat with h | h
  ·
   exact Or.inl (h.symm.trans e)
  ·
   rw [h] at e
   injection e with e
   exact Or.inr (by omega)
def zib (B : World) (ta : Option Addr) (tc : Nat) (t : List Nd) (d : Nat) : Prop := ∀ (w : World) (a : Nat), Below B.heap.size B w → 0 ≤ endV t (a : Int) → t.length ≤ a + d →
 Calls Tryz.prog 39 #[.slice ta t.length tc, .int .i64 (a : Int)] w fun e w' => ∃ v, e = .returned v ∧ w'.ownsRow w.heap.size 90 4 v (zab d t (a : Int)).length (za0 (zab d t (a : Int))) ∧ Below w.heap.size w w'
theorem One.good {s : List Nd} (h : One s) : zb5 s := by
 induction h with
 | mk n ks hn _ _ ih =>
  intro m hm
  rcases List.mem_cons.1 hm with e | e
  ·
   rw [e]; exact hn
  ·
   obtain ⟨k, hk, h2⟩ := List.mem_flatten.1 e
   exact ih k hk m h2
theorem zcm {x : List Nd} (hg : zb5 x) (h : zai x = true) : -2147483648 ≤ (x.getD 0 nd0).2.1 ∧ (x.getD 0 nd0).2.1 ≤ 2147483647 := by
 obtain ⟨v, p, f, rfl⟩ := one_is h
 have hn := zaV.1 (hg _ List.mem_cons_self)
 unfold zbC at hn
 simp only at hn
 show -2147483648 ≤ v ∧ v ≤ 2147483647
 omega
theorem zdc {t : List Nd} {a d : Nat} (h : 0 ≤ endV t (a : Int)) (hd : t.length ≤ a + d) : 0 < (zab d t (a : Int)).length ∧ (zab d t (a : Int)).length ≤ t.length ∧ zb5 (zab d t (a : Int)) := by
 obtain ⟨s, post, e, hs⟩ := zcM h
 have hl := congrArg List.length e
 rw [List.length_drop, List.length_append] at hl
 have hf := zlL hs d t post a (by omega) e
 exact ⟨hf.res.1.pos, by have := hf.res.2.1; omega, hf.res.1.good⟩
end Go.Proofs.YtkpdoedpkncboaaGreat
