/-
  Parts of one proof, one behind the other: FnMS, FnMP, ProjT.
-/
import Derived.Test.YtaidhjjpdkkmcaaGreatDoorP19
import Derived.Test.YtaidhjjpdkkmcaaGreatDoorP10
import Derived.Test.YtaidhjjpdkkmcaaGreatDoorP11
import Derived.Deep.RegionWith
import Derived.Test.YtaidhjjpdkkmcaaGreatDoorP18

/-! The laws' own helpers over lists of functions: what several blocks' writing leaves; marks of functions. -/
namespace Go.Proofs.YtaidhjjpdkkmcaaGreatDoor
open Go.RowKit

/-- What functions hold when they are marked from k on, and the next mark. -/
def fmk (k : Nat) (x : FV) : FV := ((markL k, ((k + 1 : Nat) : Int), marksN (k + 2) x.1.2.2.length), x.2)
def fmark (k : Nat) : List FV → List FV
 | [] => []
 | x :: r => fmk k x :: fmark (k + 2 + 4 * x.1.2.2.length) r
def fend (k : Nat) : List FV → Nat
 | [] => k
 | x :: r => fend (k + 2 + 4 * x.1.2.2.length) r

theorem fmk_T (k : Nat) (x : FV) : fvT (fmk k x) = fvT x := by unfold fvT fmk; rw [marksN_len]
theorem fmark_len (k : Nat) (xs : List FV) : (fmark k xs).length = xs.length := by
 induction xs generalizing k with
 | nil => rfl
 | cons x r ih => simp [fmark, ih]
theorem fmark_snoc (k : Nat) (xs : List FV) (x : FV) : fmark k (xs ++ [x]) = fmark k xs ++ [fmk (fend k xs) x] ∧ fend k (xs ++ [x]) = fend k xs + 2 + 4 * x.1.2.2.length := by
 induction xs generalizing k with
 | nil => exact ⟨rfl, rfl⟩
 | cons y r ih =>
  have := ih (k + 2 + 4 * y.1.2.2.length)
  exact ⟨by rw [List.cons_append, fmark, this.1]; rfl, by rw [List.cons_append, fend, this.2]; rfl⟩
theorem fend_ge (k : Nat) (xs : List FV) : k ≤ fend k xs := by
 induction xs generalizing k with
 | nil => exact Nat.le_refl _
 | cons x r ih => have := ih (k + 2 + 4 * x.1.2.2.length); unfold fend; omega
theorem fend_app (k : Nat) (xs ys : List FV) : fend k (xs ++ ys) = fend (fend k xs) ys := by
 induction xs generalizing k with
 | nil => rfl
 | cons x r ih => rw [List.cons_append, fend, ih]; rfl
theorem fend_take (k : Nat) (xs : List FV) (m : Nat) : fend k (xs.take m) ≤ fend k xs := by
 conv => rhs; rw [← List.take_append_drop m xs, fend_app]
 exact fend_ge _ _

/-- Half way: m functions are marked. -/
def fhalf (k : Nat) (xs : List FV) (m : Nat) : List FV := fmark k (xs.take m) ++ xs.drop m
theorem fhalf_len (k : Nat) (xs : List FV) (m : Nat) : (fhalf k xs m).length = xs.length := by
 unfold fhalf; rw [List.length_append, fmark_len, ← List.length_append, List.take_append_drop]
theorem fhalf_at (k : Nat) (xs : List FV) (m : Nat) (hm : m < xs.length) : (fhalf k xs m).getD m fv0 = xs[m] := by
 unfold fhalf
 have hl : (fmark k (xs.take m)).length = m := by rw [fmark_len, List.length_take]; omega
 rw [List.getD_eq_getElem?_getD, List.getElem?_append_right (by omega), hl, Nat.sub_self, List.getElem?_drop, Nat.add_zero, List.getElem?_eq_getElem hm]
 rfl
theorem fhalf_step (k : Nat) (xs : List FV) (m : Nat) (hm : m < xs.length) : (fhalf k xs m).set m (fmk (fend k (xs.take m)) xs[m]) = fhalf k xs (m + 1) ∧ fend k (xs.take (m + 1)) = fend k (xs.take m) + 2 + 4 * xs[m].1.2.2.length := by
 have h1 := fmark_snoc k (xs.take m) xs[m]
 rw [← List.take_succ_eq_append_getElem hm] at h1
 refine ⟨?_, h1.2⟩
 have hl : (fmark k (xs.take m)).length = m := by rw [fmark_len, List.length_take]; omega
 unfold fhalf
 rw [h1.1, List.set_append_right _ _ (by omega), hl, Nat.sub_self, List.drop_eq_getElem_cons hm, zB, List.append_assoc]
 rfl
theorem fhalf_T (k : Nat) (xs : List FV) (m : Nat) : (fhalf k xs m).map fvT = xs.map fvT := by
 have key : ∀ (k : Nat) (l : List FV), (fmark k l).map fvT = l.map fvT := by
  intro k l
  induction l generalizing k with
  | nil => rfl
  | cons x r ih => rw [fmark, List.map_cons, List.map_cons, fmk_T, ih]
 unfold fhalf
 rw [List.map_append, key, ← List.map_append, List.take_append_drop]

theorem set_same {α : Type} {l : List α} {i : Nat} {a : α} (h : l[i]? = some a) : l.set i a = l := by
 apply List.ext_getElem?
 intro j
 rw [List.getElem?_set]
 split
 ·
  rename_i e
  subst e
  split
  ·
   exact h.symm
  ·
   rename_i hl; rw [List.getElem?_eq_none (by omega)]
 ·
  rfl

def FnBlocks (v : Value) (xs : List FV) (k : Nat) : Prop := v.ownBlock = some k ∨ ∃ x ∈ xs, (fvT x).ownBlock = some k

set_option maxHeartbeats 2000000 in
set_option maxRecDepth 100000 in
theorem markFuncSC (w : World) (base g cp k0 : Nat) (xs : List FV) (hn : xs.length ≤ 1100000) (hk0 : 0 < k0) (hk1 : fend k0 xs ≤ 30000000) (hls : ∀ x ∈ xs, x.1.2.2.length ≤ 1100000) (hap : Apart (xs.map fvT))
 (h : FnsOwn w base (.slice (some ⟨g, 0, none⟩) xs.length cp) xs) :
 Calls Tryz.prog 29 #[.slice (some ⟨g, 0, none⟩) xs.length cp, .int .i64 k0] w fun e w' => e = .returned (.int .i64 ((fend k0 xs : Nat) : Int)) ∧ FnsOwn w' base (.slice (some ⟨g, 0, none⟩) xs.length cp) (fmark k0 xs) ∧ Wrote w w' (FnBlocks (.slice (some ⟨g, 0, none⟩) xs.length cp) xs) := by
 have HAP : Hid (Apart (xs.map fvT)) := hap
 have HLS : Hid (∀ x ∈ xs, x.1.2.2.length ≤ 1100000) := hls
 have hst0 : fhalf k0 xs 0 = xs := rfl
 have H0 : Hid (FnsOwn w base (.slice (some ⟨g, 0, none⟩) xs.length cp) (fhalf k0 xs 0)) := h
 clear hap hls h hst0
 go_enter Tryz.func29, Tryz.ntmps29
 go_wp2
 go_loopw [1, 5] (fun k i wr => ∃ m : Nat, m ≤ xs.length ∧ i = .int .i64 m ∧ k = .int .i64 ((fend k0 (xs.take m) : Nat) : Int) ∧ Hid (FnsOwn wr base (.slice (some ⟨g, 0, none⟩) xs.length cp) (fhalf k0 xs m)) ∧ Hid (Wrote w wr (FnBlocks (.slice (some ⟨g, 0, none⟩) xs.length cp) xs))) (fun _ i _ => xs.length - (intOf i).toNat)
 case atStart => exact ⟨0, Nat.zero_le _, rfl, rfl, H0, Wrote.refl _ _⟩
 case round =>
  obtain ⟨m, hm, rfl, rfl, HO, HW⟩ := hrel
  clear H0
  by_cases hlt : (m : Int) < (xs.length : Int)
  ·
   have hm2 : m < xs.length := by omega
   obtain ⟨hset, hend⟩ := fhalf_step k0 xs m hm2
   have hat := fhalf_at k0 xs m hm2
   have hfl := fhalf_len k0 xs m
   have hT := fhalf_T k0 xs m
   have hend2 := fend_take k0 xs (m + 1)
   have hxl := HLS.out xs[m] (List.getElem_mem hm2)
   obtain ⟨ys, hys⟩ : ∃ ys, fhalf k0 xs m = ys := ⟨_, rfl⟩
   rw [hys] at hset hat hfl hT HO
   obtain ⟨x, hx⟩ : ∃ x, xs[m] = x := ⟨_, rfl⟩
   rw [hx] at hset hat hend hxl
   obtain ⟨q, hq⟩ : ∃ q, fend k0 (xs.take m) = q := ⟨_, rfl⟩
   have hq0 : 0 < q := by rw [← hq]; have := fend_ge k0 (xs.take m); omega
   rw [hq] at hset hend ⊢
   have hq3 : q + 2 + 4 * x.1.2.2.length ≤ 30000000 := by omega
   have HSET : Hid (ys.set m (fmk q x) = fhalf k0 xs (m + 1)) := hset
   have HEND : Hid (fend k0 (xs.take (m + 1)) = q + 2 + 4 * x.1.2.2.length) := hend
   have HT : Hid (ys.map fvT = xs.map fvT) := hT
   have HX : Hid (∃ h : m < ys.length, ys[m] = x) := ⟨by omega, by rw [List.getD_eq_getElem?_getD, List.getElem?_eq_getElem (by omega)] at hat; exact hat⟩
   have HFL : Hid (ys.length = xs.length) := hfl
   have HXM : Hid (x ∈ xs) := by rw [← hx]; exact List.getElem_mem hm2
   obtain ⟨v0, v1, v2⟩ := fnsV_at ys m (by omega)
   rw [hat] at v0 v1 v2
   have hrow := HO.out.row
   rw [hfl] at hrow
   clear hset hend hend2 hys hx hq hT hat hfl
   obtain ⟨zs, hzs⟩ : ∃ zs, fnsV ys = zs := ⟨_, rfl⟩
   have hzset := fnsV_set ys m (fmk q x)
   rw [hzs] at hrow v0 v1 v2 hzset
   have HZ : Hid (((zs.set (m * 3) (.string ⟨(markL q).toArray⟩)).set (m * 3 + 1) (.int .i64 ((q : Int) + 1))).set (m * 3 + 2) (fvT x) = fnsV (ys.set m (fmk q x))) := by
    rw [← fmk_T q x, show (q : Int) + 1 = ((q + 1 : Nat) : Int) by omega]; exact hzset
   clear hzset
   have htree : wr.ownsRow base 125 4 (fvT x) x.1.2.2.length (nodesV x.1.2.2) := by
    obtain ⟨hl, he⟩ := HX.out
    rw [← he]; exact HO.out.trees _ (List.getElem_mem hl)
   obtain ⟨hxl2, ta, tc, htv, _⟩ := own_nodes htree
   have HTV : Hid (fvT x = .slice ta x.1.2.2.length tc) := htv
   rw [htv] at v2
   clear hzs htv
   go_wp2_with fail
   refine (markTextC q _ (by omega) (by omega)).mono ?_
   rintro e w2 ⟨rfl, hg2⟩
   have hrow2 := own_none hrow hg2
   obtain ⟨u0, d0⟩ : ∃ u, w2.cell? ⟨g, m * 3, none⟩ = some u := by rw [hrow2.cellAt (m * 3) (by omega), v0]; exact ⟨_, rfl⟩
   obtain ⟨u1, d1⟩ : ∃ u, w2.cell? ⟨g, m * 3 + 1, none⟩ = some u := by rw [hrow2.cellAt (m * 3 + 1) (by omega), v1]; exact ⟨_, rfl⟩
   have d2 : w2.cell? ⟨g, m * 3 + 2, none⟩ = some (.slice ta x.1.2.2.length tc) := by rw [hrow2.cellAt (m * 3 + 2) (by omega), v2]
   have e0 := hrow2.frozenAt (m * 3)
   have e1 := hrow2.frozenAt (m * 3 + 1)
   have hs1 := hrow2.stored (m * 3) (.string ⟨(markL q).toArray⟩)
   have hs2 := hs1.1.stored (m * 3 + 1) (.int .i64 ((q : Int) + 1))
   have hW3 : Wrote w ((w2.setCell ⟨g, m * 3, none⟩ (.string ⟨(markL q).toArray⟩)).setCell ⟨g, m * 3 + 1, none⟩ (.int .i64 ((q : Int) + 1))) (FnBlocks (.slice (some ⟨g, 0, none⟩) xs.length cp) xs) :=
    ((HW.out.trans (Wrote.of_grown hg2 (fun _ e => by cases e))).trans (Wrote.of_grown hs1.2 (fun _ e => Or.inl e))).trans (Wrote.of_grown hs2.2 (fun _ e => Or.inl e))
   have htrees : ∀ z ∈ ys, ((w2.setCell ⟨g, m * 3, none⟩ (.string ⟨(markL q).toArray⟩)).setCell ⟨g, m * 3 + 1, none⟩ (.int .i64 ((q : Int) + 1))).ownsRow base 125 4 (fvT z) z.1.2.2.length (nodesV z.1.2.2) := by
    intro z hz
    have t1 := own_none (HO.out.trees z hz) hg2
    have hd := own_types t1 hrow2 (by decide)
    have t2 := t1.kept hs1.2 hd
    exact t2.kept hs2.2 hd
   have d2b : ((w2.setCell ⟨g, m * 3, none⟩ (.string ⟨(markL q).toArray⟩)).setCell ⟨g, m * 3 + 1, none⟩ (.int .i64 ((q : Int) + 1))).cell? ⟨g, m * 3 + 2, none⟩ = some (.slice ta x.1.2.2.length tc) := by
    rw [hs2.1.cellAt (m * 3 + 2) (by omega), List.getElem?_set_ne (by omega), List.getElem?_set_ne (by omega), v2]
   obtain ⟨W3, hW3e⟩ : ∃ W3, (w2.setCell ⟨g, m * 3, none⟩ (.string ⟨(markL q).toArray⟩)).setCell ⟨g, m * 3 + 1, none⟩ (.int .i64 ((q : Int) + 1)) = W3 := ⟨_, rfl⟩
   have hrow3 := hs2.1
   rw [hW3e] at hrow3 hW3 htrees d2b
   have HR3 : Hid (W3.ownsRow base 98 3 (.slice (some ⟨g, 0, none⟩) xs.length cp) xs.length ((zs.set (m * 3) (.string ⟨(markL q).toArray⟩)).set (m * 3 + 1) (.int .i64 ((q : Int) + 1)))) := hrow3
   have HW3 : Hid (Wrote w W3 (FnBlocks (.slice (some ⟨g, 0, none⟩) xs.length cp) xs)) := hW3
   have HTR : Hid (∀ z ∈ ys, W3.ownsRow base 125 4 (fvT z) z.1.2.2.length (nodesV z.1.2.2)) := htrees
   have htree3 : W3.ownsRow base 125 4 (.slice ta x.1.2.2.length tc) x.1.2.2.length (nodesV x.1.2.2) := by
    obtain ⟨hl, he⟩ := HX.out
    have h3 := htrees _ (List.getElem_mem hl)
    rw [he, HTV.out] at h3
    exact h3
   have HM : Hid (_) := markNodeSV W3 base x.1.2.2.length (q + 2) (.slice ta x.1.2.2.length tc) x.1.2.2 (by omega) (by omega) (by omega) htree3
   rw [show ((q + 2 : Nat) : Int) = (q : Int) + 1 + 1 by omega] at HM
   have HT3 : Hid (W3.ownsRow base 125 4 (.slice ta x.1.2.2.length tc) x.1.2.2.length (nodesV x.1.2.2)) := htree3
   have HV2 : Hid (zs[m * 3 + 2]? = some (.slice ta x.1.2.2.length tc)) := v2
   clear hs1 hs2 hW3 htrees hrow3 hrow2 hrow hg2 htree htree3 HW v0 v1 v2
   go_wp2_with fail
   refine Calls.mono HM.out ?_
   rintro e w4 ⟨rfl, hown4, hg4⟩
   have HO4 : Hid (FnsOwn w4 base (.slice (some ⟨g, 0, none⟩) xs.length cp) (fhalf k0 xs (m + 1))) := by
    have hrow4 := HR3.out.kept hg4 (own_types HR3.out HT3.out (by decide))
    have hz3 : ((zs.set (m * 3) (.string ⟨(markL q).toArray⟩)).set (m * 3 + 1) (.int .i64 ((q : Int) + 1))) = fnsV (ys.set m (fmk q x)) := by
     rw [← HZ.out, HTV.out]
     exact (set_same (by rw [List.getElem?_set_ne (by omega), List.getElem?_set_ne (by omega)]; exact HV2.out)).symm
    rw [hz3] at hrow4
    rw [← HSET.out]
    refine ⟨by rw [List.length_set, HFL.out]; exact hrow4, fun z hz => ?_⟩
    obtain ⟨j, hj, rfl⟩ := List.mem_iff_getElem.1 hz
    rw [List.length_set] at hj
    rw [List.getElem_set]
    by_cases hjm : m = j
    ·
     subst hjm
     rw [if_pos rfl, fmk_T, HTV.out]
     show w4.ownsRow base _ 4 _ (marksN (q + 2) x.1.2.2.length).length (nodesV (marksN (q + 2) x.1.2.2.length))
     rw [marksN_len]
     exact hown4
    ·
     rw [if_neg hjm]
     refine (HTR.out _ (List.getElem_mem hj)).kept hg4 ?_
     obtain ⟨hl, he⟩ := HX.out
     have hap : Apart (ys.map fvT) := by rw [HT.out]; exact HAP.out
     have hne := hap.ne (i := j) (j := m) (by simpa using hj) (by simpa using hl) (fun e => hjm e.symm)
     rw [List.getElem_map, List.getElem_map, he, HTV.out] at hne
     exact hne
   have HW4 : Hid (Wrote w w4 (FnBlocks (.slice (some ⟨g, 0, none⟩) xs.length cp) xs)) := HW3.out.trans (Wrote.of_grown hg4 (fun k e => Or.inr ⟨x, HXM.out, by rw [HTV.out]; exact e⟩))
   clear hown4 hg4 HR3 HT3 HTR HW3 HM HZ HSET HT HX HV2 HTV HXM HFL d0 d1 d2 d2b e0 e1 HO
   go_wp2
   go_roundw
   case rel => exact ⟨m + 1, by omega, by go_num, by rw [HEND.out]; go_num, HO4, HW4⟩
   case measure => simp [intOf]; omega
  ·
   obtain rfl : m = xs.length := by omega
   have hO := HO.out
   have HK : Hid (fend k0 (xs.take xs.length) = fend k0 xs) := by exact (by rw [List.take_length] : fend k0 (xs.take xs.length) = fend k0 xs)
   have HH : Hid (fhalf k0 xs xs.length = fmark k0 xs) := by exact (by unfold fhalf; rw [List.take_length, List.drop_length, List.append_nil] : fhalf k0 xs xs.length = fmark k0 xs)
   rw [HH.out] at hO
   go_wp2
   go_ret
   exact ⟨by rw [← HK.out]; rfl, hO, HW.out⟩

end Go.Proofs.YtaidhjjpdkkmcaaGreatDoor

/-! The laws' own helpers over packages: markPackage, heldPackage. -/
namespace Go.Proofs.YtaidhjjpdkkmcaaGreatDoor
open Go.RowKit

set_option maxHeartbeats 400000 in
set_option maxRecDepth 100000 in
theorem markFuncSNil (w : World) (k0 : Nat) :
 Calls Tryz.prog 29 #[.slice none 0 0, .int .i64 k0] w fun e w' => e = .returned (.int .i64 (k0 : Int)) ∧ w' = w := by
 go_enter Tryz.func29, Tryz.ntmps29
 go_wp2
 refine wp_loop_rounds 1 ?_
 rw [rounds_succ]
 go_wp2
 go_ret
 exact ⟨rfl, rfl⟩

theorem markFuncSV (w : World) (base k0 : Nat) (v : Value) (xs : List FV) (hn : xs.length ≤ 1100000) (hk0 : 0 < k0) (hk1 : fend k0 xs ≤ 30000000) (hls : ∀ x ∈ xs, x.1.2.2.length ≤ 1100000) (hap : Apart (xs.map fvT)) (h : FnsOwn w base v xs) :
 Calls Tryz.prog 29 #[v, .int .i64 k0] w fun e w' => e = .returned (.int .i64 ((fend k0 xs : Nat) : Int)) ∧ FnsOwn w' base v (fmark k0 xs) ∧ Wrote w w' (FnBlocks v xs) := by
 rcases own_forms h.row with ⟨rfl, h0, _⟩ | ⟨g, cp, rfl⟩
 ·
  obtain rfl : xs = [] := List.eq_nil_of_length_eq_zero h0
  refine (markFuncSNil w k0).mono ?_
  rintro e w' ⟨rfl, rfl⟩
  exact ⟨rfl, FnsOwn.nil _ _, Wrote.refl _ _⟩
 ·
  exact markFuncSC w base g cp k0 xs hn hk0 hk1 hls hap h


theorem FnsOwn.alloc {w : World} {base : Nat} {v : Value} {xs : List FV} (h : FnsOwn w base v xs) (o : Obj) : FnsOwn (w.alloc o) base v xs := ⟨h.row.alloc o, fun x hx => (h.trees x hx).alloc o⟩
theorem FnsOwn.none {w w' : World} {base : Nat} {v : Value} {xs : List FV} (h : FnsOwn w base v xs) (hg : w.grownBy w' none) : FnsOwn w' base v xs := ⟨own_none h.row hg, fun x hx => own_none (h.trees x hx) hg⟩
/-- A row of texts, and functions: the one's writing leaves the other. -/
theorem FnsOwn.texts {w w' : World} {base b2 n : Nat} {v vi : Value} {xs : List FV} {ys : List Value} (h : FnsOwn w base v xs) (hi : w.ownsRow b2 9 1 vi n ys) (hg : w.grownBy w' vi.ownBlock) : FnsOwn w' base v xs :=
 ⟨h.row.kept hg (own_types h.row hi (by decide)), fun x hx => (h.trees x hx).kept hg (own_types (h.trees x hx) hi (by decide))⟩
def PkBlocks (vi vf : Value) (xs : List FV) (k : Nat) : Prop := vi.ownBlock = some k ∨ FnBlocks vf xs k



end Go.Proofs.YtaidhjjpdkkmcaaGreatDoor

/-! A project that a call has made; the laws' own helper toPackageS. -/
namespace Go.Proofs.YtaidhjjpdkkmcaaGreatDoor
open Go.RowKit

/-- A package, where its lists lie, and between which blocks. -/
structure PV where
 nm : List UInt8
 ims : List (List UInt8)
 xs : List FV
 ia : Option Addr
 ic : Nat
 fa : Option Addr
 fc : Nat
 lo : Nat
 hi : Nat
def pvI (y : PV) : Value := .slice y.ia y.ims.length y.ic
def pvF (y : PV) : Value := .slice y.fa y.xs.length y.fc
def pvP (y : PV) : Pk := (y.nm, y.ims, y.xs.map (·.1))
def pv0 : PV := ⟨[], [], [], none, 0, none, 0, 0, 0⟩
def pvsV : List PV → List Value
 | [] => []
 | y :: r => .string ⟨y.nm.toArray⟩ :: pvI y :: pvF y :: pvsV r
theorem pvsV_len (ys : List PV) : (pvsV ys).length = ys.length * 3 := by
 induction ys with
 | nil => rfl
 | cons n r ih => simp only [pvsV, List.length_cons, ih]; omega
theorem pvsV_at (ys : List PV) (j : Nat) (hj : j < ys.length) : (pvsV ys)[j * 3]? = some (.string ⟨(ys.getD j pv0).nm.toArray⟩) ∧ (pvsV ys)[j * 3 + 1]? = some (pvI (ys.getD j pv0)) ∧ (pvsV ys)[j * 3 + 2]? = some (pvF (ys.getD j pv0)) := by
 induction ys generalizing j with
 | nil => simp at hj
 | cons n r ih =>
  cases j with
  | zero => simp [pvsV]
  | succ j =>
   obtain ⟨h0, h1, h2⟩ := ih j (by simpa using hj)
   refine ⟨?_, ?_, ?_⟩
   ·
    rw [show (j + 1) * 3 = j * 3 + 1 + 1 + 1 by omega]; simpa [pvsV] using h0
   ·
    rw [show (j + 1) * 3 + 1 = j * 3 + 1 + 1 + 1 + 1 by omega]; simpa [pvsV] using h1
   ·
    rw [show (j + 1) * 3 + 2 = j * 3 + 2 + 1 + 1 + 1 by omega]; simpa [pvsV] using h2
theorem pvsV_set (ys : List PV) (j : Nat) (y : PV) : (((pvsV ys).set (j * 3) (.string ⟨y.nm.toArray⟩)).set (j * 3 + 1) (pvI y)).set (j * 3 + 2) (pvF y) = pvsV (ys.set j y) := by
 induction ys generalizing j with
 | nil => simp [pvsV]
 | cons b r ih =>
  cases j with
  | zero => simp [pvsV]
  | succ j => rw [show (j + 1) * 3 = j * 3 + 1 + 1 + 1 by omega]; simp [pvsV, ih]
theorem fill_pv (ys : List PV) (len k : Nat) (y : PV) (hy : ys.length = k) (hk : k < len) : (ys ++ List.replicate (len - k) pv0).set k y = (ys ++ [y]) ++ List.replicate (len - (k + 1)) pv0 := by
 rw [List.set_append_right _ _ (by omega), hy, Nat.sub_self, show len - k = (len - (k + 1)) + 1 by omega, List.replicate_succ, zB, List.append_assoc]
 rfl
theorem made_pvs (n : Nat) : (madeCells (Value.agg #[.string ⟨#[]⟩, .slice none 0 0, .slice none 0 0]).cells (n * 3)).toList = pvsV (List.replicate n pv0) := by
 have hc : (Value.agg #[.string ⟨#[]⟩, .slice none 0 0, .slice none 0 0]).cells = #[.string ⟨#[]⟩, .slice none 0 0, .slice none 0 0] := rfl
 rw [hc]
 apply List.ext_getElem?
 intro j
 by_cases hj : j < n * 3
 ·
  obtain ⟨v0, v1, v2⟩ := pvsV_at (List.replicate n pv0) (j / 3) (by simp; omega)
  have hg : (List.replicate n pv0).getD (j / 3) pv0 = pv0 := by simp [List.getD, List.getElem?_replicate]; split <;> rfl
  rw [hg] at v0 v1 v2
  have h3 : j % 3 = 0 ∨ j % 3 = 1 ∨ j % 3 = 2 := by omega
  rcases h3 with h' | h' | h'
  ·
   have ej : j = j / 3 * 3 := by omega
   rw [← ej] at v0
   rw [v0]
   simp [madeCells, hj, h', pv0]
  ·
   have ej : j = j / 3 * 3 + 1 := by omega
   rw [← ej] at v1
   rw [v1]
   simp [madeCells, hj, h', pv0, pvI]
  ·
   have ej : j = j / 3 * 3 + 2 := by omega
   rw [← ej] at v2
   rw [v2]
   simp [madeCells, hj, h', pv0, pvF]
 ·
  rw [List.getElem?_eq_none (by simp [madeCells]; omega), List.getElem?_eq_none (by rw [pvsV_len]; simp; omega)]

/-- A package whose rows lie between two blocks. -/
structure PvOk (w : World) (y : PV) : Prop where
 im : w.ownsRow y.lo 9 1 (pvI y) y.ims.length (strV y.ims)
 fo : FnsOwn w y.lo (pvF y) y.xs
 ap : Apart (y.xs.map fvT)
 top : ∀ k, PkBlocks (pvI y) (pvF y) y.xs k → k < y.hi
theorem PvOk.wrote {w w' : World} {y : PV} (h : PvOk w y) {S : Nat → Prop} (hw : Wrote w w' S) (hs : ∀ k, S k → k < y.lo ∨ y.hi ≤ k) : PvOk w' y := by
 have hoff : ∀ {e size n : Nat} {v : Value} {zs : List Value}, w.ownsRow y.lo e size v n zs → (∀ k, v.ownBlock = some k → k < y.hi) → w'.ownsRow y.lo e size v n zs := fun ho ht => own_wrote ho hw (fun k hk hS => by
  have h1 := (ho.lt k hk).1
  have h2 := ht k hk
  rcases hs k hS with h3 | h3 <;> omega)
 exact ⟨hoff h.im (fun k e => h.top k (Or.inl e)), ⟨hoff h.fo.row (fun k e => h.top k (Or.inr (Or.inl e))), fun x hx => hoff (h.fo.trees x hx) (fun k e => h.top k (Or.inr (Or.inr ⟨x, hx, e⟩)))⟩, h.ap, h.top⟩
theorem PvOk.below {w w' : World} {y : PV} (h : PvOk w y) (hb : Below w.heap.size w w') : PvOk w' y := h.wrote (S := fun _ => False) (Wrote.of_below hb) (fun _ e => e.elim)

/-- A project that a call owns: its row, and its packages' lists between B and T. -/
structure PjOwn (w : World) (B T : Nat) (v : Value) (ys : List PV) : Prop where
 row : w.ownsRow B 51 3 v ys.length (pvsV ys)
 each : ∀ y ∈ ys, PvOk w y ∧ B ≤ y.lo ∧ y.hi ≤ T
 seq : ys.Pairwise (fun a b => a.hi ≤ b.lo)
 off : ∀ k, v.ownBlock = some k → k < T ∧ ∀ y ∈ ys, k < y.lo ∨ y.hi ≤ k
 sz : T ≤ w.heap.size
theorem PjOwn.below {w w' : World} {B T : Nat} {v : Value} {ys : List PV} (h : PjOwn w B T v ys) (hb : Below w.heap.size w w') : PjOwn w' B T v ys :=
 ⟨own_below h.row hb, fun y hy => ⟨(h.each y hy).1.below hb, (h.each y hy).2⟩, h.seq, h.off, Nat.le_trans h.sz hb.size⟩
theorem getD_map_pv (ys : List PV) (j : Nat) : (ys.map pvP).getD j pk0 = pvP (ys.getD j pv0) := by
 rw [List.getD_eq_getElem?_getD, List.getD_eq_getElem?_getD, List.getElem?_map]
 cases ys[j]? <;> rfl
/-- What is owned can be read. -/
theorem PjOwn.in {w : World} {B T : Nat} {v : Value} {ys : List PV} (h : PjOwn w B T v ys) : ∃ a cap, v = .slice a ys.length cap ∧ (a = none → cap = 0) ∧ PkgsIn w a ys.length (ys.map pvP) := by
 rcases own_forms h.row with ⟨rfl, h0, _⟩ | ⟨g, cp, rfl⟩
 ·
  exact ⟨none, 0, by rw [h0], fun _ => rfl, by simp, fun j hj => by omega⟩
 ·
  refine ⟨some ⟨g, 0, none⟩, cp, rfl, fun e => (by cases e), by simp, fun j hj => ?_⟩
  obtain ⟨v0, v1, v2⟩ := pvsV_at ys j hj
  have hc := fun k (hk : k < ys.length * 3) => World.ownsRow.cellAt h.row k hk
  have hmem : ys.getD j pv0 ∈ ys := by rw [List.getD_eq_getElem?_getD, List.getElem?_eq_getElem hj]; exact List.getElem_mem hj
  have hy := (h.each _ hmem).1
  obtain ⟨ai, ci, af, cf, e1, e2, _, _, hti, hfi⟩ := own_pk hy.im hy.fo rfl
  refine ⟨g, 0, rfl, (h.row.lt g rfl).2, ?_, ai, (ys.getD j pv0).ims.length, ci, af, ((ys.getD j pv0).xs.map (·.1)).length, cf, ?_, ?_, ?_, ?_⟩
  ·
   rw [Nat.zero_add, hc _ (by omega), v0, getD_map_pv]; rfl
  ·
   rw [Nat.zero_add, hc _ (by omega), v1, e1]
  ·
   rw [Nat.zero_add, hc _ (by omega), v2, e2]
  ·
   rw [getD_map_pv]; exact hti
  ·
   rw [getD_map_pv]; exact hfi

theorem infoPackage : (Tryz.prog.info? 51).map (fun i => (i.zero, i.size, i.bytes)) = some (some (.agg #[.string ⟨#[]⟩, .slice none 0 0, .slice none 0 0]), 3, 64) := by kernel_rfl

set_option maxHeartbeats 4000000 in
set_option maxRecDepth 100000 in
theorem toPackageSC (a : Option Addr) (len cap : Nat) (ps : List Pk) (w : World) (hin : PkgsIn w a len ps) (hlen : len ≤ 1048576) (hsh : ShortPs ps) :
 Calls Tryz.prog 6 #[.slice a len cap] w fun e w' => e = .returned (.slice (some ⟨w.heap.size, 0, none⟩) len len) ∧ ∃ ys, ys.map pvP = ps ∧ PjOwn w' w.heap.size w'.heap.size (.slice (some ⟨w.heap.size, 0, none⟩) len len) ys ∧ Below w.heap.size w w' := by
 obtain ⟨i0, hi, hz0, hz1, hz2⟩ := info_parts infoPackage
 have hlb := hin.1
 have HI : Hid (PkgsIn w a len ps) := hin
 have HSH : Hid (ShortPs ps) := hsh
 clear hin hsh
 go_enter Tryz.func6, Tryz.ntmps6
 go_wp2_with (at_make; refine wpList_make_full _ rfl _ _ 29 rfl w.heap.size 51 i0 _ 3 Tryz.underlying29 hi hz0 hz1 .i64 .i64 _ _ len rfl rfl rfl rfl (by rw [hz2]; omega) (by unfold maxLen; omega) (Nat.le_refl _) ?_; intro w1 hown1 hgrow1)
 rw [made_pvs] at hown1
 have hB1 : Below w.heap.size w w1 := (Below.refl _ _).grown hgrow1 (Nat.le_refl _) (by simp)
 clear hgrow1
 go_loopw [4] (fun i wr => ∃ (k : Nat) (ys : List PV), k ≤ len ∧ i = .int .i64 k ∧ ys.length = k ∧ Hid (ys.map pvP = ps.take k) ∧ Hid (wr.ownsRow w.heap.size 51 3 (.slice (some ⟨w.heap.size, 0, none⟩) len len) len (pvsV (ys ++ List.replicate (len - k) pv0))) ∧ Hid ((∀ y ∈ ys, PvOk wr y ∧ w.heap.size < y.lo ∧ y.hi ≤ wr.heap.size) ∧ ys.Pairwise (fun a b => a.hi ≤ b.lo)) ∧ Hid (Below w.heap.size w wr)) (fun i _ => len - (intOf i).toNat)
 case atStart => exact ⟨0, [], Nat.zero_le _, rfl, rfl, (by simp : ([] : List PV).map pvP = ps.take 0), (by simpa using hown1 : w1.ownsRow w.heap.size 51 3 (.slice (some ⟨w.heap.size, 0, none⟩) len len) len (pvsV ([] ++ List.replicate (len - 0) pv0))), (⟨fun y hy => (by cases hy), List.Pairwise.nil⟩ : (∀ y ∈ ([] : List PV), _) ∧ _), hB1⟩
 case round =>
  obtain ⟨k, ys, hk, rfl, hyl, HM, HR, HE, HB⟩ := hrel
  clear hown1 hB1
  by_cases hkl : (k : Int) < (len : Int)
  ·
   obtain ⟨b, off, rfl, hbl, c0, ia, il, ic, fa, fl, fc, c1, c2, hii, hff⟩ := (HI.out.below HB.out).2 k (by omega)
   have hts := HSH.out k
   have hmk : ps.take (k + 1) = ps.take k ++ [ps.getD k pk0] := by
    have hg : ps.getD k pk0 = ps[k]'(by omega) := by simp [List.getD, show k < ps.length by omega]
    rw [hg, List.take_succ_eq_append_getElem]
   obtain ⟨p, hp⟩ : ∃ p, ps.getD k pk0 = p := ⟨_, rfl⟩
   rw [hp] at c0 hii hff hts hmk
   obtain ⟨nm, ims, fs⟩ := p
   simp only at c0 hii hff hts
   obtain rfl : ims.length = il := hii.1
   obtain rfl : fs.length = fl := hff.1
   have HMK : Hid (ps.take (k + 1) = ps.take k ++ [(nm, ims, fs)]) := hmk
   have HC := toPackageC nm ia ims.length ic fa fs.length fc ims fs wr hii hff hts.2.1 hts.2.2.2.1 (fun j => (hts.2.2.2.2 j).2.1)
   have hwsz : w.heap.size < wr.heap.size := (HR.out.lt w.heap.size rfl).2
   clear hp hii hff hmk hts
   go_wp2_with fail
   refine HC.mono ?_
   rintro e w2 ⟨a1, c1', g2, xs, rfl, hxs, hoi, hof, hap, hb2⟩
   have hxl : xs.length = fs.length := by rw [← hxs, List.length_map]
   obtain ⟨y, hy⟩ : ∃ y : PV, y = ⟨nm, ims, xs, a1, c1', some ⟨g2, 0, none⟩, fs.length, wr.heap.size, w2.heap.size⟩ := ⟨_, rfl⟩
   have hyI : pvI y = .slice a1 ims.length c1' := by rw [hy]; rfl
   have hyF : pvF y = .slice (some ⟨g2, 0, none⟩) fs.length fs.length := by rw [hy]; unfold pvF; simp only; rw [hxl]
   have hyN : y.nm = nm := by rw [hy]
   have hyok : PvOk w2 y := by
    refine ⟨?_, ?_, ?_, fun q hq => ?_⟩
    ·
     rw [hyI, hy]; exact hoi
    ·
     rw [hyF, hy]; exact hof
    ·
     rw [hy]; exact hap
    ·
     rw [hyI, hyF] at hq
     rw [hy] at hq ⊢
     simp only at hq ⊢
     rcases hq with e | e | ⟨x, hx, e⟩
     ·
      exact (hoi.lt q e).2
     ·
      exact (hof.row.lt q e).2
     ·
      exact ((hof.trees x hx).lt q e).2
   have hyP : pvP y = (nm, ims, fs) := by rw [hy]; unfold pvP; simp only; rw [hxs]
   have hylo : y.lo = wr.heap.size ∧ y.hi = w2.heap.size := by rw [hy]; exact ⟨rfl, rfl⟩
   clear hy
   have hown2 := own_below HR.out hb2
   have hE2 : ∀ z ∈ ys, PvOk w2 z ∧ w.heap.size < z.lo ∧ z.hi ≤ wr.heap.size := fun z hz => ⟨(HE.out.1 z hz).1.below hb2, (HE.out.1 z hz).2⟩
   have hl2 : (ys ++ List.replicate (len - k) pv0).length = len := by rw [List.length_append, List.length_replicate]; omega
   obtain ⟨v0, v1, v2⟩ := pvsV_at (ys ++ List.replicate (len - k) pv0) k (by omega)
   obtain ⟨u0, d0⟩ : ∃ u, w2.cell? ⟨w.heap.size, k * 3, none⟩ = some u := by
    rw [hown2.cellAt (k * 3) (by omega), v0]; exact ⟨_, rfl⟩
   obtain ⟨u1, d1⟩ : ∃ u, w2.cell? ⟨w.heap.size, k * 3 + 1, none⟩ = some u := by
    rw [hown2.cellAt (k * 3 + 1) (by omega), v1]; exact ⟨_, rfl⟩
   obtain ⟨u2, d2⟩ : ∃ u, w2.cell? ⟨w.heap.size, k * 3 + 2, none⟩ = some u := by
    rw [hown2.cellAt (k * 3 + 2) (by omega), v2]; exact ⟨_, rfl⟩
   have e0 := hown2.frozenAt (k * 3)
   have e1 := hown2.frozenAt (k * 3 + 1)
   have e2 := hown2.frozenAt (k * 3 + 2)
   have hs1 := hown2.stored (k * 3) (.string ⟨nm.toArray⟩)
   have hs2 := hs1.1.stored (k * 3 + 1) (.slice a1 ims.length c1')
   have hs3 := hs2.1.stored (k * 3 + 2) (.slice (some ⟨g2, 0, none⟩) fs.length fs.length)
   have hnew := hs3.1
   have hset := pvsV_set (ys ++ List.replicate (len - k) pv0) k y
   rw [fill_pv ys len k _ hyl (by omega), hyI, hyF, hyN] at hset
   rw [hset] at hnew
   have hgr : w2.grownBy (((w2.setCell ⟨w.heap.size, k * 3, none⟩ (.string ⟨nm.toArray⟩)).setCell ⟨w.heap.size, k * 3 + 1, none⟩ (.slice a1 ims.length c1')).setCell ⟨w.heap.size, k * 3 + 2, none⟩ (.slice (some ⟨g2, 0, none⟩) fs.length fs.length)) (some w.heap.size) := ((grown_set _ _ _ _).trans (grown_set _ _ _ _)).trans (grown_set _ _ _ _)
   have hB2 : Below w.heap.size w w2 := HB.out.trans (hb2.mono HB.out.size)
   obtain ⟨Z, hZ⟩ : ∃ Z, (((w2.setCell ⟨w.heap.size, k * 3, none⟩ (.string ⟨nm.toArray⟩)).setCell ⟨w.heap.size, k * 3 + 1, none⟩ (.slice a1 ims.length c1')).setCell ⟨w.heap.size, k * 3 + 2, none⟩ (.slice (some ⟨g2, 0, none⟩) fs.length fs.length)) = Z := ⟨_, rfl⟩
   rw [hZ] at hnew hgr
   have hszZ : Z.heap.size = w2.heap.size := by rw [← hZ]; simp
   have hwr : Wrote w2 Z (fun q => q = w.heap.size) := Wrote.of_grown hgr (fun q e => by injection e with e; exact e.symm)
   have HN : Hid (Below w.heap.size w Z) := hB2.grown hgr hB2.size (fun q e => by injection e with e; omega)
   have HR2 : Hid (Z.ownsRow w.heap.size 51 3 (.slice (some ⟨w.heap.size, 0, none⟩) len len) len (pvsV ((ys ++ [y]) ++ List.replicate (len - (k + 1)) pv0))) := hnew
   have HE2 : Hid ((∀ z ∈ ys ++ [y], PvOk Z z ∧ w.heap.size < z.lo ∧ z.hi ≤ Z.heap.size) ∧ (ys ++ [y]).Pairwise (fun a b => a.hi ≤ b.lo)) := by
    refine ⟨fun z hz => ?_, List.pairwise_append.2 ⟨HE.out.2, List.pairwise_singleton _ _, fun z hz q hq => ?_⟩⟩
    ·
     rw [List.mem_append, List.mem_singleton] at hz
     have h2s := hb2.size
     rcases hz with hz | rfl
     ·
      have h3 := hE2 z hz
      exact ⟨h3.1.wrote hwr (fun q e => by omega), h3.2.1, by omega⟩
     ·
      exact ⟨hyok.wrote hwr (fun q e => by omega), by omega, by omega⟩
    ·
     rw [List.mem_singleton] at hq
     subst hq
     have := (hE2 z hz).2.2
     omega
   have HM2 : Hid ((ys ++ [y]).map pvP = ps.take (k + 1)) := by exact (by rw [List.map_append, HM.out, HMK.out]; simp [hyP] : (ys ++ [y]).map pvP = ps.take (k + 1))
   clear hown2 hs1 hs2 hs3 hl2 v0 v1 v2 hnew hset hgr hB2 HC HR HE HM hE2 HMK hyok hyP hyI hyF hyN hylo hwr hszZ hoi hof hap hb2 hxs
   go_wp2
   go_roundw
   case rel => exact ⟨k + 1, ys ++ [y], by omega, by go_num, by simp [hyl], HM2, HR2, HE2, HN⟩
   case measure => simp [intOf]; omega
  ·
   have hd : ys ++ List.replicate (len - k) pv0 = ys := by rw [show len - k = 0 by omega]; simp
   have hrow := HR.out
   rw [hd] at hrow
   have HM2 : Hid (ys.map pvP = ps) := by exact (by rw [HM.out]; exact List.take_of_length_le (by omega) : ys.map pvP = ps)
   have HF : Hid (PjOwn wr w.heap.size wr.heap.size (.slice (some ⟨w.heap.size, 0, none⟩) len len) ys) := by
    refine (⟨by rw [show ys.length = len by omega]; exact hrow, fun y hy => ⟨(HE.out.1 y hy).1, by have := (HE.out.1 y hy).2.1; omega, (HE.out.1 y hy).2.2⟩, HE.out.2, fun q e => ?_, Nat.le_refl _⟩ : PjOwn wr w.heap.size wr.heap.size (.slice (some ⟨w.heap.size, 0, none⟩) len len) ys)
    have e2 : w.heap.size = q := by simpa [Value.ownBlock] using e
    subst e2
    exact ⟨(hrow.lt _ rfl).2, fun y hy => Or.inl (HE.out.1 y hy).2.1⟩
   clear hd hrow HR HE HM
   go_wp2
   go_ret
   exact ⟨rfl, ys, HM2.out, HF.out, HB.out⟩

end Go.Proofs.YtaidhjjpdkkmcaaGreatDoor
