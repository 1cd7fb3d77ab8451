/-
  Parts of one proof, one behind the other: FnT, NodeIn, PackK.
-/
import Derived.Test.YtiekcenknniniaaDoorP10
import Derived.Test.YtiekcenknniniaaDoorP8
import Derived.Test.YtiekcenknniniaaDoorRows
import Derived.WalkKit
import Derived.ProofKit
import Derived.OpenShut
import Derived.ShutString
import Derived.ChangeOld
import Derived.Below
import Derived.Lib.SmallJoins
import Derived.Deep.SlicePairs
import Derived.Test.YtiekcenknniniaaDoorP5
import Derived.Test.YtiekcenknniniaaDoorP7

/-! The laws' own helpers over functions and packages: toFunc, toFuncS, toPackage. -/
namespace Go.Proofs.YtiekcenknniniaaDoor
open Go.RowKit

set_option maxHeartbeats 2000000 in
set_option maxRecDepth 100000 in
theorem toFuncC (s : List UInt8) (n : Int) (t : List Nd) (ta : Option Addr) (tl tc : Nat) (w : World) (hin : NodesIn w ta tl t) (hlen : tl ≤ 1048576) :
    Calls Tryd.prog 31 #[.agg #[.string ⟨s.toArray⟩, .int .i64 n, .slice ta tl tc]] w fun e w' => ∃ a c, e = .returned (.agg #[.string ⟨s.toArray⟩, .int .i64 n, .slice a t.length c]) ∧ w'.ownsRow w.heap.size 65 4 (.slice a t.length c) t.length (nodesV t) ∧ Below w.heap.size w w' := by
  obtain rfl : t.length = tl := hin.1
  obtain ⟨D, hD⟩ : ∃ D, w.heap.size = D := ⟨_, rfl⟩
  obtain ⟨W1, hW1⟩ : ∃ W, w.alloc (.cells #[.string ⟨s.toArray⟩, .int .i64 n, .slice ta t.length tc] 52) = W := ⟨_, rfl⟩
  obtain ⟨W2, hW2⟩ : ∃ W, W1.alloc (.cells #[.string ⟨#[]⟩, .int .i64 0, .slice none 0 0] 42) = W := ⟨_, rfl⟩
  have hs1 : W1.heap.size = D + 1 := by rw [← hW1, ← hD]; simp
  have hs2 : W2.heap.size = D + 2 := by rw [← hW2]; simp [hs1]
  have hb1 : Below D w W1 := by rw [← hW1, ← hD]; exact (Below.refl _ _).alloc (Nat.le_refl _) _
  have hb12 : Below W1.heap.size W1 W2 := by rw [← hW2]; exact (Below.refl _ _).alloc (Nat.le_refl _) _
  have hb2 : Below D w W2 := hb1.trans (hb12.mono (by omega))
  have hA1 : W1.heap[D]? = some (.cells #[.string ⟨s.toArray⟩, .int .i64 n, .slice ta t.length tc] 52) := by rw [← hW1, ← hD]; exact heap_alloc_new w _
  have hR : W2.heap[D + 1]? = some (.cells #[.string ⟨#[]⟩, .int .i64 0, .slice none 0 0] 42) := by rw [← hs1, ← hW2]; exact heap_alloc_new W1 _
  obtain ⟨q0, q1, q2, _⟩ := three hb12 (by omega) hA1
  have a0 : ∀ o, (W2.alloc o).cell? ⟨D, 0, none⟩ = some (.string ⟨s.toArray⟩) := fun o => cell_alw o q0
  have a1 : ∀ o, (W2.alloc o).cell? ⟨D, 1, none⟩ = some (.int .i64 n) := fun o => cell_alw o q1
  have a2 : ∀ o, (W2.alloc o).cell? ⟨D, 2, none⟩ = some (.slice ta t.length tc) := fun o => cell_alw o q2
  have HIN : Hid (NodesIn W2 ta t.length t) := hin.below (by rw [hD]; exact hb2)
  clear hin hA1 q0 q1 q2
  go_enter Tryd.func31, Tryd.ntmps31
  go_wp2_with fail
  obtain ⟨V, hV⟩ : ∃ V, W2.alloc (.cells #[.string ⟨s.toArray⟩, .int .i64 n, .slice none 0 0] 42) = V := ⟨_, rfl⟩
  rw [hV]
  have hbV : Below W2.heap.size W2 V := by rw [← hV]; exact (Below.refl _ _).alloc (Nat.le_refl _) _
  have hsV : V.heap.size = D + 3 := by rw [← hV]; simp [hs2]
  have hL : V.heap[D + 2]? = some (.cells #[.string ⟨s.toArray⟩, .int .i64 n, .slice none 0 0] 42) := by rw [← hs2, ← hV]; exact heap_alloc_new W2 _
  have hRV : V.heap[D + 1]? = some (.cells #[.string ⟨#[]⟩, .int .i64 0, .slice none 0 0] 42) := (hbV.block _ (by omega)).trans hR
  refine (toNodeSC ta t.length tc t V (HIN.out.below hbV) hlen).mono ?_
  rintro e w4 ⟨v, rfl, hown, _, hb4⟩
  obtain ⟨_, a', c', rfl, _⟩ := own_nodes hown
  obtain ⟨l0, l1, l2, lf⟩ := three hb4 (by omega) hL
  obtain ⟨r0, r1, r2, rf⟩ := three hb4 (by omega) hRV
  have hB4 : Below D w w4 := hb2.trans ((hbV.mono (by omega)).trans (hb4.mono (by omega)))
  have hs4 : D + 3 ≤ w4.heap.size := by have := hb4.size; omega
  rw [hsV] at hown
  obtain ⟨U, hU⟩ : ∃ U, w4.setCell ⟨D + 2, 2, none⟩ (.slice a' t.length c') = U := ⟨_, rfl⟩
  have hgU : w4.grownBy U (some (D + 2)) := by rw [← hU]; exact grown_set _ _ _ _
  have u0 : U.cell? ⟨D + 2, 0, none⟩ = some (.string ⟨s.toArray⟩) := by rw [← hU]; exact (World.cell?_setCell_other _ _ _ _ (by simp)).trans l0
  have u1 : U.cell? ⟨D + 2, 1, none⟩ = some (.int .i64 n) := by rw [← hU]; exact (World.cell?_setCell_other _ _ _ _ (by simp)).trans l1
  have u2 : U.cell? ⟨D + 2, 2, none⟩ = some (.slice a' t.length c') := by rw [← hU]; exact World.cell?_setCell_same _ _ _ l2
  have p0 : U.cell? ⟨D + 1, 0, none⟩ = some (.string ⟨#[]⟩) := by rw [← hU]; exact (World.cell?_setCell_other _ _ _ _ (by simp)).trans r0
  have p1 : U.cell? ⟨D + 1, 1, none⟩ = some (.int .i64 0) := by rw [← hU]; exact (World.cell?_setCell_other _ _ _ _ (by simp)).trans r1
  have p2 : U.cell? ⟨D + 1, 2, none⟩ = some (.slice none 0 0) := by rw [← hU]; exact (World.cell?_setCell_other _ _ _ _ (by simp)).trans r2
  have pf : ∀ j, U.frozen? ⟨D + 1, j, none⟩ = false := fun j => by rw [← hU]; exact (World.frozen?_setCell ..).trans (rf j)
  have pf0 := pf 0
  have pf1 := pf 1
  have pf2 := pf 2
  have lf2 := lf 2
  have HOU : Hid (U.ownsRow (D + 3) 65 4 (.slice a' t.length c') t.length (nodesV t)) := hown.kept hgU (own_off hown (by omega))
  have HBU : Hid (Below D w U) := hB4.grown hgU (by omega) (fun k e => by injection e with e; omega)
  have hsU : D + 3 ≤ U.heap.size := Nat.le_trans hs4 hgU.size
  clear hown hb4 hB4 hgU pf lf rf l0 l1 r0 r1 r2 a0 a1 a2 hL hRV hR hbV hb12 hb1 hb2 HIN
  go_wp2
  obtain ⟨Y, hY, y0, y1, y2, hg⟩ := set3 (.string ⟨s.toArray⟩) (.int .i64 n) (.slice a' t.length c') p0 p1 p2
  rw [hY]
  refine bodyPost_ret (v := .agg #[.string ⟨s.toArray⟩, .int .i64 n, .slice a' t.length c']) (by simp [results, Tryd.results31, go_sem, y0, y1, y2]) rfl ?_
  exact ⟨a', c', rfl, own_base (HOU.out.kept hg (own_off HOU.out (by omega))) (by omega), by rw [hD]; exact HBU.out.grown hg (by omega) (fun k e => by injection e with e; omega)⟩

theorem fnsV_set (xs : List FV) (j : Nat) (y : FV) : (((fnsV xs).set (j * 3) (.string ⟨y.1.1.toArray⟩)).set (j * 3 + 1) (.int .i64 y.1.2.1)).set (j * 3 + 2) (fvT y) = fnsV (xs.set j y) := by
  induction xs generalizing j with
  | nil => simp [fnsV]
  | cons b r ih =>
    cases j with
    | zero => simp [fnsV]
    | succ j => rw [show (j + 1) * 3 = j * 3 + 1 + 1 + 1 by omega]; simp [fnsV, ih]

theorem made_fns (n : Nat) : (madeCells (Value.agg #[.string ⟨#[]⟩, .int .i64 0, .slice none 0 0]).cells (n * 3)).toList = fnsV (List.replicate n fv0) := by
  have hc : (Value.agg #[.string ⟨#[]⟩, .int .i64 0, .slice none 0 0]).cells = #[.string ⟨#[]⟩, .int .i64 0, .slice none 0 0] := rfl
  rw [hc]
  apply List.ext_getElem?
  intro j
  by_cases hj : j < n * 3
  · obtain ⟨v0, v1, v2⟩ := fnsV_at (List.replicate n fv0) (j / 3) (by simp; omega)
    have hg : (List.replicate n fv0).getD (j / 3) fv0 = fv0 := by simp [List.getD, List.getElem?_replicate]; split <;> rfl
    rw [hg] at v0 v1 v2
    have h3 : j % 3 = 0 ∨ j % 3 = 1 ∨ j % 3 = 2 := by omega
    rcases h3 with h' | h' | h'
    · have ej : j = j / 3 * 3 := by omega
      rw [← ej] at v0
      rw [v0]
      simp [madeCells, hj, h', fv0, fn0]
    · have ej : j = j / 3 * 3 + 1 := by omega
      rw [← ej] at v1
      rw [v1]
      simp [madeCells, hj, h', fv0, fn0]
    · have ej : j = j / 3 * 3 + 2 := by omega
      rw [← ej] at v2
      rw [v2]
      simp [madeCells, hj, h', fv0, fn0, fvT]
  · rw [List.getElem?_eq_none (by simp [madeCells]; omega), List.getElem?_eq_none (by rw [fnsV_len]; simp; omega)]

theorem fill_fn (ys : List FV) (len k : Nat) (y : FV) (hy : ys.length = k) (hk : k < len) : (ys ++ List.replicate (len - k) fv0).set k y = (ys ++ [y]) ++ List.replicate (len - (k + 1)) fv0 := by
  rw [List.set_append_right _ _ (by omega), hy, Nat.sub_self, show len - k = (len - (k + 1)) + 1 by omega, List.replicate_succ, List.set_cons_zero, List.append_assoc]
  rfl

set_option maxHeartbeats 4000000 in
set_option maxRecDepth 100000 in
theorem toFuncSC (a : Option Addr) (len cap : Nat) (fs : List Fn) (w : World) (hin : FuncsIn w a len fs) (hlen : len ≤ 1048576) (hsh : ∀ j, (fs.getD j fn0).2.2.length ≤ 1048576) :
    Calls Tryd.prog 14 #[.slice a len cap] w fun e w' => ∃ g xs, e = .returned (.slice (some ⟨g, 0, none⟩) len len) ∧ xs.map (·.1) = fs ∧ FnsOwn w' w.heap.size (.slice (some ⟨g, 0, none⟩) len len) xs ∧ Apart (xs.map fvT) ∧ Below w.heap.size w w' := by
  obtain ⟨i0, hi, hz0, hz1, hz2⟩ := info_parts infoFunc
  have hlb := hin.1
  have HI : Hid (FuncsIn w a len fs) := hin
  have HSH : Hid (∀ j, (fs.getD j fn0).2.2.length ≤ 1048576) := hsh
  clear hin hsh
  go_enter Tryd.func14, Tryd.ntmps14
  go_wp2_with (at_make; refine wpList_make_full _ rfl _ _ 28 rfl w.heap.size 42 i0 _ 3 Tryd.underlying28 hi hz0 hz1 .i64 .i64 _ _ len rfl rfl rfl rfl (by rw [hz2]; omega) (by unfold maxLen; omega) (Nat.le_refl _) ?_; intro w1 hown1 hgrow1)
  rw [made_fns] at hown1
  have hB1 : Below w.heap.size w w1 := (Below.refl _ _).grown hgrow1 (Nat.le_refl _) (by simp)
  clear hgrow1
  go_loopw [4] (fun i wr => ∃ (k : Nat) (ys : List FV), k ≤ len ∧ i = .int .i64 k ∧ ys.length = k ∧ Hid (ys.map (·.1) = fs.take k) ∧ Hid (wr.ownsRow w.heap.size 42 3 (.slice (some ⟨w.heap.size, 0, none⟩) len len) len (fnsV (ys ++ List.replicate (len - k) fv0))) ∧ Hid (∀ x ∈ ys, wr.ownsRow w.heap.size 65 4 (fvT x) x.1.2.2.length (nodesV x.1.2.2)) ∧ Hid (Apart (ys.map fvT)) ∧ Below w.heap.size w wr) (fun i _ => len - (intOf i).toNat)
  case atStart => exact ⟨0, [], Nat.zero_le _, rfl, rfl, (by simp : ([] : List FV).map (·.1) = fs.take 0), (by simpa using hown1 : w1.ownsRow w.heap.size 42 3 (.slice (some ⟨w.heap.size, 0, none⟩) len len) len (fnsV ([] ++ List.replicate (len - 0) fv0))), (fun x hx => (by cases hx) : ∀ x ∈ ([] : List FV), _), Apart.nil, hB1⟩
  case round =>
    obtain ⟨k, ys, hk, rfl, hyl, HM, HR, HT, HAP, hB⟩ := hrel
    clear hown1 hB1
    by_cases hkl : (k : Int) < (len : Int)
    · obtain ⟨b, off, rfl, hbl, c0, c1, ta, tl, tc, c2, hnc, hnin⟩ := (HI.out.below hB).2 k (by omega)
      have hts := HSH.out k
      have hmk : fs.take (k + 1) = fs.take k ++ [fs.getD k fn0] := by
        have hg : fs.getD k fn0 = fs[k]'(by omega) := by simp [List.getD, show k < fs.length by omega]
        rw [hg, List.take_succ_eq_append_getElem]
      obtain ⟨f, hf⟩ : ∃ f, fs.getD k fn0 = f := ⟨_, rfl⟩
      rw [hf] at c0 c1 hnin hts hmk
      obtain ⟨s, n, t⟩ := f
      simp only at c0 c1 hnin hts
      obtain rfl : t.length = tl := hnin.1
      have HMK : Hid (fs.take (k + 1) = fs.take k ++ [(s, n, t)]) := hmk
      have HC := toFuncC s n t ta t.length tc wr hnin (by omega)
      clear hf hnin hmk
      go_wp2_with fail
      refine HC.mono ?_
      rintro e w2 ⟨av, cv, rfl, hownT, hb2⟩
      have hown2 := own_below HR.out hb2
      have hT2 : ∀ x ∈ ys, w2.ownsRow w.heap.size 65 4 (fvT x) x.1.2.2.length (nodesV x.1.2.2) := fun x hx => own_below (HT.out x hx) hb2
      have hl2 : (ys ++ List.replicate (len - k) fv0).length = len := by rw [List.length_append, List.length_replicate]; omega
      obtain ⟨v0, v1, v2⟩ := fnsV_at (ys ++ List.replicate (len - k) fv0) k (by omega)
      obtain ⟨u0, d0⟩ : ∃ u, w2.cell? ⟨w.heap.size, k * 3, none⟩ = some u := by
        rw [hown2.cellAt (k * 3) (by omega), v0]; exact ⟨_, rfl⟩
      obtain ⟨u1, d1⟩ : ∃ u, w2.cell? ⟨w.heap.size, k * 3 + 1, none⟩ = some u := by
        rw [hown2.cellAt (k * 3 + 1) (by omega), v1]; exact ⟨_, rfl⟩
      obtain ⟨u2, d2⟩ : ∃ u, w2.cell? ⟨w.heap.size, k * 3 + 2, none⟩ = some u := by
        rw [hown2.cellAt (k * 3 + 2) (by omega), v2]; exact ⟨_, rfl⟩
      have e0 := hown2.frozenAt (k * 3)
      have e1 := hown2.frozenAt (k * 3 + 1)
      have e2 := hown2.frozenAt (k * 3 + 2)
      have hs1 := hown2.stored (k * 3) (.string ⟨s.toArray⟩)
      have hs2 := hs1.1.stored (k * 3 + 1) (.int .i64 n)
      have hs3 := hs2.1.stored (k * 3 + 2) (.slice av t.length cv)
      have hnew := hs3.1
      have hset := fnsV_set (ys ++ List.replicate (len - k) fv0) k ((s, n, t), av, cv)
      rw [fill_fn ys len k _ hyl (by omega)] at hset
      have hfv : fvT ((s, n, t), av, cv) = .slice av t.length cv := rfl
      rw [hfv] at hset
      simp only at hset
      rw [hset] at hnew
      have hgr : w2.grownBy (((w2.setCell ⟨w.heap.size, k * 3, none⟩ (.string ⟨s.toArray⟩)).setCell ⟨w.heap.size, k * 3 + 1, none⟩ (.int .i64 n)).setCell ⟨w.heap.size, k * 3 + 2, none⟩ (.slice av t.length cv)) (some w.heap.size) := ((grown_set _ _ _ _).trans (grown_set _ _ _ _)).trans (grown_set _ _ _ _)
      have hsome : (Value.slice (some ⟨w.heap.size, 0, none⟩) len len).ownBlock = some w.heap.size := rfl
      have offT : ∀ {v : Value} {m : Nat} {zs : List Value}, w2.ownsRow w.heap.size 65 4 v m zs → v.ownBlock = none ∨ v.ownBlock ≠ some w.heap.size := fun ho => by rw [← hsome]; exact own_types ho hown2 (by decide)
      have hB2 : Below w.heap.size w w2 := hB.trans (hb2.mono hB.size)
      have hownT2 := own_base hownT hB.size
      have HAP2 : Hid (Apart ((ys ++ [((s, n, t), av, cv)]).map fvT)) := by
        rw [List.map_append]
        refine HAP.out.snoc (fun v hv => ?_)
        obtain ⟨x, hx, rfl⟩ := List.mem_map.1 hv
        exact own_ahead (HT.out x hx) hownT (Nat.le_refl _)
      have HN : Hid (Below w.heap.size w (((w2.setCell ⟨w.heap.size, k * 3, none⟩ (.string ⟨s.toArray⟩)).setCell ⟨w.heap.size, k * 3 + 1, none⟩ (.int .i64 n)).setCell ⟨w.heap.size, k * 3 + 2, none⟩ (.slice av t.length cv))) := hB2.grown hgr hB2.size (fun q e => by injection e with e; omega)
      have HR2 : Hid ((((w2.setCell ⟨w.heap.size, k * 3, none⟩ (.string ⟨s.toArray⟩)).setCell ⟨w.heap.size, k * 3 + 1, none⟩ (.int .i64 n)).setCell ⟨w.heap.size, k * 3 + 2, none⟩ (.slice av t.length cv)).ownsRow w.heap.size 42 3 (.slice (some ⟨w.heap.size, 0, none⟩) len len) len (fnsV ((ys ++ [((s, n, t), av, cv)]) ++ List.replicate (len - (k + 1)) fv0))) := hnew
      have HT2 : Hid (∀ x ∈ ys ++ [((s, n, t), av, cv)], (((w2.setCell ⟨w.heap.size, k * 3, none⟩ (.string ⟨s.toArray⟩)).setCell ⟨w.heap.size, k * 3 + 1, none⟩ (.int .i64 n)).setCell ⟨w.heap.size, k * 3 + 2, none⟩ (.slice av t.length cv)).ownsRow w.heap.size 65 4 (fvT x) x.1.2.2.length (nodesV x.1.2.2)) := fun x hx => by
        rw [List.mem_append, List.mem_singleton] at hx
        rcases hx with hx | rfl
        · exact (hT2 x hx).kept hgr (offT (hT2 x hx))
        · exact hownT2.kept hgr (offT hownT2)
      have HM2 : Hid ((ys ++ [((s, n, t), av, cv)]).map (·.1) = fs.take (k + 1)) := by exact (by rw [List.map_append, HM.out, HMK.out]; rfl : (ys ++ [((s, n, t), av, cv)]).map (·.1) = fs.take (k + 1))
      have hsz2 : w.heap.size < w2.heap.size := World.block_lt_of_cell? w2 ⟨w.heap.size, k * 3, none⟩ d0
      clear hown2 hs1 hs2 hs3 hl2 v0 v1 v2 hnew hset hfv hgr hsome offT hB2 hownT2 hownT HC HR HT HM hT2 HMK
      go_wp2
      go_roundw
      case rel => exact ⟨k + 1, ys ++ [((s, n, t), av, cv)], by omega, by go_num, by simp [hyl], HM2, HR2, HT2, HAP2, HN.out⟩
      case measure => simp [intOf]; omega
    · have hd : ys ++ List.replicate (len - k) fv0 = ys := by rw [show len - k = 0 by omega]; simp
      have hrow := HR.out
      rw [hd] at hrow
      have HF : Hid (FnsOwn wr w.heap.size (.slice (some ⟨w.heap.size, 0, none⟩) len len) ys) := (⟨by rw [show ys.length = len by omega]; exact hrow, HT.out⟩ : FnsOwn wr w.heap.size (.slice (some ⟨w.heap.size, 0, none⟩) len len) ys)
      have HM2 : Hid (ys.map (·.1) = fs) := by exact (by rw [HM.out]; exact List.take_of_length_le (by omega) : ys.map (·.1) = fs)
      clear hd hrow HR HT HM
      go_wp2
      go_ret
      exact ⟨w.heap.size, rfl, ys, HM2.out, HF.out, HAP.out, hB⟩

set_option maxHeartbeats 4000000 in
set_option maxRecDepth 100000 in
theorem toPackageC (nm : List UInt8) (ia : Option Addr) (il ic : Nat) (fa : Option Addr) (fl fc : Nat) (ims : List (List UInt8)) (fs : List Fn) (w : World) (hi : TextsIn w ia il ims) (hf : FuncsIn w fa fl fs) (hil : il ≤ 1048576) (hfl : fl ≤ 1048576) (hsh : ∀ j, (fs.getD j fn0).2.2.length ≤ 1048576) :
    Calls Tryd.prog 6 #[.agg #[.string ⟨nm.toArray⟩, .slice ia il ic, .slice fa fl fc]] w fun e w' => ∃ a1 c1 g2 xs, e = .returned (.agg #[.string ⟨nm.toArray⟩, .slice a1 il c1, .slice (some ⟨g2, 0, none⟩) fl fl]) ∧ xs.map (·.1) = fs ∧ w'.ownsRow w.heap.size 9 1 (.slice a1 il c1) il (strV ims) ∧ FnsOwn w' w.heap.size (.slice (some ⟨g2, 0, none⟩) fl fl) xs ∧ Apart (xs.map fvT) ∧ Below w.heap.size w w' := by
  obtain ⟨D, hD⟩ : ∃ D, w.heap.size = D := ⟨_, rfl⟩
  obtain ⟨W1, hW1⟩ : ∃ W, w.alloc (.cells #[.string ⟨nm.toArray⟩, .slice ia il ic, .slice fa fl fc] 25) = W := ⟨_, rfl⟩
  obtain ⟨W2, hW2⟩ : ∃ W, W1.alloc (.cells #[.string ⟨#[]⟩, .slice none 0 0, .slice none 0 0] 30) = W := ⟨_, rfl⟩
  have hs1 : W1.heap.size = D + 1 := by rw [← hW1, ← hD]; simp
  have hs2 : W2.heap.size = D + 2 := by rw [← hW2]; simp [hs1]
  have hb1 : Below D w W1 := by rw [← hW1, ← hD]; exact (Below.refl _ _).alloc (Nat.le_refl _) _
  have hb12 : Below W1.heap.size W1 W2 := by rw [← hW2]; exact (Below.refl _ _).alloc (Nat.le_refl _) _
  have hb2 : Below D w W2 := hb1.trans (hb12.mono (by omega))
  have hA1 : W1.heap[D]? = some (.cells #[.string ⟨nm.toArray⟩, .slice ia il ic, .slice fa fl fc] 25) := by rw [← hW1, ← hD]; exact heap_alloc_new w _
  have hA2 : W2.heap[D]? = some (.cells #[.string ⟨nm.toArray⟩, .slice ia il ic, .slice fa fl fc] 25) := (hb12.block _ (by omega)).trans hA1
  have hR : W2.heap[D + 1]? = some (.cells #[.string ⟨#[]⟩, .slice none 0 0, .slice none 0 0] 30) := by rw [← hs1, ← hW2]; exact heap_alloc_new W1 _
  obtain ⟨q0, q1, q2, _⟩ := three hb12 (by omega) hA1
  have a0 : ∀ o, (W2.alloc o).cell? ⟨D, 0, none⟩ = some (.string ⟨nm.toArray⟩) := fun o => cell_alw o q0
  have a1 : ∀ o, (W2.alloc o).cell? ⟨D, 1, none⟩ = some (.slice ia il ic) := fun o => cell_alw o q1
  have HI2 : Hid (TextsIn W2 ia il ims) := hi.below (by rw [hD]; exact hb2)
  have HF0 : Hid (FuncsIn w fa fl fs) := hf
  have HSH : Hid (∀ j, (fs.getD j fn0).2.2.length ≤ 1048576) := hsh
  clear hi hf hA1 q0 q1 q2 hsh
  go_enter Tryd.func6, Tryd.ntmps6
  go_wp2_with fail
  obtain ⟨V, hV⟩ : ∃ V, W2.alloc (.cells #[.string ⟨nm.toArray⟩, .slice none 0 0, .slice none 0 0] 30) = V := ⟨_, rfl⟩
  rw [hV]
  have hbV : Below W2.heap.size W2 V := by rw [← hV]; exact (Below.refl _ _).alloc (Nat.le_refl _) _
  have hsV : V.heap.size = D + 3 := by rw [← hV]; simp [hs2]
  have hL : V.heap[D + 2]? = some (.cells #[.string ⟨nm.toArray⟩, .slice none 0 0, .slice none 0 0] 30) := by rw [← hs2, ← hV]; exact heap_alloc_new W2 _
  have hRV : V.heap[D + 1]? = some (.cells #[.string ⟨#[]⟩, .slice none 0 0, .slice none 0 0] 30) := (hbV.block _ (by omega)).trans hR
  have hAV : V.heap[D]? = some (.cells #[.string ⟨nm.toArray⟩, .slice ia il ic, .slice fa fl fc] 25) := (hbV.block _ (by omega)).trans hA2
  refine (toStringSC ia il ic ims V (HI2.out.below hbV) hil).mono ?_
  rintro e w4 ⟨v, rfl, hown, _, hb4⟩
  obtain ⟨_, a', c', rfl, _⟩ := own_texts hown
  obtain ⟨l0, l1, l2, lf⟩ := three hb4 (by omega) hL
  obtain ⟨r0, r1, r2, rf⟩ := three hb4 (by omega) hRV
  obtain ⟨_, _, b2, _⟩ := three hb4 (by omega) hAV
  have hB4 : Below D w w4 := hb2.trans ((hbV.mono (by omega)).trans (hb4.mono (by omega)))
  have hs4 : D + 3 ≤ w4.heap.size := by have := hb4.size; omega
  rw [hsV] at hown
  obtain ⟨U, hU⟩ : ∃ U, w4.setCell ⟨D + 2, 1, none⟩ (.slice a' il c') = U := ⟨_, rfl⟩
  have hgU : w4.grownBy U (some (D + 2)) := by rw [← hU]; exact grown_set _ _ _ _
  have u0 : U.cell? ⟨D + 2, 0, none⟩ = some (.string ⟨nm.toArray⟩) := by rw [← hU]; exact (World.cell?_setCell_other _ _ _ _ (by simp)).trans l0
  have u1 : U.cell? ⟨D + 2, 1, none⟩ = some (.slice a' il c') := by rw [← hU]; exact World.cell?_setCell_same _ _ _ l1
  have u2 : U.cell? ⟨D + 2, 2, none⟩ = some (.slice none 0 0) := by rw [← hU]; exact (World.cell?_setCell_other _ _ _ _ (by simp)).trans l2
  have d2 : U.cell? ⟨D, 2, none⟩ = some (.slice fa fl fc) := by rw [← hU]; exact (World.cell?_setCell_other _ _ _ _ (by simp)).trans b2
  have p0 : U.cell? ⟨D + 1, 0, none⟩ = some (.string ⟨#[]⟩) := by rw [← hU]; exact (World.cell?_setCell_other _ _ _ _ (by simp)).trans r0
  have p1 : U.cell? ⟨D + 1, 1, none⟩ = some (.slice none 0 0) := by rw [← hU]; exact (World.cell?_setCell_other _ _ _ _ (by simp)).trans r1
  have p2 : U.cell? ⟨D + 1, 2, none⟩ = some (.slice none 0 0) := by rw [← hU]; exact (World.cell?_setCell_other _ _ _ _ (by simp)).trans r2
  have pf : ∀ j, U.frozen? ⟨D + 1, j, none⟩ = false := fun j => by rw [← hU]; exact (World.frozen?_setCell ..).trans (rf j)
  have uf : ∀ j, U.frozen? ⟨D + 2, j, none⟩ = false := fun j => by rw [← hU]; exact (World.frozen?_setCell ..).trans (lf j)
  have lf1 := lf 1
  have hOU : U.ownsRow (D + 3) 9 1 (.slice a' il c') il (strV ims) := hown.kept hgU (own_off hown (by omega))
  have hBU : Below D w U := hB4.grown hgU (by omega) (fun k e => by injection e with e; omega)
  have hsU : D + 3 ≤ U.heap.size := Nat.le_trans hs4 hgU.size
  have hFU : FuncsIn U fa fl fs := HF0.out.below (by rw [hD]; exact hBU)
  have HC2 := toFuncSC fa fl fc fs U hFU hfl HSH.out
  have hl2 : D + 2 < U.heap.size := by omega
  have hl1 : D + 1 < U.heap.size := by omega
  clear hown hb4 hB4 hgU lf rf l0 l2 r0 r1 r2 a0 a1 hL hRV hR hbV hb12 hb1 hb2 HI2 b2 hA2 hAV HF0 HSH
  go_wp2_with fail
  refine HC2.mono ?_
  rintro e w5 ⟨g2, xs, rfl, hxs, hfo, hap, hb5⟩
  have HAP : Hid (Apart (xs.map fvT)) := hap
  clear hap
  have n0 := (hb5.cell (p := ⟨D + 2, 0, none⟩) hl2).trans u0
  have n1 := (hb5.cell (p := ⟨D + 2, 1, none⟩) hl2).trans u1
  have n2 := (hb5.cell (p := ⟨D + 2, 2, none⟩) hl2).trans u2
  have m0 := (hb5.cell (p := ⟨D + 1, 0, none⟩) hl1).trans p0
  have m1 := (hb5.cell (p := ⟨D + 1, 1, none⟩) hl1).trans p1
  have m2 := (hb5.cell (p := ⟨D + 1, 2, none⟩) hl1).trans p2
  have mf : ∀ j, w5.frozen? ⟨D + 1, j, none⟩ = false := fun j => (hb5.frozen (p := ⟨D + 1, j, none⟩) hl1).trans (pf j)
  have nf2 := (hb5.frozen (p := ⟨D + 2, 2, none⟩) hl2).trans (uf 2)
  have hO5 := own_below hOU hb5
  have hfo5 := hfo.base hsU
  have hB5 : Below D w w5 := hBU.trans (hb5.mono (by omega))
  have hs5 : D + 3 ≤ w5.heap.size := Nat.le_trans hsU hb5.size
  obtain ⟨X, hX⟩ : ∃ X, w5.setCell ⟨D + 2, 2, none⟩ (.slice (some ⟨g2, 0, none⟩) fl fl) = X := ⟨_, rfl⟩
  have hgX : w5.grownBy X (some (D + 2)) := by rw [← hX]; exact grown_set _ _ _ _
  have x0 : X.cell? ⟨D + 2, 0, none⟩ = some (.string ⟨nm.toArray⟩) := by rw [← hX]; exact (World.cell?_setCell_other _ _ _ _ (by simp)).trans n0
  have x1 : X.cell? ⟨D + 2, 1, none⟩ = some (.slice a' il c') := by rw [← hX]; exact (World.cell?_setCell_other _ _ _ _ (by simp)).trans n1
  have x2 : X.cell? ⟨D + 2, 2, none⟩ = some (.slice (some ⟨g2, 0, none⟩) fl fl) := by rw [← hX]; exact World.cell?_setCell_same _ _ _ n2
  have z0 : X.cell? ⟨D + 1, 0, none⟩ = some (.string ⟨#[]⟩) := by rw [← hX]; exact (World.cell?_setCell_other _ _ _ _ (by simp)).trans m0
  have z1 : X.cell? ⟨D + 1, 1, none⟩ = some (.slice none 0 0) := by rw [← hX]; exact (World.cell?_setCell_other _ _ _ _ (by simp)).trans m1
  have z2 : X.cell? ⟨D + 1, 2, none⟩ = some (.slice none 0 0) := by rw [← hX]; exact (World.cell?_setCell_other _ _ _ _ (by simp)).trans m2
  have zf : ∀ j, X.frozen? ⟨D + 1, j, none⟩ = false := fun j => by rw [← hX]; exact (World.frozen?_setCell ..).trans (mf j)
  have zf0 := zf 0
  have zf1 := zf 1
  have zf2 := zf 2
  have HXS : Hid (xs.map (·.1) = fs) := hxs
  have HOX : Hid (X.ownsRow (D + 3) 9 1 (.slice a' il c') il (strV ims)) := hO5.kept hgX (own_off hO5 (by omega))
  have HFX : Hid (FnsOwn X (D + 3) (.slice (some ⟨g2, 0, none⟩) fl fl) xs) := hfo5.kept hgX (own_off hfo5.row (by omega)) (fun y hy => own_off (hfo5.trees y hy) (by omega))
  have HBX : Hid (Below D w X) := hB5.grown hgX (by omega) (fun k e => by injection e with e; omega)
  have hsX : D + 3 ≤ X.heap.size := Nat.le_trans hs5 hgX.size
  clear HC2 hfo hfo5 hb5 hO5 hOU hB5 hgX zf mf pf uf u0 u1 u2 p0 p1 p2 d2 n0 n1 m0 m1 m2 hxs hFU hBU lf1
  go_wp2
  obtain ⟨Y, hY, y0, y1, y2, hg⟩ := set3 (.string ⟨nm.toArray⟩) (.slice a' il c') (.slice (some ⟨g2, 0, none⟩) fl fl) z0 z1 z2
  rw [hY]
  refine bodyPost_ret (v := .agg #[.string ⟨nm.toArray⟩, .slice a' il c', .slice (some ⟨g2, 0, none⟩) fl fl]) (by simp [results, Tryd.results6, go_sem, y0, y1, y2]) rfl ?_
  have hfx := HFX.out
  exact ⟨a', c', g2, xs, rfl, HXS.out, own_base (HOX.out.kept hg (own_off HOX.out (by omega))) (by omega), (hfx.kept hg (own_off hfx.row (by omega)) (fun y hy => own_off (hfx.trees y hy) (by omega))).base (by omega), HAP.out, by rw [hD]; exact HBX.out.grown hg (by omega) (fun k e => by injection e with e; omega)⟩

end Go.Proofs.YtiekcenknniniaaDoor

/-! A node, and a row of nodes, that came in, as the walks take them. -/
namespace Go.Proofs.YtiekcenknniniaaDoor
open Go.ChangeShapes Go.WideShapes Go.ChangeAt Go.RowKit Go.Joins Go.Deep

theorem cellsNode : Tryd.prog.cellsOf 105 = 4 := by kernel_rfl

set_option maxRecDepth 100000 in
theorem open_node {H : Type} {enc : TypeId × Value → H} {W : World} {base b0 : Nat} {spare : Nat → Bool} {held : Bool} {v : Value} {d : DataW H} {p : List MemPlace}
    (hv : Value.okWide Tryd.prog W .any b0 105 v) (h : DataW.Trod enc Tryd.prog W base spare held 105 v d p) :
    ∃ n : Nd, v = nodeVal n ∧ IntN n ∧ n.2.2.1.length ≤ maxLen ∧ n.2.2.2.length ≤ maxLen := by
  obtain ⟨c0, c1, c2, c3, y0, y1, y2, y3, m, rfl, _, _, t0, t1, t2, t3⟩ := open_agg4 Tryd.underlying105 (by kernel_rfl) cellsNode hv h
  obtain ⟨k, e0, _, w0⟩ := DataW.trod_int Tryd.underlying2 t0
  obtain ⟨a, e1, _, w1⟩ := DataW.trod_int Tryd.underlying2 t1
  obtain ⟨s2, e2, _, h2⟩ := DataW.trod_string Tryd.underlying9 t2
  obtain ⟨s3, e3, _, h3⟩ := DataW.trod_string Tryd.underlying9 t3
  simp at e0 e1 e2 e3
  subst e0 e1 e2 e3
  exact ⟨(k, a, s2.data.toList, s3.data.toList), rfl, ⟨bounds_i64 w0, bounds_i64 w1⟩, h2, h3⟩

set_option maxRecDepth 100000 in
theorem open_nodes {H : Type} {enc : TypeId × Value → H} {W : World} {base b0 : Nat} {spare : Nat → Bool} {held : Bool} {v : Value} {d : DataW H} {p : List MemPlace}
    (hv : Value.okWide Tryd.prog W .any b0 50 v) (h : DataW.Trod enc Tryd.prog W base spare held 50 v d p) :
    ∃ a len cap ns, v = .slice a len cap ∧ NodesIn W a len ns ∧ len ≤ maxLen ∧ LongT ns ∧ IntT ns := by
  obtain ⟨a0, len, cap, rfl⟩ := okWide_slice Tryd.underlying50 hv
  obtain ⟨fuel, hf⟩ := h
  rcases open_slice Tryd.underlying50 hf with ⟨hcs, _⟩ | ⟨a, l, c, q, n, D, Pl, hcs, _, hl, hm, hq, _, hx⟩
  · simp [Value.cells] at hcs
    obtain ⟨rfl, rfl, rfl⟩ := hcs
    exact ⟨none, 0, 0, [], rfl, ⟨rfl, fun j hj => by omega⟩, by decide, (fun j => by simp [nd0]), IntT.nil⟩
  · simp [Value.cells] at hcs
    obtain ⟨rfl, rfl, rfl⟩ := hcs
    have hlq : len ≤ q := by rw [hq]; split <;> omega
    have each : ∀ i, i < len → ∃ x : Nd, W.cell? (a.add (i * 4)) = some (.int .i64 x.1) ∧ W.cell? (a.add (i * 4 + 1)) = some (.int .i64 x.2.1) ∧ W.cell? (a.add (i * 4 + 2)) = some (.string ⟨x.2.2.1.toArray⟩) ∧ W.cell? (a.add (i * 4 + 3)) = some (.string ⟨x.2.2.2.toArray⟩) ∧ x.2.2.1.length ≤ maxLen ∧ x.2.2.2.length ≤ maxLen ∧ IntN x := by
      intro i hi
      obtain ⟨cs', h1, h2⟩ := hx i (by omega)
      rw [cellsNode] at h1
      obtain ⟨_, hlen, hcell⟩ := World.cells?_some h1
      match cs', hlen with
      | [v0, v1, v2, v3], _ =>
        obtain ⟨y0, y1, y2, y3, k, _, _, t0, t1, t2, t3⟩ := trod_struct4 Tryd.underlying105 h2
        have k2 : Tryd.prog.cellsOf 2 = 1 := by kernel_rfl
        have k9 : Tryd.prog.cellsOf 9 = 1 := by kernel_rfl
        simp [k2, k9] at t0 t1 t2 t3
        obtain ⟨kd, e0, _, wk⟩ := DataW.trod_int Tryd.underlying2 t0
        obtain ⟨aa, e1, _, wa⟩ := DataW.trod_int Tryd.underlying2 t1
        obtain ⟨s2, e2, _, z2⟩ := DataW.trod_string Tryd.underlying9 t2
        obtain ⟨s3, e3, _, z3⟩ := DataW.trod_string Tryd.underlying9 t3
        simp at e0 e1 e2 e3
        subst e0 e1 e2 e3
        have g0 := hcell 0 (by omega)
        have g1 := hcell 1 (by omega)
        have g2 := hcell 2 (by omega)
        have g3 := hcell 3 (by omega)
        rw [add_add] at g0 g1 g2 g3
        exact ⟨(kd, aa, s2.data.toList, s3.data.toList), by simpa using g0, by simpa using g1, by simpa using g2, by simpa using g3, z2, z3, ⟨bounds_i64 wk, bounds_i64 wa⟩⟩
    obtain ⟨f, hf2⟩ := choose_lt each
    refine ⟨some a, len, cap, (List.range len).map f, rfl, ⟨by simp, fun j hj => ?_⟩, by omega, (fun j => ?_), (fun j => ?_)⟩
    rotate_left
    · by_cases hj : j < len
      · have hg : ((List.range len).map f).getD j nd0 = f j := by simp [List.getD, hj]
        rw [hg]; exact ⟨(hf2 j hj).2.2.2.2.1, (hf2 j hj).2.2.2.2.2.1⟩
      · have hg : ((List.range len).map f).getD j nd0 = nd0 := by simp [List.getD, hj]
        rw [hg]; simp [nd0]
    · by_cases hj : j < len
      · have hg : ((List.range len).map f).getD j nd0 = f j := by simp [List.getD, hj]
        rw [hg]; exact (hf2 j hj).2.2.2.2.2.2
      · have hg : ((List.range len).map f).getD j nd0 = nd0 := by simp [List.getD, hj]
        rw [hg]; exact intN_nd0
    obtain ⟨c0, c1, c2, c3, _, _, _⟩ := hf2 j hj
    have hsp : a.spot = none := by
      have h0 := (hf2 0 (by omega)).1
      simpa [Addr.add] using World.cell?_spot h0
    obtain ⟨b, off, spot⟩ := a
    simp at hsp
    subst hsp
    have e : ∀ i, (⟨b, off, none⟩ : Addr).add i = ⟨b, off + i, none⟩ := fun i => by unfold Addr.add; split <;> simp_all
    rw [e] at c0 c1 c2 c3
    have hg : ((List.range len).map f).getD j nd0 = f j := by simp [List.getD, hj]
    rw [hg]
    exact ⟨b, off, rfl, World.block_lt_of_cell? W ⟨b, off + j * 4, none⟩ c0, c0, by rw [Nat.add_assoc]; exact c1, by rw [Nat.add_assoc]; exact c2, by rw [Nat.add_assoc]; exact c3⟩

end Go.Proofs.YtiekcenknniniaaDoor

/-! What the landed functions of chapter 7 are told of a package; what the laws hold. -/
namespace Go.Proofs.YtiekcenknniniaaDoor
open Go.RowKit

def IntF (fs : List Fn) : Prop := ∀ j, (-9223372036854775808 ≤ (fs.getD j fn0).2.1 ∧ (fs.getD j fn0).2.1 ≤ 9223372036854775807) ∧ IntT (fs.getD j fn0).2.2

/-- What the landed functions are told of a package that they are handed. -/
structure PkOk (w : World) (nm : List UInt8) (ia : Option Addr) (il ic : Nat) (fa : Option Addr) (fl fc : Nat) (ims : List (List UInt8)) (fs : List Fn) : Prop where
  i : TextsIn w ia il ims
  f : FuncsIn w fa fl fs
  ic : ia = none → ic = 0
  fc : (fa = none → fc = 0) ∧ fl ≤ fc
  int : IntF fs
  il : il ≤ 1048576
  fl : fl ≤ 1048576
  nm : nm.length ≤ 1048576
  is : ∀ i, (ims.getD i []).length ≤ 1048576
  fs : ShortF fs

theorem PkOk.below {w w' : World} {nm : List UInt8} {ia : Option Addr} {il ic : Nat} {fa : Option Addr} {fl fc : Nat} {ims : List (List UInt8)} {fs : List Fn} (h : PkOk w nm ia il ic fa fl fc ims fs) (hb : Below w.heap.size w w') : PkOk w' nm ia il ic fa fl fc ims fs :=
  ⟨h.i.below hb, h.f.below hb, h.ic, h.fc, h.int, h.il, h.fl, h.nm, h.is, h.fs⟩

theorem own_texts0 {w : World} {base n : Nat} {v : Value} {ts : List (List UInt8)} (h : w.ownsRow base 9 1 v n (strV ts)) : ∃ a c, v = .slice a n c ∧ (a = none → c = 0) ∧ TextsIn w a n ts := by
  obtain ⟨_, a, c, rfl, hin⟩ := own_texts h
  refine ⟨a, c, rfl, fun e => ?_, hin⟩
  rcases own_forms h with ⟨e2, _, _⟩ | ⟨g, cp, e2⟩
  · injection e2
  · injection e2 with e3; rw [e] at e3; cases e3

/-- A package small enough: every bound. -/
theorem pk_small {nm : List UInt8} {ims : List (List UInt8)} {fs : List Fn} (h : pkSz nm ims fs ≤ 1048576) : ims.length ≤ 1048576 ∧ fs.length ≤ 1048576 ∧ nm.length ≤ 1048576 ∧ (∀ i, (ims.getD i []).length ≤ 1048576) ∧ ShortF fs := by
  unfold pkSz at h
  refine ⟨by omega, by omega, by omega, fun i => ?_, shortF_of (by omega)⟩
  have h1 := part_le ims i
  have h2 : joinN ims = ims.flatten.length := rfl
  omega

/-- The law's own argument, in a block of its own. -/
theorem PkIn.newL {w : World} {nm : List UInt8} {ia : Option Addr} {il ic : Nat} {fa : Option Addr} {fl fc : Nat} {ims : List (List UInt8)} {fs : List Fn} (t : TypeId) (hi : TextsIn w ia il ims) (hf : FuncsIn w fa fl fs) :
    PkIn (w.alloc (.cells #[.string ⟨nm.toArray⟩, .slice ia il ic, .slice fa fl fc] t)) w.heap.size nm ia il ic fa fl fc ims fs ∧ Below w.heap.size w (w.alloc (.cells #[.string ⟨nm.toArray⟩, .slice ia il ic, .slice fa fl fc] t)) := by
  have hb : Below w.heap.size w (w.alloc (.cells #[.string ⟨nm.toArray⟩, .slice ia il ic, .slice fa fl fc] t)) := (Below.refl _ _).alloc (Nat.le_refl _) _
  have hA := heap_alloc_new w (.cells #[.string ⟨nm.toArray⟩, .slice ia il ic, .slice fa fl fc] t)
  generalize w.alloc (.cells #[.string ⟨nm.toArray⟩, .slice ia il ic, .slice fa fl fc] t) = W at hb hA ⊢
  exact ⟨⟨by simp [World.cell?, hA], by simp [World.cell?, hA], by simp [World.cell?, hA], hi.below hb, hf.below hb⟩, hb⟩

/-- Three cells of a block. -/
structure Box3 (V : World) (k : Nat) (a b c : Value) : Prop where
  c0 : V.cell? ⟨k, 0, none⟩ = some a
  c1 : V.cell? ⟨k, 1, none⟩ = some b
  c2 : V.cell? ⟨k, 2, none⟩ = some c

theorem Box3.lt {V : World} {k : Nat} {a b c : Value} (h : Box3 V k a b c) : k < V.heap.size := World.block_lt_of_cell? V ⟨k, 0, none⟩ h.c0
theorem Box3.keep {V V' : World} {k : Nat} {a b c : Value} (h : Box3 V k a b c) (hb : V'.heap[k]? = V.heap[k]?) : Box3 V' k a b c :=
  ⟨(World.cell?_of_block (a := ⟨k, 0, none⟩) hb).trans h.c0, (World.cell?_of_block (a := ⟨k, 1, none⟩) hb).trans h.c1, (World.cell?_of_block (a := ⟨k, 2, none⟩) hb).trans h.c2⟩
theorem Box3.below {V V' : World} {k : Nat} {a b c : Value} (h : Box3 V k a b c) (hb : Below V.heap.size V V') : Box3 V' k a b c := h.keep (hb.block k h.lt)
theorem Box3.wrote {V V' : World} {k : Nat} {a b c : Value} {S : Nat → Prop} (h : Box3 V k a b c) (hw : Wrote V V' S) (hk : ¬ S k) : Box3 V' k a b c := h.keep (hw.block k h.lt hk)
theorem Box3.grown {V V' : World} {k : Nat} {a b c : Value} {row : Option Nat} (h : Box3 V k a b c) (hg : V.grownBy V' row) (hk : some k ≠ row) : Box3 V' k a b c := h.keep (hg.block k h.lt hk)
theorem Box3.drew {V : World} {k : Nat} {a b c : Value} (h : Box3 V k a b c) : Box3 V.drew k a b c := ⟨h.c0, h.c1, h.c2⟩
theorem Box3.new (V : World) (a b c : Value) (t : TypeId) : Box3 (V.alloc (.cells #[a, b, c] t)) V.heap.size a b c ∧ Below V.heap.size V (V.alloc (.cells #[a, b, c] t)) := by
  have hb : Below V.heap.size V (V.alloc (.cells #[a, b, c] t)) := (Below.refl _ _).alloc (Nat.le_refl _) _
  have hA := heap_alloc_new V (.cells #[a, b, c] t)
  generalize V.alloc (.cells #[a, b, c] t) = W at hb hA ⊢
  exact ⟨⟨by simp [World.cell?, hA], by simp [World.cell?, hA], by simp [World.cell?, hA]⟩, hb⟩

theorem short_mem {fs : List Fn} (h : ShortF fs) {f : Fn} (hf : f ∈ fs) : f.2.2.length ≤ 1048576 := by
  obtain ⟨j, hj, rfl⟩ := List.mem_iff_getElem.1 hf
  have := (h j).2.1
  rw [List.getD_eq_getElem?_getD, List.getElem?_eq_getElem hj] at this
  exact this

/-- A package that a call owns can be read. -/
theorem own_pk {w : World} {base : Nat} {vi vf : Value} {ims : List (List UInt8)} {xs : List FV} {fs : List Fn} (hoi : w.ownsRow base 9 1 vi ims.length (strV ims)) (hof : FnsOwn w base vf xs) (hxs : xs.map (·.1) = fs) :
    ∃ ai ci af cf, vi = .slice ai ims.length ci ∧ vf = .slice af fs.length cf ∧ (ai = none → ci = 0) ∧ ((af = none → cf = 0) ∧ fs.length ≤ cf) ∧ TextsIn w ai ims.length ims ∧ FuncsIn w af fs.length fs := by
  obtain ⟨ai, ci, rfl, hic, hit⟩ := own_texts0 hoi
  obtain ⟨af, cf, rfl, hfc, hif⟩ := hof.in
  have hl : xs.length = fs.length := by rw [← hxs, List.length_map]
  have hcp : fs.length ≤ cf := by
    rcases hof.row.2 with ⟨e, h0⟩ | ⟨g, cap, cur, e, _, _, hc, _⟩
    · rw [← hl, h0]; exact Nat.zero_le _
    · injection e with _ _ e3
      rw [e3, ← hl]; exact hc
  rw [hxs, hl] at hif
  exact ⟨ai, ci, af, cf, rfl, by rw [hl], hic, ⟨hfc, hcp⟩, hit, hif⟩

/-- A right package is small. -/
theorem pkgB_small {p : Pk} (h : pkgB p = true) : p.2.1.length ≤ 6 ∧ p.2.2.length ≤ 8 ∧ ∀ f ∈ p.2.2, f.2.2.length ≤ 60 := by
  unfold pkgB at h
  rw [Bool.and_eq_true, Bool.and_eq_true, Bool.and_eq_true] at h
  obtain ⟨⟨_, hi, hf⟩, ha⟩ := h
  unfold importsB at hi
  rw [Bool.and_eq_true, Bool.and_eq_true] at hi
  have hf2 := of_decide_eq_true hf
  refine ⟨of_decide_eq_true hi.2.1, by omega, fun f hm => ?_⟩
  obtain ⟨j, hj, rfl⟩ := List.mem_iff_getElem.1 hm
  have h1 := ((of_decide_eq_true ha) j hj).1
  have hg : p.2.2.getD j fn0 = p.2.2[j] := by simp [List.getD, hj]
  rw [hg] at h1
  unfold funcB at h1
  rw [Bool.and_eq_true, Bool.and_eq_true] at h1
  exact (tree_end h1.2.2).1.2

end Go.Proofs.YtiekcenknniniaaDoor
