/-
  Parts of one proof, one behind the other: FnT, NodeM.
-/
import Derived.Test.YtaidhjjpdkkmcaaGreatDoorP18
import Derived.Test.YtaidhjjpdkkmcaaGreatDoorP11
import Derived.Test.YtaidhjjpdkkmcaaGreatDoorP10
import Derived.Deep.RegionWith

/-! The laws' own helpers over functions and packages: toFunc, toFuncS, toPackage. -/
namespace Go.Proofs.YtaidhjjpdkkmcaaGreatDoor
open Go.RowKit

set_option maxHeartbeats 2000000 in
set_option maxRecDepth 100000 in
theorem toFuncC (s : List UInt8) (n : Int) (t : List Nd) (ta : Option Addr) (tl tc : Nat) (w : World) (hin : NodesIn w ta tl t) (hlen : tl ≤ 1048576) :
 Calls Tryz.prog 79 #[.agg #[.string ⟨s.toArray⟩, .int .i64 n, .slice ta tl tc]] w fun e w' => ∃ a c, e = .returned (.agg #[.string ⟨s.toArray⟩, .int .i64 n, .slice a t.length c]) ∧ w'.ownsRow w.heap.size 125 4 (.slice a t.length c) t.length (nodesV t) ∧ Below w.heap.size w w' := by
 obtain rfl : t.length = tl := hin.1
 obtain ⟨D, hD⟩ : ∃ D, w.heap.size = D := ⟨_, rfl⟩
 obtain ⟨W1, hW1⟩ : ∃ W, w.alloc (.cells #[.string ⟨s.toArray⟩, .int .i64 n, .slice ta t.length tc] 104) = W := ⟨_, rfl⟩
 obtain ⟨W2, hW2⟩ : ∃ W, W1.alloc (.cells #[.string ⟨#[]⟩, .int .i64 0, .slice none 0 0] 98) = W := ⟨_, rfl⟩
 have hs1 : W1.heap.size = D + 1 := by rw [← hW1, ← hD]; simp
 have hs2 : W2.heap.size = D + 2 := by rw [← hW2]; simp [hs1]
 have hb1 : Below D w W1 := by rw [← hW1, ← hD]; exact (Below.refl _ _).alloc (Nat.le_refl _) _
 have hb12 : Below W1.heap.size W1 W2 := by rw [← hW2]; exact (Below.refl _ _).alloc (Nat.le_refl _) _
 have hb2 : Below D w W2 := hb1.trans (hb12.mono (by omega))
 have hA1 : W1.heap[D]? = some (.cells #[.string ⟨s.toArray⟩, .int .i64 n, .slice ta t.length tc] 104) := by rw [← hW1, ← hD]; exact heap_alloc_new w _
 have hR : W2.heap[D + 1]? = some (.cells #[.string ⟨#[]⟩, .int .i64 0, .slice none 0 0] 98) := by rw [← hs1, ← hW2]; exact heap_alloc_new W1 _
 obtain ⟨q0, q1, q2, _⟩ := three hb12 (by omega) hA1
 have a0 : ∀ o, (W2.alloc o).cell? ⟨D, 0, none⟩ = some (.string ⟨s.toArray⟩) := fun o => cell_alw o q0
 have a1 : ∀ o, (W2.alloc o).cell? ⟨D, 1, none⟩ = some (.int .i64 n) := fun o => cell_alw o q1
 have a2 : ∀ o, (W2.alloc o).cell? ⟨D, 2, none⟩ = some (.slice ta t.length tc) := fun o => cell_alw o q2
 have HIN : Hid (NodesIn W2 ta t.length t) := hin.below (by rw [hD]; exact hb2)
 clear hin hA1 q0 q1 q2
 go_enter Tryz.func79, Tryz.ntmps79
 go_wp2_with fail
 obtain ⟨V, hV⟩ : ∃ V, W2.alloc (.cells #[.string ⟨s.toArray⟩, .int .i64 n, .slice none 0 0] 98) = V := ⟨_, rfl⟩
 rw [hV]
 have hbV : Below W2.heap.size W2 V := by rw [← hV]; exact (Below.refl _ _).alloc (Nat.le_refl _) _
 have hsV : V.heap.size = D + 3 := by rw [← hV]; simp [hs2]
 have hL : V.heap[D + 2]? = some (.cells #[.string ⟨s.toArray⟩, .int .i64 n, .slice none 0 0] 98) := by rw [← hs2, ← hV]; exact heap_alloc_new W2 _
 have hRV : V.heap[D + 1]? = some (.cells #[.string ⟨#[]⟩, .int .i64 0, .slice none 0 0] 98) := (hbV.block _ (by omega)).trans hR
 refine (toNodeSC ta t.length tc t V (HIN.out.below hbV) hlen).mono ?_
 rintro e w4 ⟨v, rfl, hown, _, hb4⟩
 obtain ⟨_, a', c', rfl, _⟩ := own_nodes hown
 obtain ⟨l0, l1, l2, lf⟩ := three hb4 (by omega) hL
 obtain ⟨r0, r1, r2, rf⟩ := three hb4 (by omega) hRV
 have hB4 : Below D w w4 := hb2.trans ((hbV.mono (by omega)).trans (hb4.mono (by omega)))
 have hs4 : D + 3 ≤ w4.heap.size := by have := hb4.size; omega
 rw [hsV] at hown
 obtain ⟨U, hU⟩ : ∃ U, w4.setCell ⟨D + 2, 2, none⟩ (.slice a' t.length c') = U := ⟨_, rfl⟩
 have hgU : w4.grownBy U (some (D + 2)) := by rw [← hU]; exact grown_set _ _ _ _
 have u0 : U.cell? ⟨D + 2, 0, none⟩ = some (.string ⟨s.toArray⟩) := by rw [← hU]; exact (World.cell?_setCell_other _ _ _ _ (by simp)).trans l0
 have u1 : U.cell? ⟨D + 2, 1, none⟩ = some (.int .i64 n) := by rw [← hU]; exact (World.cell?_setCell_other _ _ _ _ (by simp)).trans l1
 have u2 : U.cell? ⟨D + 2, 2, none⟩ = some (.slice a' t.length c') := by rw [← hU]; exact World.cell?_setCell_same _ _ _ l2
 have p0 : U.cell? ⟨D + 1, 0, none⟩ = some (.string ⟨#[]⟩) := by rw [← hU]; exact (World.cell?_setCell_other _ _ _ _ (by simp)).trans r0
 have p1 : U.cell? ⟨D + 1, 1, none⟩ = some (.int .i64 0) := by rw [← hU]; exact (World.cell?_setCell_other _ _ _ _ (by simp)).trans r1
 have p2 : U.cell? ⟨D + 1, 2, none⟩ = some (.slice none 0 0) := by rw [← hU]; exact (World.cell?_setCell_other _ _ _ _ (by simp)).trans r2
 have pf : ∀ j, U.frozen? ⟨D + 1, j, none⟩ = false := fun j => by rw [← hU]; exact (World.frozen?_setCell ..).trans (rf j)
 have pf0 := pf 0
 have pf1 := pf 1
 have pf2 := pf 2
 have lf2 := lf 2
 have HOU : Hid (U.ownsRow (D + 3) 125 4 (.slice a' t.length c') t.length (nodesV t)) := hown.kept hgU (own_off hown (by omega))
 have HBU : Hid (Below D w U) := hB4.grown hgU (by omega) (fun k e => by injection e with e; omega)
 have hsU : D + 3 ≤ U.heap.size := Nat.le_trans hs4 hgU.size
 clear hown hb4 hB4 hgU pf lf rf l0 l1 r0 r1 r2 a0 a1 a2 hL hRV hR hbV hb12 hb1 hb2 HIN
 go_wp2
 obtain ⟨Y, hY, y0, y1, y2, hg⟩ := set3 (.string ⟨s.toArray⟩) (.int .i64 n) (.slice a' t.length c') p0 p1 p2
 rw [hY]
 refine bodyPost_ret (v := .agg #[.string ⟨s.toArray⟩, .int .i64 n, .slice a' t.length c']) (by simp [results, Tryz.results79, go_sem, y0, y1, y2]) rfl ?_
 exact ⟨a', c', rfl, own_base (HOU.out.kept hg (own_off HOU.out (by omega))) (by omega), by rw [hD]; exact HBU.out.grown hg (by omega) (fun k e => by injection e with e; omega)⟩

theorem fnsV_set (xs : List FV) (j : Nat) (y : FV) : (((fnsV xs).set (j * 3) (.string ⟨y.1.1.toArray⟩)).set (j * 3 + 1) (.int .i64 y.1.2.1)).set (j * 3 + 2) (fvT y) = fnsV (xs.set j y) := by
 induction xs generalizing j with
 | nil => simp [fnsV]
 | cons b r ih =>
  cases j with
  | zero => simp [fnsV]
  | succ j => rw [show (j + 1) * 3 = j * 3 + 1 + 1 + 1 by omega]; simp [fnsV, ih]

theorem made_fns (n : Nat) : (madeCells (Value.agg #[.string ⟨#[]⟩, .int .i64 0, .slice none 0 0]).cells (n * 3)).toList = fnsV (List.replicate n fv0) := by
 have hc : (Value.agg #[.string ⟨#[]⟩, .int .i64 0, .slice none 0 0]).cells = #[.string ⟨#[]⟩, .int .i64 0, .slice none 0 0] := rfl
 rw [hc]
 apply List.ext_getElem?
 intro j
 by_cases hj : j < n * 3
 ·
  obtain ⟨v0, v1, v2⟩ := fnsV_at (List.replicate n fv0) (j / 3) (by simp; omega)
  have hg : (List.replicate n fv0).getD (j / 3) fv0 = fv0 := by simp [List.getD, List.getElem?_replicate]; split <;> rfl
  rw [hg] at v0 v1 v2
  have h3 : j % 3 = 0 ∨ j % 3 = 1 ∨ j % 3 = 2 := by omega
  rcases h3 with h' | h' | h'
  ·
   have ej : j = j / 3 * 3 := by omega
   rw [← ej] at v0
   rw [v0]
   simp [madeCells, hj, h', fv0, fn0]
  ·
   have ej : j = j / 3 * 3 + 1 := by omega
   rw [← ej] at v1
   rw [v1]
   simp [madeCells, hj, h', fv0, fn0]
  ·
   have ej : j = j / 3 * 3 + 2 := by omega
   rw [← ej] at v2
   rw [v2]
   simp [madeCells, hj, h', fv0, fn0, fvT]
 ·
  rw [List.getElem?_eq_none (by simp [madeCells]; omega), List.getElem?_eq_none (by rw [fnsV_len]; simp; omega)]

theorem fill_fn (ys : List FV) (len k : Nat) (y : FV) (hy : ys.length = k) (hk : k < len) : (ys ++ List.replicate (len - k) fv0).set k y = (ys ++ [y]) ++ List.replicate (len - (k + 1)) fv0 := by
 rw [List.set_append_right _ _ (by omega), hy, Nat.sub_self, show len - k = (len - (k + 1)) + 1 by omega, List.replicate_succ, zB, List.append_assoc]
 rfl

set_option maxHeartbeats 4000000 in
set_option maxRecDepth 100000 in
theorem toFuncSC (a : Option Addr) (len cap : Nat) (fs : List Fn) (w : World) (hin : FuncsIn w a len fs) (hlen : len ≤ 1048576) (hsh : ∀ j, (fs.getD j fn0).2.2.length ≤ 1048576) :
 Calls Tryz.prog 48 #[.slice a len cap] w fun e w' => ∃ g xs, e = .returned (.slice (some ⟨g, 0, none⟩) len len) ∧ xs.map (·.1) = fs ∧ FnsOwn w' w.heap.size (.slice (some ⟨g, 0, none⟩) len len) xs ∧ Apart (xs.map fvT) ∧ Below w.heap.size w w' := by
 obtain ⟨i0, hi, hz0, hz1, hz2⟩ := info_parts infoFunc
 have hlb := hin.1
 have HI : Hid (FuncsIn w a len fs) := hin
 have HSH : Hid (∀ j, (fs.getD j fn0).2.2.length ≤ 1048576) := hsh
 clear hin hsh
 go_enter Tryz.func48, Tryz.ntmps48
 go_wp2_with (at_make; refine wpList_make_full _ rfl _ _ 49 rfl w.heap.size 98 i0 _ 3 Tryz.underlying49 hi hz0 hz1 .i64 .i64 _ _ len rfl rfl rfl rfl (by rw [hz2]; omega) (by unfold maxLen; omega) (Nat.le_refl _) ?_; intro w1 hown1 hgrow1)
 rw [made_fns] at hown1
 have hB1 : Below w.heap.size w w1 := (Below.refl _ _).grown hgrow1 (Nat.le_refl _) (by simp)
 clear hgrow1
 go_loopw [4] (fun i wr => ∃ (k : Nat) (ys : List FV), k ≤ len ∧ i = .int .i64 k ∧ ys.length = k ∧ Hid (ys.map (·.1) = fs.take k) ∧ Hid (wr.ownsRow w.heap.size 98 3 (.slice (some ⟨w.heap.size, 0, none⟩) len len) len (fnsV (ys ++ List.replicate (len - k) fv0))) ∧ Hid (∀ x ∈ ys, wr.ownsRow w.heap.size 125 4 (fvT x) x.1.2.2.length (nodesV x.1.2.2)) ∧ Hid (Apart (ys.map fvT)) ∧ Below w.heap.size w wr) (fun i _ => len - (intOf i).toNat)
 case atStart => exact ⟨0, [], Nat.zero_le _, rfl, rfl, (by simp : ([] : List FV).map (·.1) = fs.take 0), (by simpa using hown1 : w1.ownsRow w.heap.size 98 3 (.slice (some ⟨w.heap.size, 0, none⟩) len len) len (fnsV ([] ++ List.replicate (len - 0) fv0))), (fun x hx => (by cases hx) : ∀ x ∈ ([] : List FV), _), Apart.nil, hB1⟩
 case round =>
  obtain ⟨k, ys, hk, rfl, hyl, HM, HR, HT, HAP, hB⟩ := hrel
  clear hown1 hB1
  by_cases hkl : (k : Int) < (len : Int)
  ·
   obtain ⟨b, off, rfl, hbl, c0, c1, ta, tl, tc, c2, hnc, hnin⟩ := (HI.out.below hB).2 k (by omega)
   have hts := HSH.out k
   have hmk : fs.take (k + 1) = fs.take k ++ [fs.getD k fn0] := by
    have hg : fs.getD k fn0 = fs[k]'(by omega) := by simp [List.getD, show k < fs.length by omega]
    rw [hg, List.take_succ_eq_append_getElem]
   obtain ⟨f, hf⟩ : ∃ f, fs.getD k fn0 = f := ⟨_, rfl⟩
   rw [hf] at c0 c1 hnin hts hmk
   obtain ⟨s, n, t⟩ := f
   simp only at c0 c1 hnin hts
   obtain rfl : t.length = tl := hnin.1
   have HMK : Hid (fs.take (k + 1) = fs.take k ++ [(s, n, t)]) := hmk
   have HC := toFuncC s n t ta t.length tc wr hnin (by omega)
   clear hf hnin hmk
   go_wp2_with fail
   refine HC.mono ?_
   rintro e w2 ⟨av, cv, rfl, hownT, hb2⟩
   have hown2 := own_below HR.out hb2
   have hT2 : ∀ x ∈ ys, w2.ownsRow w.heap.size 125 4 (fvT x) x.1.2.2.length (nodesV x.1.2.2) := fun x hx => own_below (HT.out x hx) hb2
   have hl2 : (ys ++ List.replicate (len - k) fv0).length = len := by rw [List.length_append, List.length_replicate]; omega
   obtain ⟨v0, v1, v2⟩ := fnsV_at (ys ++ List.replicate (len - k) fv0) k (by omega)
   obtain ⟨u0, d0⟩ : ∃ u, w2.cell? ⟨w.heap.size, k * 3, none⟩ = some u := by
    rw [hown2.cellAt (k * 3) (by omega), v0]; exact ⟨_, rfl⟩
   obtain ⟨u1, d1⟩ : ∃ u, w2.cell? ⟨w.heap.size, k * 3 + 1, none⟩ = some u := by
    rw [hown2.cellAt (k * 3 + 1) (by omega), v1]; exact ⟨_, rfl⟩
   obtain ⟨u2, d2⟩ : ∃ u, w2.cell? ⟨w.heap.size, k * 3 + 2, none⟩ = some u := by
    rw [hown2.cellAt (k * 3 + 2) (by omega), v2]; exact ⟨_, rfl⟩
   have e0 := hown2.frozenAt (k * 3)
   have e1 := hown2.frozenAt (k * 3 + 1)
   have e2 := hown2.frozenAt (k * 3 + 2)
   have hs1 := hown2.stored (k * 3) (.string ⟨s.toArray⟩)
   have hs2 := hs1.1.stored (k * 3 + 1) (.int .i64 n)
   have hs3 := hs2.1.stored (k * 3 + 2) (.slice av t.length cv)
   have hnew := hs3.1
   have hset := fnsV_set (ys ++ List.replicate (len - k) fv0) k ((s, n, t), av, cv)
   rw [fill_fn ys len k _ hyl (by omega)] at hset
   have hfv : fvT ((s, n, t), av, cv) = .slice av t.length cv := rfl
   rw [hfv] at hset
   simp only at hset
   rw [hset] at hnew
   have hgr : w2.grownBy (((w2.setCell ⟨w.heap.size, k * 3, none⟩ (.string ⟨s.toArray⟩)).setCell ⟨w.heap.size, k * 3 + 1, none⟩ (.int .i64 n)).setCell ⟨w.heap.size, k * 3 + 2, none⟩ (.slice av t.length cv)) (some w.heap.size) := ((grown_set _ _ _ _).trans (grown_set _ _ _ _)).trans (grown_set _ _ _ _)
   have hsome : (Value.slice (some ⟨w.heap.size, 0, none⟩) len len).ownBlock = some w.heap.size := rfl
   have offT : ∀ {v : Value} {m : Nat} {zs : List Value}, w2.ownsRow w.heap.size 125 4 v m zs → v.ownBlock = none ∨ v.ownBlock ≠ some w.heap.size := fun ho => by rw [← hsome]; exact own_types ho hown2 (by decide)
   have hB2 : Below w.heap.size w w2 := hB.trans (hb2.mono hB.size)
   have hownT2 := own_base hownT hB.size
   have HAP2 : Hid (Apart ((ys ++ [((s, n, t), av, cv)]).map fvT)) := by
    rw [List.map_append]
    refine HAP.out.snoc (fun v hv => ?_)
    obtain ⟨x, hx, rfl⟩ := List.mem_map.1 hv
    exact own_ahead (HT.out x hx) hownT (Nat.le_refl _)
   have HN : Hid (Below w.heap.size w (((w2.setCell ⟨w.heap.size, k * 3, none⟩ (.string ⟨s.toArray⟩)).setCell ⟨w.heap.size, k * 3 + 1, none⟩ (.int .i64 n)).setCell ⟨w.heap.size, k * 3 + 2, none⟩ (.slice av t.length cv))) := hB2.grown hgr hB2.size (fun q e => by injection e with e; omega)
   have HR2 : Hid ((((w2.setCell ⟨w.heap.size, k * 3, none⟩ (.string ⟨s.toArray⟩)).setCell ⟨w.heap.size, k * 3 + 1, none⟩ (.int .i64 n)).setCell ⟨w.heap.size, k * 3 + 2, none⟩ (.slice av t.length cv)).ownsRow w.heap.size 98 3 (.slice (some ⟨w.heap.size, 0, none⟩) len len) len (fnsV ((ys ++ [((s, n, t), av, cv)]) ++ List.replicate (len - (k + 1)) fv0))) := hnew
   have HT2 : Hid (∀ x ∈ ys ++ [((s, n, t), av, cv)], (((w2.setCell ⟨w.heap.size, k * 3, none⟩ (.string ⟨s.toArray⟩)).setCell ⟨w.heap.size, k * 3 + 1, none⟩ (.int .i64 n)).setCell ⟨w.heap.size, k * 3 + 2, none⟩ (.slice av t.length cv)).ownsRow w.heap.size 125 4 (fvT x) x.1.2.2.length (nodesV x.1.2.2)) := fun x hx => by
    rw [List.mem_append, List.mem_singleton] at hx
    rcases hx with hx | rfl
    ·
     exact (hT2 x hx).kept hgr (offT (hT2 x hx))
    ·
     exact hownT2.kept hgr (offT hownT2)
   have HM2 : Hid ((ys ++ [((s, n, t), av, cv)]).map (·.1) = fs.take (k + 1)) := by exact (by rw [List.map_append, HM.out, HMK.out]; rfl : (ys ++ [((s, n, t), av, cv)]).map (·.1) = fs.take (k + 1))
   have hsz2 : w.heap.size < w2.heap.size := World.block_lt_of_cell? w2 ⟨w.heap.size, k * 3, none⟩ d0
   clear hown2 hs1 hs2 hs3 hl2 v0 v1 v2 hnew hset hfv hgr hsome offT hB2 hownT2 hownT HC HR HT HM hT2 HMK
   go_wp2
   go_roundw
   case rel => exact ⟨k + 1, ys ++ [((s, n, t), av, cv)], by omega, by go_num, by simp [hyl], HM2, HR2, HT2, HAP2, HN.out⟩
   case measure => simp [intOf]; omega
  ·
   have hd : ys ++ List.replicate (len - k) fv0 = ys := by rw [show len - k = 0 by omega]; simp
   have hrow := HR.out
   rw [hd] at hrow
   have HF : Hid (FnsOwn wr w.heap.size (.slice (some ⟨w.heap.size, 0, none⟩) len len) ys) := (⟨by rw [show ys.length = len by omega]; exact hrow, HT.out⟩ : FnsOwn wr w.heap.size (.slice (some ⟨w.heap.size, 0, none⟩) len len) ys)
   have HM2 : Hid (ys.map (·.1) = fs) := by exact (by rw [HM.out]; exact List.take_of_length_le (by omega) : ys.map (·.1) = fs)
   clear hd hrow HR HT HM
   go_wp2
   go_ret
   exact ⟨w.heap.size, rfl, ys, HM2.out, HF.out, HAP.out, hB⟩

set_option maxHeartbeats 4000000 in
set_option maxRecDepth 100000 in
theorem toPackageC (nm : List UInt8) (ia : Option Addr) (il ic : Nat) (fa : Option Addr) (fl fc : Nat) (ims : List (List UInt8)) (fs : List Fn) (w : World) (hi : TextsIn w ia il ims) (hf : FuncsIn w fa fl fs) (hil : il ≤ 1048576) (hfl : fl ≤ 1048576) (hsh : ∀ j, (fs.getD j fn0).2.2.length ≤ 1048576) :
 Calls Tryz.prog 19 #[.agg #[.string ⟨nm.toArray⟩, .slice ia il ic, .slice fa fl fc]] w fun e w' => ∃ a1 c1 g2 xs, e = .returned (.agg #[.string ⟨nm.toArray⟩, .slice a1 il c1, .slice (some ⟨g2, 0, none⟩) fl fl]) ∧ xs.map (·.1) = fs ∧ w'.ownsRow w.heap.size 9 1 (.slice a1 il c1) il (strV ims) ∧ FnsOwn w' w.heap.size (.slice (some ⟨g2, 0, none⟩) fl fl) xs ∧ Apart (xs.map fvT) ∧ Below w.heap.size w w' := by
 obtain ⟨D, hD⟩ : ∃ D, w.heap.size = D := ⟨_, rfl⟩
 obtain ⟨W1, hW1⟩ : ∃ W, w.alloc (.cells #[.string ⟨nm.toArray⟩, .slice ia il ic, .slice fa fl fc] 40) = W := ⟨_, rfl⟩
 obtain ⟨W2, hW2⟩ : ∃ W, W1.alloc (.cells #[.string ⟨#[]⟩, .slice none 0 0, .slice none 0 0] 51) = W := ⟨_, rfl⟩
 have hs1 : W1.heap.size = D + 1 := by rw [← hW1, ← hD]; simp
 have hs2 : W2.heap.size = D + 2 := by rw [← hW2]; simp [hs1]
 have hb1 : Below D w W1 := by rw [← hW1, ← hD]; exact (Below.refl _ _).alloc (Nat.le_refl _) _
 have hb12 : Below W1.heap.size W1 W2 := by rw [← hW2]; exact (Below.refl _ _).alloc (Nat.le_refl _) _
 have hb2 : Below D w W2 := hb1.trans (hb12.mono (by omega))
 have hA1 : W1.heap[D]? = some (.cells #[.string ⟨nm.toArray⟩, .slice ia il ic, .slice fa fl fc] 40) := by rw [← hW1, ← hD]; exact heap_alloc_new w _
 have hA2 : W2.heap[D]? = some (.cells #[.string ⟨nm.toArray⟩, .slice ia il ic, .slice fa fl fc] 40) := (hb12.block _ (by omega)).trans hA1
 have hR : W2.heap[D + 1]? = some (.cells #[.string ⟨#[]⟩, .slice none 0 0, .slice none 0 0] 51) := by rw [← hs1, ← hW2]; exact heap_alloc_new W1 _
 obtain ⟨q0, q1, q2, _⟩ := three hb12 (by omega) hA1
 have a0 : ∀ o, (W2.alloc o).cell? ⟨D, 0, none⟩ = some (.string ⟨nm.toArray⟩) := fun o => cell_alw o q0
 have a1 : ∀ o, (W2.alloc o).cell? ⟨D, 1, none⟩ = some (.slice ia il ic) := fun o => cell_alw o q1
 have HI2 : Hid (TextsIn W2 ia il ims) := hi.below (by rw [hD]; exact hb2)
 have HF0 : Hid (FuncsIn w fa fl fs) := hf
 have HSH : Hid (∀ j, (fs.getD j fn0).2.2.length ≤ 1048576) := hsh
 clear hi hf hA1 q0 q1 q2 hsh
 go_enter Tryz.func19, Tryz.ntmps19
 go_wp2_with fail
 obtain ⟨V, hV⟩ : ∃ V, W2.alloc (.cells #[.string ⟨nm.toArray⟩, .slice none 0 0, .slice none 0 0] 51) = V := ⟨_, rfl⟩
 rw [hV]
 have hbV : Below W2.heap.size W2 V := by rw [← hV]; exact (Below.refl _ _).alloc (Nat.le_refl _) _
 have hsV : V.heap.size = D + 3 := by rw [← hV]; simp [hs2]
 have hL : V.heap[D + 2]? = some (.cells #[.string ⟨nm.toArray⟩, .slice none 0 0, .slice none 0 0] 51) := by rw [← hs2, ← hV]; exact heap_alloc_new W2 _
 have hRV : V.heap[D + 1]? = some (.cells #[.string ⟨#[]⟩, .slice none 0 0, .slice none 0 0] 51) := (hbV.block _ (by omega)).trans hR
 have hAV : V.heap[D]? = some (.cells #[.string ⟨nm.toArray⟩, .slice ia il ic, .slice fa fl fc] 40) := (hbV.block _ (by omega)).trans hA2
 refine (toStringSC ia il ic ims V (HI2.out.below hbV) hil).mono ?_
 rintro e w4 ⟨v, rfl, hown, _, hb4⟩
 obtain ⟨_, a', c', rfl, _⟩ := own_texts hown
 obtain ⟨l0, l1, l2, lf⟩ := three hb4 (by omega) hL
 obtain ⟨r0, r1, r2, rf⟩ := three hb4 (by omega) hRV
 obtain ⟨_, _, b2, _⟩ := three hb4 (by omega) hAV
 have hB4 : Below D w w4 := hb2.trans ((hbV.mono (by omega)).trans (hb4.mono (by omega)))
 have hs4 : D + 3 ≤ w4.heap.size := by have := hb4.size; omega
 rw [hsV] at hown
 obtain ⟨U, hU⟩ : ∃ U, w4.setCell ⟨D + 2, 1, none⟩ (.slice a' il c') = U := ⟨_, rfl⟩
 have hgU : w4.grownBy U (some (D + 2)) := by rw [← hU]; exact grown_set _ _ _ _
 have u0 : U.cell? ⟨D + 2, 0, none⟩ = some (.string ⟨nm.toArray⟩) := by rw [← hU]; exact (World.cell?_setCell_other _ _ _ _ (by simp)).trans l0
 have u1 : U.cell? ⟨D + 2, 1, none⟩ = some (.slice a' il c') := by rw [← hU]; exact World.cell?_setCell_same _ _ _ l1
 have u2 : U.cell? ⟨D + 2, 2, none⟩ = some (.slice none 0 0) := by rw [← hU]; exact (World.cell?_setCell_other _ _ _ _ (by simp)).trans l2
 have d2 : U.cell? ⟨D, 2, none⟩ = some (.slice fa fl fc) := by rw [← hU]; exact (World.cell?_setCell_other _ _ _ _ (by simp)).trans b2
 have p0 : U.cell? ⟨D + 1, 0, none⟩ = some (.string ⟨#[]⟩) := by rw [← hU]; exact (World.cell?_setCell_other _ _ _ _ (by simp)).trans r0
 have p1 : U.cell? ⟨D + 1, 1, none⟩ = some (.slice none 0 0) := by rw [← hU]; exact (World.cell?_setCell_other _ _ _ _ (by simp)).trans r1
 have p2 : U.cell? ⟨D + 1, 2, none⟩ = some (.slice none 0 0) := by rw [← hU]; exact (World.cell?_setCell_other _ _ _ _ (by simp)).trans r2
 have pf : ∀ j, U.frozen? ⟨D + 1, j, none⟩ = false := fun j => by rw [← hU]; exact (World.frozen?_setCell ..).trans (rf j)
 have uf : ∀ j, U.frozen? ⟨D + 2, j, none⟩ = false := fun j => by rw [← hU]; exact (World.frozen?_setCell ..).trans (lf j)
 have lf1 := lf 1
 have hOU : U.ownsRow (D + 3) 9 1 (.slice a' il c') il (strV ims) := hown.kept hgU (own_off hown (by omega))
 have hBU : Below D w U := hB4.grown hgU (by omega) (fun k e => by injection e with e; omega)
 have hsU : D + 3 ≤ U.heap.size := Nat.le_trans hs4 hgU.size
 have hFU : FuncsIn U fa fl fs := HF0.out.below (by rw [hD]; exact hBU)
 have HC2 := toFuncSC fa fl fc fs U hFU hfl HSH.out
 have hl2 : D + 2 < U.heap.size := by omega
 have hl1 : D + 1 < U.heap.size := by omega
 clear hown hb4 hB4 hgU lf rf l0 l2 r0 r1 r2 a0 a1 hL hRV hR hbV hb12 hb1 hb2 HI2 b2 hA2 hAV HF0 HSH
 go_wp2_with fail
 refine HC2.mono ?_
 rintro e w5 ⟨g2, xs, rfl, hxs, hfo, hap, hb5⟩
 have HAP : Hid (Apart (xs.map fvT)) := hap
 clear hap
 have n0 := (hb5.cell (p := ⟨D + 2, 0, none⟩) hl2).trans u0
 have n1 := (hb5.cell (p := ⟨D + 2, 1, none⟩) hl2).trans u1
 have n2 := (hb5.cell (p := ⟨D + 2, 2, none⟩) hl2).trans u2
 have m0 := (hb5.cell (p := ⟨D + 1, 0, none⟩) hl1).trans p0
 have m1 := (hb5.cell (p := ⟨D + 1, 1, none⟩) hl1).trans p1
 have m2 := (hb5.cell (p := ⟨D + 1, 2, none⟩) hl1).trans p2
 have mf : ∀ j, w5.frozen? ⟨D + 1, j, none⟩ = false := fun j => (hb5.frozen (p := ⟨D + 1, j, none⟩) hl1).trans (pf j)
 have nf2 := (hb5.frozen (p := ⟨D + 2, 2, none⟩) hl2).trans (uf 2)
 have hO5 := own_below hOU hb5
 have hfo5 := hfo.base hsU
 have hB5 : Below D w w5 := hBU.trans (hb5.mono (by omega))
 have hs5 : D + 3 ≤ w5.heap.size := Nat.le_trans hsU hb5.size
 obtain ⟨X, hX⟩ : ∃ X, w5.setCell ⟨D + 2, 2, none⟩ (.slice (some ⟨g2, 0, none⟩) fl fl) = X := ⟨_, rfl⟩
 have hgX : w5.grownBy X (some (D + 2)) := by rw [← hX]; exact grown_set _ _ _ _
 have x0 : X.cell? ⟨D + 2, 0, none⟩ = some (.string ⟨nm.toArray⟩) := by rw [← hX]; exact (World.cell?_setCell_other _ _ _ _ (by simp)).trans n0
 have x1 : X.cell? ⟨D + 2, 1, none⟩ = some (.slice a' il c') := by rw [← hX]; exact (World.cell?_setCell_other _ _ _ _ (by simp)).trans n1
 have x2 : X.cell? ⟨D + 2, 2, none⟩ = some (.slice (some ⟨g2, 0, none⟩) fl fl) := by rw [← hX]; exact World.cell?_setCell_same _ _ _ n2
 have z0 : X.cell? ⟨D + 1, 0, none⟩ = some (.string ⟨#[]⟩) := by rw [← hX]; exact (World.cell?_setCell_other _ _ _ _ (by simp)).trans m0
 have z1 : X.cell? ⟨D + 1, 1, none⟩ = some (.slice none 0 0) := by rw [← hX]; exact (World.cell?_setCell_other _ _ _ _ (by simp)).trans m1
 have z2 : X.cell? ⟨D + 1, 2, none⟩ = some (.slice none 0 0) := by rw [← hX]; exact (World.cell?_setCell_other _ _ _ _ (by simp)).trans m2
 have zf : ∀ j, X.frozen? ⟨D + 1, j, none⟩ = false := fun j => by rw [← hX]; exact (World.frozen?_setCell ..).trans (mf j)
 have zf0 := zf 0
 have zf1 := zf 1
 have zf2 := zf 2
 have HXS : Hid (xs.map (·.1) = fs) := hxs
 have HOX : Hid (X.ownsRow (D + 3) 9 1 (.slice a' il c') il (strV ims)) := hO5.kept hgX (own_off hO5 (by omega))
 have HFX : Hid (FnsOwn X (D + 3) (.slice (some ⟨g2, 0, none⟩) fl fl) xs) := hfo5.kept hgX (own_off hfo5.row (by omega)) (fun y hy => own_off (hfo5.trees y hy) (by omega))
 have HBX : Hid (Below D w X) := hB5.grown hgX (by omega) (fun k e => by injection e with e; omega)
 have hsX : D + 3 ≤ X.heap.size := Nat.le_trans hs5 hgX.size
 clear HC2 hfo hfo5 hb5 hO5 hOU hB5 hgX zf mf pf uf u0 u1 u2 p0 p1 p2 d2 n0 n1 m0 m1 m2 hxs hFU hBU lf1
 go_wp2
 obtain ⟨Y, hY, y0, y1, y2, hg⟩ := set3 (.string ⟨nm.toArray⟩) (.slice a' il c') (.slice (some ⟨g2, 0, none⟩) fl fl) z0 z1 z2
 rw [hY]
 refine bodyPost_ret (v := .agg #[.string ⟨nm.toArray⟩, .slice a' il c', .slice (some ⟨g2, 0, none⟩) fl fl]) (by simp [results, Tryz.results19, go_sem, y0, y1, y2]) rfl ?_
 have hfx := HFX.out
 exact ⟨a', c', g2, xs, rfl, HXS.out, own_base (HOX.out.kept hg (own_off HOX.out (by omega))) (by omega), (hfx.kept hg (own_off hfx.row (by omega)) (fun y hy => own_off (hfx.trees y hy) (by omega))).base (by omega), HAP.out, by rw [hD]; exact HBX.out.grown hg (by omega) (fun k e => by injection e with e; omega)⟩

end Go.Proofs.YtaidhjjpdkkmcaaGreatDoor

/-! The laws' own helpers over rows of nodes: markNodeS, heldNodeS, likeTree. -/
namespace Go.Proofs.YtaidhjjpdkkmcaaGreatDoor
open Go.RowKit

/-- The marks of m nodes, from k on. -/
def marksN (k : Nat) : Nat → List Nd
 | 0 => []
 | m + 1 => marksN k m ++ [(((k + 4 * m : Nat) : Int), ((k + 4 * m + 1 : Nat) : Int), markL (k + 4 * m + 1 + 1), markL (k + 4 * m + 1 + 1 + 1))]

theorem marksN_len (k m : Nat) : (marksN k m).length = m := by
 induction m with
 | zero => rfl
 | succ m ih => simp [marksN, ih]

theorem marksN_set (k i : Nat) (ns : List Nd) (h : i < ns.length) : (marksN k i ++ ns.drop i).set i (((k + 4 * i : Nat) : Int), ((k + 4 * i + 1 : Nat) : Int), markL (k + 4 * i + 1 + 1), markL (k + 4 * i + 1 + 1 + 1)) = marksN k (i + 1) ++ ns.drop (i + 1) := by
 rw [List.set_append_right _ _ (by rw [marksN_len]; omega), marksN_len, Nat.sub_self, List.drop_eq_getElem_cons h, zB]
 conv => rhs; unfold marksN
 rw [List.append_assoc]; rfl

set_option maxHeartbeats 2000000 in
set_option maxRecDepth 100000 in
theorem markNodeSC (w : World) (base g cp n k0 : Nat) (ns : List Nd) (hn : n ≤ 1100000) (hk0 : 0 < k0) (hk1 : k0 ≤ 30000000)
 (h : w.ownsRow base 125 4 (.slice (some ⟨g, 0, none⟩) n cp) n (nodesV ns)) :
 Calls Tryz.prog 68 #[.slice (some ⟨g, 0, none⟩) n cp, .int .i64 k0] w fun e w' => e = .returned (.int .i64 ((k0 + 4 * n : Nat) : Int)) ∧ w'.ownsRow base 125 4 (.slice (some ⟨g, 0, none⟩) n cp) n (nodesV (marksN k0 n)) ∧ w.grownBy w' (some g) := by
 have hbl := (own_nodes h).1
 go_enter Tryz.func68, Tryz.ntmps68
 go_wp2
 go_loopw [1, 5] (fun k i wr => ∃ m : Nat, m ≤ n ∧ i = .int .i64 m ∧ k = .int .i64 ((k0 + 4 * m : Nat) : Int) ∧ wr.ownsRow base 125 4 (.slice (some ⟨g, 0, none⟩) n cp) n (nodesV (marksN k0 m ++ ns.drop m)) ∧ w.grownBy wr (some g)) (fun _ i _ => n - (intOf i).toNat)
 case atStart => exact ⟨0, Nat.zero_le _, rfl, rfl, h, World.grownBy.refl _ _⟩
 case round =>
  obtain ⟨m, hm, rfl, rfl, hown, hg⟩ := hrel
  by_cases hlt : (m : Int) < (n : Int)
  ·
   have hl2 : (marksN k0 m ++ ns.drop m).length = n := (own_nodes hown).1
   have hset := marksN_set k0 m ns (by omega)
   obtain ⟨q, hq⟩ : ∃ q, k0 + 4 * m = q := ⟨_, rfl⟩
   have hq3 : q ≤ 34500000 := by omega
   have HQ2 : Hid (k0 + 4 * (m + 1) = q + 1 + 1 + 1 + 1) := by exact (by omega : k0 + 4 * (m + 1) = q + 1 + 1 + 1 + 1)
   rw [hq] at hset ⊢
   clear hq
   obtain ⟨v0, v1, v2, v3⟩ := nodesV_at (marksN k0 m ++ ns.drop m) m (by omega)
   obtain ⟨xs, hxs⟩ : ∃ xs, nodesV (marksN k0 m ++ ns.drop m) = xs := ⟨_, rfl⟩
   have hset2 := nodesV_set (marksN k0 m ++ ns.drop m) m (q : Int) ((q + 1 : Nat) : Int) (markL (q + 1 + 1)) (markL (q + 1 + 1 + 1))
   rw [hset, hxs] at hset2
   rw [hxs] at hown v0 v1 v2 v3
   have HSET : Hid ((((xs.set (m * 4) (.int .i64 (q : Int))).set (m * 4 + 1) (.int .i64 ((q + 1 : Nat) : Int))).set (m * 4 + 2) (.string ⟨(markL (q + 1 + 1)).toArray⟩)).set (m * 4 + 3) (.string ⟨(markL (q + 1 + 1 + 1)).toArray⟩) = nodesV (marksN k0 (m + 1) ++ ns.drop (m + 1))) := hset2
   clear hset hset2 hxs
   obtain ⟨u0, d0⟩ : ∃ u, wr.cell? ⟨g, m * 4, none⟩ = some u := by rw [hown.cellAt (m * 4) (by omega), v0]; exact ⟨_, rfl⟩
   obtain ⟨u1, d1⟩ : ∃ u, wr.cell? ⟨g, m * 4 + 1, none⟩ = some u := by rw [hown.cellAt (m * 4 + 1) (by omega), v1]; exact ⟨_, rfl⟩
   have e0 := hown.frozenAt (m * 4)
   have e1 := hown.frozenAt (m * 4 + 1)
   have hs1 := hown.stored (m * 4) (.int .i64 (q : Int))
   have hs2 := hs1.1.stored (m * 4 + 1) (.int .i64 ((q + 1 : Nat) : Int))
   obtain ⟨W1, hW1⟩ : ∃ W1, (wr.setCell ⟨g, m * 4, none⟩ (.int .i64 (q : Int))).setCell ⟨g, m * 4 + 1, none⟩ (.int .i64 ((q + 1 : Nat) : Int)) = W1 := ⟨_, rfl⟩
   rw [hW1] at hs2
   have HS1 : Hid (W1.ownsRow base 125 4 (.slice (some ⟨g, 0, none⟩) n cp) n ((xs.set (m * 4) (.int .i64 (q : Int))).set (m * 4 + 1) (.int .i64 ((q + 1 : Nat) : Int)))) := hs2.1
   have HG1 : Hid (w.grownBy W1 (some g)) := (hg.trans hs1.2).trans hs2.2
   clear hs1 hs2
   go_wp2_with fail
   refine (markTextC (q + 1 + 1) _ (by omega) (by omega)).mono ?_
   rintro e w2 ⟨rfl, hg2⟩
   first | (have hg2' : W1.grownBy w2 none := hg2) | (have hg2' : W1.grownBy w2 none := by rw [← hW1]; exact hg2)
   have hown2 := own_none HS1.out hg2'
   obtain ⟨u2, d2⟩ : ∃ u, w2.cell? ⟨g, m * 4 + 2, none⟩ = some u := by
    rw [hown2.cellAt (m * 4 + 2) (by omega), List.getElem?_set_ne (by omega), List.getElem?_set_ne (by omega), v2]; exact ⟨_, rfl⟩
   have e2 := hown2.frozenAt (m * 4 + 2)
   have hs3 := hown2.stored (m * 4 + 2) (.string ⟨(markL (q + 1 + 1)).toArray⟩)
   have HS3 : Hid ((w2.setCell ⟨g, m * 4 + 2, none⟩ (.string ⟨(markL (q + 1 + 1)).toArray⟩)).ownsRow base 125 4 (.slice (some ⟨g, 0, none⟩) n cp) n (((xs.set (m * 4) (.int .i64 (q : Int))).set (m * 4 + 1) (.int .i64 ((q + 1 : Nat) : Int))).set (m * 4 + 2) (.string ⟨(markL (q + 1 + 1)).toArray⟩))) := hs3.1
   have HG3 : Hid (w.grownBy (w2.setCell ⟨g, m * 4 + 2, none⟩ (.string ⟨(markL (q + 1 + 1)).toArray⟩)) (some g)) := (HG1.out.andThen hg2' (by simp)).trans hs3.2
   clear hs3 hown2 hg2 hg2' hown hg HS1 HG1 d0 d1 e0 e1 v0 v1 v2
   go_wp2_with fail
   refine (markTextC (q + 1 + 1 + 1) _ (by omega) (by omega)).mono ?_
   rintro e w4 ⟨rfl, hg4⟩
   have hown4 := own_none HS3.out hg4
   obtain ⟨u3, d3⟩ : ∃ u, w4.cell? ⟨g, m * 4 + 3, none⟩ = some u := by
    rw [hown4.cellAt (m * 4 + 3) (by omega), List.getElem?_set_ne (by omega), List.getElem?_set_ne (by omega), List.getElem?_set_ne (by omega), v3]; exact ⟨_, rfl⟩
   have e3 := hown4.frozenAt (m * 4 + 3)
   have hs5 := hown4.stored (m * 4 + 3) (.string ⟨(markL (q + 1 + 1 + 1)).toArray⟩)
   rw [HSET.out] at hs5
   have hg5 := (HG3.out.andThen hg4 (by simp)).trans hs5.2
   have hs6 := hs5.1
   clear hown4 hs5 hg4 HS3 HG3 HSET v3 d2 e2
   go_wp2
   go_roundw
   case rel => exact ⟨m + 1, by omega, by go_num, by rw [HQ2.out]; go_num, hs6, hg5⟩
   case measure => simp [intOf]; omega
  ·
   obtain rfl : m = n := by omega
   have hd : ns.drop m = [] := List.drop_eq_nil_of_le (by omega)
   rw [hd, List.append_nil] at hown
   clear hd
   go_wp2
   go_ret
   exact ⟨rfl, hown, hg⟩

set_option maxHeartbeats 1000000 in
set_option maxRecDepth 100000 in
theorem markNodeSNil (w : World) (k0 : Nat) :
 Calls Tryz.prog 68 #[.slice none 0 0, .int .i64 k0] w fun e w' => e = .returned (.int .i64 (k0 : Int)) ∧ w' = w := by
 go_enter Tryz.func68, Tryz.ntmps68
 go_wp2
 refine wp_loop_rounds 1 ?_
 rw [rounds_succ]
 go_wp2
 go_ret
 exact ⟨rfl, rfl⟩

theorem markNodeSV (w : World) (base n k0 : Nat) (v : Value) (ns : List Nd) (hn : n ≤ 1100000) (hk0 : 0 < k0) (hk1 : k0 ≤ 30000000) (h : w.ownsRow base 125 4 v n (nodesV ns)) :
 Calls Tryz.prog 68 #[v, .int .i64 k0] w fun e w' => e = .returned (.int .i64 ((k0 + 4 * n : Nat) : Int)) ∧ w'.ownsRow base 125 4 v n (nodesV (marksN k0 n)) ∧ w.grownBy w' v.ownBlock := by
 rcases own_forms h with ⟨rfl, rfl, _⟩ | ⟨g, cp, rfl⟩
 ·
  refine (markNodeSNil w k0).mono ?_
  rintro e w' ⟨rfl, rfl⟩
  exact ⟨rfl, World.ownsRow_nil _ _ _ _, World.grownBy.refl _ _⟩
 ·
  exact markNodeSC w base g cp n k0 ns hn hk0 hk1 h


end Go.Proofs.YtaidhjjpdkkmcaaGreatDoor
