/-
  Parts of one proof, one behind the other: RtT, EqT, ObH, OsS.
-/
import Derived.Test.YteolfnceobjonaaGreatP9
import Derived.Test.YteolfnceobjonaaGreatP8
import Derived.Test.YteolfnceobjonaaGreatP5
import Derived.Test.YteolfnceobjonaaGreatP2

/-! The laws' own helpers over routines: toRoutine, toRoutineS. -/
namespace Go.Proofs.YteolfnceobjonaaGreat
open Go.RowKit

set_option maxHeartbeats 2000000 in
set_option maxRecDepth 100000 in
theorem toRoutineC (s : List UInt8) (n : Int) (t : List In13) (ta : Option Addr) (tl tc : Nat) (w : World) (hin : InsIn w ta tl t) (hlen : tl ≤ 1048576) :
    Calls Tryz.prog 102 #[.agg #[.string ⟨s.toArray⟩, .int .i64 n, .slice ta tl tc]] w fun e w' => ∃ a c, e = .returned (.agg #[.string ⟨s.toArray⟩, .int .i64 n, .slice a t.length c]) ∧ w'.ownsRow w.heap.size 102 5 (.slice a t.length c) t.length (insV t) ∧ Below w.heap.size w w' := by
  obtain rfl : t.length = tl := hin.1
  obtain ⟨D, hD⟩ : ∃ D, w.heap.size = D := ⟨_, rfl⟩
  obtain ⟨W1, hW1⟩ : ∃ W, w.alloc (.cells #[.string ⟨s.toArray⟩, .int .i64 n, .slice ta t.length tc] 132) = W := ⟨_, rfl⟩
  obtain ⟨W2, hW2⟩ : ∃ W, W1.alloc (.cells #[.string ⟨#[]⟩, .int .i64 0, .slice none 0 0] 75) = W := ⟨_, rfl⟩
  have hs1 : W1.heap.size = D + 1 := by rw [← hW1, ← hD]; simp
  have hs2 : W2.heap.size = D + 2 := by rw [← hW2]; simp [hs1]
  have hb1 : Below D w W1 := by rw [← hW1, ← hD]; exact (Below.refl _ _).alloc (Nat.le_refl _) _
  have hb12 : Below W1.heap.size W1 W2 := by rw [← hW2]; exact (Below.refl _ _).alloc (Nat.le_refl _) _
  have hb2 : Below D w W2 := hb1.trans (hb12.mono (by omega))
  have hA1 : W1.heap[D]? = some (.cells #[.string ⟨s.toArray⟩, .int .i64 n, .slice ta t.length tc] 132) := by rw [← hW1, ← hD]; exact heap_alloc_new w _
  have hR : W2.heap[D + 1]? = some (.cells #[.string ⟨#[]⟩, .int .i64 0, .slice none 0 0] 75) := by rw [← hs1, ← hW2]; exact heap_alloc_new W1 _
  obtain ⟨q0, q1, q2, _⟩ := threeR hb12 (by omega) hA1
  have a0 : ∀ o, (W2.alloc o).cell? ⟨D, 0, none⟩ = some (.string ⟨s.toArray⟩) := fun o => cell_alwR o q0
  have a1 : ∀ o, (W2.alloc o).cell? ⟨D, 1, none⟩ = some (.int .i64 n) := fun o => cell_alwR o q1
  have a2 : ∀ o, (W2.alloc o).cell? ⟨D, 2, none⟩ = some (.slice ta t.length tc) := fun o => cell_alwR o q2
  have HIN : Hid (InsIn W2 ta t.length t) := hin.below (by rw [hD]; exact hb2)
  clear hin hA1 q0 q1 q2
  go_enter Tryz.func102, Tryz.ntmps102
  go_wp2_with fail
  obtain ⟨V, hV⟩ : ∃ V, W2.alloc (.cells #[.string ⟨s.toArray⟩, .int .i64 n, .slice none 0 0] 75) = V := ⟨_, rfl⟩
  rw [hV]
  have hbV : Below W2.heap.size W2 V := by rw [← hV]; exact (Below.refl _ _).alloc (Nat.le_refl _) _
  have hsV : V.heap.size = D + 3 := by rw [← hV]; simp [hs2]
  have hL : V.heap[D + 2]? = some (.cells #[.string ⟨s.toArray⟩, .int .i64 n, .slice none 0 0] 75) := by rw [← hs2, ← hV]; exact heap_alloc_new W2 _
  have hRV : V.heap[D + 1]? = some (.cells #[.string ⟨#[]⟩, .int .i64 0, .slice none 0 0] 75) := (hbV.block _ (by omega)).trans hR
  refine (toInsSC ta t.length tc t V (HIN.out.below hbV) hlen).mono ?_
  rintro e w4 ⟨v, rfl, hown, _, hb4⟩
  obtain ⟨_, a', c', rfl, _⟩ := own_ins hown
  obtain ⟨l0, l1, l2, lf⟩ := threeR hb4 (by omega) hL
  obtain ⟨r0, r1, r2, rf⟩ := threeR hb4 (by omega) hRV
  have hB4 : Below D w w4 := hb2.trans ((hbV.mono (by omega)).trans (hb4.mono (by omega)))
  have hs4 : D + 3 ≤ w4.heap.size := by have := hb4.size; omega
  rw [hsV] at hown
  obtain ⟨U, hU⟩ : ∃ U, w4.setCell ⟨D + 2, 2, none⟩ (.slice a' t.length c') = U := ⟨_, rfl⟩
  have hgU : w4.grownBy U (some (D + 2)) := by rw [← hU]; exact grown_set _ _ _ _
  have u0 : U.cell? ⟨D + 2, 0, none⟩ = some (.string ⟨s.toArray⟩) := by rw [← hU]; exact (World.cell?_setCell_other _ _ _ _ (by simp)).trans l0
  have u1 : U.cell? ⟨D + 2, 1, none⟩ = some (.int .i64 n) := by rw [← hU]; exact (World.cell?_setCell_other _ _ _ _ (by simp)).trans l1
  have u2 : U.cell? ⟨D + 2, 2, none⟩ = some (.slice a' t.length c') := by rw [← hU]; exact World.cell?_setCell_same _ _ _ l2
  have p0 : U.cell? ⟨D + 1, 0, none⟩ = some (.string ⟨#[]⟩) := by rw [← hU]; exact (World.cell?_setCell_other _ _ _ _ (by simp)).trans r0
  have p1 : U.cell? ⟨D + 1, 1, none⟩ = some (.int .i64 0) := by rw [← hU]; exact (World.cell?_setCell_other _ _ _ _ (by simp)).trans r1
  have p2 : U.cell? ⟨D + 1, 2, none⟩ = some (.slice none 0 0) := by rw [← hU]; exact (World.cell?_setCell_other _ _ _ _ (by simp)).trans r2
  have pf : ∀ j, U.frozen? ⟨D + 1, j, none⟩ = false := fun j => by rw [← hU]; exact (World.frozen?_setCell ..).trans (rf j)
  have pf0 := pf 0
  have pf1 := pf 1
  have pf2 := pf 2
  have lf2 := lf 2
  have HOU : Hid (U.ownsRow (D + 3) 102 5 (.slice a' t.length c') t.length (insV t)) := hown.kept hgU (own_offR hown (by omega))
  have HBU : Hid (Below D w U) := hB4.grown hgU (by omega) (fun k e => by injection e with e; omega)
  have hsU : D + 3 ≤ U.heap.size := Nat.le_trans hs4 hgU.size
  clear hown hb4 hB4 hgU pf lf rf l0 l1 r0 r1 r2 a0 a1 a2 hL hRV hR hbV hb12 hb1 hb2 HIN
  go_wp2
  obtain ⟨Y, hY, y0, y1, y2, hg⟩ := set3R (.string ⟨s.toArray⟩) (.int .i64 n) (.slice a' t.length c') p0 p1 p2
  rw [hY]
  refine bodyPost_ret (v := .agg #[.string ⟨s.toArray⟩, .int .i64 n, .slice a' t.length c']) (by simp [results, Tryz.results102, go_sem, y0, y1, y2]) rfl ?_
  exact ⟨a', c', rfl, own_base (HOU.out.kept hg (own_offR HOU.out (by omega))) (by omega), by rw [hD]; exact HBU.out.grown hg (by omega) (fun k e => by injection e with e; omega)⟩

theorem rtsV_set (xs : List RV) (j : Nat) (y : RV) : (((rtsV xs).set (j * 3) (.string ⟨y.1.1.toArray⟩)).set (j * 3 + 1) (.int .i64 y.1.2.1)).set (j * 3 + 2) (rvT y) = rtsV (xs.set j y) := by
  induction xs generalizing j with
  | nil => simp [rtsV]
  | cons b r ih =>
    cases j with
    | zero => simp [rtsV]
    | succ j => rw [show (j + 1) * 3 = j * 3 + 1 + 1 + 1 by omega]; simp [rtsV, ih]

theorem made_rts (n : Nat) : (madeCells (Value.agg #[.string ⟨#[]⟩, .int .i64 0, .slice none 0 0]).cells (n * 3)).toList = rtsV (List.replicate n rv0) := by
  have hc : (Value.agg #[.string ⟨#[]⟩, .int .i64 0, .slice none 0 0]).cells = #[.string ⟨#[]⟩, .int .i64 0, .slice none 0 0] := rfl
  rw [hc]
  apply List.ext_getElem?
  intro j
  by_cases hj : j < n * 3
  · obtain ⟨v0, v1, v2⟩ := rtsV_at (List.replicate n rv0) (j / 3) (by simp; omega)
    have hg : (List.replicate n rv0).getD (j / 3) rv0 = rv0 := by simp [List.getD, List.getElem?_replicate]; split <;> rfl
    rw [hg] at v0 v1 v2
    have h3 : j % 3 = 0 ∨ j % 3 = 1 ∨ j % 3 = 2 := by omega
    rcases h3 with h' | h' | h'
    · have ej : j = j / 3 * 3 := by omega
      rw [← ej] at v0
      rw [v0]
      simp [madeCells, hj, h', rv0, rt0]
    · have ej : j = j / 3 * 3 + 1 := by omega
      rw [← ej] at v1
      rw [v1]
      simp [madeCells, hj, h', rv0, rt0]
    · have ej : j = j / 3 * 3 + 2 := by omega
      rw [← ej] at v2
      rw [v2]
      simp [madeCells, hj, h', rv0, rt0, rvT]
  · rw [List.getElem?_eq_none (by simp [madeCells]; omega), List.getElem?_eq_none (by rw [rtsV_len]; simp; omega)]

theorem fill_rt (ys : List RV) (len k : Nat) (y : RV) (hy : ys.length = k) (hk : k < len) : (ys ++ List.replicate (len - k) rv0).set k y = (ys ++ [y]) ++ List.replicate (len - (k + 1)) rv0 := by
  rw [List.set_append_right _ _ (by omega), hy, Nat.sub_self, show len - k = (len - (k + 1)) + 1 by omega, List.replicate_succ, List.set_cons_zero, List.append_assoc]
  rfl

set_option maxHeartbeats 4000000 in
set_option maxRecDepth 100000 in
theorem toRoutineSC (a : Option Addr) (len cap : Nat) (fs : List Rt) (w : World) (hin : RtsIn w a len fs) (hlen : len ≤ 1048576) (hsh : ∀ j, (fs.getD j rt0).2.2.length ≤ 1048576) :
    Calls Tryz.prog 65 #[.slice a len cap] w fun e w' => ∃ g xs, e = .returned (.slice (some ⟨g, 0, none⟩) len len) ∧ xs.map (·.1) = fs ∧ RtsOwn w' w.heap.size (.slice (some ⟨g, 0, none⟩) len len) xs ∧ ApartR (xs.map rvT) ∧ Below w.heap.size w w' := by
  obtain ⟨i0, hi, hz0, hz1, hz2⟩ := info_parts infoRt
  have hlb := hin.1
  have HI : Hid (RtsIn w a len fs) := hin
  have HSH : Hid (∀ j, (fs.getD j rt0).2.2.length ≤ 1048576) := hsh
  clear hin hsh
  go_enter Tryz.func65, Tryz.ntmps65
  go_wp2_with (at_make; refine wpList_make_full _ rfl _ _ 33 rfl w.heap.size 75 i0 _ 3 Tryz.underlying33 hi hz0 hz1 .i64 .i64 _ _ len rfl rfl rfl rfl (by rw [hz2]; omega) (by unfold maxLen; omega) (Nat.le_refl _) ?_; intro w1 hown1 hgrow1)
  rw [made_rts] at hown1
  have hB1 : Below w.heap.size w w1 := (Below.refl _ _).grown hgrow1 (Nat.le_refl _) (by simp)
  clear hgrow1
  go_loopw [4] (fun i wr => ∃ (k : Nat) (ys : List RV), k ≤ len ∧ i = .int .i64 k ∧ ys.length = k ∧ Hid (ys.map (·.1) = fs.take k) ∧ Hid (wr.ownsRow w.heap.size 75 3 (.slice (some ⟨w.heap.size, 0, none⟩) len len) len (rtsV (ys ++ List.replicate (len - k) rv0))) ∧ Hid (∀ x ∈ ys, wr.ownsRow w.heap.size 102 5 (rvT x) x.1.2.2.length (insV x.1.2.2)) ∧ Hid (ApartR (ys.map rvT)) ∧ Below w.heap.size w wr) (fun i _ => len - (intOf i).toNat)
  case atStart => exact ⟨0, [], Nat.zero_le _, rfl, rfl, (by simp : ([] : List RV).map (·.1) = fs.take 0), (by simpa using hown1 : w1.ownsRow w.heap.size 75 3 (.slice (some ⟨w.heap.size, 0, none⟩) len len) len (rtsV ([] ++ List.replicate (len - 0) rv0))), (fun x hx => (by cases hx) : ∀ x ∈ ([] : List RV), _), ApartR.nil, hB1⟩
  case round =>
    obtain ⟨k, ys, hk, rfl, hyl, HM, HR, HT, HAP, hB⟩ := hrel
    clear hown1 hB1
    by_cases hkl : (k : Int) < (len : Int)
    · obtain ⟨b, off, rfl, hbl, c0, c1, ta, tl, tc, c2, hnin⟩ := (HI.out.below hB).2 k (by omega)
      have hts := HSH.out k
      have hmk : fs.take (k + 1) = fs.take k ++ [fs.getD k rt0] := by
        have hg : fs.getD k rt0 = fs[k]'(by omega) := by simp [List.getD, show k < fs.length by omega]
        rw [hg, List.take_succ_eq_append_getElem]
      obtain ⟨f, hf⟩ : ∃ f, fs.getD k rt0 = f := ⟨_, rfl⟩
      rw [hf] at c0 c1 hnin hts hmk
      obtain ⟨s, n, t⟩ := f
      simp only at c0 c1 hnin hts
      obtain rfl : t.length = tl := hnin.1
      have HMK : Hid (fs.take (k + 1) = fs.take k ++ [(s, n, t)]) := hmk
      have HC := toRoutineC s n t ta t.length tc wr hnin (by omega)
      clear hf hnin hmk
      go_wp2_with fail
      refine HC.mono ?_
      rintro e w2 ⟨av, cv, rfl, hownT, hb2⟩
      have hown2 := own_below HR.out hb2
      have hT2 : ∀ x ∈ ys, w2.ownsRow w.heap.size 102 5 (rvT x) x.1.2.2.length (insV x.1.2.2) := fun x hx => own_below (HT.out x hx) hb2
      have hl2 : (ys ++ List.replicate (len - k) rv0).length = len := by rw [List.length_append, List.length_replicate]; omega
      obtain ⟨v0, v1, v2⟩ := rtsV_at (ys ++ List.replicate (len - k) rv0) k (by omega)
      obtain ⟨u0, d0⟩ : ∃ u, w2.cell? ⟨w.heap.size, k * 3, none⟩ = some u := by
        rw [hown2.cellAt (k * 3) (by omega), v0]; exact ⟨_, rfl⟩
      obtain ⟨u1, d1⟩ : ∃ u, w2.cell? ⟨w.heap.size, k * 3 + 1, none⟩ = some u := by
        rw [hown2.cellAt (k * 3 + 1) (by omega), v1]; exact ⟨_, rfl⟩
      obtain ⟨u2, d2⟩ : ∃ u, w2.cell? ⟨w.heap.size, k * 3 + 2, none⟩ = some u := by
        rw [hown2.cellAt (k * 3 + 2) (by omega), v2]; exact ⟨_, rfl⟩
      have e0 := hown2.frozenAt (k * 3)
      have e1 := hown2.frozenAt (k * 3 + 1)
      have e2 := hown2.frozenAt (k * 3 + 2)
      have hs1 := hown2.stored (k * 3) (.string ⟨s.toArray⟩)
      have hs2 := hs1.1.stored (k * 3 + 1) (.int .i64 n)
      have hs3 := hs2.1.stored (k * 3 + 2) (.slice av t.length cv)
      have hnew := hs3.1
      have hset := rtsV_set (ys ++ List.replicate (len - k) rv0) k ((s, n, t), av, cv)
      rw [fill_rt ys len k _ hyl (by omega)] at hset
      have hfv : rvT ((s, n, t), av, cv) = .slice av t.length cv := rfl
      rw [hfv] at hset
      simp only at hset
      rw [hset] at hnew
      have hgr : w2.grownBy (((w2.setCell ⟨w.heap.size, k * 3, none⟩ (.string ⟨s.toArray⟩)).setCell ⟨w.heap.size, k * 3 + 1, none⟩ (.int .i64 n)).setCell ⟨w.heap.size, k * 3 + 2, none⟩ (.slice av t.length cv)) (some w.heap.size) := ((grown_set _ _ _ _).trans (grown_set _ _ _ _)).trans (grown_set _ _ _ _)
      have hsome : (Value.slice (some ⟨w.heap.size, 0, none⟩) len len).ownBlock = some w.heap.size := rfl
      have offT : ∀ {v : Value} {m : Nat} {zs : List Value}, w2.ownsRow w.heap.size 102 5 v m zs → v.ownBlock = none ∨ v.ownBlock ≠ some w.heap.size := fun ho => by rw [← hsome]; exact own_typesR ho hown2 (by decide)
      have hB2 : Below w.heap.size w w2 := hB.trans (hb2.mono hB.size)
      have hownT2 := own_base hownT hB.size
      have HAP2 : Hid (ApartR ((ys ++ [((s, n, t), av, cv)]).map rvT)) := by
        rw [List.map_append]
        refine HAP.out.snoc (fun v hv => ?_)
        obtain ⟨x, hx, rfl⟩ := List.mem_map.1 hv
        exact own_aheadR (HT.out x hx) hownT (Nat.le_refl _)
      have HN : Hid (Below w.heap.size w (((w2.setCell ⟨w.heap.size, k * 3, none⟩ (.string ⟨s.toArray⟩)).setCell ⟨w.heap.size, k * 3 + 1, none⟩ (.int .i64 n)).setCell ⟨w.heap.size, k * 3 + 2, none⟩ (.slice av t.length cv))) := hB2.grown hgr hB2.size (fun q e => by injection e with e; omega)
      have HR2 : Hid ((((w2.setCell ⟨w.heap.size, k * 3, none⟩ (.string ⟨s.toArray⟩)).setCell ⟨w.heap.size, k * 3 + 1, none⟩ (.int .i64 n)).setCell ⟨w.heap.size, k * 3 + 2, none⟩ (.slice av t.length cv)).ownsRow w.heap.size 75 3 (.slice (some ⟨w.heap.size, 0, none⟩) len len) len (rtsV ((ys ++ [((s, n, t), av, cv)]) ++ List.replicate (len - (k + 1)) rv0))) := hnew
      have HT2 : Hid (∀ x ∈ ys ++ [((s, n, t), av, cv)], (((w2.setCell ⟨w.heap.size, k * 3, none⟩ (.string ⟨s.toArray⟩)).setCell ⟨w.heap.size, k * 3 + 1, none⟩ (.int .i64 n)).setCell ⟨w.heap.size, k * 3 + 2, none⟩ (.slice av t.length cv)).ownsRow w.heap.size 102 5 (rvT x) x.1.2.2.length (insV x.1.2.2)) := fun x hx => by
        rw [List.mem_append, List.mem_singleton] at hx
        rcases hx with hx | rfl
        · exact (hT2 x hx).kept hgr (offT (hT2 x hx))
        · exact hownT2.kept hgr (offT hownT2)
      have HM2 : Hid ((ys ++ [((s, n, t), av, cv)]).map (·.1) = fs.take (k + 1)) := by exact (by rw [List.map_append, HM.out, HMK.out]; rfl : (ys ++ [((s, n, t), av, cv)]).map (·.1) = fs.take (k + 1))
      have hsz2 : w.heap.size < w2.heap.size := World.block_lt_of_cell? w2 ⟨w.heap.size, k * 3, none⟩ d0
      clear hown2 hs1 hs2 hs3 hl2 v0 v1 v2 hnew hset hfv hgr hsome offT hB2 hownT2 hownT HC HR HT HM hT2 HMK
      go_wp2
      go_roundw
      case rel => exact ⟨k + 1, ys ++ [((s, n, t), av, cv)], by omega, by go_num, by simp [hyl], HM2, HR2, HT2, HAP2, HN.out⟩
      case measure => simp [intOf]; omega
    · have hd : ys ++ List.replicate (len - k) rv0 = ys := by rw [show len - k = 0 by omega]; simp
      have hrow := HR.out
      rw [hd] at hrow
      have HF : Hid (RtsOwn wr w.heap.size (.slice (some ⟨w.heap.size, 0, none⟩) len len) ys) := (⟨by rw [show ys.length = len by omega]; exact hrow, HT.out⟩ : RtsOwn wr w.heap.size (.slice (some ⟨w.heap.size, 0, none⟩) len len) ys)
      have HM2 : Hid (ys.map (·.1) = fs) := by exact (by rw [HM.out]; exact List.take_of_length_le (by omega) : ys.map (·.1) = fs)
      clear hd hrow HR HT HM
      go_wp2
      go_ret
      exact ⟨w.heap.size, rfl, ys, HM2.out, HF.out, HAP.out, hB⟩

end Go.Proofs.YteolfnceobjonaaGreat

/-! The laws' own helper eqStringS over texts that can be read. -/
namespace Go.Proofs.YteolfnceobjonaaGreat
open Go.RowKit

set_option maxHeartbeats 1000000 in
set_option maxRecDepth 100000 in
theorem eqTextsC (a b : Option Addr) (len ca cb : Nat) (ts : List (List UInt8)) (w : World) (ha : TextsIn w a len ts) (hb : TextsIn w b len ts) (hlen : len ≤ 4194304) :
    Calls Tryz.prog 11 #[.slice a len ca, .slice b len cb] w fun e w' => e = .returned (.bool true) ∧ Below w.heap.size w w' := by
  have hne : ((len : Int) != (len : Int)) = false := by simp
  have hself : ∀ l : List UInt8, (l != l) = false := by simp
  have HA : Hid (TextsIn w a len ts) := ha
  have HB : Hid (TextsIn w b len ts) := hb
  clear ha hb
  go_enter Tryz.func11, Tryz.ntmps11
  go_wp2
  go_loopw [5] (fun i wr => ∃ k : Nat, k ≤ len ∧ i = .int .i64 k ∧ Below w.heap.size w wr) (fun i _ => len - (intOf i).toNat)
  case atStart => exact ⟨0, Nat.zero_le _, rfl, Below.refl _ _⟩
  case round =>
    obtain ⟨k, hk, rfl, hB⟩ := hrel
    by_cases hkl : (k : Int) < (len : Int)
    · obtain ⟨b1, o1, rfl, hb1, hca⟩ := (HA.out.below hB).2 k (by omega)
      obtain ⟨b2, o2, rfl, hb2, hcb⟩ := (HB.out.below hB).2 k (by omega)
      obtain ⟨t, ht⟩ : ∃ t, ts.getD k [] = t := ⟨_, rfl⟩
      rw [ht] at hca hcb
      clear ht
      go_wp2
      go_region
      all_goals (try go_wp2)
      go_roundw
      case rel => exact ⟨k + 1, by omega, by go_num, hB.drew⟩
      case measure => simp [intOf]; omega
    · go_wp2
      go_ret
      exact ⟨rfl, hB⟩

end Go.Proofs.YteolfnceobjonaaGreat

/-! The laws' own helpers over objects: szObject, eqObject, toObject. -/
namespace Go.Proofs.YteolfnceobjonaaGreat
open Go.RowKit

/-- How much a package has in all. -/
def obSz (nm : List UInt8) (ims : List (List UInt8)) (fs : List Rt) : Nat := nm.length + (ims.length + joinN ims) + (fs.length + rtsSz fs)

structure ObIn (W : World) (D : Nat) (nm : List UInt8) (ia : Option Addr) (il ic : Nat) (fa : Option Addr) (fl fc : Nat) (ims : List (List UInt8)) (fs : List Rt) : Prop where
  k0 : W.cell? ⟨D, 0, none⟩ = some (.string ⟨nm.toArray⟩)
  k1 : W.cell? ⟨D, 1, none⟩ = some (.slice ia il ic)
  k2 : W.cell? ⟨D, 2, none⟩ = some (.slice fa fl fc)
  i : TextsIn W ia il ims
  f : RtsIn W fa fl fs

theorem ObIn.below {W W' : World} {D : Nat} {nm : List UInt8} {ia : Option Addr} {il ic : Nat} {fa : Option Addr} {fl fc : Nat} {ims : List (List UInt8)} {fs : List Rt} (h : ObIn W D nm ia il ic fa fl fc ims fs) (hb : Below W.heap.size W W') : ObIn W' D nm ia il ic fa fl fc ims fs :=
  have hl : D < W.heap.size := World.block_lt_of_cell? W ⟨D, 0, none⟩ h.k0
  ⟨(hb.cell (p := ⟨D, 0, none⟩) hl).trans h.k0, (hb.cell (p := ⟨D, 1, none⟩) hl).trans h.k1, (hb.cell (p := ⟨D, 2, none⟩) hl).trans h.k2, h.i.below hb, h.f.below hb⟩

theorem ObIn.drew {W : World} {D : Nat} {nm : List UInt8} {ia : Option Addr} {il ic : Nat} {fa : Option Addr} {fl fc : Nat} {ims : List (List UInt8)} {fs : List Rt} (h : ObIn W D nm ia il ic fa fl fc ims fs) : ObIn W.drew D nm ia il ic fa fl fc ims fs := ⟨h.k0, h.k1, h.k2, h.i, h.f⟩

theorem ObIn.new {w : World} {nm : List UInt8} {ia : Option Addr} {il ic : Nat} {fa : Option Addr} {fl fc : Nat} {ims : List (List UInt8)} {fs : List Rt} (hi : TextsIn w ia il ims) (hf : RtsIn w fa fl fs) :
    ObIn (w.alloc (.cells #[.string ⟨nm.toArray⟩, .slice ia il ic, .slice fa fl fc] 45)) w.heap.size nm ia il ic fa fl fc ims fs ∧ Below w.heap.size w (w.alloc (.cells #[.string ⟨nm.toArray⟩, .slice ia il ic, .slice fa fl fc] 45)) := by
  have hb : Below w.heap.size w (w.alloc (.cells #[.string ⟨nm.toArray⟩, .slice ia il ic, .slice fa fl fc] 45)) := (Below.refl _ _).alloc (Nat.le_refl _) _
  have hA := heap_alloc_new w (.cells #[.string ⟨nm.toArray⟩, .slice ia il ic, .slice fa fl fc] 45)
  generalize w.alloc (.cells #[.string ⟨nm.toArray⟩, .slice ia il ic, .slice fa fl fc] 45) = W at hb hA ⊢
  exact ⟨⟨by simp [World.cell?, hA], by simp [World.cell?, hA], by simp [World.cell?, hA], hi.below hb, hf.below hb⟩, hb⟩

/-- A package small enough: every bound. -/
theorem ob_small {nm : List UInt8} {ims : List (List UInt8)} {fs : List Rt} (h : obSz nm ims fs ≤ 1048576) : ims.length ≤ 1048576 ∧ fs.length ≤ 1048576 ∧ nm.length ≤ 1048576 ∧ (∀ i, (ims.getD i []).length ≤ 1048576) ∧ ShortR fs := by
  unfold obSz at h
  refine ⟨by omega, by omega, by omega, fun i => ?_, shortR_of (by omega)⟩
  have h1 := part_le ims i
  have h2 : joinN ims = ims.flatten.length := rfl
  omega

set_option maxHeartbeats 2000000 in
set_option maxRecDepth 100000 in
theorem szObjectC (nm : List UInt8) (ia : Option Addr) (il ic : Nat) (fa : Option Addr) (fl fc : Nat) (ims : List (List UInt8)) (fs : List Rt) (left : Int) (w : World) (hi : TextsIn w ia il ims) (hf : RtsIn w fa fl fs) (h0 : 0 ≤ left) (h1 : left ≤ 1048576) (hnm : nm.length ≤ maxLen) (hil : il ≤ maxLen) (him : ∀ j, (ims.getD j []).length ≤ maxLen) (hfl : fl ≤ maxLen) (hfm : LongR fs) :
    Calls Tryz.prog 32 #[.agg #[.string ⟨nm.toArray⟩, .slice ia il ic, .slice fa fl fc], .int .i64 left] w fun e w' => e = .returned (.int .i64 (szR (obSz nm ims fs) left)) ∧ Below w.heap.size w w' := by
  obtain rfl : ims.length = il := hi.1
  obtain rfl : fs.length = fl := hf.1
  unfold maxLen at hnm
  have hs2 : (nm.length : Int) ≤ 9223372036854775807 := by omega
  obtain ⟨W, hW⟩ : ∃ W, w.alloc (.cells #[.string ⟨nm.toArray⟩, .slice ia ims.length ic, .slice fa fs.length fc] 59) = W := ⟨_, rfl⟩
  have hbW : Below w.heap.size w W := by rw [← hW]; exact (Below.refl _ _).alloc (Nat.le_refl _) _
  have hA : W.heap[w.heap.size]? = some (.cells #[.string ⟨nm.toArray⟩, .slice ia ims.length ic, .slice fa fs.length fc] 59) := by rw [← hW]; exact heap_alloc_new w _
  have k0 : W.cell? ⟨w.heap.size, 0, none⟩ = some (.string ⟨nm.toArray⟩) := by simp [World.cell?, hA]
  have k1 : W.cell? ⟨w.heap.size, 1, none⟩ = some (.slice ia ims.length ic) := by simp [World.cell?, hA]
  have k2 : W.cell? ⟨w.heap.size, 2, none⟩ = some (.slice fa fs.length fc) := by simp [World.cell?, hA]
  have hlt : w.heap.size < W.heap.size := by rw [← hW]; simp
  have hiW := hi.below hbW
  have hfW := hf.below hbW
  have hob : obSz nm ims fs = nm.length + (ims.length + joinN ims) + (fs.length + rtsSz fs) := rfl
  clear hi hf hA
  by_cases hfit : (nm.length : Int) ≤ left
  · have hge1 : 0 ≤ left - (nm.length : Int) := by omega
    have HC := szStringSC ia ims.length ic ims (left - (nm.length : Int)) W hiW (by omega) (by omega) hil him
    by_cases hfit2 : (ims.length : Int) + (joinN ims : Int) ≤ left - (nm.length : Int)
    · rw [szT_yes hfit2] at HC
      have hge2 : 0 ≤ left - (nm.length : Int) - (ims.length : Int) - (joinN ims : Int) := by omega
      have HC2 := szRoutineSC fa fs.length fc fs (left - (nm.length : Int) - (ims.length : Int) - (joinN ims : Int)) W hfW (by omega) (by omega) hfl hfm
      by_cases hfit3 : ((fs.length + rtsSz fs : Nat) : Int) ≤ left - (nm.length : Int) - (ims.length : Int) - (joinN ims : Int)
      · have HZ : Hid (szR (fs.length + rtsSz fs) (left - (nm.length : Int) - (ims.length : Int) - (joinN ims : Int)) = szR (obSz nm ims fs) left) := by exact (by rw [szR_yes hfit3, szR_yes (by rw [hob]; omega), hob]; omega : szR (fs.length + rtsSz fs) (left - (nm.length : Int) - (ims.length : Int) - (joinN ims : Int)) = szR (obSz nm ims fs) left)
        have hge : 0 ≤ szR (obSz nm ims fs) left := by rw [← HZ.out, szR_yes hfit3]; omega
        rw [HZ.out] at HC2
        generalize szR (obSz nm ims fs) left = z at HC2 hge ⊢
        generalize left - (nm.length : Int) - (ims.length : Int) - (joinN ims : Int) = y at HC HC2 hge2
        clear HZ hfit3 hfit2
        go_enter Tryz.func32, Tryz.ntmps32
        go_wp2_with fail
        refine HC.mono ?_
        rintro e w1 ⟨rfl, rfl⟩
        go_wp2_with fail
        refine HC2.mono ?_
        rintro e w2 ⟨rfl, hb2⟩
        have hb : Below w.heap.size w w2 := hbW.trans (hb2.mono hbW.size)
        clear HC HC2 hb2
        go_wp2
        go_ret
        exact ⟨rfl, hb⟩
      · have HR : Hid (szR (obSz nm ims fs) left = -1) := szR_no (by rw [hob]; omega)
        rw [szR_no hfit3] at HC2
        generalize left - (nm.length : Int) - (ims.length : Int) - (joinN ims : Int) = y at HC HC2 hge2
        clear hfit3 hfit2
        go_enter Tryz.func32, Tryz.ntmps32
        go_wp2_with fail
        refine HC.mono ?_
        rintro e w1 ⟨rfl, rfl⟩
        go_wp2_with fail
        refine HC2.mono ?_
        rintro e w2 ⟨rfl, hb2⟩
        have hb : Below w.heap.size w w2 := hbW.trans (hb2.mono hbW.size)
        clear HC HC2 hb2
        go_wp2
        go_ret
        exact ⟨by rw [HR.out]; rfl, hb⟩
    · have HR : Hid (szR (obSz nm ims fs) left = -1) := szR_no (by rw [hob]; omega)
      rw [szT_no hfit2] at HC
      go_enter Tryz.func32, Tryz.ntmps32
      go_wp2_with fail
      refine HC.mono ?_
      rintro e w1 ⟨rfl, rfl⟩
      clear HC
      go_wp2
      go_ret
      exact ⟨by rw [HR.out]; rfl, hbW⟩
  · have HR : Hid (szR (obSz nm ims fs) left = -1) := szR_no (by rw [hob]; omega)
    have hlt2 : left - (nm.length : Int) < 0 := by omega
    clear hob
    go_enter Tryz.func32, Tryz.ntmps32
    go_wp2
    go_ret
    exact ⟨by rw [HR.out]; rfl, hbW⟩

set_option maxHeartbeats 2000000 in
set_option maxRecDepth 100000 in
theorem eqObjectC (nm : List UInt8) (ia ib fa fb : Option Addr) (il ica icb fl fca fcb : Nat) (ims : List (List UInt8)) (fs : List Rt) (w : World) (hia : TextsIn w ia il ims) (hib : TextsIn w ib il ims) (hfa : RtsIn w fa fl fs) (hfb : RtsIn w fb fl fs) (hil : il ≤ 4194304) (hfl : fl ≤ 4194304) (hsh : ∀ j, (fs.getD j rt0).2.2.length ≤ 4194304) :
    Calls Tryz.prog 27 #[.agg #[.string ⟨nm.toArray⟩, .slice ia il ica, .slice fa fl fca], .agg #[.string ⟨nm.toArray⟩, .slice ib il icb, .slice fb fl fcb]] w fun e w' => e = .returned (.bool true) ∧ Below w.heap.size w w' := by
  have h2 : ∀ l : List UInt8, (l != l) = false := by simp
  obtain ⟨sa, hBa⟩ := ObIn.new (w := w) (nm := nm) (ic := ica) (fc := fca) hia hfa
  obtain ⟨W1, hW1⟩ : ∃ W, w.alloc (.cells #[.string ⟨nm.toArray⟩, .slice ia il ica, .slice fa fl fca] 45) = W := ⟨_, rfl⟩
  rw [hW1] at sa hBa
  obtain ⟨sb, hBb⟩ := ObIn.new (w := W1) (nm := nm) (ic := icb) (fc := fcb) (hib.below hBa) (hfb.below hBa)
  obtain ⟨W, hW⟩ : ∃ W, W1.alloc (.cells #[.string ⟨nm.toArray⟩, .slice ib il icb, .slice fb fl fcb] 45) = W := ⟨_, rfl⟩
  rw [hW] at sb hBb
  have hs1 : W1.heap.size = w.heap.size + 1 := by rw [← hW1]; simp
  have sa2 := sa.below hBb
  have hB : Below w.heap.size w W := hBa.trans (hBb.mono hBa.size)
  rw [hs1] at sb
  have HC := eqTextsC ia ib il ica icb ims W sa2.i sb.i hil
  have k0 := sa2.k0
  have k1 := sa2.k1
  have k2 := sa2.k2
  have j0 := sb.k0
  have j1 := sb.k1
  have j2 := sb.k2
  clear hia hib hfa hfb sa hBa hBb
  go_enter Tryz.func27, Tryz.ntmps27
  go_wp2_with fail
  refine HC.mono ?_
  rintro e w1 ⟨rfl, hb1⟩
  have ta := sa2.below hb1
  have tb := sb.below hb1
  have HC2 := eqRoutineSC fa fb fl fca fcb fs w1 ta.f tb.f hfl hsh
  have hB1 : Below w.heap.size w w1 := hB.trans (hb1.mono hB.size)
  replace k0 := ta.k0
  replace k1 := ta.k1
  replace k2 := ta.k2
  replace j0 := tb.k0
  replace j1 := tb.k1
  replace j2 := tb.k2
  clear HC hb1 sa2 sb hB
  go_wp2_with fail
  refine HC2.mono ?_
  rintro e w2 ⟨rfl, hb2⟩
  have hB2 : Below w.heap.size w w2 := hB1.trans (hb2.mono hB1.size)
  clear HC2 hb2 ta tb hB1 k0 k1 k2 j0 j1 j2
  go_wp2
  go_ret
  exact ⟨rfl, hB2⟩

set_option maxHeartbeats 4000000 in
set_option maxRecDepth 100000 in
theorem toObjectC (nm : List UInt8) (ia : Option Addr) (il ic : Nat) (fa : Option Addr) (fl fc : Nat) (ims : List (List UInt8)) (fs : List Rt) (w : World) (hi : TextsIn w ia il ims) (hf : RtsIn w fa fl fs) (hil : il ≤ 1048576) (hfl : fl ≤ 1048576) (hsh : ∀ j, (fs.getD j rt0).2.2.length ≤ 1048576) :
    Calls Tryz.prog 35 #[.agg #[.string ⟨nm.toArray⟩, .slice ia il ic, .slice fa fl fc]] w fun e w' => ∃ a1 c1 g2 xs, e = .returned (.agg #[.string ⟨nm.toArray⟩, .slice a1 il c1, .slice (some ⟨g2, 0, none⟩) fl fl]) ∧ xs.map (·.1) = fs ∧ w'.ownsRow w.heap.size 9 1 (.slice a1 il c1) il (strV ims) ∧ RtsOwn w' w.heap.size (.slice (some ⟨g2, 0, none⟩) fl fl) xs ∧ ApartR (xs.map rvT) ∧ Below w.heap.size w w' := by
  obtain ⟨D, hD⟩ : ∃ D, w.heap.size = D := ⟨_, rfl⟩
  obtain ⟨W1, hW1⟩ : ∃ W, w.alloc (.cells #[.string ⟨nm.toArray⟩, .slice ia il ic, .slice fa fl fc] 59) = W := ⟨_, rfl⟩
  obtain ⟨W2, hW2⟩ : ∃ W, W1.alloc (.cells #[.string ⟨#[]⟩, .slice none 0 0, .slice none 0 0] 45) = W := ⟨_, rfl⟩
  have hs1 : W1.heap.size = D + 1 := by rw [← hW1, ← hD]; simp
  have hs2 : W2.heap.size = D + 2 := by rw [← hW2]; simp [hs1]
  have hb1 : Below D w W1 := by rw [← hW1, ← hD]; exact (Below.refl _ _).alloc (Nat.le_refl _) _
  have hb12 : Below W1.heap.size W1 W2 := by rw [← hW2]; exact (Below.refl _ _).alloc (Nat.le_refl _) _
  have hb2 : Below D w W2 := hb1.trans (hb12.mono (by omega))
  have hA1 : W1.heap[D]? = some (.cells #[.string ⟨nm.toArray⟩, .slice ia il ic, .slice fa fl fc] 59) := by rw [← hW1, ← hD]; exact heap_alloc_new w _
  have hA2 : W2.heap[D]? = some (.cells #[.string ⟨nm.toArray⟩, .slice ia il ic, .slice fa fl fc] 59) := (hb12.block _ (by omega)).trans hA1
  have hR : W2.heap[D + 1]? = some (.cells #[.string ⟨#[]⟩, .slice none 0 0, .slice none 0 0] 45) := by rw [← hs1, ← hW2]; exact heap_alloc_new W1 _
  obtain ⟨q0, q1, q2, _⟩ := threeR hb12 (by omega) hA1
  have a0 : ∀ o, (W2.alloc o).cell? ⟨D, 0, none⟩ = some (.string ⟨nm.toArray⟩) := fun o => cell_alwR o q0
  have a1 : ∀ o, (W2.alloc o).cell? ⟨D, 1, none⟩ = some (.slice ia il ic) := fun o => cell_alwR o q1
  have HI2 : Hid (TextsIn W2 ia il ims) := hi.below (by rw [hD]; exact hb2)
  have HF0 : Hid (RtsIn w fa fl fs) := hf
  have HSH : Hid (∀ j, (fs.getD j rt0).2.2.length ≤ 1048576) := hsh
  clear hi hf hA1 q0 q1 q2 hsh
  go_enter Tryz.func35, Tryz.ntmps35
  go_wp2_with fail
  obtain ⟨V, hV⟩ : ∃ V, W2.alloc (.cells #[.string ⟨nm.toArray⟩, .slice none 0 0, .slice none 0 0] 45) = V := ⟨_, rfl⟩
  rw [hV]
  have hbV : Below W2.heap.size W2 V := by rw [← hV]; exact (Below.refl _ _).alloc (Nat.le_refl _) _
  have hsV : V.heap.size = D + 3 := by rw [← hV]; simp [hs2]
  have hL : V.heap[D + 2]? = some (.cells #[.string ⟨nm.toArray⟩, .slice none 0 0, .slice none 0 0] 45) := by rw [← hs2, ← hV]; exact heap_alloc_new W2 _
  have hRV : V.heap[D + 1]? = some (.cells #[.string ⟨#[]⟩, .slice none 0 0, .slice none 0 0] 45) := (hbV.block _ (by omega)).trans hR
  have hAV : V.heap[D]? = some (.cells #[.string ⟨nm.toArray⟩, .slice ia il ic, .slice fa fl fc] 59) := (hbV.block _ (by omega)).trans hA2
  refine (toStringSC ia il ic ims V (HI2.out.below hbV) hil).mono ?_
  rintro e w4 ⟨v, rfl, hown, _, hb4⟩
  obtain ⟨_, a', c', rfl, _⟩ := own_texts hown
  obtain ⟨l0, l1, l2, lf⟩ := threeR hb4 (by omega) hL
  obtain ⟨r0, r1, r2, rf⟩ := threeR hb4 (by omega) hRV
  obtain ⟨_, _, b2, _⟩ := threeR hb4 (by omega) hAV
  have hB4 : Below D w w4 := hb2.trans ((hbV.mono (by omega)).trans (hb4.mono (by omega)))
  have hs4 : D + 3 ≤ w4.heap.size := by have := hb4.size; omega
  rw [hsV] at hown
  obtain ⟨U, hU⟩ : ∃ U, w4.setCell ⟨D + 2, 1, none⟩ (.slice a' il c') = U := ⟨_, rfl⟩
  have hgU : w4.grownBy U (some (D + 2)) := by rw [← hU]; exact grown_set _ _ _ _
  have u0 : U.cell? ⟨D + 2, 0, none⟩ = some (.string ⟨nm.toArray⟩) := by rw [← hU]; exact (World.cell?_setCell_other _ _ _ _ (by simp)).trans l0
  have u1 : U.cell? ⟨D + 2, 1, none⟩ = some (.slice a' il c') := by rw [← hU]; exact World.cell?_setCell_same _ _ _ l1
  have u2 : U.cell? ⟨D + 2, 2, none⟩ = some (.slice none 0 0) := by rw [← hU]; exact (World.cell?_setCell_other _ _ _ _ (by simp)).trans l2
  have d2 : U.cell? ⟨D, 2, none⟩ = some (.slice fa fl fc) := by rw [← hU]; exact (World.cell?_setCell_other _ _ _ _ (by simp)).trans b2
  have p0 : U.cell? ⟨D + 1, 0, none⟩ = some (.string ⟨#[]⟩) := by rw [← hU]; exact (World.cell?_setCell_other _ _ _ _ (by simp)).trans r0
  have p1 : U.cell? ⟨D + 1, 1, none⟩ = some (.slice none 0 0) := by rw [← hU]; exact (World.cell?_setCell_other _ _ _ _ (by simp)).trans r1
  have p2 : U.cell? ⟨D + 1, 2, none⟩ = some (.slice none 0 0) := by rw [← hU]; exact (World.cell?_setCell_other _ _ _ _ (by simp)).trans r2
  have pf : ∀ j, U.frozen? ⟨D + 1, j, none⟩ = false := fun j => by rw [← hU]; exact (World.frozen?_setCell ..).trans (rf j)
  have uf : ∀ j, U.frozen? ⟨D + 2, j, none⟩ = false := fun j => by rw [← hU]; exact (World.frozen?_setCell ..).trans (lf j)
  have lf1 := lf 1
  have hOU : U.ownsRow (D + 3) 9 1 (.slice a' il c') il (strV ims) := hown.kept hgU (own_offR hown (by omega))
  have hBU : Below D w U := hB4.grown hgU (by omega) (fun k e => by injection e with e; omega)
  have hsU : D + 3 ≤ U.heap.size := Nat.le_trans hs4 hgU.size
  have hFU : RtsIn U fa fl fs := HF0.out.below (by rw [hD]; exact hBU)
  have HC2 := toRoutineSC fa fl fc fs U hFU hfl HSH.out
  have hl2 : D + 2 < U.heap.size := by omega
  have hl1 : D + 1 < U.heap.size := by omega
  clear hown hb4 hB4 hgU lf rf l0 l2 r0 r1 r2 a0 a1 hL hRV hR hbV hb12 hb1 hb2 HI2 b2 hA2 hAV HF0 HSH
  go_wp2_with fail
  refine HC2.mono ?_
  rintro e w5 ⟨g2, xs, rfl, hxs, hfo, hap, hb5⟩
  have HAP : Hid (ApartR (xs.map rvT)) := hap
  clear hap
  have n0 := (hb5.cell (p := ⟨D + 2, 0, none⟩) hl2).trans u0
  have n1 := (hb5.cell (p := ⟨D + 2, 1, none⟩) hl2).trans u1
  have n2 := (hb5.cell (p := ⟨D + 2, 2, none⟩) hl2).trans u2
  have m0 := (hb5.cell (p := ⟨D + 1, 0, none⟩) hl1).trans p0
  have m1 := (hb5.cell (p := ⟨D + 1, 1, none⟩) hl1).trans p1
  have m2 := (hb5.cell (p := ⟨D + 1, 2, none⟩) hl1).trans p2
  have mf : ∀ j, w5.frozen? ⟨D + 1, j, none⟩ = false := fun j => (hb5.frozen (p := ⟨D + 1, j, none⟩) hl1).trans (pf j)
  have nf2 := (hb5.frozen (p := ⟨D + 2, 2, none⟩) hl2).trans (uf 2)
  have hO5 := own_below hOU hb5
  have hfo5 := hfo.base hsU
  have hB5 : Below D w w5 := hBU.trans (hb5.mono (by omega))
  have hs5 : D + 3 ≤ w5.heap.size := Nat.le_trans hsU hb5.size
  obtain ⟨X, hX⟩ : ∃ X, w5.setCell ⟨D + 2, 2, none⟩ (.slice (some ⟨g2, 0, none⟩) fl fl) = X := ⟨_, rfl⟩
  have hgX : w5.grownBy X (some (D + 2)) := by rw [← hX]; exact grown_set _ _ _ _
  have x0 : X.cell? ⟨D + 2, 0, none⟩ = some (.string ⟨nm.toArray⟩) := by rw [← hX]; exact (World.cell?_setCell_other _ _ _ _ (by simp)).trans n0
  have x1 : X.cell? ⟨D + 2, 1, none⟩ = some (.slice a' il c') := by rw [← hX]; exact (World.cell?_setCell_other _ _ _ _ (by simp)).trans n1
  have x2 : X.cell? ⟨D + 2, 2, none⟩ = some (.slice (some ⟨g2, 0, none⟩) fl fl) := by rw [← hX]; exact World.cell?_setCell_same _ _ _ n2
  have z0 : X.cell? ⟨D + 1, 0, none⟩ = some (.string ⟨#[]⟩) := by rw [← hX]; exact (World.cell?_setCell_other _ _ _ _ (by simp)).trans m0
  have z1 : X.cell? ⟨D + 1, 1, none⟩ = some (.slice none 0 0) := by rw [← hX]; exact (World.cell?_setCell_other _ _ _ _ (by simp)).trans m1
  have z2 : X.cell? ⟨D + 1, 2, none⟩ = some (.slice none 0 0) := by rw [← hX]; exact (World.cell?_setCell_other _ _ _ _ (by simp)).trans m2
  have zf : ∀ j, X.frozen? ⟨D + 1, j, none⟩ = false := fun j => by rw [← hX]; exact (World.frozen?_setCell ..).trans (mf j)
  have zf0 := zf 0
  have zf1 := zf 1
  have zf2 := zf 2
  have HXS : Hid (xs.map (·.1) = fs) := hxs
  have HOX : Hid (X.ownsRow (D + 3) 9 1 (.slice a' il c') il (strV ims)) := hO5.kept hgX (own_offR hO5 (by omega))
  have HFX : Hid (RtsOwn X (D + 3) (.slice (some ⟨g2, 0, none⟩) fl fl) xs) := hfo5.kept hgX (own_offR hfo5.row (by omega)) (fun y hy => own_offR (hfo5.trees y hy) (by omega))
  have HBX : Hid (Below D w X) := hB5.grown hgX (by omega) (fun k e => by injection e with e; omega)
  have hsX : D + 3 ≤ X.heap.size := Nat.le_trans hs5 hgX.size
  clear HC2 hfo hfo5 hb5 hO5 hOU hB5 hgX zf mf pf uf u0 u1 u2 p0 p1 p2 d2 n0 n1 m0 m1 m2 hxs hFU hBU lf1
  go_wp2
  obtain ⟨Y, hY, y0, y1, y2, hg⟩ := set3R (.string ⟨nm.toArray⟩) (.slice a' il c') (.slice (some ⟨g2, 0, none⟩) fl fl) z0 z1 z2
  rw [hY]
  refine bodyPost_ret (v := .agg #[.string ⟨nm.toArray⟩, .slice a' il c', .slice (some ⟨g2, 0, none⟩) fl fl]) (by simp [results, Tryz.results35, go_sem, y0, y1, y2]) rfl ?_
  have hfx := HFX.out
  exact ⟨a', c', g2, xs, rfl, HXS.out, own_base (HOX.out.kept hg (own_offR HOX.out (by omega))) (by omega), (hfx.kept hg (own_offR hfx.row (by omega)) (fun y hy => own_offR (hfx.trees y hy) (by omega))).base (by omega), HAP.out, by rw [hD]; exact HBX.out.grown hg (by omega) (fun k e => by injection e with e; omega)⟩

end Go.Proofs.YteolfnceobjonaaGreat

/-! Lists of objects, as they lie. -/
namespace Go.Proofs.YteolfnceobjonaaGreat
open Go.RowKit

/-- The packages os lie at a, threeR cells each, their lists where those say. -/
def ObjsIn (w : World) (a : Option Addr) (len : Nat) (os : List Ob) : Prop :=
  os.length = len ∧ ∀ j, j < len → ∃ b off, a = some ⟨b, off, none⟩ ∧ b < w.heap.size ∧ w.cell? ⟨b, off + j * 3, none⟩ = some (.string ⟨(os.getD j ob0).1.toArray⟩) ∧
    ∃ ia il ic fa fl fc, w.cell? ⟨b, off + j * 3 + 1, none⟩ = some (.slice ia il ic) ∧ w.cell? ⟨b, off + j * 3 + 2, none⟩ = some (.slice fa fl fc) ∧ TextsIn w ia il (os.getD j ob0).2.1 ∧ RtsIn w fa fl (os.getD j ob0).2.2
theorem ObjsIn.below {w w' : World} {a : Option Addr} {len : Nat} {os : List Ob} (h : ObjsIn w a len os) (hb : Below w.heap.size w w') : ObjsIn w' a len os := by
  refine ⟨h.1, fun j hj => ?_⟩
  obtain ⟨b, off, e, hlt, c0, ia, il, ic, fa, fl, fc, c1, c2, hi, hf⟩ := h.2 j hj
  exact ⟨b, off, e, Nat.lt_of_lt_of_le hlt hb.size, (hb.cell (p := ⟨b, off + j * 3, none⟩) hlt).trans c0, ia, il, ic, fa, fl, fc, (hb.cell (p := ⟨b, off + j * 3 + 1, none⟩) hlt).trans c1, (hb.cell (p := ⟨b, off + j * 3 + 2, none⟩) hlt).trans c2, hi.below hb, hf.below hb⟩

/-- How long the parts of a project may be. -/
def ShortOs (os : List Ob) : Prop := ∀ j, (os.getD j ob0).1.length ≤ 1048576 ∧ (os.getD j ob0).2.1.length ≤ 1048576 ∧ (∀ i, ((os.getD j ob0).2.1.getD i []).length ≤ 1048576) ∧ (os.getD j ob0).2.2.length ≤ 1048576 ∧ ShortR (os.getD j ob0).2.2

end Go.Proofs.YteolfnceobjonaaGreat
