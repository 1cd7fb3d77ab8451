/-
  Parts of one proof, one behind the other: RtT, RtM, ImgH, ImgK.
-/
import Derived.Test.YthjemelnbbpdcaaDoorP16
import Derived.Test.YthjemelnbbpdcaaDoorP15
import Derived.Deep.RegionWith

/-! The laws' own helpers over routines: toRoutine, toRoutineS. -/
namespace Go.Proofs.YthjemelnbbpdcaaDoor
open Go.RowKit

set_option maxHeartbeats 2000000 in
set_option maxRecDepth 100000 in
theorem toRoutineC (s : List UInt8) (n : Int) (t : List In13) (ta : Option Addr) (tl tc : Nat) (w : World) (hin : InsIn w ta tl t) (hlen : tl ≤ 1048576) :
    Calls Tryd.prog 22 #[.agg #[.string ⟨s.toArray⟩, .int .i64 n, .slice ta tl tc]] w fun e w' => ∃ a c, e = .returned (.agg #[.string ⟨s.toArray⟩, .int .i64 n, .slice a t.length c]) ∧ w'.ownsRow w.heap.size 50 5 (.slice a t.length c) t.length (insV t) ∧ Below w.heap.size w w' := by
  obtain rfl : t.length = tl := hin.1
  obtain ⟨D, hD⟩ : ∃ D, w.heap.size = D := ⟨_, rfl⟩
  obtain ⟨W1, hW1⟩ : ∃ W, w.alloc (.cells #[.string ⟨s.toArray⟩, .int .i64 n, .slice ta t.length tc] 47) = W := ⟨_, rfl⟩
  obtain ⟨W2, hW2⟩ : ∃ W, W1.alloc (.cells #[.string ⟨#[]⟩, .int .i64 0, .slice none 0 0] 40) = W := ⟨_, rfl⟩
  have hs1 : W1.heap.size = D + 1 := by rw [← hW1, ← hD]; simp
  have hs2 : W2.heap.size = D + 2 := by rw [← hW2]; simp [hs1]
  have hb1 : Below D w W1 := by rw [← hW1, ← hD]; exact (Below.refl _ _).alloc (Nat.le_refl _) _
  have hb12 : Below W1.heap.size W1 W2 := by rw [← hW2]; exact (Below.refl _ _).alloc (Nat.le_refl _) _
  have hb2 : Below D w W2 := hb1.trans (hb12.mono (by omega))
  have hA1 : W1.heap[D]? = some (.cells #[.string ⟨s.toArray⟩, .int .i64 n, .slice ta t.length tc] 47) := by rw [← hW1, ← hD]; exact heap_alloc_new w _
  have hR : W2.heap[D + 1]? = some (.cells #[.string ⟨#[]⟩, .int .i64 0, .slice none 0 0] 40) := by rw [← hs1, ← hW2]; exact heap_alloc_new W1 _
  obtain ⟨q0, q1, q2, _⟩ := threeR hb12 (by omega) hA1
  have a0 : ∀ o, (W2.alloc o).cell? ⟨D, 0, none⟩ = some (.string ⟨s.toArray⟩) := fun o => cell_alwR o q0
  have a1 : ∀ o, (W2.alloc o).cell? ⟨D, 1, none⟩ = some (.int .i64 n) := fun o => cell_alwR o q1
  have a2 : ∀ o, (W2.alloc o).cell? ⟨D, 2, none⟩ = some (.slice ta t.length tc) := fun o => cell_alwR o q2
  have HIN : Hid (InsIn W2 ta t.length t) := hin.below (by rw [hD]; exact hb2)
  clear hin hA1 q0 q1 q2
  go_enter Tryd.func22, Tryd.ntmps22
  go_wp2_with fail
  obtain ⟨V, hV⟩ : ∃ V, W2.alloc (.cells #[.string ⟨s.toArray⟩, .int .i64 n, .slice none 0 0] 40) = V := ⟨_, rfl⟩
  rw [hV]
  have hbV : Below W2.heap.size W2 V := by rw [← hV]; exact (Below.refl _ _).alloc (Nat.le_refl _) _
  have hsV : V.heap.size = D + 3 := by rw [← hV]; simp [hs2]
  have hL : V.heap[D + 2]? = some (.cells #[.string ⟨s.toArray⟩, .int .i64 n, .slice none 0 0] 40) := by rw [← hs2, ← hV]; exact heap_alloc_new W2 _
  have hRV : V.heap[D + 1]? = some (.cells #[.string ⟨#[]⟩, .int .i64 0, .slice none 0 0] 40) := (hbV.block _ (by omega)).trans hR
  refine (toInsSC ta t.length tc t V (HIN.out.below hbV) hlen).mono ?_
  rintro e w4 ⟨v, rfl, hown, _, hb4⟩
  obtain ⟨_, a', c', rfl, _⟩ := own_ins hown
  obtain ⟨l0, l1, l2, lf⟩ := threeR hb4 (by omega) hL
  obtain ⟨r0, r1, r2, rf⟩ := threeR hb4 (by omega) hRV
  have hB4 : Below D w w4 := hb2.trans ((hbV.mono (by omega)).trans (hb4.mono (by omega)))
  have hs4 : D + 3 ≤ w4.heap.size := by have := hb4.size; omega
  rw [hsV] at hown
  obtain ⟨U, hU⟩ : ∃ U, w4.setCell ⟨D + 2, 2, none⟩ (.slice a' t.length c') = U := ⟨_, rfl⟩
  have hgU : w4.grownBy U (some (D + 2)) := by rw [← hU]; exact grown_set _ _ _ _
  have u0 : U.cell? ⟨D + 2, 0, none⟩ = some (.string ⟨s.toArray⟩) := by rw [← hU]; exact (World.cell?_setCell_other _ _ _ _ (by simp)).trans l0
  have u1 : U.cell? ⟨D + 2, 1, none⟩ = some (.int .i64 n) := by rw [← hU]; exact (World.cell?_setCell_other _ _ _ _ (by simp)).trans l1
  have u2 : U.cell? ⟨D + 2, 2, none⟩ = some (.slice a' t.length c') := by rw [← hU]; exact World.cell?_setCell_same _ _ _ l2
  have p0 : U.cell? ⟨D + 1, 0, none⟩ = some (.string ⟨#[]⟩) := by rw [← hU]; exact (World.cell?_setCell_other _ _ _ _ (by simp)).trans r0
  have p1 : U.cell? ⟨D + 1, 1, none⟩ = some (.int .i64 0) := by rw [← hU]; exact (World.cell?_setCell_other _ _ _ _ (by simp)).trans r1
  have p2 : U.cell? ⟨D + 1, 2, none⟩ = some (.slice none 0 0) := by rw [← hU]; exact (World.cell?_setCell_other _ _ _ _ (by simp)).trans r2
  have pf : ∀ j, U.frozen? ⟨D + 1, j, none⟩ = false := fun j => by rw [← hU]; exact (World.frozen?_setCell ..).trans (rf j)
  have pf0 := pf 0
  have pf1 := pf 1
  have pf2 := pf 2
  have lf2 := lf 2
  have HOU : Hid (U.ownsRow (D + 3) 50 5 (.slice a' t.length c') t.length (insV t)) := hown.kept hgU (own_offR hown (by omega))
  have HBU : Hid (Below D w U) := hB4.grown hgU (by omega) (fun k e => by injection e with e; omega)
  have hsU : D + 3 ≤ U.heap.size := Nat.le_trans hs4 hgU.size
  clear hown hb4 hB4 hgU pf lf rf l0 l1 r0 r1 r2 a0 a1 a2 hL hRV hR hbV hb12 hb1 hb2 HIN
  go_wp2
  obtain ⟨Y, hY, y0, y1, y2, hg⟩ := set3R (.string ⟨s.toArray⟩) (.int .i64 n) (.slice a' t.length c') p0 p1 p2
  rw [hY]
  refine bodyPost_ret (v := .agg #[.string ⟨s.toArray⟩, .int .i64 n, .slice a' t.length c']) (by simp [results, Tryd.results22, go_sem, y0, y1, y2]) rfl ?_
  exact ⟨a', c', rfl, own_base (HOU.out.kept hg (own_offR HOU.out (by omega))) (by omega), by rw [hD]; exact HBU.out.grown hg (by omega) (fun k e => by injection e with e; omega)⟩

theorem rtsV_set (xs : List RV) (j : Nat) (y : RV) : (((rtsV xs).set (j * 3) (.string ⟨y.1.1.toArray⟩)).set (j * 3 + 1) (.int .i64 y.1.2.1)).set (j * 3 + 2) (rvT y) = rtsV (xs.set j y) := by
  induction xs generalizing j with
  | nil => simp [rtsV]
  | cons b r ih =>
    cases j with
    | zero => simp [rtsV]
    | succ j => rw [show (j + 1) * 3 = j * 3 + 1 + 1 + 1 by omega]; simp [rtsV, ih]

theorem made_rts (n : Nat) : (madeCells (Value.agg #[.string ⟨#[]⟩, .int .i64 0, .slice none 0 0]).cells (n * 3)).toList = rtsV (List.replicate n rv0) := by
  have hc : (Value.agg #[.string ⟨#[]⟩, .int .i64 0, .slice none 0 0]).cells = #[.string ⟨#[]⟩, .int .i64 0, .slice none 0 0] := rfl
  rw [hc]
  apply List.ext_getElem?
  intro j
  by_cases hj : j < n * 3
  · obtain ⟨v0, v1, v2⟩ := rtsV_at (List.replicate n rv0) (j / 3) (by simp; omega)
    have hg : (List.replicate n rv0).getD (j / 3) rv0 = rv0 := by simp [List.getD, List.getElem?_replicate]; split <;> rfl
    rw [hg] at v0 v1 v2
    have h3 : j % 3 = 0 ∨ j % 3 = 1 ∨ j % 3 = 2 := by omega
    rcases h3 with h' | h' | h'
    · have ej : j = j / 3 * 3 := by omega
      rw [← ej] at v0
      rw [v0]
      simp [madeCells, hj, h', rv0, rt0]
    · have ej : j = j / 3 * 3 + 1 := by omega
      rw [← ej] at v1
      rw [v1]
      simp [madeCells, hj, h', rv0, rt0]
    · have ej : j = j / 3 * 3 + 2 := by omega
      rw [← ej] at v2
      rw [v2]
      simp [madeCells, hj, h', rv0, rt0, rvT]
  · rw [List.getElem?_eq_none (by simp [madeCells]; omega), List.getElem?_eq_none (by rw [rtsV_len]; simp; omega)]

theorem fill_rt (ys : List RV) (len k : Nat) (y : RV) (hy : ys.length = k) (hk : k < len) : (ys ++ List.replicate (len - k) rv0).set k y = (ys ++ [y]) ++ List.replicate (len - (k + 1)) rv0 := by
  rw [List.set_append_right _ _ (by omega), hy, Nat.sub_self, show len - k = (len - (k + 1)) + 1 by omega, List.replicate_succ, List.set_cons_zero, List.append_assoc]
  rfl

set_option maxHeartbeats 4000000 in
set_option maxRecDepth 100000 in
theorem toRoutineSC (a : Option Addr) (len cap : Nat) (fs : List Rt) (w : World) (hin : RtsIn w a len fs) (hlen : len ≤ 1048576) (hsh : ∀ j, (fs.getD j rt0).2.2.length ≤ 1048576) :
    Calls Tryd.prog 12 #[.slice a len cap] w fun e w' => ∃ g xs, e = .returned (.slice (some ⟨g, 0, none⟩) len len) ∧ xs.map (·.1) = fs ∧ RtsOwn w' w.heap.size (.slice (some ⟨g, 0, none⟩) len len) xs ∧ ApartR (xs.map rvT) ∧ Below w.heap.size w w' := by
  obtain ⟨i0, hi, hz0, hz1, hz2⟩ := info_parts infoRt
  have hlb := hin.1
  have HI : Hid (RtsIn w a len fs) := hin
  have HSH : Hid (∀ j, (fs.getD j rt0).2.2.length ≤ 1048576) := hsh
  clear hin hsh
  go_enter Tryd.func12, Tryd.ntmps12
  go_wp2_with (at_make; refine wpList_make_full _ rfl _ _ 27 rfl w.heap.size 40 i0 _ 3 Tryd.underlying27 hi hz0 hz1 .i64 .i64 _ _ len rfl rfl rfl rfl (by rw [hz2]; omega) (by unfold maxLen; omega) (Nat.le_refl _) ?_; intro w1 hown1 hgrow1)
  rw [made_rts] at hown1
  have hB1 : Below w.heap.size w w1 := (Below.refl _ _).grown hgrow1 (Nat.le_refl _) (by simp)
  clear hgrow1
  go_loopw [4] (fun i wr => ∃ (k : Nat) (ys : List RV), k ≤ len ∧ i = .int .i64 k ∧ ys.length = k ∧ Hid (ys.map (·.1) = fs.take k) ∧ Hid (wr.ownsRow w.heap.size 40 3 (.slice (some ⟨w.heap.size, 0, none⟩) len len) len (rtsV (ys ++ List.replicate (len - k) rv0))) ∧ Hid (∀ x ∈ ys, wr.ownsRow w.heap.size 50 5 (rvT x) x.1.2.2.length (insV x.1.2.2)) ∧ Hid (ApartR (ys.map rvT)) ∧ Below w.heap.size w wr) (fun i _ => len - (intOf i).toNat)
  case atStart => exact ⟨0, [], Nat.zero_le _, rfl, rfl, (by simp : ([] : List RV).map (·.1) = fs.take 0), (by simpa using hown1 : w1.ownsRow w.heap.size 40 3 (.slice (some ⟨w.heap.size, 0, none⟩) len len) len (rtsV ([] ++ List.replicate (len - 0) rv0))), (fun x hx => (by cases hx) : ∀ x ∈ ([] : List RV), _), ApartR.nil, hB1⟩
  case round =>
    obtain ⟨k, ys, hk, rfl, hyl, HM, HR, HT, HAP, hB⟩ := hrel
    clear hown1 hB1
    by_cases hkl : (k : Int) < (len : Int)
    · obtain ⟨b, off, rfl, hbl, c0, c1, ta, tl, tc, c2, hnin⟩ := (HI.out.below hB).2 k (by omega)
      have hts := HSH.out k
      have hmk : fs.take (k + 1) = fs.take k ++ [fs.getD k rt0] := by
        have hg : fs.getD k rt0 = fs[k]'(by omega) := by simp [List.getD, show k < fs.length by omega]
        rw [hg, List.take_succ_eq_append_getElem]
      obtain ⟨f, hf⟩ : ∃ f, fs.getD k rt0 = f := ⟨_, rfl⟩
      rw [hf] at c0 c1 hnin hts hmk
      obtain ⟨s, n, t⟩ := f
      simp only at c0 c1 hnin hts
      obtain rfl : t.length = tl := hnin.1
      have HMK : Hid (fs.take (k + 1) = fs.take k ++ [(s, n, t)]) := hmk
      have HC := toRoutineC s n t ta t.length tc wr hnin (by omega)
      clear hf hnin hmk
      go_wp2_with fail
      refine HC.mono ?_
      rintro e w2 ⟨av, cv, rfl, hownT, hb2⟩
      have hown2 := own_below HR.out hb2
      have hT2 : ∀ x ∈ ys, w2.ownsRow w.heap.size 50 5 (rvT x) x.1.2.2.length (insV x.1.2.2) := fun x hx => own_below (HT.out x hx) hb2
      have hl2 : (ys ++ List.replicate (len - k) rv0).length = len := by rw [List.length_append, List.length_replicate]; omega
      obtain ⟨v0, v1, v2⟩ := rtsV_at (ys ++ List.replicate (len - k) rv0) k (by omega)
      obtain ⟨u0, d0⟩ : ∃ u, w2.cell? ⟨w.heap.size, k * 3, none⟩ = some u := by
        rw [hown2.cellAt (k * 3) (by omega), v0]; exact ⟨_, rfl⟩
      obtain ⟨u1, d1⟩ : ∃ u, w2.cell? ⟨w.heap.size, k * 3 + 1, none⟩ = some u := by
        rw [hown2.cellAt (k * 3 + 1) (by omega), v1]; exact ⟨_, rfl⟩
      obtain ⟨u2, d2⟩ : ∃ u, w2.cell? ⟨w.heap.size, k * 3 + 2, none⟩ = some u := by
        rw [hown2.cellAt (k * 3 + 2) (by omega), v2]; exact ⟨_, rfl⟩
      have e0 := hown2.frozenAt (k * 3)
      have e1 := hown2.frozenAt (k * 3 + 1)
      have e2 := hown2.frozenAt (k * 3 + 2)
      have hs1 := hown2.stored (k * 3) (.string ⟨s.toArray⟩)
      have hs2 := hs1.1.stored (k * 3 + 1) (.int .i64 n)
      have hs3 := hs2.1.stored (k * 3 + 2) (.slice av t.length cv)
      have hnew := hs3.1
      have hset := rtsV_set (ys ++ List.replicate (len - k) rv0) k ((s, n, t), av, cv)
      rw [fill_rt ys len k _ hyl (by omega)] at hset
      have hfv : rvT ((s, n, t), av, cv) = .slice av t.length cv := rfl
      rw [hfv] at hset
      simp only at hset
      rw [hset] at hnew
      have hgr : w2.grownBy (((w2.setCell ⟨w.heap.size, k * 3, none⟩ (.string ⟨s.toArray⟩)).setCell ⟨w.heap.size, k * 3 + 1, none⟩ (.int .i64 n)).setCell ⟨w.heap.size, k * 3 + 2, none⟩ (.slice av t.length cv)) (some w.heap.size) := ((grown_set _ _ _ _).trans (grown_set _ _ _ _)).trans (grown_set _ _ _ _)
      have hsome : (Value.slice (some ⟨w.heap.size, 0, none⟩) len len).ownBlock = some w.heap.size := rfl
      have offT : ∀ {v : Value} {m : Nat} {zs : List Value}, w2.ownsRow w.heap.size 50 5 v m zs → v.ownBlock = none ∨ v.ownBlock ≠ some w.heap.size := fun ho => by rw [← hsome]; exact own_typesR ho hown2 (by decide)
      have hB2 : Below w.heap.size w w2 := hB.trans (hb2.mono hB.size)
      have hownT2 := own_base hownT hB.size
      have HAP2 : Hid (ApartR ((ys ++ [((s, n, t), av, cv)]).map rvT)) := by
        rw [List.map_append]
        refine HAP.out.snoc (fun v hv => ?_)
        obtain ⟨x, hx, rfl⟩ := List.mem_map.1 hv
        exact own_aheadR (HT.out x hx) hownT (Nat.le_refl _)
      have HN : Hid (Below w.heap.size w (((w2.setCell ⟨w.heap.size, k * 3, none⟩ (.string ⟨s.toArray⟩)).setCell ⟨w.heap.size, k * 3 + 1, none⟩ (.int .i64 n)).setCell ⟨w.heap.size, k * 3 + 2, none⟩ (.slice av t.length cv))) := hB2.grown hgr hB2.size (fun q e => by injection e with e; omega)
      have HR2 : Hid ((((w2.setCell ⟨w.heap.size, k * 3, none⟩ (.string ⟨s.toArray⟩)).setCell ⟨w.heap.size, k * 3 + 1, none⟩ (.int .i64 n)).setCell ⟨w.heap.size, k * 3 + 2, none⟩ (.slice av t.length cv)).ownsRow w.heap.size 40 3 (.slice (some ⟨w.heap.size, 0, none⟩) len len) len (rtsV ((ys ++ [((s, n, t), av, cv)]) ++ List.replicate (len - (k + 1)) rv0))) := hnew
      have HT2 : Hid (∀ x ∈ ys ++ [((s, n, t), av, cv)], (((w2.setCell ⟨w.heap.size, k * 3, none⟩ (.string ⟨s.toArray⟩)).setCell ⟨w.heap.size, k * 3 + 1, none⟩ (.int .i64 n)).setCell ⟨w.heap.size, k * 3 + 2, none⟩ (.slice av t.length cv)).ownsRow w.heap.size 50 5 (rvT x) x.1.2.2.length (insV x.1.2.2)) := fun x hx => by
        rw [List.mem_append, List.mem_singleton] at hx
        rcases hx with hx | rfl
        · exact (hT2 x hx).kept hgr (offT (hT2 x hx))
        · exact hownT2.kept hgr (offT hownT2)
      have HM2 : Hid ((ys ++ [((s, n, t), av, cv)]).map (·.1) = fs.take (k + 1)) := by exact (by rw [List.map_append, HM.out, HMK.out]; rfl : (ys ++ [((s, n, t), av, cv)]).map (·.1) = fs.take (k + 1))
      have hsz2 : w.heap.size < w2.heap.size := World.block_lt_of_cell? w2 ⟨w.heap.size, k * 3, none⟩ d0
      clear hown2 hs1 hs2 hs3 hl2 v0 v1 v2 hnew hset hfv hgr hsome offT hB2 hownT2 hownT HC HR HT HM hT2 HMK
      go_wp2
      go_roundw
      case rel => exact ⟨k + 1, ys ++ [((s, n, t), av, cv)], by omega, by go_num, by simp [hyl], HM2, HR2, HT2, HAP2, HN.out⟩
      case measure => simp [intOf]; omega
    · have hd : ys ++ List.replicate (len - k) rv0 = ys := by rw [show len - k = 0 by omega]; simp
      have hrow := HR.out
      rw [hd] at hrow
      have HF : Hid (RtsOwn wr w.heap.size (.slice (some ⟨w.heap.size, 0, none⟩) len len) ys) := (⟨by rw [show ys.length = len by omega]; exact hrow, HT.out⟩ : RtsOwn wr w.heap.size (.slice (some ⟨w.heap.size, 0, none⟩) len len) ys)
      have HM2 : Hid (ys.map (·.1) = fs) := by exact (by rw [HM.out]; exact List.take_of_length_le (by omega) : ys.map (·.1) = fs)
      clear hd hrow HR HT HM
      go_wp2
      go_ret
      exact ⟨w.heap.size, rfl, ys, HM2.out, HF.out, HAP.out, hB⟩

end Go.Proofs.YthjemelnbbpdcaaDoor

/-! The laws' own helpers over routines: markRoutineS, heldRoutineS. -/
namespace Go.Proofs.YthjemelnbbpdcaaDoor
open Go.RowKit

/-- What functions hold when they are marked from k on, and the next mark. -/
def rmk (k : Nat) (x : RV) : RV := ((markL k, ((k + 1 : Nat) : Int), marksC (k + 2) x.1.2.2.length), x.2)
def rmark (k : Nat) : List RV → List RV
  | [] => []
  | x :: r => rmk k x :: rmark (k + 2 + 5 * x.1.2.2.length) r
def rend (k : Nat) : List RV → Nat
  | [] => k
  | x :: r => rend (k + 2 + 5 * x.1.2.2.length) r

theorem rmk_T (k : Nat) (x : RV) : rvT (rmk k x) = rvT x := by unfold rvT rmk; rw [marksC_len]
theorem rmark_len (k : Nat) (xs : List RV) : (rmark k xs).length = xs.length := by
  induction xs generalizing k with
  | nil => rfl
  | cons x r ih => simp [rmark, ih]
theorem rmark_snoc (k : Nat) (xs : List RV) (x : RV) : rmark k (xs ++ [x]) = rmark k xs ++ [rmk (rend k xs) x] ∧ rend k (xs ++ [x]) = rend k xs + 2 + 5 * x.1.2.2.length := by
  induction xs generalizing k with
  | nil => exact ⟨rfl, rfl⟩
  | cons y r ih =>
    have := ih (k + 2 + 5 * y.1.2.2.length)
    exact ⟨by rw [List.cons_append, rmark, this.1]; rfl, by rw [List.cons_append, rend, this.2]; rfl⟩
theorem rend_ge (k : Nat) (xs : List RV) : k ≤ rend k xs := by
  induction xs generalizing k with
  | nil => exact Nat.le_refl _
  | cons x r ih => have := ih (k + 2 + 5 * x.1.2.2.length); unfold rend; omega
theorem rend_app (k : Nat) (xs ys : List RV) : rend k (xs ++ ys) = rend (rend k xs) ys := by
  induction xs generalizing k with
  | nil => rfl
  | cons x r ih => rw [List.cons_append, rend, ih]; rfl
theorem rend_take (k : Nat) (xs : List RV) (m : Nat) : rend k (xs.take m) ≤ rend k xs := by
  conv => rhs; rw [← List.take_append_drop m xs, rend_app]
  exact rend_ge _ _

/-- Half way: m functions are marked. -/
def rhalf (k : Nat) (xs : List RV) (m : Nat) : List RV := rmark k (xs.take m) ++ xs.drop m
theorem rhalf_len (k : Nat) (xs : List RV) (m : Nat) : (rhalf k xs m).length = xs.length := by
  unfold rhalf; rw [List.length_append, rmark_len, ← List.length_append, List.take_append_drop]
theorem rhalf_at (k : Nat) (xs : List RV) (m : Nat) (hm : m < xs.length) : (rhalf k xs m).getD m rv0 = xs[m] := by
  unfold rhalf
  have hl : (rmark k (xs.take m)).length = m := by rw [rmark_len, List.length_take]; omega
  rw [List.getD_eq_getElem?_getD, List.getElem?_append_right (by omega), hl, Nat.sub_self, List.getElem?_drop, Nat.add_zero, List.getElem?_eq_getElem hm]
  rfl
theorem rhalf_step (k : Nat) (xs : List RV) (m : Nat) (hm : m < xs.length) : (rhalf k xs m).set m (rmk (rend k (xs.take m)) xs[m]) = rhalf k xs (m + 1) ∧ rend k (xs.take (m + 1)) = rend k (xs.take m) + 2 + 5 * xs[m].1.2.2.length := by
  have h1 := rmark_snoc k (xs.take m) xs[m]
  rw [← List.take_succ_eq_append_getElem hm] at h1
  refine ⟨?_, h1.2⟩
  have hl : (rmark k (xs.take m)).length = m := by rw [rmark_len, List.length_take]; omega
  unfold rhalf
  rw [h1.1, List.set_append_right _ _ (by omega), hl, Nat.sub_self, List.drop_eq_getElem_cons hm, List.set_cons_zero, List.append_assoc]
  rfl
theorem rhalf_T (k : Nat) (xs : List RV) (m : Nat) : (rhalf k xs m).map rvT = xs.map rvT := by
  have key : ∀ (k : Nat) (l : List RV), (rmark k l).map rvT = l.map rvT := by
    intro k l
    induction l generalizing k with
    | nil => rfl
    | cons x r ih => rw [rmark, List.map_cons, List.map_cons, rmk_T, ih]
  unfold rhalf
  rw [List.map_append, key, ← List.map_append, List.take_append_drop]

theorem set_sameR {α : Type} {l : List α} {i : Nat} {a : α} (h : l[i]? = some a) : l.set i a = l := by
  apply List.ext_getElem?
  intro j
  rw [List.getElem?_set]
  split
  · rename_i e
    subst e
    split
    · exact h.symm
    · rename_i hl; rw [List.getElem?_eq_none (by omega)]
  · rfl

def RtBlocks (v : Value) (xs : List RV) (k : Nat) : Prop := v.ownBlock = some k ∨ ∃ x ∈ xs, (rvT x).ownBlock = some k


theorem rmark_at (k : Nat) (xs : List RV) (m : Nat) (hm : m < xs.length) : (rmark k xs).getD m rv0 = rmk (rend k (xs.take m)) xs[m] := by
  induction xs generalizing k m with
  | nil => simp at hm
  | cons x r ih =>
    cases m with
    | zero => rfl
    | succ m =>
      have := ih (k + 2 + 5 * x.1.2.2.length) m (by simpa using hm)
      rw [List.take_succ_cons, rend, List.getElem_cons_succ, ← this]
      rfl


end Go.Proofs.YthjemelnbbpdcaaDoor

/-! The laws' own helpers over images: szImage, toImage, eqImage, markImage, heldImage. -/
namespace Go.Proofs.YthjemelnbbpdcaaDoor
open Go.RowKit

set_option maxHeartbeats 1000000 in
set_option maxRecDepth 100000 in
theorem szImageC (a : Option Addr) (len cap : Nat) (rs : List Rt) (left : Int) (w : World) (hin : RtsIn w a len rs) (h0 : 0 ≤ left) (h1 : left ≤ 1048576) (hl : len ≤ maxLen) (hm : LongR rs) :
    Calls Tryd.prog 4 #[.agg #[.slice a len cap], .int .i64 left] w fun e w' => e = .returned (.int .i64 (szR (len + rtsSz rs) left)) ∧ Below w.heap.size w w' := by
  have hbW : Below w.heap.size w (w.alloc (.cells #[.slice a len cap] 24)) := (Below.refl _ _).alloc (Nat.le_refl _) _
  have HC : Hid (_) := szRoutineSC a len cap rs left _ (hin.below hbW) h0 h1 hl hm
  have HB : Hid (Below w.heap.size w (w.alloc (.cells #[.slice a len cap] 24))) := hbW
  have hz : szR (len + rtsSz rs) left = -1 ∨ 0 ≤ szR (len + rtsSz rs) left := by
    unfold szR
    split
    · right; omega
    · left; rfl
  generalize szR (len + rtsSz rs) left = z at HC hz ⊢
  clear hin hbW
  rcases hz with rfl | hz
  · go_enter Tryd.func4, Tryd.ntmps4
    go_wp2_with fail
    refine Calls.mono HC.out ?_
    rintro e w1 ⟨rfl, hb1⟩
    go_wp2
    go_ret
    exact ⟨rfl, HB.out.trans (hb1.mono HB.out.size)⟩
  · go_enter Tryd.func4, Tryd.ntmps4
    go_wp2_with fail
    refine Calls.mono HC.out ?_
    rintro e w1 ⟨rfl, hb1⟩
    go_wp2
    go_ret
    exact ⟨rfl, HB.out.trans (hb1.mono HB.out.size)⟩

set_option maxHeartbeats 2000000 in
set_option maxRecDepth 100000 in
theorem toImageC (a : Option Addr) (len cap : Nat) (rs : List Rt) (w : World) (hin : RtsIn w a len rs) (hlen : len ≤ 1048576) (hsh : ∀ j, (rs.getD j rt0).2.2.length ≤ 1048576) :
    Calls Tryd.prog 6 #[.agg #[.slice a len cap]] w fun e w' => ∃ g xs, e = .returned (.agg #[.slice (some ⟨g, 0, none⟩) len len]) ∧ xs.map (·.1) = rs ∧ RtsOwn w' w.heap.size (.slice (some ⟨g, 0, none⟩) len len) xs ∧ ApartR (xs.map rvT) ∧ Below w.heap.size w w' := by
  obtain ⟨D, hD⟩ : ∃ D, w.heap.size = D := ⟨_, rfl⟩
  obtain ⟨W1, hW1⟩ : ∃ W, w.alloc (.cells #[.slice a len cap] 24) = W := ⟨_, rfl⟩
  obtain ⟨W2, hW2⟩ : ∃ W, W1.alloc (.cells #[.slice none 0 0] 29) = W := ⟨_, rfl⟩
  obtain ⟨W3, hW3⟩ : ∃ W, W2.alloc (.cells #[.slice none 0 0] 29) = W := ⟨_, rfl⟩
  have hs1 : W1.heap.size = D + 1 := by rw [← hW1, ← hD]; simp
  have hs2 : W2.heap.size = D + 2 := by rw [← hW2]; simp [hs1]
  have hs3 : W3.heap.size = D + 3 := by rw [← hW3]; simp [hs2]
  have hb1 : Below D w W1 := by rw [← hW1, ← hD]; exact (Below.refl _ _).alloc (Nat.le_refl _) _
  have hb12 : Below W1.heap.size W1 W2 := by rw [← hW2]; exact (Below.refl _ _).alloc (Nat.le_refl _) _
  have hb23 : Below W2.heap.size W2 W3 := by rw [← hW3]; exact (Below.refl _ _).alloc (Nat.le_refl _) _
  have hb3 : Below D w W3 := (hb1.trans (hb12.mono (by omega))).trans (hb23.mono (by omega))
  have hA1 : W1.heap[D]? = some (.cells #[.slice a len cap] 24) := by rw [← hW1, ← hD]; exact heap_alloc_new w _
  have hR2 : W2.heap[D + 1]? = some (.cells #[.slice none 0 0] 29) := by rw [← hs1, ← hW2]; exact heap_alloc_new W1 _
  have hR3 : W3.heap[D + 2]? = some (.cells #[.slice none 0 0] 29) := by rw [← hs2, ← hW3]; exact heap_alloc_new W2 _
  have hA3 : W3.heap[D]? = some (.cells #[.slice a len cap] 24) := ((hb23.block _ (by omega)).trans (hb12.block _ (by omega))).trans hA1
  have hR23 : W3.heap[D + 1]? = some (.cells #[.slice none 0 0] 29) := (hb23.block _ (by omega)).trans hR2
  have a0 : W3.cell? ⟨D, 0, none⟩ = some (.slice a len cap) := cell_of_one hA3
  have HC : Hid (_) := toRoutineSC a len cap rs W3 (hin.below (by rw [hD]; exact hb3)) hlen hsh
  clear hin hA1 hR2 hA3 hb12 hb23 hb1 hsh
  go_enter Tryd.func6, Tryd.ntmps6
  go_wp2_with fail
  refine Calls.mono HC.out ?_
  rintro e w4 ⟨g, xs, rfl, hxs, hfo, hap, hb4⟩
  have e1 : w4.heap[D + 1]? = some (.cells #[.slice none 0 0] 29) := (hb4.block _ (by omega)).trans hR23
  have e2 : w4.heap[D + 2]? = some (.cells #[.slice none 0 0] 29) := (hb4.block _ (by omega)).trans hR3
  have k1 := cell_of_one e1
  have f1 := free_of_one e1
  have k2 := cell_of_one e2
  have f2 := free_of_one e2
  have hs4 : D + 3 ≤ w4.heap.size := by have := hb4.size; omega
  have hB4 : Below D w w4 := hb3.trans (hb4.mono (by omega))
  rw [hs3] at hfo
  obtain ⟨U, hU⟩ : ∃ U, w4.setCell ⟨D + 2, 0, none⟩ (.slice (some ⟨g, 0, none⟩) len len) = U := ⟨_, rfl⟩
  have hgU : w4.grownBy U (some (D + 2)) := by rw [← hU]; exact grown_set _ _ _ _
  have u2 : U.cell? ⟨D + 2, 0, none⟩ = some (.slice (some ⟨g, 0, none⟩) len len) := by rw [← hU]; exact World.cell?_setCell_same _ _ _ k2
  have u1 : U.cell? ⟨D + 1, 0, none⟩ = some (.slice none 0 0) := by rw [← hU]; exact (World.cell?_setCell_other _ _ _ _ (by simp)).trans k1
  have uf1 : U.frozen? ⟨D + 1, 0, none⟩ = false := by rw [← hU]; exact (World.frozen?_setCell ..).trans f1
  obtain ⟨V, hV⟩ : ∃ V, U.setCell ⟨D + 1, 0, none⟩ (.slice (some ⟨g, 0, none⟩) len len) = V := ⟨_, rfl⟩
  have hgV : U.grownBy V (some (D + 1)) := by rw [← hV]; exact grown_set _ _ _ _
  have v1 : V.cell? ⟨D + 1, 0, none⟩ = some (.slice (some ⟨g, 0, none⟩) len len) := by rw [← hV]; exact World.cell?_setCell_same _ _ _ u1
  have hfU := hfo.kept hgU (own_offR hfo.row (by omega)) (fun y hy => own_offR (hfo.trees y hy) (by omega))
  have hfV := hfU.kept hgV (own_offR hfU.row (by omega)) (fun y hy => own_offR (hfU.trees y hy) (by omega))
  have hBU : Below D w U := hB4.grown hgU (by omega) (fun k e => by injection e with e; omega)
  have HF : Hid (xs.map (·.1) = rs ∧ RtsOwn V D (.slice (some ⟨g, 0, none⟩) len len) xs ∧ ApartR (xs.map rvT) ∧ Below D w V) := ⟨hxs, hfV.base (by omega), hap, hBU.grown hgV (by have := hgU.size; omega) (fun k e => by injection e with e; omega)⟩
  clear hxs hfo hap hb4 hB4 hgU hgV hfU hfV hBU e1 e2 hR23 hR3 a0 HC hb3
  go_wp2
  refine bodyPost_ret (v := .agg #[.slice (some ⟨g, 0, none⟩) len len]) (by simp [results, Tryd.results6, go_sem, v1]) rfl ?_
  rw [hD]
  exact ⟨g, xs, rfl, HF.out⟩

set_option maxHeartbeats 1000000 in
set_option maxRecDepth 100000 in
theorem eqImageC (a b : Option Addr) (len ca cb : Nat) (rs : List Rt) (w : World) (ha : RtsIn w a len rs) (hb : RtsIn w b len rs) (hlen : len ≤ 4194304) (hsh : ∀ j, (rs.getD j rt0).2.2.length ≤ 4194304) :
    Calls Tryd.prog 8 #[.agg #[.slice a len ca], .agg #[.slice b len cb]] w fun e w' => e = .returned (.bool true) ∧ Below w.heap.size w w' := by
  have hbW : Below w.heap.size w ((w.alloc (.cells #[.slice a len ca] 29)).alloc (.cells #[.slice b len cb] 29)) := ((Below.refl _ _).alloc (Nat.le_refl _) _).alloc (by simp) _
  have HC : Hid (_) := eqRoutineSC a b len ca cb rs _ (ha.below hbW) (hb.below hbW) hlen hsh
  have HB : Hid (Below w.heap.size w ((w.alloc (.cells #[.slice a len ca] 29)).alloc (.cells #[.slice b len cb] 29))) := hbW
  clear ha hb hbW
  go_enter Tryd.func8, Tryd.ntmps8
  go_wp2_with fail
  refine Calls.mono HC.out ?_
  rintro e w1 ⟨rfl, hb1⟩
  go_wp2
  go_ret
  exact ⟨rfl, HB.out.trans (hb1.mono HB.out.size)⟩



end Go.Proofs.YthjemelnbbpdcaaDoor

/-! What the landed functions of chapter 14 are told of an image. -/
namespace Go.Proofs.YthjemelnbbpdcaaDoor
open Go.RowKit

/-- The routines rs lie at a, and so does the room of each row. -/
def RtsCap (w : World) (a : Option Addr) (len cap : Nat) (rs : List Rt) : Prop :=
  rs.length = len ∧ len ≤ cap ∧ cap ≤ maxLen ∧ ∀ j, j < len → ∃ b off, a = some ⟨b, off, none⟩ ∧ b < w.heap.size ∧ w.cell? ⟨b, off + j * 3, none⟩ = some (.string ⟨(rs.getD j rt0).1.toArray⟩) ∧ w.cell? ⟨b, off + j * 3 + 1, none⟩ = some (.int .i64 (rs.getD j rt0).2.1) ∧
    ∃ ca cl cc, w.cell? ⟨b, off + j * 3 + 2, none⟩ = some (.slice ca cl cc) ∧ InsIn w ca cl (rs.getD j rt0).2.2 ∧ cl ≤ cc ∧ cc ≤ maxLen
theorem RtsCap.in {w : World} {a : Option Addr} {len cap : Nat} {rs : List Rt} (h : RtsCap w a len cap rs) : RtsIn w a len rs := by
  refine ⟨h.1, fun j hj => ?_⟩
  obtain ⟨b, off, e, hl, c0, c1, ca, cl, cc, c2, hn, _, _⟩ := h.2.2.2 j hj
  exact ⟨b, off, e, hl, c0, c1, ca, cl, cc, c2, hn⟩
theorem RtsCap.below {w w' : World} {a : Option Addr} {len cap : Nat} {rs : List Rt} (h : RtsCap w a len cap rs) (hb : Below w.heap.size w w') : RtsCap w' a len cap rs := by
  refine ⟨h.1, h.2.1, h.2.2.1, fun j hj => ?_⟩
  obtain ⟨b, off, e, hlt, c0, c1, ca, cl, cc, c2, hn, h1, h2⟩ := h.2.2.2 j hj
  exact ⟨b, off, e, Nat.lt_of_lt_of_le hlt hb.size, (hb.cell (p := ⟨b, off + j * 3, none⟩) hlt).trans c0, (hb.cell (p := ⟨b, off + j * 3 + 1, none⟩) hlt).trans c1, ca, cl, cc, (hb.cell (p := ⟨b, off + j * 3 + 2, none⟩) hlt).trans c2, hn.below hb, h1, h2⟩
structure RtOk (w : World) (a : Option Addr) (len cap : Nat) (rs : List Rt) : Prop where
  c : RtsCap w a len cap rs
  i : IntR rs
  s : ShortR rs
  l : len ≤ 1048576
theorem RtOk.below {w w' : World} {a : Option Addr} {len cap : Nat} {rs : List Rt} (h : RtOk w a len cap rs) (hb : Below w.heap.size w w') : RtOk w' a len cap rs := ⟨h.c.below hb, h.i, h.s, h.l⟩
theorem own_capR {w : World} {base e size n c : Nat} {a : Option Addr} {xs : List Value} (h : w.ownsRow base e size (.slice a n c) n xs) : n ≤ c ∧ c ≤ maxLen := by
  rcases h.2 with ⟨h', _⟩ | ⟨g', cap', cur, h', _, _, hnc, hcm, _⟩
  · injection h' with _ h1 h2
    subst h1 h2
    exact ⟨Nat.le_refl _, Nat.zero_le _⟩
  · injection h' with _ _ h2
    omega
/-- What is owned lies so. -/
theorem RtsOwn.cap {w : World} {base n c : Nat} {a : Option Addr} {xs : List RV} {rs : List Rt} (h : RtsOwn w base (.slice a n c) xs) (hx : xs.map (·.1) = rs) (hn : rs.length = n) : RtsCap w a n c rs := by
  have hxl : xs.length = n := by rw [← hn, ← hx, List.length_map]
  obtain ⟨a', c', e, _, hin⟩ := h.in
  rw [hx, hxl] at hin
  rw [hxl] at e
  injection e with e1 _ e3
  subst e1 e3
  have hrow := h.row
  rw [hxl] at hrow
  have hc := own_capR hrow
  refine ⟨hin.1, hc.1, hc.2, fun j hj => ?_⟩
  obtain ⟨b, off, e, hlt, c0, c1, ca, cl, cc, c2, hn2⟩ := hin.2 j hj
  refine ⟨b, off, e, hlt, c0, c1, ca, cl, cc, c2, hn2, ?_⟩
  subst e
  obtain ⟨g, cp, e2⟩ := own_some hrow (by omega)
  injection e2 with e3 _ _
  injection e3 with e3
  injection e3 with e4 e5 _
  subst e4 e5
  have hmem : xs.getD j rv0 ∈ xs := by rw [List.getD_eq_getElem?_getD, List.getElem?_eq_getElem (by omega)]; exact List.getElem_mem (by omega)
  have ht := h.trees _ hmem
  obtain ⟨_, _, v2⟩ := rtsV_at xs j (by omega)
  have h2 := hrow.cellAt (j * 3 + 2) (by omega)
  rw [v2] at h2
  rw [Nat.zero_add] at c2
  rw [c2] at h2
  injection h2 with h2
  unfold rvT at h2 ht
  injection h2 with h3 h4 h5
  subst h3 h4 h5
  exact own_capR ht

theorem rt_small {rs : List Rt} (h : rs.length + rtsSz rs ≤ 1048576) : rs.length ≤ 1048576 ∧ ShortR rs := ⟨by omega, shortR_of (by omega)⟩

end Go.Proofs.YthjemelnbbpdcaaDoor
