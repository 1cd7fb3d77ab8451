/-
  Parts of one proof, one behind the other: ImgL3.
-/
import Derived.Test.YthjemelnbbpdcaaGreatDoorP33
import Derived.Test.YthjemelnbbpdcaaGreatDoorP31

/-! Contracts of chapter 14's landed code: ReadImage. -/
namespace Go.Proofs.YthjemelnbbpdcaaGreatDoor
open Go.RowKit

/-- What ReadImage holds: the answer's cell (at D), the image so far (at D + 1), the lines. -/
structure Rj14 (w Bk X : World) (D N0 : Nat) (la : Option Addr) (ls : List (List UInt8)) (a : Option Addr) (c : Nat) (xs : List RV) : Prop where
  sz : Bk.heap.size = N0
  r : Rd14 Bk X (.slice a xs.length c) xs
  d : Bk.heap[D]? = some (.cells #[.slice none 0 0] 26 (0, 0))
  m : Bk.heap[D + 1]? = some (.cells #[.slice a xs.length c] 26 (0, 0))
  ln : TextsIn Bk la ls.length ls
  lb : ∀ b off, la = some ⟨b, off, none⟩ → b ≠ D + 1
  b : Below D w Bk
  wd : w.heap.size = D
section
variable {w Bk X Y : World} {D N0 : Nat} {la : Option Addr} {ls : List (List UInt8)} {a a' : Option Addr} {c c' : Nat} {xs xs' : List RV}
theorem Rj14.dl (h : Rj14 w Bk X D N0 la ls a c xs) : D + 1 < N0 := by have := lt_of_block h.m; have := h.sz; omega
theorem Rj14.c0 (h : Rj14 w Bk X D N0 la ls a c xs) : X.cell? ⟨D, 0, none⟩ = some (.slice none 0 0) ∧ X.frozen? ⟨D, 0, none⟩ = false ∧ X.cell? ⟨D + 1, 0, none⟩ = some (.slice a xs.length c) ∧ X.frozen? ⟨D + 1, 0, none⟩ = false := by
  have h1 := (h.r.b.block D (lt_of_block h.d)).trans h.d
  have h2 := (h.r.b.block (D + 1) (lt_of_block h.m)).trans h.m
  refine ⟨by rw [cell_of_row _ _ _ _ _ _ h1]; rfl, frozen_of_row _ _ _ _ _ h1, by rw [cell_of_row _ _ _ _ _ _ h2]; rfl, frozen_of_row _ _ _ _ _ h2⟩
theorem Rj14.wX (h : Rj14 w Bk X D N0 la ls a c xs) : Below w.heap.size w X := by
  have h1 := h.b
  rw [← h.wd] at h1
  exact h1.trans (h.r.b.mono h1.size)
theorem Rj14.lines (h : Rj14 w Bk X D N0 la ls a c xs) : TextsIn X la ls.length ls := h.ln.below h.r.b
theorem Rj14.put (h : Rj14 w Bk X D N0 la ls a c xs) (hr : Rd14 Bk Y (.slice a' xs'.length c') xs') : Rj14 w (Bk.setCell ⟨D + 1, 0, none⟩ (.slice a' xs'.length c')) (Y.setCell ⟨D + 1, 0, none⟩ (.slice a' xs'.length c')) D N0 la ls a' c' xs' := by
  have hdl := h.dl
  have hsz := h.sz
  have hsB : (Bk.setCell ⟨D + 1, 0, none⟩ (.slice a' xs'.length c')).heap.size = Bk.heap.size := by simp
  have hmB : (Bk.setCell ⟨D + 1, 0, none⟩ (.slice a' xs'.length c')).heap[D + 1]? = some (.cells #[.slice a' xs'.length c'] 26 (0, 0)) := heap_setCell_same _ _ _ _ _ _ h.m
  have hmY0 : Y.heap[D + 1]? = some (.cells #[.slice a xs.length c] 26 (0, 0)) := (hr.b.block (D + 1) (by omega)).trans h.m
  have hmY : (Y.setCell ⟨D + 1, 0, none⟩ (.slice a' xs'.length c')).heap[D + 1]? = some (.cells #[.slice a' xs'.length c'] 26 (0, 0)) := heap_setCell_same _ _ _ _ _ _ hmY0
  have hgY := grown_set Y (D + 1) 0 (.slice a' xs'.length c')
  have hgB := grown_set Bk (D + 1) 0 (.slice a' xs'.length c')
  refine ⟨by omega, ⟨?_, hr.ap, ?_⟩, ?_, hmB, ?_, h.lb, ?_, h.wd⟩
  · rw [hsB]
    exact hr.fo.kept hgY (own_offR hr.fo.row (by omega)) (fun z hz => own_offR (hr.fo.trees z hz) (by omega))
  · rw [hsB]
    refine ⟨hgY.os.trans (hr.b.os.trans hgB.os.symm), hgY.tape.trans (hr.b.tape.trans hgB.tape.symm), hgY.output.trans (hr.b.output.trans hgB.output.symm), ?_, fun k hk => ?_⟩
    · have := hr.b.size; simp; omega
    · by_cases e : k = D + 1
      · subst e; rw [hmY, hmB]
      · rw [heap_setCell_other _ _ _ _ (by show k ≠ D + 1; exact e), heap_setCell_other _ _ _ _ (by show k ≠ D + 1; exact e)]
        exact hr.b.block k hk
  · exact (heap_setCell_other _ _ _ _ (by show D ≠ D + 1; omega)).trans h.d
  · refine ⟨h.ln.1, fun j hj => ?_⟩
    obtain ⟨b, off, e, hl, hc⟩ := h.ln.2 j hj
    have hne := h.lb b off e
    exact ⟨b, off, e, by rw [hsB]; exact hl, (World.cell?_of_block (a := ⟨b, off + j, none⟩) (heap_setCell_other _ _ _ _ (by show b ≠ D + 1; exact hne))).trans hc⟩
  · exact h.b.grown hgB (by omega) (fun k e => by injection e with e; omega)
end
def RjOut (w : World) (l : List UInt8) (e : Ending) (w' : World) : Prop := ∃ v xs, e = .returned (.tuple #[.agg #[v], .bool (readIB l)]) ∧ xs.map (·.1) = readIV l ∧ RtsOwn w' w.heap.size v xs ∧ ApartR (xs.map rvT) ∧ Below w.heap.size w w'
theorem rjZero {w Y : World} {l : List UInt8} (hz : readIB l = false ∧ readIV l = []) (hb : Below w.heap.size w Y) : RjOut w l (.returned (.tuple #[.agg #[.slice none 0 0], .bool false])) Y :=
  ⟨.slice none 0 0, [], by rw [hz.1], by rw [hz.2]; rfl, ⟨World.ownsRow_nil _ _ _ _, fun x hx => by cases hx⟩, ApartR.nil, hb⟩

set_option maxHeartbeats 8000000 in
set_option maxRecDepth 100000 in
theorem implReadImage0 (l : List UInt8) (w : World) (hl : l.length ≤ 1048576) (ht : PowIs w) :
    Calls Tryz.prog 9 #[.string ⟨l.toArray⟩] w fun e w' => RjOut w l e w' := by
  obtain ⟨W1, hW1⟩ : ∃ W, w.alloc (.cells #[.slice none 0 0] 26) = W := ⟨_, rfl⟩
  obtain ⟨W2, hW2⟩ : ∃ W, W1.alloc (.cells #[.slice none 0 0] 26) = W := ⟨_, rfl⟩
  have hs1 : W1.heap.size = w.heap.size + 1 := by rw [← hW1]; simp
  have hs2 : W2.heap.size = W1.heap.size + 1 := by rw [← hW2]; simp
  have hb1 : Below w.heap.size w W1 := by rw [← hW1]; exact (Below.refl _ _).alloc (Nat.le_refl _) _
  have hb2 : Below W1.heap.size W1 W2 := by rw [← hW2]; exact (Below.refl _ _).alloc (Nat.le_refl _) _
  have hA1 : W1.heap[w.heap.size]? = some (.cells #[.slice none 0 0] 26) := by rw [← hW1]; exact heap_alloc_new w _
  have hA2 : W2.heap[W1.heap.size]? = some (.cells #[.slice none 0 0] 26) := by rw [← hW2]; exact heap_alloc_new W1 _
  obtain ⟨D, hD⟩ : ∃ D, w.heap.size = D := ⟨_, rfl⟩
  rw [hD] at hA1 hs1 hb1
  rw [hs1] at hA2 hs2 hb2
  have z0 : W2.cell? ⟨D + 1, 0, none⟩ = some (.slice none 0 0) := by rw [cell_of_row _ _ _ _ _ _ hA2]; rfl
  have y0 : W2.frozen? ⟨D + 1, 0, none⟩ = false := frozen_of_row _ _ _ _ _ hA2
  have hA3 : (W2.setCell ⟨D + 1, 0, none⟩ (.slice none 0 0)).heap[D + 1]? = some (.cells #[.slice none 0 0] 26 (0, 0)) := heap_setCell_same _ _ _ _ _ _ hA2
  have hA4 : (W2.setCell ⟨D + 1, 0, none⟩ (.slice none 0 0)).heap[D]? = some (.cells #[.slice none 0 0] 26 (0, 0)) := (heap_setCell_other _ _ _ _ (by show D ≠ D + 1; omega)).trans ((hb2.block D (by omega)).trans hA1)
  have hbV : Below D w (W2.setCell ⟨D + 1, 0, none⟩ (.slice none 0 0)) := by
    have h1 : Below D w W2 := hb1.trans (hb2.mono (by omega))
    exact h1.grown (grown_set _ _ _ _) (by omega) (fun q e => by injection e with e; omega)
  have hsV : (W2.setCell ⟨D + 1, 0, none⟩ (.slice none 0 0)).heap.size = D + 2 := by simp; omega
  obtain ⟨V, hV⟩ : ∃ V, W2.setCell ⟨D + 1, 0, none⟩ (.slice none 0 0) = V := ⟨_, rfl⟩
  rw [hV] at hA3 hA4 hbV hsV
  have HLi : Hid (_) := implLines l V hl
  have HT : Hid (∀ X, Below w.heap.size w X → PowIs X) := fun X hX => ht.below hX
  have hnl := linesI_le l
  have HLl : Hid (∀ j, ((linesL l).getD j []).length ≤ l.length) := line_lenR l
  have HNo : Hid (showIm (loI [] (linesL l)) ≠ l → readIB l = false ∧ readIV l = []) := loI_no
  have HYes : Hid (∀ q, l ≠ [] → showIm q = l → readIB l = true ∧ readIV l = q) := fun q h1 h2 => loI_yes h1 h2
  have HTk : Hid (∀ k, k < (linesL l).length → loI [] ((linesL l).take (k + 1)) = rtLo (loI [] ((linesL l).take k)) ((linesL l).getD k [])) := fun k hk => loI_take _ k hk
  obtain ⟨ls, hls⟩ : ∃ ls, linesL l = ls := ⟨_, rfl⟩
  rw [hls] at HLi hnl HLl HNo HTk
  have HA3 : Hid (V.heap[D + 1]? = some (.cells #[.slice none 0 0] 26 (0, 0)) ∧ V.heap[D]? = some (.cells #[.slice none 0 0] 26 (0, 0)) ∧ Below D w V) := ⟨hA3, hA4, hbV⟩
  clear hb1 hb2 hA1 hA2 hA3 hA4 hbV ht hls
  go_enter Tryz.func9, Tryz.ntmps9
  go_wp2_with fail
  refine Calls.mono HLi.out ?_
  rintro e w3 ⟨v, rfl, hown, hb3⟩
  have hin0 := own_texts hown
  obtain ⟨_, la, lc, rfl, hin⟩ := hin0
  have hlb : ∀ b off, la = some ⟨b, off, none⟩ → b ≠ D + 1 := fun b off e => by
    have := (hown.lt b (by rw [e]; rfl)).1
    omega
  have HS0 : Hid (Rj14 w w3 w3 D w3.heap.size la ls none 0 []) :=
    ⟨rfl, ⟨⟨World.ownsRow_nil _ _ _ _, fun x hx => by cases hx⟩, ApartR.nil, Below.refl _ _⟩, (hb3.block D (by omega)).trans HA3.out.2.1, (hb3.block (D + 1) (by omega)).trans HA3.out.1, hin, hlb, HA3.out.2.2.trans (hb3.mono (by omega)), hD⟩
  obtain ⟨N0, hN0⟩ : ∃ N0, w3.heap.size = N0 := ⟨_, rfl⟩
  rw [hN0] at HS0
  clear hown hb3 hin hlb HLi HA3 z0 y0
  go_wp2
  go_loopw [11] (fun iv wx => ∃ (k : Nat) (a : Option Addr) (c : Nat) (xs : List RV) (Bk : World), iv = .int .i64 (k : Int) ∧ k ≤ ls.length ∧ Hid (Rj14 w Bk wx D N0 la ls a c xs) ∧ Hid (xs.map (·.1) = loI [] (ls.take k)) ∧ Hid (LoR k (xs.map (·.1)))) (fun iv _ => ls.length - (intOf iv).toNat)
  case atStart => exact ⟨0, none, 0, [], w3, rfl, Nat.zero_le _, HS0, (rfl : ([] : List RV).map (·.1) = loI [] (ls.take 0)), LoR.nil 0⟩
  case round =>
    obtain ⟨k, a, c, xs, Bk, rfl, hk, sr, HG, HLr⟩ := hrel
    clear HS0
    obtain ⟨r0, f0, m0, g0⟩ := sr.out.c0
    by_cases hkl : (k : Int) < (ls.length : Int)
    · obtain ⟨b, off, rfl, hbl, cx⟩ := sr.out.lines.2 k (by omega)
      have hxl := HLl.out k
      have htk := HTk.out k (by omega)
      obtain ⟨x, hx⟩ : ∃ x, ls.getD k [] = x := ⟨_, rfl⟩
      rw [hx] at cx hxl htk
      have hnx : xs.length ≤ k := by have := HLr.out.l; rw [List.length_map] at this; exact this
      have HC : Hid (_) := implWithRt Bk wr a c xs x sr.out.r (by omega) (by omega) (fun y hy => by have := (HLr.out.c y.1 (List.mem_map_of_mem hy)).2.2.1; omega)
      have HL2 : Hid (LoR (k + 1) (rtLo (xs.map (·.1)) x)) := HLr.out.step x (by omega)
      rw [← HG.out] at htk
      have HTK : Hid (loI [] (ls.take (k + 1)) = rtLo (xs.map (·.1)) x) := htk
      generalize rtLo (xs.map (·.1)) x = out at HC HL2 HTK
      obtain ⟨nx, hnn⟩ : ∃ nx, xs.length = nx := ⟨_, rfl⟩
      rw [hnn] at HC m0
      clear hx hxl htk HG HLr
      go_wp2_with fail
      refine Calls.mono HC.out ?_
      rintro e w4 ⟨a', c', xs', rfl, hRd, hmap⟩
      have st := sr.out.put hRd
      have hm4 : w4.cell? ⟨D + 1, 0, none⟩ = some (.slice a nx c) ∧ w4.frozen? ⟨D + 1, 0, none⟩ = false := by
        have hb := (hRd.b.block (D + 1) (lt_of_block sr.out.m)).trans sr.out.m
        rw [hnn] at hb
        exact ⟨by rw [cell_of_row _ _ _ _ _ _ hb]; rfl, frozen_of_row _ _ _ _ _ hb⟩
      obtain ⟨m4, g4⟩ := hm4
      have HS4 : Hid (Rj14 w (Bk.setCell ⟨D + 1, 0, none⟩ (.slice a' xs'.length c')) (w4.setCell ⟨D + 1, 0, none⟩ (.slice a' xs'.length c')) D N0 (some ⟨b, off, none⟩) ls a' c' xs') := st
      have HG4 : Hid (xs'.map (·.1) = loI [] (ls.take (k + 1))) := by exact (by rw [hmap, HTK.out] : xs'.map (·.1) = loI [] (ls.take (k + 1)))
      have HL4 : Hid (LoR (k + 1) (xs'.map (·.1))) := by exact (by rw [hmap]; exact HL2.out : LoR (k + 1) (xs'.map (·.1)))
      clear st hRd hmap HC HL2 HTK sr r0 f0 m0 g0 cx hnn hnx
      go_wp2
      go_roundw
      case rel => exact ⟨k + 1, a', c', xs', _, by go_num, by omega, HS4, HG4, HL4⟩
      case measure => simp [intOf]; omega
    · obtain rfl : k = ls.length := by omega
      have hG := HG.out
      rw [List.take_of_length_le (Nat.le_refl _)] at hG
      have HBX : Hid (Below w.heap.size w wr) := sr.out.wX
      have hdX : D < wr.heap.size := by have := sr.out.dl; have := sr.out.sz; have := sr.out.r.b.size; omega
      by_cases hle : l = []
      · subst hle
        have HZ : Hid (readIB [] = false ∧ readIV [] = []) := loI_nil
        have hee : (([] : List UInt8) == []) = true := by decide
        have HO : Hid (RjOut w [] (.returned (.tuple #[.agg #[.slice none 0 0], .bool false])) (wr.setCell ⟨D, 0, none⟩ (.slice none 0 0))) := rjZero HZ.out (HBX.out.grown (grown_set _ _ _ _) HBX.out.size (fun q e => by injection e with e; omega))
        have k0 : (wr.setCell ⟨D, 0, none⟩ (.slice none 0 0)).cell? ⟨D, 0, none⟩ = some (.slice none 0 0) := World.cell?_setCell_same _ _ _ r0
        obtain ⟨Y, hY⟩ : ∃ Y, wr.setCell ⟨D, 0, none⟩ (.slice none 0 0) = Y := ⟨_, rfl⟩
        rw [hY] at HO k0
        clear sr hG HG HLr HNo HYes HLl HTk
        go_wp2
        refine bodyPost_ret (v := .tuple #[.agg #[.slice none 0 0], .bool false]) (by simp [results, Tryz.results9, go_sem, k0]) rfl ?_
        exact HO.out
      · have hlr := HLr.out
        have hok := hlr.ok (by omega)
        have hnx : xs.length ≤ ls.length := by have := hlr.l; rw [List.length_map] at this; exact this
        have hcap : RtsCap wr a xs.length c (xs.map (·.1)) := sr.out.r.fo.cap rfl (by rw [List.length_map])
        have HC : Hid (_) := implShowImage a xs.length c (xs.map (·.1)) wr ⟨hcap, hok.1, hok.2, by omega⟩ (HT.out _ HBX.out)
        have hno := HNo.out
        rw [← hG] at hno
        have hyes := HYes.out (xs.map (·.1)) hle
        have HFo : Hid (RtsOwn wr N0 (.slice a xs.length c) xs ∧ ApartR (xs.map rvT) ∧ D + 1 < N0 ∧ wr.heap[D + 1]? = some (.cells #[.slice a xs.length c] 26 (0, 0)) ∧ wr.heap[D]? = some (.cells #[.slice none 0 0] 26 (0, 0))) := by
          have h1 := sr.out.r.fo
          rw [sr.out.sz] at h1
          exact ⟨h1, sr.out.r.ap, sr.out.dl, (sr.out.r.b.block (D + 1) (lt_of_block sr.out.m)).trans sr.out.m, (sr.out.r.b.block D (lt_of_block sr.out.d)).trans sr.out.d⟩
        obtain ⟨q, hq⟩ : ∃ q, showIm (xs.map (·.1)) = q := ⟨_, rfl⟩
        rw [hq] at HC hno hyes
        have hle2 : (l == []) = false := beq_eq_false_iff_ne.2 hle
        have hle3 : l.isEmpty = false := by cases l with
          | nil => exact absurd rfl hle
          | cons _ _ => rfl
        obtain ⟨nx, hnn⟩ : ∃ nx, xs.length = nx := ⟨_, rfl⟩
        rw [hnn] at HC m0 HFo
        by_cases hql : q = l
        · have HE : Hid (readIB l = true ∧ readIV l = xs.map (·.1)) := hyes hql
          have hqb : (q != l) = false := by rw [hql]; simp
          have hqe : (q == l) = true := by rw [hql]; simp
          clear sr hG HG HLr HNo HYes HLl HTk hlr hok hcap hno hyes hql hq hnx hle
          go_wp2_with fail
          refine Calls.mono HC.out ?_
          rintro e w5 ⟨rfl, hb5⟩
          have c5 : w5.cell? ⟨D + 1, 0, none⟩ = some (.slice a nx c) := (hb5.cell (p := ⟨D + 1, 0, none⟩) (by have := lt_of_block HFo.out.2.2.2.1; exact this)).trans m0
          have hR5 : w5.heap[D]? = some (.cells #[.slice none 0 0] 26 (0, 0)) := (hb5.block D hdX).trans HFo.out.2.2.2.2
          have d5 : w5.cell? ⟨D, 0, none⟩ = some (.slice none 0 0) := by rw [cell_of_row _ _ _ _ _ _ hR5]; rfl
          have e5 : w5.frozen? ⟨D, 0, none⟩ = false := frozen_of_row _ _ _ _ _ hR5
          have k5 : (w5.setCell ⟨D, 0, none⟩ (.slice a nx c)).cell? ⟨D, 0, none⟩ = some (.slice a nx c) := World.cell?_setCell_same _ _ _ d5
          have HO : Hid (RjOut w l (.returned (.tuple #[.agg #[.slice a nx c], .bool true])) (w5.setCell ⟨D, 0, none⟩ (.slice a nx c))) := by
            have h1 : Below w.heap.size w w5 := HBX.out.trans (hb5.mono HBX.out.size)
            have h2 := HFo.out.1.below hb5
            have h3 := h2.kept (grown_set w5 D 0 (.slice a nx c)) (own_offR h2.row (by have := HFo.out.2.2.1; omega)) (fun z hz => own_offR (h2.trees z hz) (by have := HFo.out.2.2.1; omega))
            exact ⟨_, xs, by rw [HE.out.1], HE.out.2.symm, h3.base (by have := HFo.out.2.2.1; omega), HFo.out.2.1, h1.grown (grown_set _ _ _ _) h1.size (fun q e => by injection e with e; omega)⟩
          obtain ⟨Y, hY⟩ : ∃ Y, w5.setCell ⟨D, 0, none⟩ (.slice a nx c) = Y := ⟨_, rfl⟩
          rw [hY] at HO k5
          clear hb5 hR5 HFo HE
          go_wp2
          refine bodyPost_ret (v := .tuple #[.agg #[.slice a nx c], .bool true]) (by simp [results, Tryz.results9, go_sem, k5]) rfl ?_
          exact HO.out
        · have HZ : Hid (readIB l = false ∧ readIV l = []) := hno hql
          have hqb : (q != l) = true := bne_iff_ne.2 hql
          have hqe : (q == l) = false := beq_eq_false_iff_ne.2 hql
          clear sr hG HG HLr HNo HYes HLl HTk hlr hok hcap hno hyes hql hq hnx hle
          go_wp2_with fail
          refine Calls.mono HC.out ?_
          rintro e w5 ⟨rfl, hb5⟩
          have hR5 : w5.heap[D]? = some (.cells #[.slice none 0 0] 26 (0, 0)) := (hb5.block D hdX).trans HFo.out.2.2.2.2
          have d5 : w5.cell? ⟨D, 0, none⟩ = some (.slice none 0 0) := by rw [cell_of_row _ _ _ _ _ _ hR5]; rfl
          have e5 : w5.frozen? ⟨D, 0, none⟩ = false := frozen_of_row _ _ _ _ _ hR5
          have k5 : (w5.setCell ⟨D, 0, none⟩ (.slice none 0 0)).cell? ⟨D, 0, none⟩ = some (.slice none 0 0) := World.cell?_setCell_same _ _ _ d5
          have HO : Hid (RjOut w l (.returned (.tuple #[.agg #[.slice none 0 0], .bool false])) (w5.setCell ⟨D, 0, none⟩ (.slice none 0 0))) := by
            have h1 : Below w.heap.size w w5 := HBX.out.trans (hb5.mono HBX.out.size)
            exact rjZero HZ.out (h1.grown (grown_set _ _ _ _) h1.size (fun q e => by injection e with e; omega))
          obtain ⟨Y, hY⟩ : ∃ Y, w5.setCell ⟨D, 0, none⟩ (.slice none 0 0) = Y := ⟨_, rfl⟩
          rw [hY] at HO k5
          clear hb5 hR5 HFo HZ
          go_wp2
          refine bodyPost_ret (v := .tuple #[.agg #[.slice none 0 0], .bool false]) (by simp [results, Tryz.results9, go_sem, k5]) rfl ?_
          exact HO.out
theorem implReadImage (s : List UInt8) (w : World) (hl : s.length ≤ 1048576) (ht : PowIs w) :
    Calls Tryz.prog 9 #[.string ⟨s.toArray⟩] w fun e w' => ∃ v xs, e = .returned (.tuple #[.agg #[v], .bool (readIB s)]) ∧ xs.map (·.1) = readIV s ∧ RtsOwn w' w.heap.size v xs ∧ ApartR (xs.map rvT) ∧ Below w.heap.size w w' := implReadImage0 s w hl ht

end Go.Proofs.YthjemelnbbpdcaaGreatDoor
