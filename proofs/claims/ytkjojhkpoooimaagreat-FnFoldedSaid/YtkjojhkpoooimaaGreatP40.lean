/-
  Parts of one proof, one behind the other: Draw10M.
-/
import Derived.Test.YtkjojhkpoooimaaGreatP39

/-! DrawMeant, DrawBurnt. -/
namespace Go.Proofs.YtkjojhkpoooimaaGreat
open Go.RowKit

theorem box3_put {Y : World} {N : Nat} {a b c : Value} (h : Box3 Y N a b c) (x y z : Value) : Box3 (((Y.setCell ⟨N, 0, none⟩ x).setCell ⟨N, 1, none⟩ y).setCell ⟨N, 2, none⟩ z) N x y z ∧ Y.grownBy (((Y.setCell ⟨N, 0, none⟩ x).setCell ⟨N, 1, none⟩ y).setCell ⟨N, 2, none⟩ z) (some N) := by
  refine ⟨⟨?_, ?_, ?_⟩, ((grown_set Y N 0 _).trans (grown_set _ N 1 _)).trans (grown_set _ N 2 _)⟩
  · exact (World.cell?_setCell_other _ _ _ _ (by simp)).trans ((World.cell?_setCell_other _ _ _ _ (by simp)).trans (World.cell?_setCell_same _ _ _ h.c0))
  · exact (World.cell?_setCell_other _ _ _ _ (by simp)).trans (World.cell?_setCell_same _ _ _ ((World.cell?_setCell_other _ _ _ _ (by simp)).trans h.c1))
  · exact World.cell?_setCell_same _ _ _ ((World.cell?_setCell_other _ _ _ _ (by simp)).trans ((World.cell?_setCell_other _ _ _ _ (by simp)).trans h.c2))
theorem grown_past {w2 Y Z : World} {B N : Nat} (h : w2.grownBy Y (some B)) (hg : Y.grownBy Z (some N)) (hN : w2.heap.size ≤ N) : w2.grownBy Z (some B) :=
  ⟨hg.os.trans h.os, hg.tape.trans h.tape, hg.output.trans h.output, Nat.le_trans h.size hg.size, fun k hk hne => (hg.block k (Nat.lt_of_lt_of_le hk h.size) (fun e => by injection e with e; omega)).trans (h.block k hk hne)⟩

set_option maxHeartbeats 8000000 in
set_option maxRecDepth 100000 in
theorem drawMeant (w : World) (a : Option Addr) (len cap : Nat) (hl : len ≤ 4096) (hc : Code w w.heap.size a len) :
    Calls Tryz.prog 15 #[.slice a len cap] w fun e w' => ∃ v s fn u xs fuel, e = .returned (.tuple #[v, .string ⟨(s : List UInt8).toArray⟩, .string ⟨(fn : List UInt8).toArray⟩, u, .int .i64 fuel]) ∧ Drawn10 w w' v s fn u xs fuel := by
  go_enter Tryz.func15, Tryz.ntmps15
  go_wp2_with fail
  refine (drawNew _ a len cap hl hc).mono ?_
  rintro e w1 ⟨rfl, hc1, hg1⟩
  have hB1 : Below w.heap.size w w1 := (Below.refl _ _).grown hg1 (Nat.le_refl _) (by simp)
  obtain ⟨B, hBe⟩ : ∃ B, w.heap.size = B := ⟨_, rfl⟩
  rw [hBe] at hc1 hB1 ⊢
  clear hg1 hc
  go_wp2_with fail
  refine (drawAny8 w1 B a len cap hc1).mono ?_
  rintro e w2 ⟨v, rfl, la, n, lc, ps, rfl, ⟨hn1, hn4, hlb⟩, hok, hc2, hg2⟩
  have HB2 : Hid (Below B w w2) := hB1.grown hg2 (hBe ▸ hB1.size) (fun k e => by injection e with e; omega)
  have hB1l := hc1.lt
  obtain ⟨C, hCe⟩ : ∃ C, w1.heap.size = C := ⟨_, rfl⟩
  rw [hCe] at hok hlb hB1l
  have HOK : Hid (∀ Y, Agree w2 Y C → PkgsOk Y la n lc ps) := hok
  have hbl := hc2.lt
  clear hok hg2 hc1 hB1 hCe
  go_wp2_with fail
  refine (drawBelow w2 B a len cap (n : Int) (by omega) (by omega) hc2).mono ?_
  rintro e w3 ⟨x, rfl, hx0, hx1, hc3, hg3⟩
  obtain ⟨j, rfl⟩ : ∃ j : Nat, x = (j : Int) := Int.eq_ofNat_of_zero_le hx0
  have hj : j < n := by omega
  have hok3 := HOK.out w3 (Agree.of_grown hg3 hB1l)
  obtain ⟨b, off, rfl, -⟩ := hok3.each j hj
  have HST : Hid (_) := fun {j : Nat} (hj : j < n) => pk_stays10 HOK.out (hlb b off rfl) hj
  obtain ⟨ia, il, ic, fa, fl, fc, hst⟩ := HST.out hj
  obtain ⟨c0, c1, c2, hpk3⟩ := hst w3 (Agree.of_grown hg3 hB1l)
  have hnml := hpk3.nm
  obtain ⟨nm, hnm⟩ : ∃ nm, (ps.getD j pk0).1 = nm := ⟨_, rfl⟩
  rw [hnm] at c0 hnml
  have q0 := (Box3.new w3 (.string ⟨nm.toArray⟩) (.slice ia il ic) (.slice fa fl fc) 30).1.c0
  have hcX := hc3.kept (World.grownBy_alloc w3 (.cells #[.string ⟨nm.toArray⟩, .slice ia il ic, .slice fa fl fc] 30) none) (by simp)
  have hgX := hg3.trans (World.grownBy_alloc w3 (.cells #[.string ⟨nm.toArray⟩, .slice ia il ic, .slice fa fl fc] 30) (some B))
  clear hok3 hst hpk3 hc3 hg3 hx0 hnm hlb
  have hjz : (j : Int) < (n : Int) := by omega
  go_wp2_with fail
  refine (drawOnce _ B a len cap 2 (by omega) (by omega) hcX).mono ?_
  rintro e w4 ⟨bb, rfl, hc4, hg4⟩
  have HS4 : Hid (Cur w4 B a len cap ∧ w2.grownBy w4 (some B)) := ⟨hc4, hgX.trans hg4⟩
  clear hcX hgX hc4 hg4 q0 c0 c1 c2
  go_upto_if 30 with fail
  go_cut [10] from 11 (fun nv wx => ∃ s : List UInt8, nv = .string ⟨s.toArray⟩ ∧ s.length ≤ 1048576 ∧ Hid (Cur wx B a len cap ∧ w2.grownBy wx (some B)))
  case first =>
    rcases bb with _ | _
    · go_wp2_with fail
      go_meet
      case rel => exact ⟨nm, rfl, hnml, HS4⟩
    · go_wp2_with fail
      go_meet
      case rel => exact ⟨[109, 97, 105, 110], rfl, by simp, HS4⟩
  case rest =>
  obtain ⟨s, rfl, hsl, HS⟩ := hcut
  clear HS4 hnml
  go_wp2_with fail
  refine (drawWord wc B a len cap HS.out.1).mono ?_
  rintro e w5 ⟨x, rfl, hx0, hx1, hc5, hg5⟩
  have hd5 := D10.new (HS.out.2.trans hg5) hc5 hbl x ⟨by omega, by omega⟩
  obtain ⟨X, hX⟩ : ∃ X, w5.alloc (.cells #[.int .i64 x] 2) = X := ⟨_, rfl⟩
  obtain ⟨L, hL⟩ : ∃ L, w5.heap.size = L := ⟨_, rfl⟩
  rw [hX, hL] at hd5
  have HD5 : Hid (D10 X w2 B a len cap L (.slice (some ⟨L, 0, none⟩) 1 1) [x]) := hd5
  have HIN : Hid (PkgsOk X (some ⟨b, off, none⟩) n lc ps) := HOK.out X (Agree.of_grown hd5.g hB1l)
  clear hd5 hc5 hg5 HS
  go_wp2_with fail
  refine (specAt8 (some ⟨b, off, none⟩) n lc ps s _ HIN.out.in (by omega)).mono ?_
  rintro e w6 ⟨rfl, hw6⟩
  obtain rfl := hw6.symm
  have hz9 : -1 ≤ at8 ps s ∧ at8 ps s < (n : Int) := by
    rcases at8_bd ps s with h | ⟨h, _⟩
    · rw [HIN.out.hlen] at h; exact h
    · have := HIN.out.hlen; rw [h] at this; simp at this; omega
  obtain ⟨z, hz⟩ : ∃ z, at8 ps s = z := ⟨_, rfl⟩
  rw [hz] at hz9 ⊢
  clear hz
  go_upto_region 10 with fail
  go_cut [47] from 37 to 46 (fun cv wx => ∃ cb : Bool, cv = .bool cb ∧ wx = X ∧ (cb = true → 0 ≤ z ∧ 0 < (ps.getD z.toNat pk0).2.2.length))
  case first =>
    by_cases hz0 : 0 ≤ z
    · obtain ⟨k, rfl⟩ : ∃ k : Nat, z = (k : Int) := Int.eq_ofNat_of_zero_le hz0
      obtain ⟨ia, il, ic, fa, fl, fc, hst⟩ := HST.out (show k < n by omega)
      obtain ⟨_, _, c2, hpk⟩ := hst X (Agree.of_grown HD5.out.g hB1l)
      have hfl : (ps.getD k pk0).2.2.length = fl := hpk.f.1
      have hkz : (k : Int) < (n : Int) := by omega
      clear hst hpk
      go_wp2_with fail
      go_meet
      case rel => exact ⟨_, rfl, rfl, fun h => ⟨by omega, by rw [Int.toNat_natCast, hfl]; simpa using h⟩⟩
    · obtain rfl : z = -1 := by omega
      go_wp2_with fail
      go_meet
      case rel => exact ⟨false, rfl, rfl, fun h => by cases h⟩
  case rest =>
  obtain ⟨cb, rfl, hwx, hcb⟩ := hcut
  obtain rfl := hwx.symm
  go_upto_if 47 with fail
  go_cut [11, 12] from 13 (fun fv uv wx => ∃ (fn : List UInt8) (g c : Nat) (xs : List Int) (L : Nat), fv = .string ⟨fn.toArray⟩ ∧ uv = .slice (some ⟨g, 0, none⟩) xs.length c ∧ fn.length ≤ 1048576 ∧ xs.length ≤ 5 ∧ Hid (D10 wx w2 B a len cap L (.slice (some ⟨g, 0, none⟩) xs.length c) xs))
  case first =>
    rcases cb with _ | _
    · go_wp2_with fail
      go_meet
      case rel => exact ⟨[109, 97, 105, 110], L, 1, [x], L, rfl, rfl, by simp, by simp, HD5⟩
    · obtain ⟨hz0, hfl0⟩ := hcb rfl
      obtain ⟨k, rfl⟩ : ∃ k : Nat, z = (k : Int) := Int.eq_ofNat_of_zero_le hz0
      rw [Int.toNat_natCast] at hfl0
      have hkn : k < n := by omega
      have hkz : (k : Int) < (n : Int) := by omega
      obtain ⟨ia, il, ic, fa, fl, fc, hst⟩ := HST.out hkn
      obtain ⟨fs, hfs⟩ : ∃ fs, (ps.getD k pk0).2.2 = fs := ⟨_, rfl⟩
      rw [hfs] at hst hfl0
      have hpk := (hst X (Agree.of_grown HD5.out.g hB1l)).2.2.2
      obtain rfl : fs.length = fl := hpk.f.1
      obtain ⟨bf, of, rfl, -⟩ := hpk.f.2 0 hfl0
      have HF : Hid (∀ Y, w2.grownBy Y (some B) → Y.cell? ⟨b, off + k * 3 + 2, none⟩ = some (.slice (some ⟨bf, of, none⟩) fs.length fc) ∧ ∀ i, i < fs.length → ∃ (fnm : List UInt8) (ag : Int) (ta : Option Addr) (tl tc : Nat), fnm.length ≤ 1048576 ∧ Y.cell? ⟨bf, of + i * 3, none⟩ = some (.string ⟨fnm.toArray⟩) ∧ Y.cell? ⟨bf, of + i * 3 + 1, none⟩ = some (.int .i64 ag) ∧ Y.cell? ⟨bf, of + i * 3 + 2, none⟩ = some (.slice ta tl tc)) := fun Y hY => ⟨(hst Y (Agree.of_grown hY hB1l)).2.2.1, fun i hi => by
        obtain ⟨b', o', e, _, r0, r1, ta, tl, tc, r2, _⟩ := (hst Y (Agree.of_grown hY hB1l)).2.2.2.f.2 i hi
        simp only [Option.some.injEq, Addr.mk.injEq, and_true] at e
        obtain ⟨rfl, rfl⟩ := e
        exact ⟨_, _, _, _, _, (hpk.fs i).1, r0, r1, r2⟩⟩
      have c2 := (HF.out X HD5.out.g).1
      have c2a := fun o => (HF.out (X.alloc o) (HD5.out.alloc o).g).1
      have hfl9 := hpk.fl
      have hfz : (0 : Int) < (fs.length : Int) := by omega
      have hBX : B < X.heap.size := HD5.out.cur.lt
      clear hst hpk hfs hcb
      go_upto_region 11 with fail
      go_cut [14] from 48 to 62 (fun pv wx => ∃ (P : Nat) (fnm : List UInt8) (ag : Int) (u : Value), pv = .pointer (some ⟨P, 0, none⟩) ∧ fnm.length ≤ 1048576 ∧ Hid (Box3 wx P (.string ⟨fnm.toArray⟩) (.int .i64 ag) u ∧ Cur wx B a len cap ∧ w2.grownBy wx (some B) ∧ w2.heap.size ≤ P))
      case first =>
        go_region_with (go_at_call 39; refine (drawBelow _ B a len cap (fs.length : Int) (by omega) (by omega) (by first | exact HD5.out.drew.cur | exact (HD5.out.alloc _).drew.cur | exact HD5.out.cur)).mono ?_; rintro e w7 ⟨y, rfl, hy0, hy1, hc7, hg7⟩; obtain ⟨i, rfl⟩ : ∃ i : Nat, y = (i : Int) := Int.eq_ofNat_of_zero_le hy0; have hi : i < fs.length := (by omega); have hG7 : w2.grownBy w7 (some B) := (by first | exact HD5.out.drew.g.trans hg7 | exact (HD5.out.alloc _).drew.g.trans hg7); obtain ⟨fnm, ag, ta, tl, tc, hfnm, r0, r1, r2⟩ := (HF.out w7 hG7).2 i hi; have q2 := (HF.out w7 hG7).1; have q2a := (fun o => (HF.out (w7.alloc o) (hG7.trans (World.grownBy_alloc w7 o _))).1); have r0a := (fun o => cell_alw o r0); have r1a := (fun o => cell_alw o r1); have r2a := (fun o => cell_alw o r2); (first | (have H1 := box_up1 (V := X) hg7 hBX; obtain ⟨bx1, bf1⟩ := H1; have n0 := bx1.c0; have n1 := bx1.c1; have n2 := bx1.c2; have z0 := bf1 0; have z1 := bf1 1; have z2 := bf1 2) | skip))
        all_goals go_wp2_with fail
        all_goals go_meet
        all_goals (first | exact ⟨w7.heap.size, fnm, ag, .slice ta tl tc, rfl, hfnm, ⟨(Box3.new w7 _ _ _ _).1, hc7.kept (World.grownBy_alloc w7 _ none) (by simp), hG7.trans (World.grownBy_alloc w7 _ _), hG7.size⟩⟩ | exact ⟨X.heap.size, fnm, ag, .slice ta tl tc, rfl, hfnm, ⟨(box3_put bx1 _ _ _).1, hc7.kept (box3_put bx1 _ _ _).2 (fun k e => by injection e with e; omega), grown_past hG7 (box3_put bx1 _ _ _).2 HD5.out.g.size, HD5.out.g.size⟩⟩)
      case rest =>
      obtain ⟨P, fnm, ag, u, rfl, hfnm, HBX⟩ := hcut
      obtain ⟨hbx, hcx, hgx, hPl⟩ := HBX.out
      have p0 := hbx.c0
      have hd0 := D10.new0 hgx hcx hbl
      have hb0 := hbx.grown (World.grownBy_alloc wc (.cells #[] 2) none) (by simp)
      have hPw := hbx.lt
      obtain ⟨Y0, hY0⟩ : ∃ Y0, wc.alloc (.cells #[] 2) = Y0 := ⟨_, rfl⟩
      obtain ⟨L0, hL0⟩ : ∃ L0, wc.heap.size = L0 := ⟨_, rfl⟩
      rw [hL0] at hPw
      rw [hY0, hL0] at hd0
      rw [hY0] at hb0
      have HD0 : Hid (D10 Y0 w2 B a len cap L0 (.slice (some ⟨L0, 0, none⟩) 0 0) [] ∧ Box3 Y0 P (.string ⟨fnm.toArray⟩) (.int .i64 ag) u) := ⟨hd0, hb0⟩
      clear hbx hcx hgx hd0 hb0 HBX c2 c2a HF
      go_wp2_with fail
      go_loopw [12, 15] (fun uv iv wx => ∃ (g c : Nat) (xs : List Int), uv = .slice (some ⟨g, 0, none⟩) xs.length c ∧ iv = .int .i64 (xs.length : Int) ∧ xs.length ≤ 5 ∧ Hid (D10 wx w2 B a len cap L0 (.slice (some ⟨g, 0, none⟩) xs.length c) xs ∧ Box3 wx P (.string ⟨fnm.toArray⟩) (.int .i64 ag) u)) (fun _ iv _ => 5 - (intOf iv).toNat)
      case atStart => exact ⟨L0, 0, [], rfl, rfl, by simp, HD0⟩
      case round =>
        obtain ⟨g, c, xs, rfl, rfl, hxl, HD⟩ := hrel
        have p1 := HD.out.2.c1
        obtain ⟨m, hm⟩ : ∃ m, (if (5 : Int) < ag then (5 : Int) else ag) = m := ⟨_, rfl⟩
        have hm5 : m ≤ 5 := by rw [← hm]; split <;> omega
        go_wp2_with fail
        refine (specL1Min 5 ag _).mono ?_
        rintro e w' ⟨rfl, hw'⟩
        obtain rfl := hw'.symm
        rw [hm]
        by_cases hlt : (xs.length : Int) < m
        · go_wp2_with fail
          refine (drawWord _ B a len cap HD.out.1.cur).mono ?_
          rintro e w8 ⟨y, rfl, hy0, hy1, hc8, hg8⟩
          have hb8 := HD.out.2.grown hg8 (fun e => by injection e with e; omega)
          obtain ⟨g', c', Z, hrun, hdZ, hgZ⟩ := (HD.out.1.next hg8 hc8).push y ⟨by omega, by omega⟩ (by omega)
          have HDZ : Hid (D10 Z w2 B a len cap L0 (.slice (some ⟨g', 0, none⟩) (xs.length + 1) c') (xs ++ [y]) ∧ Box3 Z P (.string ⟨fnm.toArray⟩) (.int .i64 ag) u) := ⟨hdZ, hb8.grown hgZ (fun e => by have := (HD.out.1.row.lt P e.symm).1; omega)⟩
          clear hdZ hb8 hgZ hc8 hg8
          go_wp2_with (at_builtin; refine wpList_append_run rfl (.tmp 73) (.tmp 76) 38 rfl _ _ _ rfl rfl hrun ?_; clear hrun)
          go_roundw
          case rel => exact ⟨g', c', xs ++ [y], by rw [List.length_append]; rfl, by rw [List.length_append, List.length_singleton]; go_num, by rw [List.length_append, List.length_singleton]; omega, by rw [List.length_append]; exact HDZ⟩
          case measure => simp [intOf]; omega
        · have HDd : Hid (D10 wr w2 B a len cap L0 (.slice (some ⟨g, 0, none⟩) xs.length c) xs) := HD.out.1
          go_wp2_with fail
          go_meet
          case rel => exact ⟨fnm, g, c, xs, L0, rfl, rfl, hfnm, hxl, HDd⟩
  case rest =>
  obtain ⟨fn, g, c, xs, L6, rfl, rfl, hfn, hxl, HD⟩ := hcut
  clear HD5 HIN hcb
  go_wp2_with fail
  refine (drawOnce _ B a len cap 10 (by omega) (by omega) HD.out.cur).mono ?_
  rintro e w8 ⟨b8, rfl, hc8, hg8⟩
  have HD8 : Hid (D10 w8 w2 B a len cap L6 (.slice (some ⟨g, 0, none⟩) xs.length c) xs) := HD.out.next hg8 hc8
  clear hc8 hg8 HD
  go_upto_if 79 with fail
  go_cut [12] from 13 (fun uv wx => ∃ (g c : Nat) (xs : List Int), uv = .slice (some ⟨g, 0, none⟩) xs.length c ∧ xs.length ≤ 6 ∧ Hid (D10 wx w2 B a len cap L6 (.slice (some ⟨g, 0, none⟩) xs.length c) xs))
  case first =>
    rcases b8 with _ | _
    · go_wp2_with fail
      go_meet
      case rel => exact ⟨g, c, xs, rfl, by omega, HD8⟩
    · go_wp2_with fail
      refine (drawAny _ B a len cap HD8.out.cur).mono ?_
      rintro e w9 ⟨y, rfl, hy0, hy1, hc9, hg9⟩
      obtain ⟨g', c', Z, hrun, hdZ, _⟩ := (HD8.out.next hg9 hc9).push y ⟨hy0, hy1⟩ (by omega)
      have HDZ : Hid (D10 Z w2 B a len cap L6 (.slice (some ⟨g', 0, none⟩) (xs.length + 1) c') (xs ++ [y])) := hdZ
      clear hdZ hc9 hg9
      go_wp2_with (at_builtin; refine wpList_append_run rfl (.tmp 80) (.tmp 83) 38 rfl _ _ _ rfl rfl hrun ?_; clear hrun)
      go_meet
      case rel => exact ⟨g', c', xs ++ [y], by rw [List.length_append]; rfl, by rw [List.length_append, List.length_singleton]; omega, by rw [List.length_append]; exact HDZ⟩
  case rest =>
  obtain ⟨g9, c9, ys, rfl, hyl, HD9⟩ := hcut
  clear HD8
  go_wp2_with fail
  have hwcB : B < wc.heap.size := HD9.out.cur.lt
  go_region_with (go_at_call 39; refine (drawBelow _ B a len cap 10 (by omega) (by omega) (by first | exact HD9.out.drew.cur | exact (HD9.out.alloc _).drew.cur)).mono ?_; rintro e w9 ⟨y, rfl, hy0, hy1, hc9, hg9⟩; have hp : ∀ W : World, (W.alloc (.cells #[.int .i64 0, .int .i64 1, .int .i64 5, .int .i64 20, .int .i64 60, .int .i64 20000, .int .i64 20000, .int .i64 20000, .int .i64 20001, .int .i64 (-1)] 2)).cell? ⟨W.heap.size, y.toNat, none⟩ = some (.int .i64 (pick [0, 1, 5, 20, 60, 20000, 20000, 20000, 20001, -1] y)) := fun W => pick_cell [0, 1, 5, 20, 60, 20000, 20000, 20000, 20001, -1] y hy0 hy1 W 2; have HDn : Hid (D10 w9 w2 B a len cap L6 (.slice (some ⟨g9, 0, none⟩) ys.length c9) ys) := (by first | exact HD9.out.drew.next hg9 hc9 | exact (HD9.out.alloc _).drew.next hg9 hc9); (first | (have hcx := hg9.cell (a := ⟨wc.heap.size, y.toNat, none⟩) (hp wc) (by intro e; injection e with e; simp at e; omega)) | skip))
  all_goals go_wp2
  all_goals (refine bodyPost_ret (v := .tuple #[.slice (some ⟨b, off, none⟩) n lc, .string ⟨s.toArray⟩, .string ⟨fn.toArray⟩, .slice (some ⟨g9, 0, none⟩) ys.length c9, .int .i64 (pick [0, 1, 5, 20, 60, 20000, 20000, 20000, 20001, -1] y)]) (by simp [results, Tryz.results15, go_sem]) rfl ?_)
  all_goals (refine ⟨_, s, fn, _, ys, _, rfl, ?_⟩)
  all_goals (first | exact HDn.out.fin HOK.out hBe HB2.out hB1l hn4 hsl hfn hyl (fuel_bd y hy0 hy1) | exact (HDn.out.alloc _).fin HOK.out hBe HB2.out hB1l hn4 hsl hfn hyl (fuel_bd y hy0 hy1))

end Go.Proofs.YtkjojhkpoooimaaGreat
