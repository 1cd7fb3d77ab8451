/-
  Parts of one proof, one behind the other: Draw14R.
-/
import Derived.Test.YtnflkecnddbhoaaP23
import Derived.Test.YtnflkecnddbhoaaP6
import Derived.Test.YtnflkecnddbhoaaP19
import Derived.Test.YtnflkecnddbhoaaP18
import Derived.Test.YtnflkecnddbhoaaP3

/-! DrawRunImage. -/
namespace Go.Proofs.Ytnflkecnddbhoaa
open Go.RowKit

theorem box3_putI {Y : World} {N : Nat} {a b c : Value} (h : Box3 Y N a b c) (x y z : Value) : Box3 (((Y.setCell ⟨N, 0, none⟩ x).setCell ⟨N, 1, none⟩ y).setCell ⟨N, 2, none⟩ z) N x y z ∧ Y.grownBy (((Y.setCell ⟨N, 0, none⟩ x).setCell ⟨N, 1, none⟩ y).setCell ⟨N, 2, none⟩ z) (some N) := by
  refine ⟨⟨?_, ?_, ?_⟩, ((grown_set Y N 0 _).trans (grown_set _ N 1 _)).trans (grown_set _ N 2 _)⟩
  · exact (World.cell?_setCell_other _ _ _ _ (by simp)).trans ((World.cell?_setCell_other _ _ _ _ (by simp)).trans (World.cell?_setCell_same _ _ _ h.c0))
  · exact (World.cell?_setCell_other _ _ _ _ (by simp)).trans (World.cell?_setCell_same _ _ _ ((World.cell?_setCell_other _ _ _ _ (by simp)).trans h.c1))
  · exact World.cell?_setCell_same _ _ _ ((World.cell?_setCell_other _ _ _ _ (by simp)).trans ((World.cell?_setCell_other _ _ _ _ (by simp)).trans h.c2))
theorem grown_pastI {w2 Y Z : World} {B N : Nat} (h : w2.grownBy Y (some B)) (hg : Y.grownBy Z (some N)) (hN : w2.heap.size ≤ N) : w2.grownBy Z (some B) :=
  ⟨hg.os.trans h.os, hg.tape.trans h.tape, hg.output.trans h.output, Nat.le_trans h.size hg.size, fun k hk hne => (hg.block k (Nat.lt_of_lt_of_le hk h.size) (fun e => by injection e with e; omega)).trans (h.block k hk hne)⟩
theorem code_grownI {w w' : World} {a : Option Addr} {len : Nat} (h : Code w w.heap.size a len) (hg : w.grownBy w' none) : Code w' w'.heap.size a len := by
  intro j hj
  obtain ⟨b, off, x, e1, e2, e3, e0⟩ := h j hj
  exact ⟨b, off, x, e1, Nat.lt_of_lt_of_le e2 hg.size, (World.cell?_of_block (a := ⟨b, off + j, none⟩) (hg.block b e2 (by simp))).trans e3, e0⟩
theorem fuel14_bd (y : Int) (h0 : 0 ≤ y) (h1 : y < 8) : -1 ≤ pick [0, 3, 20, 100, 20000, 20000, 20001, -1] y ∧ pick [0, 3, 20, 100, 20000, 20000, 20001, -1] y ≤ 20001 := by
  rcases (show y = 0 ∨ y = 1 ∨ y = 2 ∨ y = 3 ∨ y = 4 ∨ y = 5 ∨ y = 6 ∨ y = 7 by omega) with rfl | rfl | rfl | rfl | rfl | rfl | rfl | rfl <;> exact ⟨by decide, by decide⟩
theorem fuel14_at (y : Int) (h0 : 0 ≤ y) (h1 : y < 8) (h : y.toNat < ([.int .i64 0, .int .i64 3, .int .i64 20, .int .i64 100, .int .i64 20000, .int .i64 20000, .int .i64 20001, .int .i64 (-1)] : List Value).length) : ([.int .i64 0, .int .i64 3, .int .i64 20, .int .i64 100, .int .i64 20000, .int .i64 20000, .int .i64 20001, .int .i64 (-1)] : List Value)[y.toNat]'h = .int .i64 (pick [0, 3, 20, 100, 20000, 20000, 20001, -1] y) := by
  rcases (show y = 0 ∨ y = 1 ∨ y = 2 ∨ y = 3 ∨ y = 4 ∨ y = 5 ∨ y = 6 ∨ y = 7 by omega) with rfl | rfl | rfl | rfl | rfl | rfl | rfl | rfl <;> rfl
/-- What DrawRunImage leaves. -/
def Dn14 (w w' : World) (a : Option Addr) (n c : Nat) (rs : List Rt) (nm : List UInt8) (u : Value) (xs : List Int) (fuel : Int) : Prop :=
  nm.length ≤ 100 ∧ (-1 ≤ fuel ∧ fuel ≤ 20001) ∧ (∃ g c, u = .slice (some ⟨g, 0, none⟩) xs.length c) ∧ w'.ownsRow w.heap.size 2 1 u xs.length (intsV xs) ∧ xs.length ≤ 4 ∧ (∀ x ∈ xs, -9223372036854775808 ≤ x ∧ x ≤ 9223372036854775807) ∧ ImA w' w.heap.size a n c rs ∧ Below w.heap.size w w'
theorem Agr.trans {X Y Z : World} {b : Nat} (h : Agr X Y b) (h2 : Agr Y Z b) : Agr X Z b := ⟨Nat.le_trans h.1 h2.1, fun k hk hkl => (h2.2 k hk (Nat.lt_of_lt_of_le hkl h.1)).trans (h.2 k hk hkl)⟩
theorem ImA.to {X Y : World} {b : Nat} {a : Option Addr} {n c : Nat} {rs : List Rt} (h : ImA X b a n c rs) (ha : Agr X Y b) : ImA Y b a n c rs := ⟨fun Z hZ => h.1 Z (ha.trans hZ), h.2.1, h.2.2⟩
theorem ImA.base {X : World} {b b2 : Nat} {a : Option Addr} {n c : Nat} {rs : List Rt} (h : ImA X b a n c rs) (hb : b2 ≤ b) : ImA X b2 a n c rs := ⟨fun Z hZ => h.1 Z ⟨hZ.1, fun k hk hkl => hZ.2 k (by omega) hkl⟩, h.2.1, h.2.2⟩
theorem Dn14.alloc {w X : World} {a : Option Addr} {n c : Nat} {rs : List Rt} {nm : List UInt8} {u : Value} {xs : List Int} {fuel : Int} (h : Dn14 w X a n c rs nm u xs fuel) (o : Obj) : Dn14 w (X.alloc o) a n c rs nm u xs fuel :=
  ⟨h.1, h.2.1, h.2.2.1, h.2.2.2.1.alloc o, h.2.2.2.2.1, h.2.2.2.2.2.1, h.2.2.2.2.2.2.1.to ((Agr.refl _ _).below ((Below.refl _ _).alloc (Nat.le_refl _) _)), h.2.2.2.2.2.2.2.alloc h.2.2.2.2.2.2.2.size _⟩
/-- The image drawn, beside the box of the answer (D) and its own (M). -/
structure Riw14 (w V : World) (B C D M : Nat) (a : Option Addr) (n c : Nat) (rs : List Rt) : Prop where
  im : ImA V C a n c rs
  d : V.heap[D]? = some (.cells #[.slice none 0 0] 26 (0, 0))
  m : V.heap[M]? = some (.cells #[.slice a n c] 26 (0, 0))
  bl : Below w.heap.size w V
  dw : w.heap.size = D
  db : D < B
  bc : B < C
  cm : C ≤ M
section
variable {w V Y : World} {B C D M : Nat} {a : Option Addr} {n c : Nat} {rs : List Rt}
theorem Riw14.cap (h : Riw14 w V B C D M a n c rs) (hg : V.grownBy Y (some B)) : RtsCap Y a n c rs := h.im.1 Y ((Agr.refl V C).grown hg h.bc)
theorem Riw14.m0 (h : Riw14 w V B C D M a n c rs) (hg : V.grownBy Y (some B)) : Y.cell? ⟨M, 0, none⟩ = some (.slice a n c) := by
  have h1 := h.bc
  have h2 := h.cm
  have hm := (hg.block M (lt_of_block h.m) (by intro e; injection e with e; omega)).trans h.m
  rw [cell_of_row _ _ _ _ _ _ hm]; rfl
theorem Riw14.d0 (h : Riw14 w V B C D M a n c rs) (hg : V.grownBy Y (some B)) : Y.cell? ⟨D, 0, none⟩ = some (.slice none 0 0) ∧ Y.frozen? ⟨D, 0, none⟩ = false := by
  have h1 := h.db
  have hm := (hg.block D (lt_of_block h.d) (by intro e; injection e with e; omega)).trans h.d
  exact ⟨by rw [cell_of_row _ _ _ _ _ _ hm]; rfl, frozen_of_row _ _ _ _ _ hm⟩
theorem Riw14.rt (h : Riw14 w V B C D M a n c rs) {i : Nat} (hi : i < n) : (rs.getD i rt0).1.length ≤ 100 := by
  have hl := (h.im.1 V (Agr.refl _ _)).1
  have hm : rs.getD i rt0 ∈ rs := by rw [List.getD_eq_getElem?_getD, List.getElem?_eq_getElem (by omega)]; exact List.getElem_mem (by omega)
  exact (h.im.2.1 _ hm).1
theorem Riw14.fin (h : Riw14 w V B C D M a n c rs) {ca : Option Addr} {len cap L : Nat} {u : Value} {xs : List Int} (hd : D10 Y V B ca len cap L u xs) (hx : xs.length ≤ 4) {nm : List UInt8} (hn : nm.length ≤ 100) {fuel : Int} (hf : -1 ≤ fuel ∧ fuel ≤ 20001) (v : Value) : Dn14 w (Y.setCell ⟨D, 0, none⟩ v) a n c rs nm u xs fuel := by
  have hgs := grown_set Y D 0 v
  have h1 := h.db
  have h2 := h.bc
  have h3 := h.dw
  have h4 := hd.ll
  have h5 := hd.bl
  refine ⟨hn, hf, hd.so, own_base (hd.row.kept hgs (own_offR hd.row (by omega))) (by omega), hx, hd.wf, ?_, ?_⟩
  · refine (h.im.to ⟨Nat.le_trans hd.g.size hgs.size, fun k hk hkl => ?_⟩).base (by omega)
    exact (hgs.block k (Nat.lt_of_lt_of_le hkl hd.g.size) (by intro e; injection e with e; omega)).trans (hd.g.block k hkl (by intro e; injection e with e; omega))
  · exact (h.bl.grown hd.g h.bl.size (fun k e => by injection e with e; omega)).grown hgs (Nat.le_trans h.bl.size hd.g.size) (fun k e => by injection e with e; omega)
end

set_option maxHeartbeats 16000000 in
set_option maxRecDepth 100000 in
theorem drawRunImage (w : World) (a : Option Addr) (len cap : Nat) (hl : len ≤ 4096) (hc : Code w w.heap.size a len) :
    Calls Try.prog 6 #[.slice a len cap] w fun e w' => ∃ la n lc rs nm u xs fuel, e = .returned (.tuple #[.agg #[.slice la n lc], .string ⟨(nm : List UInt8).toArray⟩, u, .int .i64 fuel]) ∧ Dn14 w w' la n lc rs nm u xs fuel := by
  have hA0 := heap_alloc_new w (.cells #[.slice none 0 0] 26)
  have hg0 := World.grownBy_alloc w (.cells #[.slice none 0 0] 26) none
  have hB0 : Below w.heap.size w (w.alloc (.cells #[.slice none 0 0] 26)) := (Below.refl _ _).alloc (Nat.le_refl _) _
  obtain ⟨W, hW⟩ : ∃ W, w.alloc (.cells #[.slice none 0 0] 26) = W := ⟨_, rfl⟩
  have hsW : W.heap.size = w.heap.size + 1 := by rw [← hW]; simp
  rw [hW] at hA0 hg0 hB0
  have HC : Hid (_) := drawNew W a len cap hl (code_grownI hc hg0)
  obtain ⟨D, hD⟩ : ∃ D, w.heap.size = D := ⟨_, rfl⟩
  rw [hD] at hA0
  have HA0 : Hid (W.heap[D]? = some (.cells #[.slice none 0 0] 26 (0, 0)) ∧ Below w.heap.size w W) := ⟨hA0, hB0⟩
  clear hA0 hB0 hg0 hc
  go_enter Try.func6, Try.ntmps6
  go_wp2_with fail
  refine Calls.mono HC.out ?_
  rintro e w1 ⟨rfl, hc1, hg1⟩
  obtain ⟨B, hBe⟩ : ∃ B, W.heap.size = B := ⟨_, rfl⟩
  rw [hBe] at hc1 ⊢
  have HB1 : Hid (w1.heap[D]? = some (.cells #[.slice none 0 0] 26 (0, 0)) ∧ Below w.heap.size w w1) := ⟨(hg1.block D (lt_of_block HA0.out.1) (by simp)).trans HA0.out.1, HA0.out.2.grown hg1 HA0.out.2.size (by simp)⟩
  have hbl1 := hc1.lt
  have HC1 : Hid (_) := drawAny14 w1 B a len cap hc1
  clear hg1 HA0 HC hc1
  go_wp2_with fail
  refine Calls.mono HC1.out ?_
  rintro e w2 ⟨la, n, lc, rs, rfl, him, hc2, hg2⟩
  have hAA := heap_alloc_new w2 (.cells #[.slice la n lc] 26)
  have hbA : Below w2.heap.size w2 (w2.alloc (.cells #[.slice la n lc] 26)) := (Below.refl _ _).alloc (Nat.le_refl _) _
  obtain ⟨V, hV⟩ : ∃ V, w2.alloc (.cells #[.slice la n lc] 26) = V := ⟨_, rfl⟩
  rw [hV] at hAA hbA
  obtain ⟨M, hM⟩ : ∃ M, w2.heap.size = M := ⟨_, rfl⟩
  rw [hM] at hAA
  have HR : Hid (Riw14 w V B w1.heap.size D M la n lc rs) := by
    have hz := hg2.size
    refine ⟨him.to ((Agr.refl w2 _).below hbA), ?_, hAA, ?_, hD, by omega, hbl1, by omega⟩
    · exact (hbA.block D (by omega)).trans ((hg2.block D (by omega) (by intro e; injection e with e; omega)).trans HB1.out.1)
    · exact (HB1.out.2.grown hg2 HB1.out.2.size (fun k e => by injection e with e; omega)).trans (hbA.mono (Nat.le_trans HB1.out.2.size hz))
  have hcV := hc2.below hbA
  have hbV := hcV.lt
  have hn12 := him.2.2
  have HCV : Hid (_) := drawAny V B a len cap hcV
  have hgV : V.grownBy V (some B) := below_grown (Below.refl _ _) _
  clear him hc2 hg2 hAA hbA HC1 HB1 hcV
  go_wp2_with fail
  refine Calls.mono HCV.out ?_
  rintro e w5 ⟨x, rfl, hx0, hx1, hc5, hg5⟩
  have hd5 := D10.new (hgV.trans hg5) hc5 hbV x ⟨by omega, by omega⟩
  obtain ⟨X, hX⟩ : ∃ X, w5.alloc (.cells #[.int .i64 x] 2) = X := ⟨_, rfl⟩
  obtain ⟨L, hL⟩ : ∃ L, w5.heap.size = L := ⟨_, rfl⟩
  rw [hX, hL] at hd5
  have HD5 : Hid (D10 X V B a len cap L (.slice (some ⟨L, 0, none⟩) 1 1) [x]) := hd5
  have m5 := HR.out.m0 hd5.g
  clear hd5 hc5 hg5 HCV hgV
  go_upto_region 6 with fail
  go_cut [28] from 23 to 27 (fun cv wx => ∃ cb : Bool, cv = .bool cb ∧ (cb = true → 0 < n) ∧ Hid (D10 wx V B a len cap L (.slice (some ⟨L, 0, none⟩) 1 1) [x]))
  case first =>
    by_cases hn0 : 0 < (n : Int)
    · go_wp2_with fail
      refine (drawOnce _ B a len cap 2 (by omega) (by omega) HD5.out.cur).mono ?_
      rintro e w6 ⟨bb, rfl, hc6, hg6⟩
      have HD6 : Hid (D10 w6 V B a len cap L (.slice (some ⟨L, 0, none⟩) 1 1) [x]) := HD5.out.next hg6 hc6
      go_wp2_with fail
      go_meet
      case rel => exact ⟨bb, rfl, fun _ => by omega, HD6⟩
    · go_wp2_with fail
      go_meet
      case rel => exact ⟨false, rfl, (fun h => by cases h), HD5⟩
  case rest =>
  obtain ⟨cb, rfl, hcb, HD6⟩ := hcut
  clear HD5
  go_upto_if 28 with fail
  go_cut [8, 9] from 10 (fun fv uv wx => ∃ (fn : List UInt8) (g c : Nat) (xs : List Int) (L : Nat), fv = .string ⟨fn.toArray⟩ ∧ uv = .slice (some ⟨g, 0, none⟩) xs.length c ∧ fn.length ≤ 100 ∧ xs.length ≤ 4 ∧ Hid (D10 wx V B a len cap L (.slice (some ⟨g, 0, none⟩) xs.length c) xs))
  case first =>
    rcases cb with _ | _
    · go_wp2_with fail
      go_meet
      case rel => exact ⟨[109, 97, 105, 110, 46, 109, 97, 105, 110], L, 1, [x], L, rfl, rfl, by simp, by simp, HD6⟩
    · have hn0 := hcb rfl
      have hnz : (0 : Int) < (n : Int) := by omega
      obtain ⟨b, off, rfl, -⟩ := (HR.out.cap HD6.out.g).2.2.2 0 hn0
      have HF : Hid (∀ Y, V.grownBy Y (some B) → Y.cell? ⟨M, 0, none⟩ = some (.slice (some ⟨b, off, none⟩) n lc) ∧ ∀ i, i < n → ∃ (fnm : List UInt8) (ag : Int) (ta : Option Addr) (tl tc : Nat), fnm.length ≤ 100 ∧ Y.cell? ⟨b, off + i * 3, none⟩ = some (.string ⟨fnm.toArray⟩) ∧ Y.cell? ⟨b, off + i * 3 + 1, none⟩ = some (.int .i64 ag) ∧ Y.cell? ⟨b, off + i * 3 + 2, none⟩ = some (.slice ta tl tc)) := fun Y hY => ⟨HR.out.m0 hY, fun i hi => by
        obtain ⟨b', o', e, _, r0, r1, ta, tl, tc, r2, _⟩ := (HR.out.cap hY).2.2.2 i hi
        simp only [Option.some.injEq, Addr.mk.injEq, and_true] at e
        obtain ⟨rfl, rfl⟩ := e
        exact ⟨_, _, ta, tl, tc, HR.out.rt hi, r0, r1, r2⟩⟩
      have c2 := (HF.out wc HD6.out.g).1
      have c2a := fun o => (HF.out (wc.alloc o) (HD6.out.alloc o).g).1
      have hBX : B < wc.heap.size := HD6.out.cur.lt
      clear hcb m5
      go_upto_region 7 with fail
      go_cut [11] from 29 to 35 (fun pv wx => ∃ (P : Nat) (fnm : List UInt8) (ag : Int) (u : Value), pv = .pointer (some ⟨P, 0, none⟩) ∧ fnm.length ≤ 100 ∧ Hid (Box3 wx P (.string ⟨fnm.toArray⟩) (.int .i64 ag) u ∧ Cur wx B a len cap ∧ V.grownBy wx (some B) ∧ V.heap.size ≤ P))
      case first =>
        go_region_with (go_at_call 19; refine (drawBelow _ B a len cap (n : Int) (by omega) (by omega) (by first | exact HD6.out.drew.cur | exact (HD6.out.alloc _).drew.cur | exact HD6.out.cur)).mono ?_; rintro e w7 ⟨y, rfl, hy0, hy1, hc7, hg7⟩; obtain ⟨i, rfl⟩ : ∃ i : Nat, y = (i : Int) := Int.eq_ofNat_of_zero_le hy0; have hi : i < n := (by omega); have hG7 : V.grownBy w7 (some B) := (by first | exact HD6.out.drew.g.trans hg7 | exact (HD6.out.alloc _).drew.g.trans hg7); obtain ⟨fnm, ag, ta, tl, tc, hfnm, r0, r1, r2⟩ := (HF.out w7 hG7).2 i hi; have q2 := (HF.out w7 hG7).1; have q2a := (fun o => (HF.out (w7.alloc o) (hG7.trans (World.grownBy_alloc w7 o _))).1); have r0a := (fun o => cell_alw o r0); have r1a := (fun o => cell_alw o r1); have r2a := (fun o => cell_alw o r2); (first | (have H1 := box_up1 (V := wc) hg7 hBX; obtain ⟨bx1, bf1⟩ := H1; have n0 := bx1.c0; have n1 := bx1.c1; have n2 := bx1.c2; have z0 := bf1 0; have z1 := bf1 1; have z2 := bf1 2) | skip))
        all_goals go_wp2_with fail
        all_goals go_meet
        all_goals (first | exact ⟨w7.heap.size, fnm, ag, .slice ta tl tc, rfl, hfnm, ⟨(Box3.new w7 _ _ _ _).1, hc7.kept (World.grownBy_alloc w7 _ none) (by simp), hG7.trans (World.grownBy_alloc w7 _ _), hG7.size⟩⟩ | exact ⟨wc.heap.size, fnm, ag, .slice ta tl tc, rfl, hfnm, ⟨(box3_putI bx1 _ _ _).1, hc7.kept (box3_putI bx1 _ _ _).2 (fun k e => by injection e with e; omega), grown_pastI hG7 (box3_putI bx1 _ _ _).2 HD6.out.g.size, HD6.out.g.size⟩⟩)
      case rest =>
      obtain ⟨P, fnm, ag, u, rfl, hfnm, HBX⟩ := hcut
      obtain ⟨hbx, hcx, hgx, hPl⟩ := HBX.out
      have p0 := hbx.c0
      have hd0 := D10.new0 hgx hcx hbV
      have hb0 := hbx.grown (World.grownBy_alloc wc (.cells #[] 2) none) (by simp)
      have hPw := hbx.lt
      obtain ⟨Y0, hY0⟩ : ∃ Y0, wc.alloc (.cells #[] 2) = Y0 := ⟨_, rfl⟩
      obtain ⟨L0, hL0⟩ : ∃ L0, wc.heap.size = L0 := ⟨_, rfl⟩
      rw [hL0] at hPw
      rw [hY0, hL0] at hd0
      rw [hY0] at hb0
      have HD0 : Hid (D10 Y0 V B a len cap L0 (.slice (some ⟨L0, 0, none⟩) 0 0) [] ∧ Box3 Y0 P (.string ⟨fnm.toArray⟩) (.int .i64 ag) u) := ⟨hd0, hb0⟩
      clear hbx hcx hgx hd0 hb0 HBX c2 c2a HF
      go_wp2_with fail
      go_loopw [9, 12] (fun uv iv wx => ∃ (g c : Nat) (xs : List Int), uv = .slice (some ⟨g, 0, none⟩) xs.length c ∧ iv = .int .i64 (xs.length : Int) ∧ xs.length ≤ 4 ∧ Hid (D10 wx V B a len cap L0 (.slice (some ⟨g, 0, none⟩) xs.length c) xs ∧ Box3 wx P (.string ⟨fnm.toArray⟩) (.int .i64 ag) u)) (fun _ iv _ => 5 - (intOf iv).toNat)
      case atStart => exact ⟨L0, 0, [], rfl, rfl, by simp, HD0⟩
      case round =>
        obtain ⟨g, c, xs, rfl, rfl, hxl, HD⟩ := hrel
        have p1 := HD.out.2.c1
        obtain ⟨m, hm⟩ : ∃ m, (if (4 : Int) < ag then (4 : Int) else ag) = m := ⟨_, rfl⟩
        have hm5 : m ≤ 4 := by rw [← hm]; split <;> omega
        go_wp2_with fail
        refine (specL1Min 4 ag _).mono ?_
        rintro e w' ⟨rfl, hw'⟩
        obtain rfl := hw'.symm
        rw [hm]
        by_cases hlt : (xs.length : Int) < m
        · go_wp2_with fail
          refine (drawWord _ B a len cap HD.out.1.cur).mono ?_
          rintro e w8 ⟨y, rfl, hy0, hy1, hc8, hg8⟩
          have hb8 := HD.out.2.grown hg8 (fun e => by injection e with e; omega)
          obtain ⟨g', c', Z, hrun, hdZ, hgZ⟩ := (HD.out.1.next hg8 hc8).push y ⟨by omega, by omega⟩ (by omega)
          have HDZ : Hid (D10 Z V B a len cap L0 (.slice (some ⟨g', 0, none⟩) (xs.length + 1) c') (xs ++ [y]) ∧ Box3 Z P (.string ⟨fnm.toArray⟩) (.int .i64 ag) u) := ⟨hdZ, hb8.grown hgZ (fun e => by have := (HD.out.1.row.lt P e.symm).1; omega)⟩
          clear hdZ hb8 hgZ hc8 hg8
          go_wp2_with (at_builtin; refine wpList_append_run rfl (.tmp 46) (.tmp 49) 27 rfl _ _ _ rfl rfl hrun ?_; clear hrun)
          go_roundw
          case rel => exact ⟨g', c', xs ++ [y], by rw [List.length_append]; rfl, by rw [List.length_append, List.length_singleton]; go_num, by rw [List.length_append, List.length_singleton]; omega, by rw [List.length_append]; exact HDZ⟩
          case measure => simp [intOf]; omega
        · have HDd : Hid (D10 wr V B a len cap L0 (.slice (some ⟨g, 0, none⟩) xs.length c) xs) := HD.out.1
          go_wp2_with fail
          go_meet
          case rel => exact ⟨fnm, g, c, xs, L0, rfl, rfl, hfnm, hxl, HDd⟩
  case rest =>
  obtain ⟨fn, g, c, xs, L6, rfl, rfl, hfn, hxl, HD⟩ := hcut
  clear HD6 hcb m5
  have hwcB : B < wc.heap.size := HD.out.cur.lt
  have mw := HR.out.m0 HD.out.g
  have mwd := HR.out.m0 HD.out.drew.g
  have mwa := fun o => HR.out.m0 (HD.out.alloc o).g
  go_wp2_with fail
  go_region_with (go_at_call 19; refine (drawBelow _ B a len cap 8 (by omega) (by omega) (by first | exact HD.out.drew.cur | exact (HD.out.alloc _).drew.cur)).mono ?_; rintro e w9 ⟨y, rfl, hy0, hy1, hc9, hg9⟩; have hp : ∀ W : World, (W.alloc (.cells #[.int .i64 0, .int .i64 3, .int .i64 20, .int .i64 100, .int .i64 20000, .int .i64 20000, .int .i64 20001, .int .i64 (-1)] 2)).cell? ⟨W.heap.size, y.toNat, none⟩ = some (.int .i64 (pick [0, 3, 20, 100, 20000, 20000, 20001, -1] y)) := fun W => pick_cell [0, 3, 20, 100, 20000, 20000, 20001, -1] y hy0 hy1 W 2; have HDn : Hid (D10 w9 V B a len cap L6 (.slice (some ⟨g, 0, none⟩) xs.length c) xs) := (by first | exact HD.out.drew.next hg9 hc9 | exact (HD.out.alloc _).drew.next hg9 hc9); have m9 := HR.out.m0 HDn.out.g; have m9a := (fun o => HR.out.m0 (HDn.out.alloc o).g); have d9 := (HR.out.d0 HDn.out.g).1; have d9f := (HR.out.d0 HDn.out.g).2; have d9a := (fun o => (HR.out.d0 (HDn.out.alloc o).g).1); have d9b := (fun o => (HR.out.d0 (HDn.out.alloc o).g).2); (first | (have hcx := hg9.cell (a := ⟨wc.heap.size, y.toNat, none⟩) (hp wc) (by intro e; injection e with e; simp at e; omega)) | (have hq9 := hp w9; have hz9 := hp w9; rw [World.cell?_alloc_mark] at hz9)); have hDlt : D < w9.heap.size := (by have e1 := HDn.out.cur.lt; have e2 := HR.out.db; omega); have hDne : ¬ D = w9.heap.size := (by omega); have hDne2 : ¬ w9.heap.size = D := (by omega); have hMlt : M < w9.heap.size := (by have e1 := lt_of_block HR.out.m; have e2 := HDn.out.g.size; omega); have hMne : ¬ M = w9.heap.size := (by omega); have hMne2 : ¬ w9.heap.size = M := (by omega); clear hp m9a d9a d9b)
  all_goals go_wp2
  all_goals (first
    | (have z0 := World.cell?_setCell_same w9 ⟨D, 0, none⟩ (.slice la n lc) d9; refine bodyPost_ret (v := .tuple #[.agg #[.slice la n lc], .string ⟨fn.toArray⟩, .slice (some ⟨g, 0, none⟩) xs.length c, .int .i64 (pick [0, 3, 20, 100, 20000, 20000, 20001, -1] y)]) (by simp [results, Try.results6, go_sem, z0]) rfl ?_; exact ⟨la, n, lc, rs, fn, _, xs, _, rfl, HR.out.fin HDn.out hxl hfn (fuel14_bd y hy0 hy1) _⟩)
    | (refine bodyPost_ret (v := .tuple #[.agg #[.slice la n lc], .string ⟨fn.toArray⟩, .slice (some ⟨g, 0, none⟩) xs.length c, .int .i64 (pick [0, 3, 20, 100, 20000, 20000, 20001, -1] y)]) (by simp [results, Try.results6, go_sem]) rfl ?_; exact ⟨la, n, lc, rs, fn, _, xs, _, rfl, HR.out.fin (HDn.out.alloc _) hxl hfn (fuel14_bd y hy0 hy1) _⟩)
    | (have z0 := cell_alw (.cells #[.int .i64 0, .int .i64 3, .int .i64 20, .int .i64 100, .int .i64 20000, .int .i64 20000, .int .i64 20001, .int .i64 (-1)] 2) (World.cell?_setCell_same w9 ⟨D, 0, none⟩ (.slice la n lc) d9); have hidx := fuel14_at y hy0 hy1; refine bodyPost_ret (v := .tuple #[.agg #[.slice la n lc], .string ⟨fn.toArray⟩, .slice (some ⟨g, 0, none⟩) xs.length c, .int .i64 (pick [0, 3, 20, 100, 20000, 20000, 20001, -1] y)]) (by simp [results, Try.results6, go_sem, z0, hidx]) rfl ?_; exact ⟨la, n, lc, rs, fn, _, xs, _, rfl, (HR.out.fin HDn.out hxl hfn (fuel14_bd y hy0 hy1) _).alloc _⟩))

end Go.Proofs.Ytnflkecnddbhoaa
