/-
  Parts of one proof, one behind the other: Draw7E, Draw7F, PackL, EqT, FnE, NodeK.
-/
import Derived.Test.YtibppdepgoiojaaGreatDoorP15
import Derived.Deep.RegionWith
import Derived.Deep.RegionLaw
import Derived.Deep.Cut
import Derived.Deep.CutRange
import Derived.Lib.SmallJoins
import Derived.Test.YtibppdepgoiojaaGreatDoorP7
import Derived.Test.YtibppdepgoiojaaGreatDoorP11
import Derived.Test.YtibppdepgoiojaaGreatDoorP12
import Derived.Test.YtibppdepgoiojaaGreatDoorP13
import Derived.Test.YtibppdepgoiojaaGreatDoorP4
import Derived.Test.YtibppdepgoiojaaGreatDoorP6

/-! A package is drawn, mostly a good one: l7DrawAny. -/
namespace Go.Proofs.YtibppdepgoiojaaGreatDoor
open Go.RowKit

/-- What is drawn: small, and the call's own. -/
def Pk7 (m : Nat) (wx w : World) (B : Nat) (a : Option Addr) (len cap R P : Nat) : Prop :=
  ∃ (nm : List UInt8) (ia : Option Addr) (ic : Nat) (ims : List (List UInt8)) (fa : Option Addr) (fc : Nat) (xs : List FV), nm.length ≤ 9 ∧ (ims.length ≤ m ∧ ∀ t ∈ ims, t.length ≤ 9) ∧ (1 ≤ xs.length ∧ xs.length ≤ m) ∧ SmallXs xs ∧ PkS wx w B a len cap R P nm ia ic ims fa fc xs
def Any7 (w wx : World) (B : Nat) (a : Option Addr) (len cap : Nat) (v : Value) : Prop :=
  ∃ (nm : List UInt8) (ia : Option Addr) (ic : Nat) (ims : List (List UInt8)) (fa : Option Addr) (fc : Nat) (xs : List FV), v = .agg #[.string ⟨nm.toArray⟩, .slice ia ims.length ic, .slice fa xs.length fc] ∧ nm.length ≤ 9 ∧ (ims.length ≤ 4 ∧ ∀ t ∈ ims, t.length ≤ 9) ∧ (1 ≤ xs.length ∧ xs.length ≤ 4) ∧ SmallXs xs ∧
    wx.ownsRow w.heap.size 9 1 (.slice ia ims.length ic) ims.length (strV ims) ∧ FnsOwn wx w.heap.size (.slice fa xs.length fc) xs ∧ Cur wx B a len cap ∧ w.grownBy wx (some B)

theorem Pk7.next {m : Nat} {X Y w : World} {B : Nat} {a : Option Addr} {len cap R P : Nat} (h : Pk7 m X w B a len cap R P) (hg : X.grownBy Y (some B)) (hc : Cur Y B a len cap) : Pk7 m Y w B a len cap R P := by
  obtain ⟨nm, ia, ic, ims, fa, fc, xs, h1, h2, h3, h4, hs⟩ := h
  exact ⟨nm, ia, ic, ims, fa, fc, xs, h1, h2, h3, h4, hs.next hg hc⟩
theorem ims_add {ims : List (List UInt8)} {x : List UInt8} (h : ∀ t ∈ ims, t.length ≤ 9) (hx : x.length ≤ 9) : ∀ t ∈ ims ++ [x], t.length ≤ 9 := fun t ht => (List.mem_append.1 ht).elim (h t) (fun e => by rw [List.mem_singleton] at e; rw [e]; exact hx)
theorem xs_add {xs : List FV} {x : FV} (h : SmallXs xs) (hx : SmallFn x.1) : SmallXs (xs ++ [x]) := fun t ht => (List.mem_append.1 ht).elim (h t) (fun e => by rw [List.mem_singleton] at e; rw [e]; exact hx)
theorem xs_set {xs : List FV} {x : FV} (h : SmallXs xs) (hx : SmallFn x.1) : SmallXs (xs.set 0 x) := fun t ht => (List.mem_or_eq_of_mem_set ht).elim (h t) (fun e => by rw [e]; exact hx)
theorem Pk7.four {X w : World} {B : Nat} {a : Option Addr} {len cap R P : Nat} (h : Pk7 3 X w B a len cap R P) : Pk7 4 X w B a len cap R P := by
  obtain ⟨nm, ia, ic, ims, fa, fc, xs, h1, h2, h3, h4, hs⟩ := h
  exact ⟨nm, ia, ic, ims, fa, fc, xs, h1, ⟨by omega, h2.2⟩, by omega, h4, hs⟩
theorem xs_mem {xs : List FV} (hl : 1 ≤ xs.length) : xs.getD 0 fv0 ∈ xs := by rw [List.getD_eq_getElem?_getD, List.getElem?_eq_getElem (by omega : 0 < xs.length)]; exact List.getElem_mem _

set_option maxHeartbeats 1000000 in
set_option maxRecDepth 100000 in
theorem drawFrom7 (w : World) (B : Nat) (a : Option Addr) (len cap : Nat) (lo hi : Int) (h0 : -1000000 ≤ lo) (h1 : lo ≤ hi) (h2 : hi ≤ 1000000) (h : Cur w B a len cap) :
    Calls Tryz.prog 56 #[.pointer (some ⟨B, 0, none⟩), .int .i64 lo, .int .i64 hi] w fun e w' => ∃ x : Int, e = .returned (.int .i64 x) ∧ lo ≤ x ∧ x ≤ hi ∧ Cur w' B a len cap ∧ w.grownBy w' (some B) := by
  go_enter Tryz.func56, Tryz.ntmps56
  go_wp2_with fail
  refine (drawBelow _ B a len cap (hi - lo + 1) (by omega) (by omega) h).mono ?_
  rintro e w1 ⟨x, rfl, hx0, hx1, hc, hg⟩
  go_wp2
  go_ret
  exact ⟨_, rfl, by omega, by omega, hc, hg⟩

def imsA (k : Nat) : List (List UInt8) := [[97], [98]].take k
theorem imsA_len {k : Nat} (hk : k ≤ 2) : (imsA k).length = k := by unfold imsA; simp; omega
theorem imsA_small (k : Nat) : ∀ t ∈ imsA k, t.length ≤ 9 := by
  intro t ht
  have h := List.mem_of_mem_take ht
  simp only [List.mem_cons, List.not_mem_nil, or_false] at h
  rcases h with rfl | rfl <;> decide
theorem imsA_in {w : World} {g k : Nat} (hk : k ≤ 2) (hg : g < w.heap.size) (h0 : w.cell? ⟨g, 0, none⟩ = some (.string ⟨#[97]⟩)) (h1 : w.cell? ⟨g, 1, none⟩ = some (.string ⟨#[98]⟩)) : TextsIn w (some ⟨g, 0, none⟩) k (imsA k) := by
  refine ⟨imsA_len hk, fun j hj => ⟨g, 0, rfl, hg, ?_⟩⟩
  rcases (show (k = 1 ∧ j = 0) ∨ (k = 2 ∧ j = 0) ∨ (k = 2 ∧ j = 1) by omega) with ⟨rfl, rfl⟩ | ⟨rfl, rfl⟩ | ⟨rfl, rfl⟩
  · exact h0
  · exact h0
  · exact h1

set_option maxHeartbeats 8000000 in
set_option maxRecDepth 100000 in
theorem drawAny7 (w : World) (B : Nat) (a : Option Addr) (len cap : Nat) (hc : Cur w B a len cap) :
    Calls Tryz.prog 25 #[.pointer (some ⟨B, 0, none⟩)] w fun e w' => ∃ v, e = .returned v ∧ Any7 w w' B a len cap v := by
  have hBw := hc.lt
  obtain ⟨W1, hW1⟩ : ∃ W, w.alloc (.cells #[.string ⟨#[]⟩, .slice none 0 0, .slice none 0 0] 27) = W := ⟨_, rfl⟩
  have bR := box_new (V := w) (a := .string ⟨#[]⟩) (b := .slice none 0 0) (c := .slice none 0 0) (t := 27)
  have hg1 := World.grownBy_alloc w (.cells #[.string ⟨#[]⟩, .slice none 0 0, .slice none 0 0] 27) none
  have hS1 : Hid (W1.heap.size = w.heap.size + 1) := by exact (by rw [← hW1]; simp : W1.heap.size = w.heap.size + 1)
  rw [hW1] at bR hg1
  have hcW : Cur (W1.alloc (.cells #[.string ⟨#[97]⟩, .string ⟨#[98]⟩] 9)) B a len cap := (hc.kept hg1 (by simp)).kept (World.grownBy_alloc W1 _ none) (by simp)
  have bR2 := box_alw (.cells #[.string ⟨#[97]⟩, .string ⟨#[98]⟩] 9) bR
  have HL : Hid (((W1.alloc (.cells #[.string ⟨#[97]⟩, .string ⟨#[98]⟩] 9)).cell? ⟨W1.heap.size, 0, none⟩ = some (.string ⟨#[97]⟩)) ∧ (W1.alloc (.cells #[.string ⟨#[97]⟩, .string ⟨#[98]⟩] 9)).cell? ⟨W1.heap.size, 1, none⟩ = some (.string ⟨#[98]⟩)) := ⟨(World.ownsRow_lit (base := W1.heap.size) (e := 9) (size := 1) W1 #[.string ⟨#[97]⟩, .string ⟨#[98]⟩] 2 (Nat.le_refl _) (by decide) rfl).cells rfl 0 _ rfl, (World.ownsRow_lit (base := W1.heap.size) (e := 9) (size := 1) W1 #[.string ⟨#[97]⟩, .string ⟨#[98]⟩] 2 (Nat.le_refl _) (by decide) rfl).cells rfl 1 _ rfl⟩
  have HG2 : Hid (w.grownBy (W1.alloc (.cells #[.string ⟨#[97]⟩, .string ⟨#[98]⟩] 9)) none) := hg1.trans (World.grownBy_alloc W1 _ none)
  have HB2 : Hid (_) := bR2
  clear hg1 bR bR2 hc
  go_enter Tryz.func25, Tryz.ntmps25
  go_wp2_with fail
  refine (drawBelow _ B a len cap 3 (by omega) (by omega) hcW).mono ?_
  rintro e w3 ⟨x, rfl, hx0, hx1, hc3, hg3⟩
  obtain ⟨T, rfl⟩ : ∃ T : Nat, x = (T : Int) := Int.eq_ofNat_of_zero_le hx0
  have hT2 : (T : Int) ≤ 2 := by omega
  clear hcW hx0 hx1
  have hs1 := hS1.out
  have hw3 : w.grownBy w3 (some B) := by
    have h2 := HG2.out
    exact ⟨hg3.os.trans h2.os, hg3.tape.trans h2.tape, hg3.output.trans h2.output, Nat.le_trans h2.size hg3.size, fun q hq hn => (hg3.block q (Nat.lt_of_lt_of_le hq h2.size) hn).trans (h2.block q hq (by simp))⟩
  have hlit := lit1 w w3 ((8, 1, [97], [102]) : Nd) hw3.size
  have hin4 : NodesIn (w3.alloc (.cells #[.int .i64 8, .int .i64 1, .string ⟨#[97]⟩, .string ⟨#[102]⟩] 76)) (some ⟨w3.heap.size, 0, none⟩) 1 [((8, 1, [97], [102]) : Nd)] := by
    obtain ⟨_, ca, cc, e, h⟩ := own_nodes hlit
    injection e with e1 e2 e3
    subst e1
    exact h
  have hc4 : Cur (w3.alloc (.cells #[.int .i64 8, .int .i64 1, .string ⟨#[97]⟩, .string ⟨#[102]⟩] 76)) B a len cap := hc3.kept (World.grownBy_alloc w3 _ none) (by simp)
  have HD : Hid (_) := drawPk _ B a len cap [108, 105, 98] (some ⟨W1.heap.size, 0, none⟩) T 2 (some ⟨w3.heap.size, 0, none⟩) 1 1 [((8, 1, [97], [102]) : Nd)] hc4 (by decide) hin4 (by simp) (by omega) (by intro n hn; rw [List.mem_singleton] at hn; subst hn; exact (dr_node (by omega) (by omega) (by decide) (by decide)).1) (by intro n hn; rw [List.mem_singleton] at hn; subst hn; decide)
  have b3 := box_on HB2.out hg3 (by omega)
  have hl2 := HL.out
  have l0 := hg3.cell hl2.1 (by simp; omega)
  have l1 := hg3.cell hl2.2 (by simp; omega)
  have hlL : W1.heap.size < w3.heap.size := World.block_lt_of_cell? _ ⟨W1.heap.size, 0, none⟩ l0
  have hg34 := World.grownBy_alloc w3 (.cells #[.int .i64 8, .int .i64 1, .string ⟨#[97]⟩, .string ⟨#[102]⟩] 76) (some B)
  have b4 := box_alw (.cells #[.int .i64 8, .int .i64 1, .string ⟨#[97]⟩, .string ⟨#[102]⟩] 76) b3
  have hw4 := hw3.trans hg34
  have H34 : Hid (_) := hg34
  have HB4 : Hid (_) := b4
  have HW4 : Hid (_) := hw4
  have HL3 : Hid (_) := And.intro l0 l1
  have HS1 : Hid (_) := hs1
  clear hl2 l0 l1 b3 b4 hlit hin4 hc4 hc3 hg3 hw3 hw4 hg34 hs1 hS1 HB2 HL HG2
  go_wp2_with fail
  refine Calls.mono HD.out ?_
  rintro e w5 ⟨fa, fc, xs, rfl, fo5, hxl, hxd, hc5, hg5⟩
  have hxs := hxd.small
  clear hxd
  clear HD
  have hlt4 := HB4.out.1.lt
  have hs1 := HS1.out
  have hL5 : w5.cell? ⟨W1.heap.size, 0, none⟩ = some (.string ⟨#[97]⟩) ∧ w5.cell? ⟨W1.heap.size, 1, none⟩ = some (.string ⟨#[98]⟩) := ⟨hg5.cell (H34.out.cell HL3.out.1 (by simp; omega)) (by simp; omega), hg5.cell (H34.out.cell HL3.out.2 (by simp; omega)) (by simp; omega)⟩
  have hsz5 : w3.heap.size < w5.heap.size := by have h := hg5.size; rw [World.size_alloc] at h; omega
  have hsz : w.heap.size + 1 ≤ w5.heap.size := by have := hg5.size; omega
  have hpP := World.ownsRow_lit (base := w.heap.size + 1) (e := 27) (size := 3) w5 #[.string ⟨#[108, 105, 98]⟩, .slice (some ⟨W1.heap.size, 0, none⟩) T 2, .slice fa xs.length fc] 1 hsz (by decide) rfl
  obtain ⟨W6, hW6⟩ : ∃ W, w5.alloc (.cells #[.string ⟨#[108, 105, 98]⟩, .slice (some ⟨W1.heap.size, 0, none⟩) T 2, .slice fa xs.length fc] 27) = W := ⟨_, rfl⟩
  have hb56 : Below w5.heap.size w5 W6 := by rw [← hW6]; exact (Below.refl _ _).alloc (Nat.le_refl _) _
  rw [hW6] at hpP
  have b6 := (box_on HB4.out hg5 (by omega)).1.below hb56
  have hin6 := imsA_in (w := W6) (g := W1.heap.size) (k := T) (by omega) (by have := hb56.size; omega) ((World.cell?_of_block (a := ⟨W1.heap.size, 0, none⟩) (hb56.block _ (by show W1.heap.size < _; omega))).trans hL5.1) ((World.cell?_of_block (a := ⟨W1.heap.size, 1, none⟩) (hb56.block _ (by show W1.heap.size < _; omega))).trans hL5.2)
  have HTX : Hid (_) := specTexts (some ⟨W1.heap.size, 0, none⟩) T 2 (imsA T) W6 hin6 (by simp) (by omega)
  have c1 : W6.cell? ⟨w5.heap.size, 1, none⟩ = some (.slice (some ⟨W1.heap.size, 0, none⟩) T 2) := hpP.cells rfl 1 _ rfl
  have HP : Hid (W6.ownsRow (w.heap.size + 1) 27 3 (.slice (some ⟨w5.heap.size, 0, none⟩) 1 1) 1 [.string ⟨#[108, 105, 98]⟩, .slice (some ⟨W1.heap.size, 0, none⟩) T 2, .slice fa xs.length fc]) := hpP
  have HB6 : Hid (_) := b6
  have HF6 : Hid (∀ j, W6.frozen? ⟨w.heap.size, j, none⟩ = false) := fun j => (hb56.frozen (p := ⟨w.heap.size, j, none⟩) (by show w.heap.size < _; omega)).trans ((box_on HB4.out hg5 (by omega)).2 j)
  have HO6 : Hid (_) := (fo5.base (by omega : w.heap.size + 1 ≤ _)).below hb56
  have HC6 : Hid (_) := hc5.below hb56
  have HG6 : Hid (_) := (HW4.out.trans hg5).andThen (Below.by hb56) (by simp)
  obtain ⟨P, hP⟩ : ∃ P, w5.heap.size = P := ⟨_, rfl⟩
  rw [hP] at HP c1 hsz
  have hf1 : W6.frozen? ⟨P, 1, none⟩ = false := World.ownsRow.frozenAt HP.out 1
  have HTX2 := HTX
  clear hpP b6 hin6 hL5 hs1 hg5 hc5 fo5 hb56 HW4 HB4 H34 HL3 hlt4 hsz5 hlL HTX
  go_wp2_with fail
  refine Calls.mono HTX2.out ?_
  rintro e w7 ⟨v7, rfl, ho7, hb7⟩
  clear HTX2
  have hpl := (World.ownsRow.lt HP.out P rfl).2
  have d1 : w7.cell? ⟨P, 1, none⟩ = some (.slice (some ⟨W1.heap.size, 0, none⟩) T 2) := (World.cell?_of_block (a := ⟨P, 1, none⟩) (hb7.block _ hpl)).trans c1
  have hd1 : w7.frozen? ⟨P, 1, none⟩ = false := (hb7.frozen (p := ⟨P, 1, none⟩) hpl).trans hf1
  obtain ⟨ia, ic, rfl⟩ := own_shape7 ho7
  have hs := pk_start (nm := [108, 105, 98]) (own_below HP.out hb7) ⟨HB6.out.below hb7, fun j => (hb7.frozen (p := ⟨w.heap.size, j, none⟩) (by show w.heap.size < _; omega)).trans (HF6.out j)⟩ (own_base ho7 (by omega)) (HO6.out.below hb7) (HC6.out.below hb7) (HG6.out.andThen (Below.by hb7) (by simp)) hBw rfl
  obtain ⟨W8, hW8⟩ : ∃ W, w7.setCell ⟨P, 1, none⟩ (.slice ia (imsA T).length ic) = W := ⟨_, rfl⟩
  rw [hW8] at hs
  have HK : Hid (Pk7 3 W8 w B a len cap w.heap.size P) := ⟨[108, 105, 98], ia, ic, imsA T, fa, fc, xs, by decide, ⟨by rw [imsA_len (by omega)]; omega, imsA_small T⟩, ⟨hxl.1, by omega⟩, hxs, hs⟩
  have HC8 : Hid (_) := hs.cur
  clear hs ho7 HP HB6 HF6 HO6 HC6 HG6 c1 hf1 hb7 hxs
  clear hsz hpl hxl hW6 hP
  go_wp2_with fail
  refine (drawOnce _ B a len cap 8 (by omega) (by omega) HC8.out).mono ?_
  rintro e w9 ⟨b, rfl, hc9, hg9⟩
  have HK9 : Hid (Pk7 3 w9 w B a len cap w.heap.size P) := HK.out.next hg9 hc9
  clear HK HC8 hg9 hc9 hW8 d1 hd1 hW1 HS1
  go_upto_if 17 with fail
  go_cut [] from 4 (fun wx => Hid (Pk7 4 wx w B a len cap w.heap.size P))
  case rest =>
    obtain ⟨nm, ia, ic, ims, fa, fc, xs, hnm, him, hxl, hxs, hs⟩ := hcut.out
    have p0 := hs.cells.1.c0
    have p1 := hs.cells.1.c1
    have p2 := hs.cells.1.c2
    have r0 := hs.r.c0
    have r1 := hs.r.c1
    have r2 := hs.r.c2
    have f0 := hs.rf 0
    have f1 := hs.rf 1
    have f2 := hs.rf 2
    have HS : Hid (PkS wc w B a len cap w.heap.size P nm ia ic ims fa fc xs) := hs
    clear hs hcut HK9
    go_wp2
    obtain ⟨Y, hY, y0, y1, y2, hg⟩ := set3 (.string ⟨nm.toArray⟩) (.slice ia ims.length ic) (.slice fa xs.length fc) r0 r1 r2
    rw [hY]
    refine bodyPost_ret (v := .agg #[.string ⟨nm.toArray⟩, .slice ia ims.length ic, .slice fa xs.length fc]) (by simp [results, Tryz.results25, go_sem, y0, y1, y2]) rfl ?_
    have hst := HS.out
    have hgw := hst.g
    have hlt : ∀ k, some w.heap.size = some k → k < w.heap.size + 1 := fun k e => by injection e with e; omega
    exact ⟨_, rfl, nm, ia, ic, ims, fa, fc, xs, rfl, hnm, him, hxl, hxs, own_base (own_grown hst.im hg hlt) (by omega), (hst.fo.grown hg hlt).base (by omega), hst.cur.kept hg (fun k e => by injection e with e; omega),
      ⟨hg.os.trans hgw.os, hg.tape.trans hgw.tape, hg.output.trans hgw.output, Nat.le_trans hgw.size hg.size, fun q hq hn => (hg.block q (Nat.lt_of_lt_of_le hq hgw.size) (fun e => by injection e with e; omega)).trans (hgw.block q hq hn)⟩⟩
  case first =>
    rcases b with _ | _
    · go_wp2_with fail
      go_meet
      case rel => exact HK9.out.four
    · obtain ⟨nm, ia, ic, ims, fa, fc, xs, hnm, him, hxl, hxs, hs⟩ := HK9.out
      clear HK9
      go_wp2_with fail
      refine (drawBelow _ B a len cap 5 (by omega) (by omega) hs.cur).mono ?_
      rintro e w10 ⟨k, rfl, hk0, hk1, hc10, hg10⟩
      have hs10 := hs.next hg10 hc10
      clear hs hc10 hg10
      have hB10 := hs10.cur.lt
      rcases (show k = 0 ∨ k = 1 ∨ k = 2 ∨ k = 3 ∨ k = 4 by omega) with rfl | rfl | rfl | rfl | rfl
      · go_wp2_with fail
        refine (drawBelow _ B a len cap 3 (by omega) (by omega) (hs10.alloc _).cur).mono ?_
        rintro e w11 ⟨x, rfl, hx0, hx1, hc11, hg11⟩
        have hs11 := (hs10.alloc _).next hg11 hc11
        obtain ⟨T, rfl⟩ : ∃ T : Nat, x = (T : Int) := Int.eq_ofNat_of_zero_le hx0
        have bL := box_on box_new hg11 (by omega)
        obtain ⟨fn, hfn, hget⟩ := str3_at [] [65] [97, 98, 99, 100, 101, 102, 103, 104, 105] T (by omega) (by decide) (by decide) (by decide)
        have nL := box3_at bL.1 (by omega) hget
        have p0 := hs11.cells.1.c0
        have g0 := hs11.cells.2 0
        have HS : Hid (PkS _ w B a len cap w.heap.size P fn ia ic ims fa fc xs) := hs11.name fn
        clear hs10 hs11 bL hg11 hc11 hget
        go_wp2_with fail
        go_meet
        case rel => exact ⟨fn, ia, ic, ims, fa, fc, xs, hfn, ⟨by omega, him.2⟩, by omega, hxs, HS.out⟩
      · have HS10 : Hid (PkS w10 w B a len cap w.heap.size P nm ia ic ims fa fc xs) := hs10
        have p1 := hs10.cells.1.c1
        have p1a : ∀ o, (w10.alloc o).cell? ⟨P, 1, none⟩ = some (.slice ia ims.length ic) := fun o => (hs10.alloc o).cells.1.c1
        clear hs10
        go_wp2_with fail
        go_region_law (first | (refine step_append_run (by rfl) (.tmp 31) (.tmp 37) 24 (by rfl) _ _ _ (by rfl) (by rfl) hrun ?_) | (go_simp; go_at_call 30; refine (drawBelow _ B a len cap 3 (by omega) (by omega) (by first | exact (HS10.out.alloc _).drew.cur | exact HS10.out.drew.cur)).mono ?_; rintro e w11 ⟨x, rfl, hx0, hx1, hc11, hg11⟩; obtain ⟨T, rfl⟩ : ∃ T : Nat, x = (T : Int) := Int.eq_ofNat_of_zero_le hx0; have hT3 : T < 3 := (by omega); obtain ⟨fn, hfn, hget⟩ := str3_at [97] [122, 122] [] T hT3 (by decide) (by decide) (by decide); (first | (have bL := (box_up1 (V := w10) hg11 hB10).1; have nL := box3_at bL hT3 hget; have hs11 := (HS10.out.alloc _).drew.next hg11 hc11; have q1 := hs11.cells.1.c1; have q2 : ∀ o, (w11.alloc o).cell? ⟨P, 1, none⟩ = some (.slice ia ims.length ic) := (fun o => (hs11.alloc o).cells.1.c1); obtain ⟨g', c', Y, hrun, hbY, hsY⟩ := hs11.import fn (by omega); have y1 := hbY.1.c1; have z1 := hbY.2 1; have HSY : Hid (PkS _ w B a len cap w.heap.size P nm (some ⟨g', 0, none⟩) c' (ims ++ [fn]) fa fc xs) := hsY; clear hsY hbY hs11 bL hg11 hc11) | (have hs11 := HS10.out.drew.next hg11 hc11; have q1 := hs11.cells.1.c1; have q2 : ∀ o, (w11.alloc o).cell? ⟨P, 1, none⟩ = some (.slice ia ims.length ic) := (fun o => (hs11.alloc o).cells.1.c1); have q3 : ∀ o o', ((w11.alloc o).alloc o').cell? ⟨P, 1, none⟩ = some (.slice ia ims.length ic) := (fun o o' => ((hs11.alloc o).alloc o').cells.1.c1); obtain ⟨g', c', Y, hrun, hbY, hsY⟩ := (hs11.alloc (.cells #[.string ⟨#[97]⟩, .string ⟨#[122, 122]⟩, .string ⟨#[]⟩] 9)).import fn (by omega); rw [World.size_alloc] at hrun; have y1 := hbY.1.c1; have z1 := hbY.2 1; have HSY : Hid (PkS _ w B a len cap w.heap.size P nm (some ⟨g', 0, none⟩) c' (ims ++ [fn]) fa fc xs) := hsY; clear hsY hbY hs11 hg11 hc11)); dsimp only))
        all_goals (go_wp2_with fail; go_meet; case rel => exact ⟨nm, _, _, ims ++ [fn], fa, fc, xs, hnm, ⟨by simp; omega, ims_add him.2 hfn⟩, by omega, hxs, HSY.out⟩)
      · obtain ⟨gF, cF, hF⟩ := own_some hs10.fo.row (by omega)
        injection hF with e1 e2 e3
        subst e1
        clear e2 e3
        have p2 := hs10.cells.1.c2
        have hz := hxs _ (xs_mem hxl.1)
        have hl0 : (0 : Int) < (xs.length : Int) := by omega
        go_wp2_with fail
        go_region_with (go_at_call 56; refine (drawFrom7 _ B a len cap (-1) 6 (by omega) (by omega) (by omega) hs10.drew.cur).mono ?_; rintro e w11 ⟨x, rfl, hx0, hx1, hc11, hg11⟩; have hs11 := hs10.drew.next hg11 hc11; have q2 := hs11.cells.1.c2; have s1 : w11.cell? ⟨gF, 1, none⟩ = some (.int .i64 (xs.getD 0 fv0).1.2.1) := World.ownsRow.cells hs11.fo.row rfl 1 _ (fnsV_at xs 0 (by omega)).2.1; have z1 : w11.frozen? ⟨gF, 1, none⟩ = false := World.ownsRow.frozenAt hs11.fo.row 1)
        all_goals (go_wp2_with fail; go_meet; case rel => exact ⟨nm, ia, ic, ims, some ⟨gF, 0, none⟩, fc, xs.set 0 (((xs.getD 0 fv0).1.1, x, (xs.getD 0 fv0).1.2.2), (xs.getD 0 fv0).2), hnm, ⟨by omega, him.2⟩, ⟨by simp; omega, by simp; omega⟩, xs_set hxs ⟨hz.1, ⟨by show -10 ≤ x; omega, by show x ≤ 10; omega⟩, hz.2.2⟩, hs11.args (by omega) x⟩)
      · obtain ⟨gF, cF, hF⟩ := own_some hs10.fo.row (by omega)
        injection hF with e1 e2 e3
        subst e1
        clear e2 e3
        have hz := hxs _ (xs_mem hxl.1)
        have ht := hs10.fo.trees _ (xs_mem hxl.1)
        have s0 : w10.cell? ⟨gF, 0, none⟩ = some (.string ⟨(xs.getD 0 fv0).1.1.toArray⟩) := World.ownsRow.cells hs10.fo.row rfl 0 _ (fnsV_at xs 0 (by omega)).1
        have s1 : w10.cell? ⟨gF, 1, none⟩ = some (.int .i64 (xs.getD 0 fv0).1.2.1) := World.ownsRow.cells hs10.fo.row rfl 1 _ (fnsV_at xs 0 (by omega)).2.1
        have s2 : w10.cell? ⟨gF, 2, none⟩ = some (fvT (xs.getD 0 fv0)) := World.ownsRow.cells hs10.fo.row rfl 2 _ (fnsV_at xs 0 (by omega)).2.2
        obtain ⟨z, hzz⟩ : ∃ z, xs.getD 0 fv0 = z := ⟨_, rfl⟩
        rw [hzz] at hz ht s0 s1 s2
        obtain ⟨⟨n0, y0, t0⟩, ta, tc⟩ := z
        have p2 := hs10.cells.1.c2
        have p2a : ∀ o, (w10.alloc o).cell? ⟨P, 2, none⟩ = some (.slice (some ⟨gF, 0, none⟩) xs.length fc) := fun o => (hs10.alloc o).cells.1.c2
        have hl1 : 0 < xs.length := by omega
        have hl0 : (0 : Int) < (xs.length : Int) := by omega
        obtain ⟨g', c', Y, hrun, hbY, hsY⟩ := hs10.drew.func ((n0, y0, t0), ta, tc) (by exact ht.drew) (by omega)
        change (Builtin.append_ #[25, 25] 25 #[.slice (some ⟨gF, 0, none⟩) xs.length fc, .slice (some ⟨w10.heap.size, 0, none⟩) 1 1]).run Tryz.prog (w10.alloc (.cells #[.string ⟨n0.toArray⟩, .int .i64 y0, .slice ta t0.length tc] 37)).drew = _ at hrun
        change w10.cell? ⟨gF, 2, none⟩ = some (.slice ta t0.length tc) at s2
        change w10.cell? ⟨gF, 1, none⟩ = some (.int .i64 y0) at s1
        change w10.cell? ⟨gF, 0, none⟩ = some (.string ⟨n0.toArray⟩) at s0
        have y2 := hbY.1.c2
        have z2 := hbY.2 2
        have HSY : Hid (PkS _ w B a len cap w.heap.size P nm ia ic ims (some ⟨g', 0, none⟩) c' (xs ++ [((n0, y0, t0), ta, tc)])) := hsY
        clear hsY hbY hs10 ht hzz
        go_wp2_with fail
        go_region_law (first | (refine step_append_run (by rfl) (.tmp 51) (.tmp 56) 25 (by rfl) _ _ _ (by rfl) (by rfl) hrun ?_))
        all_goals (go_wp2_with fail; go_meet; case rel => exact ⟨nm, ia, ic, ims, some ⟨g', 0, none⟩, c', _, hnm, ⟨by omega, him.2⟩, ⟨by simp, by simp; omega⟩, xs_add hxs hz, HSY.out⟩)
      · obtain ⟨gF, cF, hF⟩ := own_some hs10.fo.row (by omega)
        injection hF with e1 e2 e3
        subst e1
        clear e2 e3
        have p2 := hs10.cells.1.c2
        have hz := hxs _ (xs_mem hxl.1)
        have hl0 : (0 : Int) < (xs.length : Int) := by omega
        have hrp := hs10.rp
        go_wp2_with fail
        go_region_with (go_at_call 57; refine (drawAny6 _ B a len cap hs10.drew.cur).mono ?_; rintro e w11 ⟨v, rfl, t, ho, htl, hts, _, hc11, hg11⟩; have hs11 := hs10.drew.next hg11 hc11; obtain ⟨ta, tc, rfl⟩ := own_shape7 ho; have q2 := hs11.cells.1.c2; have s2 : w11.cell? ⟨gF, 2, none⟩ = some (fvT (xs.getD 0 fv0)) := World.ownsRow.cells hs11.fo.row rfl 2 _ (fnsV_at xs 0 (by omega)).2.2; have z2 : w11.frozen? ⟨gF, 2, none⟩ = false := World.ownsRow.frozenAt hs11.fo.row 2)
        all_goals (go_wp2_with fail; go_meet; case rel => exact ⟨nm, ia, ic, ims, some ⟨gF, 0, none⟩, fc, xs.set 0 (((xs.getD 0 fv0).1.1, (xs.getD 0 fv0).1.2.1, t), ta, tc), hnm, ⟨by omega, him.2⟩, ⟨by simp; omega, by simp; omega⟩, xs_set hxs ⟨hz.1, hz.2.1, by show t.length ≤ 100; omega, hts⟩, hs11.tree (by omega) ta tc t (own_base ho (by show w.heap.size + 1 ≤ w10.heap.size; omega))⟩)

end Go.Proofs.YtibppdepgoiojaaGreatDoor

/-! The contracts of DrawPackageOk, DrawShowPackage, DrawReadPackage, DrawFuncOf. -/
namespace Go.Proofs.YtibppdepgoiojaaGreatDoor
open Go.RowKit

/-- A drawn package, as a law has it. -/
def Drawn7 (w wx : World) (v : Value) (nm : List UInt8) (ims : List (List UInt8)) (xs : List FV) : Prop :=
  ∃ ia ic fa fc, v = .agg #[.string ⟨nm.toArray⟩, .slice ia ims.length ic, .slice fa xs.length fc] ∧ nm.length ≤ 9 ∧ (ims.length ≤ 4 ∧ ∀ t ∈ ims, t.length ≤ 9) ∧ (1 ≤ xs.length ∧ xs.length ≤ 4) ∧ SmallXs xs ∧
    wx.ownsRow w.heap.size 9 1 (.slice ia ims.length ic) ims.length (strV ims) ∧ FnsOwn wx w.heap.size (.slice fa xs.length fc) xs

theorem code_grown {w w' : World} {a : Option Addr} {len : Nat} (h : Code w w.heap.size a len) (hg : w.grownBy w' none) : Code w' w'.heap.size a len := by
  intro j hj
  obtain ⟨b, off, x, e1, e2, e3, e0⟩ := h j hj
  exact ⟨b, off, x, e1, Nat.lt_of_lt_of_le e2 hg.size, (World.cell?_of_block (a := ⟨b, off + j, none⟩) (hg.block b e2 (by simp))).trans e3, e0⟩
theorem box_none {V Y : World} {k : Nat} {a b c : Value} (h : Box3 V k a b c ∧ ∀ j, V.frozen? ⟨k, j, none⟩ = false) (hg : V.grownBy Y none) : Box3 Y k a b c ∧ ∀ j, Y.frozen? ⟨k, j, none⟩ = false :=
  ⟨h.1.grown hg (by simp), fun j => (World.frozen?_of_block (a := ⟨k, j, none⟩) (hg.block k h.1.lt (by simp))).trans (h.2 j)⟩
theorem showPk_small (p : Pk) : (showPk p).length ≤ 20000 := by
  unfold showPk
  split
  · rename_i h; exact showP_len h
  · simp
theorem ims_short {ims : List (List UInt8)} (h : ∀ t ∈ ims, t.length ≤ 9) (i : Nat) : (ims.getD i []).length ≤ 1048576 := by
  rw [List.getD_eq_getElem?_getD]
  cases hj : ims[i]? with
  | none => simp
  | some t => exact Nat.le_trans (h t (List.mem_of_getElem? hj)) (by omega)
theorem xs_fn {xs : List FV} (h : SmallXs xs) (j : Nat) : SmallFn ((xs.map (·.1)).getD j fn0) := by
  rw [List.getD_eq_getElem?_getD, List.getElem?_map]
  cases hj : xs[j]? with
  | none => exact ⟨by decide, ⟨by decide, by decide⟩, by decide, fun n hn => by cases hn⟩
  | some t => exact h t (List.mem_of_getElem? hj)
theorem xs_short {xs : List FV} (h : SmallXs xs) : ShortF (xs.map (·.1)) := fun j =>
  have hs := xs_fn h j
  ⟨Nat.le_trans hs.1 (by omega), Nat.le_trans hs.2.2.1 (by omega), hs.2.2.2.short⟩

set_option maxHeartbeats 2000000 in
set_option maxRecDepth 100000 in
theorem drawPackageOkD (w : World) (a : Option Addr) (len cap : Nat) (hl : len ≤ 4096) (hc : Code w w.heap.size a len) :
    Calls Tryz.prog 18 #[.slice a len cap] w fun e w' => ∃ v nm ims xs, e = .returned v ∧ Drawn7 w w' v nm ims xs ∧ Below w.heap.size w w' := by
  obtain ⟨W1, hW1⟩ : ∃ W, w.alloc (.cells #[.string ⟨#[]⟩, .slice none 0 0, .slice none 0 0] 27) = W := ⟨_, rfl⟩
  have bR := box_new (V := w) (a := .string ⟨#[]⟩) (b := .slice none 0 0) (c := .slice none 0 0) (t := 27)
  have hg0 := World.grownBy_alloc w (.cells #[.string ⟨#[]⟩, .slice none 0 0, .slice none 0 0] 27) none
  have HS1 : Hid (W1.heap.size = w.heap.size + 1) := by exact (by rw [← hW1]; simp : W1.heap.size = w.heap.size + 1)
  rw [hW1] at bR hg0
  have hcode := code_grown hc hg0
  have hB0 : Below w.heap.size w W1 := (Below.refl _ _).grown hg0 (Nat.le_refl _) (by simp)
  have HR0 : Hid (_) := bR
  clear hg0 bR
  go_enter Tryz.func18, Tryz.ntmps18
  go_wp2_with fail
  refine (drawNew _ a len cap hl hcode).mono ?_
  rintro e w1 ⟨rfl, hc1, hg1⟩
  have hB1 := hB0.grown hg1 hB0.size (fun k e => by cases e)
  have HR1 : Hid (_) := box_none HR0.out hg1
  clear hcode hg1 HR0 hB0
  go_wp2_with fail
  refine (drawAny7 _ W1.heap.size a len cap hc1).mono ?_
  rintro e w2 ⟨v, rfl, nm, ia, ic, ims, fa, fc, xs, rfl, h1, h2, h3, h4, ho, hf, hc2, hg2⟩
  have hs1 := HS1.out
  have b2 := box_on HR1.out hg2 (by omega)
  have hB2 := hB1.grown hg2 hB1.size (fun k e => by injection e with e; omega)
  have hlt := HR1.out.1.lt
  clear hs1 HR1 hc1 hc2 hg2
  have r0 := b2.1.c0
  have r1 := b2.1.c1
  have r2 := b2.1.c2
  have f0 := b2.2 0
  have f1 := b2.2 1
  have f2 := b2.2 2
  have HO : Hid (w2.ownsRow w1.heap.size 9 1 (.slice ia ims.length ic) ims.length (strV ims)) := ho
  have HF : Hid (FnsOwn w2 w1.heap.size (.slice fa xs.length fc) xs) := hf
  clear ho hf b2
  go_wp2
  obtain ⟨Y, hY, y0, y1, y2, hg⟩ := set3 (.string ⟨nm.toArray⟩) (.slice ia ims.length ic) (.slice fa xs.length fc) r0 r1 r2
  rw [hY]
  refine bodyPost_ret (v := .agg #[.string ⟨nm.toArray⟩, .slice ia ims.length ic, .slice fa xs.length fc]) (by simp [results, Tryz.results18, go_sem, y0, y1, y2]) rfl ?_
  have hr : ∀ k, some w.heap.size = some k → k < w1.heap.size := fun k e => by injection e with e; omega
  exact ⟨_, nm, ims, xs, rfl, ⟨ia, ic, fa, fc, rfl, h1, h2, h3, h4, own_base (own_grown HO.out hg hr) (by omega), (HF.out.grown hg hr).base (by omega)⟩, hB2.grown hg hB2.size (fun k e => by injection e with e; omega)⟩

set_option maxHeartbeats 2000000 in
set_option maxRecDepth 100000 in
theorem drawShowPackage (w : World) (a : Option Addr) (len cap : Nat) (hl : len ≤ 4096) (hc : Code w w.heap.size a len) :
    Calls Tryz.prog 5 #[.slice a len cap] w fun e w' => ∃ v nm ims xs, e = .returned v ∧ Drawn7 w w' v nm ims xs ∧ Below w.heap.size w w' := by
  obtain ⟨W1, hW1⟩ : ∃ W, w.alloc (.cells #[.string ⟨#[]⟩, .slice none 0 0, .slice none 0 0] 27) = W := ⟨_, rfl⟩
  have bR := box_new (V := w) (a := .string ⟨#[]⟩) (b := .slice none 0 0) (c := .slice none 0 0) (t := 27)
  have hg0 := World.grownBy_alloc w (.cells #[.string ⟨#[]⟩, .slice none 0 0, .slice none 0 0] 27) none
  rw [hW1] at bR hg0
  have hcode := code_grown hc hg0
  have hB0 : Below w.heap.size w W1 := (Below.refl _ _).grown hg0 (Nat.le_refl _) (by simp)
  have HR0 : Hid (_) := bR
  clear hg0 bR
  go_enter Tryz.func5, Tryz.ntmps5
  go_wp2_with fail
  refine (drawPackageOkD _ a len cap hl hcode).mono ?_
  rintro e w2 ⟨v, nm, ims, xs, rfl, ⟨ia, ic, fa, fc, rfl, h1, h2, h3, h4, ho, hf⟩, hb2⟩
  have b2 := box_none HR0.out (Below.by hb2)
  have hlt := HR0.out.1.lt
  have hB2 : Below w.heap.size w w2 := hB0.trans (hb2.mono hB0.size)
  clear hb2 HR0 hcode
  have r0 := b2.1.c0
  have r1 := b2.1.c1
  have r2 := b2.1.c2
  have f0 := b2.2 0
  have f1 := b2.2 1
  have f2 := b2.2 2
  have HO : Hid (w2.ownsRow W1.heap.size 9 1 (.slice ia ims.length ic) ims.length (strV ims)) := ho
  have HF : Hid (FnsOwn w2 W1.heap.size (.slice fa xs.length fc) xs) := hf
  clear ho hf b2
  go_wp2
  obtain ⟨Y, hY, y0, y1, y2, hg⟩ := set3 (.string ⟨nm.toArray⟩) (.slice ia ims.length ic) (.slice fa xs.length fc) r0 r1 r2
  rw [hY]
  refine bodyPost_ret (v := .agg #[.string ⟨nm.toArray⟩, .slice ia ims.length ic, .slice fa xs.length fc]) (by simp [results, Tryz.results5, go_sem, y0, y1, y2]) rfl ?_
  have hr : ∀ k, some w.heap.size = some k → k < W1.heap.size := fun k e => by injection e with e; omega
  exact ⟨_, nm, ims, xs, rfl, ⟨ia, ic, fa, fc, rfl, h1, h2, h3, h4, own_base (own_grown HO.out hg hr) (by omega), (HF.out.grown hg hr).base (by omega)⟩, hB2.grown hg hB2.size (fun k e => by injection e with e; omega)⟩

set_option maxHeartbeats 2000000 in
set_option maxRecDepth 100000 in
theorem drawReadPackage (w : World) (a : Option Addr) (len cap : Nat) (hl : len ≤ 4096) (hc : Code w w.heap.size a len) :
    Calls Tryz.prog 7 #[.slice a len cap] w fun e w' => ∃ t : List UInt8, e = .returned (.string ⟨t.toArray⟩) ∧ t.length ≤ 20002 ∧ Below w.heap.size w w' := by
  go_enter Tryz.func7, Tryz.ntmps7
  go_wp2_with fail
  refine (drawNew _ a len cap hl hc).mono ?_
  rintro e w1 ⟨rfl, hc1, hg1⟩
  have hb1 : Below w.heap.size w w1 := (Below.refl _ _).grown hg1 (Nat.le_refl _) (by simp)
  clear hg1
  go_wp2_with fail
  refine (drawAny7 _ _ a len cap hc1).mono ?_
  rintro e w2 ⟨v, rfl, nm, ia, ic, ims, fa, fc, xs, rfl, h1, h2, h3, h4, ho, hf, hc2, hg2⟩
  have hb2 : Below w.heap.size w w2 := hb1.grown hg2 hb1.size (by simp)
  obtain ⟨ai, ci, af, cf, e1, e2, _, _, hti, hfi⟩ := own_pk ho hf rfl
  have hT : Hid (_) := specShowPackage nm ai ims.length ci af (xs.map (·.1)).length cf ims (xs.map (·.1)) w2 hti hfi (by omega) (by simp; omega) (by omega) (ims_short h2.2) (xs_short h4)
  rw [← e1, ← e2] at hT
  clear hc1 hg2 hb1 ho hf hti hfi e1 e2
  go_wp2_with fail
  refine Calls.mono hT.out ?_
  rintro e w3 ⟨rfl, hb3⟩
  have hlen := showPk_small (nm, ims, xs.map (·.1))
  have hc3 := hc2.below hb3
  have hb4 : Below w.heap.size w w3 := hb2.trans (hb3.mono hb2.size)
  clear hT hb3 hb2 hc2
  generalize showPk (nm, ims, xs.map (·.1)) = s at hlen ⊢
  go_wp2_with fail
  refine (drawOnce _ _ a len cap 2 (by omega) (by omega) hc3).mono ?_
  rintro e w4 ⟨o, rfl, hc4, hg4⟩
  have hb5 : Below w.heap.size w w4 := hb4.grown hg4 hb4.size (by simp)
  clear hc3 hg4 hb4
  rcases o with _ | _
  · go_wp2
    go_ret
    exact ⟨s, rfl, by omega, hb5⟩
  · go_wp2_with fail
    refine (drawBend _ _ a len cap s [10, 32, 97, 43, 36, 48, 64, 102] hc4 (by omega) (by simp) (by simp)).mono ?_
    rintro e w5 ⟨l, rfl, hl5, hc5, hg5⟩
    go_wp2
    go_ret
    exact ⟨l, rfl, by omega, hb5.grown hg5 hb5.size (by simp)⟩

end Go.Proofs.YtibppdepgoiojaaGreatDoor

/-! Plain facts for FnPackages. -/
namespace Go.Proofs.YtibppdepgoiojaaGreatDoor
open Go.RowKit

/-- A function of a good package is found by its name. -/
theorem found_each {p : Pk} (h : pkgB p = true) {i : Nat} (hi : i < p.2.2.length) : foundB p (p.2.2.getD i fn0).1 = true ∧ foundV p (p.2.2.getD i fn0).1 = p.2.2.getD i fn0 := by
  have h1 := h
  unfold pkgB at h1
  rw [Bool.and_eq_true, decide_eq_true_eq] at h1
  have h2 := (h1.2 i hi).2
  have h3 := found_yes (s := (p.2.2.getD i fn0).1) h (by rw [h2]; omega)
  refine ⟨h3.1, ?_⟩
  rw [h3.2, h2]
  rfl
/-- What is found bears the name. -/
theorem found_name {p : Pk} {q : List UInt8} (h : foundB p q = true) : (foundV p q).1 = q := by
  have h1 := h
  unfold foundB at h1
  rw [Bool.and_eq_true, decide_eq_true_eq] at h1
  rw [(found_yes h1.1 h1.2).2]
  have h2 := ((atGo_lt q p.2.2 0).2 h1.2).2
  rw [show atGo q p.2.2 0 - ((0 : Nat) : Int) = atV p.2.2 q by unfold atV; omega] at h2
  exact h2

theorem xs_int {xs : List FV} (h : SmallXs xs) : IntF (xs.map (·.1)) := fun j =>
  have hs := xs_fn h j
  ⟨⟨by have := hs.2.1; omega, by have := hs.2.1; omega⟩, hs.2.2.2.int⟩

/-- A drawn package, as the landed functions are told of it. -/
theorem Drawn7.ok {w wx : World} {v : Value} {nm : List UInt8} {ims : List (List UInt8)} {xs : List FV} (h : Drawn7 w wx v nm ims xs) :
    ∃ ia ic fa fc, v = .agg #[.string ⟨nm.toArray⟩, .slice ia ims.length ic, .slice fa (xs.map (·.1)).length fc] ∧ PkOk wx nm ia ims.length ic fa (xs.map (·.1)).length fc ims (xs.map (·.1)) := by
  obtain ⟨ia, ic, fa, fc, rfl, h1, h2, h3, h4, ho, hf⟩ := h
  obtain ⟨ai, ci, af, cf, e1, e2, hi, hc, hti, hfi⟩ := own_pk ho hf rfl
  rw [e1, e2]
  exact ⟨ai, ci, af, cf, rfl, hti, hfi, hi, hc, xs_int h4, by omega, by rw [List.length_map]; omega, by omega, ims_short h2.2, xs_short h4⟩

theorem nodeB_small7 {n : Nd} (h : nodeB n = true) : SmallN n := by
  obtain ⟨k, a, p, f⟩ := n
  have hp := nodeB_iff.1 h
  unfold nodeP at hp
  simp only at hp
  unfold SmallN IntN
  simp only
  rcases hp with ⟨rfl, ⟨h0, h1⟩, rfl, rfl⟩ | ⟨rfl, ⟨h0, h1⟩, rfl, rfl⟩ | ⟨hk, rfl, rfl, rfl⟩ | ⟨rfl, ⟨h0, h1⟩, hpn, hfn⟩
  · exact ⟨⟨⟨by omega, by omega⟩, by omega, by omega⟩, by simp, by simp⟩
  · exact ⟨⟨⟨by omega, by omega⟩, by omega, by omega⟩, by simp, by simp⟩
  · exact ⟨⟨⟨by omega, by omega⟩, by omega, by omega⟩, by simp, by simp⟩
  · have := (name_letters hpn).1
    have := (name_letters hfn).1
    exact ⟨⟨⟨by omega, by omega⟩, by omega, by omega⟩, by omega, by omega⟩

theorem tree_small7 {ns : List Nd} (h : treeB ns = true) : SmallT ns := fun n hn => nodeB_small7 (tree_nodes h n hn)

/-- A good package is small. -/
theorem pkgB_fn {p : Pk} (h : pkgB p = true) (j : Nat) : SmallFn (p.2.2.getD j fn0) := by
  rw [List.getD_eq_getElem?_getD]
  cases hj : p.2.2[j]? with
  | none => exact ⟨by decide, ⟨by decide, by decide⟩, by decide, fun n hn => by cases hn⟩
  | some f =>
    have hb := (pkgB_parts h).2.2.2.2 f (List.mem_of_getElem? hj)
    unfold funcB at hb
    rw [Bool.and_eq_true, Bool.and_eq_true] at hb
    have h1 := (name_letters hb.1).1.2
    have h2 : 0 ≤ f.2.1 ∧ f.2.1 ≤ 3 := by have := hb.2.1; unfold inB at this; simpa using this
    have h3 := (tree_end hb.2.2).1.2
    show SmallFn f
    exact ⟨by omega, by omega, by omega, tree_small7 hb.2.2⟩
theorem pkgB_ok {nm : List UInt8} {ims : List (List UInt8)} {fs : List Fn} (h : pkgB (nm, ims, fs) = true) : IntF fs ∧ ShortF fs ∧ ims.length ≤ 6 ∧ fs.length ≤ 8 ∧ nm.length ≤ 8 ∧ ∀ t ∈ ims, t.length ≤ 9 := by
  obtain ⟨h1, h2, h3, h4, _⟩ := pkgB_parts h
  have hn := (name_letters h1).1.2
  refine ⟨fun j => ?_, fun j => ?_, h3, h4.2, hn, fun t ht => Nat.le_trans (name_letters (h2 t ht)).1.2 (by omega)⟩
  · have hs : SmallFn (fs.getD j fn0) := pkgB_fn h j
    exact ⟨⟨by have := hs.2.1; omega, by have := hs.2.1; omega⟩, hs.2.2.2.int⟩
  · have hs : SmallFn (fs.getD j fn0) := pkgB_fn h j
    exact ⟨Nat.le_trans hs.1 (by omega), Nat.le_trans hs.2.2.1 (by omega), hs.2.2.2.short⟩
/-- What was read, as the landed functions are told of it. -/
theorem read_ok (l : List UInt8) : IntF (readPV l).2.2 ∧ ShortF (readPV l).2.2 ∧ (readPV l).2.1.length ≤ 6 ∧ (readPV l).2.2.length ≤ 8 ∧ (readPV l).1.length ≤ 8 ∧ ∀ t ∈ (readPV l).2.1, t.length ≤ 9 := by
  rcases read_pv l with ⟨_, h, _⟩ | ⟨_, h⟩
  · exact pkgB_ok h
  · rw [h]
    exact ⟨fun j => by simp [pk0, fn0, IntT, IntN, nd0], fun j => by simp [pk0, fn0, ShortT, nd0], by decide, by decide, by decide, fun t ht => by cases ht⟩

end Go.Proofs.YtibppdepgoiojaaGreatDoor

/-! The laws' own helper eqStringS over texts that can be read. -/
namespace Go.Proofs.YtibppdepgoiojaaGreatDoor
open Go.RowKit


end Go.Proofs.YtibppdepgoiojaaGreatDoor

/-! The laws' own helpers over functions and packages: eqFunc, eqFuncS, eqStringS over texts that can be read, eqPackage. -/
namespace Go.Proofs.YtibppdepgoiojaaGreatDoor
open Go.RowKit




end Go.Proofs.YtibppdepgoiojaaGreatDoor

/-! likeTree: two rows of nodes compared node by node. -/
namespace Go.Proofs.YtibppdepgoiojaaGreatDoor
open Go.RowKit

set_option maxHeartbeats 2000000 in
set_option maxRecDepth 100000 in
theorem likeTreeC (a b : Option Addr) (len ca cb : Nat) (ns : List Nd) (w : World) (ha : NodesIn w a len ns) (hb : NodesIn w b len ns) (hlen : len ≤ 4194304) :
    Calls Tryz.prog 48 #[.slice a len ca, .slice b len cb] w fun e w' => e = .returned (.bool true) ∧ Below w.heap.size w w' := by
  have hlb := ha.1
  have HA : Hid (NodesIn w a len ns) := ha
  have HB : Hid (NodesIn w b len ns) := hb
  clear ha hb
  have hi : ∀ n : Int, (n == n) = true := by simp
  have hs : ∀ l : List UInt8, (l == l) = true := by simp
  have h1 : ∀ n : Int, (n != n) = false := by simp
  go_enter Tryz.func48, Tryz.ntmps48
  go_wp2
  go_loopw [5] (fun i wr => ∃ k : Nat, k ≤ len ∧ i = .int .i64 k ∧ Below w.heap.size w wr) (fun i _ => len - (intOf i).toNat)
  case atStart => exact ⟨0, Nat.zero_le _, rfl, Below.refl _ _⟩
  case round =>
    obtain ⟨k, hk, rfl, hB⟩ := hrel
    by_cases hkl : (k : Int) < (len : Int)
    · obtain ⟨b1, o1, rfl, hb1, hc1⟩ := (HA.out.below hB).at (by omega)
      obtain ⟨b2, o2, rfl, hb2, hc2⟩ := (HB.out.below hB).at (by omega)
      obtain ⟨x0, x1, x2, x3⟩ := hc1 k (by omega)
      obtain ⟨y0, y1, y2, y3⟩ := hc2 k (by omega)
      obtain ⟨x, hx⟩ : ∃ x, ns.getD k nd0 = x := ⟨_, rfl⟩
      rw [hx] at x0 x1 x2 x3 y0 y1 y2 y3
      obtain ⟨kd, aa, p, f⟩ := x
      simp only at x0 x1 x2 x3 y0 y1 y2 y3
      clear hx hc1 hc2
      go_wp2
      go_region
      all_goals (try go_wp2)
      go_roundw
      case rel => exact ⟨k + 1, by omega, by go_num, hB.grown (grown_drew _ none) hB.size (by simp)⟩
      case measure => simp [intOf]; omega
    · go_wp2
      go_ret
      exact ⟨rfl, hB⟩

end Go.Proofs.YtibppdepgoiojaaGreatDoor
