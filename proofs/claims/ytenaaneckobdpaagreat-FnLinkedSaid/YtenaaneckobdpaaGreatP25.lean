/-
  Parts of one proof, one behind the other: Draw15E, OsS, OsL, InsM, RtM, ImgH, ImgH2, ObM, ObK, OsT, OsM, OsK, Draw16.
-/
import Derived.Test.YtenaaneckobdpaaGreatP24
import Derived.Test.YtenaaneckobdpaaGreatP21
import Derived.Deep.RegionWith
import Derived.Deep.RegionLaw
import Derived.Deep.Cut
import Derived.Deep.CutRange
import Derived.Lib.SmallJoins
import Derived.Test.YtenaaneckobdpaaGreatP16
import Derived.Test.YtenaaneckobdpaaGreatP22
import Derived.Test.YtenaaneckobdpaaGreatP10
import Derived.Test.YtenaaneckobdpaaGreatP4
namespace Go.Proofs.YtenaaneckobdpaaGreat
open Go.RowKit
theorem imsAddO {ims : List (List UInt8)} {x : List UInt8} (h : ∀ t ∈ ims, t.length ≤ 9) (hx : x.length ≤ 9) : ∀ t ∈ ims ++ [x], t.length ≤ 9 := fun t ht => (List.mem_append.1 ht).elim (h t) (fun e => by rw [List.mem_singleton] at e; rw [e]; exact hx)
def Ox15 (m : Nat) (wx w : World) (B : Nat) (a : Option Addr) (len cap R P : Nat) : Prop :=
 ∃ (nm : List UInt8) (ia : Option Addr) (ic : Nat) (ims : List (List UInt8)) (fa : Option Addr) (fc : Nat) (xs : List RV), nm.length ≤ 9 ∧ (ims.length ≤ m ∧ ∀ t ∈ ims, t.length ≤ 9) ∧ (xs.length ≤ m) ∧ SmR xs ∧ OkS wx w B a len cap R P nm ia ic ims fa fc xs
def Oa15 (w wx : World) (B : Nat) (a : Option Addr) (len cap : Nat) (v : Value) : Prop :=
 ∃ (nm : List UInt8) (ia : Option Addr) (ic : Nat) (ims : List (List UInt8)) (fa : Option Addr) (fc : Nat) (xs : List RV), v = .agg #[.string ⟨nm.toArray⟩, .slice ia ims.length ic, .slice fa xs.length fc] ∧ nm.length ≤ 9 ∧ (ims.length ≤ 10 ∧ ∀ t ∈ ims, t.length ≤ 9) ∧ (xs.length ≤ 10) ∧ SmR xs ∧
  wx.ownsRow w.heap.size 9 1 (.slice ia ims.length ic) ims.length (strV ims) ∧ za7 wx w.heap.size (.slice fa xs.length fc) xs ∧ Cur wx B a len cap ∧ w.grownBy wx (some B)
theorem Ox15.next {m : Nat} {X Y w : World} {B : Nat} {a : Option Addr} {len cap R P : Nat} (h : Ox15 m X w B a len cap R P) (hg : X.grownBy Y (some B)) (hc : Cur Y B a len cap) : Ox15 m Y w B a len cap R P := by
 obtain ⟨nm, ia, ic, ims, fa, fc, xs, h1, h2, h3, h4, hs⟩ := h
 exact ⟨nm, ia, ic, ims, fa, fc, xs, h1, h2, h3, h4, hs.next hg hc⟩
theorem rs_add {xs : List RV} {x : RV} (h : SmR xs) (hx : SmRt x.1) : SmR (xs ++ [x]) := fun t ht => (List.mem_append.1 ht).elim (h t) (fun e => by rw [List.mem_singleton] at e; rw [e]; exact hx)
theorem rs_set {xs : List RV} {x : RV} (h : SmR xs) (hx : SmRt x.1) : SmR (xs.set 0 x) := fun t ht => (List.mem_or_eq_of_mem_set ht).elim (h t) (fun e => by rw [e]; exact hx)
theorem zeW {xs : List RV} (hl : 1 ≤ xs.length) : xs.getD 0 rv0 ∈ xs := by rw [List.getD_eq_getElem?_getD, List.getElem?_eq_getElem (by omega : 0 < xs.length)]; exact List.getElem_mem _
set_option maxHeartbeats 8000000 in
set_option maxRecDepth 100000 in
theorem zkg (w : World) (B : Nat) (a : Option Addr) (len cap : Nat) (hc : Cur w B a len cap) :
 Calls Tryz.prog 54 #[.pointer (some ⟨B, 0, none⟩)] w fun e w' => ∃ v, e = .returned v ∧ Oa15 w w' B a len cap v := by
 have hBw := hc.lt
 obtain ⟨W1, hW1⟩ : ∃ W, w.alloc (.cells #[.string ⟨#[]⟩, .slice none 0 0, .slice none 0 0] 37) = W := ⟨_, rfl⟩
 have bR := zdj (V := w) (a := .string ⟨#[]⟩) (b := .slice none 0 0) (c := .slice none 0 0) (t := 37)
 have hg1 := World.grownBy_alloc w (.cells #[.string ⟨#[]⟩, .slice none 0 0, .slice none 0 0] 37) none
 have hS1 : Hid (W1.heap.size = w.heap.size + 1) := by exact (by rw [← hW1]; simp : W1.heap.size = w.heap.size + 1)
 rw [hW1] at bR hg1
 have HD : Hid (_) := drawPs W1 B a len cap (hc.kept hg1 (by simp))
 have HB1 : Hid (_) := bR
 have HG1 : Hid (w.grownBy W1 none) := hg1
 clear hg1 bR hc
 go_enter Tryz.func54, Tryz.ntmps54
 go_wp2_with fail
 refine Calls.mono HD.out ?_
 rintro e w2 ⟨L, la, lc, ys, vc, cs, rfl, hd, hy1, hy4⟩
 obtain ⟨hq, _⟩ : (∃ g, la = some ⟨g, 0, none⟩) ∧ True := ⟨by obtain ⟨g, h, _⟩ := hd.pj hy1; exact ⟨g, h⟩, trivial⟩
 obtain ⟨g, rfl⟩ := hq
 have q8 := (hd.q8 ⟨hy1, hy4⟩).1
 have HDr : Hid (∀ j, j < ys.length → Pg15 (pvP (ys.getD j pv0)).1 (pvP (ys.getD j pv0)).2.1 (pvP (ys.getD j pv0)).2.2) := fun j hj => zhK hd hj
 have HQ : Hid (Q8 w2 W1 B a len cap g lc ys) := q8
 have HDB : Hid (_) := zaf w2 B a len cap (ys.length : Int) (by omega) (by omega) q8.cur
 clear hd q8 HD hW1
 have hn1 : 1 ≤ ys.length := hy1
 generalize hyn : ys.length = nY at HDB hn1
 have HyN : Hid (ys.length = nY) := hyn
 clear hyn hy1 hy4
 go_wp2_with fail
 refine Calls.mono HDB.out ?_
 rintro e w3 ⟨x, rfl, hx0, hxn, hc3, hg3⟩
 obtain ⟨j, rfl⟩ : ∃ j : Nat, x = (j : Int) := Int.eq_ofNat_of_zero_le hx0
 have hjn : j < nY := by omega
 have HQ3 : Hid (Q8 w3 W1 B a len cap g lc ys) := HQ.out.next hg3 hc3
 clear hc3 hg3 HQ HDB hx0
 obtain ⟨b, off, hbe, hbl, c0, ia, il, ic, fa, fl, fc, c1, c2, hok⟩ := HQ3.out.ok.each j (by rw [HyN.out]; exact hjn)
 injection hbe with hbe
 injection hbe with e1 e2 _
 subst e1 e2
 rw [Nat.zero_add] at c0 c1 c2
 have hgd : (ys.map pvP).getD j pk0 = pvP (ys.getD j pv0) := by
  have hj2 : j < ys.length := by rw [HyN.out]; exact hjn
  simp [List.getD_eq_getElem?_getD, List.getElem?_eq_getElem hj2]
 rw [hgd] at c0 hok
 have hpg := HDr.out j (by rw [HyN.out]; exact hjn)
 obtain ⟨p, hp⟩ : ∃ p, pvP (ys.getD j pv0) = p := ⟨_, rfl⟩
 rw [hp] at c0 hok hpg
 obtain ⟨pn, pim, pfs⟩ := p
 simp only at c0 hok hpg
 have HO : Hid (_) := zdW pn ia il ic fa fl fc pim pfs w3 hok hpg
 have hos := hpg.os
 generalize zeP (pn, pim, pfs.map zd7) = ob at HO hos
 obtain ⟨on, oim, ors⟩ := ob
 have HOs : Hid (Os15 (on, oim, ors)) := hos
 simp only at HO
 have hj0 : (j : Int) < (nY : Int) := by omega
 clear hok hpg hos hp hgd HDr hxn
 go_wp2_with fail
 refine Calls.mono HO.out ?_
 rintro e w4 ⟨vi, vr, xs, rfl, hxm, hoi, hor, hb4⟩
 obtain ⟨ia, ic, rfl⟩ := zcs hoi
 obtain ⟨ra, rc, rfl⟩ := zcs hor.row
 have hsz : w.heap.size + 1 ≤ w4.heap.size := by
  have h1 := hS1.out
  have h2 := HQ3.out.g.size
  have h3 := hb4.size
  omega
 have hsm : SmR xs := smR_of hxm HOs.out.rt
 have hxl : xs.length ≤ 9 := by
  have h1 := HOs.out.rl
  have h2 : xs.length = ors.length := by rw [← hxm, List.length_map]
  simp only at h1
  omega
 have hw4 : w.grownBy w4 (some B) := by
  have h1 := HG1.out
  have h2 := HQ3.out.g
  have h3 := h2.andThen (Below.by hb4) (by simp)
  exact ⟨h3.os.trans h1.os, h3.tape.trans h1.tape, h3.output.trans h1.output, Nat.le_trans h1.size h3.size, fun q hq hn => (h3.block q (Nat.lt_of_lt_of_le hq h1.size) hn).trans (h1.block q hq (by simp))⟩
 have hlo : w.heap.size + 1 ≤ w3.heap.size := by have h1 := hS1.out; have h2 := HQ3.out.g.size; omega
 have hpP := World.ownsRow_lit (base := w.heap.size + 1) (e := 37) (size := 3) w4 #[.string ⟨on.toArray⟩, .slice ia oim.length ic, .slice ra xs.length rc] 1 hsz (by decide) rfl
 obtain ⟨W6, hW6⟩ : ∃ W, w4.alloc (.cells #[.string ⟨on.toArray⟩, .slice ia oim.length ic, .slice ra xs.length rc] 37) = W := ⟨_, rfl⟩
 have hb6 : Below w4.heap.size w4 W6 := by rw [← hW6]; exact (Below.refl _ _).alloc (Nat.le_refl _) _
 rw [hW6] at hpP
 obtain ⟨P, hP⟩ : ∃ P, w4.heap.size = P := ⟨_, rfl⟩
 rw [hP] at hpP
 have hBne : w.heap.size ≠ B := by omega
 have b3 := zgG HB1.out HQ3.out.g (by omega)
 have bl : w.heap.size < w3.heap.size := by omega
 have bl4 : w.heap.size < w4.heap.size := by omega
 have b6 := (b3.1.below hb4).below hb6
 have f6 : ∀ i, W6.frozen? ⟨w.heap.size, i, none⟩ = false := fun i => (hb6.frozen (p := ⟨w.heap.size, i, none⟩) bl4).trans ((hb4.frozen (p := ⟨w.heap.size, i, none⟩) bl).trans (b3.2 i))
 have hs : OkS W6 w B a len cap w.heap.size P on ia ic oim ra rc xs := ⟨hpP, b6, f6, za6 (zai hoi hlo) hb6, (hor.base hlo).below hb6, (HQ3.out.cur.below hb4).below hb6, hw4.andThen (Below.by hb6) (by simp), hBw, rfl⟩
 have HK : Hid (Ox15 9 W6 w B a len cap w.heap.size P) := ⟨on, ia, ic, oim, ra, rc, xs, HOs.out.nm, ⟨HOs.out.im.1, HOs.out.im.2⟩, hxl, hsm, hs⟩
 have HS0 : Hid (OkS W6 w B a len cap w.heap.size P on ia ic oim ra rc xs) := hs
 have HC6 : Hid (_) := zbe W6 B a len cap 6 (by omega) (by omega) hs.cur
 have hxlH : Hid (xs.length ≤ 9) := hxl
 have HSm : Hid (SmR xs) := hsm
 clear hsm hs hpP b6 f6 hoi hor hb4 hb6 b3 hw4 HQ3 HO c0 c1 c2 hbl hsz hlo bl bl4 hxm hxl HG1 HB1 hS1
 go_wp2_with fail
 refine Calls.mono HC6.out ?_
 rintro e w9 ⟨bb, rfl, hc9, hg9⟩
 have hs9 := HS0.out.next hg9 hc9
 have p2 := hs9.cells.1.c2
 have HS9 : Hid (OkS w9 w B a len cap w.heap.size P on ia ic oim ra rc xs) := hs9
 have HK9 : Hid (Ox15 9 w9 w B a len cap w.heap.size P) := HK.out.next hg9 hc9
 clear hc9 hg9 HK HS0 HC6 hs9 hP hW6
 rcases bb with _ | _
 ·
  have hs := HS9.out
  have hnm := HOs.out.nm
  have him := HOs.out.im
  simp only at hnm him
  have hxl := Nat.le_trans hxlH.out (by omega : 9 ≤ 10)
  have hxs := HSm.out
  replace him := And.intro (Nat.le_trans him.1 (by omega : 9 ≤ 10)) him.2
  clear HK9 HS9 p2
  have p0 := hs.cells.1.c0
  have p1 := hs.cells.1.c1
  have p2 := hs.cells.1.c2
  have r0 := hs.r.c0
  have r1 := hs.r.c1
  have r2 := hs.r.c2
  have f0 := hs.rf 0
  have f1 := hs.rf 1
  have f2 := hs.rf 2
  have HS : Hid (_) := hs
  clear hs
  go_wp2
  obtain ⟨Y, hY, y0, y1, y2, hg⟩ := set3 (.string ⟨on.toArray⟩) (.slice ia oim.length ic) (.slice ra xs.length rc) r0 r1 r2
  rw [hY]
  refine bodyPost_ret (v := .agg #[.string ⟨on.toArray⟩, .slice ia oim.length ic, .slice ra xs.length rc]) (by simp [results, Tryz.results54, go_sem, y0, y1, y2]) rfl ?_
  have hst := HS.out
  have hgw := hst.g
  have hlt : ∀ k, some w.heap.size = some k → k < w.heap.size + 1 := fun k e => by injection e with e; omega
  exact ⟨_, rfl, on, ia, ic, oim, ra, rc, xs, rfl, hnm, him, hxl, hxs, zai (zaR hst.im hg hlt) (by omega), (hst.fo.grown hg hlt).base (by omega), hst.cur.kept hg (fun k e => by injection e with e; omega),
   ⟨hg.os.trans hgw.os, hg.tape.trans hgw.tape, hg.output.trans hgw.output, Nat.le_trans hgw.size hg.size, fun q hq hn => (hg.block q (Nat.lt_of_lt_of_le hq hgw.size) (fun e => by injection e with e; omega)).trans (hgw.block q hq hn)⟩⟩
 by_cases hx0 : xs.length = 0
 ·
  obtain rfl : xs = [] := List.length_eq_zero_iff.1 hx0
  clear hx0
  have hs := HS9.out
  have hnm := HOs.out.nm
  have him := HOs.out.im
  simp only at hnm him
  have hxl := Nat.le_trans hxlH.out (by omega : 9 ≤ 10)
  have hxs := HSm.out
  replace him := And.intro (Nat.le_trans him.1 (by omega : 9 ≤ 10)) him.2
  clear HK9 HS9 p2
  have p0 := hs.cells.1.c0
  have p1 := hs.cells.1.c1
  have p2 := hs.cells.1.c2
  have r0 := hs.r.c0
  have r1 := hs.r.c1
  have r2 := hs.r.c2
  have f0 := hs.rf 0
  have f1 := hs.rf 1
  have f2 := hs.rf 2
  have HS : Hid (_) := hs
  clear hs
  go_wp2
  obtain ⟨Y, hY, y0, y1, y2, hg⟩ := set3 (.string ⟨on.toArray⟩) (.slice ia oim.length ic) (.slice ra 0 rc) r0 r1 r2
  rw [hY]
  refine bodyPost_ret (v := .agg #[.string ⟨on.toArray⟩, .slice ia oim.length ic, .slice ra 0 rc]) (by simp [results, Tryz.results54, go_sem, y0, y1, y2]) rfl ?_
  have hst := HS.out
  have hgw := hst.g
  have hlt : ∀ k, some w.heap.size = some k → k < w.heap.size + 1 := fun k e => by injection e with e; omega
  exact ⟨_, rfl, on, ia, ic, oim, ra, rc, [], rfl, hnm, him, hxl, hxs, zai (zaR hst.im hg hlt) (by omega), (hst.fo.grown hg hlt).base (by omega), hst.cur.kept hg (fun k e => by injection e with e; omega),
   ⟨hg.os.trans hgw.os, hg.tape.trans hgw.tape, hg.output.trans hgw.output, Nat.le_trans hgw.size hg.size, fun q hq hn => (hg.block q (Nat.lt_of_lt_of_le hq hgw.size) (fun e => by injection e with e; omega)).trans (hgw.block q hq hn)⟩⟩
 have hx1 : (0 : Int) < (xs.length : Int) := by omega
 go_upto_if 22 with fail
 go_cut [] from 5 (fun wx => Hid (Ox15 10 wx w B a len cap w.heap.size P))
 case rest =>
  obtain ⟨n', i', c', m', f', g', z', hnm, him, hxl, hxs, hs⟩ := hcut.out
  have p0 := hs.cells.1.c0
  have p1 := hs.cells.1.c1
  have p2 := hs.cells.1.c2
  have r0 := hs.r.c0
  have r1 := hs.r.c1
  have r2 := hs.r.c2
  have f0 := hs.rf 0
  have f1 := hs.rf 1
  have f2 := hs.rf 2
  have HS : Hid (_) := hs
  clear hs hcut
  go_wp2
  obtain ⟨Y, hY, y0, y1, y2, hg⟩ := set3 (.string ⟨n'.toArray⟩) (.slice i' m'.length c') (.slice f' z'.length g') r0 r1 r2
  rw [hY]
  refine bodyPost_ret (v := .agg #[.string ⟨n'.toArray⟩, .slice i' m'.length c', .slice f' z'.length g']) (by simp [results, Tryz.results54, go_sem, y0, y1, y2]) rfl ?_
  have hst := HS.out
  have hgw := hst.g
  have hlt : ∀ k, some w.heap.size = some k → k < w.heap.size + 1 := fun k e => by injection e with e; omega
  exact ⟨_, rfl, n', i', c', m', f', g', z', rfl, hnm, him, hxl, hxs, zai (zaR hst.im hg hlt) (by omega), (hst.fo.grown hg hlt).base (by omega), hst.cur.kept hg (fun k e => by injection e with e; omega),
   ⟨hg.os.trans hgw.os, hg.tape.trans hgw.tape, hg.output.trans hgw.output, Nat.le_trans hgw.size hg.size, fun q hq hn => (hg.block q (Nat.lt_of_lt_of_le hq hgw.size) (fun e => by injection e with e; omega)).trans (hgw.block q hq hn)⟩⟩
 case first =>
  have hs := HS9.out
  have hnm := HOs.out.nm
  have him := HOs.out.im
  have hxl := hxlH.out
  have hxs := HSm.out
  simp only at hnm him
  clear HK9 HS9
  go_wp2_with fail
  refine (zaf _ B a len cap 4 (by omega) (by omega) hs.cur).mono ?_
  rintro e w10 ⟨k, rfl, hk0, hk1, hc10, hg10⟩
  have hs10 := hs.next hg10 hc10
  clear hs hc10 hg10 p2
  have hB10 := hs10.cur.lt
  have hl1 : 1 ≤ xs.length := by omega
  rcases (show k = 0 ∨ k = 1 ∨ k = 2 ∨ k = 3 by omega) with rfl | rfl | rfl | rfl
  ·
   go_wp2_with fail
   refine (zaf _ B a len cap 3 (by omega) (by omega) (hs10.alloc _).cur).mono ?_
   rintro e w11 ⟨x, rfl, hx0, hx1, hc11, hg11⟩
   have hs11 := (hs10.alloc _).next hg11 hc11
   obtain ⟨T, rfl⟩ : ∃ T : Nat, x = (T : Int) := Int.eq_ofNat_of_zero_le hx0
   have bL := zgG zdj hg11 (by omega)
   obtain ⟨fn, hfn, hget⟩ := zgP [97] [122, 122] [] T (by omega) (by decide) (by decide) (by decide)
   have nL := zeM bL.1 (by omega) hget
   have p0 := hs11.cells.1.c0
   have g0 := hs11.cells.2 0
   have HS : Hid (OkS _ w B a len cap w.heap.size P fn ia ic oim ra rc xs) := hs11.name fn
   clear hs10 hs11 bL hg11 hc11 hget
   go_wp2_with fail
   go_meet
   case rel => exact ⟨fn, ia, ic, oim, ra, rc, xs, hfn, ⟨Nat.le_trans him.1 (by omega), him.2⟩, by omega, hxs, HS.out⟩
  ·
   have HS10 : Hid (OkS w10 w B a len cap w.heap.size P on ia ic oim ra rc xs) := hs10
   have p1 := hs10.cells.1.c1
   have p1a : ∀ o, (w10.alloc o).cell? ⟨P, 1, none⟩ = some (.slice ia oim.length ic) := fun o => (hs10.alloc o).cells.1.c1
   clear hs10
   go_wp2_with fail
   go_region_law (first | (refine zaa (by rfl) (.tmp 36) (.tmp 42) 31 (by rfl) _ _ _ (by rfl) (by rfl) hrun ?_) | (go_simp; go_at_call 53; refine (zaf _ B a len cap 3 (by omega) (by omega) (by first | exact (HS10.out.alloc _).drew.cur | exact HS10.out.drew.cur)).mono ?_; rintro e w11 ⟨x, rfl, hx0, hx1, hc11, hg11⟩; obtain ⟨T, rfl⟩ : ∃ T : Nat, x = (T : Int) := Int.eq_ofNat_of_zero_le hx0; have hT3 : T < 3 := (by omega); obtain ⟨fn, hfn, hget⟩ := zgP [97] [122, 122] [65] T hT3 (by decide) (by decide) (by decide); (first | (have bL := (zhs (V := w10) hg11 hB10).1; have nL := zeM bL hT3 hget; have hs11 := (HS10.out.alloc _).drew.next hg11 hc11; have q1 := hs11.cells.1.c1; have q2 : ∀ o, (w11.alloc o).cell? ⟨P, 1, none⟩ = some (.slice ia oim.length ic) := (fun o => (hs11.alloc o).cells.1.c1); obtain ⟨g', c', Y, hrun, hbY, hsY⟩ := hs11.import fn (by omega); have y1 := hbY.1.c1; have z1 := hbY.2 1; have HSY : Hid (OkS _ w B a len cap w.heap.size P on (some ⟨g', 0, none⟩) c' (oim ++ [fn]) ra rc xs) := hsY; clear hsY hbY hs11 bL hg11 hc11) | (have hs11 := HS10.out.drew.next hg11 hc11; have q1 := hs11.cells.1.c1; have q2 : ∀ o, (w11.alloc o).cell? ⟨P, 1, none⟩ = some (.slice ia oim.length ic) := (fun o => (hs11.alloc o).cells.1.c1); have q3 : ∀ o o', ((w11.alloc o).alloc o').cell? ⟨P, 1, none⟩ = some (.slice ia oim.length ic) := (fun o o' => ((hs11.alloc o).alloc o').cells.1.c1); obtain ⟨g', c', Y, hrun, hbY, hsY⟩ := (hs11.alloc (.cells #[.string ⟨#[97]⟩, .string ⟨#[122, 122]⟩, .string ⟨#[65]⟩] 9)).import fn (by omega); rw [World.size_alloc] at hrun; have y1 := hbY.1.c1; have z1 := hbY.2 1; have HSY : Hid (OkS _ w B a len cap w.heap.size P on (some ⟨g', 0, none⟩) c' (oim ++ [fn]) ra rc xs) := hsY; clear hsY hbY hs11 hg11 hc11)); dsimp only))
   all_goals (go_wp2_with fail; go_meet; case rel => exact ⟨on, _, _, oim ++ [fn], ra, rc, xs, hnm, ⟨by have := him.1; simp; omega, imsAddO him.2 hfn⟩, by omega, hxs, HSY.out⟩)
  ·
   obtain ⟨gF, cF, hF⟩ := za9 hs10.fo.row (by omega)
   injection hF with e1 e2 e3
   subst e1
   clear e2 e3
   have hz := hxs _ (zeW (by omega))
   have ht := hs10.fo.trees _ (zeW (by omega))
   have s0 : w10.cell? ⟨gF, 0, none⟩ = some (.string ⟨(xs.getD 0 rv0).1.1.toArray⟩) := World.ownsRow.cells hs10.fo.row rfl 0 _ (zbS xs 0 (by omega)).1
   have s1 : w10.cell? ⟨gF, 1, none⟩ = some (.int .i64 (xs.getD 0 rv0).1.2.1) := World.ownsRow.cells hs10.fo.row rfl 1 _ (zbS xs 0 (by omega)).2.1
   have s2 : w10.cell? ⟨gF, 2, none⟩ = some (rvT (xs.getD 0 rv0)) := World.ownsRow.cells hs10.fo.row rfl 2 _ (zbS xs 0 (by omega)).2.2
   obtain ⟨z, hzz⟩ : ∃ z, xs.getD 0 rv0 = z := ⟨_, rfl⟩
   rw [hzz] at hz ht s0 s1 s2
   obtain ⟨⟨n0, y0, t0⟩, ta, tc⟩ := z
   have p2 := hs10.cells.1.c2
   have p2a : ∀ o, (w10.alloc o).cell? ⟨P, 2, none⟩ = some (.slice (some ⟨gF, 0, none⟩) xs.length rc) := fun o => (hs10.alloc o).cells.1.c2
   have hl1 : 0 < xs.length := by omega
   have hl0 : (0 : Int) < (xs.length : Int) := by omega
   obtain ⟨g', c', Y, hrun, hbY, hsY⟩ := hs10.drew.func ((n0, y0, t0), ta, tc) (by exact ht.drew) (by omega)
   change (Builtin.append_ #[26, 26] 26 #[.slice (some ⟨gF, 0, none⟩) xs.length rc, .slice (some ⟨w10.heap.size, 0, none⟩) 1 1]).run Tryz.prog (w10.alloc (.cells #[.string ⟨n0.toArray⟩, .int .i64 y0, .slice ta t0.length tc] 41)).drew = _ at hrun
   change w10.cell? ⟨gF, 2, none⟩ = some (.slice ta t0.length tc) at s2
   change w10.cell? ⟨gF, 1, none⟩ = some (.int .i64 y0) at s1
   change w10.cell? ⟨gF, 0, none⟩ = some (.string ⟨n0.toArray⟩) at s0
   have y2 := hbY.1.c2
   have z2 := hbY.2 2
   have HSY : Hid (OkS _ w B a len cap w.heap.size P on ia ic oim (some ⟨g', 0, none⟩) c' (xs ++ [((n0, y0, t0), ta, tc)])) := hsY
   clear hsY hbY hs10 ht hzz
   go_wp2_with fail
   go_region_law (first | (refine zaa (by rfl) (.tmp 48) (.tmp 53) 26 (by rfl) _ _ _ (by rfl) (by rfl) hrun ?_))
   all_goals (go_wp2_with fail; go_meet; case rel => exact ⟨on, ia, ic, oim, some ⟨g', 0, none⟩, c', _, hnm, ⟨Nat.le_trans him.1 (by omega), him.2⟩, by simp; omega, rs_add hxs hz, HSY.out⟩)
  ·
   obtain ⟨gF, cF, hF⟩ := za9 hs10.fo.row (by omega)
   injection hF with e1 e2 e3
   subst e1
   clear e2 e3
   have p2 := hs10.cells.1.c2
   have hz := hxs _ (zeW (by omega))
   have hl0 : (0 : Int) < (xs.length : Int) := by omega
   have hrp := hs10.rp
   go_wp2_with fail
   go_region_with (go_at_call 74; refine (ziK _ B a len cap hs10.drew.cur).mono ?_; rintro e w11 ⟨v, t, rfl, htl, hdc⟩; have hc11 := hdc.cur; have hg11 := hdc.g; have ho := hdc.row; have hts := hdc.sm; have hs11 := hs10.drew.next hg11 hc11; obtain ⟨ta, tc, rfl⟩ := zcs ho; have q2 := hs11.cells.1.c2; have s2 : w11.cell? ⟨gF, 2, none⟩ = some (rvT (xs.getD 0 rv0)) := World.ownsRow.cells hs11.fo.row rfl 2 _ (zbS xs 0 (by omega)).2.2; have z2 : w11.frozen? ⟨gF, 2, none⟩ = false := World.ownsRow.frozenAt hs11.fo.row 2)
   all_goals (go_wp2_with fail; go_meet; case rel => exact ⟨on, ia, ic, oim, some ⟨gF, 0, none⟩, rc, xs.set 0 (((xs.getD 0 rv0).1.1, (xs.getD 0 rv0).1.2.1, t), ta, tc), hnm, ⟨Nat.le_trans him.1 (by omega), him.2⟩, by simp; omega, rs_set hxs ⟨hz.1, hz.2.1, htl, hts⟩, hs11.tree (by omega) ta tc t (zai ho (by show w.heap.size + 1 ≤ w10.heap.size; omega))⟩)
def zc1 (w : World) (a : Option Addr) (len : Nat) (os : List Ob) : Prop :=
 os.length = len ∧ ∀ j, j < len → ∃ b off, a = some ⟨b, off, none⟩ ∧ b < w.heap.size ∧ w.cell? ⟨b, off + j * 3, none⟩ = some (.string ⟨(os.getD j ob0).1.toArray⟩) ∧
  ∃ ia il ic fa fl fc, w.cell? ⟨b, off + j * 3 + 1, none⟩ = some (.slice ia il ic) ∧ w.cell? ⟨b, off + j * 3 + 2, none⟩ = some (.slice fa fl fc) ∧ zah w ia il (os.getD j ob0).2.1 ∧ zbp w fa fl (os.getD j ob0).2.2
theorem zc1.below {w w' : World} {a : Option Addr} {len : Nat} {os : List Ob} (h : zc1 w a len os) (hb : Below w.heap.size w w') : zc1 w' a len os := by
 refine ⟨h.1, fun j hj => ?_⟩
 obtain ⟨b, off, e, hlt, c0, ia, il, ic, fa, fl, fc, c1, c2, hi, hf⟩ := h.2 j hj
 exact ⟨b, off, e, Nat.lt_of_lt_of_le hlt hb.size, (hb.cell (p := ⟨b, off + j * 3, none⟩) hlt).trans c0, ia, il, ic, fa, fl, fc, (hb.cell (p := ⟨b, off + j * 3 + 1, none⟩) hlt).trans c1, (hb.cell (p := ⟨b, off + j * 3 + 2, none⟩) hlt).trans c2, hi.below hb, hf.below hb⟩
def zdl (os : List Ob) : Prop := ∀ j, (os.getD j ob0).1.length ≤ 1048576 ∧ (os.getD j ob0).2.1.length ≤ 1048576 ∧ (∀ i, ((os.getD j ob0).2.1.getD i []).length ≤ 1048576) ∧ (os.getD j ob0).2.2.length ≤ 1048576 ∧ zc0 (os.getD j ob0).2.2




theorem za7.none {w w' : World} {base : Nat} {v : Value} {xs : List RV} (h : za7 w base v xs) (hg : w.grownBy w' none) : za7 w' base v xs :=
 h.kept hg (by cases hv : v.ownBlock with | none => exact Or.inl rfl | some k => exact Or.inr (by simp)) (fun x _ => by cases hv : (rvT x).ownBlock with | none => exact Or.inl rfl | some k => exact Or.inr (by simp))
theorem zf3 {w : World} {base n : Nat} {v : Value} {ts : List (List UInt8)} (h : w.ownsRow base 9 1 v n (strV ts)) : ∃ a c, v = .slice a n c ∧ (a = none → c = 0) ∧ zah w a n ts := by
 obtain ⟨_, a, c, rfl, hin⟩ := zbt h
 refine ⟨a, c, rfl, fun e => ?_, hin⟩
 rcases zaH h with ⟨e2, _, _⟩ | ⟨g, cp, e2⟩
 ·
  injection e2
 ·
  injection e2 with e3; rw [e] at e3; cases e3
theorem za7.alloc {w : World} {base : Nat} {v : Value} {xs : List RV} (h : za7 w base v xs) (o : Obj) : za7 (w.alloc o) base v xs := ⟨h.row.alloc o, fun x hx => (h.trees x hx).alloc o⟩
structure BoxO (V : World) (k : Nat) (a b c : Value) : Prop where
 c0 : V.cell? ⟨k, 0, none⟩ = some a
 c1 : V.cell? ⟨k, 1, none⟩ = some b
 c2 : V.cell? ⟨k, 2, none⟩ = some c
theorem BoxO.lt {V : World} {k : Nat} {a b c : Value} (h : BoxO V k a b c) : k < V.heap.size := World.block_lt_of_cell? V ⟨k, 0, none⟩ h.c0
theorem BoxO.keep {V V' : World} {k : Nat} {a b c : Value} (h : BoxO V k a b c) (hb : V'.heap[k]? = V.heap[k]?) : BoxO V' k a b c :=
 ⟨(World.cell?_of_block (a := ⟨k, 0, none⟩) hb).trans h.c0, (World.cell?_of_block (a := ⟨k, 1, none⟩) hb).trans h.c1, (World.cell?_of_block (a := ⟨k, 2, none⟩) hb).trans h.c2⟩
theorem BoxO.below {V V' : World} {k : Nat} {a b c : Value} (h : BoxO V k a b c) (hb : Below V.heap.size V V') : BoxO V' k a b c := h.keep (hb.block k h.lt)
theorem BoxO.wrote {V V' : World} {k : Nat} {a b c : Value} {S : Nat → Prop} (h : BoxO V k a b c) (hw : zby V V' S) (hk : ¬ S k) : BoxO V' k a b c := h.keep (hw.block k h.lt hk)
theorem BoxO.grown {V V' : World} {k : Nat} {a b c : Value} {row : Option Nat} (h : BoxO V k a b c) (hg : V.grownBy V' row) (hk : some k ≠ row) : BoxO V' k a b c := h.keep (hg.block k h.lt hk)
theorem BoxO.drew {V : World} {k : Nat} {a b c : Value} (h : BoxO V k a b c) : BoxO V.drew k a b c := ⟨h.c0, h.c1, h.c2⟩
theorem BoxO.new (V : World) (a b c : Value) (t : TypeId) : BoxO (V.alloc (.cells #[a, b, c] t)) V.heap.size a b c ∧ Below V.heap.size V (V.alloc (.cells #[a, b, c] t)) := by
 have hb : Below V.heap.size V (V.alloc (.cells #[a, b, c] t)) := (Below.refl _ _).alloc (Nat.le_refl _) _
 have hA := heap_alloc_new V (.cells #[a, b, c] t)
 generalize V.alloc (.cells #[a, b, c] t) = W at hb hA ⊢
 exact ⟨⟨by simp [World.cell?, hA], by simp [World.cell?, hA], by simp [World.cell?, hA]⟩, hb⟩
structure ObOk (w : World) (nm : List UInt8) (ia : Option Addr) (il ic : Nat) (fa : Option Addr) (fl fc : Nat) (ims : List (List UInt8)) (rs : List Rt) : Prop where
 i : zah w ia il ims
 r : RtOk w fa fl fc rs
 ic : ia = none → ic = 0
 il : il ≤ 1048576
 nm : nm.length ≤ 1048576
 is : ∀ i, (ims.getD i []).length ≤ 1048576
theorem ObOk.below {w w' : World} {nm : List UInt8} {ia : Option Addr} {il ic : Nat} {fa : Option Addr} {fl fc : Nat} {ims : List (List UInt8)} {rs : List Rt} (h : ObOk w nm ia il ic fa fl fc ims rs) (hb : Below w.heap.size w w') : ObOk w' nm ia il ic fa fl fc ims rs :=
 ⟨h.i.below hb, h.r.below hb, h.ic, h.il, h.nm, h.is⟩
theorem own_ob {w : World} {base : Nat} {vi vf : Value} {ims : List (List UInt8)} {xs : List RV} {fs : List Rt} (hoi : w.ownsRow base 9 1 vi ims.length (strV ims)) (hof : za7 w base vf xs) (hxs : xs.map (·.1) = fs) :
 ∃ ai ci af cf, vi = .slice ai ims.length ci ∧ vf = .slice af fs.length cf ∧ (ai = none → ci = 0) ∧ ((af = none → cf = 0) ∧ fs.length ≤ cf) ∧ zah w ai ims.length ims ∧ zbp w af fs.length fs := by
 obtain ⟨ai, ci, rfl, hic, hit⟩ := zf3 hoi
 obtain ⟨af, cf, rfl, hfc, hif⟩ := hof.in
 have hl : xs.length = fs.length := by rw [← hxs, List.length_map]
 have hcp : fs.length ≤ cf := by
  rcases hof.row.2 with ⟨e, h0⟩ | ⟨g, cap, cur, e, _, _, hc, _⟩
  ·
   rw [← hl, h0]; exact Nat.zero_le _
  ·
   injection e with _ _ e3
   rw [e3, ← hl]; exact hc
 rw [hxs, hl] at hif
 exact ⟨ai, ci, af, cf, rfl, by rw [hl], hic, ⟨hfc, hcp⟩, hit, hif⟩
section
variable {Z Y : World} {lo hi : Nat} {ai : Option Addr} {il ci : Nat} {af : Option Addr} {fl cf : Nat} {ims : List (List UInt8)} {fs : List Rt} {xs : List RV}
end
structure OV where
 nm : List UInt8
 ims : List (List UInt8)
 xs : List RV
 ia : Option Addr
 ic : Nat
 fa : Option Addr
 fc : Nat
 lo : Nat
 hi : Nat
def ovI (y : OV) : Value := .slice y.ia y.ims.length y.ic
def ovF (y : OV) : Value := .slice y.fa y.xs.length y.fc
def ovP (y : OV) : Ob := (y.nm, y.ims, y.xs.map (·.1))
def ov0 : OV := ⟨[], [], [], none, 0, none, 0, 0, 0⟩
def ovsV : List OV → List Value
 | [] => []
 | y :: r => .string ⟨y.nm.toArray⟩ :: ovI y :: ovF y :: ovsV r
theorem ovsV_at (ys : List OV) (j : Nat) (hj : j < ys.length) : (ovsV ys)[j * 3]? = some (.string ⟨(ys.getD j ov0).nm.toArray⟩) ∧ (ovsV ys)[j * 3 + 1]? = some (ovI (ys.getD j ov0)) ∧ (ovsV ys)[j * 3 + 2]? = some (ovF (ys.getD j ov0)) := by
 induction ys generalizing j with
 | nil => simp at hj
 | cons n r ih =>
  cases j with
  | zero => simp [ovsV]
  | succ j =>
   obtain ⟨h0, h1, h2⟩ := ih j (by simpa using hj)
   refine ⟨?_, ?_, ?_⟩
   ·
    rw [show (j + 1) * 3 = j * 3 + 1 + 1 + 1 by omega]; simpa [ovsV] using h0
   ·
    rw [show (j + 1) * 3 + 1 = j * 3 + 1 + 1 + 1 + 1 by omega]; simpa [ovsV] using h1
   ·
    rw [show (j + 1) * 3 + 2 = j * 3 + 2 + 1 + 1 + 1 by omega]; simpa [ovsV] using h2
theorem ovsV_set (ys : List OV) (j : Nat) (y : OV) : (((ovsV ys).set (j * 3) (.string ⟨y.nm.toArray⟩)).set (j * 3 + 1) (ovI y)).set (j * 3 + 2) (ovF y) = ovsV (ys.set j y) := by
 induction ys generalizing j with
 | nil => simp [ovsV]
 | cons b r ih =>
  cases j with
  | zero => simp [ovsV]
  | succ j => rw [show (j + 1) * 3 = j * 3 + 1 + 1 + 1 by omega]; simp [ovsV, ih]
theorem zhl (ys : List OV) (j : Nat) : (ys.map ovP).getD j ob0 = ovP (ys.getD j ov0) := by
 rw [List.getD_eq_getElem?_getD, List.getD_eq_getElem?_getD, List.getElem?_map]
 cases ys[j]? <;> rfl

structure zaY (w : World) (a : Option Addr) (len cap : Nat) (os : List Ob) : Prop where
 hlen : os.length = len
 nil : a = none → cap = 0
 hcap : len ≤ cap
 small : len ≤ 1048576
 each : ∀ j, j < len → ∃ b off, a = some ⟨b, off, none⟩ ∧ b < w.heap.size ∧ w.cell? ⟨b, off + j * 3, none⟩ = some (.string ⟨(os.getD j ob0).1.toArray⟩) ∧
  ∃ ia il ic fa fl fc, w.cell? ⟨b, off + j * 3 + 1, none⟩ = some (.slice ia il ic) ∧ w.cell? ⟨b, off + j * 3 + 2, none⟩ = some (.slice fa fl fc) ∧ ObOk w (os.getD j ob0).1 ia il ic fa fl fc (os.getD j ob0).2.1 (os.getD j ob0).2.2
theorem zaY.below {w w' : World} {a : Option Addr} {len cap : Nat} {os : List Ob} (h : zaY w a len cap os) (hb : Below w.heap.size w w') : zaY w' a len cap os :=
 ⟨h.hlen, h.nil, h.hcap, h.small, fun j hj => by
  obtain ⟨b, off, e, hlt, c0, ia, il, ic, fa, fl, fc, c1, c2, hk⟩ := h.each j hj
  exact ⟨b, off, e, Nat.lt_of_lt_of_le hlt hb.size, (hb.cell (p := ⟨b, off + j * 3, none⟩) hlt).trans c0, ia, il, ic, fa, fl, fc, (hb.cell (p := ⟨b, off + j * 3 + 1, none⟩) hlt).trans c1, (hb.cell (p := ⟨b, off + j * 3 + 2, none⟩) hlt).trans c2, hk.below hb⟩⟩
theorem zaY.in {w : World} {a : Option Addr} {len cap : Nat} {os : List Ob} (h : zaY w a len cap os) : zc1 w a len os :=
 ⟨h.hlen, fun j hj => by
  obtain ⟨b, off, e, hlt, c0, ia, il, ic, fa, fl, fc, c1, c2, hk⟩ := h.each j hj
  exact ⟨b, off, e, hlt, c0, ia, il, ic, fa, fl, fc, c1, c2, hk.i, hk.r.c.in⟩⟩
theorem zaY.short {w : World} {a : Option Addr} {len cap : Nat} {os : List Ob} (h : zaY w a len cap os) : zdl os := fun j => by
 by_cases hj : j < len
 ·
  obtain ⟨b, off, e, hlt, c0, ia, il, ic, fa, fl, fc, c1, c2, hk⟩ := h.each j hj
  exact ⟨hk.nm, by rw [hk.i.1]; exact hk.il, hk.is, by rw [hk.r.c.1]; exact hk.r.l, hk.r.s⟩
 ·
  have : os.getD j ob0 = ob0 := by rw [List.getD, List.getElem?_eq_none (by rw [h.hlen]; omega)]; rfl
  rw [this]
  exact ⟨by simp [ob0], by simp [ob0], fun i => by simp [ob0], by simp [ob0], fun i => by simp [ob0, rt0, zcm, in0]⟩
structure Ov16 (X : World) (H : Nat) (y : OV) : Prop where
 im : X.ownsRow H 9 1 (ovI y) y.ims.length (strV y.ims)
 fo : za7 X H (ovF y) y.xs
 nm : y.nm.length ≤ 9
 is : y.ims.length ≤ 10 ∧ ∀ t ∈ y.ims, t.length ≤ 9
 n : y.xs.length ≤ 10
 sm : SmR y.xs
structure Lo16 (X : World) (H g c : Nat) (ys : List OV) : Prop where
 row : X.ownsRow H 37 3 (.slice (some ⟨g, 0, none⟩) ys.length c) ys.length (ovsV ys)
 each : ∀ y ∈ ys, Ov16 X H y
theorem Ov16.kept {X Y : World} {H : Nat} {y : OV} {row : Option Nat} (h : Ov16 X H y) (hg : X.grownBy Y row) (h1 : (ovI y).ownBlock = none ∨ (ovI y).ownBlock ≠ row) (h2 : (ovF y).ownBlock = none ∨ (ovF y).ownBlock ≠ row) (h3 : ∀ x ∈ y.xs, (rvT x).ownBlock = none ∨ (rvT x).ownBlock ≠ row) : Ov16 Y H y :=
 ⟨h.im.kept hg h1, h.fo.kept hg h2 h3, h.nm, h.is, h.n, h.sm⟩
theorem Ov16.obj {X Y : World} {H b n : Nat} {v : Value} {zs : List Value} {y : OV} (h : Ov16 X H y) (ho : X.ownsRow b 37 3 v n zs) (hg : X.grownBy Y v.ownBlock) : Ov16 Y H y :=
 h.kept hg (za4 h.im ho (by decide)) (za4 h.fo.row ho (by decide)) (fun x hx => za4 (h.fo.trees x hx) ho (by decide))
theorem Ov16.below {X Y : World} {H : Nat} {y : OV} (h : Ov16 X H y) (hb : Below X.heap.size X Y) : Ov16 Y H y := ⟨za6 h.im hb, h.fo.below hb, h.nm, h.is, h.n, h.sm⟩
theorem Ov16.grown {X Y : World} {H B : Nat} {y : OV} (h : Ov16 X H y) (hg : X.grownBy Y (some B)) (hB : B < H) : Ov16 Y H y :=
 ⟨zaR h.im hg (fun k e => by injection e with e; omega), h.fo.grown hg (fun k e => by injection e with e; omega), h.nm, h.is, h.n, h.sm⟩
theorem Ov16.base {X : World} {H H2 : Nat} {y : OV} (h : Ov16 X H2 y) (hh : H ≤ H2) : Ov16 X H y := ⟨zai h.im hh, h.fo.base hh, h.nm, h.is, h.n, h.sm⟩
theorem zgZ (x y : List OV) : ovsV (x ++ y) = ovsV x ++ ovsV y := by
 induction x with
 | nil => rfl
 | cons n r ih => simp [ovsV, ih]
theorem new_ov (W : World) (y : OV) (c : Nat) : Src (W.alloc (.cells #[.string ⟨y.nm.toArray⟩, ovI y, ovF y] 37)) (.slice (some ⟨W.heap.size, 0, none⟩) 1 c) 1 3 (ovsV [y]) := by
 refine ⟨rfl, fun u hu => ?_, Or.inr ⟨_, c, rfl, fun j u hu => ?_⟩⟩
 ·
  simp only [ovsV, List.mem_cons, List.not_mem_nil, or_false] at hu
  rcases hu with rfl | rfl | rfl <;> rfl
 ·
  rw [zcc, Nat.zero_add]
  match j, hu with
  | 0, hu => simp [ovsV] at hu; subst hu; simp
  | 1, hu => simp [ovsV] at hu; subst hu; simp
  | 2, hu => simp [ovsV] at hu; subst hu; simp
  | j + 3, hu => simp [ovsV] at hu
theorem zhY : (Tryz.prog.info? 37).map (fun i => (i.zero, i.size, i.bytes)) = some (some (.agg #[.string ⟨#[]⟩, .slice none 0 0, .slice none 0 0]), 3, 64) := by kernel_rfl
section
variable {X Y : World} {H g c : Nat} {ys : List OV} {y : OV}
theorem Lo16.below (h : Lo16 X H g c ys) (hb : Below X.heap.size X Y) : Lo16 Y H g c ys := ⟨za6 h.row hb, fun z hz => (h.each z hz).below hb⟩
theorem Lo16.grown {B : Nat} (h : Lo16 X H g c ys) (hg : X.grownBy Y (some B)) (hB : B < H) : Lo16 Y H g c ys := ⟨zaR h.row hg (fun k e => by injection e with e; omega), fun z hz => (h.each z hz).grown hg hB⟩
theorem Lo16.at (h : Lo16 X H g c ys) {j : Nat} (hj : j < ys.length) : Ov16 X H (ys.getD j ov0) := h.each _ (by rw [List.getD_eq_getElem?_getD, List.getElem?_eq_getElem hj]; exact List.getElem_mem hj)
theorem Lo16.gl (h : Lo16 X H g c ys) : H ≤ g ∧ g < X.heap.size := h.row.lt g rfl
theorem Lo16.cap (h : Lo16 X H g c ys) : ys.length ≤ c := by
 rcases h.row.2 with ⟨e, _⟩ | ⟨g', cap', cur, e, _, _, hc, _⟩
 ·
  cases e
 ·
  injection e with _ _ e3; rw [e3]; exact hc
theorem Lo16.cells (h : Lo16 X H g c ys) {j : Nat} (hj : j < ys.length) : X.cell? ⟨g, j * 3, none⟩ = some (.string ⟨(ys.getD j ov0).nm.toArray⟩) ∧ X.cell? ⟨g, j * 3 + 1, none⟩ = some (ovI (ys.getD j ov0)) ∧ X.cell? ⟨g, j * 3 + 2, none⟩ = some (ovF (ys.getD j ov0)) := by
 obtain ⟨v0, v1, v2⟩ := ovsV_at ys j hj
 exact ⟨by rw [World.ownsRow.cellAt h.row (j * 3) (by omega), v0], by rw [World.ownsRow.cellAt h.row (j * 3 + 1) (by omega), v1], by rw [World.ownsRow.cellAt h.row (j * 3 + 2) (by omega), v2]⟩
theorem Lo16.push (h : Lo16 X H g c ys) (hy : Ov16 X H y) (hH : H ≤ X.heap.size) (hn : ys.length ≤ 100) :
 ∃ g' c' Y, (Builtin.append_ #[24, 24] 24 #[.slice (some ⟨g, 0, none⟩) ys.length c, .slice (some ⟨X.heap.size, 0, none⟩) 1 1]).run Tryz.prog (X.alloc (.cells #[.string ⟨y.nm.toArray⟩, ovI y, ovF y] 37)) = .ok (.slice (some ⟨g', 0, none⟩) (ys.length + 1) c') Y ∧
  Lo16 Y H g' c' (ys ++ [y]) ∧ X.grownBy Y (some g) := by
 obtain ⟨i0, hi, hz0, hz1, hz2⟩ := info_parts zhY
 have hX1 : Below X.heap.size X (X.alloc (.cells #[.string ⟨y.nm.toArray⟩, ovI y, ovF y] 37)) := (Below.refl _ _).alloc (Nat.le_refl _) _
 have h1 := h.below hX1
 have hy1 := hy.below hX1
 obtain ⟨v', Y, hrun, hown, hg, _⟩ := zal (P := Tryz.prog) (X.alloc (.cells #[.string ⟨y.nm.toArray⟩, ovI y, ovF y] 37)) H 24 24 37 i0 _ 3 64 Tryz.underlying24 hi hz0 hz1 hz2 rfl (by decide) _ _ _ h1.row _ 1 (ovsV [y]) (new_ov X y 1) (by unfold maxLen; omega) (by omega) (by simp; omega)
 obtain ⟨g', c', rfl⟩ := za9 hown (by omega)
 have e1 : (ys ++ [y]).length = ys.length + 1 := by simp
 refine ⟨g', c', Y, hrun, ⟨?_, fun z hz => ?_⟩, (World.grownBy_alloc X _ _).trans hg⟩
 ·
  rw [e1, zgZ]; exact hown
 ·
  rw [List.mem_append, List.mem_singleton] at hz
  rcases hz with hz | rfl
  ·
   exact (h1.each z hz).obj h1.row hg
  ·
   exact hy1.obj h1.row hg
theorem Lo16.put (h : Lo16 X H g c ys) (j : Nat) (hy : Ov16 X H y) : Lo16 (((X.setCell ⟨g, j * 3, none⟩ (.string ⟨y.nm.toArray⟩)).setCell ⟨g, j * 3 + 1, none⟩ (ovI y)).setCell ⟨g, j * 3 + 2, none⟩ (ovF y)) H g c (ys.set j y) ∧ X.grownBy (((X.setCell ⟨g, j * 3, none⟩ (.string ⟨y.nm.toArray⟩)).setCell ⟨g, j * 3 + 1, none⟩ (ovI y)).setCell ⟨g, j * 3 + 2, none⟩ (ovF y)) (some g) := by
 obtain ⟨h1, g1⟩ := h.row.stored (j * 3) (.string ⟨y.nm.toArray⟩)
 obtain ⟨h2, g2⟩ := h1.stored (j * 3 + 1) (ovI y)
 obtain ⟨h3, g3⟩ := h2.stored (j * 3 + 2) (ovF y)
 rw [ovsV_set] at h3
 have hg := (g1.trans g2).trans g3
 have hl : (ys.set j y).length = ys.length := List.length_set
 refine ⟨⟨by rw [hl]; exact h3, fun z hz => ?_⟩, hg⟩
 rcases List.mem_or_eq_of_mem_set hz with e | rfl
 ·
  exact (h.each z e).obj h.row hg
 ·
  exact hy.obj h.row hg
theorem rts_at {X : World} {H q c : Nat} {xs : List RV} (h : za7 X H (.slice (some ⟨q, 0, Option.none⟩) xs.length c) xs) (hx : 0 < xs.length) : X.cell? ⟨q, 0, Option.none⟩ = some (.string ⟨(xs.getD 0 rv0).1.1.toArray⟩) ∧ X.cell? ⟨q, 1, Option.none⟩ = some (.int .i64 (xs.getD 0 rv0).1.2.1) ∧ X.cell? ⟨q, 2, Option.none⟩ = some (rvT (xs.getD 0 rv0)) :=
 ⟨World.ownsRow.cells h.row rfl 0 _ (zbS xs 0 hx).1, World.ownsRow.cells h.row rfl 1 _ (zbS xs 0 hx).2.1, World.ownsRow.cells h.row rfl 2 _ (zbS xs 0 hx).2.2⟩
theorem za7.args0 {X : World} {H q c : Nat} {xs : List RV} (h : za7 X H (.slice (some ⟨q, 0, Option.none⟩) xs.length c) xs) (hx : 0 < xs.length) (y : Int) : za7 (X.setCell ⟨q, 1, Option.none⟩ (.int .i64 y)) H (.slice (some ⟨q, 0, Option.none⟩) xs.length c) (xs.set 0 (((xs.getD 0 rv0).1.1, y, (xs.getD 0 rv0).1.2.2), (xs.getD 0 rv0).2)) ∧ X.grownBy (X.setCell ⟨q, 1, Option.none⟩ (.int .i64 y)) (some q) := by
 obtain ⟨z, r, rfl⟩ : ∃ z r, xs = z :: r := by cases xs with | nil => simp at hx | cons z r => exact ⟨z, r, rfl⟩
 obtain ⟨hr, hg⟩ := h.row.stored 1 (.int .i64 y)
 refine ⟨⟨hr, fun x hx => ?_⟩, hg⟩
 rcases List.mem_cons.1 hx with rfl | hx
 ·
  exact (h.trees z (by simp)).kept hg (za4 (h.trees z (by simp)) h.row (by decide))
 ·
  exact (h.trees x (by simp [hx])).kept hg (za4 (h.trees x (by simp [hx])) h.row (by decide))
theorem zjg {xs : List RV} (h : SmR xs) : IntR (xs.map (·.1)) ∧ zc0 (xs.map (·.1)) := by
 have key : ∀ r ∈ xs.map (·.1), SmRt r := fun r hr => by
  obtain ⟨x, hx, rfl⟩ := List.mem_map.1 hr
  exact h x hx
 generalize xs.map (·.1) = rs at key
 have e : ∀ j, ¬ j < rs.length → rs.getD j rt0 = rt0 := fun j hj => by rw [List.getD_eq_getElem?_getD, List.getElem?_eq_none (by omega)]; rfl
 have hm : ∀ j, j < rs.length → SmRt (rs.getD j rt0) := fun j hj => key _ (by rw [List.getD_eq_getElem?_getD, List.getElem?_eq_getElem hj]; exact List.getElem_mem hj)
 have hi : ∀ (q : List In13) (k : Nat), AllI q → SmI (q.getD k in0) := fun q k hq => by
  by_cases hk : k < q.length
  ·
   exact hq _ (by rw [List.getD_eq_getElem?_getD, List.getElem?_eq_getElem hk]; exact List.getElem_mem hk)
  ·
   rw [List.getD_eq_getElem?_getD, List.getElem?_eq_none (by omega)]
   show SmI in0
   unfold SmI in0
   simp
 refine ⟨fun j => ?_, fun j => ?_⟩
 ·
  by_cases hj : j < rs.length
  ·
   obtain ⟨_, h2, _, h4⟩ := hm j hj
   refine ⟨by omega, fun k => ?_⟩
   have h5 := hi _ k h4
   unfold SmI at h5
   unfold IntI
   omega
  ·
   rw [e j hj]; exact ⟨by simp [rt0], zex⟩
 ·
  by_cases hj : j < rs.length
  ·
   obtain ⟨h1, _, h3, h4⟩ := hm j hj
   refine ⟨by omega, by omega, fun k => ?_⟩
   have h5 := hi _ k h4
   unfold SmI at h5
   omega
  ·
   rw [e j hj]; exact ⟨by simp [rt0], by simp [rt0], fun k => by simp [rt0, in0]⟩
theorem Lo16.ok (h : Lo16 X H g c ys) (hn : ys.length ≤ 100) : zaY X (some ⟨g, 0, none⟩) ys.length c (ys.map ovP) := by
 refine ⟨by simp, (fun e => (by cases e)), h.cap, by omega, fun j hj => ?_⟩
 obtain ⟨c0, c1, c2⟩ := h.cells hj
 have hy := h.at hj
 obtain ⟨ai, ci, af, cf, e1, e2, h3, h4, hti, hfi⟩ := own_ob hy.im hy.fo rfl
 have hfo := hy.fo
 rw [e2] at hfo
 have hxl : (y0 : List RV) → y0.length = (y0.map (·.1)).length := fun l => by simp
 rw [zhl ys j]
 refine ⟨g, 0, rfl, h.gl.2, by rw [Nat.zero_add]; exact c0, ai, _, ci, af, _, cf, by rw [Nat.zero_add, c1, e1], by rw [Nat.zero_add, c2, e2], ⟨hti, ⟨hfo.cap rfl rfl, (zjg hy.sm).1, (zjg hy.sm).2, ?_⟩, h3, ?_, ?_, fun i => ?_⟩⟩
 ·
  have := hy.n; show ((ys.getD j ov0).xs.map (·.1)).length ≤ 1048576; rw [List.length_map]; omega
 ·
  have := hy.is.1; omega
 ·
  have := hy.nm; show (ys.getD j ov0).nm.length ≤ 1048576; omega
 ·
  by_cases hi : i < (ys.getD j ov0).ims.length
  ·
   have := hy.is.2 ((ys.getD j ov0).ims[i]) (List.getElem_mem hi)
   show ((ys.getD j ov0).ims.getD i []).length ≤ 1048576
   rw [List.getD_eq_getElem?_getD, List.getElem?_eq_getElem hi]
   simp only [Option.getD_some]
   omega
  ·
   show ((ys.getD j ov0).ims.getD i []).length ≤ 1048576
   rw [List.getD_eq_getElem?_getD, List.getElem?_eq_none (by omega)]; simp
end
end Go.Proofs.YtenaaneckobdpaaGreat
