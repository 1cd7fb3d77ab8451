/-
  Parts of one proof, one behind the other: Draw16M.
-/
import Derived.Test.YtenaaneckobdpaaGreatP25
import Derived.Deep.Cut
import Derived.Deep.CutRange
namespace Go.Proofs.YtenaaneckobdpaaGreat
open Go.RowKit
theorem zaY.drop {X : World} {g n c : Nat} {os : List Ob} (h : zaY X (some ⟨g, 0, none⟩) n c os) {k : Nat} (hk : k ≤ n) : zaY X (some ⟨g, k * 3, none⟩) (n - k) (c - k) (os.drop k) := by
 have hl := h.hlen
 have hc := h.hcap
 have hs := h.small
 refine ⟨by rw [List.length_drop, hl], (fun e => by cases e), by omega, by omega, fun j hj => ?_⟩
 obtain ⟨b, off, e, hlt, c0, ia, il, ic, fa, fl, fc, c1, c2, hok⟩ := h.each (j + k) (by omega)
 injection e with e
 injection e with e1 e2 _
 subst e1 e2
 have hg : (os.drop k).getD j ob0 = os.getD (j + k) ob0 := by simp [List.getD, Nat.add_comm]
 rw [hg]
 refine ⟨g, k * 3, rfl, hlt, ?_, ia, il, ic, fa, fl, fc, ?_, ?_, hok⟩
 ·
  rw [show k * 3 + j * 3 = 0 + (j + k) * 3 by omega]; exact c0
 ·
  rw [show k * 3 + j * 3 + 1 = 0 + (j + k) * 3 + 1 by omega]; exact c1
 ·
  rw [show k * 3 + j * 3 + 2 = 0 + (j + k) * 3 + 2 by omega]; exact c2
def Vis (X : World) (H : Nat) (v : Value) : Prop := (∃ la c, v = .slice (some la) 0 c) ∨ ∃ (g c k : Nat) (ys : List OV), k ≤ 1 ∧ k < ys.length ∧ ys.length ≤ 5 ∧ v = .slice (some ⟨g, k * 3, none⟩) (ys.length - k) (c - k) ∧ Lo16 X H g c ys
theorem Vis.ok {X : World} {H : Nat} {v : Value} (h : Vis X H v) : ∃ la n c os, v = .slice la n c ∧ n ≤ 6 ∧ zaY X la n c os := by
 rcases h with ⟨la, c, rfl⟩ | ⟨g, c, k, ys, h1, h2, h3, rfl, h4⟩
 ·
  exact ⟨_, 0, c, [], rfl, by omega, ⟨rfl, (fun e => by cases e), by omega, by omega, fun j hj => absurd hj (Nat.not_lt_zero _)⟩⟩
 ·
  exact ⟨_, _, _, _, rfl, by omega, (h4.ok (by omega)).drop (by omega)⟩
def D16 (w X : World) (B : Nat) (a : Option Addr) (len cap : Nat) (v : Value) : Prop := ∃ la n c os, v = .slice la n c ∧ n ≤ 6 ∧ zaY X la n c os ∧ Cur X B a len cap ∧ w.grownBy X (some B)
theorem Vis.out {w X : World} {B H : Nat} {a : Option Addr} {len cap : Nat} {v : Value} (h : Vis X H v) (hc : Cur X B a len cap) (hg : w.grownBy X (some B)) : D16 w X B a len cap v := by
 obtain ⟨la, n, c, os, h1, h2, h3⟩ := h.ok
 exact ⟨la, n, c, os, h1, h2, h3, hc, hg⟩
set_option maxHeartbeats 8000000 in
set_option maxRecDepth 100000 in
theorem drawObs (w : World) (B : Nat) (a : Option Addr) (len cap : Nat) (hc : Cur w B a len cap) :
 Calls Tryz.prog 36 #[.pointer (some ⟨B, 0, none⟩)] w fun e w' => ∃ v, e = .returned v ∧ D16 w w' B a len cap v := by
 have hBw := hc.lt
 have HD : Hid (_) := drawPs w B a len cap hc
 clear hc
 go_enter Tryz.func36, Tryz.ntmps36
 go_wp2_with fail
 refine Calls.mono HD.out ?_
 rintro e w1 ⟨L, la, lc, ys, vc, cs, rfl, hd, hy1, hy4⟩
 obtain ⟨g0, rfl⟩ : ∃ g, la = some ⟨g, 0, none⟩ := by obtain ⟨g, h, _⟩ := hd.pj hy1; exact ⟨g, h⟩
 have q8 := (hd.q8 ⟨hy1, hy4⟩).1
 have HDr : Hid (∀ j, j < ys.length → Pg15 (pvP (ys.getD j pv0)).1 (pvP (ys.getD j pv0)).2.1 (pvP (ys.getD j pv0)).2.2) := fun j hj => zhK hd hj
 have HP : Hid (zcv w1 (some ⟨g0, 0, none⟩) ys.length lc (ys.map pvP)) := q8.ok
 have HC1 : Hid (Cur w1 B a len cap) := q8.cur
 have HG1 : Hid (w.grownBy w1 (some B)) := q8.g
 have hBH := HC1.out.lt
 obtain ⟨nY, hnY⟩ : ∃ n, ys.length = n := ⟨_, rfl⟩
 have HyN : Hid (ys.length = nY) := hnY
 rw [hnY] at HP hy1 hy4 ⊢
 have st0 : Lo16 (w1.alloc (.cells #[] 37)) w1.heap.size w1.heap.size 0 [] := ⟨World.ownsRow_lit (base := w1.heap.size) (e := 37) (size := 3) w1 #[] 0 (Nat.le_refl _) (by decide) rfl, fun y hy => by cases hy⟩
 have hb0 : Below w1.heap.size w1 (w1.alloc (.cells #[] 37)) := (Below.refl _ _).alloc (Nat.le_refl _) _
 obtain ⟨H, hH⟩ : ∃ H, w1.heap.size = H := ⟨_, rfl⟩
 rw [hH] at st0 hb0 hBH
 have HL0 : Hid (Lo16 (w1.alloc (.cells #[] 37)) H H 0 []) := st0
 have HB0 : Hid (Below H w1 (w1.alloc (.cells #[] 37))) := hb0
 have HH : Hid (w1.heap.size = H) := hH
 have HwH : Hid (w.heap.size ≤ H) := by exact (by rw [← hH]; exact HG1.out.size : w.heap.size ≤ H)
 clear hd q8 HD hnY st0 hb0
 go_wp2
 go_loopw [4, 5] (fun ov iv wx => ∃ (i g c : Nat) (os : List OV), ov = .slice (some ⟨g, 0, none⟩) os.length c ∧ iv = .int .i64 (i : Int) ∧ i ≤ nY ∧ Hid (os.length = i) ∧ Hid (Lo16 wx H g c os) ∧ Hid (Below H w1 wx)) (fun _ iv _ => nY - (intOf iv).toNat)
 case atStart => exact ⟨0, H, 0, [], by first | rfl | (rw [hH]; rfl), rfl, Nat.zero_le _, (rfl : ([] : List OV).length = 0), HL0, HB0⟩
 case round =>
  obtain ⟨i, g, c, os, rfl, rfl, hi, HOl, HL, HB⟩ := hrel
  clear HL0 HB0 hH
  by_cases hlt : (i : Int) < (nY : Int)
  ·
   obtain ⟨b, off, hbe, hbl, c0, ia, il, ic, fa, fl, fc, c1, c2, hok⟩ := (HP.out.below (by rw [HH.out]; exact HB.out)).each i (by omega)
   injection hbe with hbe
   injection hbe with e1 e2 _
   subst e1 e2
   rw [Nat.zero_add] at c0 c1 c2
   have hj2 : i < ys.length := by rw [HyN.out]; omega
   have hgd : (ys.map pvP).getD i pk0 = pvP (ys.getD i pv0) := by simp [List.getD_eq_getElem?_getD, List.getElem?_eq_getElem hj2]
   rw [hgd] at c0 hok
   have hpg := HDr.out i hj2
   obtain ⟨p, hp⟩ : ∃ p, pvP (ys.getD i pv0) = p := ⟨_, rfl⟩
   rw [hp] at c0 hok hpg
   obtain ⟨pn, pim, pfs⟩ := p
   simp only at c0 hok hpg
   have HO : Hid (_) := zdW pn ia il ic fa fl fc pim pfs wr hok hpg
   have hos := hpg.os
   generalize zeP (pn, pim, pfs.map zd7) = ob at HO hos
   obtain ⟨on, oim, ors⟩ := ob
   have HOs : Hid (Os15 (on, oim, ors)) := hos
   simp only at HO
   clear hok hpg hos hp hgd hj2
   go_wp2_with fail
   refine Calls.mono HO.out ?_
   rintro e w4 ⟨vi, vr, xs, rfl, hxm, hoi, hor, hb4⟩
   obtain ⟨oa, oc, rfl⟩ := zcs hoi
   obtain ⟨ra, rc, rfl⟩ := zcs hor.row
   have hHr : H ≤ wr.heap.size := HB.out.size |> fun h => by have := HH.out; omega
   have hB4 := HB.out.trans (hb4.mono hHr)
   have hy : Ov16 w4 H ⟨on, oim, xs, oa, oc, ra, rc, 0, 0⟩ := by
    have h1 := HOs.out.rl
    have h2 : xs.length = ors.length := by rw [← hxm, List.length_map]
    simp only at h1
    exact ⟨zai hoi hHr, hor.base hHr, HOs.out.nm, ⟨Nat.le_trans HOs.out.im.1 (by omega), HOs.out.im.2⟩, by show xs.length ≤ 10; omega, smR_of hxm HOs.out.rt⟩
   have hol := HOl.out
   obtain ⟨g', c', Y, hr, hL, hg⟩ := (HL.out.below hb4).push hy (by have := hb4.size; omega) (by omega)
   have hgl := (HL.out.below hb4).gl
   have HBY : Hid (Below H w1 Y) := hB4.grown hg (by have := hB4.size; have := HH.out; omega) (fun q e => by injection e with e; omega)
   have HLY : Hid (Lo16 Y H g' c' (os ++ [⟨on, oim, xs, oa, oc, ra, rc, 0, 0⟩])) := hL
   have HOl2 : Hid ((os ++ [(⟨on, oim, xs, oa, oc, ra, rc, 0, 0⟩ : OV)]).length = i + 1) := by exact (by rw [List.length_append, HOl.out]; rfl : (os ++ [(⟨on, oim, xs, oa, oc, ra, rc, 0, 0⟩ : OV)]).length = i + 1)
   simp only [ovI, ovF] at hr
   clear hL hg hy hB4 hb4 hoi hor hxm HO HL HB HOs c0 c1 c2 hgl hol
   go_wp2_with (at_builtin; refine za0 rfl _ _ 24 rfl _ _ _ rfl rfl hr ?_)
   go_roundw
   case rel => exact ⟨i + 1, g', c', os ++ [⟨on, oim, xs, oa, oc, ra, rc, 0, 0⟩], by first | rfl | simp, by go_num, by omega, HOl2, HLY, HBY⟩
   case measure => simp [intOf]; omega
  ·
   obtain rfl : i = nY := by omega
   have hBH' : B < H := hBH
   have HC : Hid (Cur wr B a len cap) := HC1.out.below (by rw [HH.out]; exact HB.out)
   have HG : Hid (w.grownBy wr (some B)) := HG1.out.andThen (Below.by (by rw [HH.out]; exact HB.out)) (by simp)
   have HHr : Hid (H ≤ wr.heap.size) := by exact (by have := HB.out.size; have := HH.out; omega : H ≤ wr.heap.size)
   have HDo : Hid (_) := zbe wr B a len cap 4 (by omega) (by omega) HC.out
   clear HP HC1 HG1 HB HDr hlt hi
   go_wp2_with fail
   refine Calls.mono HDo.out ?_
   rintro e w5 ⟨bb, rfl, hc5, hg5⟩
   have HL5 : Hid (Lo16 w5 H g c os) := HL.out.grown hg5 hBH
   have HC5 : Hid (Cur w5 B a len cap) := hc5
   have HG5 : Hid (w.grownBy w5 (some B)) := HG.out.trans hg5
   have HH5 : Hid (H ≤ w5.heap.size) := Nat.le_trans HHr.out hg5.size
   clear hc5 hg5 HL HC HG HHr HDo
   go_upto_if 27 with fail
   go_cut [4] from 6 (fun v wx => Hid (Vis wx H v) ∧ Hid (Cur wx B a len cap) ∧ Hid (w.grownBy wx (some B)))
   case first =>
    rcases bb with _ | _
    ·
     go_wp2_with fail
     go_meet
     case rel =>
      have hol := HOl.out
      exact ⟨Or.inr ⟨g, c, 0, os, by omega, by omega, by omega, by simp, HL5.out⟩, HC5, HG5⟩
    ·
     have HDb : Hid (_) := zaf w5 B a len cap 4 (by omega) (by omega) HC5.out
     go_wp2_with fail
     refine Calls.mono HDb.out ?_
     rintro e w6 ⟨x, rfl, hx0, hx4, hc6, hg6⟩
     have HL6 : Hid (Lo16 w6 H g c os) := HL5.out.grown hg6 hBH
     have HC6 : Hid (Cur w6 B a len cap) := hc6
     have HG6 : Hid (w.grownBy w6 (some B)) := HG5.out.trans hg6
     have HH6 : Hid (H ≤ w6.heap.size) := Nat.le_trans HH5.out hg6.size
     have HKp : Hid (∀ Y, w6.grownBy Y (some g) → Cur Y B a len cap ∧ w.grownBy Y (some B)) := fun Y hg => by
      have h1 := HL6.out.gl
      have h2 := HwH.out
      exact ⟨HC6.out.kept hg (fun k e => by injection e with e; omega), HG6.out.andThen hg (fun k e => Or.inl (by injection e with e; omega))⟩
     clear hc6 hg6 HL5 HC5 HG5 HH5 HDb
     rcases (show x = 0 ∨ x = 1 ∨ x = 2 ∨ x = 3 by omega) with rfl | rfl | rfl | rfl
     ·
      have h0 : 0 < os.length := by have := HOl.out; omega
      obtain ⟨c0, c1, c2⟩ := HL6.out.cells h0
      have hy := HL6.out.at h0
      obtain ⟨y, hyy⟩ : ∃ y, os.getD 0 ov0 = y := ⟨_, rfl⟩
      rw [hyy] at c0 c1 c2 hy
      obtain ⟨g', c', Y, hr, hL, hg⟩ := HL6.out.push hy HH6.out (by have := HOl.out; omega)
      have HLY : Hid (Lo16 Y H g' c' (os ++ [y])) := hL
      obtain ⟨h1, h2⟩ := HKp.out Y hg
      have HCY : Hid (Cur Y B a len cap) := h1
      have HGY : Hid (w.grownBy Y (some B)) := h2
      have HLn : Hid ((os ++ [y]).length = i + 1 ∧ (os ++ [y]).length = os.length + 1) := And.intro (by rw [List.length_append, HOl.out]; rfl) (by simp)
      obtain ⟨n0, i0, x0, ia, ic, fa, fc, lo, hi⟩ := y
      simp only [ovI, ovF] at hr c0 c1 c2
      have hn0 : (0 : Int) < (os.length : Int) := by omega
      rw [Nat.zero_mul] at c0
      rw [Nat.zero_mul, Nat.zero_add] at c1 c2
      clear hL hg hy hyy h0 h1 h2 HKp HL6 HC6 HG6
      go_wp2_with (at_builtin; refine za0 rfl _ _ 24 rfl _ _ _ rfl rfl hr ?_)
      go_meet
      case rel => exact ⟨Or.inr ⟨g', c', 0, _, by omega, by have := HLn.out; omega, by have := HLn.out; omega, by have := HLn.out.2; simp, HLY.out⟩, HCY, HGY⟩
     ·
      have hcap := HL6.out.cap
      have hol := HOl.out
      by_cases hc1 : c = 1
      ·
       obtain rfl : c = 1 := hc1
       obtain ⟨o, rfl⟩ : ∃ o, os = [o] := List.length_eq_one_iff.1 (by omega)
       clear hol hcap
       go_wp2
       go_meet
       case rel => exact ⟨Or.inl ⟨_, _, rfl⟩, HC6, HG6⟩
      ·
       by_cases hn1 : os.length = 1
       ·
        obtain ⟨o, rfl⟩ : ∃ o, os = [o] := List.length_eq_one_iff.1 hn1
        have hci : (1 : Int) ≤ (c : Int) := by simp at hcap; omega
        clear hol hcap hn1
        go_wp2
        go_meet
        case rel => exact ⟨Or.inl ⟨_, _, rfl⟩, HC6, HG6⟩
       ·
        obtain ⟨n, hn⟩ : ∃ n, os.length = n := ⟨_, rfl⟩
        have HN : Hid (os.length = n) := hn
        rw [hn] at hcap hol hn1 ⊢
        have h1i : (1 : Int) ≤ (n : Int) := by omega
        have hci : (n : Int) ≤ (c : Int) := by omega
        have HLn : Hid (2 ≤ n ∧ n ≤ 4) := And.intro (by omega) (by omega)
        clear hol hn hn1 hcap
        go_wp2
        go_meet
        case rel =>
         have hn := HN.out
         have h2 := HLn.out
         exact ⟨Or.inr ⟨g, c, 1, os, by omega, by omega, by omega, by rw [hn], HL6.out⟩, HC6, HG6⟩
     ·
      have HDA : Hid (_) := zkg w6 B a len cap HC6.out
      go_wp2_with fail
      refine Calls.mono HDA.out ?_
      rintro e w7 ⟨v, rfl, n', i', c', m', f', g', z', rfl, hnm, him, hxl, hxs, hoi, hor, hc7, hg7⟩
      have HH7 : Hid (H ≤ w7.heap.size) := Nat.le_trans HH6.out hg7.size
      have hy : Ov16 w7 H ⟨n', m', z', i', c', f', g', 0, 0⟩ := ⟨zai hoi HH6.out, hor.base HH6.out, hnm, him, hxl, hxs⟩
      have hL7 := HL6.out.grown hg7 hBH
      obtain ⟨g2, c2, Y, hr, hL, hg⟩ := hL7.push hy HH7.out (by have := HOl.out; omega)
      have HLY : Hid (Lo16 Y H g2 c2 (os ++ [⟨n', m', z', i', c', f', g', 0, 0⟩])) := hL
      have HCY : Hid (Cur Y B a len cap) := hc7.kept hg (fun k e => by injection e with e; have := HL6.out.gl; omega)
      have HGY : Hid (w.grownBy Y (some B)) := (HG6.out.trans hg7).andThen hg (fun k e => Or.inl (by injection e with e; have := HL6.out.gl; have := HwH.out; omega))
      have HLn : Hid ((os ++ [(⟨n', m', z', i', c', f', g', 0, 0⟩ : OV)]).length = i + 1) := by exact (by rw [List.length_append, HOl.out]; rfl : (os ++ [(⟨n', m', z', i', c', f', g', 0, 0⟩ : OV)]).length = i + 1)
      simp only [ovI, ovF] at hr
      clear hL hg hy hL7 hoi hor hc7 hg7 HKp HL6 HC6 HG6 HDA hnm him hxl hxs
      go_wp2_with (at_builtin; refine za0 rfl _ _ 24 rfl _ _ _ rfl rfl hr ?_)
      go_meet
      case rel => exact ⟨Or.inr ⟨g2, c2, 0, _, by omega, by have := HLn.out; omega, by have := HLn.out; omega, by simp, HLY.out⟩, HCY, HGY⟩
     ·
      obtain ⟨m, hm⟩ : ∃ m, os.length = m + 1 := ⟨os.length - 1, by have := HOl.out; omega⟩
      have HM : Hid (os.length = m + 1 ∧ m + 1 = i) := And.intro hm (by have := HOl.out; omega)
      have hml : m < os.length := by omega
      obtain ⟨a0, a1, a2⟩ := HL6.out.cells hml
      have hy := HL6.out.at hml
      obtain ⟨y, hyy⟩ : ∃ y, os.getD m ov0 = y := ⟨_, rfl⟩
      rw [hyy] at a0 a1 a2 hy
      have hb8 : Below w6.heap.size w6 (w6.alloc (.cells #[.string ⟨y.nm.toArray⟩, ovI y, ovF y] 37)) := (Below.refl _ _).alloc (Nat.le_refl _) _
      have x8 := (Bq.new w6 (.string ⟨y.nm.toArray⟩) (ovI y) (ovF y) 37).1
      obtain ⟨W8, hW8⟩ : ∃ W, w6.alloc (.cells #[.string ⟨y.nm.toArray⟩, ovI y, ovF y] 37) = W := ⟨_, rfl⟩
      have hs8 : W8.heap.size = w6.heap.size + 1 := by rw [← hW8]; simp
      rw [hW8] at hb8 x8
      have HB8 : Hid (Below w6.heap.size w6 W8) := hb8
      have HS8 : Hid (W8.heap.size = w6.heap.size + 1) := hs8
      obtain ⟨E, hE⟩ : ∃ E, w6.heap.size = E := ⟨_, rfl⟩
      have HE : Hid (w6.heap.size = E) := hE
      rw [hE] at x8
      have HX8 : Hid (Bq W8 E (.string ⟨y.nm.toArray⟩) (ovI y) (ovF y)) := x8
      have HY6 : Hid (Ov16 w6 H y) := hy
      have e0 := x8.box.c0
      have e1 := x8.box.c1
      have e2 := x8.box.c2
      have hm4 : m ≤ 4 := by have := HM.out.2; omega
      have HEnd : Hid (∀ Y, Below w6.heap.size w6 Y → Vis Y H (.slice (some ⟨g, 0 * 3, none⟩) (os.length - 0) (c - 0)) ∧ Cur Y B a len cap ∧ w.grownBy Y (some B)) := fun Y hb => ⟨Or.inr ⟨g, c, 0, os, by omega, by omega, by have := HM.out; omega, rfl, HL6.out.below hb⟩, HC6.out.below hb, HG6.out.andThen (Below.by hb) (by simp)⟩
      rw [hm]
      clear hm hml hb8 x8 hs8 hy hyy
      obtain ⟨yn, yi, yx, ya, yc, yf, yg, ylo, yhi⟩ := y
      simp only [ovI, ovF] at a0 a1 a2 e0 e1 e2 hW8 HX8
      have hlI : ((m : Int) + 1 - 1) = (m : Int) := by omega
      by_cases hx0 : yx.length = 0
      ·
       obtain rfl : yx = [] := List.length_eq_zero_iff.1 hx0
       have hEnd := HEnd.out W8 HB8.out
       have HV1 : Hid (Vis W8 H (.slice (some ⟨g, 0, none⟩) (m + 1) c)) := by exact (by have h := hEnd.1; rw [HM.out.1] at h; exact h : Vis W8 H (.slice (some ⟨g, 0, none⟩) (m + 1) c))
       have HC1 : Hid (Cur W8 B a len cap) := hEnd.2.1
       have HG1 : Hid (w.grownBy W8 (some B)) := hEnd.2.2
       simp only [List.length_nil] at a2 e2 hW8
       clear hx0 HEnd hEnd
       go_wp2
       go_meet
       case rel => exact ⟨HV1, HC1, HG1⟩
      ·
       obtain ⟨q, cq, hq⟩ := za9 HY6.out.fo.row (by omega)
       injection hq with e3 _ e5
       have e3 : yf = some ⟨q, 0, none⟩ := e3
       have e5 : yg = cq := e5
       subst e3 e5
       have hfo8 : za7 W8 H (.slice (some ⟨q, 0, none⟩) yx.length yg) yx := HY6.out.fo.below HB8.out
       have hx1 : 0 < yx.length := by omega
       obtain ⟨s0, s1, s2⟩ := rts_at hfo8 hx1
       obtain ⟨z, hz⟩ : ∃ z, (yx.getD 0 rv0).1.2.1 = z := ⟨_, rfl⟩
       have hzs := (HY6.out.sm _ (zeW (by omega : 1 ≤ yx.length))).2.1
       have hx1i : (0 : Int) < (yx.length : Int) := by omega
       rw [hz] at s1 hzs
       have HZ : Hid ((yx.getD 0 rv0).1.2.1 = z) := hz
       by_cases hz3 : z < 3
       rotate_left
       ·
        have hEnd := HEnd.out W8 HB8.out
        have HV1 : Hid (Vis W8 H (.slice (some ⟨g, 0, none⟩) (m + 1) c)) := by exact (by have h := hEnd.1; rw [HM.out.1] at h; exact h : Vis W8 H (.slice (some ⟨g, 0, none⟩) (m + 1) c))
        have HC1 : Hid (Cur W8 B a len cap) := hEnd.2.1
        have HG1 : Hid (w.grownBy W8 (some B)) := hEnd.2.2
        clear hx0 HEnd hEnd hz hfo8
        go_wp2
        go_meet
        case rel => exact ⟨HV1, HC1, HG1⟩
       ·
        have hb9 : Below W8.heap.size W8 (W8.alloc (.cells #[] 41)) := (Below.refl _ _).alloc (Nat.le_refl _) _
        have hfo9 := hfo8.below hb9
        have e9 := (HX8.out.below hb9).box.c2
        have ho9 : za7 (W8.alloc (.cells #[] 41)) H (.slice (some ⟨W8.heap.size, 0, none⟩) ([] : List RV).length 0) [] := ⟨World.ownsRow_lit (base := H) (e := 41) (size := 3) W8 #[] 0 (by have := HH6.out; have := HB8.out.size; omega) (by decide) rfl, fun x hx => by cases hx⟩
        obtain ⟨g', c', Y, hr, hoY, hgY, hat⟩ := appS ho9 (zgY hfo9.row (zdo yx)) (fun x hx => hfo9.trees x hx) (by have := HH6.out; have := HB8.out.size; have := hb9.size; omega) (by have := HY6.out.n; simp; simp at this; omega)
        have hbY : Below W8.heap.size W8 Y := hb9.grown hgY hb9.size (fun k e => by injection e with e; omega)
        have hg' : W8.heap.size ≤ g' := by have := hb9.size; omega
        have xY := HX8.out.below hbY
        have yf2 := xY.fr 2
        have ye2 := xY.box.c2
        rw [List.nil_append] at hoY
        simp only [List.length_nil, Nat.zero_add] at hr
        have hEg : g' ≠ E := by have := HS8.out; have := HE.out; omega
        have hgZ := zaB Y E 2 (.slice (some ⟨g', 0, none⟩) yx.length c')
        have xZ := xY.s2 (.slice (some ⟨g', 0, none⟩) yx.length c')
        have hbl : ∀ k, k < w6.heap.size → k ≠ E := fun k hk => by have := HE.out; omega
        have hoZ : za7 (Y.setCell ⟨E, 2, none⟩ (.slice (some ⟨g', 0, none⟩) yx.length c')) H (.slice (some ⟨g', 0, none⟩) yx.length c') yx := hoY.kept hgZ (Or.inr (fun e => by injection e with e; exact hEg e)) (fun x hx => by
         rcases hv : (rvT x).ownBlock with _ | k
         ·
          exact Or.inl rfl
         ·
          exact Or.inr (fun e => by injection e with e; exact hbl k ((HY6.out.fo.trees x hx).lt k hv).2 e))
        have hbZ : Below w6.heap.size w6 (Y.setCell ⟨E, 2, none⟩ (.slice (some ⟨g', 0, none⟩) yx.length c')) := (HB8.out.trans (hbY.mono HB8.out.size)).grown hgZ (by have := HB8.out.size; have := hbY.size; omega) (fun k e => by injection e with e; have := HE.out; omega)
        obtain ⟨Z, hZ⟩ : ∃ Z, Y.setCell ⟨E, 2, none⟩ (.slice (some ⟨g', 0, none⟩) yx.length c') = Z := ⟨_, rfl⟩
        rw [hZ] at xZ hoZ hbZ
        have hd : Below Z.heap.size Z Z.drew := ⟨rfl, rfl, rfl, Nat.le_refl _, fun _ _ => rfl⟩
        have xD := xZ.below hd
        have hoD := hoZ.below hd
        have hbD := hbZ.trans (hd.mono hbZ.size)
        have z2 := xD.box.c2
        obtain ⟨t0, t1, t2⟩ := rts_at hoD hx1
        rw [hz] at t1
        have tf : Z.drew.frozen? ⟨g', 1, none⟩ = false := hoD.row.frozenAt 1
        obtain ⟨hoV0, hgV0⟩ := hoD.args0 hx1 (z + 1)
        have hbV0 : Below w6.heap.size w6 (Z.drew.setCell ⟨g', 1, none⟩ (.int .i64 (z + 1))) := hbD.grown hgV0 hbD.size (fun k e => by injection e with e; have := HS8.out; omega)
        have xV0 := xD.keep (hgV0.block E xD.box.lt (fun e => by injection e with e; exact hEg e.symm))
        obtain ⟨V, hV⟩ : ∃ V, (Z.setCell ⟨g', 1, none⟩ (.int .i64 (z + 1))).drew = V := ⟨_, rfl⟩
        have hV0 : Z.drew.setCell ⟨g', 1, none⟩ (.int .i64 (z + 1)) = V := by rw [← hV]; rfl
        rw [hV0] at hoV0 hbV0 xV0
        have hoV := hoV0
        have hbV := hbV0
        have xV := xV0
        have v0 := xV.box.c0
        have v1 := xV.box.c1
        have v2 := xV.box.c2
        generalize hyx : yx.set 0 (((yx.getD 0 rv0).1.1, z + 1, (yx.getD 0 rv0).1.2.2), (yx.getD 0 rv0).2) = yx2 at hoV
        have hyl : yx2.length = yx.length := by rw [← hyx, List.length_set]
        have hys : SmR yx2 := by rw [← hyx]; exact rs_set HY6.out.sm ⟨(HY6.out.sm _ (zeW (by omega : 1 ≤ yx.length))).1, ⟨by show -10 ≤ z + 1; omega, by show z + 1 ≤ 10; omega⟩, (HY6.out.sm _ (zeW (by omega : 1 ≤ yx.length))).2.2⟩
        have hyV : Ov16 V H ⟨yn, yi, yx2, ya, yc, some ⟨g', 0, none⟩, c', 0, 0⟩ := ⟨za6 HY6.out.im hbV, by show za7 V H (.slice (some ⟨g', 0, none⟩) yx2.length c') yx2; rw [hyl]; exact hoV, HY6.out.nm, HY6.out.is, by have := HY6.out.n; show yx2.length ≤ 10; rw [hyl]; exact this, hys⟩
        have hLV := HL6.out.below hbV
        have hml : m < os.length := by have := HM.out; omega
        obtain ⟨o0, o1, o2⟩ := hLV.cells hml
        have of : ∀ j, V.frozen? ⟨g, j, none⟩ = false := fun j => hLV.row.frozenAt j
        obtain ⟨hLF, hgF⟩ := hLV.put m hyV
        have hcF := HC6.out.below hbV
        have hwF := HG6.out.andThen (Below.by hbV) (by simp)
        simp only [ovI, ovF] at hLF hgF
        rw [hyl] at hLF hgF
        obtain ⟨F, hF⟩ : ∃ F, ((V.setCell ⟨g, m * 3, none⟩ (.string ⟨yn.toArray⟩)).setCell ⟨g, m * 3 + 1, none⟩ (.slice ya yi.length yc)).setCell ⟨g, m * 3 + 2, none⟩ (.slice (some ⟨g', 0, none⟩) yx.length c') = F := ⟨_, rfl⟩
        rw [hF] at hLF hgF
        have hglV := hLV.gl
        have HCF : Hid (Cur F B a len cap) := hcF.kept hgF (fun k e => by injection e with e; omega)
        have HGF : Hid (w.grownBy F (some B)) := hwF.andThen hgF (fun k e => Or.inl (by injection e with e; have := HwH.out; omega))
        have HLF : Hid (Lo16 F H g c (os.set m ⟨yn, yi, yx2, ya, yc, some ⟨g', 0, none⟩, c', 0, 0⟩)) := hLF
        have HFl : Hid ((os.set m ⟨yn, yi, yx2, ya, yc, some ⟨g', 0, none⟩, c', 0, 0⟩).length = m + 1) := by exact (by rw [List.length_set]; exact HM.out.1 : (os.set m ⟨yn, yi, yx2, ya, yc, some ⟨g', 0, none⟩, c', 0, 0⟩).length = m + 1)
        generalize os.set m ⟨yn, yi, yx2, ya, yc, some ⟨g', 0, none⟩, c', 0, 0⟩ = fs at HLF HFl
        have hzi : z + 1 ≤ 11 := by omega
        have hzl : -10 ≤ z := hzs.1
        clear hLF hgF hcF hwF hyV hLV hys hyl hyx hoV hbV xV xZ hoZ hbZ hgZ hoY hgY hat hbY xY hfo9 ho9 hb9 hfo8 hz hml hglV hbl hx0 hx1 HEnd hzs hd xD hoD hbD hoV0 hbV0 xV0 hgV0 hV0
        go_wp2_with (at_builtin; refine za0 rfl _ _ 26 rfl _ _ _ rfl rfl hr ?_)
        go_region_with (fail)
        all_goals (go_wp2; go_meet; case rel => exact ⟨Or.inr ⟨g, c, 0, fs, by omega, by have := HFl.out; omega, by have := HFl.out; omega, by have h := HFl.out; rw [h]; rfl, HLF.out⟩, HCF, HGF⟩)
   case rest =>
    obtain ⟨hv, HCc, HGc⟩ := hcut
    clear HL5 HC5 HG5 HH5
    rcases hv.out with ⟨la, cz, rfl⟩ | ⟨g, c, k, zs, hk, hkz, hz5, rfl, hL⟩
    ·
     have HV : Hid (Vis wc H (.slice (some la) 0 cz)) := hv
     clear hv
     go_wp2
     go_ret
     exact ⟨_, rfl, HV.out.out HCc.out HGc.out⟩
    ·
     have HV : Hid (Vis wc H (.slice (some ⟨g, k * 3, none⟩) (zs.length - k) (c - k))) := hv
     have HLc : Hid (Lo16 wc H g c zs) := hL
     clear hv hL
     obtain ⟨n, hn⟩ : ∃ n, zs.length - k = n := ⟨_, rfl⟩
     have HN : Hid (zs.length - k = n) := hn
     rw [hn] at HV ⊢
     by_cases hn1 : (1 : Int) < (n : Int)
     rotate_left
     ·
      clear hn hkz hz5
      go_wp2
      go_ret
      exact ⟨_, rfl, HV.out.out HCc.out HGc.out⟩
     ·
      have HDo : Hid (_) := zbe wc B a len cap 2 (by omega) (by omega) HCc.out
      have HKz : Hid (k < zs.length ∧ zs.length ≤ 5) := ⟨hkz, hz5⟩
      clear hn hkz hz5
      go_wp2_with fail
      refine Calls.mono HDo.out ?_
      rintro e w6 ⟨bb, rfl, hc6, hg6⟩
      have HL6 : Hid (Lo16 w6 H g c zs) := HLc.out.grown hg6 hBH
      have HC6 : Hid (Cur w6 B a len cap) := hc6
      have HG6 : Hid (w.grownBy w6 (some B)) := HGc.out.trans hg6
      clear hc6 hg6 HLc HCc HGc HDo HV
      rcases bb with _ | _
      ·
       go_wp2
       go_ret
       have h1 := HN.out
       have h2 := HKz.out
       exact ⟨_, rfl, Vis.out (Or.inr ⟨g, c, k, zs, hk, h2.1, h2.2, by rw [h1]; rfl, HL6.out⟩) HC6.out HG6.out⟩
      ·
       obtain ⟨m, rfl⟩ : ∃ m, n = m + 2 := ⟨n - 2, by omega⟩
       have hz1 : k < zs.length := HKz.out.1
       have hz2 : k + (m + 1) < zs.length := by have := HN.out; omega
       obtain ⟨a0, a1, a2⟩ := HL6.out.cells hz1
       obtain ⟨b0, b1, b2⟩ := HL6.out.cells hz2
       rw [Nat.add_mul] at b0 b1 b2
       have hy := HL6.out.at hz1
       have hz := HL6.out.at hz2
       obtain ⟨y, hyy⟩ : ∃ y, zs.getD k ov0 = y := ⟨_, rfl⟩
       obtain ⟨z, hzz⟩ : ∃ z, zs.getD (k + (m + 1)) ov0 = z := ⟨_, rfl⟩
       rw [hyy] at a0 a1 a2 hy
       rw [hzz] at b0 b1 b2 hz
       have hgl := HL6.out.gl
       have hb8 : Below w6.heap.size w6 (w6.alloc (.cells #[.string ⟨y.nm.toArray⟩, ovI y, ovF y] 37)) := (Below.refl _ _).alloc (Nat.le_refl _) _
       have x8 := Bq.new w6 (.string ⟨y.nm.toArray⟩) (ovI y) (ovF y) 37
       obtain ⟨W8, hW8⟩ : ∃ W, w6.alloc (.cells #[.string ⟨y.nm.toArray⟩, ovI y, ovF y] 37) = W := ⟨_, rfl⟩
       rw [hW8] at hb8 x8
       obtain ⟨E, hE⟩ : ∃ E, w6.heap.size = E := ⟨_, rfl⟩
       have hgE : g ≠ E := by omega
       have hL8 := HL6.out.below hb8
       have hy8 := hy.below hb8
       have hz8 := hz.below hb8
       have x80 := x8.1
       rw [hE] at x80
       obtain ⟨p0, p1, p2⟩ := hL8.cells hz1
       obtain ⟨d0, d1, d2⟩ := hL8.cells hz2
       rw [hzz] at d0 d1 d2
       rw [Nat.add_mul] at d0 d1 d2
       have dz : ∀ j, W8.frozen? ⟨g, j, none⟩ = false := fun j => hL8.row.frozenAt j
       obtain ⟨hL9, hg9⟩ := hL8.put k hz8
       have hz9 : Ov16 _ H z := hz8.obj hL8.row hg9
       have hy9 : Ov16 _ H y := hy8.obj hL8.row hg9
       obtain ⟨V1, hV1⟩ : ∃ V, ((W8.setCell ⟨g, k * 3, none⟩ (.string ⟨z.nm.toArray⟩)).setCell ⟨g, k * 3 + 1, none⟩ (ovI z)).setCell ⟨g, k * 3 + 2, none⟩ (ovF z) = V := ⟨_, rfl⟩
       rw [hV1] at hL9 hg9 hy9 hz9
       have vz : ∀ j, V1.frozen? ⟨g, j, none⟩ = false := fun j => hL9.row.frozenAt j
       have x9 := x80.keep (hg9.block E x80.box.lt (fun e => by injection e with e; exact hgE e.symm))
       have e0 := x9.box.c0
       have e1 := x9.box.c1
       have e2 := x9.box.c2
       have hz3 : k + (m + 1) < (zs.set k z).length := by rw [List.length_set]; exact hz2
       obtain ⟨q0, q1, q2⟩ := hL9.cells hz3
       obtain ⟨hL10, hg10⟩ := hL9.put (k + (m + 1)) hy9
       rw [Nat.add_mul] at hL10 hg10 q0 q1 q2
       obtain ⟨V2, hV2⟩ : ∃ V, ((V1.setCell ⟨g, k * 3 + (m + 1) * 3, none⟩ (.string ⟨y.nm.toArray⟩)).setCell ⟨g, k * 3 + (m + 1) * 3 + 1, none⟩ (ovI y)).setCell ⟨g, k * 3 + (m + 1) * 3 + 2, none⟩ (ovF y) = V := ⟨_, rfl⟩
       rw [hV2] at hL10 hg10
       have HLF : Hid (Lo16 V2 H g c ((zs.set k z).set (k + (m + 1)) y)) := hL10
       have hgg := (World.grownBy.trans hg9 hg10)
       have HCF : Hid (Cur V2 B a len cap) := (HC6.out.below hb8).kept hgg (fun q e => by injection e with e; omega)
       have HGF : Hid (w.grownBy V2 (some B)) := (HG6.out.andThen (Below.by hb8) (by simp)).andThen hgg (fun q e => Or.inl (by injection e with e; have := HwH.out; omega))
       have HFl : Hid (((zs.set k z).set (k + (m + 1)) y).length = zs.length) := by exact (by rw [List.length_set, List.length_set] : ((zs.set k z).set (k + (m + 1)) y).length = zs.length)
       generalize (zs.set k z).set (k + (m + 1)) y = fs at HLF HFl
       clear hL10 hg10 hL9 hg9 hy9 hz9 x9 x80 x8 hL8 hy8 hz8 hb8 hy hz hyy hzz hgl hgg hz1 hz2 hz3 HL6 HC6 HG6
       obtain ⟨yn, yi, yx, ya, yc, yf, yg, ylo, yhi⟩ := y
       obtain ⟨zn, zi, zx, za, zc, zf, zg, zlo, zhi⟩ := z
       have hm5 : m + 2 ≤ 5 := by have := HN.out; have := HKz.out; omega
       have hix : ((m : Int) + 2 - 1).toNat = m + 1 := by omega
       simp only [ovI, ovF] at a0 a1 a2 b0 b1 b2 d0 d1 d2 e0 e1 e2 hW8 hV1 hV2
       go_wp2
       go_ret
       have h1 := HN.out
       have h2 := HKz.out
       have h3 := HFl.out
       exact ⟨_, rfl, Vis.out (Or.inr ⟨g, c, k, fs, hk, by omega, by omega, by rw [h3, h1]; rfl, HLF.out⟩) HCF.out HGF.out⟩
end Go.Proofs.YtenaaneckobdpaaGreat
