/-
  Parts of one proof, one behind the other: Draw7B, Draw8.
-/
import Derived.Test.YtaioedcaopbgkaaP26
import Derived.Test.YtaioedcaopbgkaaP10
import Derived.Test.YtaioedcaopbgkaaP25
import Derived.Deep.RegionWith
import Derived.Deep.RegionHeld3
import Derived.Deep.Cut
import Derived.Deep.CutRange
import Derived.Lib.SmallJoins

/-! A package is drawn: l7Draw. -/
namespace Go.Proofs.Ytaioedcaopbgkaa
open Go.RowKit

def SmallFn (f : Fn) : Prop := f.1.length ≤ 9 ∧ (-10 ≤ f.2.1 ∧ f.2.1 ≤ 10) ∧ f.2.2.length ≤ 100 ∧ SmallT f.2.2
def SmallXs (xs : List FV) : Prop := ∀ x ∈ xs, SmallFn x.1
/-- As l7Draw makes them. -/
def DrawnXs (xs : List FV) : Prop := ∀ x ∈ xs, SmallFn x.1 ∧ 0 ≤ x.1.2.1 ∧ x.1.2.1 ≤ 3 ∧ treeB x.1.2.2 = true
theorem DrawnXs.small {xs : List FV} (h : DrawnXs xs) : SmallXs xs := fun x hx => (h x hx).1

set_option maxHeartbeats 8000000 in
set_option maxRecDepth 100000 in
theorem drawPk (w : World) (B : Nat) (a : Option Addr) (len cap : Nat) (nm : List UInt8) (ia : Option Addr) (il ic : Nat) (ca : Option Addr) (cl cc : Nat) (calls : List Nd) (hc : Cur w B a len cap) (hnm : nm.length ≤ 9) (hin : NodesIn w ca cl calls) (hcc : ca = none → cc = 0) (hcl : cl ≤ 100) (hsm : SmallT calls) (hkd : ∀ n ∈ calls, kidsV n ≤ 3) :
 Calls Try.prog 43 #[.pointer (some ⟨B, 0, none⟩), .string ⟨nm.toArray⟩, .slice ia il ic, .slice ca cl cc] w fun e w' => ∃ fa fc xs, e = .returned (.agg #[.string ⟨nm.toArray⟩, .slice ia il ic, .slice fa (xs : List FV).length fc]) ∧ FnsOwn w' w.heap.size (.slice fa xs.length fc) xs ∧ (1 ≤ xs.length ∧ xs.length ≤ 3) ∧ DrawnXs xs ∧ Cur w' B a len cap ∧ w.grownBy w' (some B) := by
 obtain ⟨i0, hi, hz0, hz1, hz2⟩ := info_parts infoNode
 obtain ⟨W1, hW1⟩ : ∃ W, w.alloc (.cells #[.string ⟨#[]⟩, .slice none 0 0, .slice none 0 0] 76) = W := ⟨_, rfl⟩
 obtain ⟨bR, hb1⟩ := Box3.new w (.string ⟨#[]⟩) (.slice none 0 0) (.slice none 0 0) 76
 have hAr := heap_alloc_new w (.cells #[.string ⟨#[]⟩, .slice none 0 0, .slice none 0 0] 76)
 rw [hW1] at bR hb1 hAr
 obtain ⟨bP, hb2⟩ := Box3.new W1 (.string ⟨nm.toArray⟩) (.slice ia il ic) (.slice none 0 0) 76
 have hAp := heap_alloc_new W1 (.cells #[.string ⟨nm.toArray⟩, .slice ia il ic, .slice none 0 0] 76)
 have HS1 : Hid (W1.heap.size = w.heap.size + 1) := by exact (by rw [← hW1]; simp : W1.heap.size = w.heap.size + 1)
 have hB2 : Below w.heap.size w (W1.alloc (.cells #[.string ⟨nm.toArray⟩, .slice ia il ic, .slice none 0 0] 76)) := hb1.trans (hb2.mono hb1.size)
 have hown0 := World.ownsRow_lit (base := W1.heap.size + 1) (e := 73) (size := 4) (W1.alloc (.cells #[.string ⟨nm.toArray⟩, .slice ia il ic, .slice none 0 0] 76)) #[] 0 (by simp) (by decide) rfl
 have hbA : Below (W1.alloc (.cells #[.string ⟨nm.toArray⟩, .slice ia il ic, .slice none 0 0] 76)).heap.size (W1.alloc (.cells #[.string ⟨nm.toArray⟩, .slice ia il ic, .slice none 0 0] 76)) ((W1.alloc (.cells #[.string ⟨nm.toArray⟩, .slice ia il ic, .slice none 0 0] 76)).alloc (.cells #[] 73)) := (Below.refl _ _).alloc (Nat.le_refl _) _
 obtain ⟨v3, w3, hrun, hown3, hg3, _⟩ := run_append_src (P := Try.prog) ((W1.alloc (.cells #[.string ⟨nm.toArray⟩, .slice ia il ic, .slice none 0 0] 76)).alloc (.cells #[] 73)) (W1.heap.size + 1) 71 71 73 i0 _ 4 48 Try.underlying71 hi hz0 hz1 hz2 rfl (by decide) _ _ _ hown0 (.slice ca cl cc) cl (nodesV calls) (((hin.below hB2).below hbA).src hcc) (by unfold maxLen; omega) (by omega) (by simp)
 rw [World.size_alloc] at hrun hg3
 have hown3b : w3.ownsRow (W1.heap.size + 1) 73 4 v3 calls.length (nodesV calls) := by
  have h := hown3
  rw [List.nil_append, Nat.zero_add] at h
  rw [hin.1]; exact h
 have hg0 : (W1.alloc (.cells #[.string ⟨nm.toArray⟩, .slice ia il ic, .slice none 0 0] 76)).grownBy w3 (some (W1.heap.size + 1)) := (World.grownBy_alloc (W1.alloc (.cells #[.string ⟨nm.toArray⟩, .slice ia il ic, .slice none 0 0] 76)) (.cells #[] 73) (some (W1.heap.size + 1))).trans hg3
 have HST : Hid (DrSt w3 w B a len cap w.heap.size W1.heap.size nm (.slice ia il ic) none 0 [] v3 calls) := by
  have hlt := hc.lt
  have hs1 := HS1.out
  have hpn : some W1.heap.size ≠ some (W1.heap.size + 1) := by simp
  have hrn : some w.heap.size ≠ some (W1.heap.size + 1) := by simp; omega
  have hbr := bR.below hb2
  have hfp : ∀ j, (W1.alloc (.cells #[.string ⟨nm.toArray⟩, .slice ia il ic, .slice none 0 0] 76)).frozen? ⟨W1.heap.size, j, none⟩ = false := fun j => Go.Joins.unfrozen_of_block hAp j
  have hAr2 := (hb2.block w.heap.size (by omega)).trans hAr
  have hfr : ∀ j, (W1.alloc (.cells #[.string ⟨nm.toArray⟩, .slice ia il ic, .slice none 0 0] 76)).frozen? ⟨w.heap.size, j, none⟩ = false := fun j => Go.Joins.unfrozen_of_block hAr2 j
  have hgw : w.grownBy w3 (some B) := by
   have hx : Below w.heap.size w w3 := hB2.grown hg0 (by simp; omega) (fun k e => by injection e with e; omega)
   exact ⟨hx.os, hx.tape, hx.output, hx.size, fun k hk _ => hx.block k hk⟩
  exact ⟨bP.grown hg0 hpn, fun j => (World.frozen?_of_block (a := ⟨W1.heap.size, j, none⟩) (hg0.block _ bP.lt hpn)).trans (hfp j), hbr.grown hg0 hrn, fun j => (World.frozen?_of_block (a := ⟨w.heap.size, j, none⟩) (hg0.block _ hbr.lt hrn)).trans (hfr j),
   FnsOwn.nil _ _, hown3b, ((hc.kept (World.grownBy_alloc w _ none) (by simp)) |> fun c => by rw [hW1] at c; exact ((c.kept (World.grownBy_alloc W1 _ none) (by simp)).kept hg0 (fun k e => by injection e with e; omega))), hgw, hlt, by omega, rfl, fun x hx => by cases hx⟩
 have hcl2 : calls.length ≤ 100 := by rw [hin.1]; exact hcl
 clear hown3 hg3 hown0 hbA hB2 hin hAr hAp bR bP hb1 hb2 hown3b hg0 hc
 go_enter Try.func43, Try.ntmps43
 go_wp2_with (at_builtin; refine wpList_append_run rfl (.tmp 16) (.tmp 17) 71 rfl _ _ _ rfl rfl hrun ?_; clear hrun)
 obtain ⟨P, hP⟩ : ∃ P, W1.heap.size = P := ⟨_, rfl⟩
 obtain ⟨R, hR⟩ : ∃ R, w.heap.size = R := ⟨_, rfl⟩
 rw [hP, hR] at HST
 have HSM : Hid (SmallT calls) := hsm
 have HKD : Hid (∀ n ∈ calls, kidsV n ≤ 3) := hkd
 clear HS1 hsm hkd
 refine (drawBelow _ B a len cap 3 (by omega) (by omega) HST.out.cur).mono ?_
 rintro e w4 ⟨x, rfl, hx0, hx1, hc4, hg4⟩
 have HST4 : Hid (DrSt w4 w B a len cap R P nm (.slice ia il ic) none 0 [] v3 calls) := HST.out.next hg4 hc4
 obtain ⟨T, rfl⟩ : ∃ T : Nat, x = (T : Int) := Int.eq_ofNat_of_zero_le hx0
 clear HST hc4 hg4 hx0
 go_wp2
 go_loopw [10, 11] (fun vo n wr => ∃ (r : Nat) (fa : Option Addr) (fc : Nat) (xs : List FV) (ns : List Nd), n = .int .i64 (r : Int) ∧ xs.length + r = T + 1 ∧ ns.length ≤ 100 + xs.length ∧ Hid (DrSt wr w B a len cap R P nm (.slice ia il ic) fa fc xs vo ns) ∧ Hid (DrawnXs xs) ∧ Hid (SmallT ns) ∧ Hid (∀ n ∈ ns, kidsV n ≤ 3)) (fun _ n _ => (intOf n).toNat)
 case atStart => exact ⟨T + 1, none, 0, [], calls, by go_num, by simp, by simpa using hcl2, HST4, (fun y hy => by cases hy), HSM, HKD⟩
 case round =>
  obtain ⟨r, fa, fc, xs, ns, rfl, hxr, hnl, HD, HX, HN, HK⟩ := hrel
  clear HST4 HSM HKD
  by_cases hrz : r = 0
  ·
   subst hrz
   have p0 := HD.out.p.c0
   have p1 := HD.out.p.c1
   have p2 := HD.out.p.c2
   have r0 := HD.out.r.c0
   have r1 := HD.out.r.c1
   have r2 := HD.out.r.c2
   have f0 := HD.out.rf 0
   have f1 := HD.out.rf 1
   have f2 := HD.out.rf 2
   go_wp2
   obtain ⟨Y, hY, y0, y1, y2, hg⟩ := set3 (.string ⟨nm.toArray⟩) (.slice ia il ic) (.slice fa xs.length fc) r0 r1 r2
   rw [hY]
   refine bodyPost_ret (v := .agg #[.string ⟨nm.toArray⟩, .slice ia il ic, .slice fa xs.length fc]) (by simp [results, Try.results43, go_sem, y0, y1, y2]) rfl ?_
   have hst := HD.out
   have hRP := hst.rp
   have hBR := hst.br
   have hwr := hst.wr
   refine ⟨fa, fc, xs, rfl, (hst.fo.grown hg (fun k e => by injection e with e; omega)).base (by omega), by omega, HX.out, hst.cur.kept hg (fun k e => by injection e with e; omega), ?_⟩
   have hgw := hst.g
   exact ⟨hg.os.trans hgw.os, hg.tape.trans hgw.tape, hg.output.trans hgw.output, Nat.le_trans hgw.size hg.size, fun q hq hn => (hg.block q (Nat.lt_of_lt_of_le hq hgw.size) (fun e => by injection e with e; omega)).trans (hgw.block q hq hn)⟩
  ·
   obtain ⟨r', rfl⟩ : ∃ r', r = r' + 1 := ⟨r - 1, by omega⟩
   have hr1 : (0 : Int) < ((r' + 1 : Nat) : Int) := by omega
   have st := HD.out
   have p0 := st.p.c0
   have p1 := st.p.c1
   have p2 := st.p.c2
   have hcur := st.cur
   have hxl : (xs.length : Int) < 3 := by omega
   have hxl2 : xs.length < 3 := by omega
   clear hrz HD
   have HST0 : Hid (DrSt wr w B a len cap R P nm (.slice ia il ic) fa fc xs _ ns) := st
   go_upto_region 6 with fail
   go_cut [12] from 22 to 62 (fun v wx => Hid (Dr12 wr w B a len cap R P nm (.slice ia il ic) fa fc xs u10 ns v wx))
   case first =>
    have hBw : B < wr.heap.size := st.cur.lt
    have a1 : wr.drew.cell? ⟨P, 2, none⟩ = some (.slice fa xs.length fc) := st.drew.p.c2
    have a2 : ∀ o, (wr.alloc o).cell? ⟨P, 2, none⟩ = some (.slice fa xs.length fc) := fun o => (st.alloc o).p.c2
    have a3 : ∀ o o', ((wr.alloc o).alloc o').cell? ⟨P, 2, none⟩ = some (.slice fa xs.length fc) := fun o o' => ((st.alloc o).alloc o').p.c2
    obtain ⟨fn, hfn, hget⟩ := str3_at [102] [103] [104] xs.length hxl2 (by decide) (by decide) (by decide)
    clear hi hz0 hz1 hz2 hW1 hnl HX HN HK p0 p1 hcur HST0 hnm hcc hcl hcl2 hxr hr1 hx1 hP hR
    go_region_with (go_at_call 27; refine (drawBelow _ B a len cap 4 (by omega) (by omega) (by first | exact st.cur | exact st.drew.cur | exact (st.alloc _).cur | exact (st.alloc _).drew.cur | exact ((st.alloc _).alloc _).cur | exact ((st.alloc _).alloc _).drew.cur)).mono ?_; rintro e w5 ⟨y, rfl, hy0, hy1, hc5, hg5⟩; have st5 : DrSt w5 w B a len cap R P nm (.slice ia il ic) fa fc xs u10 ns := (by first | exact st.next hg5 hc5 | exact st.drew.next hg5 hc5 | exact (st.alloc _).next hg5 hc5 | exact (st.alloc _).drew.next hg5 hc5 | exact ((st.alloc _).alloc _).next hg5 hc5 | exact ((st.alloc _).alloc _).drew.next hg5 hc5); have q2 := st5.p.c2; have q3 : ∀ o, (w5.alloc o).cell? ⟨P, 2, none⟩ = some (.slice fa xs.length fc) := (fun o => (st5.alloc o).p.c2); have q4 : ∀ o o', ((w5.alloc o).alloc o').cell? ⟨P, 2, none⟩ = some (.slice fa xs.length fc) := (fun o o' => ((st5.alloc o).alloc o').p.c2); (first | (have H2 := box_up2 (V := wr) hg5 hBw; have H3 := box_up3 (V := wr) hg5 hBw; obtain ⟨bx2, bf2⟩ := H2; obtain ⟨bx3, bf3⟩ := H3; have n20 := bx2.c0; have n21 := bx2.c1; have n22 := bx2.c2; have m20 := (fun o => cell_alw o n20); have m21 := (fun o => cell_alw o n21); have m22 := (fun o => cell_alw o n22); have fz2 : ∀ o j, (w5.alloc o).frozen? ⟨wr.heap.size + 1, j, none⟩ = false := (fun o j => frozen_alw o bx2.lt (bf2 j)); have n30 := bx3.c0; have n31 := bx3.c1; have n32 := bx3.c2; have m30 := (fun o => cell_alw o n30); have m31 := (fun o => cell_alw o n31); have m32 := (fun o => cell_alw o n32); have fz3 : ∀ o j, (w5.alloc o).frozen? ⟨wr.heap.size, j, none⟩ = false := (fun o j => frozen_alw o bx3.lt (bf3 j)); (first | (have nL := box3_at bx2 hxl2 hget; have mL := (fun o => cell_alw o nL)) | (have nL := box3_at bx3 hxl2 hget; have mL := (fun o => cell_alw o nL)) | skip)) | (have H1 := box_up1 (V := wr) hg5 hBw; obtain ⟨bx1, bf1⟩ := H1; have n10 := bx1.c0; have n11 := bx1.c1; have n12 := bx1.c2; have m10 := (fun o => cell_alw o n10); have m11 := (fun o => cell_alw o n11); have m12 := (fun o => cell_alw o n12); have fz1 : ∀ o j, (w5.alloc o).frozen? ⟨wr.heap.size, j, none⟩ = false := (fun o j => frozen_alw o bx1.lt (bf1 j)); (first | (have nL := box3_at bx1 hxl2 hget; have mL := (fun o => cell_alw o nL)) | skip)) | skip))
    all_goals (go_wp2_with fail; go_meet; case rel => first | exact dr_new st5 (by first | exact sz2 hg5 | exact sz1 hg5 | exact sz0 hg5) fn hfn hy0 (by omega) | exact dr_new2 st5 (by first | exact sz2 hg5 | exact sz1 hg5 | exact sz0 hg5) fn hfn hy0 (by omega) _ | exact dr_new3 st5 (by first | exact sz2 hg5 | exact sz1 hg5 | exact sz0 hg5) fn hfn hy0 (by omega) _ | exact dr_set st st5 (by omega) ⟨bx2, bf2⟩ fn hfn hy0 (by omega) | exact dr_set st st5 (by omega) ⟨bx3, bf3⟩ fn hfn hy0 (by omega) | exact dr_set1 st st5 (by omega) ⟨bx1, bf1⟩ fn hfn hy0 (by omega) _)
   case rest =>
    obtain ⟨F, y, fn, rfl, ⟨hy0, hy1⟩, hfn, hF, st6, hb6⟩ := hcut.out
    clear hcut p0 p1 p2 hcur HST0
    have HST6 : Hid (_) := st6
    have HB6 : Hid (_) := hb6
    go_upto_region 7 with fail
    go_cut [40] from 22 to 62 (fun v wx => ∃ b, v = .bool b ∧ Hid (DrSt wx w B a len cap R P nm (.slice ia il ic) fa fc xs u10 ns ∧ (Box3 wx F (.string ⟨fn.toArray⟩) (.int .i64 y) (.slice none 0 0) ∧ ∀ j, wx.frozen? ⟨F, j, none⟩ = false)))
    case first =>
     by_cases hm : nm = [109, 97, 105, 110]
     ·
      have dm : (nm == [109, 97, 105, 110]) = true := beq_iff_eq.2 hm
      go_wp2_with fail
      go_meet
      case rel => exact ⟨_, rfl, st6, hb6⟩
     ·
      have dm : (nm == [109, 97, 105, 110]) = false := beq_eq_false_iff_ne.2 hm
      go_wp2_with fail
      go_meet
      case rel => exact ⟨_, rfl, st6, hb6⟩
    case rest =>
     obtain ⟨b, rfl, hc6⟩ := hcut
     clear HST6 HB6 hb6 st6
     go_upto_if 40 with fail
     go_cut [] from 22 to 62 (fun wx => ∃ (y : Int) (fn : List UInt8), (0 ≤ y ∧ y ≤ 3) ∧ fn.length ≤ 9 ∧ Hid (DrSt wx w B a len cap R P nm (.slice ia il ic) fa fc xs u10 ns ∧ (Box3 wx F (.string ⟨fn.toArray⟩) (.int .i64 y) (.slice none 0 0) ∧ ∀ j, wx.frozen? ⟨F, j, none⟩ = false)))
     case first =>
      rcases b with _ | _
      ·
       go_wp2_with fail
       go_meet
       case rel => exact ⟨y, fn, ⟨hy0, hy1⟩, hfn, hc6⟩
      ·
       obtain ⟨st6, hb6⟩ := hc6.out
       have f0 := hb6.1.c0
       have f1 := hb6.1.c1
       have f2 := hb6.1.c2
       have g0 := hb6.2 0
       have g1 := hb6.2 1
       have g2 := hb6.2 2
       go_wp2_with fail
       go_meet
       case rel =>
        obtain ⟨hb2, hg⟩ := box_set (.string ⟨#[109, 97, 105, 110]⟩) (.int .i64 1) (.slice none 0 0) hb6
        exact ⟨1, [109, 97, 105, 110], ⟨by omega, by omega⟩, by decide, dr_off st st6 hF hg, hb2⟩
     case rest =>
      clear hy0 hy1 hfn hc6
      obtain ⟨y, fn, ⟨hy0, hy1⟩, hfn, hcut⟩ := hcut
      obtain ⟨st6, hb6⟩ := hcut.out
      clear hcut
      have f0 := hb6.1.c0
      have f1 := hb6.1.c1
      have f2 := hb6.1.c2
      have hT : Hid (_) := dr_tree st st6 hF hb6 hy0 hy1 (by omega) HN.out HK.out
      go_wp2_with fail
      refine Calls.mono hT.out ?_
      rintro e w7 ⟨ta, tc, t, rfl, ⟨ht, hst, htb⟩, st7, hb7, ho7, hap, hq7⟩
      clear hT f0 f1 f2 hb6 st6
      obtain ⟨st8, hb8, ho8⟩ := dr_store st st7 hF hb7 ho7 hq7
      have f0 := hb7.1.c0
      have f1 := hb7.1.c1
      have f2 := hb7.1.c2
      have g2 := hb7.2 2
      obtain ⟨Z, hZ⟩ : ∃ Z, w7.setCell ⟨F, 2, none⟩ (.slice ta t.length tc) = Z := ⟨_, rfl⟩
      rw [hZ] at st8 hb8 ho8
      go_upto_region 10 with fail
      clear hZ f0 f1 f2 g2 hb7 st7 ho7
      obtain ⟨g', c', Y, hrun, hp2, hpf, st9, hk9⟩ := dr_fn st8 (((fn, y, t), ta, tc) : FV) ho8 hap (by omega)
      change (Builtin.append_ #[74, 74] 74 #[.slice fa xs.length fc, .slice (some ⟨Z.heap.size, 0, none⟩) 1 1]).run Try.prog (Z.alloc (.cells #[.string ⟨fn.toArray⟩, .int .i64 y, .slice ta t.length tc] 79)) = _ at hrun
      have hpl := st.p.lt
      have b9 := hb8.keep (hk9 F hb8.lt (by omega) (fun e => by have := (st.fo.row.lt F e.symm).2; omega))
      have f0 := hb8.c0
      have f1 := hb8.c1
      have f2 := hb8.c2
      have p2 := st8.p.c2
      obtain ⟨Z2, hZ2⟩ : ∃ Z2, Y.setCell ⟨P, 2, none⟩ (.slice (some ⟨g', 0, none⟩) (xs.length + 1) c') = Z2 := ⟨_, rfl⟩
      rw [hZ2] at st9 b9
      clear hk9 hq7
      go_upto_region 11 with (at_builtin; refine wpList_append_run rfl (.tmp 49) (.tmp 51) 74 rfl _ _ _ rfl rfl hrun ?_; clear hrun)
      clear f0 f1 f2 p2 hZ2 hp2 hpf
      have f0 := b9.c0
      have f1 := b9.c1
      obtain ⟨v', Y2, hrun2, st10⟩ := dr_own st9 ((8, y, nm, fn) : Nd) (by omega)
      change (Builtin.append_ #[71, 71] 71 #[u10, .slice (some ⟨Z2.heap.size, 0, none⟩) 1 1]).run Try.prog (Z2.alloc (.cells #[.int .i64 8, .int .i64 y, .string ⟨nm.toArray⟩, .string ⟨fn.toArray⟩] 73)) = _ at hrun2
      have HST10 : Hid (_) := st10
      clear st10 st9 st8 b9 hb8
      go_wp2_with (at_builtin; refine wpList_append_run rfl (.tmp 54) (.tmp 61) 71 rfl _ _ _ rfl rfl hrun2 ?_; clear hrun2)
      refine ⟨⟨r', _, _, _, _, rfl, by simp; omega, by simp; omega, HST10, ?_, ?_, ?_⟩, by simp [intOf]⟩
      ·
       intro z hz
       rw [List.mem_append, List.mem_singleton] at hz
       rcases hz with hz | rfl
       ·
        exact HX.out z hz
       ·
        exact ⟨⟨hfn, ⟨by show -10 ≤ y; omega, by show y ≤ 10; omega⟩, by show t.length ≤ 100; omega, hst⟩, hy0, hy1, htb⟩
      ·
       exact small_app HN.out (fun n hn => by rw [List.mem_singleton] at hn; subst hn; exact (dr_node hy0 hy1 hnm hfn).1)
      ·
       intro n hn
       rw [List.mem_append, List.mem_singleton] at hn
       rcases hn with hn | rfl
       ·
        exact HK.out n hn
       ·
        exact (dr_node hy0 hy1 hnm hfn).2

end Go.Proofs.Ytaioedcaopbgkaa

/-! What l8Draw holds. -/
namespace Go.Proofs.Ytaioedcaopbgkaa
open Go.RowKit

/-- A package whose rows lie between two blocks (whether its trees lie apart is not said). -/
structure PvLo (w : World) (y : PV) : Prop where
 im : w.ownsRow y.lo 9 1 (pvI y) y.ims.length (strV y.ims)
 fo : FnsOwn w y.lo (pvF y) y.xs
 top : ∀ k, PkBlocks (pvI y) (pvF y) y.xs k → k < y.hi
theorem PvLo.wrote {w w' : World} {y : PV} (h : PvLo w y) {S : Nat → Prop} (hw : Wrote w w' S) (hs : ∀ k, S k → k < y.lo ∨ y.hi ≤ k) : PvLo w' y := by
 have hoff : ∀ {e size n : Nat} {v : Value} {zs : List Value}, w.ownsRow y.lo e size v n zs → (∀ k, v.ownBlock = some k → k < y.hi) → w'.ownsRow y.lo e size v n zs := fun ho ht => own_wrote ho hw (fun k hk hS => by
  have h1 := (ho.lt k hk).1
  have h2 := ht k hk
  rcases hs k hS with h3 | h3 <;> omega)
 exact ⟨hoff h.im (fun k e => h.top k (Or.inl e)), ⟨hoff h.fo.row (fun k e => h.top k (Or.inr (Or.inl e))), fun x hx => hoff (h.fo.trees x hx) (fun k e => h.top k (Or.inr (Or.inr ⟨x, hx, e⟩)))⟩, h.top⟩
theorem PvLo.below {w w' : World} {y : PV} (h : PvLo w y) (hb : Below w.heap.size w w') : PvLo w' y := h.wrote (S := fun _ => False) (Wrote.of_below hb) (fun _ e => e.elim)

/-- A drawn package. -/
structure Pv8 (w : World) (y : PV) : Prop where
 ok : PvLo w y
 sm : DrawnXs y.xs
 n : 1 ≤ y.xs.length ∧ y.xs.length ≤ 3
 nm : y.nm.length ≤ 9
 im : y.ims.length ≤ 8 ∧ ∀ t ∈ y.ims, t.length ≤ 9
 sa : ∃ g, y.ia = some ⟨g, 0, none⟩

/-- The names (at N), the packages so far, the calls that are known; all of it lies below L. -/
structure D8 (X w : World) (B : Nat) (a : Option Addr) (len cap N L : Nat) (la : Option Addr) (lc : Nat) (ys : List PV) (vc : Value) (cs : List Nd) : Prop where
 nms : X.ownsRow w.heap.size 9 1 (.slice (some ⟨N, 0, none⟩) 3 3) 3 (strV [[97], [98], [99]])
 row : X.ownsRow w.heap.size 76 3 (.slice la ys.length lc) ys.length (pvsV ys)
 cal : X.ownsRow w.heap.size 73 4 vc cs.length (nodesV cs)
 each : ∀ y ∈ ys, Pv8 X y ∧ w.heap.size ≤ y.lo ∧ y.hi ≤ L
 seq : ys.Pairwise (fun a b => a.hi ≤ b.lo)
 nl : N < L
 rl : ∀ k, (Value.slice la ys.length lc).ownBlock = some k → k < L
 cl : ∀ k, vc.ownBlock = some k → k < L ∧ ∀ y ∈ ys, k < y.lo ∨ y.hi ≤ k
 csm : SmallT cs ∧ ∀ n ∈ cs, kidsV n ≤ 3
 cur : Cur X B a len cap
 g : w.grownBy X (some B)
 br : B < w.heap.size
 wl : w.heap.size ≤ L
 ls : L ≤ X.heap.size

section
variable {X Y w : World} {B : Nat} {a : Option Addr} {len cap N L : Nat} {la : Option Addr} {lc : Nat} {ys : List PV} {vc : Value} {cs : List Nd}

theorem D8.wrote (h : D8 X w B a len cap N L la lc ys vc cs) {S : Nat → Prop} (hw : Wrote X Y S) (hs : ∀ k, S k → k = B ∨ L ≤ k) (hc : Cur Y B a len cap) : D8 Y w B a len cap N L la lc ys vc cs := by
 have hbr := h.br
 have hwl := h.wl
 have hoff : ∀ {e size n : Nat} {v : Value} {zs : List Value}, X.ownsRow w.heap.size e size v n zs → (∀ k, v.ownBlock = some k → k < L) → Y.ownsRow w.heap.size e size v n zs := fun ho ht => own_wrote ho hw (fun k hk hS => by
  have h1 := (ho.lt k hk).1
  have h2 := ht k hk
  rcases hs k hS with h3 | h3 <;> omega)
 refine ⟨hoff h.nms (fun k e => ?_), hoff h.row h.rl, hoff h.cal (fun k e => (h.cl k e).1), fun y hy => ?_, h.seq, h.nl, h.rl, h.cl, h.csm, hc, ?_, hbr, hwl, Nat.le_trans h.ls hw.size⟩
 ·
  have e2 : N = k := by simpa [Value.ownBlock] using e
  have := h.nl
  omega
 ·
  obtain ⟨h1, h2, h3⟩ := h.each y hy
  exact ⟨⟨h1.ok.wrote hw (fun k hS => by rcases hs k hS with h4 | h4 <;> omega), h1.sm, h1.n, h1.nm, h1.im, h1.sa⟩, h2, h3⟩
 ·
  have hg := h.g
  exact ⟨hw.os.trans hg.os, hw.tape.trans hg.tape, hw.output.trans hg.output, Nat.le_trans hg.size hw.size, fun k hk hne => (hw.block k (Nat.lt_of_lt_of_le hk hg.size) (fun hS => by
   rcases hs k hS with h4 | h4
   ·
    exact hne (by rw [h4])
   ·
    omega)).trans (hg.block k hk hne)⟩
theorem D8.next (h : D8 X w B a len cap N L la lc ys vc cs) (hg : X.grownBy Y (some B)) (hc : Cur Y B a len cap) : D8 Y w B a len cap N L la lc ys vc cs :=
 h.wrote (S := fun k => k = B) (Wrote.of_grown hg (fun k e => by injection e with e; exact e.symm)) (fun k e => Or.inl e) hc
theorem D8.below (h : D8 X w B a len cap N L la lc ys vc cs) (hb : Below X.heap.size X Y) : D8 Y w B a len cap N L la lc ys vc cs :=
 h.wrote (S := fun _ => False) (Wrote.of_below hb) (fun _ e => e.elim) (h.cur.below hb)
theorem D8.upper (h : D8 X w B a len cap N L la lc ys vc cs) {row : Option Nat} (hg : X.grownBy Y row) (hr : ∀ k, row = some k → L ≤ k) : D8 Y w B a len cap N L la lc ys vc cs :=
 h.wrote (S := fun k => L ≤ k) (Wrote.of_grown hg hr) (fun k e => Or.inr e) (h.cur.kept hg (fun k e => by have := hr k e; have := h.br; have := h.wl; omega))
theorem D8.raise (h : D8 X w B a len cap N L la lc ys vc cs) {L' : Nat} (h1 : L ≤ L') (h2 : L' ≤ X.heap.size) : D8 X w B a len cap N L' la lc ys vc cs :=
 ⟨h.nms, h.row, h.cal, fun y hy => ⟨(h.each y hy).1, (h.each y hy).2.1, Nat.le_trans (h.each y hy).2.2 h1⟩, h.seq, Nat.lt_of_lt_of_le h.nl h1, fun k e => Nat.lt_of_lt_of_le (h.rl k e) h1, fun k e => ⟨Nat.lt_of_lt_of_le (h.cl k e).1 h1, (h.cl k e).2⟩, h.csm, h.cur, h.g, h.br, Nat.le_trans h.wl h1, h2⟩

/-- A new block of one package, as 'append' reads it. -/
theorem new_pk (W : World) (y : PV) (c : Nat) : Src (W.alloc (.cells #[.string ⟨y.nm.toArray⟩, pvI y, pvF y] 76)) (.slice (some ⟨W.heap.size, 0, none⟩) 1 c) 1 3 (pvsV [y]) := by
 refine ⟨rfl, fun u hu => ?_, Or.inr ⟨_, c, rfl, fun j u hu => ?_⟩⟩
 ·
  simp only [pvsV, List.mem_cons, List.not_mem_nil, or_false] at hu
  rcases hu with rfl | rfl | rfl <;> rfl
 ·
  rw [add_plain, Nat.zero_add]
  match j, hu with
  | 0, hu => simp [pvsV] at hu; subst hu; simp
  | 1, hu => simp [pvsV] at hu; subst hu; simp
  | 2, hu => simp [pvsV] at hu; subst hu; simp
  | j + 3, hu => simp [pvsV] at hu
theorem pvsV_append (x y : List PV) : pvsV (x ++ y) = pvsV x ++ pvsV y := by
 induction x with
 | nil => rfl
 | cons n r ih => simp [pvsV, ih]
/-- A package is put behind the others. -/
theorem D8.push (h : D8 X w B a len cap N L la lc ys vc cs) (y : PV) (hy : Pv8 X y) (h0 : w.heap.size ≤ y.lo) (h1 : ∀ z ∈ ys, z.hi ≤ y.lo) (h2 : y.hi ≤ X.heap.size) (hn : ys.length ≤ 8) (hc2 : ∀ k, vc.ownBlock = some k → k < y.lo ∨ y.hi ≤ k) :
 ∃ g' c' Y, (Builtin.append_ #[36, 36] 36 #[.slice la ys.length lc, .slice (some ⟨X.heap.size, 0, none⟩) 1 1]).run Try.prog (X.alloc (.cells #[.string ⟨y.nm.toArray⟩, pvI y, pvF y] 76)) = .ok (.slice (some ⟨g', 0, none⟩) (ys.length + 1) c') Y ∧
  D8 Y w B a len cap N Y.heap.size (some ⟨g', 0, none⟩) c' (ys ++ [y]) vc cs := by
 obtain ⟨i0, hi, hz0, hz1, hz2⟩ := info_parts infoPackage
 have hX1 : Below X.heap.size X (X.alloc (.cells #[.string ⟨y.nm.toArray⟩, pvI y, pvF y] 76)) := (Below.refl _ _).alloc (Nat.le_refl _) _
 have hd := h.below hX1
 have hyo := hy.ok.below hX1
 obtain ⟨v', Y, hrun, hown, hg, _⟩ := run_append_src (P := Try.prog) (X.alloc (.cells #[.string ⟨y.nm.toArray⟩, pvI y, pvF y] 76)) w.heap.size 36 36 76 i0 _ 3 64 Try.underlying36 hi hz0 hz1 hz2 rfl (by decide) _ _ _ hd.row _ 1 (pvsV [y]) (new_pk X y 1) (by unfold maxLen; omega) (by omega) hd.g.size
 obtain ⟨g', c', rfl⟩ := own_some hown (by omega)
 have e1 : (ys ++ [y]).length = ys.length + 1 := by simp
 have hwl := h.wl
 have hls := h.ls
 have hys := hg.size
 refine ⟨g', c', Y, hrun, ?_⟩
 have hrowB : ∀ k, (Value.slice la ys.length lc).ownBlock = some k → w.heap.size ≤ k ∧ k < L := fun k e => ⟨(hd.row.lt k e).1, h.rl k e⟩
 have hW : Wrote (X.alloc (.cells #[.string ⟨y.nm.toArray⟩, pvI y, pvF y] 76)) Y (fun k => (Value.slice la ys.length lc).ownBlock = some k) := Wrote.of_grown hg (fun k e => e)
 have hkeep : ∀ {z : PV}, PvLo (X.alloc (.cells #[.string ⟨y.nm.toArray⟩, pvI y, pvF y] 76)) z → PvLo Y z := fun hz =>
  ⟨hz.im.kept hg (own_types hz.im hd.row (by decide)), hz.fo.kept hg (own_types hz.fo.row hd.row (by decide)) (fun x hx => own_types (hz.fo.trees x hx) hd.row (by decide)), hz.top⟩
 refine ⟨hd.nms.kept hg (own_types hd.nms hd.row (by decide)), ?_, hd.cal.kept hg (own_types hd.cal hd.row (by decide)), fun z hz => ?_, List.pairwise_append.2 ⟨h.seq, List.pairwise_singleton _ _, fun z hz q hq => ?_⟩, ?_, fun k e => ?_, fun k e => ⟨?_, fun z hz => ?_⟩, h.csm, hd.cur.kept hg (fun k e => by have := (hrowB k e).1; have := h.br; omega), ?_, h.br, Nat.le_trans hd.g.size hys, Nat.le_refl _⟩
 ·
  rw [e1, pvsV_append]; exact hown
 ·
  rw [List.mem_append, List.mem_singleton] at hz
  have hsz : X.heap.size ≤ Y.heap.size := Nat.le_trans hX1.size hys
  rcases hz with hz | rfl
  ·
   obtain ⟨h3, h4, h5⟩ := hd.each z hz
   exact ⟨⟨hkeep h3.ok, h3.sm, h3.n, h3.nm, h3.im, h3.sa⟩, h4, by omega⟩
  ·
   exact ⟨⟨hkeep hyo, hy.sm, hy.n, hy.nm, hy.im, hy.sa⟩, by omega, by omega⟩
 ·
  rw [List.mem_singleton] at hq
  subst hq
  exact h1 z hz
 ·
  have := h.nl; have := hX1.size; omega
 ·
  exact ((show Y.ownsRow w.heap.size 76 3 (.slice (some ⟨g', 0, none⟩) (ys.length + 1) c') (ys.length + 1) _ from hown).lt k (by rw [← e1]; exact e)).2
 ·
  have := (h.cl k e).1; have := hX1.size; omega
 ·
  rw [List.mem_append, List.mem_singleton] at hz
  rcases hz with hz | rfl
  ·
   exact (h.cl k e).2 z hz
  ·
   exact hc2 k e
 ·
  have hgw := hd.g
  exact ⟨hg.os.trans hgw.os, hg.tape.trans hgw.tape, hg.output.trans hgw.output, Nat.le_trans hgw.size hg.size, fun k hk hne => (hg.block k (Nat.lt_of_lt_of_le hk hgw.size) (fun e => by have := (hrowB k e.symm).1; omega)).trans (hgw.block k hk hne)⟩
/-- A call is put behind the others; what lies off the calls' row stays. -/
theorem D8.call (h : D8 X w B a len cap N L la lc ys vc cs) (n : Nd) (hn : SmallN n) (hk : kidsV n ≤ 3) (hc : cs.length ≤ 1000) :
 ∃ v' Y, (Builtin.append_ #[71, 71] 71 #[vc, .slice (some ⟨X.heap.size, 0, none⟩) 1 1]).run Try.prog (X.alloc (.cells #[.int .i64 n.1, .int .i64 n.2.1, .string ⟨n.2.2.1.toArray⟩, .string ⟨n.2.2.2.toArray⟩] 73)) = .ok v' Y ∧
  D8 Y w B a len cap N Y.heap.size la lc ys v' (cs ++ [n]) ∧ X.grownBy Y vc.ownBlock ∧ (v'.ownBlock = vc.ownBlock ∨ v'.ownBlock = some (X.heap.size + 1)) := by
 obtain ⟨i0, hi, hz0, hz1, hz2⟩ := info_parts infoNode
 obtain ⟨W, hW⟩ : ∃ W, X.alloc (.cells #[.int .i64 n.1, .int .i64 n.2.1, .string ⟨n.2.2.1.toArray⟩, .string ⟨n.2.2.2.toArray⟩] 73) = W := ⟨_, rfl⟩
 have hX1 : Below X.heap.size X W := by rw [← hW]; exact (Below.refl _ _).alloc (Nat.le_refl _) _
 have hgX : X.grownBy W vc.ownBlock := by rw [← hW]; exact World.grownBy_alloc X _ _
 have hsW : W.heap.size = X.heap.size + 1 := by rw [← hW]; simp
 have hnew := new_node X n
 rw [hW] at hnew ⊢
 have hd := h.below hX1
 obtain ⟨v', Y, hrun, hown, hg, _, hat⟩ := run_append_own_at (P := Try.prog) W w.heap.size 71 71 73 i0 _ 4 48 Try.underlying71 hi hz0 hz1 hz2 rfl (by decide) _ _ _ hd.cal ⟨X.heap.size, 0, none⟩ 1 1 (nodesV [n]) (by rw [nodesV_len]; rfl) hnew (nodesV_one _) (by unfold maxLen; omega) (by omega) hd.g.size
 have e1 : (cs ++ [n]).length = cs.length + 1 := by simp
 have hown2 : Y.ownsRow w.heap.size 73 4 v' (cs ++ [n]).length (nodesV (cs ++ [n])) := by
  rw [e1, nodesV_append]; exact hown
 have hvB : ∀ k, vc.ownBlock = some k → w.heap.size ≤ k ∧ k < L := fun k e => ⟨(hd.cal.lt k e).1, (h.cl k e).1⟩
 have hwl := h.wl
 have hls := h.ls
 have hgs := hg.size
 have hbr := h.br
 have hWr : Wrote W Y (fun k => vc.ownBlock = some k) := Wrote.of_grown hg (fun k e => e)
 refine ⟨v', Y, hrun, ⟨hd.nms.kept hg (own_types hd.nms hd.cal (by decide)), hd.row.kept hg (own_types hd.row hd.cal (by decide)), hown2, fun z hz => ?_, h.seq, by have := h.nl; omega, fun k e => by have := h.rl k e; omega, fun k e => ⟨(hown2.lt k e).2, fun z hz => ?_⟩, ⟨small_app h.csm.1 (fun m hm => by rw [List.mem_singleton] at hm; subst hm; exact hn), fun m hm => ?_⟩, hd.cur.kept hg (fun k e => by have := (hvB k e).1; omega), ?_, hbr, by omega, Nat.le_refl _⟩, hgX.trans hg, by rw [hsW] at hat; exact hat⟩
 ·
  obtain ⟨h3, h4, h5⟩ := hd.each z hz
  exact ⟨⟨h3.ok.wrote hWr (fun k e => (h.cl k e).2 z hz), h3.sm, h3.n, h3.nm, h3.im, h3.sa⟩, h4, by omega⟩
 ·
  rcases hat with e2 | e2
  ·
   exact (h.cl k (by rw [← e2]; exact e)).2 z hz
  ·
   rw [e2] at e
   injection e with e
   have := (h.each z hz).2.2
   right; omega
 ·
  rw [List.mem_append, List.mem_singleton] at hm
  rcases hm with hm | rfl
  ·
   exact h.csm.2 m hm
  ·
   exact hk
 ·
  have hgw := hd.g
  exact ⟨hg.os.trans hgw.os, hg.tape.trans hgw.tape, hg.output.trans hgw.output, Nat.le_trans hgw.size hg.size, fun k hk hne => (hg.block k (Nat.lt_of_lt_of_le hk hgw.size) (fun e => by have := (hvB k e.symm).1; omega)).trans (hgw.block k hk hne)⟩
end

/-- What a round of l8Draw holds besides: the imports and the calls of its package. -/
structure I8 (X : World) (L : Nat) (vi : Value) (ims : List (List UInt8)) (vo : Value) (os : List Nd) : Prop where
 im : X.ownsRow L 9 1 vi ims.length (strV ims)
 ow : X.ownsRow L 73 4 vo os.length (nodesV os)
 is : ∀ t ∈ ims, t.length ≤ 9
 osm : SmallT os ∧ ∀ n ∈ os, kidsV n ≤ 3
 so : ∃ g c, vi = .slice (some ⟨g, 0, none⟩) ims.length c
theorem I8.below {X Y : World} {L : Nat} {vi : Value} {ims : List (List UInt8)} {vo : Value} {os : List Nd} (h : I8 X L vi ims vo os) (hb : Below X.heap.size X Y) : I8 Y L vi ims vo os := ⟨own_below h.im hb, own_below h.ow hb, h.is, h.osm, h.so⟩
theorem I8.next {X Y : World} {L B : Nat} {vi : Value} {ims : List (List UInt8)} {vo : Value} {os : List Nd} (h : I8 X L vi ims vo os) (hg : X.grownBy Y (some B)) (hB : B < L) : I8 Y L vi ims vo os :=
 ⟨own_grown h.im hg (fun k e => by injection e with e; omega), own_grown h.ow hg (fun k e => by injection e with e; omega), h.is, h.osm, h.so⟩
/-- An import more. -/
theorem I8.imp {X : World} {L : Nat} {vi : Value} {ims : List (List UInt8)} {vo : Value} {os : List Nd} (h : I8 X L vi ims vo os) (x : List UInt8) (hx : x.length ≤ 9) (hL : L ≤ X.heap.size) (hn : ims.length ≤ 100) :
 ∃ v' Y, (Builtin.append_ #[59, 59] 59 #[vi, .slice (some ⟨X.heap.size, 0, none⟩) 1 1]).run Try.prog (X.alloc (.cells #[.string ⟨x.toArray⟩] 9)) = .ok v' Y ∧ I8 Y L v' (ims ++ [x]) vo os ∧ X.grownBy Y vi.ownBlock := by
 obtain ⟨v', Y, hrun, hv', hg⟩ := push_text x h.im hL (by omega)
 refine ⟨v', Y, hrun, ⟨by rw [List.length_append, List.length_singleton]; exact hv', h.ow.kept hg (own_types h.ow h.im (by decide)), fun t ht => ?_, h.osm, by rw [List.length_append, List.length_singleton]; exact own_some hv' (by omega)⟩, hg⟩
 rw [List.mem_append, List.mem_singleton] at ht
 rcases ht with ht | rfl
 ·
  exact h.is t ht
 ·
  exact hx
/-- A call more. -/
theorem I8.node {X : World} {L : Nat} {vi : Value} {ims : List (List UInt8)} {vo : Value} {os : List Nd} (h : I8 X L vi ims vo os) (n : Nd) (hsn : SmallN n) (hk : kidsV n ≤ 3) (hL : L ≤ X.heap.size) (hn : os.length ≤ 1000) :
 ∃ v' Y, (Builtin.append_ #[71, 71] 71 #[vo, .slice (some ⟨X.heap.size, 0, none⟩) 1 1]).run Try.prog (X.alloc (.cells #[.int .i64 n.1, .int .i64 n.2.1, .string ⟨n.2.2.1.toArray⟩, .string ⟨n.2.2.2.toArray⟩] 73)) = .ok v' Y ∧ I8 Y L vi ims v' (os ++ [n]) ∧ X.grownBy Y vo.ownBlock := by
 obtain ⟨i0, hi, hz0, hz1, hz2⟩ := info_parts infoNode
 obtain ⟨W, hW⟩ : ∃ W, X.alloc (.cells #[.int .i64 n.1, .int .i64 n.2.1, .string ⟨n.2.2.1.toArray⟩, .string ⟨n.2.2.2.toArray⟩] 73) = W := ⟨_, rfl⟩
 have hX1 : Below X.heap.size X W := by rw [← hW]; exact (Below.refl _ _).alloc (Nat.le_refl _) _
 have hgX : X.grownBy W vo.ownBlock := by rw [← hW]; exact World.grownBy_alloc X _ _
 have hnew := new_node X n
 rw [hW] at hnew ⊢
 have hd := h.below hX1
 obtain ⟨v', Y, hrun, hown, hg, _, _⟩ := run_append_own_at (P := Try.prog) W L 71 71 73 i0 _ 4 48 Try.underlying71 hi hz0 hz1 hz2 rfl (by decide) _ _ _ hd.ow ⟨X.heap.size, 0, none⟩ 1 1 (nodesV [n]) (by rw [nodesV_len]; rfl) hnew (nodesV_one _) (by unfold maxLen; omega) (by omega) (Nat.le_trans hL hX1.size)
 refine ⟨v', Y, hrun, ⟨hd.im.kept hg (own_types hd.im hd.ow (by decide)), by rw [List.length_append, List.length_singleton, nodesV_append]; exact hown, h.is, ⟨small_app h.osm.1 (fun m hm => by rw [List.mem_singleton] at hm; subst hm; exact hsn), fun m hm => ?_⟩, h.so⟩, hgX.trans hg⟩
 rw [List.mem_append, List.mem_singleton] at hm
 rcases hm with hm | rfl
 ·
  exact h.osm.2 m hm
 ·
  exact hk

end Go.Proofs.Ytaioedcaopbgkaa
