/-
  Parts of one proof, one behind the other: Draw7B, Draw7D.
-/
import Derived.Test.YtibppdepgoiojaaGreatDoorP14
import Derived.Test.YtibppdepgoiojaaGreatDoorP12
import Derived.Deep.RegionWith
import Derived.Deep.RegionHeld3
import Derived.Deep.Cut
import Derived.Deep.CutRange
import Derived.Lib.SmallJoins
import Derived.Laws.OwnMore

/-! A package is drawn: l7Draw. -/
namespace Go.Proofs.YtibppdepgoiojaaGreatDoor
open Go.RowKit

def SmallFn (f : Fn) : Prop := f.1.length ≤ 9 ∧ (-10 ≤ f.2.1 ∧ f.2.1 ≤ 10) ∧ f.2.2.length ≤ 100 ∧ SmallT f.2.2
def SmallXs (xs : List FV) : Prop := ∀ x ∈ xs, SmallFn x.1
/-- As l7Draw makes them. -/
def DrawnXs (xs : List FV) : Prop := ∀ x ∈ xs, SmallFn x.1 ∧ 0 ≤ x.1.2.1 ∧ x.1.2.1 ≤ 3 ∧ treeB x.1.2.2 = true
theorem DrawnXs.small {xs : List FV} (h : DrawnXs xs) : SmallXs xs := fun x hx => (h x hx).1

set_option maxHeartbeats 8000000 in
set_option maxRecDepth 100000 in
theorem drawPk (w : World) (B : Nat) (a : Option Addr) (len cap : Nat) (nm : List UInt8) (ia : Option Addr) (il ic : Nat) (ca : Option Addr) (cl cc : Nat) (calls : List Nd) (hc : Cur w B a len cap) (hnm : nm.length ≤ 9) (hin : NodesIn w ca cl calls) (hcc : ca = none → cc = 0) (hcl : cl ≤ 100) (hsm : SmallT calls) (hkd : ∀ n ∈ calls, kidsV n ≤ 3) :
    Calls Tryz.prog 54 #[.pointer (some ⟨B, 0, none⟩), .string ⟨nm.toArray⟩, .slice ia il ic, .slice ca cl cc] w fun e w' => ∃ fa fc xs, e = .returned (.agg #[.string ⟨nm.toArray⟩, .slice ia il ic, .slice fa (xs : List FV).length fc]) ∧ FnsOwn w' w.heap.size (.slice fa xs.length fc) xs ∧ (1 ≤ xs.length ∧ xs.length ≤ 3) ∧ DrawnXs xs ∧ Cur w' B a len cap ∧ w.grownBy w' (some B) := by
  obtain ⟨i0, hi, hz0, hz1, hz2⟩ := info_parts infoNode
  obtain ⟨W1, hW1⟩ : ∃ W, w.alloc (.cells #[.string ⟨#[]⟩, .slice none 0 0, .slice none 0 0] 27) = W := ⟨_, rfl⟩
  obtain ⟨bR, hb1⟩ := Box3.new w (.string ⟨#[]⟩) (.slice none 0 0) (.slice none 0 0) 27
  have hAr := heap_alloc_new w (.cells #[.string ⟨#[]⟩, .slice none 0 0, .slice none 0 0] 27)
  rw [hW1] at bR hb1 hAr
  obtain ⟨bP, hb2⟩ := Box3.new W1 (.string ⟨nm.toArray⟩) (.slice ia il ic) (.slice none 0 0) 27
  have hAp := heap_alloc_new W1 (.cells #[.string ⟨nm.toArray⟩, .slice ia il ic, .slice none 0 0] 27)
  have HS1 : Hid (W1.heap.size = w.heap.size + 1) := by exact (by rw [← hW1]; simp : W1.heap.size = w.heap.size + 1)
  have hB2 : Below w.heap.size w (W1.alloc (.cells #[.string ⟨nm.toArray⟩, .slice ia il ic, .slice none 0 0] 27)) := hb1.trans (hb2.mono hb1.size)
  have hown0 := World.ownsRow_lit (base := W1.heap.size + 1) (e := 76) (size := 4) (W1.alloc (.cells #[.string ⟨nm.toArray⟩, .slice ia il ic, .slice none 0 0] 27)) #[] 0 (by simp) (by decide) rfl
  have hbA : Below (W1.alloc (.cells #[.string ⟨nm.toArray⟩, .slice ia il ic, .slice none 0 0] 27)).heap.size (W1.alloc (.cells #[.string ⟨nm.toArray⟩, .slice ia il ic, .slice none 0 0] 27)) ((W1.alloc (.cells #[.string ⟨nm.toArray⟩, .slice ia il ic, .slice none 0 0] 27)).alloc (.cells #[] 76)) := (Below.refl _ _).alloc (Nat.le_refl _) _
  obtain ⟨v3, w3, hrun, hown3, hg3, _⟩ := run_append_src (P := Tryz.prog) ((W1.alloc (.cells #[.string ⟨nm.toArray⟩, .slice ia il ic, .slice none 0 0] 27)).alloc (.cells #[] 76)) (W1.heap.size + 1) 35 35 76 i0 _ 4 48 Tryz.underlying35 hi hz0 hz1 hz2 rfl (by decide) _ _ _ hown0 (.slice ca cl cc) cl (nodesV calls) (((hin.below hB2).below hbA).src hcc) (by unfold maxLen; omega) (by omega) (by simp)
  rw [World.size_alloc] at hrun hg3
  have hown3b : w3.ownsRow (W1.heap.size + 1) 76 4 v3 calls.length (nodesV calls) := by
    have h := hown3
    rw [List.nil_append, Nat.zero_add] at h
    rw [hin.1]; exact h
  have hg0 : (W1.alloc (.cells #[.string ⟨nm.toArray⟩, .slice ia il ic, .slice none 0 0] 27)).grownBy w3 (some (W1.heap.size + 1)) := (World.grownBy_alloc (W1.alloc (.cells #[.string ⟨nm.toArray⟩, .slice ia il ic, .slice none 0 0] 27)) (.cells #[] 76) (some (W1.heap.size + 1))).trans hg3
  have HST : Hid (DrSt w3 w B a len cap w.heap.size W1.heap.size nm (.slice ia il ic) none 0 [] v3 calls) := by
    have hlt := hc.lt
    have hs1 := HS1.out
    have hpn : some W1.heap.size ≠ some (W1.heap.size + 1) := by simp
    have hrn : some w.heap.size ≠ some (W1.heap.size + 1) := by simp; omega
    have hbr := bR.below hb2
    have hfp : ∀ j, (W1.alloc (.cells #[.string ⟨nm.toArray⟩, .slice ia il ic, .slice none 0 0] 27)).frozen? ⟨W1.heap.size, j, none⟩ = false := fun j => Go.Joins.unfrozen_of_block hAp j
    have hAr2 := (hb2.block w.heap.size (by omega)).trans hAr
    have hfr : ∀ j, (W1.alloc (.cells #[.string ⟨nm.toArray⟩, .slice ia il ic, .slice none 0 0] 27)).frozen? ⟨w.heap.size, j, none⟩ = false := fun j => Go.Joins.unfrozen_of_block hAr2 j
    have hgw : w.grownBy w3 (some B) := by
      have hx : Below w.heap.size w w3 := hB2.grown hg0 (by simp; omega) (fun k e => by injection e with e; omega)
      exact ⟨hx.os, hx.tape, hx.output, hx.size, fun k hk _ => hx.block k hk⟩
    exact ⟨bP.grown hg0 hpn, fun j => (World.frozen?_of_block (a := ⟨W1.heap.size, j, none⟩) (hg0.block _ bP.lt hpn)).trans (hfp j), hbr.grown hg0 hrn, fun j => (World.frozen?_of_block (a := ⟨w.heap.size, j, none⟩) (hg0.block _ hbr.lt hrn)).trans (hfr j),
      FnsOwn.nil _ _, hown3b, ((hc.kept (World.grownBy_alloc w _ none) (by simp)) |> fun c => by rw [hW1] at c; exact ((c.kept (World.grownBy_alloc W1 _ none) (by simp)).kept hg0 (fun k e => by injection e with e; omega))), hgw, hlt, by omega, rfl, fun x hx => by cases hx⟩
  have hcl2 : calls.length ≤ 100 := by rw [hin.1]; exact hcl
  clear hown3 hg3 hown0 hbA hB2 hin hAr hAp bR bP hb1 hb2 hown3b hg0 hc
  go_enter Tryz.func54, Tryz.ntmps54
  go_wp2_with (at_builtin; refine wpList_append_run rfl (.tmp 16) (.tmp 17) 35 rfl _ _ _ rfl rfl hrun ?_; clear hrun)
  obtain ⟨P, hP⟩ : ∃ P, W1.heap.size = P := ⟨_, rfl⟩
  obtain ⟨R, hR⟩ : ∃ R, w.heap.size = R := ⟨_, rfl⟩
  rw [hP, hR] at HST
  have HSM : Hid (SmallT calls) := hsm
  have HKD : Hid (∀ n ∈ calls, kidsV n ≤ 3) := hkd
  clear HS1 hsm hkd
  refine (drawBelow _ B a len cap 3 (by omega) (by omega) HST.out.cur).mono ?_
  rintro e w4 ⟨x, rfl, hx0, hx1, hc4, hg4⟩
  have HST4 : Hid (DrSt w4 w B a len cap R P nm (.slice ia il ic) none 0 [] v3 calls) := HST.out.next hg4 hc4
  obtain ⟨T, rfl⟩ : ∃ T : Nat, x = (T : Int) := Int.eq_ofNat_of_zero_le hx0
  clear HST hc4 hg4 hx0
  go_wp2
  go_loopw [10, 11] (fun vo n wr => ∃ (r : Nat) (fa : Option Addr) (fc : Nat) (xs : List FV) (ns : List Nd), n = .int .i64 (r : Int) ∧ xs.length + r = T + 1 ∧ ns.length ≤ 100 + xs.length ∧ Hid (DrSt wr w B a len cap R P nm (.slice ia il ic) fa fc xs vo ns) ∧ Hid (DrawnXs xs) ∧ Hid (SmallT ns) ∧ Hid (∀ n ∈ ns, kidsV n ≤ 3)) (fun _ n _ => (intOf n).toNat)
  case atStart => exact ⟨T + 1, none, 0, [], calls, by go_num, by simp, by simpa using hcl2, HST4, (fun y hy => by cases hy), HSM, HKD⟩
  case round =>
    obtain ⟨r, fa, fc, xs, ns, rfl, hxr, hnl, HD, HX, HN, HK⟩ := hrel
    clear HST4 HSM HKD
    by_cases hrz : r = 0
    · subst hrz
      have p0 := HD.out.p.c0
      have p1 := HD.out.p.c1
      have p2 := HD.out.p.c2
      have r0 := HD.out.r.c0
      have r1 := HD.out.r.c1
      have r2 := HD.out.r.c2
      have f0 := HD.out.rf 0
      have f1 := HD.out.rf 1
      have f2 := HD.out.rf 2
      go_wp2
      obtain ⟨Y, hY, y0, y1, y2, hg⟩ := set3 (.string ⟨nm.toArray⟩) (.slice ia il ic) (.slice fa xs.length fc) r0 r1 r2
      rw [hY]
      refine bodyPost_ret (v := .agg #[.string ⟨nm.toArray⟩, .slice ia il ic, .slice fa xs.length fc]) (by simp [results, Tryz.results54, go_sem, y0, y1, y2]) rfl ?_
      have hst := HD.out
      have hRP := hst.rp
      have hBR := hst.br
      have hwr := hst.wr
      refine ⟨fa, fc, xs, rfl, (hst.fo.grown hg (fun k e => by injection e with e; omega)).base (by omega), by omega, HX.out, hst.cur.kept hg (fun k e => by injection e with e; omega), ?_⟩
      have hgw := hst.g
      exact ⟨hg.os.trans hgw.os, hg.tape.trans hgw.tape, hg.output.trans hgw.output, Nat.le_trans hgw.size hg.size, fun q hq hn => (hg.block q (Nat.lt_of_lt_of_le hq hgw.size) (fun e => by injection e with e; omega)).trans (hgw.block q hq hn)⟩
    · obtain ⟨r', rfl⟩ : ∃ r', r = r' + 1 := ⟨r - 1, by omega⟩
      have hr1 : (0 : Int) < ((r' + 1 : Nat) : Int) := by omega
      have st := HD.out
      have p0 := st.p.c0
      have p1 := st.p.c1
      have p2 := st.p.c2
      have hcur := st.cur
      have hxl : (xs.length : Int) < 3 := by omega
      have hxl2 : xs.length < 3 := by omega
      clear hrz HD
      have HST0 : Hid (DrSt wr w B a len cap R P nm (.slice ia il ic) fa fc xs _ ns) := st
      go_upto_region 6 with fail
      go_cut [12] from 22 to 62 (fun v wx => Hid (Dr12 wr w B a len cap R P nm (.slice ia il ic) fa fc xs u10 ns v wx))
      case first =>
        have hBw : B < wr.heap.size := st.cur.lt
        have a1 : wr.drew.cell? ⟨P, 2, none⟩ = some (.slice fa xs.length fc) := st.drew.p.c2
        have a2 : ∀ o, (wr.alloc o).cell? ⟨P, 2, none⟩ = some (.slice fa xs.length fc) := fun o => (st.alloc o).p.c2
        have a3 : ∀ o o', ((wr.alloc o).alloc o').cell? ⟨P, 2, none⟩ = some (.slice fa xs.length fc) := fun o o' => ((st.alloc o).alloc o').p.c2
        obtain ⟨fn, hfn, hget⟩ := str3_at [102] [103] [104] xs.length hxl2 (by decide) (by decide) (by decide)
        clear hi hz0 hz1 hz2 hW1 hnl HX HN HK p0 p1 hcur HST0 hnm hcc hcl hcl2 hxr hr1 hx1 hP hR
        go_region_with (go_at_call 30; refine (drawBelow _ B a len cap 4 (by omega) (by omega) (by first | exact st.cur | exact st.drew.cur | exact (st.alloc _).cur | exact (st.alloc _).drew.cur | exact ((st.alloc _).alloc _).cur | exact ((st.alloc _).alloc _).drew.cur)).mono ?_; rintro e w5 ⟨y, rfl, hy0, hy1, hc5, hg5⟩; have st5 : DrSt w5 w B a len cap R P nm (.slice ia il ic) fa fc xs u10 ns := (by first | exact st.next hg5 hc5 | exact st.drew.next hg5 hc5 | exact (st.alloc _).next hg5 hc5 | exact (st.alloc _).drew.next hg5 hc5 | exact ((st.alloc _).alloc _).next hg5 hc5 | exact ((st.alloc _).alloc _).drew.next hg5 hc5); have q2 := st5.p.c2; have q3 : ∀ o, (w5.alloc o).cell? ⟨P, 2, none⟩ = some (.slice fa xs.length fc) := (fun o => (st5.alloc o).p.c2); have q4 : ∀ o o', ((w5.alloc o).alloc o').cell? ⟨P, 2, none⟩ = some (.slice fa xs.length fc) := (fun o o' => ((st5.alloc o).alloc o').p.c2); (first | (have H2 := box_up2 (V := wr) hg5 hBw; have H3 := box_up3 (V := wr) hg5 hBw; obtain ⟨bx2, bf2⟩ := H2; obtain ⟨bx3, bf3⟩ := H3; have n20 := bx2.c0; have n21 := bx2.c1; have n22 := bx2.c2; have m20 := (fun o => cell_alw o n20); have m21 := (fun o => cell_alw o n21); have m22 := (fun o => cell_alw o n22); have fz2 : ∀ o j, (w5.alloc o).frozen? ⟨wr.heap.size + 1, j, none⟩ = false := (fun o j => frozen_alw o bx2.lt (bf2 j)); have n30 := bx3.c0; have n31 := bx3.c1; have n32 := bx3.c2; have m30 := (fun o => cell_alw o n30); have m31 := (fun o => cell_alw o n31); have m32 := (fun o => cell_alw o n32); have fz3 : ∀ o j, (w5.alloc o).frozen? ⟨wr.heap.size, j, none⟩ = false := (fun o j => frozen_alw o bx3.lt (bf3 j)); (first | (have nL := box3_at bx2 hxl2 hget; have mL := (fun o => cell_alw o nL)) | (have nL := box3_at bx3 hxl2 hget; have mL := (fun o => cell_alw o nL)) | skip)) | (have H1 := box_up1 (V := wr) hg5 hBw; obtain ⟨bx1, bf1⟩ := H1; have n10 := bx1.c0; have n11 := bx1.c1; have n12 := bx1.c2; have m10 := (fun o => cell_alw o n10); have m11 := (fun o => cell_alw o n11); have m12 := (fun o => cell_alw o n12); have fz1 : ∀ o j, (w5.alloc o).frozen? ⟨wr.heap.size, j, none⟩ = false := (fun o j => frozen_alw o bx1.lt (bf1 j)); (first | (have nL := box3_at bx1 hxl2 hget; have mL := (fun o => cell_alw o nL)) | skip)) | skip))
        all_goals (go_wp2_with fail; go_meet; case rel => first | exact dr_new st5 (by first | exact sz2 hg5 | exact sz1 hg5 | exact sz0 hg5) fn hfn hy0 (by omega) | exact dr_new2 st5 (by first | exact sz2 hg5 | exact sz1 hg5 | exact sz0 hg5) fn hfn hy0 (by omega) _ | exact dr_new3 st5 (by first | exact sz2 hg5 | exact sz1 hg5 | exact sz0 hg5) fn hfn hy0 (by omega) _ | exact dr_set st st5 (by omega) ⟨bx2, bf2⟩ fn hfn hy0 (by omega) | exact dr_set st st5 (by omega) ⟨bx3, bf3⟩ fn hfn hy0 (by omega) | exact dr_set1 st st5 (by omega) ⟨bx1, bf1⟩ fn hfn hy0 (by omega) _)
      case rest =>
        obtain ⟨F, y, fn, rfl, ⟨hy0, hy1⟩, hfn, hF, st6, hb6⟩ := hcut.out
        clear hcut p0 p1 p2 hcur HST0
        have HST6 : Hid (_) := st6
        have HB6 : Hid (_) := hb6
        go_upto_region 7 with fail
        go_cut [40] from 22 to 62 (fun v wx => ∃ b, v = .bool b ∧ Hid (DrSt wx w B a len cap R P nm (.slice ia il ic) fa fc xs u10 ns ∧ (Box3 wx F (.string ⟨fn.toArray⟩) (.int .i64 y) (.slice none 0 0) ∧ ∀ j, wx.frozen? ⟨F, j, none⟩ = false)))
        case first =>
          by_cases hm : nm = [109, 97, 105, 110]
          · have dm : (nm == [109, 97, 105, 110]) = true := beq_iff_eq.2 hm
            go_wp2_with fail
            go_meet
            case rel => exact ⟨_, rfl, st6, hb6⟩
          · have dm : (nm == [109, 97, 105, 110]) = false := beq_eq_false_iff_ne.2 hm
            go_wp2_with fail
            go_meet
            case rel => exact ⟨_, rfl, st6, hb6⟩
        case rest =>
          obtain ⟨b, rfl, hc6⟩ := hcut
          clear HST6 HB6 hb6 st6
          go_upto_if 40 with fail
          go_cut [] from 22 to 62 (fun wx => ∃ (y : Int) (fn : List UInt8), (0 ≤ y ∧ y ≤ 3) ∧ fn.length ≤ 9 ∧ Hid (DrSt wx w B a len cap R P nm (.slice ia il ic) fa fc xs u10 ns ∧ (Box3 wx F (.string ⟨fn.toArray⟩) (.int .i64 y) (.slice none 0 0) ∧ ∀ j, wx.frozen? ⟨F, j, none⟩ = false)))
          case first =>
            rcases b with _ | _
            · go_wp2_with fail
              go_meet
              case rel => exact ⟨y, fn, ⟨hy0, hy1⟩, hfn, hc6⟩
            · obtain ⟨st6, hb6⟩ := hc6.out
              have f0 := hb6.1.c0
              have f1 := hb6.1.c1
              have f2 := hb6.1.c2
              have g0 := hb6.2 0
              have g1 := hb6.2 1
              have g2 := hb6.2 2
              go_wp2_with fail
              go_meet
              case rel =>
                obtain ⟨hb2, hg⟩ := box_set (.string ⟨#[109, 97, 105, 110]⟩) (.int .i64 1) (.slice none 0 0) hb6
                exact ⟨1, [109, 97, 105, 110], ⟨by omega, by omega⟩, by decide, dr_off st st6 hF hg, hb2⟩
          case rest =>
            clear hy0 hy1 hfn hc6
            obtain ⟨y, fn, ⟨hy0, hy1⟩, hfn, hcut⟩ := hcut
            obtain ⟨st6, hb6⟩ := hcut.out
            clear hcut
            have f0 := hb6.1.c0
            have f1 := hb6.1.c1
            have f2 := hb6.1.c2
            have hT : Hid (_) := dr_tree st st6 hF hb6 hy0 hy1 (by omega) HN.out HK.out
            go_wp2_with fail
            refine Calls.mono hT.out ?_
            rintro e w7 ⟨ta, tc, t, rfl, ⟨ht, hst, htb⟩, st7, hb7, ho7, hap, hq7⟩
            clear hT f0 f1 f2 hb6 st6
            obtain ⟨st8, hb8, ho8⟩ := dr_store st st7 hF hb7 ho7 hq7
            have f0 := hb7.1.c0
            have f1 := hb7.1.c1
            have f2 := hb7.1.c2
            have g2 := hb7.2 2
            obtain ⟨Z, hZ⟩ : ∃ Z, w7.setCell ⟨F, 2, none⟩ (.slice ta t.length tc) = Z := ⟨_, rfl⟩
            rw [hZ] at st8 hb8 ho8
            go_upto_region 10 with fail
            clear hZ f0 f1 f2 g2 hb7 st7 ho7
            obtain ⟨g', c', Y, hrun, hp2, hpf, st9, hk9⟩ := dr_fn st8 (((fn, y, t), ta, tc) : FV) ho8 hap (by omega)
            change (Builtin.append_ #[25, 25] 25 #[.slice fa xs.length fc, .slice (some ⟨Z.heap.size, 0, none⟩) 1 1]).run Tryz.prog (Z.alloc (.cells #[.string ⟨fn.toArray⟩, .int .i64 y, .slice ta t.length tc] 37)) = _ at hrun
            have hpl := st.p.lt
            have b9 := hb8.keep (hk9 F hb8.lt (by omega) (fun e => by have := (st.fo.row.lt F e.symm).2; omega))
            have f0 := hb8.c0
            have f1 := hb8.c1
            have f2 := hb8.c2
            have p2 := st8.p.c2
            obtain ⟨Z2, hZ2⟩ : ∃ Z2, Y.setCell ⟨P, 2, none⟩ (.slice (some ⟨g', 0, none⟩) (xs.length + 1) c') = Z2 := ⟨_, rfl⟩
            rw [hZ2] at st9 b9
            clear hk9 hq7
            go_upto_region 11 with (at_builtin; refine wpList_append_run rfl (.tmp 49) (.tmp 51) 25 rfl _ _ _ rfl rfl hrun ?_; clear hrun)
            clear f0 f1 f2 p2 hZ2 hp2 hpf
            have f0 := b9.c0
            have f1 := b9.c1
            obtain ⟨v', Y2, hrun2, st10⟩ := dr_own st9 ((8, y, nm, fn) : Nd) (by omega)
            change (Builtin.append_ #[35, 35] 35 #[u10, .slice (some ⟨Z2.heap.size, 0, none⟩) 1 1]).run Tryz.prog (Z2.alloc (.cells #[.int .i64 8, .int .i64 y, .string ⟨nm.toArray⟩, .string ⟨fn.toArray⟩] 76)) = _ at hrun2
            have HST10 : Hid (_) := st10
            clear st10 st9 st8 b9 hb8
            go_wp2_with (at_builtin; refine wpList_append_run rfl (.tmp 54) (.tmp 61) 35 rfl _ _ _ rfl rfl hrun2 ?_; clear hrun2)
            refine ⟨⟨r', _, _, _, _, rfl, by simp; omega, by simp; omega, HST10, ?_, ?_, ?_⟩, by simp [intOf]⟩
            · intro z hz
              rw [List.mem_append, List.mem_singleton] at hz
              rcases hz with hz | rfl
              · exact HX.out z hz
              · exact ⟨⟨hfn, ⟨by show -10 ≤ y; omega, by show y ≤ 10; omega⟩, by show t.length ≤ 100; omega, hst⟩, hy0, hy1, htb⟩
            · exact small_app HN.out (fun n hn => by rw [List.mem_singleton] at hn; subst hn; exact (dr_node hy0 hy1 hnm hfn).1)
            · intro n hn
              rw [List.mem_append, List.mem_singleton] at hn
              rcases hn with hn | rfl
              · exact HK.out n hn
              · exact (dr_node hy0 hy1 hnm hfn).2

end Go.Proofs.YtibppdepgoiojaaGreatDoor

/-! A package, as l7DrawAny holds it, and what is done to it. -/
namespace Go.Proofs.YtibppdepgoiojaaGreatDoor
open Go.RowKit

structure PkS (X w : World) (B : Nat) (a : Option Addr) (len cap : Nat) (R P : Nat) (nm : List UInt8) (ia : Option Addr) (ic : Nat) (ims : List (List UInt8)) (fa : Option Addr) (fc : Nat) (xs : List FV) : Prop where
  p : X.ownsRow (R + 1) 27 3 (.slice (some ⟨P, 0, none⟩) 1 1) 1 [.string ⟨nm.toArray⟩, .slice ia ims.length ic, .slice fa xs.length fc]
  r : Box3 X R (.string ⟨#[]⟩) (.slice none 0 0) (.slice none 0 0)
  rf : ∀ j, X.frozen? ⟨R, j, none⟩ = false
  im : X.ownsRow (R + 1) 9 1 (.slice ia ims.length ic) ims.length (strV ims)
  fo : FnsOwn X (R + 1) (.slice fa xs.length fc) xs
  cur : Cur X B a len cap
  g : w.grownBy X (some B)
  br : B < R
  wr : w.heap.size = R

section
variable {X Y w : World} {B : Nat} {a : Option Addr} {len cap R P : Nat} {nm : List UInt8} {ia : Option Addr} {ic : Nat} {ims : List (List UInt8)} {fa : Option Addr} {fc : Nat} {xs : List FV} {gF : Nat}

theorem PkS.next (h : PkS X w B a len cap R P nm ia ic ims fa fc xs) (hg : X.grownBy Y (some B)) (hc : Cur Y B a len cap) : PkS Y w B a len cap R P nm ia ic ims fa fc xs :=
  have hr : some R ≠ some B := fun e => by injection e with e; have := h.br; omega
  have hlt : ∀ k, some B = some k → k < R + 1 := fun k e => by injection e with e; have := h.br; omega
  ⟨own_grown h.p hg hlt, h.r.grown hg hr, fun j => (World.frozen?_of_block (a := ⟨R, j, none⟩) (hg.block R h.r.lt hr)).trans (h.rf j), own_grown h.im hg hlt, h.fo.grown hg hlt, hc, h.g.trans hg, h.br, h.wr⟩
theorem PkS.made (h : PkS X w B a len cap R P nm ia ic ims fa fc xs) (hg : X.grownBy Y none) : PkS Y w B a len cap R P nm ia ic ims fa fc xs :=
  h.next ⟨hg.os, hg.tape, hg.output, hg.size, fun k hk _ => hg.block k hk (by simp)⟩ (h.cur.kept hg (by simp))
theorem PkS.alloc (h : PkS X w B a len cap R P nm ia ic ims fa fc xs) (o : Obj) : PkS (X.alloc o) w B a len cap R P nm ia ic ims fa fc xs := h.made (World.grownBy_alloc X o none)
theorem PkS.drew (h : PkS X w B a len cap R P nm ia ic ims fa fc xs) : PkS X.drew w B a len cap R P nm ia ic ims fa fc xs := h.made (grown_drew X none)

theorem PkS.step (h : PkS X w B a len cap R P nm ia ic ims fa fc xs) {row : Option Nat} (hg : X.grownBy Y row) (hr : ∀ k, row = some k → R < k) {nm' : List UInt8} {ia' : Option Addr} {ic' : Nat} {ims' : List (List UInt8)} {fa' : Option Addr} {fc' : Nat} {xs' : List FV}
    (hp : Y.ownsRow (R + 1) 27 3 (.slice (some ⟨P, 0, none⟩) 1 1) 1 [.string ⟨nm'.toArray⟩, .slice ia' ims'.length ic', .slice fa' xs'.length fc']) (hi : Y.ownsRow (R + 1) 9 1 (.slice ia' ims'.length ic') ims'.length (strV ims')) (hf : FnsOwn Y (R + 1) (.slice fa' xs'.length fc') xs') : PkS Y w B a len cap R P nm' ia' ic' ims' fa' fc' xs' := by
  have hbr := h.br
  have hne : ∀ {k : Nat}, k ≤ R → some k ≠ row := fun {k} hk e => by have := hr k e.symm; omega
  refine ⟨hp, h.r.grown hg (hne (Nat.le_refl _)), fun j => (World.frozen?_of_block (a := ⟨R, j, none⟩) (hg.block R h.r.lt (hne (Nat.le_refl _)))).trans (h.rf j), hi, hf, h.cur.kept hg (fun k e => by have := hr k e; omega), ?_, h.br, h.wr⟩
  have hw := h.g
  have hwr := h.wr
  exact ⟨hg.os.trans hw.os, hg.tape.trans hw.tape, hg.output.trans hw.output, Nat.le_trans hw.size hg.size, fun q hq hn => (hg.block q (Nat.lt_of_lt_of_le hq hw.size) (hne (by omega))).trans (hw.block q hq hn)⟩

theorem PkS.rp (h : PkS X w B a len cap R P nm ia ic ims fa fc xs) : R < P ∧ P < X.heap.size := by have := h.p.lt P rfl; omega
theorem PkS.cells (h : PkS X w B a len cap R P nm ia ic ims fa fc xs) : Box3 X P (.string ⟨nm.toArray⟩) (.slice ia ims.length ic) (.slice fa xs.length fc) ∧ ∀ j, X.frozen? ⟨P, j, none⟩ = false :=
  ⟨⟨h.p.cells rfl 0 _ rfl, h.p.cells rfl 1 _ rfl, h.p.cells rfl 2 _ rfl⟩, fun j => h.p.frozenAt j⟩

/-- The package's name is written. -/
theorem PkS.name (h : PkS X w B a len cap R P nm ia ic ims fa fc xs) (x : List UInt8) : PkS (X.setCell ⟨P, 0, none⟩ (.string ⟨x.toArray⟩)) w B a len cap R P x ia ic ims fa fc xs := by
  obtain ⟨hp, hg⟩ := h.p.stored 0 (.string ⟨x.toArray⟩)
  exact h.step hg (fun k e => by injection e with e; have := h.rp; omega) hp (h.im.kept hg (own_types h.im h.p (by decide))) (h.fo.kept hg (own_types h.fo.row h.p (by decide)) (fun z hz => own_types (h.fo.trees z hz) h.p (by decide)))
theorem PkS.imps (h : PkS X w B a len cap R P nm ia ic ims fa fc xs) {ia' : Option Addr} {ic' : Nat} {ims' : List (List UInt8)} (hi : X.ownsRow (R + 1) 9 1 (.slice ia' ims'.length ic') ims'.length (strV ims')) : PkS (X.setCell ⟨P, 1, none⟩ (.slice ia' ims'.length ic')) w B a len cap R P nm ia' ic' ims' fa fc xs := by
  obtain ⟨hp, hg⟩ := h.p.stored 1 (.slice ia' ims'.length ic')
  exact h.step hg (fun k e => by injection e with e; have := h.rp; omega) hp (hi.kept hg (own_types hi h.p (by decide))) (h.fo.kept hg (own_types h.fo.row h.p (by decide)) (fun z hz => own_types (h.fo.trees z hz) h.p (by decide)))
theorem PkS.fns (h : PkS X w B a len cap R P nm ia ic ims fa fc xs) {fa' : Option Addr} {fc' : Nat} {xs' : List FV} (hf : FnsOwn X (R + 1) (.slice fa' xs'.length fc') xs') : PkS (X.setCell ⟨P, 2, none⟩ (.slice fa' xs'.length fc')) w B a len cap R P nm ia ic ims fa' fc' xs' := by
  obtain ⟨hp, hg⟩ := h.p.stored 2 (.slice fa' xs'.length fc')
  exact h.step hg (fun k e => by injection e with e; have := h.rp; omega) hp (h.im.kept hg (own_types h.im h.p (by decide))) (hf.kept hg (own_types hf.row h.p (by decide)) (fun z hz => own_types (hf.trees z hz) h.p (by decide)))

/-- An import is put behind the others. -/
theorem PkS.import (h : PkS X w B a len cap R P nm ia ic ims fa fc xs) (x : List UInt8) (hn : ims.length ≤ 1048576) :
    ∃ g' c' Y, (Builtin.append_ #[24, 24] 24 #[.slice ia ims.length ic, .slice (some ⟨X.heap.size, 0, none⟩) 1 1]).run Tryz.prog (X.alloc (.cells #[.string ⟨x.toArray⟩] 9)) = .ok (.slice (some ⟨g', 0, none⟩) (ims.length + 1) c') Y ∧
      (Box3 Y P (.string ⟨nm.toArray⟩) (.slice ia ims.length ic) (.slice fa xs.length fc) ∧ ∀ j, Y.frozen? ⟨P, j, none⟩ = false) ∧ PkS (Y.setCell ⟨P, 1, none⟩ (.slice (some ⟨g', 0, none⟩) (ims.length + 1) c')) w B a len cap R P nm (some ⟨g', 0, none⟩) c' (ims ++ [x]) fa fc xs := by
  obtain ⟨i0, hi, hz0, hz1, hz2⟩ := info_parts info9
  have h1 := h.alloc (.cells #[.string ⟨x.toArray⟩] 9)
  have hnew := new_str X x 1
  obtain ⟨W, hW⟩ : ∃ W, X.alloc (.cells #[.string ⟨x.toArray⟩] 9) = W := ⟨_, rfl⟩
  rw [hW] at h1 hnew ⊢
  have hrp := h1.rp
  obtain ⟨v', Y, hrun, hown, hg, _⟩ := run_append_src (P := Tryz.prog) W (R + 1) 24 24 9 i0 _ 1 16 Tryz.underlying24 hi hz0 hz1 hz2 rfl (by decide) _ _ _ h1.im _ 1 (strV [x]) hnew (by unfold maxLen; omega) (by omega) (by omega)
  obtain ⟨g', c', rfl⟩ := own_some hown (by omega)
  have e1 : (ims ++ [x]).length = ims.length + 1 := by simp
  have hown2 : Y.ownsRow (R + 1) 9 1 (.slice (some ⟨g', 0, none⟩) (ims ++ [x]).length c') (ims ++ [x]).length (strV (ims ++ [x])) := by
    have e2 : strV (ims ++ [x]) = strV ims ++ strV [x] := by simp [strV]
    rw [e1, e2]; exact hown
  have hp := h1.p.kept hg (own_types h1.p h1.im (by decide))
  have hf := h1.fo.kept hg (own_types h1.fo.row h1.im (by decide)) (fun z hz => own_types (h1.fo.trees z hz) h1.im (by decide))
  obtain ⟨hp2, hg2⟩ := hp.stored 1 (.slice (some ⟨g', 0, none⟩) (ims.length + 1) c')
  refine ⟨g', c', Y, hrun, ⟨⟨hp.cells rfl 0 _ rfl, hp.cells rfl 1 _ rfl, hp.cells rfl 2 _ rfl⟩, fun j => hp.frozenAt j⟩, ?_⟩
  have hR : ∀ k, (Value.slice ia ims.length ic).ownBlock = some k → R < k := fun k e => by have := (h1.im.lt k e).1; omega
  have hbr := h1.br
  have hne : ∀ {k : Nat}, k ≤ R → some k ≠ (Value.slice ia ims.length ic).ownBlock := fun {k} hk e => by have := hR k e.symm; omega
  have hneP : ∀ {k : Nat}, k ≤ R → some k ≠ some P := fun {k} hk e => by injection e with e; omega
  refine ⟨by rw [e1]; exact hp2, (h1.r.grown hg (hne (Nat.le_refl _))).grown hg2 (hneP (Nat.le_refl _)), fun j => (World.frozen?_setCell ..).trans ((World.frozen?_of_block (a := ⟨R, j, none⟩) (hg.block R h1.r.lt (hne (Nat.le_refl _)))).trans (h1.rf j)), hown2.kept hg2 (own_types hown2 hp (by decide)), hf.kept hg2 (own_types hf.row hp (by decide)) (fun z hz => own_types (hf.trees z hz) hp (by decide)), (h1.cur.kept hg (fun k e => by have := hR k e; omega)).kept hg2 (fun k e => by injection e with e; omega), ?_, h.br, h.wr⟩
  have hw := h1.g
  have hwr := h.wr
  exact ⟨hg2.os.trans (hg.os.trans hw.os), hg2.tape.trans (hg.tape.trans hw.tape), hg2.output.trans (hg.output.trans hw.output), Nat.le_trans hw.size (Nat.le_trans hg.size hg2.size), fun q hq hn => (hg2.block q (Nat.lt_of_lt_of_le hq (Nat.le_trans hw.size hg.size)) (hneP (by omega))).trans ((hg.block q (Nat.lt_of_lt_of_le hq hw.size) (hne (by omega))).trans (hw.block q hq hn))⟩

/-- A function is put behind the others. -/
theorem PkS.func (h : PkS X w B a len cap R P nm ia ic ims fa fc xs) (y : FV) (hy : X.ownsRow (R + 1) 76 4 (fvT y) y.1.2.2.length (nodesV y.1.2.2)) (hn : xs.length ≤ 1048576) :
    ∃ g' c' Y, (Builtin.append_ #[25, 25] 25 #[.slice fa xs.length fc, .slice (some ⟨X.heap.size, 0, none⟩) 1 1]).run Tryz.prog (X.alloc (.cells #[.string ⟨y.1.1.toArray⟩, .int .i64 y.1.2.1, fvT y] 37)) = .ok (.slice (some ⟨g', 0, none⟩) (xs.length + 1) c') Y ∧
      (Box3 Y P (.string ⟨nm.toArray⟩) (.slice ia ims.length ic) (.slice fa xs.length fc) ∧ ∀ j, Y.frozen? ⟨P, j, none⟩ = false) ∧ PkS (Y.setCell ⟨P, 2, none⟩ (.slice (some ⟨g', 0, none⟩) (xs.length + 1) c')) w B a len cap R P nm ia ic ims (some ⟨g', 0, none⟩) c' (xs ++ [y]) := by
  have hrp := h.rp
  obtain ⟨g', c', Y, hrun, hfo, hg⟩ := push_fn X (R + 1) (.slice fa xs.length fc) xs y h.fo hy (by omega) hn
  have e1 : (xs ++ [y]).length = xs.length + 1 := by simp
  have hp := h.p.kept hg (own_types h.p h.fo.row (by decide))
  have hi := h.im.kept hg (own_types h.im h.fo.row (by decide))
  obtain ⟨hp2, hg2⟩ := hp.stored 2 (.slice (some ⟨g', 0, none⟩) (xs.length + 1) c')
  refine ⟨g', c', Y, hrun, ⟨⟨hp.cells rfl 0 _ rfl, hp.cells rfl 1 _ rfl, hp.cells rfl 2 _ rfl⟩, fun j => hp.frozenAt j⟩, ?_⟩
  have hR : ∀ k, (Value.slice fa xs.length fc).ownBlock = some k → R < k := fun k e => by have := (h.fo.row.lt k e).1; omega
  have hbr := h.br
  have hne : ∀ {k : Nat}, k ≤ R → some k ≠ (Value.slice fa xs.length fc).ownBlock := fun {k} hk e => by have := hR k e.symm; omega
  have hneP : ∀ {k : Nat}, k ≤ R → some k ≠ some P := fun {k} hk e => by injection e with e; omega
  refine ⟨by rw [e1]; exact hp2, (h.r.grown hg (hne (Nat.le_refl _))).grown hg2 (hneP (Nat.le_refl _)), fun j => (World.frozen?_setCell ..).trans ((World.frozen?_of_block (a := ⟨R, j, none⟩) (hg.block R h.r.lt (hne (Nat.le_refl _)))).trans (h.rf j)), hi.kept hg2 (own_types hi hp (by decide)), hfo.kept hg2 (own_types hfo.row hp (by decide)) (fun z hz => own_types (hfo.trees z hz) hp (by decide)), (h.cur.kept hg (fun k e => by have := hR k e; omega)).kept hg2 (fun k e => by injection e with e; omega), ?_, h.br, h.wr⟩
  have hw := h.g
  have hwr := h.wr
  exact ⟨hg2.os.trans (hg.os.trans hw.os), hg2.tape.trans (hg.tape.trans hw.tape), hg2.output.trans (hg.output.trans hw.output), Nat.le_trans hw.size (Nat.le_trans hg.size hg2.size), fun q hq hn => (hg2.block q (Nat.lt_of_lt_of_le hq (Nat.le_trans hw.size hg.size)) (hneP (by omega))).trans ((hg.block q (Nat.lt_of_lt_of_le hq hw.size) (hne (by omega))).trans (hw.block q hq hn))⟩

/-- The first function's number of arguments is written. -/
theorem PkS.args (h : PkS X w B a len cap R P nm ia ic ims (some ⟨gF, 0, none⟩) fc xs) (hx : 0 < xs.length) (y : Int) : PkS (X.setCell ⟨gF, 1, none⟩ (.int .i64 y)) w B a len cap R P nm ia ic ims (some ⟨gF, 0, none⟩) fc (xs.set 0 (((xs.getD 0 fv0).1.1, y, (xs.getD 0 fv0).1.2.2), (xs.getD 0 fv0).2)) := by
  obtain ⟨z, r, rfl⟩ : ∃ z r, xs = z :: r := by cases xs with | nil => simp at hx | cons z r => exact ⟨z, r, rfl⟩
  obtain ⟨hr, hg⟩ := h.fo.row.stored 1 (.int .i64 y)
  have hk := h.fo.row.lt gF rfl
  refine h.step hg (fun k e => by injection e with e; omega) (h.p.kept hg (own_types h.p h.fo.row (by decide))) (h.im.kept hg (own_types h.im h.fo.row (by decide))) ⟨hr, fun x hx => ?_⟩
  rcases List.mem_cons.1 hx with rfl | hx
  · exact (h.fo.trees z (by simp)).kept hg (own_types (h.fo.trees z (by simp)) h.fo.row (by decide))
  · exact (h.fo.trees x (by simp [hx])).kept hg (own_types (h.fo.trees x (by simp [hx])) h.fo.row (by decide))
/-- The first function's tree is written. -/
theorem PkS.tree (h : PkS X w B a len cap R P nm ia ic ims (some ⟨gF, 0, none⟩) fc xs) (hx : 0 < xs.length) (ta : Option Addr) (tc : Nat) (t : List Nd) (ho : X.ownsRow (R + 1) 76 4 (.slice ta t.length tc) t.length (nodesV t)) : PkS (X.setCell ⟨gF, 2, none⟩ (.slice ta t.length tc)) w B a len cap R P nm ia ic ims (some ⟨gF, 0, none⟩) fc (xs.set 0 (((xs.getD 0 fv0).1.1, (xs.getD 0 fv0).1.2.1, t), ta, tc)) := by
  obtain ⟨z, r, rfl⟩ : ∃ z r, xs = z :: r := by cases xs with | nil => simp at hx | cons z r => exact ⟨z, r, rfl⟩
  obtain ⟨hr, hg⟩ := h.fo.row.stored 2 (.slice ta t.length tc)
  have hk := h.fo.row.lt gF rfl
  refine h.step hg (fun k e => by injection e with e; omega) (h.p.kept hg (own_types h.p h.fo.row (by decide))) (h.im.kept hg (own_types h.im h.fo.row (by decide))) ⟨hr, fun x hx => ?_⟩
  rcases List.mem_cons.1 hx with rfl | hx
  · exact ho.kept hg (own_types ho h.fo.row (by decide))
  · exact (h.fo.trees x (by simp [hx])).kept hg (own_types (h.fo.trees x (by simp [hx])) h.fo.row (by decide))

theorem own_shape7 {n e size base : Nat} {v : Value} {ys : List Value} (h : X.ownsRow base e size v n ys) : ∃ ad c, v = .slice ad n c := by
  rcases own_forms h with ⟨rfl, h0, _⟩ | ⟨g, cp, rfl⟩
  · exact ⟨none, 0, by rw [h0]⟩
  · exact ⟨_, _, rfl⟩
/-- The imports are put in their place. -/
theorem pk_start {v1 : Value} (hp : X.ownsRow (R + 1) 27 3 (.slice (some ⟨P, 0, none⟩) 1 1) 1 [.string ⟨nm.toArray⟩, v1, .slice fa xs.length fc]) (hr : Box3 X R (.string ⟨#[]⟩) (.slice none 0 0) (.slice none 0 0) ∧ ∀ j, X.frozen? ⟨R, j, none⟩ = false) (him : X.ownsRow (R + 1) 9 1 (.slice ia ims.length ic) ims.length (strV ims)) (hfo : FnsOwn X (R + 1) (.slice fa xs.length fc) xs) (hc : Cur X B a len cap) (hw : w.grownBy X (some B)) (hbr : B < R) (hwr : w.heap.size = R) :
    PkS (X.setCell ⟨P, 1, none⟩ (.slice ia ims.length ic)) w B a len cap R P nm ia ic ims fa fc xs := by
  obtain ⟨hp2, hg⟩ := hp.stored 1 (.slice ia ims.length ic)
  have hrp := (hp.lt P rfl).1
  have hneP : ∀ {k : Nat}, k ≤ R → some k ≠ some P := fun {k} hk e => by injection e with e; omega
  exact ⟨hp2, hr.1.grown hg (hneP (Nat.le_refl _)), fun j => (World.frozen?_setCell ..).trans (hr.2 j), him.kept hg (own_types him hp (by decide)), hfo.kept hg (own_types hfo.row hp (by decide)) (fun z hz => own_types (hfo.trees z hz) hp (by decide)), hc.kept hg (fun k e => by injection e with e; omega),
    ⟨hg.os.trans hw.os, hg.tape.trans hw.tape, hg.output.trans hw.output, Nat.le_trans hw.size hg.size, fun q hq hn => (hg.block q (Nat.lt_of_lt_of_le hq hw.size) (hneP (by omega))).trans (hw.block q hq hn)⟩, hbr, hwr⟩
end

end Go.Proofs.YtibppdepgoiojaaGreatDoor
