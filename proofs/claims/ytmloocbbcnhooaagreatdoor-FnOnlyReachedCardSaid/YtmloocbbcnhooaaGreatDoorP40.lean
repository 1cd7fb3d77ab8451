/-
  Parts of one proof, one behind the other: LawN, Draw10N.
-/
import Derived.Test.YtmloocbbcnhooaaGreatDoorP39
import Derived.Test.YtmloocbbcnhooaaGreatDoorP37
import Derived.Deep.Cut
import Derived.Test.YtmloocbbcnhooaaGreatDoorP38

/-! The law FnOnlyReached, over what DrawBurnt leaves. -/
namespace Go.Proofs.YtmloocbbcnhooaaGreatDoor
open Go.RowKit

set_option maxHeartbeats 8000000 in
set_option maxRecDepth 100000 in
theorem lawOnly (hdr : ∀ (w : World) (a : Option Addr) (len cap : Nat), len ≤ 4096 → Code w w.heap.size a len → Calls Tryz.prog 14 #[.slice a len cap] w fun e w' => ∃ v s fn u xs fuel, e = .returned (.tuple #[v, .string ⟨(s : List UInt8).toArray⟩, .string ⟨(fn : List UInt8).toArray⟩, u, .int .i64 fuel]) ∧ Drawn10 w w' v s fn u xs fuel)
    (w : World) (a : Option Addr) (len cap : Nat) (hcode : Code w w.heap.size a len) (er : Nat → Addr) (hT : Err8 w er) :
    Calls Tryz.prog 4 #[.slice a len cap] w fun e w' => e = .returned (.bool true) ∧ Below w.heap.size w w' := by
  by_cases hbig : 4096 < (len : Int)
  · have hd : decide (4096 < (len : Int)) = true := decide_eq_true hbig
    go_enter Tryz.func4, Tryz.ntmps4
    go_wp2_with (go_at_call 7; refine (bigB _ _ _ _).mono ?_; rintro e w' ⟨rfl, rfl⟩)
    go_ret
    exact ⟨rfl, Below.refl _ _⟩
  · have hd : decide (4096 < (len : Int)) = false := decide_eq_false hbig
    go_enter Tryz.func4, Tryz.ntmps4
    go_wp2_with fail
    refine (bigB _ _ _ _).mono ?_
    rintro e w1 ⟨rfl, hw1⟩
    obtain rfl := hw1.symm
    go_wp2_with fail
    refine (hdr _ _ _ _ (by omega) hcode).mono ?_
    rintro e w2 ⟨v, s, fn, u, xs, fuel, rfl, hsl, hfl, ⟨hfu0, hfu1⟩, ⟨g, c, rfl⟩, hrow, hxl, hxw, la, n, lc, ps, rfl, hn, hok, hB2⟩
    obtain rfl : ps.length = n := hok.hlen
    have has : AsIn w2 (some ⟨g, 0, none⟩) xs := nums_as hrow rfl
    have HIm : Hid (∀ f Z, -9223372036854775808 ≤ f → f ≤ 9223372036854775807 → Below w2.heap.size w2 Z → Calls Tryz.prog 9 #[.slice la ps.length lc, .string ⟨s.toArray⟩, .string ⟨fn.toArray⟩, .slice (some ⟨g, 0, none⟩) xs.length c, .int .i64 f] Z fun e w' => e = .returned (.tuple #[.int .i64 (meantV ps s fn xs f).1, .int .i64 (meantV ps s fn xs f).2]) ∧ Below Z.heap.size Z w') := fun f Z _ _ hz => implMeant _ _ _ ps s fn _ _ xs f er Z (hT.below (hB2.trans (hz.mono hB2.size))) (hok.below hz) (has.below hz) (by omega)
    have HIb : Hid (∀ Z, Below w2.heap.size w2 Z → Calls Tryz.prog 10 #[.slice la ps.length lc, .string ⟨s.toArray⟩, .string ⟨fn.toArray⟩, .slice (some ⟨g, 0, none⟩) xs.length c, .int .i64 fuel] Z fun e w' => e = .returned (.int .i64 (burntV ps s fn xs fuel)) ∧ Below Z.heap.size Z w') := fun Z hz => implBurnt _ _ _ ps s fn _ _ xs fuel er Z (hT.below (hB2.trans (hz.mono hB2.size))) (hok.below hz) (has.below hz) (by omega)
    have HSm : Hid (∀ Z, Below w2.heap.size w2 Z → Calls Tryz.prog 11 #[.slice la ps.length lc, .string ⟨s.toArray⟩, .string ⟨fn.toArray⟩, .slice (some ⟨g, 0, none⟩) xs.length c, .int .i64 fuel] Z fun e w' => e = .returned (.tuple #[.int .i64 (meantV ps s fn xs fuel).1, .int .i64 (meantV ps s fn xs fuel).2]) ∧ Below Z.heap.size Z w') := fun Z hz => specMeant _ _ _ ps s fn _ _ xs fuel Z (hok.below hz).in (by omega) (hok.short) (has.below hz) (by omega)
    have HSb : Hid (∀ Z, Below w2.heap.size w2 Z → Calls Tryz.prog 12 #[.slice la ps.length lc, .string ⟨s.toArray⟩, .string ⟨fn.toArray⟩, .slice (some ⟨g, 0, none⟩) xs.length c, .int .i64 fuel] Z fun e w' => e = .returned (.int .i64 (burntV ps s fn xs fuel)) ∧ Below Z.heap.size Z w') := fun Z hz => specBurnt _ _ _ ps s fn _ _ xs fuel Z (hok.below hz).in (by omega) (hok.short) (has.below hz) (by omega)
    have HOl : Hid ((meantV ps s fn xs fuel).2 ≠ 3 → meantV (lessV (reachV ps s) ps) s fn xs fuel = meantV ps s fn xs fuel ∧ 0 < ps.length) := fun h => by
      obtain ⟨h1, h2⟩ := only_law h
      refine ⟨by unfold reachV; rw [if_pos h1]; exact h2, ?_⟩
      unfold hereB at h1
      rw [Bool.and_eq_true] at h1
      have h0 := of_decide_eq_true h1.2
      rcases at8_is ps s with ⟨e, _⟩ | ⟨i, hi, _⟩ <;> omega
    have HRe : Hid (∀ Z, Below w2.heap.size w2 Z → Calls Tryz.prog 15 #[.slice la ps.length lc, .string ⟨s.toArray⟩] Z fun e w' => ∃ v, e = .returned v ∧ w'.ownsRow Z.heap.size 9 1 v (reachV ps s).length (strV (reachV ps s)) ∧ Below Z.heap.size Z w') := fun Z hz => specReaches _ _ _ ps s Z (hok.below hz).in (by omega) hok.short
    have hRl := reachV_len ps s
    have HOk : Hid (PkgsOk w2 la ps.length lc ps) := hok
    have HXs : Hid (AsIn w2 (some ⟨g, 0, none⟩) xs) := has
    have HEr : Hid (Err8 w2 er) := hT.below hB2
    have HXl : Hid (xs.length ≤ 1048576) := by exact (by omega : xs.length ≤ 1048576)
    have HI0 : Hid (∀ Z, Below w2.heap.size w2 Z → Calls Tryz.prog 9 #[.slice la ps.length lc, .string ⟨s.toArray⟩, .string ⟨fn.toArray⟩, .slice (some ⟨g, 0, none⟩) xs.length c, .int .i64 fuel] Z fun e w' => e = .returned (.tuple #[.int .i64 (meantV ps s fn xs fuel).1, .int .i64 (meantV ps s fn xs fuel).2]) ∧ Below Z.heap.size Z w') := fun Z hz => HIm.out fuel Z (by omega) (by omega) hz
    obtain ⟨M, hM⟩ : ∃ M, meantV ps s fn xs fuel = M := ⟨_, rfl⟩
    obtain ⟨b, hb⟩ : ∃ b, burntV ps s fn xs fuel = b := ⟨_, rfl⟩
    rw [hM] at HSm HI0 HOl
    rw [hb] at HIb HSb
    obtain ⟨mv, mk⟩ := M
    simp only at HSm HI0 HOl
    clear hM hb hok has hrow hxw hcode hdr hT
    have hB : Below w2.heap.size w2 w2 := Below.refl _ _
    have HB0 : Hid (Below w.heap.size w w2) := hB2
    clear hB2
    have hs1 : (mv != mv) = false := by simp
    have hs2 : (mk != mk) = false := by simp
    have hs3 : (b != b) = false := by simp
    obtain ⟨nx, hnx⟩ : ∃ nx, xs.length = nx := ⟨_, rfl⟩
    rw [hnx] at HIm HIb HSm HSb HI0
    have HNx : Hid (xs.length = nx) := hnx
    rw [hnx]
    clear hnx
    go_wp2_with fail
    refine (HI0.out _ hB).mono ?_
    rintro e w3 ⟨rfl, hb3⟩
    replace hB := hB.trans (hb3.mono hB.size)
    clear hb3
    go_wp2_with fail
    refine (HIb.out _ hB).mono ?_
    rintro e w4 ⟨rfl, hb4⟩
    replace hB := hB.trans (hb4.mono hB.size)
    clear hb4
    go_wp2_with fail
    refine (HSm.out _ hB).mono ?_
    rintro e w5 ⟨rfl, hb5⟩
    replace hB := hB.trans (hb5.mono hB.size)
    clear hb5
    go_wp2_with fail
    refine (HSb.out _ hB).mono ?_
    rintro e w6 ⟨rfl, hb6⟩
    replace hB := hB.trans (hb6.mono hB.size)
    have HE6 : Hid (Below w.heap.size w w6) := HB0.out.trans (hB.mono HB0.out.size)
    clear hb6
    by_cases h3 : mk = 3
    · subst h3
      go_wp2
      go_ret
      exact ⟨rfl, HE6.out⟩
    have h3b : (mk == 3) = false := beq_eq_false_iff_ne.2 h3
    have h7 : ¬ 7 < (ps.length : Int) := by omega
    obtain ⟨HLv, hps0⟩ := HOl.out h3
    generalize reachV ps s = R at HLv HRe hRl
    have HLV : Hid (meantV (lessV R ps) s fn xs fuel = (mv, mk)) := HLv
    clear HLv HOl HIm HIb HSm HSb HI0
    go_wp2_with fail
    refine (HRe.out _ hB).mono ?_
    rintro e w7 ⟨rv, rfl, hrv, hb7⟩
    obtain ⟨ra, rc, rfl, _, hri⟩ := own_texts0 hrv
    replace hB := hB.trans (hb7.mono hB.size)
    have HLs : Hid (PkgsOk w7 la ps.length lc ps) := HOk.out.below hB
    have HTx : Hid (TextsIn w7 ra R.length R) := hri
    have HX7 : Hid (AsIn w7 (some ⟨g, 0, none⟩) xs) := HXs.out.below hB
    have HE7 : Hid (Err8 w7 er) := HEr.out.below hB
    have HB7 : Hid (Below w.heap.size w w7) := HB0.out.trans (hB.mono HB0.out.size)
    obtain ⟨B0, hB0⟩ : ∃ B0, w7.heap.size = B0 := ⟨_, rfl⟩
    have HO0 : Hid ((w7.alloc (.cells #[] 36)).ownsRow w7.heap.size 36 3 (.slice (some ⟨w7.heap.size, 0, none⟩) 0 0) 0 (pvsV [])) := World.ownsRow_lit (base := w7.heap.size) (e := 36) (size := 3) w7 #[] 0 (Nat.le_refl _) (by decide) rfl
    have HBA : Hid (Below B0 w7 (w7.alloc (.cells #[] 36))) := by exact (by rw [← hB0]; exact (Below.refl _ _).alloc (Nat.le_refl _) _ : Below B0 w7 (w7.alloc (.cells #[] 36)))
    rw [hB0] at HO0
    clear hb7 hrv hri hB HOk HXs HEr HB0 HE6 HRe hs1 hs2 hs3
    go_wp2
    go_loopw [14, 15] (fun lv0 iv wx => ∃ (i : Nat) (ys : List PV) (lv : Value), lv = lv0 ∧ iv = .int .i64 (i : Int) ∧ i ≤ ps.length ∧ Hid (ys.length = i) ∧ Hid (wx.ownsRow B0 36 3 lv i (pvsV ys)) ∧ Hid (∀ j, j < i → St wx lv.ownBlock (fun W => PkAt W (ys.getD j pv0) (lessP R (ps.getD j pk0)))) ∧ Hid (Below B0 w7 wx)) (fun _ iv _ => ps.length - (intOf iv).toNat)
    case atStart => exact ⟨0, [], _, rfl, rfl, Nat.zero_le _, rfl, HO0, (fun j hj => absurd hj (Nat.not_lt_zero _)), HBA⟩
    case round =>
      obtain ⟨i, ys, lv, rfl, rfl, hi, HYl, HO, HSt, HBw⟩ := hrel
      clear HO0 HBA
      by_cases hlt : (i : Int) < (ps.length : Int)
      · obtain ⟨b, off, rfl, hbl, c0, ia, il, ic, fa, fl, fc, c1, c2, hpk⟩ := HLs.out.each i (by omega)
        have hbw : Below w7.heap.size w7 wr := by rw [hB0]; exact HBw.out
        replace c0 := (hbw.cell (p := ⟨b, off + i * 3, none⟩) hbl).trans c0
        replace c1 := (hbw.cell (p := ⟨b, off + i * 3 + 1, none⟩) hbl).trans c1
        replace c2 := (hbw.cell (p := ⟨b, off + i * 3 + 2, none⟩) hbl).trans c2
        obtain ⟨p, hp⟩ : ∃ p, ps.getD i pk0 = p := ⟨_, rfl⟩
        have HPe : Hid (ps.getD i pk0 = p) := hp
        rw [hp] at c0 hpk
        obtain ⟨nm, ims, fs⟩ := p
        simp only at c0 hpk
        obtain rfl : ims.length = il := hpk.i.1
        obtain rfl : fs.length = fl := hpk.f.1
        obtain ⟨bP, hbP⟩ := Bk.new wr (.string ⟨nm.toArray⟩) (.slice ia ims.length ic) (.slice fa fs.length fc) 36
        obtain ⟨X, hX⟩ : ∃ X, wr.alloc (.cells #[.string ⟨nm.toArray⟩, .slice ia ims.length ic, .slice fa fs.length fc] 36) = X := ⟨_, rfl⟩
        obtain ⟨P, hP⟩ : ∃ P, wr.heap.size = P := ⟨_, rfl⟩
        rw [hX] at bP hbP
        rw [hP] at bP hbP
        have hPX : P < X.heap.size := bP.box.lt
        have hwX : Below w7.heap.size w7 X := hbw.trans (hbP.mono (by rw [← hP]; exact hbw.size))
        have HHas : Hid (_) := lawHas ra R.length rc R nm X (HTx.out.below hwX) (by omega)
        obtain ⟨hb, hhb⟩ : ∃ hb, decide (nm ∈ R) = hb := ⟨_, rfl⟩
        have HHb : Hid (decide (nm ∈ R) = hb) := hhb
        rw [hhb] at HHas
        have HOX : Hid (X.ownsRow B0 36 3 lv i (pvsV ys)) := own_below HO.out (by rw [hP]; exact hbP)
        have HTl : Hid (∀ k, lv.ownBlock = some k → B0 ≤ k ∧ k < P) := fun k e => ⟨(HO.out.lt k e).1, by rw [← hP]; exact (HO.out.lt k e).2⟩
        have HBel : Hid (∀ W, Below P wr W → ∀ W', Wrote W W' (fun k => lv.ownBlock = some k) → Below w7.heap.size w7 W') := fun W hw W' hw' => (hbw.trans (hw.mono (by rw [← hP]; exact hbw.size))).trans (hw'.below (Nat.le_trans hbw.size (by have := hw.size; exact this)) (fun k e => by rw [hB0]; exact (HO.out.lt k e).1))
        have HPk : Hid (PkOk w7 nm ia ims.length ic fa fs.length fc ims fs) := hpk
        have HB : Hid (Bk X P (.string ⟨nm.toArray⟩) (.slice ia ims.length ic) (.slice fa fs.length fc)) := bP
        have HBX : Hid (Below P wr X) := hbP
        have x0 := bP.box.c0
        obtain ⟨nI, hnI⟩ : ∃ nI, ims.length = nI := ⟨_, rfl⟩
        obtain ⟨nF, hnF⟩ : ∃ nF, fs.length = nF := ⟨_, rfl⟩
        have HnI : Hid (ims.length = nI) := hnI
        have HnF : Hid (fs.length = nF) := hnF
        have hfl2 := hpk.fl
        rw [hnI] at c1 hX HB HPk
        rw [hnF] at c2 hX HB HPk hfl2
        clear hpk bP hbP hwX hbw hp hnI hnF hbl hhb
        go_upto_if 97 with (go_at_call 16; refine Calls.mono HHas.out ?_; rintro e wh ⟨rfl, hwh⟩; obtain rfl := hwh.symm)
        go_cut [17] from 98 to 120 (fun jv wx => ∃ y : PV, Hid (Box3 wx P (.string ⟨y.nm.toArray⟩) (pvI y) (pvF y)) ∧ Hid (St wx lv.ownBlock (fun W => PkAt W y (lessP R (nm, ims, fs)))) ∧ Hid (Below P wr wx))
        case first =>
          cases hb with
          | true =>
            have hmem : nm ∈ R := of_decide_eq_true HHb.out
            have HSn : Hid (St X lv.ownBlock (fun W => PkAt W ⟨nm, ims, fs.map (fun f => (f, none, 0)), ia, ic, fa, fc, 0, 0⟩ (lessP R (nm, ims, fs)))) := fun W' hW' => by
              rw [lessP_in hmem]
              refine ⟨rfl, ?_⟩
              have h := HPk.out.below (HBel.out X HBX.out W' hW')
              rw [← HnI.out, ← HnF.out] at h
              simpa using h
            have HBy : Hid (Box3 X P (.string ⟨nm.toArray⟩) (pvI ⟨nm, ims, fs.map (fun f => (f, none, 0)), ia, ic, fa, fc, 0, 0⟩) (pvF ⟨nm, ims, fs.map (fun f => (f, none, 0)), ia, ic, fa, fc, 0, 0⟩)) := by
              exact (by simpa [pvI, pvF, HnI.out, HnF.out] using HB.out.box : Box3 X P (.string ⟨nm.toArray⟩) (pvI ⟨nm, ims, fs.map (fun f => (f, none, 0)), ia, ic, fa, fc, 0, 0⟩) (pvF ⟨nm, ims, fs.map (fun f => (f, none, 0)), ia, ic, fa, fc, 0, 0⟩))
            clear hmem
            go_wp2_with fail
            go_meet
            case rel => exact ⟨⟨nm, ims, fs.map (fun f => (f, none, 0)), ia, ic, fa, fc, 0, 0⟩, HBy, HSn, HBX⟩
          | false =>
            have HNm : Hid (¬ nm ∈ R) := of_decide_eq_false HHb.out
            -- the functions' new row
            obtain ⟨i0, hi0, hz0, hz1, hz2⟩ := info_parts infoFunc
            have hb1 : Below X.heap.size X (X.alloc (.cells #[] 42)) := (Below.refl _ _).alloc (Nat.le_refl _) _
            have hoE : (X.alloc (.cells #[] 42)).ownsRow X.heap.size 42 3 (.slice (some ⟨X.heap.size, 0, none⟩) 0 0) 0 (fnsV []) := World.ownsRow_lit (base := X.heap.size) (e := 42) (size := 3) X #[] 0 (Nat.le_refl _) (by decide) rfl
            have bX1 := HB.out.below hb1
            obtain ⟨X1, hX1⟩ : ∃ X1, X.alloc (.cells #[] 42) = X1 := ⟨_, rfl⟩
            obtain ⟨E, hE⟩ : ∃ E, X.heap.size = E := ⟨_, rfl⟩
            rw [hX1] at hb1 hoE bX1
            rw [hE] at hoE
            have hbD : Below X.heap.size X X1.drew := ⟨hb1.os, hb1.tape, hb1.output, hb1.size, hb1.block⟩
            have hoD : X1.drew.ownsRow E 42 3 (.slice (some ⟨E, 0, none⟩) 0 0) 0 (fnsV []) := own_none hoE ⟨rfl, rfl, rfl, Nat.le_refl _, fun _ _ _ => rfl⟩
            have hPD : Below P wr X1.drew := HBX.out.trans (hbD.mono (Nat.le_of_lt hPX))
            obtain ⟨xs0, hxs0, hsrc⟩ := funcs_src (HPk.out.f.below (HBel.out X1.drew hPD X1.drew (Wrote.refl _ _))) HPk.out.fc.1
            obtain ⟨v1, Y1, hrun, hoY, hgY, hnn⟩ := run_append_src (P := Tryz.prog) X1.drew E 34 34 42 i0 _ 3 48 Tryz.underlying34 hi0 hz0 hz1 hz2 rfl (by decide) _ 0 _ hoD (.slice fa nF fc) nF (fnsV xs0) hsrc (by unfold maxLen; omega) (by omega) (by rw [← hE]; exact hbD.size)
            rw [Nat.zero_add] at hoY
            obtain ⟨Fg, cp, rfl⟩ : ∃ Fg cp, v1 = .slice (some ⟨Fg, 0, none⟩) nF cp := by
              rcases own_forms hoY with ⟨e, _⟩ | h
              · exact absurd (hnn e) (by simp)
              · exact h
            have hPE : P < E := by rw [← hE]; exact hPX
            have hFE : E ≤ Fg := (hoY.lt Fg rfl).1
            have bY : Bk Y1 P (.string ⟨nm.toArray⟩) (.slice ia nI ic) (.slice fa nF fc) := (bX1.keep (Y := X1.drew) rfl).keep (hgY.block P (by have := bX1.box.lt; exact this) (fun e => (by have h : some P = some E := e; injection h with h; omega)))
            obtain ⟨Z1, hZ1, z0, z1, z2, hgZ⟩ := set3 (.string ⟨nm.toArray⟩) (.slice ia nI ic) (.slice (some ⟨Fg, 0, none⟩) nF cp) bY.box.c0 bY.box.c1 bY.box.c2
            have hPY : Below P wr Y1 := hPD.grown hgY (Nat.le_trans (Nat.le_of_lt hPX) hbD.size) (fun k e => (by have h : some E = some k := e; injection h with h; omega))
            have HPZ : Hid (∀ W, W.heap = Z1.heap → W.os = Z1.os → W.tape = Z1.tape → W.output = Z1.output → Below P wr W) := fun W h1 h2 h3 h4 => by
              have h := hPY.grown hgZ (Nat.le_of_lt bY.box.lt) (fun k e => by injection e with e; omega)
              exact ⟨h2.trans h.os, h3.trans h.tape, h4.trans h.output, by rw [h1]; exact h.size, fun k hk => by rw [h1]; exact h.block k hk⟩
            have HOZ : Hid (Z1.ownsRow E 42 3 (.slice (some ⟨Fg, 0, none⟩) nF cp) nF (fnsV xs0)) := own_wrote hoY (Wrote.of_grown hgZ (S := fun k => k = P) (fun k e => by injection e with e; exact e.symm)) (fun k e h => by have := (hoY.lt k e).1; omega)
            have HBZ : Hid (Box3 Z1 P (.string ⟨nm.toArray⟩) (.slice ia nI ic) (.slice (some ⟨Fg, 0, none⟩) nF cp)) := ⟨z0, z1, z2⟩
            have HXs0 : Hid (xs0.map (·.1) = fs) := hxs0
            have x1 := HB.out.box.c1
            have x2 := HB.out.box.c2
            have d0 := bX1.box.c0
            have d1 := bX1.box.c1
            have d2 := bX1.box.c2
            have e0 := bY.box.c0
            have e1 := bY.box.c1
            have e2 := bY.box.c2
            have f0 := bY.fr 0
            have f1 := bY.fr 1
            have f2 := bY.fr 2
            clear hb1 hoE bX1 hbD hoD hPD hsrc hoY hgY hnn bY hgZ hPY hxs0 hi0 hz0 hz1 hz2 z0 z1 z2
            go_upto_region 18 with fail
            go_cut [] from 98 to 106 (fun wx => ∃ (Fg cp : Nat) (xs0 : List FV), E ≤ Fg ∧ Hid (xs0.map (·.1) = fs) ∧ Hid (wx.ownsRow E 42 3 (.slice (some ⟨Fg, 0, none⟩) nF cp) nF (fnsV xs0)) ∧ Hid (Box3 wx P (.string ⟨nm.toArray⟩) (.slice ia nI ic) (.slice (some ⟨Fg, 0, none⟩) nF cp)) ∧ Hid (Below P wr wx))
            case first =>
              go_region_law (first | (refine step_append_run (by rfl) (.tmp 102) (.tmp 104) 34 (by rfl) _ _ _ (by rfl) (by rfl) hrun ?_))
              all_goals (go_wp2_with fail; go_meet; case rel => exact ⟨Fg, cp, xs0, hFE, HXs0, (by first | exact HOZ.out | exact own_none HOZ.out ⟨rfl, rfl, rfl, Nat.le_refl _, fun _ _ _ => rfl⟩), (by first | exact HBZ.out | exact HBZ.out.keep rfl), HPZ.out _ rfl rfl rfl rfl⟩)
            case rest =>
              obtain ⟨Fh, ch, xh, hFh, HXh, HOh, HBh, HPh⟩ := hcut
              obtain ⟨Wq, rfl⟩ : ∃ Wq, Wq = wr := ⟨_, rfl⟩
              have HXl : Hid (xh.length = nF) := by exact (by rw [← HnF.out, ← HXh.out, List.length_map] : xh.length = nF)
              clear hrun HPZ HOZ HBZ HXs0 x1 x2 d0 d1 d2 e0 e1 e2 f0 f1 f2 hZ1 hX1 hFE x0 HO HOX HSt HB HBX HHas
              go_wp2
              go_loopw [17] (fun jv wy => ∃ (j : Nat) (zs : List FV), jv = .int .i64 (j : Int) ∧ j ≤ nF ∧ Hid (zs.length = j) ∧ Hid (zs.map (·.1) = (fs.take j).map bare10) ∧ Hid (wy.ownsRow E 42 3 (.slice (some ⟨Fh, 0, none⟩) nF ch) nF (fnsV (zs ++ xh.drop j))) ∧ Hid (∀ x ∈ zs, wy.ownsRow E 39 4 (fvT x) x.1.2.2.length (nodesV x.1.2.2)) ∧ Hid (Box3 wy P (.string ⟨nm.toArray⟩) (.slice ia nI ic) (.slice (some ⟨Fh, 0, none⟩) nF ch)) ∧ Hid (Below P Wq wy)) (fun jv _ => nF - (intOf jv).toNat)
              case atStart => exact ⟨0, [], rfl, Nat.zero_le _, rfl, rfl, HOh, (fun x hx => (by cases hx)), HBh, HPh⟩
              case round =>
                obtain ⟨j, zs, rfl, hj, HZl, HZm, HZr, HZt, HZb, HZp⟩ := hrel
                clear HOh HBh HPh
                have b2 := HZb.out.c2
                have hFl := (HZr.out.lt Fh rfl).2
                by_cases hjl : (j : Int) < (nF : Int)
                · have hj2 : j < nF := by omega
                  have hjx : j < xh.length := by rw [HXl.out]; exact hj2
                  have hdrop : xh.drop j = xh[j] :: xh.drop (j + 1) := List.drop_eq_getElem_cons hjx
                  have hx1 : xh[j].1 = fs.getD j fn0 := by
                    have h1 : (xh.map (·.1)).getD j fn0 = fs.getD j fn0 := by rw [HXh.out]
                    rw [← h1]
                    simp [List.getD, hjx]
                  obtain ⟨x, hx⟩ : ∃ x, xh[j] = x := ⟨_, rfl⟩
                  rw [hx] at hdrop hx1
                  obtain ⟨_, hbQ⟩ := node_new wr (.int .i64 1) (.int .i64 5) (.string ⟨#[]⟩) (.string ⟨#[]⟩) 39
                  have hoU := HZr.out.alloc (.cells #[.int .i64 1, .int .i64 5, .string ⟨#[]⟩, .string ⟨#[]⟩] 39)
                  have htU : (wr.alloc (.cells #[.int .i64 1, .int .i64 5, .string ⟨#[]⟩, .string ⟨#[]⟩] 39)).ownsRow E 39 4 (.slice (some ⟨wr.heap.size, 0, none⟩) 1 1) 1 (nodesV five10) := World.ownsRow_lit (base := E) (e := 39) (size := 4) wr #[.int .i64 1, .int .i64 5, .string ⟨#[]⟩, .string ⟨#[]⟩] 1 (by omega) (by decide) rfl
                  have htz : ∀ z ∈ zs, (wr.alloc (.cells #[.int .i64 1, .int .i64 5, .string ⟨#[]⟩, .string ⟨#[]⟩] 39)).ownsRow E 39 4 (fvT z) z.1.2.2.length (nodesV z.1.2.2) := fun z hz => (HZt.out z hz).alloc _
                  have hbU := HZb.out.below hbQ
                  have hpU : Below P Wq (wr.alloc (.cells #[.int .i64 1, .int .i64 5, .string ⟨#[]⟩, .string ⟨#[]⟩] 39)) := HZp.out.trans (hbQ.mono (by omega))
                  obtain ⟨U, hU⟩ : ∃ U, wr.alloc (.cells #[.int .i64 1, .int .i64 5, .string ⟨#[]⟩, .string ⟨#[]⟩] 39) = U := ⟨_, rfl⟩
                  obtain ⟨Q, hQ⟩ : ∃ Q, wr.heap.size = Q := ⟨_, rfl⟩
                  rw [hU] at hbQ hoU htU htz hbU hpU
                  rw [hQ] at htU hFl
                  have hzl := HZl.out
                  have hlen : (zs ++ xh.drop j).length = nF := by rw [List.length_append, List.length_drop, hzl, HXl.out]; omega
                  obtain ⟨_, _, w2⟩ := fnsV_at (zs ++ xh.drop j) j (by omega)
                  have q2 := hoU.cellAt (j * 3 + 2) (by omega)
                  rw [w2] at q2
                  have qf := hoU.frozenAt (j * 3 + 2)
                  obtain ⟨hoV, hgV⟩ := hoU.stored (j * 3 + 2) (.slice (some ⟨Q, 0, none⟩) 1 1)
                  have hput := fnsV_put zs (xh.drop (j + 1)) x (some ⟨Q, 0, none⟩) 1 five10
                  rw [hzl] at hput
                  rw [hdrop] at hoV
                  have hput2 : (fnsV (zs ++ x :: xh.drop (j + 1))).set (j * 3 + 2) (.slice (some ⟨Q, 0, none⟩) 1 1) = fnsV ((zs ++ [(((x.1.1, x.1.2.1, five10), some ⟨Q, 0, none⟩, 1) : FV)]) ++ xh.drop (j + 1)) := hput
                  rw [hput2] at hoV
                  have hwV : Wrote U (U.setCell ⟨Fh, j * 3 + 2, none⟩ (.slice (some ⟨Q, 0, none⟩) 1 1)) (fun k => k = Fh) := Wrote.of_grown hgV (fun k e => by injection e with e; exact e.symm)
                  have HbV : Hid (Box3 (U.setCell ⟨Fh, j * 3 + 2, none⟩ (.slice (some ⟨Q, 0, none⟩) 1 1)) P (.string ⟨nm.toArray⟩) (.slice ia nI ic) (.slice (some ⟨Fh, 0, none⟩) nF ch)) := hbU.wrote hwV (fun e => by omega)
                  have HpV : Hid (Below P Wq (U.setCell ⟨Fh, j * 3 + 2, none⟩ (.slice (some ⟨Q, 0, none⟩) 1 1))) := hpU.trans (hwV.below (Nat.le_of_lt hbU.lt) (fun k e => by omega))
                  have HtV : Hid (∀ z ∈ zs ++ [(((x.1.1, x.1.2.1, five10), some ⟨Q, 0, none⟩, 1) : FV)], (U.setCell ⟨Fh, j * 3 + 2, none⟩ (.slice (some ⟨Q, 0, none⟩) 1 1)).ownsRow E 39 4 (fvT z) z.1.2.2.length (nodesV z.1.2.2)) := fun z hz => by
                    rcases List.mem_append.1 hz with h | h
                    · refine own_wrote (htz z h) hwV (fun k e h2 => ?_)
                      rcases own_types (htz z h) hoU (by decide) with h3 | h3
                      · rw [h3] at e; cases e
                      · exact h3 (by rw [e, h2]; rfl)
                    · rw [List.mem_singleton.1 h]
                      exact own_wrote htU hwV (fun k e h2 => by have h4 : some Q = some k := e; injection h4 with h4; omega)
                  have HoV : Hid ((U.setCell ⟨Fh, j * 3 + 2, none⟩ (.slice (some ⟨Q, 0, none⟩) 1 1)).ownsRow E 42 3 (.slice (some ⟨Fh, 0, none⟩) nF ch) nF (fnsV ((zs ++ [(((x.1.1, x.1.2.1, five10), some ⟨Q, 0, none⟩, 1) : FV)]) ++ xh.drop (j + 1)))) := hoV
                  have HZl2 : Hid ((zs ++ [(((x.1.1, x.1.2.1, five10), some ⟨Q, 0, none⟩, 1) : FV)]).length = j + 1) := by exact (by rw [List.length_append, hzl]; rfl : (zs ++ [(((x.1.1, x.1.2.1, five10), some ⟨Q, 0, none⟩, 1) : FV)]).length = j + 1)
                  have HZm2 : Hid ((zs ++ [(((x.1.1, x.1.2.1, five10), some ⟨Q, 0, none⟩, 1) : FV)]).map (·.1) = (fs.take (j + 1)).map bare10) := by
                    exact (by rw [List.map_append, HZm.out, bare_take (by rw [HnF.out]; exact hj2), ← hx1]; rfl : (zs ++ [(((x.1.1, x.1.2.1, five10), some ⟨Q, 0, none⟩, 1) : FV)]).map (·.1) = (fs.take (j + 1)).map bare10)
                  have b2U := hbU.c2
                  generalize fvT ((zs ++ xh.drop j).getD j fv0) = fvo at q2
                  clear hoU htU htz hbU hpU hbQ w2 hoV hgV hput hput2 hwV HZl HZm HZr HZt HZb HZp hdrop hx1 hx hzl hlen
                  go_wp2
                  go_roundw
                  case rel => exact ⟨j + 1, zs ++ [(((x.1.1, x.1.2.1, five10), some ⟨Q, 0, none⟩, 1) : FV)], by go_num, by omega, HZl2, HZm2, HoV, HtV, HbV, HpV⟩
                  case measure => simp [intOf]; omega
                · have hje : j = nF := by omega
                  have hzl := HZl.out
                  have hzr := HZr.out
                  rw [List.drop_of_length_le (by rw [HXl.out]; omega), List.append_nil] at hzr
                  have hcap : nF ≤ ch := by
                    rcases hzr.2 with ⟨e, _⟩ | ⟨g', cap', cur, e, _, _, hc, _⟩
                    · cases e
                    · injection e with _ _ e3; rw [e3]; exact hc
                  have hzm := HZm.out
                  rw [List.take_of_length_le (by rw [HnF.out]; omega)] at hzm
                  have HBy : Hid (Box3 wr P (.string ⟨nm.toArray⟩) (pvI ⟨nm, ims, zs, ia, ic, some ⟨Fh, 0, none⟩, ch, 0, 0⟩) (pvF ⟨nm, ims, zs, ia, ic, some ⟨Fh, 0, none⟩, ch, 0, 0⟩)) := by
                    exact (by simpa [pvI, pvF, HnI.out, hzl, hje] using HZb.out : Box3 wr P (.string ⟨nm.toArray⟩) (pvI ⟨nm, ims, zs, ia, ic, some ⟨Fh, 0, none⟩, ch, 0, 0⟩) (pvF ⟨nm, ims, zs, ia, ic, some ⟨Fh, 0, none⟩, ch, 0, 0⟩))
                  have HSn : Hid (St wr lv.ownBlock (fun W => PkAt W ⟨nm, ims, zs, ia, ic, some ⟨Fh, 0, none⟩, ch, 0, 0⟩ (lessP R (nm, ims, fs)))) := fun W' hW' => by
                    rw [show lessP R (nm, ims, fs) = (nm, ims, fs.map bare10) from if_neg HNm.out]
                    have hzz : zs.length = nF := hzl.trans hje
                    have hfo : FnsOwn W' E (.slice (some ⟨Fh, 0, none⟩) nF ch) zs := ⟨by rw [hzz]; exact own_wrote hzr hW' (fun k e h => by have := (hzr.lt k e).1; have := (HTl.out k h).2; omega), fun z hz => own_wrote (HZt.out z hz) hW' (fun k e h => by have := ((HZt.out z hz).lt k e).1; have := (HTl.out k h).2; omega)⟩
                    obtain ⟨a', cap', e, _, hF⟩ := hfo.in
                    injection e with e1 _ _
                    rw [← e1, hzm] at hF
                    have h := HPk.out.below (HBel.out wr HZp.out W' hW')
                    refine ⟨rfl, ?_, hF, h.ic, ⟨fun e => (by cases e), by simp only; omega⟩, intF_bare h.int, by have := h.il; simp only; rw [HnI.out]; exact this, by simp only; omega, h.nm, h.is, shortF_bare h.fs⟩
                    simp only
                    rw [HnI.out]
                    exact h.i
                  clear hzl hzr hzm HZl HZm HZr HZt HZb
                  go_wp2_with fail
                  go_meet
                  case rel => exact ⟨⟨nm, ims, zs, ia, ic, some ⟨Fh, 0, none⟩, ch, 0, 0⟩, HBy, HSn, HZp⟩
        case rest =>
          obtain ⟨y, HBy, HSy, HBc⟩ := hcut
          obtain ⟨ynm, yims, yxs, yia, yic, yfa, yfc, ylo, yhi⟩ := y
          have hOc : wc.ownsRow B0 36 3 lv i (pvsV ys) := own_below HO.out (by rw [hP]; exact HBc.out)
          have hB0w : B0 ≤ wr.heap.size := by rw [← hB0]; exact HBw.out.size
          have hwc : wr.heap.size ≤ wc.heap.size := HBc.out.size
          obtain ⟨v', Y, hr, ho, hW, hat⟩ := push_pv ⟨ynm, yims, yxs, yia, yic, yfa, yfc, ylo, yhi⟩ hOc (by omega) (by omega)
          have hWr : Wrote wr Y (fun k => lv.ownBlock = some k) := (Wrote.of_below (by rw [hP]; exact HBc.out)).trans hW
          have HO2 : Hid (Y.ownsRow B0 36 3 v' (i + 1) (pvsV (ys ++ [⟨ynm, yims, yxs, yia, yic, yfa, yfc, ylo, yhi⟩]))) := ho
          have HYl2 : Hid ((ys ++ [(⟨ynm, yims, yxs, yia, yic, yfa, yfc, ylo, yhi⟩ : PV)]).length = i + 1) := by exact (by rw [List.length_append, HYl.out]; rfl : (ys ++ [(⟨ynm, yims, yxs, yia, yic, yfa, yfc, ylo, yhi⟩ : PV)]).length = i + 1)
          have HSt2 : Hid (∀ j, j < i + 1 → St Y v'.ownBlock (fun W => PkAt W ((ys ++ [(⟨ynm, yims, yxs, yia, yic, yfa, yfc, ylo, yhi⟩ : PV)]).getD j pv0) (lessP R (ps.getD j pk0)))) := fun j hj => by
            have hyl := HYl.out
            rcases Nat.lt_or_ge j i with h | h
            · have e3 : (ys ++ [(⟨ynm, yims, yxs, yia, yic, yfa, yfc, ylo, yhi⟩ : PV)]).getD j pv0 = ys.getD j pv0 := by
                simp only [List.getD]
                rw [List.getElem?_append_left (by omega)]
              rw [e3]
              exact (HSt.out j h).step hWr (fun k e => by rcases hat k e with h | h; exact Or.inl h; exact Or.inr (by omega))
            · obtain rfl : j = i := by omega
              have e3 : (ys ++ [(⟨ynm, yims, yxs, yia, yic, yfa, yfc, ylo, yhi⟩ : PV)]).getD j pv0 = ⟨ynm, yims, yxs, yia, yic, yfa, yfc, ylo, yhi⟩ := by
                simp only [List.getD]
                rw [List.getElem?_append_right (by omega), hyl]
                simp
              rw [e3, HPe.out]
              exact HSy.out.step hW hat
          have HB2 : Hid (Below B0 w7 Y) := HBw.out.trans (hWr.below hB0w (fun k e => (HTl.out k e).1))
          have hby := HBy.out
          unfold pvI pvF at hby hr
          simp only at hby hr
          obtain ⟨mI, hmI⟩ : ∃ mI, yims.length = mI := ⟨_, rfl⟩
          obtain ⟨mX, hmX⟩ : ∃ mX, yxs.length = mX := ⟨_, rfl⟩
          rw [hmI, hmX] at hby hr
          have y0 := hby.c0
          have y1 := hby.c1
          have y2 := hby.c2
          clear hby ho hW hat hWr hOc HBy HSy HBc HHas HSt HO HB HOX HBX x0 hmI hmX
          go_wp2_with (at_builtin; refine wpList_append_run rfl (.tmp 121) (.tmp 123) 24 rfl _ _ _ rfl rfl hr ?_; clear hr)
          go_roundw
          case rel => exact ⟨i + 1, _, v', rfl, by go_num, by omega, HYl2, HO2, HSt2, HB2⟩
          case measure => simp [intOf]; omega
      · have HIe : Hid (i = ps.length) := by exact (by omega : i = ps.length)
        obtain ⟨g1, d1, rfl⟩ := own_some HO.out (by omega)
        have hbw : Below w7.heap.size w7 wr := by rw [hB0]; exact HBw.out
        have hpk : PkgsOk wr (some ⟨g1, 0, none⟩) ps.length d1 (lessV R ps) := by
          have hrow := HO.out
          rw [HIe.out] at hrow
          exact pkgs_of hrow (HYl.out.trans HIe.out) (less_len R ps) (by omega) (fun j hj => by rw [less_getD]; exact (HSt.out j (by have := HIe.out; omega)).now)
        have HIm : Hid (_) := implMeant (some ⟨g1, 0, none⟩) ps.length d1 (lessV R ps) s fn (some ⟨g, 0, none⟩) c xs fuel er wr (HE7.out.below hbw) hpk (HX7.out.below hbw) HXl.out
        rw [HLV.out, HNx.out, ← HIe.out] at HIm
        have HBe : Hid (Below w.heap.size w wr) := HB7.out.trans (hbw.mono HB7.out.size)
        clear hpk hbw HSt HO
        go_wp2_with fail
        refine Calls.mono HIm.out ?_
        rintro e w9 ⟨rfl, hb9⟩
        have HB9 : Hid (Below w.heap.size w w9) := HBe.out.trans (hb9.mono HBe.out.size)
        have hs1 : (mv == mv) = true := by simp
        have hs2 : (mk == mk) = true := by simp
        clear hb9
        go_wp2
        go_ret
        exact ⟨rfl, HB9.out⟩

end Go.Proofs.YtmloocbbcnhooaaGreatDoor

/-! DrawBurnt. -/
namespace Go.Proofs.YtmloocbbcnhooaaGreatDoor
open Go.RowKit

set_option maxHeartbeats 1000000 in
set_option maxRecDepth 100000 in
theorem drawBurnt (w : World) (a : Option Addr) (len cap : Nat) (hl : len ≤ 4096) (hc : Code w w.heap.size a len) :
    Calls Tryz.prog 14 #[.slice a len cap] w fun e w' => ∃ v s fn u xs fuel, e = .returned (.tuple #[v, .string ⟨(s : List UInt8).toArray⟩, .string ⟨(fn : List UInt8).toArray⟩, u, .int .i64 fuel]) ∧ Drawn10 w w' v s fn u xs fuel := by
  go_enter Tryz.func14, Tryz.ntmps14
  go_wp2_with fail
  refine (drawMeant w a len cap hl hc).mono ?_
  rintro e w2 ⟨v, s, fn, u, xs, fuel, rfl, h⟩
  obtain ⟨g, c, rfl⟩ := h.2.2.2.1
  obtain ⟨la, n, lc, ps, rfl, _⟩ := h.2.2.2.2.2.2.2
  have HD : Hid (Drawn10 w w2 (.slice la n lc) s fn (.slice (some ⟨g, 0, none⟩) xs.length c) xs fuel) := h
  clear h
  go_wp2_with fail
  refine bodyPost_ret (v := .tuple #[.slice la n lc, .string ⟨s.toArray⟩, .string ⟨fn.toArray⟩, .slice (some ⟨g, 0, none⟩) xs.length c, .int .i64 fuel]) (by simp [results, Tryz.results14, go_sem]) rfl ?_
  exact ⟨_, s, fn, _, xs, fuel, rfl, HD.out⟩

end Go.Proofs.YtmloocbbcnhooaaGreatDoor
