/-
  FnPackages returns true at every code and leaves it as it was.
-/
import Derived.Test.YtibppdepgoiojaaGreatDoorRows
import Derived.Test.YtibppdepgoiojaaGreatDoorCards
import Derived.Test.YtibppdepgoiojaaGreatDoorTie
import Derived.Test.YtibppdepgoiojaaGreatDoorP1
import Derived.Test.YtibppdepgoiojaaGreatDoorP2
import Derived.Test.YtibppdepgoiojaaGreatDoorP3
import Derived.Test.YtibppdepgoiojaaGreatDoorP4
import Derived.Test.YtibppdepgoiojaaGreatDoorP5
import Derived.Test.YtibppdepgoiojaaGreatDoorP6
import Derived.Test.YtibppdepgoiojaaGreatDoorP7
import Derived.Test.YtibppdepgoiojaaGreatDoorP8
import Derived.Test.YtibppdepgoiojaaGreatDoorP9
import Derived.Test.YtibppdepgoiojaaGreatDoorP10
import Derived.Test.YtibppdepgoiojaaGreatDoorP11
import Derived.Test.YtibppdepgoiojaaGreatDoorP12
import Derived.Test.YtibppdepgoiojaaGreatDoorP13
import Derived.Test.YtibppdepgoiojaaGreatDoorP14
import Derived.Test.YtibppdepgoiojaaGreatDoorP15
import Derived.Test.YtibppdepgoiojaaGreatDoorP16
import Derived.Test.YtibppdepgoiojaaGreatDoorP17
import Derived.Test.YtibppdepgoiojaaGreatDoorP18
import Derived.Test.YtibppdepgoiojaaGreatDoorP19
import Derived.Test.YtibppdepgoiojaaGreatDoorP20
import Derived.Test.YtibppdepgoiojaaGreatDoorP21
import Derived.Test.YtibppdepgoiojaaGreatDoorP22
import Derived.Test.YtibppdepgoiojaaGreatDoorP23
import Derived.Test.YtibppdepgoiojaaGreatDoorP24
import Derived.Test.YtibppdepgoiojaaGreatDoorP25
import Derived.Test.YtibppdepgoiojaaGreatDoorP26
import Derived.Test.YtibppdepgoiojaaGreatDoorP27
import Derived.Test.YtibppdepgoiojaaGreatDoorP28
import Derived.Test.YtibppdepgoiojaaGreatDoorP29
import Derived.Test.YtibppdepgoiojaaGreatDoorP30
import Derived.Test.YtibppdepgoiojaaGreatDoorP31
import Derived.WalkKit
import Derived.Deep.RegionHeld3
import Derived.Deep.Cut
import Derived.ProofKit
import Derived.OpenShut
import Derived.ShutString
import Derived.ChangeOld
import Derived.Below
import Derived.LaidLaws
import Derived.LaidHandle
import Derived.Lay
import Derived.MakeChecks
import Derived.Lib.LaidTab
import Derived.Stop.Joined
import Derived.SevenTiedAt
namespace Go.Proofs.YtibppdepgoiojaaGreatDoor.fnPackages
open Go.ChangeShapes Go.WideShapes Go.ChangeAt Go.RowKit
open Go.ChangeMaps (open_string shut_string)
set_option linter.unusedVariables false

/-- Bytes that came in: none, or a row of them with its spare places. -/
def Came (w : World) (a : Option Addr) (len cap : Nat) (zs : List Int) : Prop :=
  (a = none ∧ len = 0 ∧ cap = 0 ∧ zs = []) ∨
  ∃ x, a = some x ∧ len ≤ cap ∧ cap ≤ maxLen ∧ zs.length = cap ∧ (∀ i, i < zs.length → w.cell? (x.add i) = some (.int .u8 (zs.getD i 0))) ∧ ∀ n ∈ zs, (Lit.int .u8 n).wf = true

theorem own : ownKnob Tryz.prog.godebug = none := by kernel_rfl
theorem laidOut : laidOutB Tryz.prog = true := by kernel_rfl

/-! The walk: the law returns true and writes nothing that was there. -/
set_option maxHeartbeats 8000000 in
set_option maxRecDepth 1000000 in
theorem walk (a0 : Option Addr) (len0 cap0 : Nat) (z0 : List Int) (w : World) (w0 : Came w a0 len0 cap0 z0) (hT : PowIs w) :
    Calls Tryz.prog 3 #[.slice a0 len0 cap0] w fun e w' => e = .returned (.bool true) ∧ Below w.heap.size w w' := by
  have HPW : Hid (PowIs w) := hT
  clear hT
  have hcode : Code w w.heap.size a0 len0 := by
    rcases w0 with ⟨rfl, rfl, rfl, rfl⟩ | ⟨x, rfl, hl, hm, hz, hcell, hwz⟩
    · exact code_nil w
    · exact code_of w x len0 z0 hcell (by omega) hwz
  clear w0
  by_cases hbig : 4096 < (len0 : Int)
  · have hd : decide (4096 < (len0 : Int)) = true := decide_eq_true hbig
    go_enter Tryz.func3, Tryz.ntmps3
    go_wp2_with (go_at_call 4; refine (bigB _ _ _ _).mono ?_; rintro e w' ⟨rfl, rfl⟩)
    go_ret
    exact ⟨rfl, Below.refl _ _⟩
  · have hd : decide (4096 < (len0 : Int)) = false := decide_eq_false hbig
    have hself : ∀ n : Int, (n != n) = false := by simp
    have hselfb : ∀ n : Bool, (n != n) = false := by simp
    have hselfl : ∀ n : List UInt8, (n != n) = false := by simp
    have hselfe : ∀ n : List UInt8, (n == n) = true := by simp
    go_enter Tryz.func3, Tryz.ntmps3
    go_wp2_with fail
    refine (bigB _ _ _ _).mono ?_
    rintro e w1 ⟨rfl, rfl⟩
    go_wp2_with fail
    refine (drawShowPackage _ _ _ _ (by omega) hcode).mono ?_
    rintro e w2 ⟨v2, nm2, ims2, xs2, rfl, hd2, hb2⟩
    obtain ⟨p, rfl, hp2⟩ := hd2.rec
    have hcode2 := hcode.later hb2
    obtain ⟨hp3, hb3⟩ := PkAt.new hp2
    obtain ⟨w3, hw3⟩ : ∃ W, w2.alloc (.cells #[.string ⟨p.nm.toArray⟩, .slice p.ia p.ims.length p.ic, .slice p.fa p.fs.length p.fc] 27) = W := ⟨_, rfl⟩
    obtain ⟨D3, hD3⟩ : ∃ D, w2.heap.size = D := ⟨_, rfl⟩
    rw [hw3] at hp3 hb3
    have hcode3 := hcode2.later hb3
    have hB3 := hb2.trans (hb3.mono hb2.size)
    rw [hD3] at hp3
    have k0 := hp3.1.c0
    have k1 := hp3.1.c1
    have k2 := hp3.1.c2
    have HP3 : Hid (PkAt w3 D3 p) := hp3
    clear hcode hd2 hp2 hb2 hcode2 hb3 hp3
    go_wp2_with fail
    refine (implShowPackage p.nm p.ia p.ims.length p.ic p.fa p.fs.length p.fc p.ims p.fs _ HP3.out.2 (HPW.out.below hB3)).mono ?_
    rintro e w4 ⟨rfl, hb4⟩
    have hcode4 := hcode3.later hb4
    have hB4 := hB3.trans (hb4.mono hB3.size)
    have HP4 : Hid (PkAt w4 D3 p) := HP3.out.below hb4
    obtain ⟨s, hs⟩ : ∃ s, showPk (p.nm, p.ims, p.fs) = s := ⟨_, rfl⟩
    have HS : Hid (showPk (p.nm, p.ims, p.fs) = s) := hs
    have hsl : s.length ≤ 20000 := by rw [← hs]; exact showPk_small _
    rw [hs]
    clear hs hcode3 hb4 hB3 HP3 k0 k1 k2 hw3 hD3
    go_wp2_with fail
    refine (drawReadPackage _ _ _ _ (by omega) hcode4).mono ?_
    rintro e w5 ⟨r, rfl, hrl, hb5⟩
    have hcode5 := hcode4.later hb5
    have hB5 := hB4.trans (hb5.mono hB4.size)
    have HP5 : Hid (PkAt w5 D3 p) := HP4.out.below hb5
    clear hcode4 hb5 hB4 HP4
    go_wp2_with fail
    refine (implReadPackage r _ (by omega) (HPW.out.below hB5)).mono ?_
    rintro e w6 ⟨vi, vf, xs, rfl, hxs, hoi, hof, _, hb6⟩
    obtain ⟨x, hx, hx6, HXE⟩ := read_rec hxs hoi hof
    rw [hx]
    obtain ⟨is, his⟩ : ∃ is, readPB r = is := ⟨_, rfl⟩
    have HIS : Hid (readPB r = is) := his
    have HX : Hid ((x.nm, x.ims, x.fs) = readPV r) := HXE
    rw [his]
    have hcode6 := hcode5.later hb6
    have hB6 := hB5.trans (hb6.mono hB5.size)
    have HP6 := HP5.out.below hb6
    obtain ⟨hx7, hb7⟩ := PkAt.new hx6
    obtain ⟨w7, hw7⟩ : ∃ W, w6.alloc (.cells #[.string ⟨x.nm.toArray⟩, .slice x.ia x.ims.length x.ic, .slice x.fa x.fs.length x.fc] 27) = W := ⟨_, rfl⟩
    obtain ⟨D6, hD6⟩ : ∃ D, w6.heap.size = D := ⟨_, rfl⟩
    rw [hw7] at hx7 hb7
    have hcode7 := hcode6.later hb7
    have hB7 := hB6.trans (hb7.mono hB6.size)
    have HP7 : Hid (PkAt w7 D3 p) := HP6.below hb7
    rw [hD6] at hx7
    have HX7 : Hid (PkAt w7 D6 x) := hx7
    clear hx hxs hoi hof HXE his hcode5 hb6 hB5 HP5 hx6 hb7 hcode6 hB6 HP6 hx7
    go_wp2_with fail
    refine (drawFuncOf _ _ _ _ (by omega) hcode7).mono ?_
    rintro e w8 ⟨v8, nm8, ims8, xs8, nq, rfl, hd8, hnq, hb8⟩
    obtain ⟨q, rfl, hq8⟩ := hd8.rec
    have hB8 := hB7.trans (hb8.mono hB7.size)
    have HP8 := HP7.out.below hb8
    have HX8 := HX7.out.below hb8
    obtain ⟨hq9, hb9⟩ := PkAt.new hq8
    obtain ⟨w9, hw9⟩ : ∃ W, w8.alloc (.cells #[.string ⟨q.nm.toArray⟩, .slice q.ia q.ims.length q.ic, .slice q.fa q.fs.length q.fc] 27) = W := ⟨_, rfl⟩
    obtain ⟨D8, hD8⟩ : ∃ D, w8.heap.size = D := ⟨_, rfl⟩
    rw [hw9] at hq9 hb9
    have hB9 := hB8.trans (hb9.mono hB8.size)
    have HP9 : Hid (PkAt w9 D3 p) := HP8.below hb9
    have HX9 : Hid (PkAt w9 D6 x) := HX8.below hb9
    rw [hD8] at hq9
    have HQ9 : Hid (PkAt w9 D8 q) := hq9
    have k0 := hq9.1.c0
    have k1 := hq9.1.c1
    have k2 := hq9.1.c2
    clear hcode7 hd8 hb8 hq8 hB7 HP7 HX7 HP8 HX8 hb9 hB8 hq9 hw7 hD6
    go_wp2_with fail
    refine (implFuncOf q.nm q.ia q.ims.length q.ic q.fa q.fs.length q.fc q.ims q.fs nq _ HQ9.out.2 (by omega)).mono ?_
    rintro e w10 ⟨v10, rfl, ho10, hb10⟩
    obtain ⟨f, hf, hf10, HFE⟩ := fn_rec ho10
    rw [hf]
    obtain ⟨fb, hfb⟩ : ∃ fb, foundB (q.nm, q.ims, q.fs) nq = fb := ⟨_, rfl⟩
    have HFB : Hid (foundB (q.nm, q.ims, q.fs) nq = fb) := hfb
    have HF : Hid ((f.nm, f.args, f.t) = foundV (q.nm, q.ims, q.fs) nq) := HFE
    rw [hfb]
    have hB10 := hB9.trans (hb10.mono hB9.size)
    have HP10 := HP9.out.below hb10
    have HX10 := HX9.out.below hb10
    have HQ10 := HQ9.out.below hb10
    obtain ⟨hf11, hb11⟩ := FnAt.new hf10
    obtain ⟨w11, hw11⟩ : ∃ W, w10.alloc (.cells #[.string ⟨f.nm.toArray⟩, .int .i64 f.args, .slice f.ta f.t.length f.tc] 37) = W := ⟨_, rfl⟩
    obtain ⟨D10, hD10⟩ : ∃ D, w10.heap.size = D := ⟨_, rfl⟩
    rw [hw11] at hf11 hb11
    have hB11 := hB10.trans (hb11.mono hB10.size)
    rw [hD10] at hf11
    have HH11 : Hid (PkAt w11 D3 p ∧ PkAt w11 D6 x ∧ PkAt w11 D8 q ∧ FnAt w11 D10 f) := ⟨HP10.below hb11, HX10.below hb11, HQ10.below hb11, hf11⟩
    clear hf hf10 HFE hfb ho10 hb10 hB9 HP9 HX9 HQ9 HP10 HX10 HQ10 hb11 hB10 hf11 k0 k1 k2 hw9 hD8
    go_wp2_with fail
    refine (specReadPackage r _).mono ?_
    rintro e w12 ⟨vi, vf, xs, rfl, hxs, hoi, hof, hb12⟩
    obtain ⟨ya, yc, yf, yg, hy, hy12⟩ := read_rec2 HX.out hxs hoi hof
    rw [hy, HIS.out]
    have hB12 := hB11.trans (hb12.mono hB11.size)
    obtain ⟨hy13, hb13⟩ := PkAt.new hy12
    obtain ⟨w13, hw13⟩ : ∃ W, w12.alloc (.cells #[.string ⟨x.nm.toArray⟩, .slice ya x.ims.length yc, .slice yf x.fs.length yg] 27) = W := ⟨_, rfl⟩
    obtain ⟨D12, hD12⟩ : ∃ D, w12.heap.size = D := ⟨_, rfl⟩
    simp only at hy13 hb13
    rw [hw13] at hy13 hb13
    rw [hD12] at hy13
    have hB := hB12.trans (hb13.mono hB12.size)
    have st : Hold7 w13 D3 p D6 x D8 q D10 f D12 ⟨x.nm, ya, yc, yf, yg, x.ims, x.fs⟩ := ⟨(HH11.out.1.below hb12).below hb13, (HH11.out.2.1.below hb12).below hb13, (HH11.out.2.2.1.below hb12).below hb13, (HH11.out.2.2.2.below hb12).below hb13, hy13⟩
    clear hy hy12 hxs hoi hof hb12 hb13 hB12 hy13 HH11 hB11 hw11 hD10
    obtain ⟨pb, hpb⟩ : ∃ pb, pkgB (p.nm, p.ims, p.fs) = pb := ⟨_, rfl⟩
    have HPB : Hid (pkgB (p.nm, p.ims, p.fs) = pb) := hpb
    clear hpb
    go_upto_region 10 with fail
    go_cut [71] from 45 (fun v wx => v = .bool false ∧ Hid (Hold7 wx D3 p D6 x D8 q D10 f D12 ⟨x.nm, ya, yc, yf, yg, x.ims, x.fs⟩) ∧ Hid (Below w1.heap.size w1 wx))
    case first =>
      replace st := st.drew
      replace hB : Below w1.heap.size w1 w13.drew := hB.drew
      have p0 : w13.drew.cell? ⟨D3, 0, none⟩ = some (.string ⟨p.nm.toArray⟩) := st.p.1.c0
      have p1 : w13.drew.cell? ⟨D3, 1, none⟩ = some (.slice p.ia p.ims.length p.ic) := st.p.1.c1
      have p2 : w13.drew.cell? ⟨D3, 2, none⟩ = some (.slice p.fa p.fs.length p.fc) := st.p.1.c2
      have x0 : w13.drew.cell? ⟨D6, 0, none⟩ = some (.string ⟨x.nm.toArray⟩) := st.x.1.c0
      have x1 : w13.drew.cell? ⟨D6, 1, none⟩ = some (.slice x.ia x.ims.length x.ic) := st.x.1.c1
      have x2 : w13.drew.cell? ⟨D6, 2, none⟩ = some (.slice x.fa x.fs.length x.fc) := st.x.1.c2
      have y0 : w13.drew.cell? ⟨D12, 0, none⟩ = some (.string ⟨x.nm.toArray⟩) := st.y.1.c0
      have y1 : w13.drew.cell? ⟨D12, 1, none⟩ = some (.slice ya x.ims.length yc) := st.y.1.c1
      have y2 : w13.drew.cell? ⟨D12, 2, none⟩ = some (.slice yf x.fs.length yg) := st.y.1.c2
      go_region_held3 (fun w' => w'.cell? ⟨D3, 0, none⟩ = some (.string ⟨p.nm.toArray⟩) ∧ w'.cell? ⟨D3, 1, none⟩ = some (.slice p.ia p.ims.length p.ic) ∧ w'.cell? ⟨D3, 2, none⟩ = some (.slice p.fa p.fs.length p.fc) ∧ w'.cell? ⟨D6, 0, none⟩ = some (.string ⟨x.nm.toArray⟩) ∧ w'.cell? ⟨D6, 1, none⟩ = some (.slice x.ia x.ims.length x.ic) ∧ w'.cell? ⟨D6, 2, none⟩ = some (.slice x.fa x.fs.length x.fc) ∧ w'.cell? ⟨D12, 0, none⟩ = some (.string ⟨x.nm.toArray⟩) ∧ w'.cell? ⟨D12, 1, none⟩ = some (.slice ya x.ims.length yc) ∧ w'.cell? ⟨D12, 2, none⟩ = some (.slice yf x.fs.length yg)) (go_keep) (first | (go_at_call 12; refine (likePackageC x.nm x.ia ya x.fa yf x.ims.length x.ic yc x.fs.length x.fc yg x.ims x.fs _ st.x.2.i st.y.2.i st.x.2.f st.y.2.f (Nat.le_trans st.x.2.il (by omega)) (Nat.le_trans st.x.2.fl (by omega)) (fun j => Nat.le_trans (st.x.2.fs j).2.1 (by omega))).mono ?_; rintro e wn ⟨rfl, hbn⟩; replace st := st.below hbn; replace hB := hB.trans (hbn.mono hB.size); clear hbn p0 p1 p2 x0 x1 x2 y0 y1 y2; have p0 : wn.cell? ⟨D3, 0, none⟩ = some (.string ⟨p.nm.toArray⟩) := st.p.1.c0; have p1 : wn.cell? ⟨D3, 1, none⟩ = some (.slice p.ia p.ims.length p.ic) := st.p.1.c1; have p2 : wn.cell? ⟨D3, 2, none⟩ = some (.slice p.fa p.fs.length p.fc) := st.p.1.c2; have x0 : wn.cell? ⟨D6, 0, none⟩ = some (.string ⟨x.nm.toArray⟩) := st.x.1.c0; have x1 : wn.cell? ⟨D6, 1, none⟩ = some (.slice x.ia x.ims.length x.ic) := st.x.1.c1; have x2 : wn.cell? ⟨D6, 2, none⟩ = some (.slice x.fa x.fs.length x.fc) := st.x.1.c2; have y0 : wn.cell? ⟨D12, 0, none⟩ = some (.string ⟨x.nm.toArray⟩) := st.y.1.c0; have y1 : wn.cell? ⟨D12, 1, none⟩ = some (.slice ya x.ims.length yc) := st.y.1.c1; have y2 : wn.cell? ⟨D12, 2, none⟩ = some (.slice yf x.fs.length yg) := st.y.1.c2) | (go_at_call 13; refine (specShowPackage p.nm p.ia p.ims.length p.ic p.fa p.fs.length p.fc p.ims p.fs _ st.p.2.i st.p.2.f st.p.2.il st.p.2.fl st.p.2.nm st.p.2.is st.p.2.fs).mono ?_; rintro e wn ⟨rfl, hbn⟩; rw [HS.out]; replace st := st.below hbn; replace hB := hB.trans (hbn.mono hB.size); clear hbn p0 p1 p2 x0 x1 x2 y0 y1 y2; have p0 : wn.cell? ⟨D3, 0, none⟩ = some (.string ⟨p.nm.toArray⟩) := st.p.1.c0; have p1 : wn.cell? ⟨D3, 1, none⟩ = some (.slice p.ia p.ims.length p.ic) := st.p.1.c1; have p2 : wn.cell? ⟨D3, 2, none⟩ = some (.slice p.fa p.fs.length p.fc) := st.p.1.c2; have x0 : wn.cell? ⟨D6, 0, none⟩ = some (.string ⟨x.nm.toArray⟩) := st.x.1.c0; have x1 : wn.cell? ⟨D6, 1, none⟩ = some (.slice x.ia x.ims.length x.ic) := st.x.1.c1; have x2 : wn.cell? ⟨D6, 2, none⟩ = some (.slice x.fa x.fs.length x.fc) := st.x.1.c2; have y0 : wn.cell? ⟨D12, 0, none⟩ = some (.string ⟨x.nm.toArray⟩) := st.y.1.c0; have y1 : wn.cell? ⟨D12, 1, none⟩ = some (.slice ya x.ims.length yc) := st.y.1.c1; have y2 : wn.cell? ⟨D12, 2, none⟩ = some (.slice yf x.fs.length yg) := st.y.1.c2) | (go_at_call 14; refine (implPackageOk p.nm p.ia p.ims.length p.ic p.fa p.fs.length p.fc p.ims p.fs _ st.p.2).mono ?_; rintro e wn ⟨rfl, hbn⟩; rw [HPB.out]; replace st := st.below hbn; replace hB := hB.trans (hbn.mono hB.size); clear hbn p0 p1 p2 x0 x1 x2 y0 y1 y2; have p0 : wn.cell? ⟨D3, 0, none⟩ = some (.string ⟨p.nm.toArray⟩) := st.p.1.c0; have p1 : wn.cell? ⟨D3, 1, none⟩ = some (.slice p.ia p.ims.length p.ic) := st.p.1.c1; have p2 : wn.cell? ⟨D3, 2, none⟩ = some (.slice p.fa p.fs.length p.fc) := st.p.1.c2; have x0 : wn.cell? ⟨D6, 0, none⟩ = some (.string ⟨x.nm.toArray⟩) := st.x.1.c0; have x1 : wn.cell? ⟨D6, 1, none⟩ = some (.slice x.ia x.ims.length x.ic) := st.x.1.c1; have x2 : wn.cell? ⟨D6, 2, none⟩ = some (.slice x.fa x.fs.length x.fc) := st.x.1.c2; have y0 : wn.cell? ⟨D12, 0, none⟩ = some (.string ⟨x.nm.toArray⟩) := st.y.1.c0; have y1 : wn.cell? ⟨D12, 1, none⟩ = some (.slice ya x.ims.length yc) := st.y.1.c1; have y2 : wn.cell? ⟨D12, 2, none⟩ = some (.slice yf x.fs.length yg) := st.y.1.c2) | (go_at_call 15; refine (specPackageOk p.nm p.ia p.ims.length p.ic p.fa p.fs.length p.fc p.ims p.fs _ st.p.2.i st.p.2.f st.p.2.il st.p.2.fl st.p.2.nm st.p.2.is st.p.2.fs).mono ?_; rintro e wn ⟨rfl, hbn⟩; rw [HPB.out]; replace st := st.below hbn; replace hB := hB.trans (hbn.mono hB.size); clear hbn p0 p1 p2 x0 x1 x2 y0 y1 y2; have p0 : wn.cell? ⟨D3, 0, none⟩ = some (.string ⟨p.nm.toArray⟩) := st.p.1.c0; have p1 : wn.cell? ⟨D3, 1, none⟩ = some (.slice p.ia p.ims.length p.ic) := st.p.1.c1; have p2 : wn.cell? ⟨D3, 2, none⟩ = some (.slice p.fa p.fs.length p.fc) := st.p.1.c2; have x0 : wn.cell? ⟨D6, 0, none⟩ = some (.string ⟨x.nm.toArray⟩) := st.x.1.c0; have x1 : wn.cell? ⟨D6, 1, none⟩ = some (.slice x.ia x.ims.length x.ic) := st.x.1.c1; have x2 : wn.cell? ⟨D6, 2, none⟩ = some (.slice x.fa x.fs.length x.fc) := st.x.1.c2; have y0 : wn.cell? ⟨D12, 0, none⟩ = some (.string ⟨x.nm.toArray⟩) := st.y.1.c0; have y1 : wn.cell? ⟨D12, 1, none⟩ = some (.slice ya x.ims.length yc) := st.y.1.c1; have y2 : wn.cell? ⟨D12, 2, none⟩ = some (.slice yf x.fs.length yg) := st.y.1.c2))
      all_goals go_wp2_with fail
      all_goals go_meet
      all_goals exact ⟨rfl, st, hB⟩
    case rest =>
      obtain ⟨rfl, st, hB⟩ := hcut
      replace st := st.out
      replace hB := hB.out
      have q0 := st.q.1.c0
      have q1 := st.q.1.c1
      have q2 := st.q.1.c2
      clear hw13 hD12
      go_wp2_with fail
      refine (specFuncOf q.nm q.ia q.ims.length q.ic q.fa q.fs.length q.fc q.ims q.fs nq _ st.q.2.i st.q.2.f st.q.2.il st.q.2.fl st.q.2.nm st.q.2.is st.q.2.fs).mono ?_
      rintro e w14 ⟨v14, rfl, ho14, hb14⟩
      obtain ⟨za, zc, hz, hz14⟩ := fn_rec2 HF.out ho14
      rw [hz, HFB.out]
      replace st := st.below hb14
      replace hB := hB.trans (hb14.mono hB.size)
      obtain ⟨hz15, hb15⟩ := FnAt.new (r := ⟨f.nm, f.args, za, zc, f.t⟩) hz14
      obtain ⟨w15, hw15⟩ : ∃ W, w14.alloc (.cells #[.string ⟨f.nm.toArray⟩, .int .i64 f.args, .slice za f.t.length zc] 37) = W := ⟨_, rfl⟩
      obtain ⟨D14, hD14⟩ : ∃ D, w14.heap.size = D := ⟨_, rfl⟩
      simp only at hz15 hb15
      rw [hw15] at hz15 hb15
      rw [hD14] at hz15
      replace st := st.below hb15
      replace hB := hB.trans (hb15.mono hB.size)
      have f0 : w15.cell? ⟨D10, 0, none⟩ = some (.string ⟨f.nm.toArray⟩) := st.f.1.c0
      have f1 : w15.cell? ⟨D10, 1, none⟩ = some (.int .i64 f.args) := st.f.1.c1
      have f2 : w15.cell? ⟨D10, 2, none⟩ = some (.slice f.ta f.t.length f.tc) := st.f.1.c2
      have z0 : w15.cell? ⟨D14, 0, none⟩ = some (.string ⟨f.nm.toArray⟩) := hz15.1.c0
      have z1 : w15.cell? ⟨D14, 1, none⟩ = some (.int .i64 f.args) := hz15.1.c1
      have z2 : w15.cell? ⟨D14, 2, none⟩ = some (.slice za f.t.length zc) := hz15.1.c2
      have hft : f.t.length ≤ 4194304 := by
        have h := found_short (nm := q.nm) (ims := q.ims) (q := nq) st.q.2.fs
        rw [← HF.out] at h
        exact Nat.le_trans h (by omega)
      have HL : Hid (_) := likeFuncC f.nm f.args f.t f.ta za f.t.length f.tc zc w15 st.f.2 hz15.2 hft
      clear hz hz14 ho14 hb14 hb15 hz15 q0 q1 q2
      go_upto_region 13 with fail
      go_cut [95] from 72 (fun v wx => v = .bool false ∧ Hid (Hold7 wx D3 p D6 x D8 q D10 f D12 ⟨x.nm, ya, yc, yf, yg, x.ims, x.fs⟩) ∧ Hid (Below w1.heap.size w1 wx))
      case first =>
        rcases fb with _ | _
        · go_wp2_with (go_at_call 17; refine Calls.mono HL.out ?_; rintro e wn ⟨rfl, hbn⟩)
          go_meet
          exact ⟨rfl, st.below hbn, hB.trans (hbn.mono hB.size)⟩
        · have hfn : f.nm = nq := by
            have h := found_name HFB.out
            rw [← HF.out] at h
            exact h
          subst hfn
          go_wp2_with (go_at_call 17; refine Calls.mono HL.out ?_; rintro e wn ⟨rfl, hbn⟩; replace f0 := (st.below hbn).f.1.c0)
          go_meet
          exact ⟨rfl, st.below hbn, hB.trans (hbn.mono hB.size)⟩
      case rest =>
        obtain ⟨rfl, st, hB⟩ := hcut
        replace st := st.out
        replace hB := hB.out
        have x0 := st.x.1.c0
        have x1 := st.x.1.c1
        have x2 := st.x.1.c2
        clear f0 f1 f2 z0 z1 z2 HL hft hw15 hD14 HF HFB
        go_upto_region 15 with fail
        go_cut [112] from 72 (fun v wx => v = .bool false ∧ Hid (PkAt wx D3 p) ∧ Hid (Below w1.heap.size w1 wx))
        case first =>
          rcases is with _ | _
          · have hpv : readPV r = pk0 := by
              rcases read_pv r with ⟨h, _⟩ | ⟨_, h⟩
              · rw [HIS.out] at h; cases h
              · exact h
            have hx := HX.out
            rw [hpv] at hx
            obtain ⟨xnm, xia, xic, xfa, xfc, xims, xfs⟩ := x
            simp only [pk0, Prod.mk.injEq] at hx
            obtain ⟨rfl, rfl, rfl⟩ := hx
            have HLz : Hid (_) := likePackageC [] xia none xfa none 0 xic 0 0 xfc 0 [] [] wc st.x.2.i ⟨rfl, fun j hj => by omega⟩ st.x.2.f ⟨rfl, fun j hj => by omega⟩ (by omega) (by omega) (fun j => by simp [fn0])
            clear hpv HX
            go_wp2_with (go_at_call 12; refine Calls.mono HLz.out ?_; rintro e wn ⟨rfl, hbn⟩)
            go_meet
            exact ⟨rfl, st.p.below hbn, hB.trans (hbn.mono hB.size)⟩
          · have hsx : showPk (x.nm, x.ims, x.fs) = r := by
              rcases read_pv r with ⟨_, _, h⟩ | ⟨h, _⟩
              · rw [HX.out]; exact h
              · rw [HIS.out] at h; cases h
            have HSX : Hid (_) := implShowPackage x.nm x.ia x.ims.length x.ic x.fa x.fs.length x.fc x.ims x.fs wc st.x.2 (HPW.out.below hB)
            rw [hsx] at HSX
            clear hsx HX
            go_wp2_with (go_at_call 6; refine Calls.mono HSX.out ?_; rintro e wn ⟨rfl, hbn⟩)
            go_meet
            exact ⟨rfl, st.p.below hbn, hB.trans (hbn.mono hB.size)⟩
        case rest =>
          obtain ⟨rfl, st, hB⟩ := hcut
          replace st := st.out
          replace hB := hB.out
          clear x0 x1 x2 HX HIS
          have k0 := st.1.c0
          have k1 := st.1.c1
          have k2 := st.1.c2
          rcases pb with _ | _
          · have hs0 : s = [] := HS.out.symm.trans (pack_not HPB.out)
            subst hs0
            have HC : Hid (_) := implPackageOk p.nm p.ia p.ims.length p.ic p.fa p.fs.length p.fc p.ims p.fs wc st.2
            rw [HPB.out] at HC
            have he : (([] : List UInt8) == []) = true := by decide
            clear st HS HPB
            go_wp2_with (go_at_call 14; refine Calls.mono HC.out ?_; rintro e wn ⟨rfl, hbn⟩)
            go_ret
            exact ⟨rfl, hB.trans (hbn.mono hB.size)⟩
          · obtain ⟨hsn, hrb, hrv⟩ := pack_back HPB.out
            rw [HS.out] at hsn hrb hrv
            have he : (s == []) = false := beq_eq_false_iff_ne.2 hsn
            have he2 : s.isEmpty = false := by rw [List.isEmpty_eq_false_iff]; exact hsn
            have HC : Hid (_) := implReadPackage s wc (by omega) (HPW.out.below hB)
            have HRV : Hid (readPV s = (p.nm, p.ims, p.fs)) := hrv
            have HRB : Hid (readPB s = true) := hrb
            have HP : Hid (PkAt wc D3 p) := st
            clear st hsn hrb hrv k0 k1 k2
            go_wp2_with fail
            refine Calls.mono HC.out ?_
            rintro e w16 ⟨vi, vf, xs, rfl, hxs, hoi, hof, _, hb16⟩
            obtain ⟨ya, yc, yf, yg, hy, hy16⟩ := read_rec2 (x := p) HRV.out.symm hxs hoi hof
            rw [hy, HRB.out]
            have hB16 := hB.trans (hb16.mono hB.size)
            obtain ⟨hy17, hb17⟩ := PkAt.new hy16
            obtain ⟨w17, hw17⟩ : ∃ W, w16.alloc (.cells #[.string ⟨p.nm.toArray⟩, .slice ya p.ims.length yc, .slice yf p.fs.length yg] 27) = W := ⟨_, rfl⟩
            obtain ⟨Dy, hDy⟩ : ∃ D, w16.heap.size = D := ⟨_, rfl⟩
            simp only at hy17 hb17
            rw [hw17] at hy17 hb17
            rw [hDy] at hy17
            have HP17 : Hid (PkAt w17 D3 p) := (HP.out.below hb16).below hb17
            have HY17 : Hid (PkAt w17 Dy ⟨p.nm, ya, yc, yf, yg, p.ims, p.fs⟩) := hy17
            have HB17 : Hid (Below w1.heap.size w1 w17) := hB16.trans (hb17.mono hB16.size)
            clear hxs hoi hof hb16 hy hy16 hB16 hy17 hb17 HC HP hB
            go_wp2_with fail
            go_loopw [18] (fun iv wr => ∃ k : Nat, iv = .int .i64 k ∧ k ≤ p.fs.length ∧ Hid (PkAt wr D3 p) ∧ Hid (PkAt wr Dy ⟨p.nm, ya, yc, yf, yg, p.ims, p.fs⟩) ∧ Hid (Below w1.heap.size w1 wr)) (fun iv _ => p.fs.length - (intOf iv).toNat)
            case atStart => exact ⟨0, rfl, by omega, HP17, HY17, HB17⟩
            case round =>
              obtain ⟨k, rfl, hk, HP, HY, HB⟩ := hrel
              clear HP17 HY17 HB17 hw17 hDy
              have hfl8 : p.fs.length ≤ 1048576 := HP.out.2.fl
              by_cases hkl : (k : Int) < (p.fs.length : Int)
              · have hk2 : k < p.fs.length := by omega
                obtain ⟨b, off, hfa, hbl, c0, c1, ta, tl, tc, c2, _, hin⟩ := HP.out.2.f.2 k hk2
                have hfe := found_each (p := (p.nm, p.ims, p.fs)) HPB.out (i := k) hk2
                have hsf := HP.out.2.fs k
                have HCF : Hid (∀ V : World, PkAt V D3 p → _) := fun V (h : PkAt V D3 p) => implFuncOf p.nm p.ia p.ims.length p.ic p.fa p.fs.length p.fc p.ims p.fs (p.fs.getD k fn0).1 V h.2 hsf.1
                rw [hfe.1, hfe.2, hfa] at HCF
                have HFA : Hid (p.fa = some ⟨b, off, none⟩) := hfa
                clear hfe
                obtain ⟨f, hf⟩ : ∃ f, p.fs.getD k fn0 = f := ⟨_, rfl⟩
                rw [hf] at c0 c1 hin hsf HCF
                obtain ⟨x, n, t⟩ := f
                simp only at c0 c1 hin hsf HCF
                obtain rfl : t.length = tl := hin.1
                have k0 := HP.out.1.c0
                have k1 := HP.out.1.c1
                have k2 := HP.out.1.c2
                rw [hfa] at k2
                have st : Hold7L w1 wr D3 p Dy ⟨p.nm, ya, yc, yf, yg, p.ims, p.fs⟩ b (off + k * 3) x n ta t.length tc t := ⟨HP.out, HY.out, c0, c1, c2, hbl, hin, HB.out⟩
                have HST : Hid (_) := st
                have ht4 : t.length ≤ 4194304 := Nat.le_trans hsf.2.1 (by omega)
                clear hf hin hsf HP HY HB hbl hfa
                go_upto_region 23 with fail
                have a0 := fun o => (st.alloc o).p.1.c0
                have a1 := fun o => (st.alloc o).p.1.c1
                have a2 : ∀ o, (wr.alloc o).cell? ⟨D3, 2, none⟩ = some (.slice (some ⟨b, off, none⟩) p.fs.length p.fc) := fun o => by rw [← HFA.out]; exact (st.alloc o).p.1.c2
                have a3 := fun o => (st.alloc o).c0
                have hk0 : ¬ (k : Int) < 0 := by omega
                have hbw := st.bl
                have hdw : D3 < wr.heap.size := st.p.1.lt
                have n1 : ¬ D3 = wr.heap.size := by omega
                have n2 : ¬ wr.heap.size = D3 := by omega
                have n3 : ¬ b = wr.heap.size := by omega
                have n4 : ¬ wr.heap.size = b := by omega
                go_cut [19, 20] from 123 to 152 (fun zv fv wx => fv = .bool true ∧ ∃ E : Nat, zv = .pointer (some ⟨E, 0, none⟩) ∧ ∃ (za : Option Addr) (zc : Nat), Hid (FnAt wx E ⟨x, n, za, zc, t⟩) ∧ Hid (Hold7L w1 wx D3 p Dy ⟨p.nm, ya, yc, yf, yg, p.ims, p.fs⟩ b (off + k * 3) x n ta t.length tc t))
                case first =>
                  go_region_held3 (fun w' => w'.cell? ⟨D3, 0, none⟩ = some (.string ⟨p.nm.toArray⟩) ∧ w'.cell? ⟨D3, 1, none⟩ = some (.slice p.ia p.ims.length p.ic) ∧ w'.cell? ⟨D3, 2, none⟩ = some (.slice (some ⟨b, off, none⟩) p.fs.length p.fc) ∧ w'.cell? ⟨b, off + k * 3, none⟩ = some (.string ⟨x.toArray⟩)) (go_keep) (first | (go_at_call 10; refine Calls.mono (HCF.out _ (by first | exact st.drew.p | exact (st.alloc _).drew.p)) ?_; rintro e w2 ⟨v, rfl, ho, hb⟩; obtain ⟨_, za, zc, rfl, hzin⟩ := own_nodes ho; (first | (have h2 := (st.alloc (.cells #[.string ⟨#[]⟩, .int .i64 0, .slice none 0 0] 37)).drew.below hb; obtain ⟨bz, fz, hbz⟩ := zero_at hb; have z0 := bz.c0; have z1 := bz.c1; have z2 := bz.c2; have f0 := fz 0; have f1 := fz 1; have f2 := fz 2) | (have h2 := st.drew.below hb)); have q0 := h2.p.1.c0; have q1 := h2.p.1.c1; have q2 : w2.cell? ⟨D3, 2, none⟩ = some (.slice (some ⟨b, off, none⟩) p.fs.length p.fc) := (by rw [← HFA.out]; exact h2.p.1.c2); have q3 := h2.c0; have m1 : ¬ D3 = w2.heap.size := (by have := h2.p.1.lt; omega); have m2 : ¬ b = w2.heap.size := (by have := h2.bl; omega)))
                  all_goals (first
                    | (go_wp2_with fail; go_meet; case rel => exact ⟨rfl, _, rfl, za, zc, (FnAt.new (r := ⟨x, n, za, zc, t⟩) hzin).1, h2.alloc _⟩)
                    | (obtain ⟨Y, hY, y0, y1, y2, hg⟩ := set3 (.string ⟨x.toArray⟩) (.int .i64 n) (.slice za t.length zc) z0 z1 z2; rw [hY]; go_wp2_with fail; go_meet; case rel => exact ⟨rfl, _, rfl, za, zc, zero_fn hbz ho (by simp) hg y0 y1 y2, st.wrote (hbz.grown hg hbz.size (fun q e => by injection e with e; omega)) (Nat.le_refl _)⟩))
                case rest =>
                  obtain ⟨rfl, E, rfl, za, zc, HF, HL⟩ := hcut
                  clear HST HCF a0 a1 a2 a3 k0 k1 k2 c0 c1 c2 st n1 n2 n3 n4 hbw hdw
                  have hf := HF.out
                  have st := HL.out
                  clear HF HL
                  have z0 : wc.cell? ⟨E, 0, none⟩ = some (.string ⟨x.toArray⟩) := hf.1.c0
                  have z1 : wc.cell? ⟨E, 1, none⟩ = some (.int .i64 n) := hf.1.c1
                  have z2 : wc.cell? ⟨E, 2, none⟩ = some (.slice za t.length zc) := hf.1.c2
                  have k2 : wc.cell? ⟨D3, 2, none⟩ = some (.slice (some ⟨b, off, none⟩) p.fs.length p.fc) := by rw [← HFA.out]; exact st.p.1.c2
                  have c0 := st.c0
                  have c1 := st.c1
                  have c2 := st.c2
                  have HLF : Hid (_) := likeFuncC x n t za ta t.length zc tc wc.drew (hf.2.below ((Below.refl _ _).grown (grown_drew wc none) (Nat.le_refl _) (fun k e => by cases e))) st.drew.t ht4
                  have hstd := st.drew
                  go_upto_region 24 with fail
                  go_region_held3 (fun w' => w'.cell? ⟨E, 0, none⟩ = some (.string ⟨x.toArray⟩) ∧ w'.cell? ⟨E, 1, none⟩ = some (.int .i64 n) ∧ w'.cell? ⟨E, 2, none⟩ = some (.slice za t.length zc) ∧ w'.cell? ⟨D3, 2, none⟩ = some (.slice (some ⟨b, off, none⟩) p.fs.length p.fc) ∧ w'.cell? ⟨b, off + k * 3, none⟩ = some (.string ⟨x.toArray⟩) ∧ w'.cell? ⟨b, off + k * 3 + 1, none⟩ = some (.int .i64 n) ∧ w'.cell? ⟨b, off + k * 3 + 2, none⟩ = some (.slice ta t.length tc)) (go_keep) (first | (go_at_call 17; refine Calls.mono HLF.out ?_; rintro e wn ⟨rfl, hbn⟩; have stn := hstd.below hbn; replace z0 := (hf.1.drew.below hbn).c0; replace z1 := (hf.1.drew.below hbn).c1; replace z2 := (hf.1.drew.below hbn).c2; replace k2 : wn.cell? ⟨D3, 2, none⟩ = some (.slice (some ⟨b, off, none⟩) p.fs.length p.fc) := (by rw [← HFA.out]; exact stn.p.1.c2); replace c0 := stn.c0; replace c1 := stn.c1; replace c2 := stn.c2))
                  all_goals
                    have HPn : Hid (PkAt wn D3 p) := stn.p
                    have HYn : Hid (PkAt wn Dy ⟨p.nm, ya, yc, yf, yg, p.ims, p.fs⟩) := stn.y
                    have HBn : Hid (Below w1.heap.size w1 wn) := stn.h
                    clear stn hstd st hf z0 z1 z2 k2 c0 c1 c2 HLF
                    go_wp2
                    go_roundw
                    case rel => exact ⟨k + 1, by go_num, by omega, HPn, HYn, HBn⟩
                    case measure => simp [intOf]; omega
              · have k2 := HP.out.1.c2
                have k0 := HP.out.1.c0
                have k1 := HP.out.1.c1
                have y0 : wr.cell? ⟨Dy, 0, none⟩ = some (.string ⟨p.nm.toArray⟩) := HY.out.1.c0
                have y1 : wr.cell? ⟨Dy, 1, none⟩ = some (.slice ya p.ims.length yc) := HY.out.1.c1
                have y2 : wr.cell? ⟨Dy, 2, none⟩ = some (.slice yf p.fs.length yg) := HY.out.1.c2
                have HLP : Hid (_) := likePackageC p.nm ya p.ia yf p.fa p.ims.length yc p.ic p.fs.length yg p.fc p.ims p.fs wr HY.out.2.i HP.out.2.i HY.out.2.f HP.out.2.f (Nat.le_trans HP.out.2.il (by omega)) (Nat.le_trans HP.out.2.fl (by omega)) (fun j => Nat.le_trans (HP.out.2.fs j).2.1 (by omega))
                have hBr := HB.out
                clear HP HY HB
                go_wp2_with (go_at_call 12; refine Calls.mono HLP.out ?_; rintro e wn ⟨rfl, hbn⟩)
                go_ret
                exact ⟨rfl, hBr.trans (hbn.mono hBr.size)⟩

/-- What the listed variables give the walk: the table of powers of ten. -/
theorem pow_of_laid {W : World} (h : laidMetH Tryz.prog Rows.fnPackagesRow.laid W) : PowIs W := by
  rw [MakeChecks.laidMetH_plain _ _ _ (by kernel_rfl)] at h
  obtain ⟨ps, ⟨g0, t0, cs0, f0, p0, q0, hg0, ht0, hv0, hd0, ⟨g1, t1, cs1, f1, p1, q1, hg1, ht1, hv1, hd1, ⟨g2, t2, cs2, f2, p2, q2, hg2, ht2, hv2, hd2, _, _⟩, _⟩, _⟩, _, _⟩ := h
  obtain ⟨g, hg⟩ := Option.isSome_iff_exists.1 powAt
  obtain rfl := Option.some.inj (hg.symm.trans hg2)
  exact pow_of_cells hg ht2 hv2 hd2

set_option maxRecDepth 100000 in
theorem lifted (os : Os) (started : os.Started) (H : Type) (enc : TypeId × Value → H) :
    ReturnsInHanded {} Tryz.checked os 3 .any (fun w args => (Rows.fnPackagesSpec.pre enc Tryz.prog Tryz.f3 [] false w args ∧ laidMetH Tryz.prog Rows.fnPackagesRow.laid w) ∧ sizedMet enc Tryz.prog Tryz.f3 (OpenSpec.ofChange Rows.fnPackagesSpec) false w args)
      (Rows.fnPackagesSpec.post enc Tryz.prog Tryz.f3 false true false false) := by
  refine returnsInHanded_of_change_and (C := Tryz.checked) (X := fun w _ => laidMetH Tryz.prog Rows.fnPackagesRow.laid w) (fun _ _ _ hh h => h.of_heap hh) own started (by kernel_rfl) Tryz.func3
    (ChangeSpec.witness_shaped (enc := enc) (C := Tryz.checked) (os := os) (X := fun w _ => laidMetH Tryz.prog Rows.fnPackagesRow.laid w) false (World.laidAll Tryz.prog os Rows.fnPackagesRow.laid) #[.slice none 0 0] 8 (World.laidAll_os _ _ _)
      (World.shaped_of_ZipB (by kernel_rfl) (by kernel_rfl)) (by kernel_rfl) (by kernel_rfl) (by kernel_rfl)
      (by rw [MakeChecks.laidMetH_plain _ _ _ (by kernel_rfl)]; exact laidMet_laidAll _ (by kernel_rfl) (by kernel_rfl))) ?_
  intro W base args ds gs before hval0 hW _ _ hL _
  have hval : ∀ (j : Nat) t v, Tryz.f3.params[j]? = some t → args[j]? = some v → Value.okWide Tryz.prog W .any base t v := hval0
  have hW' := hW
  obtain ⟨p, q, hA0, hV, rfl, hfz, hnd⟩ := hW
  have hA : DataW.TrodAll enc Tryz.prog W 0 (fun _ => true) true Tryz.f3.params.toList args.toList ds p := hA0
  rw [Tryz.params3] at hA hval
  obtain ⟨v0, vs0, d0, ds0, p0, q0, hargs, rfl, rfl, h0, r0⟩ := trodAll_cons hA
  obtain ⟨rfl, rfl, rfl⟩ := trodAll_nil r0
  obtain rfl : args = #[v0] := by cases args; simp_all
  obtain ⟨rfl, rfl⟩ := trodVars_none hV
  have k0 := h0
  have lt0 : ∀ x ∈ p0, x.block < W.heap.size := by obtain ⟨m, hm⟩ := k0; exact DataW.trod_lt m _ _ _ hm
  obtain ⟨a0, len0, cap0, rfl⟩ := okWide_slice Tryz.underlying22 (hval 0 22 v0 rfl rfl)
  obtain ⟨z0, w0⟩ : ∃ zs, Came W a0 len0 cap0 zs := by
    obtain ⟨fuel, hf⟩ := h0
    rcases open_ints Tryz.underlying22 Tryz.underlying5 (by kernel_rfl) hf with ⟨hcs, _⟩ | ⟨x, l, c, zs, hcs, _, hl, hm, hz, _, hcell, hwz⟩
    · simp [Value.cells] at hcs
      obtain ⟨rfl, rfl, rfl⟩ := hcs
      exact ⟨[], .inl ⟨rfl, rfl, rfl, rfl⟩⟩
    · simp [Value.cells] at hcs
      obtain ⟨rfl, rfl, rfl⟩ := hcs
      exact ⟨zs, .inr ⟨_, rfl, hl, hm, by simpa using hz, hcell, hwz⟩⟩
  clear hA0 hval0
  refine (walk a0 len0 cap0 z0 W w0 (pow_of_laid hL)).mono fun e W' ⟨he, bel⟩ => ?_
  subst he
  exact ⟨_, rfl, _, _, _, [], _, [], hW', trodAll_mk1 (shut_bool Tryz.underlying4 _), (trodAll_cons_mk (Below.trod laidOut (by kernel_rfl) (of_decide_eq_true (by kernel_rfl)) k0 bel lt0) trodAll_mk0), rfl, bel.frame _, fun h => by cases h⟩

theorem over : Rows.fnPackagesRow.holds Tryz.pinned (OpenSpec.ofChange Rows.fnPackagesSpec) :=
  OpenClaim.holds_of_wide 3 Tryz.f3 rfl rfl rfl rfl rfl rfl rfl ⟨rfl, rfl, rfl, rfl, rfl⟩ rfl rfl rfl rfl rfl (by kernel_rfl) Tryz.func3 (by kernel_rfl)
    (of_decide_eq_true (by kernel_rfl)) (by unfold Func.isWrapper; first | (rw [if_pos (by decide +kernel)]; kernel_rfl) | (rw [if_neg (by decide +kernel)]; exact ⟨rfl, rfl⟩))
    (fun os started H enc _ => lifted os started H enc)

/-- The tied card. -/
theorem proved : Rows.FnPackagesCardSaid :=
  Claim7.holds_tied_plain_at .later [] [.data, .data, .data] true (true, "3fc74241686d7a05b4ad6dcc357fcb1cdcc9ddbcd403d8f16ad6fe0be9eadca4") true
    over (fun _ h => by cases h) (by kernel_rfl) (fun _ h => by cases h) fnPackages_row_tie rfl ⟨rfl, rfl⟩ (by kernel_rfl) rfl
    (fun f fn hf hfn => by
      obtain rfl : f = 3 := Option.some.inj ((show Tryz.prog.funcNamed Rows.fnPackagesRow.func = some 3 by kernel_rfl).symm.trans hf) |>.symm
      obtain rfl : fn = Tryz.f3 := (Option.some.inj (Tryz.func3.symm.trans hfn)).symm
      exact ⟨by kernel_rfl, fun j t ht => by
        rw [Tryz.params3] at ht
        have hm : t ∈ [22] := by simpa using Array.mem_of_getElem? ht
        have hall : ([22].all fun u => !Tryz.prog.wantsStandIn u) = true := by kernel_rfl
        exact (show Tryz.prog.wantsStandIn t = false by simpa using List.all_eq_true.1 hall t hm)⟩)
    (by kernel_rfl)
#print axioms proved
end Go.Proofs.YtibppdepgoiojaaGreatDoor.fnPackages
