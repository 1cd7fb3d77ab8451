/-
  Parts of one proof, one behind the other: Draw8P, Draw8Q, Draw9B, ErrI, Math8H.
-/
import Derived.Test.YtdjglpcllcjcfaaGreatDoorP19
import Derived.Test.YtdjglpcllcjcfaaGreatDoorP8
import Derived.Test.YtdjglpcllcjcfaaGreatDoorP6
import Derived.Test.YtdjglpcllcjcfaaGreatDoorP12
import Derived.Test.YtdjglpcllcjcfaaGreatDoorP2
import Derived.LaidEql
import Derived.Stop.Asserts
import Derived.RowKitTokens
import Derived.Test.YtdjglpcllcjcfaaGreatDoorP13

/-! l8DrawAny. -/
namespace Go.Proofs.YtdjglpcllcjcfaaGreatDoor
open Go.RowKit

theorem Q8.cells {X w : World} {B : Nat} {a : Option Addr} {len cap g lc : Nat} {ys : List PV} (h : Q8 X w B a len cap g lc ys) {j : Nat} (hj : j < ys.length) : X.cell? ⟨g, j * 3, none⟩ = some (.string ⟨(ys.getD j pv0).nm.toArray⟩) ∧ X.cell? ⟨g, j * 3 + 1, none⟩ = some (pvI (ys.getD j pv0)) ∧ X.cell? ⟨g, j * 3 + 2, none⟩ = some (pvF (ys.getD j pv0)) := by
  obtain ⟨v0, v1, v2⟩ := pvsV_at ys j hj
  have hc := fun k (hk : k < ys.length * 3) => World.ownsRow.cellAt h.row k hk
  exact ⟨(hc _ (by omega)).trans v0, (hc _ (by omega)).trans v1, (hc _ (by omega)).trans v2⟩
theorem Q8.frozen {X w : World} {B : Nat} {a : Option Addr} {len cap g lc : Nat} {ys : List PV} (h : Q8 X w B a len cap g lc ys) (k : Nat) : X.frozen? ⟨g, k, none⟩ = false := World.ownsRow.frozenAt h.row k
theorem Q8.fcell {X w : World} {B : Nat} {a : Option Addr} {len cap g lc : Nat} {ys : List PV} (h : Q8 X w B a len cap g lc ys) {j : Nat} (hj : j < ys.length) {gF : Nat} (hF : (ys.getD j pv0).fa = some ⟨gF, 0, none⟩) : (∃ v, X.cell? ⟨gF, 1, none⟩ = some v) ∧ (∃ v, X.cell? ⟨gF, 2, none⟩ = some v) ∧ ∀ k, X.frozen? ⟨gF, k, none⟩ = false := by
  have hy := h.at hj
  have hr := hy.fo.row
  have hF2 : pvF (ys.getD j pv0) = .slice (some ⟨gF, 0, none⟩) (ys.getD j pv0).xs.length (ys.getD j pv0).fc := by unfold pvF; rw [hF]
  rw [hF2] at hr
  have hn := hy.n
  obtain ⟨_, f1, f2⟩ := fnsV_at (ys.getD j pv0).xs 0 (by omega)
  exact ⟨⟨_, (World.ownsRow.cellAt hr 1 (by omega)).trans f1⟩, ⟨_, (World.ownsRow.cellAt hr 2 (by omega)).trans f2⟩, fun k => World.ownsRow.frozenAt hr k⟩

/-- One package of it, opened. -/
theorem Q8.open {X w : World} {B : Nat} {a : Option Addr} {len cap g lc : Nat} {ys : List PV} (h : Q8 X w B a len cap g lc ys) (hA : A8 ys) {j : Nat} (hj : j < ys.length) : ∃ (gI gF ic fc nF : Nat) (ims : List (List UInt8)), (ys.getD j pv0).fa = some ⟨gF, 0, none⟩ ∧ (1 ≤ nF ∧ nF ≤ 3) ∧ (ims.length ≤ 8 ∧ ∀ t ∈ ims, t.length ≤ 9) ∧
    ∀ Z, Q8 Z w B a len cap g lc ys → Z.cell? ⟨g, j * 3 + 1, none⟩ = some (.slice (some ⟨gI, 0, none⟩) ims.length ic) ∧ Z.cell? ⟨g, j * 3 + 2, none⟩ = some (.slice (some ⟨gF, 0, none⟩) nF fc) ∧ Z.ownsRow w.heap.size 9 1 (.slice (some ⟨gI, 0, none⟩) ims.length ic) ims.length (strV ims) := by
  have hm : ys.getD j pv0 ∈ ys := by simp [List.getD, hj]
  obtain ⟨gF, hF⟩ := h.fn0 hj
  obtain ⟨gI, hI⟩ := hA.sa _ hm
  have hy := h.at hj
  refine ⟨gI, gF, (ys.getD j pv0).ic, (ys.getD j pv0).fc, (ys.getD j pv0).xs.length, (ys.getD j pv0).ims, hF, hy.n, ⟨hA.il _ hm, hy.is.2⟩, fun Z hZ => ?_⟩
  obtain ⟨_, q1, q2⟩ := hZ.cells hj
  have hi := (hZ.at hj).im
  unfold pvI at q1 hi
  unfold pvF at q2
  rw [hI] at q1 hi
  rw [hF] at q2
  exact ⟨q1, q2, hi⟩

theorem put8_small {ims : List (List UInt8)} {fn : List UInt8} (h : ims.length ≤ 8 ∧ ∀ t ∈ ims, t.length ≤ 9) (hf : fn.length ≤ 9) : (put8 ims fn).length ≤ 9 ∧ ∀ t ∈ put8 ims fn, t.length ≤ 9 := by
  refine ⟨by have := (put8_len ims fn).2; omega, fun t ht => ?_⟩
  rcases put8_mem.1 ht with rfl | h1
  · exact hf
  · exact h.2 t h1

set_option maxHeartbeats 8000000 in
set_option maxRecDepth 100000 in
theorem drawAny8 (w : World) (B : Nat) (a : Option Addr) (len cap : Nat) (hc : Cur w B a len cap) :
    Calls Tryz.prog 46 #[.pointer (some ⟨B, 0, none⟩)] w fun e w' => ∃ v, e = .returned v ∧ L8 w w' B a len cap v := by
  go_enter Tryz.func46, Tryz.ntmps46
  go_wp2_with fail
  refine (drawPs w B a len cap hc).mono ?_
  rintro e w1 ⟨L, la, lc, ys, vc, cs, rfl, hd, hn1, hn4⟩
  obtain ⟨g, c, e0⟩ := own_some hd.row (by omega)
  injection e0 with e0 _ e2
  subst e0
  clear e2
  obtain ⟨hq, hA⟩ := hd.q8 ⟨hn1, hn4⟩
  have HA : Hid (A8 ys) := hA
  clear hd hA
  go_wp2_with fail
  refine (drawOnce w1 B a len cap 6 (by omega) (by omega) hq.cur).mono ?_
  rintro e w2 ⟨b2, rfl, hc2, hg2⟩
  have HQ2 : Hid (Q8 w2 w B a len cap g lc ys) := hq.next hg2 hc2
  clear hq hc2 hg2
  rcases b2 with _ | _
  · go_wp2
    go_ret
    exact ⟨_, rfl, HQ2.out.l8⟩
  · go_wp2_with fail
    refine (drawBelow w2 B a len cap (ys.length : Int) (by omega) (by omega) HQ2.out.cur).mono ?_
    rintro e w3 ⟨x3, rfl, h30, h31, hc3, hg3⟩
    obtain ⟨j, rfl⟩ : ∃ j : Nat, x3 = (j : Int) := Int.eq_ofNat_of_zero_le h30
    have HQ3 : Hid (Q8 w3 w B a len cap g lc ys) := HQ2.out.next hg3 hc3
    have hj : j < ys.length := by omega
    clear HQ2 hc3 hg3
    go_wp2_with fail
    refine (drawBelow w3 B a len cap 6 (by omega) (by omega) HQ3.out.cur).mono ?_
    rintro e w4 ⟨x4, rfl, h40, h41, hc4, hg4⟩
    have HQ4 : Hid (Q8 w4 w B a len cap g lc ys) := HQ3.out.next hg4 hc4
    clear HQ3 hc4 hg4
    obtain ⟨gI, gF, ic, fc, nF, ims, hF, hnF, his, hZ⟩ := HQ4.out.open HA.out hj
    have HF : Hid ((ys.getD j pv0).fa = some ⟨gF, 0, none⟩) := hF
    have HIs : Hid (ims.length ≤ 8 ∧ ∀ t ∈ ims, t.length ≤ 9) := his
    have HZ : Hid (∀ Z, Q8 Z w B a len cap g lc ys → Z.cell? ⟨g, j * 3 + 1, none⟩ = some (.slice (some ⟨gI, 0, none⟩) ims.length ic) ∧ Z.cell? ⟨g, j * 3 + 2, none⟩ = some (.slice (some ⟨gF, 0, none⟩) nF fc) ∧ Z.ownsRow w.heap.size 9 1 (.slice (some ⟨gI, 0, none⟩) ims.length ic) ims.length (strV ims)) := hZ
    obtain ⟨q1, q2, _⟩ := HZ.out w4 HQ4.out
    have hnF0 : (0 : Int) < (nF : Int) := by omega
    have hcap : (ys.length : Int) ≤ (lc : Int) := by have := HQ4.out.ok.hcap; omega
    have hB4 : B < w4.heap.size := HQ4.out.cur.lt
    have hs4 : w.heap.size ≤ w4.heap.size := HQ4.out.g.size
    clear hF his hZ
    obtain ⟨m, rfl⟩ : ∃ m : Nat, x4 = (m : Int) := Int.eq_ofNat_of_zero_le h40
    have hm : m = 0 ∨ m = 1 ∨ m = 2 ∨ m = 3 ∨ m = 4 ∨ m = 5 := by omega
    rcases hm with rfl | rfl | rfl | rfl | rfl | rfl
    · have q1a : ∀ o, (w4.alloc o).cell? ⟨g, j * 3 + 1, none⟩ = some (.slice (some ⟨gI, 0, none⟩) ims.length ic) := fun o => (HZ.out (w4.alloc o) (HQ4.out.alloc o)).1
      have hil : ims.length ≤ 1048576 := by have := HIs.out.1; omega
      go_wp2_with fail
      go_region_with (first | (go_at_call 79; refine (drawBelow _ B a len cap 3 (by omega) (by omega) (by first | exact (HQ4.out.alloc _).drew.cur | exact HQ4.out.drew.cur)).mono ?_; rintro e w5 ⟨x, rfl, hx0, hx1, hc5, hg5⟩; obtain ⟨T, rfl⟩ : ∃ T : Nat, x = (T : Int) := Int.eq_ofNat_of_zero_le hx0; have hT3 : T < 3 := (by omega); obtain ⟨fn, hfn, hget⟩ := str3_at [109, 97, 105, 110] [122, 122] [99] T hT3 (by decide) (by decide) (by decide); have HPs : Hid ((put8 ims fn).length ≤ 9 ∧ ∀ t ∈ put8 ims fn, t.length ≤ 9) := put8_small HIs.out hfn; (first | (have nL := box3_at (box_up1 (V := w4) hg5 hB4).1 hT3 hget; have HQ5 : Hid (Q8 w5 w B a len cap g lc ys) := (HQ4.out.alloc _).drew.next hg5 hc5) | (have HQ5 : Hid (Q8 w5 w B a len cap g lc ys) := HQ4.out.drew.next hg5 hc5)); have p1 := (HZ.out w5 HQ5.out).1; have p1a : ∀ o, (w5.alloc o).cell? ⟨g, j * 3 + 1, none⟩ = some (.slice (some ⟨gI, 0, none⟩) ims.length ic) := (fun o => (HZ.out (w5.alloc o) (HQ5.out.alloc o)).1); clear hg5 hc5) | (go_at_call 67; refine (specPut w.heap.size gI ic ims fn _ (by first | exact (HZ.out _ HQ5.out).2.2 | exact (HZ.out _ (HQ5.out.alloc _)).2.2) (by first | exact HQ5.out.g.size | exact (HQ5.out.alloc _).g.size) hil).mono ?_; rintro e w6 ⟨g6, c6, rfl, ho6, hb6⟩; have HQ6 : Hid (Q8 w6 w B a len cap g lc ys) := (by first | exact HQ5.out.below hb6 | exact (HQ5.out.alloc _).below hb6); have p6 := (HZ.out w6 HQ6.out).1; have z6 := HQ6.out.frozen (j * 3 + 1); clear hb6))
      all_goals
        go_wp2
        go_ret
        exact ⟨_, rfl, by have h := (HQ6.out.imps hj ho6 HPs.out).l8; rw [List.length_set] at h; exact h⟩
    · go_wp2_with fail
      go_region_with (go_at_call 79; refine (drawBelow _ B a len cap 4 (by omega) (by omega) HQ4.out.drew.cur).mono ?_; rintro e w5 ⟨x, rfl, hx0, hx1, hc5, hg5⟩; have hq5 := HQ4.out.drew.next hg5 hc5; have p2 := (HZ.out w5 hq5).2.1; obtain ⟨⟨v1, s1⟩, _, z⟩ := hq5.fcell hj HF.out; have z1 := z 1; clear z)
      all_goals
        go_wp2
        go_ret
        obtain ⟨ys', hl, hq'⟩ := hq5.args HA.out hj HF.out x (by omega)
        exact ⟨_, rfl, by have h := hq'.l8; rw [hl] at h; exact h⟩
    · go_wp2_with fail
      go_region_with (go_at_call 80; refine (drawAny6 _ B a len cap HQ4.out.drew.cur).mono ?_; rintro e w5 ⟨v, rfl, t, ho, htl, hts, _, hc5, hg5⟩; have hq5 := HQ4.out.drew.next hg5 hc5; have p2 := (HZ.out w5 hq5).2.1; obtain ⟨ta, tc, rfl, _, _⟩ := own_nodes0 ho; obtain ⟨_, ⟨v2, s2⟩, z⟩ := hq5.fcell hj HF.out; have z2 := z 2; clear z)
      all_goals
        go_wp2
        go_ret
        obtain ⟨ys', hl, hq'⟩ := hq5.tree HA.out hj HF.out ta tc t (own_base ho hs4) (by omega) hts
        exact ⟨_, rfl, by have h := hq'.l8; rw [hl] at h; exact h⟩
    · go_wp2_with fail
      refine (drawBelow _ B a len cap 3 (by omega) (by omega) (HQ4.out.alloc _).cur).mono ?_
      rintro e w5 ⟨x, rfl, hx0, hx1, hc5, hg5⟩
      have hq5 := (HQ4.out.alloc _).next hg5 hc5
      obtain ⟨T, rfl⟩ : ∃ T : Nat, x = (T : Int) := Int.eq_ofNat_of_zero_le hx0
      have bL := box_on box_new hg5 (by omega)
      obtain ⟨fn, hfn, hget⟩ := str3_at [98] [122, 122] [] T (by omega) (by decide) (by decide) (by decide)
      have nL := box3_at bL.1 (by omega) hget
      have p0 := (hq5.cells hj).1
      have z0 := hq5.frozen (j * 3)
      have HL : Hid (Q8 _ w B a len cap g lc _) := hq5.name hj fn hfn
      clear hq5 bL hg5 hc5 hget
      go_wp2_with fail
      go_ret
      exact ⟨_, rfl, by have h := HL.out.l8; rw [List.length_set] at h; exact h⟩
    · by_cases h1 : (1 : Int) < (ys.length : Int)
      · go_wp2
        go_ret
        exact ⟨_, rfl, HQ4.out.l8cut (by omega) (by omega)⟩
      · go_wp2
        go_ret
        exact ⟨_, rfl, HQ4.out.l8⟩
    · go_wp2_with fail
      refine (specTexts (some ⟨gI, 0, none⟩) 0 ic [] _ ⟨rfl, fun q hq => absurd hq (by omega)⟩ (fun e => by cases e) (by omega)).mono ?_
      rintro e w5 ⟨v, rfl, ho, hb5⟩
      have hq5 := HQ4.out.below hb5
      obtain ⟨ia5, ic5, rfl, _, _⟩ := own_texts0 ho
      have p1 := (HZ.out w5 hq5).1
      have z1 := hq5.frozen (j * 3 + 1)
      have HL : Hid (Q8 _ w B a len cap g lc _) := hq5.imps hj (own_base ho hs4) ⟨by simp, fun t ht => by cases ht⟩
      clear hq5
      go_wp2_with fail
      go_ret
      exact ⟨_, rfl, by have h := HL.out.l8; rw [List.length_set] at h; exact h⟩

end Go.Proofs.YtdjglpcllcjcfaaGreatDoor

/-! Chapter 8's draws. -/
namespace Go.Proofs.YtdjglpcllcjcfaaGreatDoor
open Go.RowKit

theorem name8_at {V Y : World} {B k : Nat} (hg : (V.alloc (.cells #[.string ⟨#[97]⟩, .string ⟨#[98]⟩, .string ⟨#[99]⟩, .string ⟨#[109, 97, 105, 110]⟩, .string ⟨#[122, 122]⟩] 9)).grownBy Y (some B)) (hB : B < V.heap.size) (hk : k < 5) : ∃ fn : List UInt8, fn.length ≤ 9 ∧ Y.cell? ⟨V.heap.size, k, none⟩ = some (.string ⟨fn.toArray⟩) := by
  have ho := World.ownsRow_lit (base := V.heap.size) (e := 9) (size := 1) V #[.string ⟨#[97]⟩, .string ⟨#[98]⟩, .string ⟨#[99]⟩, .string ⟨#[109, 97, 105, 110]⟩, .string ⟨#[122, 122]⟩] 5 (Nat.le_refl _) (by decide) rfl
  have ho2 := own_grown ho hg (fun k e => by injection e with e; omega)
  have h := World.ownsRow.cellAt ho2 k (by omega)
  match k, hk with
  | 0, _ => exact ⟨[97], by simp, h⟩
  | 1, _ => exact ⟨[98], by simp, h⟩
  | 2, _ => exact ⟨[99], by simp, h⟩
  | 3, _ => exact ⟨[109, 97, 105, 110], by simp, h⟩
  | 4, _ => exact ⟨[122, 122], by simp, h⟩


/-- What the draws of projects leave. -/
def Drawn8 (w w' : World) (v : Value) : Prop := ∃ la n lc ps, v = .slice la n lc ∧ n ≤ 4 ∧ PkgsOk w' la n lc ps ∧ Below w.heap.size w w'

set_option maxHeartbeats 1000000 in
set_option maxRecDepth 100000 in
theorem drawProjectOk8 (w : World) (a : Option Addr) (len cap : Nat) (hl : len ≤ 4096) (hc : Code w w.heap.size a len) :
    Calls Tryz.prog 22 #[.slice a len cap] w fun e w' => ∃ v, e = .returned v ∧ Drawn8 w w' v := by
  go_enter Tryz.func22, Tryz.ntmps22
  go_wp2_with fail
  refine (drawNew _ a len cap hl hc).mono ?_
  rintro e w1 ⟨rfl, hc1, hg1⟩
  have hB1 : Below w.heap.size w w1 := (Below.refl _ _).grown hg1 (Nat.le_refl _) (by simp)
  go_wp2_with fail
  refine (drawAny8 w1 w.heap.size a len cap hc1).mono ?_
  rintro e w2 ⟨v, rfl, la, n, lc, ps, rfl, hn, hok, hc2, hg2⟩
  have hB2 := hB1.grown hg2 hB1.size (fun k e => by injection e with e; omega)
  have HOK : Hid (PkgsOk w2 la n lc ps) := hok w2 (Agree.refl _ _)
  clear hok
  go_wp2_with fail
  go_ret
  exact ⟨_, rfl, la, n, lc, ps, rfl, hn.2.1, HOK.out, hB2⟩

end Go.Proofs.YtdjglpcllcjcfaaGreatDoor

/-! The contracts of DrawFaultOf and DrawExports. -/
namespace Go.Proofs.YtdjglpcllcjcfaaGreatDoor
open Go.RowKit

theorem drawFaultOf9 (w : World) (a : Option Addr) (len cap : Nat) (hl : len ≤ 4096) (hc : Code w w.heap.size a len) :
    Calls Tryz.prog 6 #[.slice a len cap] w fun e w' => ∃ v, e = .returned v ∧ Drawn8 w w' v := by
  go_enter Tryz.func6, Tryz.ntmps6
  go_wp2_with fail
  refine (drawProjectOk8 _ a len cap hl hc).mono ?_
  rintro e w1 ⟨v, rfl, hd⟩
  have HD : Hid (Drawn8 w w1 v) := hd
  clear hd
  go_wp2
  go_ret
  exact ⟨_, rfl, HD.out⟩

set_option maxHeartbeats 2000000 in
set_option maxRecDepth 100000 in
theorem drawExports9 (w : World) (a : Option Addr) (len cap : Nat) (hl : len ≤ 4096) (hc : Code w w.heap.size a len) :
    Calls Tryz.prog 8 #[.slice a len cap] w fun e w' => ∃ v nm ims xs, e = .returned v ∧ Drawn7 w w' v nm ims xs ∧ Below w.heap.size w w' := by
  obtain ⟨W1, hW1⟩ : ∃ W, w.alloc (.cells #[.string ⟨#[]⟩, .slice none 0 0, .slice none 0 0] 32) = W := ⟨_, rfl⟩
  have bR := box_new (V := w) (a := .string ⟨#[]⟩) (b := .slice none 0 0) (c := .slice none 0 0) (t := 32)
  have hg0 := World.grownBy_alloc w (.cells #[.string ⟨#[]⟩, .slice none 0 0, .slice none 0 0] 32) none
  rw [hW1] at bR hg0
  have hcode := code_grown hc hg0
  have hB0 : Below w.heap.size w W1 := (Below.refl _ _).grown hg0 (Nat.le_refl _) (by simp)
  have HR0 : Hid (_) := bR
  clear hg0 bR
  go_enter Tryz.func8, Tryz.ntmps8
  go_wp2_with fail
  refine (drawPackageOkD _ a len cap hl hcode).mono ?_
  rintro e w2 ⟨v, nm, ims, xs, rfl, ⟨ia, ic, fa, fc, rfl, h1, h2, h3, h4, ho, hf⟩, hb2⟩
  have b2 := box_none HR0.out (Below.by hb2)
  have hlt := HR0.out.1.lt
  have hB2 : Below w.heap.size w w2 := hB0.trans (hb2.mono hB0.size)
  clear hb2 HR0 hcode
  have r0 := b2.1.c0
  have r1 := b2.1.c1
  have r2 := b2.1.c2
  have f0 := b2.2 0
  have f1 := b2.2 1
  have f2 := b2.2 2
  have HO : Hid (w2.ownsRow W1.heap.size 9 1 (.slice ia ims.length ic) ims.length (strV ims)) := ho
  have HF : Hid (FnsOwn w2 W1.heap.size (.slice fa xs.length fc) xs) := hf
  clear ho hf b2
  go_wp2
  obtain ⟨Y, hY, y0, y1, y2, hg⟩ := set3 (.string ⟨nm.toArray⟩) (.slice ia ims.length ic) (.slice fa xs.length fc) r0 r1 r2
  rw [hY]
  refine bodyPost_ret (v := .agg #[.string ⟨nm.toArray⟩, .slice ia ims.length ic, .slice fa xs.length fc]) (by simp [results, Tryz.results8, go_sem, y0, y1, y2]) rfl ?_
  have hr : ∀ k, some w.heap.size = some k → k < W1.heap.size := fun k e => by injection e with e; omega
  exact ⟨_, nm, ims, xs, rfl, ⟨ia, ic, fa, fc, rfl, h1, h2, h3, h4, own_base (own_grown HO.out hg hr) (by omega), (HF.out.grown hg hr).base (by omega)⟩, hB2.grown hg hB2.size (fun k e => by injection e with e; omega)⟩

end Go.Proofs.YtdjglpcllcjcfaaGreatDoor

/-! Errors of errors.New's make: what a package-level variable of them holds, and errors.Is of one at another (Go's own text walked). -/
namespace Go.Proofs.YtdjglpcllcjcfaaGreatDoor
open Go.RowKit Go.Extern.Stop Go.Stop Go.Extern

/-- An error of errors.New's make, at a. -/
def sentV (a : Addr) : Value := .iface 215 (.pointer (some a))
/-- Its block bears no mark. -/
def SentAt (w : World) (a : Addr) : Prop := ∃ c t, w.heap[a.block]? = some (.cells c t (0, 0))
theorem SentAt.below {w w' : World} {a : Addr} (h : SentAt w a) (hb : Below w.heap.size w w') : SentAt w' a := by
  obtain ⟨c, t, e⟩ := h
  have hlt : a.block < w.heap.size := by
    rcases Nat.lt_or_ge a.block w.heap.size with h | h
    · exact h
    · rw [Array.getElem?_eq_none h] at e; cases e
  exact ⟨c, t, (hb.block a.block hlt).trans e⟩

/-- The four that CallCode asks: 0 not told, 1 far, 2 func, 3 count. -/
structure Err4 (w : World) (e : Nat → Addr) : Prop where
  told : w.cell? ⟨0, 0, none⟩ = some (sentV (e 0))
  far : w.cell? ⟨6, 0, none⟩ = some (sentV (e 1))
  func : w.cell? ⟨7, 0, none⟩ = some (sentV (e 2))
  count : w.cell? ⟨8, 0, none⟩ = some (sentV (e 3))
  at0 : SentAt w (e 0)
  at1 : SentAt w (e 1)
  at2 : SentAt w (e 2)
  at3 : SentAt w (e 3)
  ne : e 0 ≠ e 1 ∧ e 0 ≠ e 2 ∧ e 0 ≠ e 3 ∧ e 1 ≠ e 2 ∧ e 1 ≠ e 3 ∧ e 2 ≠ e 3
theorem sent_below {w w' : World} {g : Nat} {v : Value} (h : w.cell? ⟨g, 0, none⟩ = some v) (hb : Below w.heap.size w w') : w'.cell? ⟨g, 0, none⟩ = some v := (hb.cell (p := ⟨g, 0, none⟩) (World.block_lt_of_cell? w ⟨g, 0, none⟩ h)).trans h
theorem Err4.below {w w' : World} {e : Nat → Addr} (h : Err4 w e) (hb : Below w.heap.size w w') : Err4 w' e :=
  ⟨sent_below h.told hb, sent_below h.far hb, sent_below h.func hb, sent_below h.count hb, h.at0.below hb, h.at1.below hb, h.at2.below hb, h.at3.below hb, h.ne⟩

/-! ### Closed facts. -/
theorem isTypeOf (v : Value) (w : World) : (Extern.ReflectliteType.typeOf #[.iface 215 v]).run Tryz.prog w = .ok (.iface 128 (.agg #[.pointer (some ⟨12, 215, none⟩)])) w := by kernel_rfl
/-- What the model does at (rtype).Comparable. -/
noncomputable def cmpE : Array Value → Sem Value := (Go.Extern.find Tryz.f173).getD (fun _ => pure (.bool false))
theorem isComparable (w : World) : (cmpE #[.agg #[.pointer (some ⟨12, 215, none⟩)]]).run Tryz.prog w = .ok (.bool true) w := by kernel_rfl
theorem isMethodComparable (v : Value) (w : World) : (Go.method 346 128 v "Comparable").run Tryz.prog w = .ok (173, v) w := by kernel_rfl
theorem isComp : (Tryz.prog.info? 215).map (·.comparable) = some true := by kernel_rfl
theorem isSize : (Tryz.prog.info? 234).map (·.size) = some 1 := by kernel_rfl
theorem noIsE (v : Value) (xT : TypeId) (w : World) : (Instr.typeAssert (.iface 215 v) xT 174 true).run Tryz.prog w = .ok (.tuple #[.nilIface, .bool false]) w := run_typeAssert_lacksB Tryz.underlying174 (by kernel_rfl) (by kernel_rfl) v xT w
theorem noUnwrapE (v : Value) (xT : TypeId) (w : World) : (Instr.typeAssert (.iface 215 v) xT 135 true).run Tryz.prog w = .ok (.tuple #[.nilIface, .bool false]) w := run_typeAssert_lacksB Tryz.underlying135 (by kernel_rfl) (by kernel_rfl) v xT w
theorem noUnwrapsE (v : Value) (xT : TypeId) (w : World) : (Instr.typeAssert (.iface 215 v) xT 137 true).run Tryz.prog w = .ok (.tuple #[.nilIface, .bool false]) w := run_typeAssert_lacksB Tryz.underlying137 (by kernel_rfl) (by kernel_rfl) v xT w

set_option maxHeartbeats 2000000 in
set_option maxRecDepth 100000 in
theorem is_same (a : Addr) (w : World) :
    Calls Tryz.prog 52 #[.iface 215 (.pointer (some a)), .iface 215 (.pointer (some a))] w fun e w' => e = .returned (.bool true) ∧ w' = w := by
  obtain ⟨i, hi, hcmp⟩ := Option.map_eq_some_iff.1 isComp
  obtain ⟨j, hj, hjs⟩ := Option.map_eq_some_iff.1 isSize
  have h8 := @run_callFunc_extern Tryz.prog 92 _ Extern.ReflectliteType.typeOf Tryz.func92 (by kernel_rfl) (by kernel_rfl) (by kernel_rfl) (by kernel_rfl)
  have h32 := @run_callFunc_extern Tryz.prog 173 _ cmpE Tryz.func173 (by kernel_rfl) (by kernel_rfl) (by kernel_rfl) (by kernel_rfl)
  have tT := isTypeOf
  have cT := isComparable
  have mR := isMethodComparable
  have heq := run_eql_iface_ptr_same (P := Tryz.prog) w a Tryz.underlying53 Tryz.underlying215 hi hcmp hj
  go_enter Tryz.func52, Tryz.ntmps52
  go_wp2
  refine wp_loop_rounds 1 ?_
  rw [rounds_succ]
  go_wp2
  go_ret
  exact ⟨rfl, rfl⟩

set_option maxHeartbeats 2000000 in
set_option maxRecDepth 100000 in
theorem is_other (a b : Addr) (w : World) (hne : a ≠ b) (hsa : SentAt w a) (hsb : SentAt w b) :
    Calls Tryz.prog 52 #[.iface 215 (.pointer (some a)), .iface 215 (.pointer (some b))] w fun e w' => e = .returned (.bool false) ∧ w' = w := by
  obtain ⟨ca, ta, ha⟩ := hsa
  obtain ⟨cb, tb, hb⟩ := hsb
  obtain ⟨i, hi, hcmp⟩ := Option.map_eq_some_iff.1 isComp
  obtain ⟨j, hj, hjs⟩ := Option.map_eq_some_iff.1 isSize
  have h8 := @run_callFunc_extern Tryz.prog 92 _ Extern.ReflectliteType.typeOf Tryz.func92 (by kernel_rfl) (by kernel_rfl) (by kernel_rfl) (by kernel_rfl)
  have h32 := @run_callFunc_extern Tryz.prog 173 _ cmpE Tryz.func173 (by kernel_rfl) (by kernel_rfl) (by kernel_rfl) (by kernel_rfl)
  have tT := isTypeOf
  have cT := isComparable
  have mR := isMethodComparable
  have nE := noIsE
  have uE := noUnwrapE
  have vE := noUnwrapsE
  have heq := run_eql_iface_ptr_other (P := Tryz.prog) w Tryz.underlying53 Tryz.underlying215 hi hcmp hj (by rw [hjs]; decide) hne ha hb
  go_enter Tryz.func52, Tryz.ntmps52
  go_wp2
  refine wp_loop_rounds 1 ?_
  rw [rounds_succ]
  go_wp2
  go_ret
  exact ⟨rfl, rfl⟩

/-- errors.Is of two errors of errors.New's make. -/
theorem isFlat (a b : Addr) (w : World) (ha : SentAt w a) (hb : SentAt w b) :
    Calls Tryz.prog 52 #[.iface 215 (.pointer (some a)), .iface 215 (.pointer (some b))] w fun e w' => e = .returned (.bool (decide (a = b))) ∧ w' = w := by
  by_cases h : a = b
  · subst h
    rw [decide_eq_true rfl]
    exact is_same a w
  · rw [decide_eq_false h]
    exact is_other a b w h ha hb

end Go.Proofs.YtdjglpcllcjcfaaGreatDoor

/-! Plain facts: a heap of numbers in a list: one goes up, one goes down, the least is first. -/
namespace Go.Proofs.YtdjglpcllcjcfaaGreatDoor
open Go.RowKit

/-- The first n are a heap. -/
def HpN (l : List Nat) (n : Nat) : Prop := ∀ k, 0 < k → k < n → l.getD ((k - 1) / 2) 0 ≤ l.getD k 0
def sw (l : List Nat) (i j : Nat) : List Nat := (l.set i (l.getD j 0)).set j (l.getD i 0)
theorem sw_len (l : List Nat) (i j : Nat) : (sw l i j).length = l.length := by unfold sw; simp
theorem sw_at (l : List Nat) {i j : Nat} (hi : i < l.length) (hj : j < l.length) (k : Nat) : (sw l i j).getD k 0 = if k = j then l.getD i 0 else if k = i then l.getD j 0 else l.getD k 0 := by
  unfold sw
  rw [List.getD_eq_getElem?_getD, List.getElem?_set]
  by_cases h1 : j = k
  · subst h1
    rw [if_pos rfl, if_pos (by simpa using hj), if_pos rfl]
    rfl
  · rw [if_neg h1, if_neg (fun e => h1 e.symm), List.getElem?_set]
    by_cases h2 : i = k
    · subst h2
      rw [if_pos rfl, if_pos hi, if_pos rfl]
      rfl
    · rw [if_neg h2, if_neg (fun e => h2 e.symm), List.getD_eq_getElem?_getD]
theorem sw_perm (l : List Nat) {i j : Nat} (hi : i < l.length) (hj : j < l.length) : (sw l i j).Perm l := by
  rw [List.perm_iff_count]
  intro a
  have e1 : l.getD j 0 = l[j] := by simp [List.getD, hj]
  have e2 : l.getD i 0 = l[i] := by simp [List.getD, hi]
  unfold sw
  rw [e1, e2]
  have hj2 : j < (l.set i l[j]).length := by simpa using hj
  rw [List.count_set hj2, List.count_set hi]
  have c1 : l[i] = a → 0 < l.count a := fun e => List.count_pos_iff.2 (by rw [← e]; exact List.getElem_mem hi)
  by_cases hij : i = j
  · subst hij
    simp only [List.getElem_set_self]
    by_cases h1 : l[i] = a
    · have := c1 h1; simp only [h1, beq_self_eq_true, if_true]; omega
    · simp only [beq_eq_false_iff_ne.2 h1]; simp
  · rw [List.getElem_set_ne hij]
    by_cases h1 : l[i] = a
    · have := c1 h1
      by_cases h2 : l[j] = a
      · simp only [h1, h2, beq_self_eq_true, if_true]; omega
      · simp only [h1, beq_eq_false_iff_ne.2 h2, beq_self_eq_true, if_true]; simp; omega
    · by_cases h2 : l[j] = a
      · simp only [h2, beq_eq_false_iff_ne.2 h1, beq_self_eq_true, if_true]; simp
      · simp only [beq_eq_false_iff_ne.2 h1, beq_eq_false_iff_ne.2 h2]; simp

/-- All but the one at j stand right. -/
def HpUp (l : List Nat) (j : Nat) : Prop := (∀ k, 0 < k → k < l.length → k ≠ j → l.getD ((k - 1) / 2) 0 ≤ l.getD k 0) ∧ (∀ k, 0 < k → k < l.length → (k - 1) / 2 = j → 0 < j → l.getD ((j - 1) / 2) 0 ≤ l.getD k 0)
theorem up_step {l : List Nat} {j : Nat} (h : HpUp l j) (hj : j < l.length) (h0 : 0 < j) (hlt : l.getD j 0 < l.getD ((j - 1) / 2) 0) : HpUp (sw l ((j - 1) / 2) j) ((j - 1) / 2) := by
  have hi : (j - 1) / 2 < l.length := by omega
  refine ⟨fun k hk hkl hne => ?_, fun k hk hkl hp hi0 => ?_⟩
  · rw [sw_len] at hkl
    rw [sw_at l hi hj, sw_at l hi hj]
    by_cases e1 : k = j
    · subst e1
      rw [if_neg (by omega), if_pos rfl, if_pos rfl]
      omega
    · rw [if_neg e1 (c := k = j), if_neg hne]
      by_cases e2 : (k - 1) / 2 = j
      · rw [if_pos e2]; exact h.2 k hk hkl e2 h0
      · rw [if_neg e2]
        have := h.1 k hk hkl e1
        by_cases e3 : (k - 1) / 2 = (j - 1) / 2
        · rw [if_pos e3]; rw [e3] at this; omega
        · rw [if_neg e3]; exact this
  · rw [sw_len] at hkl
    rw [sw_at l hi hj, sw_at l hi hj]
    have hne : (j - 1) / 2 ≠ j := by omega
    rw [if_neg (by omega), if_neg (by omega)]
    have h1 := h.1 ((j - 1) / 2) hi0 hi hne
    by_cases e1 : k = j
    · rw [if_pos e1]; exact h1
    · rw [if_neg e1, if_neg (by omega)]
      have h2 := h.1 k hk hkl e1
      rw [hp] at h2
      omega
theorem up_end {l : List Nat} {j : Nat} (h : HpUp l j) (he : j = 0 ∨ l.getD ((j - 1) / 2) 0 ≤ l.getD j 0) : HpN l l.length := fun k hk hkl => by
  by_cases e : k = j
  · subst e
    rcases he with e | e
    · omega
    · exact e
  · exact h.1 k hk hkl e
theorem up_start {l : List Nat} (h : HpN l l.length) (x : Nat) : HpUp (l ++ [x]) l.length := by
  have g : ∀ k, k < l.length → (l ++ [x]).getD k 0 = l.getD k 0 := fun k hk => by simp [List.getD, List.getElem?_append_left hk]
  refine ⟨fun k hk hkl hne => ?_, fun k hk hkl hp h0 => ?_⟩
  · rw [List.length_append, List.length_singleton] at hkl
    rw [g _ (by omega), g _ (by omega)]
    exact h k hk (by omega)
  · rw [List.length_append, List.length_singleton] at hkl
    omega

/-- All but what is below i stand right. -/
def HpDn (l : List Nat) (i n : Nat) : Prop := (∀ k, 0 < k → k < n → (k - 1) / 2 ≠ i → l.getD ((k - 1) / 2) 0 ≤ l.getD k 0) ∧ (∀ k, 0 < k → k < n → (k - 1) / 2 = i → 0 < i → l.getD ((i - 1) / 2) 0 ≤ l.getD k 0)
theorem dn_step {l : List Nat} {i j n : Nat} (h : HpDn l i n) (hn : n ≤ l.length) (hj0 : 0 < j) (hj : j < n) (hp : (j - 1) / 2 = i) (hmin : ∀ k, 0 < k → k < n → (k - 1) / 2 = i → l.getD j 0 ≤ l.getD k 0) (hlt : l.getD j 0 < l.getD i 0) : HpDn (sw l i j) j n := by
  have hi : i < l.length := by omega
  have hjl : j < l.length := by omega
  refine ⟨fun k hk hkn hne => ?_, fun k hk hkn hpk _ => ?_⟩
  · rw [sw_at l hi hjl, sw_at l hi hjl, if_neg hne]
    by_cases e1 : k = j
    · subst e1
      rw [if_pos hp, if_pos rfl]; omega
    · rw [if_neg e1]
      by_cases e2 : k = i
      · subst e2
        rw [if_neg (by omega), if_pos rfl]
        exact h.2 j hj0 hj hp hk
      · rw [if_neg e2]
        by_cases e3 : (k - 1) / 2 = i
        · rw [if_pos e3]; exact hmin k hk hkn e3
        · rw [if_neg e3]; exact h.1 k hk hkn e3
  · rw [sw_at l hi hjl, sw_at l hi hjl, if_neg (by omega), if_pos hp, if_neg (by omega), if_neg (by omega)]
    have := h.1 k hk hkn (by omega)
    rw [hpk] at this
    exact this
theorem dn_end {l : List Nat} {i n : Nat} (h : HpDn l i n) (he : ∀ k, 0 < k → k < n → (k - 1) / 2 = i → l.getD i 0 ≤ l.getD k 0) : HpN l n := fun k hk hkn => by
  by_cases e : (k - 1) / 2 = i
  · rw [e]; exact he k hk hkn e
  · exact h.1 k hk hkn e
theorem dn_start {l : List Nat} {n : Nat} (h : HpN l l.length) (hn : l.length = n + 1) : HpDn (sw l 0 n) 0 n := by
  refine ⟨fun k hk hkn hne => ?_, fun k hk hkn hp h0 => by omega⟩
  rw [sw_at l (by omega) (by omega), sw_at l (by omega) (by omega), if_neg (by omega), if_neg hne, if_neg (by omega), if_neg (by omega)]
  exact h k hk (by omega)
theorem hp_min {l : List Nat} {n : Nat} (h : HpN l n) : ∀ k, k < n → l.getD 0 0 ≤ l.getD k 0 := by
  intro k
  induction k using Nat.strongRecOn with
  | ind k ih =>
    intro hk
    rcases Nat.eq_zero_or_pos k with e | e
    · subst e; exact Nat.le_refl _
    · have h1 := h k e hk
      have h2 := ih ((k - 1) / 2) (by omega) (by omega)
      omega
theorem hp_take {l : List Nat} {n : Nat} (h : HpN l n) (hn : n ≤ l.length) : HpN (l.take n) (l.take n).length := fun k hk hkn => by
  rw [List.length_take] at hkn
  have g : ∀ k, k < n → (l.take n).getD k 0 = l.getD k 0 := fun k hk => by simp [List.getD, hk]
  rw [g _ (by omega), g _ (by omega)]
  exact h k hk (by omega)
/-- What comes out, and what is left. -/
theorem hp_pop {l l2 : List Nat} {n : Nat} (hn : l.length = n + 1) (hh : HpN l l.length) (hp : l2.Perm l) (hlast : l2.getD n 0 = l.getD 0 0) : ((l.getD 0 0) :: l2.take n).Perm l ∧ ∀ x ∈ l, l.getD 0 0 ≤ x := by
  have hl2 : l2.length = n + 1 := by rw [hp.length_eq, hn]
  constructor
  · have e : l2 = l2.take n ++ [l.getD 0 0] := by
      rw [← hlast]
      have : l2.getD n 0 = l2[n]'(by omega) := by simp [List.getD, show n < l2.length by omega]
      rw [this, ← List.take_succ_eq_append_getElem (by omega), List.take_of_length_le (by omega)]
    have h2 : (l.getD 0 0 :: l2.take n).Perm (l2.take n ++ [l.getD 0 0]) := by
      have := List.perm_append_comm (l₁ := [l.getD 0 0]) (l₂ := l2.take n)
      simpa using this
    exact h2.trans (by rw [← e]; exact hp)
  · intro x hx
    obtain ⟨k, hk, rfl⟩ := List.mem_iff_getElem.1 hx
    have := hp_min hh k hk
    have e : l.getD k 0 = l[k] := by simp [List.getD, hk]
    rw [e] at this
    exact this

end Go.Proofs.YtdjglpcllcjcfaaGreatDoor
