/-
  Parts of one proof, one behind the other: ObS, RegU, R3B.
-/
import Derived.Test.YtkpdoedpkncboaaGreatP26
import Derived.Test.YtkpdoedpkncboaaGreatP22
import Derived.Test.YtkpdoedpkncboaaGreatP23
import Derived.Test.YtkpdoedpkncboaaGreatP3
import Derived.Deep.RegionHeld
import Derived.RegionTactic
import Derived.Deep.CutRange
import Derived.Test.YtkpdoedpkncboaaGreatP1
import Derived.Test.YtkpdoedpkncboaaGreatP15
namespace Go.Proofs.YtkpdoedpkncboaaGreat
open Go.RowKit
theorem zii (l : List UInt8) (w : World) (hl : l.length ≤ 1048576) :
 Calls Tryz.prog 69 #[.string ⟨l.toArray⟩, .int .u8 46] w fun e w' => ∃ g cp n, e = .returned (.slice (some ⟨g, 0, none⟩) (n + 1) cp) ∧ w'.cell? ⟨g, 0, none⟩ = some (.string ⟨(cutA 46 l).toArray⟩) ∧ Below w.heap.size w w' := by
 refine (zer l 46 46 w (by rfl) hl).mono ?_
 rintro e w' ⟨g, cp, rfl, ho, hb⟩
 have hne : zaG 46 l ≠ [] := zdI 46 l []
 obtain ⟨n, hn⟩ : ∃ n, (zaG 46 l).length = n + 1 := ⟨(zaG 46 l).length - 1, by have := List.length_pos_iff.2 hne; omega⟩
 have hc := (zdt ho).2
 obtain ⟨a, c, e1, hin⟩ := hc
 injection e1 with e1 _ _
 subst e1
 obtain ⟨b, off, e2, _, hc0⟩ := hin.2 0 (by omega)
 injection e2 with e2
 injection e2 with e3 e4 _
 subst e3 e4
 rw [zhA] at hc0
 exact ⟨g, cp, n, by rw [hn], hc0, hb⟩
set_option maxHeartbeats 20000000 in
set_option maxRecDepth 100000 in
theorem zgJ (nm : List UInt8) (ia : Option Addr) (il ic : Nat) (fa : Option Addr) (fl fc : Nat) (ims : List (List UInt8)) (rs : List Rt) (w : World) (hi : zae w ia il ims) (hf : zdh w fa fl rs) (hil : il ≤ 1048576) (hfl : fl ≤ 1048576) (hnl : nm.length ≤ 1048576) (his : ∀ i, (ims.getD i []).length ≤ 1048576) (hfs : zcQ rs) :
 Calls Tryz.prog 40 #[.agg #[.string ⟨nm.toArray⟩, .slice ia il ic, .slice fa fl fc]] w fun e w' => e = .returned (.bool (objB (nm, ims, rs))) ∧ Below w.heap.size w w' := by
 obtain rfl : rs.length = fl := hf.1
 obtain rfl : ims.length = il := hi.1
 obtain ⟨W, hW⟩ : ∃ W, w.alloc (.cells #[.string ⟨nm.toArray⟩, .slice ia ims.length ic, .slice fa rs.length fc] 29) = W := ⟨_, rfl⟩
 obtain ⟨st, hB⟩ := ObIn.new (w := w) (nm := nm) (ic := ic) (fc := fc) hi hf
 rw [hW] at st hB
 obtain ⟨D, hD⟩ : ∃ D, w.heap.size = D := ⟨_, rfl⟩
 rw [hD] at st
 have HST : Hid (∀ Z, Below W.heap.size W Z → ObIn Z D nm ia ims.length ic fa rs.length fc ims rs) := fun Z hz => st.below hz
 have HS : Hid (zcQ rs) := hfs
 have HB : Hid (Below w.heap.size w W) := hB
 have HFB : Hid (∀ Z, Below W.heap.size W Z → Below w.heap.size w Z) := fun Z hz => HB.out.trans (hz.mono HB.out.size)
 have HC1 : Hid (_) := zbu nm W hnl
 have HC2 : Hid (_) := zes ia ims.length ic ims W st.i hil his
 have HN1 : Hid (zak nm = false → objB (nm, ims, rs) = false) := fun e => ziu (o := (nm, ims, rs)) e
 have HN2 : Hid (zal ims = false → objB (nm, ims, rs) = false) := fun e => ziv (o := (nm, ims, rs)) e
 have HN3 : Hid (¬ (1 ≤ rs.length ∧ rs.length ≤ 8) → objB (nm, ims, rs) = false) := fun e => zkH (o := (nm, ims, rs)) e
 have HYes : Hid (zak nm = true → zal ims = true → (1 ≤ rs.length ∧ rs.length ≤ 8) → (∀ j, j < rs.length → zdM nm ims rs j) → objB (nm, ims, rs) = true) := fun e1 e2 e3 e4 => zkG (o := (nm, ims, rs)) e1 e2 e3 e4
 have HNo : Hid (∀ j, j < rs.length → ¬ zdM nm ims rs j → objB (nm, ims, rs) = false) := fun j hj e => obj_no (o := (nm, ims, rs)) hj e
 obtain ⟨k0, k1, k2⟩ : W.cell? ⟨D, 0, none⟩ = some (.string ⟨nm.toArray⟩) ∧ W.cell? ⟨D, 1, none⟩ = some (.slice ia ims.length ic) ∧ W.cell? ⟨D, 2, none⟩ = some (.slice fa rs.length fc) := ⟨st.k0, st.k1, st.k2⟩
 generalize objB (nm, ims, rs) = res at HN1 HN2 HN3 HYes HNo ⊢
 generalize zak nm = b1 at HN1 HYes HC1
 generalize zal ims = b2 at HN2 HYes HC2
 clear hi hf hfs his st hB
 go_enter Tryz.func40, Tryz.ntmps40
 go_wp2_with fail
 refine Calls.mono HC1.out ?_
 rintro e w1 ⟨rfl, hw1⟩
 obtain rfl := hw1.symm
 rcases b1 with _ | _
 ·
  have HR : Hid (res = false) := HN1.out rfl
  go_wp2
  go_ret
  exact ⟨by rw [HR.out]; rfl, by first | exact HB.out | exact hD ▸ HB.out⟩
 go_wp2_with fail
 refine Calls.mono HC2.out ?_
 rintro e w2 ⟨rfl, hb2⟩
 replace k0 := (HST.out _ hb2).k0
 replace k1 := (HST.out _ hb2).k1
 replace k2 := (HST.out _ hb2).k2
 rcases b2 with _ | _
 ·
  have HR : Hid (res = false) := HN2.out rfl
  have HF := HFB.out _ hb2
  go_wp2
  go_ret
  exact ⟨by rw [HR.out]; rfl, by first | exact HF | exact hD ▸ HF⟩
 have HB2 : Hid (Below W.heap.size W w2) := hb2
 clear hb2
 by_cases hln : inB (rs.length : Int) 1 8 = true
 rotate_left
 ·
  have hln2 : inB (rs.length : Int) 1 8 = false := by rw [Bool.eq_false_iff]; exact hln
  have HR : Hid (res = false) := HN3.out (fun e => hln (zc7 _ _ _ (by omega) (by omega)))
  have HF := HFB.out _ HB2.out
  clear hln
  go_wp2_with fail
  refine (zch (rs.length : Int) 1 8 _).mono ?_
  rintro e w3 ⟨rfl, hw3⟩
  obtain rfl := hw3.symm
  rw [hln2]
  go_wp2
  go_ret
  exact ⟨by rw [HR.out]; rfl, by first | exact HF | exact hD ▸ HF⟩
 have HL8 : Hid (1 ≤ rs.length ∧ rs.length ≤ 8) := by
  have h : 1 ≤ (rs.length : Int) ∧ (rs.length : Int) ≤ 8 := by unfold inB at hln; exact of_decide_eq_true hln
  exact (by omega : 1 ≤ rs.length ∧ rs.length ≤ 8)
 have HY2 : Hid ((∀ j, j < rs.length → zdM nm ims rs j) → res = true) := HYes.out (by trivial) (by trivial) HL8.out
 clear HYes HN1 HN2 HN3 HC1 HC2
 go_wp2_with fail
 refine (zch (rs.length : Int) 1 8 _).mono ?_
 rintro e w3 ⟨rfl, hw3⟩
 obtain rfl := hw3.symm
 rw [hln]
 clear hln
 go_wp2
 go_loopw [3] (fun iv wr => ∃ j : Nat, iv = .int .i64 (j : Int) ∧ j ≤ rs.length ∧ Hid (∀ u, u < j → zdM nm ims rs u) ∧ Hid (Below W.heap.size W wr)) (fun iv _ => rs.length - (intOf iv).toNat)
 case atStart => exact ⟨0, rfl, Nat.zero_le _, fun u hu => by omega, HB2⟩
 case round =>
  obtain ⟨j, rfl, hj, HO, HBr⟩ := hrel
  clear k0 k1 k2
  have k2 := (HST.out wr HBr.out).k2
  by_cases hlt : (j : Int) < (rs.length : Int)
  ·
   obtain ⟨b, off, rfl, hbl, c0, c1, ca, cl, cc, c2, hci⟩ := (HST.out wr HBr.out).f.2 j (by omega)
   have hshj := HS.out j
   have hnoj := HNo.out j (by omega)
   obtain ⟨x, hx⟩ : ∃ x, rs.getD j rt0 = x := ⟨_, rfl⟩
   rw [hx] at c0 c1 hci hshj
   obtain ⟨n, ar, c⟩ := x
   simp only at c0 c1 hci hshj
   have hcl : c.length = cl := hci.1
   obtain ⟨V, hV⟩ : ∃ V, wr.alloc (.cells #[.string ⟨n.toArray⟩, .int .i64 ar, .slice ca cl cc] 51) = V := ⟨_, rfl⟩
   have hbV : Below wr.heap.size wr V := by rw [← hV]; exact (Below.refl _ _).alloc (Nat.le_refl _) _
   have hA : V.heap[wr.heap.size]? = some (.cells #[.string ⟨n.toArray⟩, .int .i64 ar, .slice ca cl cc] 51) := by rw [← hV]; exact heap_alloc_new wr _
   obtain ⟨N, hN⟩ : ∃ N, wr.heap.size = N := ⟨_, rfl⟩
   rw [hN] at hA
   have n0 : V.cell? ⟨N, 0, none⟩ = some (.string ⟨n.toArray⟩) := by simp [World.cell?, hA]
   have n1 : V.cell? ⟨N, 1, none⟩ = some (.int .i64 ar) := by simp [World.cell?, hA]
   have n2 : V.cell? ⟨N, 2, none⟩ = some (.slice ca cl cc) := by simp [World.cell?, hA]
   have hNl : N < V.heap.size := World.block_lt_of_cell? V ⟨N, 0, none⟩ n0
   have hBV := HBr.out.trans (hbV.mono HBr.out.size)
   have HBV : Hid (Below W.heap.size W V) := hBV
   have HZ : Hid (∀ Z, Below V.heap.size V Z → Z.cell? ⟨N, 0, none⟩ = some (.string ⟨n.toArray⟩) ∧ Z.cell? ⟨N, 1, none⟩ = some (.int .i64 ar) ∧ Z.cell? ⟨N, 2, none⟩ = some (.slice ca cl cc) ∧ Z.cell? ⟨D, 2, none⟩ = some (.slice (some ⟨b, off, none⟩) rs.length fc) ∧ Z.cell? ⟨D, 0, none⟩ = some (.string ⟨nm.toArray⟩)) := fun Z hz => ⟨(hz.cell (p := ⟨N, 0, none⟩) hNl).trans n0, (hz.cell (p := ⟨N, 1, none⟩) hNl).trans n1, (hz.cell (p := ⟨N, 2, none⟩) hNl).trans n2, (HST.out Z (HBV.out.trans (hz.mono HBV.out.size))).k2, (HST.out Z (HBV.out.trans (hz.mono HBV.out.size))).k0⟩
   have HTx : Hid (∀ Z, Below V.heap.size V Z → Z.cell? ⟨D, 1, none⟩ = some (.slice ia ims.length ic) ∧ zae Z ia ims.length ims) := fun Z hz => ⟨(HST.out Z (HBV.out.trans (hz.mono HBV.out.size))).k1, (HST.out Z (HBV.out.trans (hz.mono HBV.out.size))).i⟩
   have HCi : Hid (∀ Z, Below V.heap.size V Z → zbD Z ca cl c) := fun Z hz => (hci.below hbV).below hz
   have HCk : Hid (∀ Z, Below V.heap.size V Z → Calls Tryz.prog 68 #[.agg #[.string ⟨n.toArray⟩, .int .i64 ar, .slice ca cl cc]] Z fun e w' => e = .returned (.bool (rtB (n, ar, c))) ∧ Below Z.heap.size Z w') := fun Z hz => zhB n ar ca cl cc c Z ((hci.below hbV).below hz) hshj.2.2 (by rw [← hcl]; exact hshj.2.1) hshj.1
   have HSp : Hid (_) := fun Z : World => zii n Z hshj.1
   have HSh2 : Hid (zcA c) := hshj.2.2
   have HX0 : Hid (rs.getD j rt0 = (n, ar, c)) := hx
   have HCl : Hid (c.length = cl) := hcl
   have hcl2 : cl ≤ 1048576 := by rw [← hcl]; exact hshj.2.1
   have HNj : Hid (¬ zdM nm ims rs j → res = false) := hnoj
   have HPv : Hid (∀ p, p + 1 = j → ∀ Z, Below V.heap.size V Z → Z.cell? ⟨b, off + p * 3, none⟩ = some (.string ⟨(rs.getD p rt0).1.toArray⟩)) := fun p hp Z hz => by
    obtain ⟨b', off', e, _, d0, _⟩ := (HST.out Z (HBV.out.trans (hz.mono HBV.out.size))).f.2 p (by omega)
    injection e with e
    injection e with e1 e2 _
    subst e1 e2
    exact d0
   obtain ⟨y0, hy0⟩ : ∃ y0, cutA 46 n = y0 := ⟨_, rfl⟩
   have HY0 : Hid (cutA 46 n = y0) := hy0
   rw [hy0] at HSp
   have hFV := HFB.out _ HBV.out
   have HFV : Hid (∀ Z, Below V.heap.size V Z → Below w.heap.size w Z) := fun Z hz => hFV.trans (hz.mono hFV.size)
   clear hci hbV hA n0 n1 n2 hNl hBV hx hshj hcl hnoj hy0 hFV
   rcases hrb : rtB (n, ar, c) with _ | _
   ·
    rw [hrb] at HCk
    have HR : Hid (res = false) := HNj.out (fun e => by have := e.1.1; rw [HX0.out, hrb] at this; cases this)
    clear hrb
    go_wp2
    refine wp_region_held_drew (S := fun Z => Below V.heap.size V Z) (by kernel_rfl) (by exact ⟨rfl, rfl, rfl, Nat.le_refl _, fun _ _ => rfl⟩) (fun hHeld => ?_)
    refine tkO [(0, 36)] ?_
    repeat (refine tkY ?_ rfl (by rfl) ?_ ?_; rotate_left; (focus (intro wq hSw; obtain ⟨z0, z1, z2, z3, z4⟩ := HZ.out wq hSw; clear hSw; first | (go_simp; done) | (go_simp; with_reducible rfl))); simp only [zP])
    refine tkZ ?_
    refine zR 1 rfl (fun K hK => ?_)
    go_simp
    refine Calls.mono (HCk.out _ hHeld) ?_
    rintro e V1 ⟨rfl, hb1⟩
    dsimp only
    refine hK.out _ _ (by exact hHeld.trans (hb1.mono hHeld.size)) (fun hHeld => ?_)
    clear hK K
    (try simp only [zP])
    refine tkO [(2, 38), (3, 39), (4, 40), (5, 41), (6, 42), (7, 43), (8, 44), (9, 45), (10, 46), (11, 47), (12, 48), (13, 49), (14, 50), (15, 51), (16, 52), (17, 53), (18, 54), (19, 55), (20, 56), (21, 57), (22, 58), (23, 59), (24, 60), (25, 61), (26, 62), (27, 63), (28, 64)] ?_
    repeat ((first | (refine tkY ?_ rfl (by rfl) ?_ ?_; rotate_left; (focus (intro wq hSw; obtain ⟨z0, z1, z2, z3, z4⟩ := HZ.out wq hSw; clear hSw; first | (go_simp; done) | (go_simp; with_reducible rfl)))) | refine tkN rfl (by rfl) ?_); simp only [zP])
    refine tkZ ?_
    have HV1 : Hid (Below V.heap.size V _) := hHeld
    refine wpAnyH_done (by kernel_rfl) ?_ _
    clear hHeld hb1
    go_wp2
    go_ret
    exact ⟨by rw [HR.out]; rfl, by first | exact HFV.out _ HV1.out | exact hD ▸ HFV.out _ HV1.out⟩
   rw [hrb] at HCk
   have HRb : Hid (rtB (n, ar, c) = true) := hrb
   clear hrb
   go_wp2
   go_cut [64] from 36 to 63 (fun v wx => ∃ bv : Bool, v = .bool bv ∧ Hid (Below V.heap.size V wx) ∧ Hid (bv = true → res = false) ∧ Hid (bv = false → (0 < j → leT n (rs.getD (j - 1) rt0).1 = false) ∧ cutA 46 n = nm))
   case first =>
    by_cases hj0 : j = 0
    ·
     have hj1 : ¬ ((j : Int) > 0) := by omega
     have hj3 : ¬ (0 < j) := by omega
     have HJ0 : Hid (j = 0) := hj0
     clear hj0
     by_cases hyn : y0 = nm
     ·
      have heb : (y0 != nm) = false := by rw [hyn]; simp
      have heb2 : (y0 == nm) = true := by rw [hyn]; simp
      have HYN : Hid (y0 = nm) := hyn
      clear hyn
      refine wp_region_held_drew (S := fun Z => Below V.heap.size V Z) (by kernel_rfl) (by exact ⟨rfl, rfl, rfl, Nat.le_refl _, fun _ _ => rfl⟩) (fun hHeld => ?_)
      refine tkO [(0, 36)] ?_
      repeat (refine tkY ?_ rfl (by rfl) ?_ ?_; rotate_left; (focus (intro wq hSw; obtain ⟨z0, z1, z2, z3, z4⟩ := HZ.out wq hSw; clear hSw; first | (go_simp; done) | (go_simp; with_reducible rfl))); simp only [zP])
      refine tkZ ?_
      refine zR 1 rfl (fun K hK => ?_)
      go_simp
      refine Calls.mono (HCk.out _ hHeld) ?_
      rintro e V1 ⟨rfl, hb1⟩
      dsimp only
      refine hK.out _ _ (by exact hHeld.trans (hb1.mono hHeld.size)) (fun hHeld => ?_)
      clear hK K
      (try simp only [zP])
      refine tkO [(2, 38), (3, 39), (4, 40), (5, 41), (6, 42), (7, 43), (8, 44), (9, 45), (10, 46), (11, 47), (12, 48), (13, 49), (14, 50), (15, 51), (16, 52), (17, 53), (18, 54), (19, 55), (20, 56), (21, 57), (25, 61), (26, 62)] ?_
      repeat ((first | (refine tkY ?_ rfl (by rfl) ?_ ?_; rotate_left; (focus (intro wq hSw; obtain ⟨z0, z1, z2, z3, z4⟩ := HZ.out wq hSw; clear hSw; first | (go_simp; done) | (go_simp; with_reducible rfl)))) | refine tkN rfl (by rfl) ?_); simp only [zP])
      refine tkZ ?_
      refine zR 22 rfl (fun K hK => ?_)
      go_simp
      refine Calls.mono (HSp.out _) ?_
      rintro e V2 ⟨g2, cp2, m2, rfl, hx2, hb2⟩; have hm2 : (0 : Int) < ((m2 + 1 : Nat) : Int) := (by omega)
      dsimp only
      refine hK.out _ _ (by exact hHeld.trans (hb2.mono hHeld.size)) (fun hHeld => ?_)
      clear hK K
      (try simp only [zP])
      refine zR 23 rfl (fun K hK => ?_)
      go_simp
      refine hK.out _ _ (by exact hHeld) (fun hHeld => ?_)
      clear hK K
      (try simp only [zP])
      refine zR 24 rfl (fun K hK => ?_)
      go_simp
      refine hK.out _ _ (by exact hHeld) (fun hHeld => ?_)
      clear hK K
      (try simp only [zP])
      refine tkO [(27, 63), (28, 64)] ?_
      repeat (refine tkY ?_ rfl (by rfl) ?_ ?_; rotate_left; (focus (intro wq hSw; obtain ⟨z0, z1, z2, z3, z4⟩ := HZ.out wq hSw; clear hSw; first | (go_simp; done) | (go_simp; with_reducible rfl))); simp only [zP])
      refine tkZ ?_
      have HV1 : Hid (Below V.heap.size V _) := hHeld
      refine wpAnyH_done (by kernel_rfl) ?_ _
      clear hHeld hb1 hb2 hx2
      go_wp2_with fail
      go_meet
      case rel => exact ⟨false, rfl, HV1, (fun e => by cases e), (fun _ => ⟨fun h => by have := HJ0.out; omega, HY0.out.trans HYN.out⟩)⟩
     ·
      have heb : (y0 != nm) = true := bne_iff_ne.2 hyn
      have heb2 : (y0 == nm) = false := beq_eq_false_iff_ne.2 hyn
      have HR : Hid (res = false) := HNj.out (fun e => by have := e.1.2.2; rw [HX0.out] at this; exact hyn (HY0.out.symm.trans this))
      clear hyn
      refine wp_region_held_drew (S := fun Z => Below V.heap.size V Z) (by kernel_rfl) (by exact ⟨rfl, rfl, rfl, Nat.le_refl _, fun _ _ => rfl⟩) (fun hHeld => ?_)
      refine tkO [(0, 36)] ?_
      repeat (refine tkY ?_ rfl (by rfl) ?_ ?_; rotate_left; (focus (intro wq hSw; obtain ⟨z0, z1, z2, z3, z4⟩ := HZ.out wq hSw; clear hSw; first | (go_simp; done) | (go_simp; with_reducible rfl))); simp only [zP])
      refine tkZ ?_
      refine zR 1 rfl (fun K hK => ?_)
      go_simp
      refine Calls.mono (HCk.out _ hHeld) ?_
      rintro e V1 ⟨rfl, hb1⟩
      dsimp only
      refine hK.out _ _ (by exact hHeld.trans (hb1.mono hHeld.size)) (fun hHeld => ?_)
      clear hK K
      (try simp only [zP])
      refine tkO [(2, 38), (3, 39), (4, 40), (5, 41), (6, 42), (7, 43), (8, 44), (9, 45), (10, 46), (11, 47), (12, 48), (13, 49), (14, 50), (15, 51), (16, 52), (17, 53), (18, 54), (19, 55), (20, 56), (21, 57), (25, 61), (26, 62)] ?_
      repeat ((first | (refine tkY ?_ rfl (by rfl) ?_ ?_; rotate_left; (focus (intro wq hSw; obtain ⟨z0, z1, z2, z3, z4⟩ := HZ.out wq hSw; clear hSw; first | (go_simp; done) | (go_simp; with_reducible rfl)))) | refine tkN rfl (by rfl) ?_); simp only [zP])
      refine tkZ ?_
      refine zR 22 rfl (fun K hK => ?_)
      go_simp
      refine Calls.mono (HSp.out _) ?_
      rintro e V2 ⟨g2, cp2, m2, rfl, hx2, hb2⟩; have hm2 : (0 : Int) < ((m2 + 1 : Nat) : Int) := (by omega)
      dsimp only
      refine hK.out _ _ (by exact hHeld.trans (hb2.mono hHeld.size)) (fun hHeld => ?_)
      clear hK K
      (try simp only [zP])
      refine zR 23 rfl (fun K hK => ?_)
      go_simp
      refine hK.out _ _ (by exact hHeld) (fun hHeld => ?_)
      clear hK K
      (try simp only [zP])
      refine zR 24 rfl (fun K hK => ?_)
      go_simp
      refine hK.out _ _ (by exact hHeld) (fun hHeld => ?_)
      clear hK K
      (try simp only [zP])
      refine tkO [(27, 63), (28, 64)] ?_
      repeat (refine tkY ?_ rfl (by rfl) ?_ ?_; rotate_left; (focus (intro wq hSw; obtain ⟨z0, z1, z2, z3, z4⟩ := HZ.out wq hSw; clear hSw; first | (go_simp; done) | (go_simp; with_reducible rfl))); simp only [zP])
      refine tkZ ?_
      have HV1 : Hid (Below V.heap.size V _) := hHeld
      refine wpAnyH_done (by kernel_rfl) ?_ _
      clear hHeld hb1 hb2 hx2
      go_wp2_with fail
      go_meet
      case rel => exact ⟨true, rfl, HV1, (fun _ => HR.out), (fun e => by cases e)⟩
    ·
     obtain ⟨p, hp⟩ : ∃ p, p + 1 = j := ⟨j - 1, by omega⟩
     have hj1 : (j : Int) > 0 := by omega
     have hj2 : (0 : Int) < (j : Int) := by omega
     have hj3 : 0 < j := by omega
     have hjp : (j : Int) - 1 = (p : Int) := by omega
     have hpl : (p : Int) < (rs.length : Int) := by omega
     have hpw : IntKind.i64.wrap (p : Int) = (p : Int) := by rw [IntKind.wrap_i64]; omega
     have HP : Hid (_) := HPv.out p hp
     have hpj : j - 1 = p := by omega
     obtain ⟨y, hy⟩ : ∃ y, (rs.getD p rt0).1 = y := ⟨_, rfl⟩
     rw [hy] at HP
     rcases hle : leT n y with _ | _
     ·
      have HL : Hid (leT n (rs.getD (j - 1) rt0).1 = false) := by
       show leT n (rs.getD (j - 1) rt0).1 = false
       rw [hpj, hy]
       exact hle
      unfold leT at hle
      clear hp hpj hy
      by_cases hyn : y0 = nm
      ·
       have heb : (y0 != nm) = false := by rw [hyn]; simp
       have heb2 : (y0 == nm) = true := by rw [hyn]; simp
       have HYN : Hid (y0 = nm) := hyn
       clear hyn
       refine wp_region_held_drew (S := fun Z => Below V.heap.size V Z) (by kernel_rfl) (by exact ⟨rfl, rfl, rfl, Nat.le_refl _, fun _ _ => rfl⟩) (fun hHeld => ?_)
       refine tkO [(0, 36)] ?_
       repeat (refine tkY ?_ rfl (by rfl) ?_ ?_; rotate_left; (focus (intro wq hSw; obtain ⟨z0, z1, z2, z3, z4⟩ := HZ.out wq hSw; clear hSw; first | (go_simp; done) | (go_simp; with_reducible rfl))); simp only [zP])
       refine tkZ ?_
       refine zR 1 rfl (fun K hK => ?_)
       go_simp
       refine Calls.mono (HCk.out _ hHeld) ?_
       rintro e V1 ⟨rfl, hb1⟩
       dsimp only
       refine hK.out _ _ (by exact hHeld.trans (hb1.mono hHeld.size)) (fun hHeld => ?_)
       clear hK K
       (try simp only [zP])
       refine tkO [(2, 38), (3, 39), (4, 40), (5, 41), (6, 42)] ?_
       repeat (refine tkY ?_ rfl (by rfl) ?_ ?_; rotate_left; (focus (intro wq hSw; obtain ⟨z0, z1, z2, z3, z4⟩ := HZ.out wq hSw; clear hSw; first | (go_simp; done) | (go_simp; with_reducible rfl))); simp only [zP])
       refine tkZ ?_
       refine tkO [(7, 43), (8, 44), (9, 45), (10, 46), (11, 47), (12, 48), (13, 49), (14, 50), (15, 51), (16, 52)] ?_
       repeat (refine tkY ?_ rfl (by rfl) ?_ ?_; rotate_left; (focus (intro wq hSw; obtain ⟨z0, z1, z2, z3, z4⟩ := HZ.out wq hSw; have z5 := HP.out wq hSw; clear hSw; first | (go_simp; done) | (go_simp; with_reducible rfl))); simp only [zP])
       refine tkZ ?_
       refine tkO [(17, 53), (18, 54), (19, 55), (20, 56), (21, 57), (25, 61), (26, 62)] ?_
       repeat (refine tkY ?_ rfl (by rfl) ?_ ?_; rotate_left; (focus (intro wq hSw; obtain ⟨z0, z1, z2, z3, z4⟩ := HZ.out wq hSw; clear hSw; first | (go_simp; done) | (go_simp; with_reducible rfl))); simp only [zP])
       refine tkZ ?_
       refine zR 22 rfl (fun K hK => ?_)
       go_simp
       refine Calls.mono (HSp.out _) ?_
       rintro e V2 ⟨g2, cp2, m2, rfl, hx2, hb2⟩; have hm2 : (0 : Int) < ((m2 + 1 : Nat) : Int) := (by omega)
       dsimp only
       refine hK.out _ _ (by exact hHeld.trans (hb2.mono hHeld.size)) (fun hHeld => ?_)
       clear hK K
       (try simp only [zP])
       refine zR 23 rfl (fun K hK => ?_)
       go_simp
       refine hK.out _ _ (by exact hHeld) (fun hHeld => ?_)
       clear hK K
       (try simp only [zP])
       refine zR 24 rfl (fun K hK => ?_)
       go_simp
       refine hK.out _ _ (by exact hHeld) (fun hHeld => ?_)
       clear hK K
       (try simp only [zP])
       refine tkO [(27, 63), (28, 64)] ?_
       repeat (refine tkY ?_ rfl (by rfl) ?_ ?_; rotate_left; (focus (intro wq hSw; obtain ⟨z0, z1, z2, z3, z4⟩ := HZ.out wq hSw; clear hSw; first | (go_simp; done) | (go_simp; with_reducible rfl))); simp only [zP])
       refine tkZ ?_
       have HV1 : Hid (Below V.heap.size V _) := hHeld
       refine wpAnyH_done (by kernel_rfl) ?_ _
       clear hHeld hb1 hb2 hx2
       go_wp2_with fail
       go_meet
       case rel => exact ⟨false, rfl, HV1, (fun e => by cases e), (fun _ => ⟨fun _ => HL.out, HY0.out.trans HYN.out⟩)⟩
      ·
       have heb : (y0 != nm) = true := bne_iff_ne.2 hyn
       have heb2 : (y0 == nm) = false := beq_eq_false_iff_ne.2 hyn
       have HR : Hid (res = false) := HNj.out (fun e => by have := e.1.2.2; rw [HX0.out] at this; exact hyn (HY0.out.symm.trans this))
       clear hyn
       refine wp_region_held_drew (S := fun Z => Below V.heap.size V Z) (by kernel_rfl) (by exact ⟨rfl, rfl, rfl, Nat.le_refl _, fun _ _ => rfl⟩) (fun hHeld => ?_)
       refine tkO [(0, 36)] ?_
       repeat (refine tkY ?_ rfl (by rfl) ?_ ?_; rotate_left; (focus (intro wq hSw; obtain ⟨z0, z1, z2, z3, z4⟩ := HZ.out wq hSw; clear hSw; first | (go_simp; done) | (go_simp; with_reducible rfl))); simp only [zP])
       refine tkZ ?_
       refine zR 1 rfl (fun K hK => ?_)
       go_simp
       refine Calls.mono (HCk.out _ hHeld) ?_
       rintro e V1 ⟨rfl, hb1⟩
       dsimp only
       refine hK.out _ _ (by exact hHeld.trans (hb1.mono hHeld.size)) (fun hHeld => ?_)
       clear hK K
       (try simp only [zP])
       refine tkO [(2, 38), (3, 39), (4, 40), (5, 41), (6, 42)] ?_
       repeat (refine tkY ?_ rfl (by rfl) ?_ ?_; rotate_left; (focus (intro wq hSw; obtain ⟨z0, z1, z2, z3, z4⟩ := HZ.out wq hSw; clear hSw; first | (go_simp; done) | (go_simp; with_reducible rfl))); simp only [zP])
       refine tkZ ?_
       refine tkO [(7, 43), (8, 44), (9, 45), (10, 46), (11, 47), (12, 48), (13, 49), (14, 50), (15, 51), (16, 52)] ?_
       repeat (refine tkY ?_ rfl (by rfl) ?_ ?_; rotate_left; (focus (intro wq hSw; obtain ⟨z0, z1, z2, z3, z4⟩ := HZ.out wq hSw; have z5 := HP.out wq hSw; clear hSw; first | (go_simp; done) | (go_simp; with_reducible rfl))); simp only [zP])
       refine tkZ ?_
       refine tkO [(17, 53), (18, 54), (19, 55), (20, 56), (21, 57), (25, 61), (26, 62)] ?_
       repeat (refine tkY ?_ rfl (by rfl) ?_ ?_; rotate_left; (focus (intro wq hSw; obtain ⟨z0, z1, z2, z3, z4⟩ := HZ.out wq hSw; clear hSw; first | (go_simp; done) | (go_simp; with_reducible rfl))); simp only [zP])
       refine tkZ ?_
       refine zR 22 rfl (fun K hK => ?_)
       go_simp
       refine Calls.mono (HSp.out _) ?_
       rintro e V2 ⟨g2, cp2, m2, rfl, hx2, hb2⟩; have hm2 : (0 : Int) < ((m2 + 1 : Nat) : Int) := (by omega)
       dsimp only
       refine hK.out _ _ (by exact hHeld.trans (hb2.mono hHeld.size)) (fun hHeld => ?_)
       clear hK K
       (try simp only [zP])
       refine zR 23 rfl (fun K hK => ?_)
       go_simp
       refine hK.out _ _ (by exact hHeld) (fun hHeld => ?_)
       clear hK K
       (try simp only [zP])
       refine zR 24 rfl (fun K hK => ?_)
       go_simp
       refine hK.out _ _ (by exact hHeld) (fun hHeld => ?_)
       clear hK K
       (try simp only [zP])
       refine tkO [(27, 63), (28, 64)] ?_
       repeat (refine tkY ?_ rfl (by rfl) ?_ ?_; rotate_left; (focus (intro wq hSw; obtain ⟨z0, z1, z2, z3, z4⟩ := HZ.out wq hSw; clear hSw; first | (go_simp; done) | (go_simp; with_reducible rfl))); simp only [zP])
       refine tkZ ?_
       have HV1 : Hid (Below V.heap.size V _) := hHeld
       refine wpAnyH_done (by kernel_rfl) ?_ _
       clear hHeld hb1 hb2 hx2
       go_wp2_with fail
       go_meet
       case rel => exact ⟨true, rfl, HV1, (fun _ => HR.out), (fun e => by cases e)⟩
     ·
      have HR : Hid (res = false) := HNj.out (fun e => by
       have h2 := e.1.2.1 (by omega)
       rw [hpj, HX0.out, hy] at h2
       simp only at h2
       rw [hle] at h2
       cases h2)
      unfold leT at hle
      clear hp hpj hy
      refine wp_region_held_drew (S := fun Z => Below V.heap.size V Z) (by kernel_rfl) (by exact ⟨rfl, rfl, rfl, Nat.le_refl _, fun _ _ => rfl⟩) (fun hHeld => ?_)
      refine tkO [(0, 36)] ?_
      repeat (refine tkY ?_ rfl (by rfl) ?_ ?_; rotate_left; (focus (intro wq hSw; obtain ⟨z0, z1, z2, z3, z4⟩ := HZ.out wq hSw; clear hSw; first | (go_simp; done) | (go_simp; with_reducible rfl))); simp only [zP])
      refine tkZ ?_
      refine zR 1 rfl (fun K hK => ?_)
      go_simp
      refine Calls.mono (HCk.out _ hHeld) ?_
      rintro e V1 ⟨rfl, hb1⟩
      dsimp only
      refine hK.out _ _ (by exact hHeld.trans (hb1.mono hHeld.size)) (fun hHeld => ?_)
      clear hK K
      (try simp only [zP])
      refine tkO [(2, 38), (3, 39), (4, 40), (5, 41), (6, 42)] ?_
      repeat (refine tkY ?_ rfl (by rfl) ?_ ?_; rotate_left; (focus (intro wq hSw; obtain ⟨z0, z1, z2, z3, z4⟩ := HZ.out wq hSw; clear hSw; first | (go_simp; done) | (go_simp; with_reducible rfl))); simp only [zP])
      refine tkZ ?_
      refine tkO [(7, 43), (8, 44), (9, 45), (10, 46), (11, 47), (12, 48), (13, 49), (14, 50), (15, 51), (16, 52)] ?_
      repeat (refine tkY ?_ rfl (by rfl) ?_ ?_; rotate_left; (focus (intro wq hSw; obtain ⟨z0, z1, z2, z3, z4⟩ := HZ.out wq hSw; have z5 := HP.out wq hSw; clear hSw; first | (go_simp; done) | (go_simp; with_reducible rfl))); simp only [zP])
      refine tkZ ?_
      refine tkO [(17, 53), (18, 54), (19, 55), (20, 56), (21, 57), (22, 58), (23, 59), (24, 60), (25, 61), (26, 62), (27, 63), (28, 64)] ?_
      repeat ((first | (refine tkY ?_ rfl (by rfl) ?_ ?_; rotate_left; (focus (intro wq hSw; obtain ⟨z0, z1, z2, z3, z4⟩ := HZ.out wq hSw; clear hSw; first | (go_simp; done) | (go_simp; with_reducible rfl)))) | refine tkN rfl (by rfl) ?_); simp only [zP])
      refine tkZ ?_
      have HV1 : Hid (Below V.heap.size V _) := hHeld
      refine wpAnyH_done (by kernel_rfl) ?_ _
      clear hHeld hb1
      go_wp2_with fail
      go_meet
      case rel => exact ⟨true, rfl, HV1, (fun _ => HR.out), (fun e => by cases e)⟩
   case rest =>
   obtain ⟨bv, rfl, HVc, HT, HF⟩ := hcut
   rcases bv with _ | _
   ·
    go_wp2
    go_loopw [5] (fun iv wx => ∃ k : Nat, iv = .int .i64 (k : Int) ∧ k ≤ cl ∧ Hid (∀ u, u < k → zbw nm ims (c.getD u in0) = true) ∧ Hid (Below V.heap.size V wx)) (fun iv _ => cl - (intOf iv).toNat)
    case atStart => exact ⟨0, rfl, Nat.zero_le _, fun u hu => by omega, HVc⟩
    case round =>
     obtain ⟨k, rfl, hk, HQ, HBk⟩ := hrel
     rename World => U
     obtain ⟨z0, z1, z2, z3, z4⟩ := HZ.out U HBk.out
     by_cases hkl : (k : Int) < (cl : Int)
     ·
      obtain ⟨cb, co, rfl, hcbl, x0, _, _, _, x4⟩ := (HCi.out U HBk.out).2 k (by omega)
      have hsk := HSh2.out k
      obtain ⟨i, hi⟩ : ∃ i, c.getD k in0 = i := ⟨_, rfl⟩
      rw [hi] at x0 x4 hsk
      obtain ⟨kd, r, aa, bb, s⟩ := i
      simp only at x0 x4 hsk
      by_cases h9 : kd = 9
      ·
       subst h9
       have HSs : Hid (_) := zii s U hsk
       obtain ⟨y, hy⟩ : ∃ y, cutA 46 s = y := ⟨_, rfl⟩
       have HCb : Hid (zbw nm ims (c.getD k in0) = (decide (y = nm) || decide (y ∈ ims))) := by
        exact (by rw [hi]; unfold zbw; simp [hy] : zbw nm ims (c.getD k in0) = (decide (y = nm) || decide (y ∈ ims)))
       rw [hy] at HSs
       have HKl : Hid (k < c.length) := by exact (by have := HCl.out; omega : k < c.length)
       clear hi hy hsk
       go_wp2_with fail
       refine Calls.mono HSs.out ?_
       rintro e U2 ⟨g2, cp2, m2, rfl, hx2, hb2⟩
       have HB3 : Hid (Below V.heap.size V U2) := HBk.out.trans (hb2.mono HBk.out.size)
       obtain ⟨q0, q1, q2, q3, q4⟩ := HZ.out U2 HB3.out
       have q5 := (HTx.out U2 HB3.out).1
       have hm2 : (0 : Int) < ((m2 + 1 : Nat) : Int) := by omega
       clear hb2
       by_cases hyn : y = nm
       ·
        have HQ2 : Hid (∀ u, u < k + 1 → zbw nm ims (c.getD u in0) = true) := fun u hu => by
         by_cases e : u = k
         ·
          rw [e, HCb.out, decide_eq_true hyn]; rfl
         ·
          exact HQ.out u (by omega)
        have heb : (y != nm) = false := by rw [hyn]; simp
        have heb2 : (y == nm) = true := by rw [hyn]; simp
        clear hyn
        go_wp2
        go_roundw
        case rel => exact ⟨k + 1, by go_num, by omega, HQ2, HB3⟩
        case measure => simp [intOf]; omega
       have heb : (y != nm) = true := bne_iff_ne.2 hyn
       have heb2 : (y == nm) = false := beq_eq_false_iff_ne.2 hyn
       have HHas : Hid (_) := specHas ia ims.length ic ims y U2 (HTx.out U2 HB3.out).2 (by omega)
       by_cases hm : y ∈ ims
       ·
        have HQ2 : Hid (∀ u, u < k + 1 → zbw nm ims (c.getD u in0) = true) := fun u hu => by
         by_cases e : u = k
         ·
          rw [e, HCb.out, decide_eq_true hm, Bool.or_true]
         ·
          exact HQ.out u (by omega)
        rw [decide_eq_true hm] at HHas
        clear hyn hm
        go_wp2_with fail
        refine Calls.mono HHas.out ?_
        rintro e U3 ⟨rfl, hu3⟩
        obtain rfl := hu3.symm
        go_wp2
        go_roundw
        case rel => exact ⟨k + 1, by go_num, by omega, HQ2, HB3⟩
        case measure => simp [intOf]; omega
       ·
        have HR : Hid (res = false) := HNj.out (fun e => by
         have h2 := e.2
         rw [HX0.out] at h2
         simp only at h2
         rw [zkV (j := k) HKl.out (by rw [HCb.out, decide_eq_false hyn, decide_eq_false hm]; rfl)] at h2
         cases h2)
        rw [decide_eq_false hm] at HHas
        clear hyn hm
        go_wp2_with fail
        refine Calls.mono HHas.out ?_
        rintro e U3 ⟨rfl, hu3⟩
        obtain rfl := hu3.symm
        go_wp2
        go_ret
        exact ⟨by rw [HR.out]; rfl, by first | exact HFV.out _ HB3.out | exact hD ▸ HFV.out _ HB3.out⟩
      ·
       have HQ2 : Hid (∀ u, u < k + 1 → zbw nm ims (c.getD u in0) = true) := fun u hu => by
        by_cases e : u = k
        ·
         rw [e, hi]; unfold zbw; simp [h9]
        ·
         exact HQ.out u (by omega)
       have hne : (kd != 9) = true := by rw [bne_iff_ne]; exact h9
       clear hi
       go_wp2
       go_roundw
       case rel => exact ⟨k + 1, by go_num, by omega, HQ2, HBk⟩
       case measure => simp [intOf]; omega
     ·
      have HO2 : Hid (∀ u, u < j + 1 → zdM nm ims rs u) := fun u hu => by
       by_cases e : u = j
       ·
        subst e
        refine ⟨⟨by rw [HX0.out]; exact HRb.out, fun h => by rw [HX0.out]; exact (HF.out (by trivial)).1 h, by rw [HX0.out]; exact (HF.out (by trivial)).2⟩, ?_⟩
        rw [HX0.out]
        exact zix (fun q hq => HQ.out q (by have := HCl.out; have hq2 : q < c.length := hq; omega))
       ·
        exact HO.out u (by omega)
      have HBo : Hid (Below W.heap.size W U) := HBV.out.trans (HBk.out.mono HBV.out.size)
      go_wp2
      go_roundw
      case rel => exact ⟨j + 1, by go_num, by omega, HO2, HBo⟩
      case measure => simp [intOf]; omega
   ·
    have HR : Hid (res = false) := HT.out rfl
    go_wp2
    go_ret
    exact ⟨by rw [HR.out]; rfl, by first | exact HFV.out _ HVc.out | exact hD ▸ HFV.out _ HVc.out⟩
  ·
   have HR : Hid (res = true) := HY2.out (fun u hu => HO.out u (by omega))
   have HF := HFB.out _ HBr.out
   go_wp2
   go_ret
   exact ⟨by rw [HR.out]; rfl, by first | exact HF | exact hD ▸ HF⟩
section
variable {P : Program} {ops : Array Oper} {Q : Exit → Act → World → Prop} {md : Region.Mode} {S : World → Prop} {E : List Nat}
theorem Till.two {i j : Nat} {oi oj : Oper} {k : Nat} {listed : Array Bool} {a : Act} {w : World} (hr : Region.ready md ops listed = [i, j]) (hoi : ops[i]? = some oi) (hoj : ops[j]? = some oj) (hsh : zaJ md ops listed)
 (hi : ∀ K' : Act → World → Prop, Shut (∀ b v, S v → (S v → zaJ md ops (listed.setIfInBounds i true) → Till P md ops Q E S k (listed.setIfInBounds i true) b v) → K' b v) → if Region.wanted oi (yielded ops a.tmps) = true then Oper.wp P oi a w K' Q else K' (a.put oi.dst undef) w)
 (hj : ∀ K' : Act → World → Prop, Shut (∀ b v, S v → (S v → zaJ md ops (listed.setIfInBounds j true) → Till P md ops Q E S k (listed.setIfInBounds j true) b v) → K' b v) → if Region.wanted oj (yielded ops a.tmps) = true then Oper.wp P oj a w K' Q else K' (a.put oj.dst undef) w) : Till P md ops Q E S (k + 1) listed a w := by
 have hiM : i ∈ Region.ready md ops listed := by rw [hr]; simp
 have hjM : j ∈ Region.ready md ops listed := by rw [hr]; simp
 refine ⟨fun h0 => (by rw [h0] at hiM; cases hiM), fun m hm => ?_⟩
 rw [hr] at hm
 rcases List.mem_cons.1 hm with e | hm
 ·
  subst e
  exact wpOp_step hoi (fun K' hK => hi K' (fun b v hS hW => hK b v ⟨fun _ => hS, hW hS (hsh.set hiM)⟩))
 ·
  obtain rfl := List.mem_singleton.1 hm
  exact wpOp_step hoj (fun K' hK => hj K' (fun b v hS hW => hK b v ⟨fun _ => hS, hW hS (hsh.set hjM)⟩))
end
section
variable {op : Oper} {a : Act} {w : World} {Q : Exit → Act → World → Prop} {K : Act → World → Prop}
theorem sizeRt14 : (Tryz.prog.info? 51).map (·.size) = some 3 := by kernel_rfl
structure R3 (X : World) (b : Nat) (u0 u1 u2 : Value) : Prop where
 c0 : X.cell? ⟨b, 0, none⟩ = some u0
 c1 : X.cell? ⟨b, 1, none⟩ = some u1
 c2 : X.cell? ⟨b, 2, none⟩ = some u2
 f : ∀ j, X.frozen? ⟨b, j, none⟩ = false
 l : b < X.heap.size
theorem R3.below {X Y : World} {b : Nat} {u0 u1 u2 : Value} (h : R3 X b u0 u1 u2) (hb : Below X.heap.size X Y) : R3 Y b u0 u1 u2 :=
 ⟨(hb.cell (p := ⟨b, 0, none⟩) h.l).trans h.c0, (hb.cell (p := ⟨b, 1, none⟩) h.l).trans h.c1, (hb.cell (p := ⟨b, 2, none⟩) h.l).trans h.c2, fun j => (hb.frozen (p := ⟨b, j, none⟩) h.l).trans (h.f j), Nat.lt_of_lt_of_le h.l hb.size⟩
theorem zcD (ho : op.op = .alloc 51) (d : Nat) (hd : op.dst = some d) (h : ∀ Y g, R3 Y g (.string ⟨#[]⟩) (.int .i64 0) (.slice none 0 0) → Below w.heap.size w Y → w.heap.size ≤ g → K (a.put (some d) (.pointer (some ⟨g, 0, none⟩))) Y) : op.wp Tryz.prog a w K Q := by
 unfold Oper.wp execOp
 simp only [ho, Instr.alloc, Sem.run_bind, Tryz.zeroValue51, Result.andThen_ok, newVar, newRow, run_newObj_alloc, Sem.run_pure, Value.cells]
 have hA := heap_alloc_new w (.cells #[.string ⟨#[]⟩, .int .i64 0, .slice none 0 0] 51)
 have h2 := h _ _ ⟨by rw [cell_of_row _ _ _ _ _ _ hA]; rfl, by rw [cell_of_row _ _ _ _ _ _ hA]; rfl, by rw [cell_of_row _ _ _ _ _ _ hA]; rfl, fun j => frozen_of_row _ _ _ _ _ hA, lt_of_block hA⟩ ((Below.refl _ _).alloc (Nat.le_refl _) _) (Nat.le_refl _)
 rw [← hd] at h2
 exact h2
theorem zcB (x y : Operand) (ho : op.op = .store 51 x y) (b : Nat) (n : List UInt8) (A : Int) (ca : Option Addr) (cl cc : Nat) {u0 u1 u2 : Value} (hx : a.eval x = .pointer (some ⟨b, 0, none⟩)) (hy : a.eval y = .agg #[.string ⟨n.toArray⟩, .int .i64 A, .slice ca cl cc]) (ht : R3 w b u0 u1 u2)
 (h : ∀ Y, R3 Y b (.string ⟨n.toArray⟩) (.int .i64 A) (.slice ca cl cc) → w.grownBy Y (some b) → K (a.put op.dst undef) Y) : op.wp Tryz.prog a w K Q := by
 have hth : w.there b 0 3 := fun j hj => by
  refine ⟨?_, ht.f _⟩
  match j, hj with
  | 0, _ => rw [ht.c0]; rfl
  | 1, _ => rw [ht.c1]; rfl
  | 2, _ => rw [ht.c2]; rfl
 refine wp_store_mid _ x y ho b 0 #[.string ⟨n.toArray⟩, .int .i64 A, .slice ca cl cc] hx hy hth sizeRt14 (all_oneCell_toArray (by intro v hv; simp only [List.mem_cons, List.not_mem_nil, or_false] at hv; rcases hv with rfl | rfl | rfl <;> rfl)) ?_
 obtain ⟨Y, hY, y0, y1, y2, hg⟩ := set3R (.string ⟨n.toArray⟩) (.int .i64 A) (.slice ca cl cc) ht.c0 ht.c1 ht.c2
 refine h _ ?_ ?_
 ·
  show R3 (((w.setCell ⟨b, 0, none⟩ _).setCell ⟨b, 1, none⟩ _).setCell ⟨b, 2, none⟩ _) b _ _ _
  rw [hY]
  exact ⟨y0, y1, y2, fun j => by rw [← hY]; simpa using ht.f j, by have := hg.size; have := ht.l; omega⟩
 ·
  show w.grownBy (((w.setCell ⟨b, 0, none⟩ _).setCell ⟨b, 1, none⟩ _).setCell ⟨b, 2, none⟩ _) (some b)
  rw [hY]
  exact hg
end
theorem zcO {Bs : Nat} (X : World) (y : RV) (hB : Bs ≤ X.heap.size) (hy : X.ownsRow Bs 88 5 (rvT y) y.1.2.2.length (insV y.1.2.2)) : za6 (X.alloc (.cells #[.string ⟨y.1.1.toArray⟩, .int .i64 y.1.2.1, rvT y] 51)) Bs (.slice (some ⟨X.heap.size, 0, none⟩) [y].length 1) [y] :=
 ⟨World.ownsRow_lit X #[.string ⟨y.1.1.toArray⟩, .int .i64 y.1.2.1, rvT y] 1 hB (by decide) rfl, fun x hx => by
  rw [List.mem_singleton] at hx
  subst hx
  exact za2 hy ((Below.refl _ _).alloc (Nat.le_refl _) _)⟩
end Go.Proofs.YtkpdoedpkncboaaGreat
