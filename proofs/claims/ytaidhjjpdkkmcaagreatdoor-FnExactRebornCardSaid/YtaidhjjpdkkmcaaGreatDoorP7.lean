/-
  Parts of one proof, one behind the other: PackS3, HasS, ProjS, ProjS2.
-/
import Derived.Test.YtaidhjjpdkkmcaaGreatDoorP6
import Derived.Test.YtaidhjjpdkkmcaaGreatDoorP4
import Derived.Deep.RegionHeld3
import Derived.Deep.Cut

/-! The contract of chapter 7's specification: PackageOk. -/
namespace Go.Proofs.YtaidhjjpdkkmcaaGreatDoor
open Go.RowKit

/-- A package in a block of its own, as a walk holds it. -/
structure PkIn (W : World) (D : Nat) (nm : List UInt8) (ia : Option Addr) (il ic : Nat) (fa : Option Addr) (fl fc : Nat) (ims : List (List UInt8)) (fs : List Fn) : Prop where
 k0 : W.cell? ⟨D, 0, none⟩ = some (.string ⟨nm.toArray⟩)
 k1 : W.cell? ⟨D, 1, none⟩ = some (.slice ia il ic)
 k2 : W.cell? ⟨D, 2, none⟩ = some (.slice fa fl fc)
 i : TextsIn W ia il ims
 f : FuncsIn W fa fl fs

theorem PkIn.below {W W' : World} {D : Nat} {nm : List UInt8} {ia : Option Addr} {il ic : Nat} {fa : Option Addr} {fl fc : Nat} {ims : List (List UInt8)} {fs : List Fn} (h : PkIn W D nm ia il ic fa fl fc ims fs) (hb : Below W.heap.size W W') : PkIn W' D nm ia il ic fa fl fc ims fs :=
 have hl : D < W.heap.size := World.block_lt_of_cell? W ⟨D, 0, none⟩ h.k0
 ⟨(hb.cell (p := ⟨D, 0, none⟩) hl).trans h.k0, (hb.cell (p := ⟨D, 1, none⟩) hl).trans h.k1, (hb.cell (p := ⟨D, 2, none⟩) hl).trans h.k2, h.i.below hb, h.f.below hb⟩

theorem PkIn.drew {W : World} {D : Nat} {nm : List UInt8} {ia : Option Addr} {il ic : Nat} {fa : Option Addr} {fl fc : Nat} {ims : List (List UInt8)} {fs : List Fn} (h : PkIn W D nm ia il ic fa fl fc ims fs) : PkIn W.drew D nm ia il ic fa fl fc ims fs := ⟨h.k0, h.k1, h.k2, h.i, h.f⟩

theorem PkIn.new {w : World} {nm : List UInt8} {ia : Option Addr} {il ic : Nat} {fa : Option Addr} {fl fc : Nat} {ims : List (List UInt8)} {fs : List Fn} (hi : TextsIn w ia il ims) (hf : FuncsIn w fa fl fs) :
 PkIn (w.alloc (.cells #[.string ⟨nm.toArray⟩, .slice ia il ic, .slice fa fl fc] 51)) w.heap.size nm ia il ic fa fl fc ims fs ∧ Below w.heap.size w (w.alloc (.cells #[.string ⟨nm.toArray⟩, .slice ia il ic, .slice fa fl fc] 51)) := by
 have hb : Below w.heap.size w (w.alloc (.cells #[.string ⟨nm.toArray⟩, .slice ia il ic, .slice fa fl fc] 51)) := (Below.refl _ _).alloc (Nat.le_refl _) _
 have hA := heap_alloc_new w (.cells #[.string ⟨nm.toArray⟩, .slice ia il ic, .slice fa fl fc] 51)
 generalize w.alloc (.cells #[.string ⟨nm.toArray⟩, .slice ia il ic, .slice fa fl fc] 51) = W at hb hA ⊢
 exact ⟨⟨by simp [World.cell?, hA], by simp [World.cell?, hA], by simp [World.cell?, hA], hi.below hb, hf.below hb⟩, hb⟩

theorem pkgB_head (p : Pk) (h : (nameB p.1 && (importsB p.2.1 && inB (p.2.2.length : Int) 1 8)) = false) : pkgB p = false := by unfold pkgB; rw [h]; rfl
theorem pkgB_no (p : Pk) {j : Nat} (hj : j < p.2.2.length) (h : ¬ funcsOk p.2.2 j) : pkgB p = false := by unfold pkgB; rw [decide_eq_false (fun g => h (g j hj)), Bool.and_false]
theorem pkgB_yes (p : Pk) (h : (nameB p.1 && (importsB p.2.1 && inB (p.2.2.length : Int) 1 8)) = true) (k : ∀ i, i < p.2.2.length → funcsOk p.2.2 i) : pkgB p = true := by unfold pkgB; rw [h, decide_eq_true k]; rfl

set_option maxHeartbeats 4000000 in
set_option maxRecDepth 100000 in
theorem specPackageOk (nm : List UInt8) (ia : Option Addr) (il ic : Nat) (fa : Option Addr) (fl fc : Nat) (ims : List (List UInt8)) (fs : List Fn) (w : World) (hi : TextsIn w ia il ims) (hf : FuncsIn w fa fl fs) (hil : il ≤ 1048576) (hfl : fl ≤ 1048576) (hnl : nm.length ≤ 1048576) (his : ∀ i, (ims.getD i []).length ≤ 1048576) (hfs : ShortF fs) :
 Calls Tryz.prog 127 #[.agg #[.string ⟨nm.toArray⟩, .slice ia il ic, .slice fa fl fc]] w fun e w' => e = .returned (.bool (pkgB (nm, ims, fs))) ∧ Below w.heap.size w w' := by
 obtain rfl : fs.length = fl := hf.1
 obtain ⟨W, hW⟩ : ∃ W, w.alloc (.cells #[.string ⟨nm.toArray⟩, .slice ia il ic, .slice fa fs.length fc] 51) = W := ⟨_, rfl⟩
 obtain ⟨st, hB⟩ := PkIn.new (w := w) (nm := nm) (ic := ic) (fc := fc) hi hf
 rw [hW] at st hB
 have HIS : Hid (∀ i, (ims.getD i []).length ≤ 1048576) := his
 have HFS : Hid (ShortF fs) := hfs
 obtain ⟨D, hD⟩ : ∃ D, w.heap.size = D := ⟨_, rfl⟩
 rw [hD] at st
 have k0 := st.k0
 have k1 := st.k1
 have k2 := st.k2
 have hC1 : Hid (_) := specNameOk nm W hnl
 have hC2 : Hid (_) := specImports ia il ic ims W st.i hil his
 have hC3 : Hid (_) := fun V : World => specIn (fs.length : Int) 1 8 V
 have HH0 : Hid ((nameB nm && (importsB ims && inB (fs.length : Int) 1 8)) = false → pkgB (nm, ims, fs) = false) := pkgB_head (nm, ims, fs)
 have HH1 : Hid ((nameB nm && (importsB ims && inB (fs.length : Int) 1 8)) = true → (∀ i, i < fs.length → funcsOk fs i) → pkgB (nm, ims, fs) = true) := pkgB_yes (nm, ims, fs)
 generalize nameB nm = nb at hC1 HH0 HH1
 generalize importsB ims = ib at hC2 HH0 HH1
 generalize inB (fs.length : Int) 1 8 = lb at hC3 HH0 HH1
 clear hi hf his hfs
 go_enter Tryz.func127, Tryz.ntmps127
 rcases nb with _ | _
 ·
  go_wp2_with (go_at_call 45; refine Calls.mono hC1.out ?_; rintro e w1 ⟨rfl, rfl⟩)
  go_ret
  exact ⟨by rw [HH0.out rfl]; rfl, (by first | exact hB | (rw [← hD]; exact hB))⟩
 ·
  rcases ib with _ | _
  ·
   go_wp2_with (first | (go_at_call 45; refine Calls.mono hC1.out ?_; rintro e w1 ⟨rfl, rfl⟩) | (go_at_call 156; refine Calls.mono hC2.out ?_; rintro e w1 ⟨rfl, hb1⟩))
   go_ret
   exact ⟨by rw [HH0.out rfl]; rfl, hB.trans (hb1.mono hB.size)⟩
  ·
   go_wp2_with fail
   refine Calls.mono hC1.out ?_
   rintro e w1 ⟨rfl, rfl⟩
   go_wp2_with fail
   refine Calls.mono hC2.out ?_
   rintro e w1 ⟨rfl, hb1⟩
   replace st := st.below hb1
   replace hB := hB.trans (hb1.mono hB.size)
   replace k0 := st.k0
   replace k1 := st.k1
   replace k2 := st.k2
   clear hb1 hC1 hC2
   rcases lb with _ | _
   ·
    go_wp2_with (go_at_call 43; refine Calls.mono (hC3.out _) ?_; rintro e w1 ⟨rfl, rfl⟩)
    go_ret
    exact ⟨by rw [HH0.out rfl]; rfl, (by first | exact hB | (rw [← hD]; exact hB))⟩
   ·
    go_wp2_with (go_at_call 43; refine Calls.mono (hC3.out _) ?_; rintro e w1 ⟨rfl, rfl⟩)
    have ST : Hid (PkIn w1 D nm ia il ic fa fs.length fc ims fs) := st
    have HB : Hid (Below w.heap.size w w1) := hB
    clear st hB k0 k1 k2
    go_loopw [3] (fun iv wr => ∃ j : Nat, iv = .int .i64 (j : Int) ∧ j ≤ fs.length ∧ Hid (∀ i, i < j → funcsOk fs i) ∧ Hid (PkIn wr D nm ia il ic fa fs.length fc ims fs) ∧ Hid (Below w.heap.size w wr)) (fun iv _ => fs.length - (intOf iv).toNat)
    case atStart => exact ⟨0, rfl, by omega, (fun i hi => by omega), ST, HB⟩
    case round =>
     obtain ⟨j, rfl, hj, HA, ST2, HB2⟩ := hrel
     clear ST HB
     have st := ST2.out
     have hB := HB2.out
     clear ST2 HB2
     have k0 := st.k0
     have k1 := st.k1
     have k2 := st.k2
     by_cases hlt : (j : Int) < (fs.length : Int)
     ·
      obtain ⟨b, off, rfl, hbl, c0, c1, ta, tl, tc, c2, _, hin⟩ := st.f.2 j (by omega)
      have hsh := HFS.out j
      obtain ⟨f, hfj⟩ : ∃ f, fs.getD j fn0 = f := ⟨_, rfl⟩
      have HOK : Hid (funcsOk fs j ↔ (funcB f = true ∧ atV fs f.1 = (j : Int))) := by exact (by unfold funcsOk; rw [hfj] : funcsOk fs j ↔ (funcB f = true ∧ atV fs f.1 = (j : Int)))
      rw [hfj] at c0 c1 hin hsh
      clear hfj
      obtain ⟨s, n, t⟩ := f
      simp only at c0 c1 hin hsh
      have HSH : Hid (s.length ≤ 1048576 ∧ t.length ≤ 1048576 ∧ ShortT t) := hsh
      have htl : tl ≤ 1048576 := by rw [← hin.1]; exact hsh.2.1
      clear hsh
      obtain ⟨fb, hfb⟩ : ∃ fb, funcB (s, n, t) = fb := ⟨_, rfl⟩
      obtain ⟨av, hav⟩ : ∃ av, atV fs s = av := ⟨_, rfl⟩
      have HFB : Hid (funcB (s, n, t) = fb) := hfb
      have HAT : Hid (atV fs s = av) := hav
      clear hfb hav
      replace st := st.drew
      replace hB : Below w.heap.size w wr.drew := hB.drew
      replace hin : NodesIn wr.drew ta tl t := hin
      replace hbl : b < wr.drew.heap.size := hbl
      rcases fb with _ | _
      ·
       have HR : Hid (pkgB (nm, ims, fs) = false) := pkgB_no (nm, ims, fs) (j := j) (by show j < fs.length; omega) (fun h => by have := (HOK.out.1 h).1; rw [HFB.out] at this; cases this)
       go_wp2_with fail
       refine wp_region_held_drew (S := (fun w' => w'.cell? ⟨D, 0, none⟩ = some (.string ⟨nm.toArray⟩) ∧ w'.cell? ⟨D, 1, none⟩ = some (.slice ia il ic) ∧ w'.cell? ⟨D, 2, none⟩ = some (.slice (some ⟨b, off, none⟩) fs.length fc) ∧ w'.cell? ⟨b, off + j * 3, none⟩ = some (.string ⟨s.toArray⟩) ∧ w'.cell? ⟨b, off + j * 3 + 1, none⟩ = some (.int .i64 n) ∧ w'.cell? ⟨b, off + j * 3 + 2, none⟩ = some (.slice ta tl tc))) (by kernel_rfl) ?_ (fun hHeld => ?_)
       ·
        first | (dsimp only; done) | (dsimp only; go_keep) | go_keep
       refine tkO [(0, 28), (1, 29), (2, 30), (3, 31), (4, 32)] ?_
       repeat (refine tkY ?_ rfl (by rfl) ?_ ?_; rotate_left; (focus (intro wq hSw; (try dsimp only at hSw); first | (go_simp; done) | (go_simp; with_reducible rfl))); simp only [zP])
       refine tkZ ?_
       refine zR 5 rfl (fun K hK => ?_)
       go_simp
       (go_at_call 157; refine (specFuncOk (s, n, t) ta tl tc _ hin HSH.out.2.2 (by omega) HSH.out.1).mono ?_; rintro e wn ⟨rfl, hbn⟩; replace st := st.below hbn; replace hB := hB.trans (hbn.mono hB.size); replace k0 := st.k0; replace k1 := st.k1; replace k2 := st.k2; replace c0 := (hbn.cell (p := ⟨b, off + j * 3, none⟩) hbl).trans c0; replace c1 := (hbn.cell (p := ⟨b, off + j * 3 + 1, none⟩) hbl).trans c1; replace c2 := (hbn.cell (p := ⟨b, off + j * 3 + 2, none⟩) hbl).trans c2; replace hin := hin.below hbn; replace hbl := Nat.lt_of_lt_of_le hbl hbn.size; clear hbn; rw [HFB.out])
       refine hK.out _ _ ?_ (fun hHeld => ?_)
       ·
        first | (dsimp only; done) | (dsimp only; go_keep) | go_keep
       clear hK K
       refine tkO [(6, 34), (7, 35), (8, 36), (9, 37), (10, 38), (11, 39), (12, 40), (13, 41), (14, 42), (15, 43), (16, 44), (17, 45), (18, 46)] ?_
       repeat ((first | (refine tkY ?_ rfl (by rfl) ?_ ?_; rotate_left; (focus (intro wq hSw; (try dsimp only at hSw); first | (go_simp; done) | (go_simp; with_reducible rfl)))) | refine tkN rfl (by rfl) ?_); simp only [zP])
       refine tkZ ?_
       refine wpAnyH_done (by kernel_rfl) ?_ _
       go_wp2
       go_ret
       exact ⟨by rw [HR.out]; rfl, (by first | exact hB | (rw [← hD]; exact hB))⟩
      ·
       by_cases hje : av = (j : Int)
       ·
        subst hje
        have HA2 : Hid (∀ i, i < j + 1 → funcsOk fs i) := fun i hi => by
         rcases Nat.lt_or_ge i j with h | h
         ·
          exact HA.out i h
         ·
          obtain rfl : i = j := by omega
          exact HOK.out.2 ⟨HFB.out, HAT.out⟩
        go_wp2_with fail
        go_region_held3 (fun w' => w'.cell? ⟨D, 0, none⟩ = some (.string ⟨nm.toArray⟩) ∧ w'.cell? ⟨D, 1, none⟩ = some (.slice ia il ic) ∧ w'.cell? ⟨D, 2, none⟩ = some (.slice (some ⟨b, off, none⟩) fs.length fc) ∧ w'.cell? ⟨b, off + j * 3, none⟩ = some (.string ⟨s.toArray⟩) ∧ w'.cell? ⟨b, off + j * 3 + 1, none⟩ = some (.int .i64 n) ∧ w'.cell? ⟨b, off + j * 3 + 2, none⟩ = some (.slice ta tl tc)) (go_keep) (first | (go_at_call 157; refine (specFuncOk (s, n, t) ta tl tc _ hin HSH.out.2.2 (by omega) HSH.out.1).mono ?_; rintro e wn ⟨rfl, hbn⟩; replace st := st.below hbn; replace hB := hB.trans (hbn.mono hB.size); replace k0 := st.k0; replace k1 := st.k1; replace k2 := st.k2; replace c0 := (hbn.cell (p := ⟨b, off + j * 3, none⟩) hbl).trans c0; replace c1 := (hbn.cell (p := ⟨b, off + j * 3 + 1, none⟩) hbl).trans c1; replace c2 := (hbn.cell (p := ⟨b, off + j * 3 + 2, none⟩) hbl).trans c2; replace hin := hin.below hbn; replace hbl := Nat.lt_of_lt_of_le hbl hbn.size; clear hbn; rw [HFB.out]) | (go_at_call 130; refine (specAt nm s ia il ic (some ⟨b, off, none⟩) fs.length fc fs _ st.f (by omega)).mono ?_; rintro e wn ⟨rfl, hbn⟩; replace st := st.below hbn; replace hB := hB.trans (hbn.mono hB.size); replace k0 := st.k0; replace k1 := st.k1; replace k2 := st.k2; replace c0 := (hbn.cell (p := ⟨b, off + j * 3, none⟩) hbl).trans c0; replace c1 := (hbn.cell (p := ⟨b, off + j * 3 + 1, none⟩) hbl).trans c1; replace c2 := (hbn.cell (p := ⟨b, off + j * 3 + 2, none⟩) hbl).trans c2; replace hin := hin.below hbn; replace hbl := Nat.lt_of_lt_of_le hbl hbn.size; clear hbn; rw [HAT.out]))
        all_goals go_wp2
        all_goals go_roundw
        case rel => exact ⟨j + 1, by go_num, by omega, HA2, st, hB⟩
        case measure => simp [intOf]; omega
       ·
        have HR : Hid (pkgB (nm, ims, fs) = false) := pkgB_no (nm, ims, fs) (j := j) (by show j < fs.length; omega) (fun h => hje (by have := (HOK.out.1 h).2; rw [← this]; exact HAT.out.symm))
        have hjb : (av != (j : Int)) = true := by rw [bne_iff_ne]; exact hje
        have hjc : (av == (j : Int)) = false := by rw [beq_eq_false_iff_ne]; exact hje
        go_wp2_with fail
        go_region_held3 (fun w' => w'.cell? ⟨D, 0, none⟩ = some (.string ⟨nm.toArray⟩) ∧ w'.cell? ⟨D, 1, none⟩ = some (.slice ia il ic) ∧ w'.cell? ⟨D, 2, none⟩ = some (.slice (some ⟨b, off, none⟩) fs.length fc) ∧ w'.cell? ⟨b, off + j * 3, none⟩ = some (.string ⟨s.toArray⟩) ∧ w'.cell? ⟨b, off + j * 3 + 1, none⟩ = some (.int .i64 n) ∧ w'.cell? ⟨b, off + j * 3 + 2, none⟩ = some (.slice ta tl tc)) (go_keep) (first | (go_at_call 157; refine (specFuncOk (s, n, t) ta tl tc _ hin HSH.out.2.2 (by omega) HSH.out.1).mono ?_; rintro e wn ⟨rfl, hbn⟩; replace st := st.below hbn; replace hB := hB.trans (hbn.mono hB.size); replace k0 := st.k0; replace k1 := st.k1; replace k2 := st.k2; replace c0 := (hbn.cell (p := ⟨b, off + j * 3, none⟩) hbl).trans c0; replace c1 := (hbn.cell (p := ⟨b, off + j * 3 + 1, none⟩) hbl).trans c1; replace c2 := (hbn.cell (p := ⟨b, off + j * 3 + 2, none⟩) hbl).trans c2; replace hin := hin.below hbn; replace hbl := Nat.lt_of_lt_of_le hbl hbn.size; clear hbn; rw [HFB.out]) | (go_at_call 130; refine (specAt nm s ia il ic (some ⟨b, off, none⟩) fs.length fc fs _ st.f (by omega)).mono ?_; rintro e wn ⟨rfl, hbn⟩; replace st := st.below hbn; replace hB := hB.trans (hbn.mono hB.size); replace k0 := st.k0; replace k1 := st.k1; replace k2 := st.k2; replace c0 := (hbn.cell (p := ⟨b, off + j * 3, none⟩) hbl).trans c0; replace c1 := (hbn.cell (p := ⟨b, off + j * 3 + 1, none⟩) hbl).trans c1; replace c2 := (hbn.cell (p := ⟨b, off + j * 3 + 2, none⟩) hbl).trans c2; replace hin := hin.below hbn; replace hbl := Nat.lt_of_lt_of_le hbl hbn.size; clear hbn; rw [HAT.out]))
        all_goals go_wp2
        all_goals go_ret
        all_goals exact ⟨by rw [HR.out]; rfl, (by first | exact hB | (rw [← hD]; exact hB))⟩
     ·
      have HR : Hid (pkgB (nm, ims, fs) = true) := HH1.out rfl (fun i hi => HA.out i (by omega))
      go_wp2
      go_ret
      exact ⟨by rw [HR.out]; rfl, (by first | exact hB | (rw [← hD]; exact hB))⟩

end Go.Proofs.YtaidhjjpdkkmcaaGreatDoor

/-! The contract of the specification's l1Has. -/
namespace Go.Proofs.YtaidhjjpdkkmcaaGreatDoor
open Go.RowKit

theorem mem_take_step {ts : List (List UInt8)} {s : List UInt8} {k : Nat} (h : ∀ i, i < k → ts.getD i [] ≠ s) (hk : ts.length ≤ k) : ¬ s ∈ ts := fun hm => by
 obtain ⟨i, hi, rfl⟩ := List.mem_iff_getElem.1 hm
 exact h i (by omega) (by simp [List.getD, hi])
theorem getD_mem8 {ts : List (List UInt8)} {k : Nat} (hk : k < ts.length) : ts.getD k [] ∈ ts := by
 rw [List.getD_eq_getElem?_getD, List.getElem?_eq_getElem hk]; exact List.getElem_mem hk

set_option maxHeartbeats 1000000 in
set_option maxRecDepth 100000 in
theorem specHas (a : Option Addr) (len cap : Nat) (ts : List (List UInt8)) (s : List UInt8) (w : World) (hin : TextsIn w a len ts) (hlen : len ≤ 4194304) :
 Calls Tryz.prog 75 #[.slice a len cap, .string ⟨s.toArray⟩] w fun e w' => e = .returned (.bool (decide (s ∈ ts))) ∧ w' = w := by
 obtain rfl : ts.length = len := hin.1
 have HI : Hid (TextsIn w a ts.length ts) := hin
 clear hin
 go_enter Tryz.func75, Tryz.ntmps75
 go_wp2
 go_loopw [5] (fun iv wr => ∃ k : Nat, iv = .int .i64 (k : Int) ∧ k ≤ ts.length ∧ Hid (∀ i, i < k → ts.getD i [] ≠ s) ∧ wr = w) (fun iv _ => ts.length - (intOf iv).toNat)
 case atStart => exact ⟨0, rfl, by omega, (fun i hi => by omega), rfl⟩
 case round =>
  obtain ⟨k, rfl, hk, HA, rfl⟩ := hrel
  by_cases hlt : (k : Int) < (ts.length : Int)
  ·
   have hk2 : k < ts.length := by omega
   obtain ⟨b, off, rfl, hbl, c0⟩ := HI.out.2 k hk2
   have hmem := getD_mem8 hk2
   obtain ⟨x, hx⟩ : ∃ x, ts.getD k [] = x := ⟨_, rfl⟩
   rw [hx] at c0 hmem
   by_cases hxs : x = s
   ·
    subst hxs
    have HR : Hid (decide (x ∈ ts) = true) := decide_eq_true hmem
    have hself : (x == x) = true := by simp
    clear HA hx hmem
    go_wp2
    go_ret
    exact ⟨by rw [HR.out]; rfl, rfl⟩
   ·
    have HA2 : Hid (∀ i, i < k + 1 → ts.getD i [] ≠ s) := fun i hi => by
     rcases Nat.lt_or_ge i k with h | h
     ·
      exact HA.out i h
     ·
      obtain rfl : i = k := by omega
      rw [hx]; exact hxs
    have hne : (x == s) = false := by rw [beq_eq_false_iff_ne]; exact hxs
    clear HA hx hmem
    go_wp2
    go_roundw
    case rel => exact ⟨k + 1, by go_num, by omega, HA2, trivial⟩
    case measure => simp [intOf]; omega
  ·
   have HR : Hid (decide (s ∈ ts) = false) := decide_eq_false (mem_take_step HA.out (by omega))
   go_wp2
   go_ret
   exact ⟨by rw [HR.out]; rfl, rfl⟩

end Go.Proofs.YtaidhjjpdkkmcaaGreatDoor

/-! The contracts of chapter 8's specification: l1Has, l8At. -/
namespace Go.Proofs.YtaidhjjpdkkmcaaGreatDoor
open Go.RowKit

/-- The packages ps lie at a, three cells each, their lists where those say. -/
def PkgsIn (w : World) (a : Option Addr) (len : Nat) (ps : List Pk) : Prop :=
 ps.length = len ∧ ∀ j, j < len → ∃ b off, a = some ⟨b, off, none⟩ ∧ b < w.heap.size ∧ w.cell? ⟨b, off + j * 3, none⟩ = some (.string ⟨(ps.getD j pk0).1.toArray⟩) ∧
  ∃ ia il ic fa fl fc, w.cell? ⟨b, off + j * 3 + 1, none⟩ = some (.slice ia il ic) ∧ w.cell? ⟨b, off + j * 3 + 2, none⟩ = some (.slice fa fl fc) ∧ TextsIn w ia il (ps.getD j pk0).2.1 ∧ FuncsIn w fa fl (ps.getD j pk0).2.2
theorem PkgsIn.below {w w' : World} {a : Option Addr} {len : Nat} {ps : List Pk} (h : PkgsIn w a len ps) (hb : Below w.heap.size w w') : PkgsIn w' a len ps := by
 refine ⟨h.1, fun j hj => ?_⟩
 obtain ⟨b, off, e, hlt, c0, ia, il, ic, fa, fl, fc, c1, c2, hi, hf⟩ := h.2 j hj
 exact ⟨b, off, e, Nat.lt_of_lt_of_le hlt hb.size, (hb.cell (p := ⟨b, off + j * 3, none⟩) hlt).trans c0, ia, il, ic, fa, fl, fc, (hb.cell (p := ⟨b, off + j * 3 + 1, none⟩) hlt).trans c1, (hb.cell (p := ⟨b, off + j * 3 + 2, none⟩) hlt).trans c2, hi.below hb, hf.below hb⟩

/-- How long the parts of a project may be. -/
def ShortPs (ps : List Pk) : Prop := ∀ j, (ps.getD j pk0).1.length ≤ 1048576 ∧ (ps.getD j pk0).2.1.length ≤ 1048576 ∧ (∀ i, ((ps.getD j pk0).2.1.getD i []).length ≤ 1048576) ∧ (ps.getD j pk0).2.2.length ≤ 1048576 ∧ ShortF (ps.getD j pk0).2.2

set_option maxHeartbeats 1000000 in
set_option maxRecDepth 100000 in
theorem specAt8 (a : Option Addr) (len cap : Nat) (ps : List Pk) (s : List UInt8) (w : World) (hin : PkgsIn w a len ps) (hlen : len ≤ 1048576) :
 Calls Tryz.prog 74 #[.slice a len cap, .string ⟨s.toArray⟩] w fun e w' => e = .returned (.int .i64 (at8 ps s)) ∧ w' = w := by
 obtain rfl : ps.length = len := hin.1
 have HI : Hid (PkgsIn w a ps.length ps) := hin
 clear hin
 go_enter Tryz.func74, Tryz.ntmps74
 go_wp2
 go_loopw [5] (fun iv wr => ∃ j : Nat, iv = .int .i64 (j : Int) ∧ j ≤ ps.length ∧ Hid (at8 ps s = at8Go s (ps.drop j) j) ∧ wr = w) (fun iv _ => ps.length - (intOf iv).toNat)
 case atStart => exact ⟨0, rfl, by omega, (rfl : at8 ps s = at8Go s (ps.drop 0) 0), rfl⟩
 case round =>
  obtain ⟨j, rfl, hj, HA, rfl⟩ := hrel
  by_cases hlt : (j : Int) < (ps.length : Int)
  ·
   obtain ⟨b, off, rfl, hbl, c0, _⟩ := HI.out.2 j (by omega)
   have hg := at8Go_drop (ps := ps) (k := j) (by omega) s
   obtain ⟨x, hx⟩ : ∃ x, (ps.getD j pk0).1 = x := ⟨_, rfl⟩
   rw [hx] at c0 hg
   by_cases hxs : x = s
   ·
    subst hxs
    have HR : Hid (at8 ps x = (j : Int)) := by exact (by rw [HA.out, hg, if_pos rfl] : at8 ps x = (j : Int))
    have hself : (x == x) = true := by simp
    clear HA hg hx
    go_wp2
    go_ret
    exact ⟨by rw [HR.out]; rfl, rfl⟩
   ·
    have HR : Hid (at8 ps s = at8Go s (ps.drop (j + 1)) (j + 1)) := by exact (by rw [HA.out, hg, if_neg hxs] : at8 ps s = at8Go s (ps.drop (j + 1)) (j + 1))
    have hne : (x == s) = false := by rw [beq_eq_false_iff_ne]; exact hxs
    clear HA hg hx
    go_wp2
    go_roundw
    case rel => exact ⟨j + 1, by go_num, by omega, HR, trivial⟩
    case measure => simp [intOf]; omega
  ·
   have HR : Hid (at8 ps s = -1) := by exact (by rw [HA.out, List.drop_of_length_le (by omega)]; rfl : at8 ps s = -1)
   go_wp2
   go_ret
   exact ⟨by rw [HR.out]; rfl, rfl⟩

end Go.Proofs.YtaidhjjpdkkmcaaGreatDoor

/-! The contracts of chapter 8's specification: ProjectOk, l8Order. -/
namespace Go.Proofs.YtaidhjjpdkkmcaaGreatDoor
open Go.RowKit

set_option maxHeartbeats 4000000 in
set_option maxRecDepth 100000 in
theorem specProjectOk (a : Option Addr) (len cap : Nat) (ps : List Pk) (w : World) (hin : PkgsIn w a len ps) (hlen : len ≤ 1048576) (hsh : ShortPs ps) :
 Calls Tryz.prog 101 #[.slice a len cap] w fun e w' => e = .returned (.bool (projB ps)) ∧ Below w.heap.size w w' := by
 obtain rfl : ps.length = len := hin.1
 have HI : Hid (PkgsIn w a ps.length ps) := hin
 have HS : Hid (ShortPs ps) := hsh
 clear hin hsh
 go_enter Tryz.func101, Tryz.ntmps101
 go_wp2
 go_loopw [3] (fun iv wr => ∃ j : Nat, iv = .int .i64 (j : Int) ∧ j ≤ ps.length ∧ Hid (∀ i, i < j → pj8 ps i) ∧ Hid (PkgsIn wr a ps.length ps) ∧ Hid (Below w.heap.size w wr)) (fun iv _ => ps.length - (intOf iv).toNat)
 case atStart => exact ⟨0, rfl, by omega, (fun i hi => by omega), HI, Below.refl _ _⟩
 case round =>
  obtain ⟨j, rfl, hj, HA, HP, HB⟩ := hrel
  clear HI
  by_cases hlt : (j : Int) < (ps.length : Int)
  ·
   have hj2 : j < ps.length := by omega
   have hin := HP.out
   have hB := HB.out
   clear HP HB
   obtain ⟨b, off, rfl, hbl, c0, ia, il, ic, fa, fl, fc, c1, c2, hi, hf⟩ := hin.2 j hj2
   have hsj := HS.out j
   have hpj : pj8 ps j ↔ (pkgB (ps.getD j pk0) = true ∧ (0 < j → leT (ps.getD j pk0).1 (ps.getD (j - 1) pk0).1 = false)) := Iff.rfl
   obtain ⟨p, hp⟩ : ∃ p, ps.getD j pk0 = p := ⟨_, rfl⟩
   rw [hp] at c0 hi hf hsj hpj
   clear hp
   obtain ⟨x, ims, fs⟩ := p
   simp only at c0 hi hf hsj hpj
   obtain ⟨hx, hil, him, hfl, hfs⟩ := hsj
   rw [hi.1] at hil
   rw [hf.1] at hfl
   have HSH : Hid (x.length ≤ 1048576 ∧ (∀ i, (ims.getD i []).length ≤ 1048576) ∧ ShortF fs) := ⟨hx, him, hfs⟩
   have HPJ : Hid (pj8 ps j ↔ (pkgB (x, ims, fs) = true ∧ (0 < j → leT x (ps.getD (j - 1) pk0).1 = false))) := hpj
   obtain ⟨pb, hpb⟩ : ∃ pb, pkgB (x, ims, fs) = pb := ⟨_, rfl⟩
   have HPB : Hid (pkgB (x, ims, fs) = pb) := hpb
   clear hx him hfs hpj hpb
   replace hB : Below w.heap.size w wr.drew := hB.drew
   replace hin : PkgsIn wr.drew (some ⟨b, off, none⟩) ps.length ps := hin
   replace hi : TextsIn wr.drew ia il ims := hi
   replace hf : FuncsIn wr.drew fa fl fs := hf
   replace hbl : b < wr.drew.heap.size := hbl
   rcases pb with _ | _
   ·
    have HR : Hid (projB ps = false) := projB_no hj2 (fun h => by have := (HPJ.out.1 h).1; rw [HPB.out] at this; cases this)
    go_wp2_with fail
    refine wp_region_held_drew (S := (fun w' => w'.cell? ⟨b, off + j * 3, none⟩ = some (.string ⟨x.toArray⟩) ∧ w'.cell? ⟨b, off + j * 3 + 1, none⟩ = some (.slice ia il ic) ∧ w'.cell? ⟨b, off + j * 3 + 2, none⟩ = some (.slice fa fl fc))) (by kernel_rfl) ?_ (fun hHeld => ?_)
    ·
     first | (dsimp only; done) | (dsimp only; go_keep) | go_keep
    refine tkO [(0, 10), (1, 11), (2, 12), (3, 13)] ?_
    repeat (refine tkY ?_ rfl (by rfl) ?_ ?_; rotate_left; (focus (intro wq hSw; (try dsimp only at hSw); first | (go_simp; done) | (go_simp; with_reducible rfl))); simp only [zP])
    refine tkZ ?_
    refine zR 4 rfl (fun K hK => ?_)
    go_simp
    (go_at_call 127; refine (specPackageOk x ia il ic fa fl fc ims fs _ hi hf (by omega) (by omega) HSH.out.1 HSH.out.2.1 HSH.out.2.2).mono ?_; rintro e wn ⟨rfl, hbn⟩; rw [HPB.out]; replace hB := hB.trans (hbn.mono hB.size); replace hin := hin.below hbn; replace c0 := (hbn.cell (p := ⟨b, off + j * 3, none⟩) hbl).trans c0; replace c1 := (hbn.cell (p := ⟨b, off + j * 3 + 1, none⟩) hbl).trans c1; replace c2 := (hbn.cell (p := ⟨b, off + j * 3 + 2, none⟩) hbl).trans c2; replace hi := hi.below hbn; replace hf := hf.below hbn; replace hbl := Nat.lt_of_lt_of_le hbl hbn.size; clear hbn)
    refine hK.out _ _ ?_ (fun hHeld => ?_)
    ·
     first | (dsimp only; done) | (dsimp only; go_keep) | go_keep
    clear hK K
    refine tkO [(5, 15), (6, 16), (7, 17), (8, 18), (9, 19), (10, 20), (11, 21), (12, 22), (13, 23), (14, 24), (15, 25), (16, 26), (17, 27), (18, 28), (19, 29), (20, 30), (21, 31), (22, 32), (23, 33)] ?_
    repeat ((first | (refine tkY ?_ rfl (by rfl) ?_ ?_; rotate_left; (focus (intro wq hSw; (try dsimp only at hSw); first | (go_simp; done) | (go_simp; with_reducible rfl)))) | refine tkN rfl (by rfl) ?_); simp only [zP])
    refine tkZ ?_
    refine wpAnyH_done (by kernel_rfl) ?_ _
    go_wp2
    go_ret
    exact ⟨by rw [HR.out]; rfl, hB⟩
   ·
    rcases j with _ | j
    ·
     have HA2 : Hid (∀ i, i < 0 + 1 → pj8 ps i) := fun i hi => by
      obtain rfl : i = 0 := by omega
      exact HPJ.out.2 ⟨HPB.out, fun h => by omega⟩
     simp only [Nat.zero_mul, Nat.add_zero] at c0 c1 c2
     have hl0 : (0 : Int) < (ps.length : Int) := hlt
     rw [show ((0 : Nat) : Int) = 0 from rfl]
     clear hlt
     go_wp2_with fail
     refine wp_region_held_drew (S := (fun w' => w'.cell? ⟨b, off, none⟩ = some (.string ⟨x.toArray⟩) ∧ w'.cell? ⟨b, off + 1, none⟩ = some (.slice ia il ic) ∧ w'.cell? ⟨b, off + 2, none⟩ = some (.slice fa fl fc))) (by kernel_rfl) ?_ (fun hHeld => ?_)
     ·
      first | (dsimp only; done) | (dsimp only; go_keep) | go_keep
     refine tkO [(0, 10), (1, 11), (2, 12), (3, 13)] ?_
     repeat (refine tkY ?_ rfl (by rfl) ?_ ?_; rotate_left; (focus (intro wq hSw; (try dsimp only at hSw); first | (go_simp; done) | (go_simp; with_reducible rfl))); simp only [zP])
     refine tkZ ?_
     refine zR 4 rfl (fun K hK => ?_)
     go_simp
     (go_at_call 127; refine (specPackageOk x ia il ic fa fl fc ims fs _ hi hf (by omega) (by omega) HSH.out.1 HSH.out.2.1 HSH.out.2.2).mono ?_; rintro e wn ⟨rfl, hbn⟩; rw [HPB.out]; replace hB := hB.trans (hbn.mono hB.size); replace hin := hin.below hbn; replace c0 := (hbn.cell (p := ⟨b, off, none⟩) hbl).trans c0; replace c1 := (hbn.cell (p := ⟨b, off + 1, none⟩) hbl).trans c1; replace c2 := (hbn.cell (p := ⟨b, off + 2, none⟩) hbl).trans c2; replace hi := hi.below hbn; replace hf := hf.below hbn; replace hbl := Nat.lt_of_lt_of_le hbl hbn.size; clear hbn)
     refine hK.out _ _ ?_ (fun hHeld => ?_)
     ·
      first | (dsimp only; done) | (dsimp only; go_keep) | go_keep
     clear hK K
     refine tkO [(5, 15), (6, 16), (7, 17), (8, 18), (9, 19), (10, 20), (11, 21), (12, 22), (13, 23), (14, 24), (15, 25), (16, 26), (17, 27), (18, 28), (19, 29), (20, 30), (21, 31), (22, 32), (23, 33)] ?_
     repeat ((first | (refine tkY ?_ rfl (by rfl) ?_ ?_; rotate_left; (focus (intro wq hSw; (try dsimp only at hSw); first | (go_simp; done) | (go_simp; with_reducible rfl)))) | refine tkN rfl (by rfl) ?_); simp only [zP])
     refine tkZ ?_
     refine wpAnyH_done (by kernel_rfl) ?_ _
     have HP2 : Hid (PkgsIn wn (some ⟨b, off, none⟩) ps.length ps) := hin
     have HB2 : Hid (Below w.heap.size w wn) := hB
     go_wp2
     go_roundw
     case rel => exact ⟨0 + 1, by go_num, by omega, HA2, HP2, HB2⟩
     case measure => simp [intOf]; omega
    ·
     obtain ⟨b', off', he, _, d0, _⟩ := hin.2 j (by omega)
     rw [show ((j + 1 : Nat) : Int) = (j : Int) + 1 by omega]
     have hl1 : (j : Int) + 1 < (ps.length : Int) := by omega
     have hl2 : (j : Int) < (ps.length : Int) := by omega
     have hl3 : (0 : Int) ≤ (j : Int) + 1 := by omega
     have hl4 : (0 : Int) < (j : Int) + 1 := by omega
     have hl5 : IntKind.i64.wrap ((j : Int) + 1 - 1) = (j : Int) := by rw [show (j : Int) + 1 - 1 = (j : Int) by omega]; rw [IntKind.wrap_i64]; omega
     have hl6 : IntKind.i64.wrap (j : Int) = (j : Int) := by rw [IntKind.wrap_i64]; omega
     clear hlt
     simp only [Option.some.injEq, Addr.mk.injEq, and_true] at he
     obtain ⟨rfl, rfl⟩ := he
     obtain ⟨y, hy⟩ : ∃ y, (ps.getD j pk0).1 = y := ⟨_, rfl⟩
     have hpj := HPJ.out
     rw [show j + 1 - 1 = j by omega, hy] at hpj
     rw [hy] at d0
     replace HPJ : Hid (pj8 ps (j + 1) ↔ (pkgB (x, ims, fs) = true ∧ (0 < j + 1 → leT x y = false))) := hpj
     have d0' : wr.cell? ⟨b, off + j * 3, none⟩ = some (.string ⟨y.toArray⟩) := d0
     rcases hle : leT x y with _ | _
     ·
      have HA2 : Hid (∀ i, i < j + 1 + 1 → pj8 ps i) := fun i hi => by
       rcases Nat.lt_or_ge i (j + 1) with h | h
       ·
        exact HA.out i h
       ·
        obtain rfl : i = j + 1 := by omega
        exact HPJ.out.2 ⟨HPB.out, fun _ => hle⟩
      unfold leT at hle
      clear hy hpj
      go_wp2_with fail
      go_region_held3 (fun w' => w'.cell? ⟨b, off + (j + 1) * 3, none⟩ = some (.string ⟨x.toArray⟩) ∧ w'.cell? ⟨b, off + (j + 1) * 3 + 1, none⟩ = some (.slice ia il ic) ∧ w'.cell? ⟨b, off + (j + 1) * 3 + 2, none⟩ = some (.slice fa fl fc) ∧ w'.cell? ⟨b, off + j * 3, none⟩ = some (.string ⟨y.toArray⟩)) (go_keep) (first | (go_at_call 127; refine (specPackageOk x ia il ic fa fl fc ims fs _ hi hf (by omega) (by omega) HSH.out.1 HSH.out.2.1 HSH.out.2.2).mono ?_; rintro e wn ⟨rfl, hbn⟩; rw [HPB.out]; replace hB := hB.trans (hbn.mono hB.size); replace hin := hin.below hbn; replace c0 := (hbn.cell (p := ⟨b, off + (j + 1) * 3, none⟩) hbl).trans c0; replace c1 := (hbn.cell (p := ⟨b, off + (j + 1) * 3 + 1, none⟩) hbl).trans c1; replace c2 := (hbn.cell (p := ⟨b, off + (j + 1) * 3 + 2, none⟩) hbl).trans c2; replace d0 := (hbn.cell (p := ⟨b, off + j * 3, none⟩) hbl).trans d0; replace hi := hi.below hbn; replace hf := hf.below hbn; replace hbl := Nat.lt_of_lt_of_le hbl hbn.size; clear hbn))
      all_goals
       have HP2 : Hid (PkgsIn wn (some ⟨b, off, none⟩) ps.length ps) := hin
       have HB2 : Hid (Below w.heap.size w wn) := hB
       go_wp2
       go_roundw
       case rel => exact ⟨j + 1 + 1, by go_num, by omega, HA2, HP2, HB2⟩
       case measure => simp [intOf]; omega
     ·
      have HR : Hid (projB ps = false) := projB_no hj2 (fun h => by have := (HPJ.out.1 h).2 (by omega); rw [hle] at this; cases this)
      unfold leT at hle
      clear hy hpj
      go_wp2_with fail
      go_region_held3 (fun w' => w'.cell? ⟨b, off + (j + 1) * 3, none⟩ = some (.string ⟨x.toArray⟩) ∧ w'.cell? ⟨b, off + (j + 1) * 3 + 1, none⟩ = some (.slice ia il ic) ∧ w'.cell? ⟨b, off + (j + 1) * 3 + 2, none⟩ = some (.slice fa fl fc) ∧ w'.cell? ⟨b, off + j * 3, none⟩ = some (.string ⟨y.toArray⟩)) (go_keep) (first | (go_at_call 127; refine (specPackageOk x ia il ic fa fl fc ims fs _ hi hf (by omega) (by omega) HSH.out.1 HSH.out.2.1 HSH.out.2.2).mono ?_; rintro e wn ⟨rfl, hbn⟩; rw [HPB.out]; replace hB := hB.trans (hbn.mono hB.size); replace hin := hin.below hbn; replace c0 := (hbn.cell (p := ⟨b, off + (j + 1) * 3, none⟩) hbl).trans c0; replace c1 := (hbn.cell (p := ⟨b, off + (j + 1) * 3 + 1, none⟩) hbl).trans c1; replace c2 := (hbn.cell (p := ⟨b, off + (j + 1) * 3 + 2, none⟩) hbl).trans c2; replace d0 := (hbn.cell (p := ⟨b, off + j * 3, none⟩) hbl).trans d0; replace hi := hi.below hbn; replace hf := hf.below hbn; replace hbl := Nat.lt_of_lt_of_le hbl hbn.size; clear hbn))
      all_goals
       go_wp2
       go_ret
       exact ⟨by rw [HR.out]; rfl, hB⟩
  ·
   have HR : Hid (projB ps = inB (ps.length : Int) 1 8) := projB_all (fun i hi => HA.out i (by omega))
   have hC : Hid (_) := specIn (ps.length : Int) 1 8 wr
   generalize inB (ps.length : Int) 1 8 = ib at hC HR
   go_wp2_with (go_at_call 43; refine Calls.mono hC.out ?_; rintro e w1 ⟨rfl, rfl⟩)
   go_ret
   exact ⟨by rw [HR.out]; rfl, HB.out⟩

end Go.Proofs.YtaidhjjpdkkmcaaGreatDoor
