/-
  Parts of one proof, one behind the other: PackS3, HasS, ProjS.
-/
import Derived.Test.YtdoghjpjepolbaaGreatDoorP5
import Derived.Test.YtdoghjpjepolbaaGreatDoorP2
import Derived.Test.YtdoghjpjepolbaaGreatDoorP3
import Derived.Deep.RegionHeld3
import Derived.Deep.Cut

/-! The contract of chapter 7's specification: PackageOk. -/
namespace Go.Proofs.YtdoghjpjepolbaaGreatDoor
open Go.RowKit

/-- A package in a block of its own, as a walk holds it. -/
structure PkIn (W : World) (D : Nat) (nm : List UInt8) (ia : Option Addr) (il ic : Nat) (fa : Option Addr) (fl fc : Nat) (ims : List (List UInt8)) (fs : List Fn) : Prop where
 k0 : W.cell? ⟨D, 0, none⟩ = some (.string ⟨nm.toArray⟩)
 k1 : W.cell? ⟨D, 1, none⟩ = some (.slice ia il ic)
 k2 : W.cell? ⟨D, 2, none⟩ = some (.slice fa fl fc)
 i : TextsIn W ia il ims
 f : FuncsIn W fa fl fs

theorem PkIn.below {W W' : World} {D : Nat} {nm : List UInt8} {ia : Option Addr} {il ic : Nat} {fa : Option Addr} {fl fc : Nat} {ims : List (List UInt8)} {fs : List Fn} (h : PkIn W D nm ia il ic fa fl fc ims fs) (hb : Below W.heap.size W W') : PkIn W' D nm ia il ic fa fl fc ims fs :=
 have hl : D < W.heap.size := World.block_lt_of_cell? W ⟨D, 0, none⟩ h.k0
 ⟨(hb.cell (p := ⟨D, 0, none⟩) hl).trans h.k0, (hb.cell (p := ⟨D, 1, none⟩) hl).trans h.k1, (hb.cell (p := ⟨D, 2, none⟩) hl).trans h.k2, h.i.below hb, h.f.below hb⟩

theorem PkIn.drew {W : World} {D : Nat} {nm : List UInt8} {ia : Option Addr} {il ic : Nat} {fa : Option Addr} {fl fc : Nat} {ims : List (List UInt8)} {fs : List Fn} (h : PkIn W D nm ia il ic fa fl fc ims fs) : PkIn W.drew D nm ia il ic fa fl fc ims fs := ⟨h.k0, h.k1, h.k2, h.i, h.f⟩

theorem PkIn.new {w : World} {nm : List UInt8} {ia : Option Addr} {il ic : Nat} {fa : Option Addr} {fl fc : Nat} {ims : List (List UInt8)} {fs : List Fn} (hi : TextsIn w ia il ims) (hf : FuncsIn w fa fl fs) :
 PkIn (w.alloc (.cells #[.string ⟨nm.toArray⟩, .slice ia il ic, .slice fa fl fc] 48)) w.heap.size nm ia il ic fa fl fc ims fs ∧ Below w.heap.size w (w.alloc (.cells #[.string ⟨nm.toArray⟩, .slice ia il ic, .slice fa fl fc] 48)) := by
 have hb : Below w.heap.size w (w.alloc (.cells #[.string ⟨nm.toArray⟩, .slice ia il ic, .slice fa fl fc] 48)) := (Below.refl _ _).alloc (Nat.le_refl _) _
 have hA := heap_alloc_new w (.cells #[.string ⟨nm.toArray⟩, .slice ia il ic, .slice fa fl fc] 48)
 generalize w.alloc (.cells #[.string ⟨nm.toArray⟩, .slice ia il ic, .slice fa fl fc] 48) = W at hb hA ⊢
 exact ⟨⟨by simp [World.cell?, hA], by simp [World.cell?, hA], by simp [World.cell?, hA], hi.below hb, hf.below hb⟩, hb⟩

theorem pkgB_head (p : Pk) (h : (nameB p.1 && (importsB p.2.1 && inB (p.2.2.length : Int) 1 8)) = false) : pkgB p = false := by unfold pkgB; rw [h]; rfl
theorem pkgB_no (p : Pk) {j : Nat} (hj : j < p.2.2.length) (h : ¬ funcsOk p.2.2 j) : pkgB p = false := by unfold pkgB; rw [decide_eq_false (fun g => h (g j hj)), Bool.and_false]
theorem pkgB_yes (p : Pk) (h : (nameB p.1 && (importsB p.2.1 && inB (p.2.2.length : Int) 1 8)) = true) (k : ∀ i, i < p.2.2.length → funcsOk p.2.2 i) : pkgB p = true := by unfold pkgB; rw [h, decide_eq_true k]; rfl

set_option maxHeartbeats 4000000 in
set_option maxRecDepth 100000 in
theorem specPackageOk (nm : List UInt8) (ia : Option Addr) (il ic : Nat) (fa : Option Addr) (fl fc : Nat) (ims : List (List UInt8)) (fs : List Fn) (w : World) (hi : TextsIn w ia il ims) (hf : FuncsIn w fa fl fs) (hil : il ≤ 1048576) (hfl : fl ≤ 1048576) (hnl : nm.length ≤ 1048576) (his : ∀ i, (ims.getD i []).length ≤ 1048576) (hfs : ShortF fs) :
 Calls Tryz.prog 106 #[.agg #[.string ⟨nm.toArray⟩, .slice ia il ic, .slice fa fl fc]] w fun e w' => e = .returned (.bool (pkgB (nm, ims, fs))) ∧ Below w.heap.size w w' := by
 obtain rfl : fs.length = fl := hf.1
 obtain ⟨W, hW⟩ : ∃ W, w.alloc (.cells #[.string ⟨nm.toArray⟩, .slice ia il ic, .slice fa fs.length fc] 48) = W := ⟨_, rfl⟩
 obtain ⟨st, hB⟩ := PkIn.new (w := w) (nm := nm) (ic := ic) (fc := fc) hi hf
 rw [hW] at st hB
 have HIS : Hid (∀ i, (ims.getD i []).length ≤ 1048576) := his
 have HFS : Hid (ShortF fs) := hfs
 obtain ⟨D, hD⟩ : ∃ D, w.heap.size = D := ⟨_, rfl⟩
 rw [hD] at st
 have k0 := st.k0
 have k1 := st.k1
 have k2 := st.k2
 have hC1 : Hid (_) := specNameOk nm W hnl
 have hC2 : Hid (_) := specImports ia il ic ims W st.i hil his
 have hC3 : Hid (_) := fun V : World => specIn (fs.length : Int) 1 8 V
 have HH0 : Hid ((nameB nm && (importsB ims && inB (fs.length : Int) 1 8)) = false → pkgB (nm, ims, fs) = false) := pkgB_head (nm, ims, fs)
 have HH1 : Hid ((nameB nm && (importsB ims && inB (fs.length : Int) 1 8)) = true → (∀ i, i < fs.length → funcsOk fs i) → pkgB (nm, ims, fs) = true) := pkgB_yes (nm, ims, fs)
 generalize nameB nm = nb at hC1 HH0 HH1
 generalize importsB ims = ib at hC2 HH0 HH1
 generalize inB (fs.length : Int) 1 8 = lb at hC3 HH0 HH1
 clear hi hf his hfs
 go_enter Tryz.func106, Tryz.ntmps106
 rcases nb with _ | _
 ·
  go_wp2_with (go_at_call 59; refine Calls.mono hC1.out ?_; rintro e w1 ⟨rfl, rfl⟩)
  go_ret
  exact ⟨by rw [HH0.out rfl]; rfl, (by first | exact hB | (rw [← hD]; exact hB))⟩
 ·
  rcases ib with _ | _
  ·
   go_wp2_with (first | (go_at_call 59; refine Calls.mono hC1.out ?_; rintro e w1 ⟨rfl, rfl⟩) | (go_at_call 134; refine Calls.mono hC2.out ?_; rintro e w1 ⟨rfl, hb1⟩))
   go_ret
   exact ⟨by rw [HH0.out rfl]; rfl, hB.trans (hb1.mono hB.size)⟩
  ·
   go_wp2_with fail
   refine Calls.mono hC1.out ?_
   rintro e w1 ⟨rfl, rfl⟩
   go_wp2_with fail
   refine Calls.mono hC2.out ?_
   rintro e w1 ⟨rfl, hb1⟩
   replace st := st.below hb1
   replace hB := hB.trans (hb1.mono hB.size)
   replace k0 := st.k0
   replace k1 := st.k1
   replace k2 := st.k2
   clear hb1 hC1 hC2
   rcases lb with _ | _
   ·
    go_wp2_with (go_at_call 57; refine Calls.mono (hC3.out _) ?_; rintro e w1 ⟨rfl, rfl⟩)
    go_ret
    exact ⟨by rw [HH0.out rfl]; rfl, (by first | exact hB | (rw [← hD]; exact hB))⟩
   ·
    go_wp2_with (go_at_call 57; refine Calls.mono (hC3.out _) ?_; rintro e w1 ⟨rfl, rfl⟩)
    have ST : Hid (PkIn w1 D nm ia il ic fa fs.length fc ims fs) := st
    have HB : Hid (Below w.heap.size w w1) := hB
    clear st hB k0 k1 k2
    go_loopw [3] (fun iv wr => ∃ j : Nat, iv = .int .i64 (j : Int) ∧ j ≤ fs.length ∧ Hid (∀ i, i < j → funcsOk fs i) ∧ Hid (PkIn wr D nm ia il ic fa fs.length fc ims fs) ∧ Hid (Below w.heap.size w wr)) (fun iv _ => fs.length - (intOf iv).toNat)
    case atStart => exact ⟨0, rfl, by omega, (fun i hi => by omega), ST, HB⟩
    case round =>
     obtain ⟨j, rfl, hj, HA, ST2, HB2⟩ := hrel
     clear ST HB
     have st := ST2.out
     have hB := HB2.out
     clear ST2 HB2
     have k0 := st.k0
     have k1 := st.k1
     have k2 := st.k2
     by_cases hlt : (j : Int) < (fs.length : Int)
     ·
      obtain ⟨b, off, rfl, hbl, c0, c1, ta, tl, tc, c2, _, hin⟩ := st.f.2 j (by omega)
      have hsh := HFS.out j
      obtain ⟨f, hfj⟩ : ∃ f, fs.getD j fn0 = f := ⟨_, rfl⟩
      have HOK : Hid (funcsOk fs j ↔ (funcB f = true ∧ atV fs f.1 = (j : Int))) := by exact (by unfold funcsOk; rw [hfj] : funcsOk fs j ↔ (funcB f = true ∧ atV fs f.1 = (j : Int)))
      rw [hfj] at c0 c1 hin hsh
      clear hfj
      obtain ⟨s, n, t⟩ := f
      simp only at c0 c1 hin hsh
      have HSH : Hid (s.length ≤ 1048576 ∧ t.length ≤ 1048576 ∧ ShortT t) := hsh
      have htl : tl ≤ 1048576 := by rw [← hin.1]; exact hsh.2.1
      clear hsh
      obtain ⟨fb, hfb⟩ : ∃ fb, funcB (s, n, t) = fb := ⟨_, rfl⟩
      obtain ⟨av, hav⟩ : ∃ av, atV fs s = av := ⟨_, rfl⟩
      have HFB : Hid (funcB (s, n, t) = fb) := hfb
      have HAT : Hid (atV fs s = av) := hav
      clear hfb hav
      replace st := st.drew
      replace hB : Below w.heap.size w wr.drew := hB.drew
      replace hin : NodesIn wr.drew ta tl t := hin
      replace hbl : b < wr.drew.heap.size := hbl
      rcases fb with _ | _
      ·
       have HR : Hid (pkgB (nm, ims, fs) = false) := pkgB_no (nm, ims, fs) (j := j) (by show j < fs.length; omega) (fun h => by have := (HOK.out.1 h).1; rw [HFB.out] at this; cases this)
       go_wp2_with fail
       refine wp_region_held_drew (S := (fun w' => w'.cell? ⟨D, 0, none⟩ = some (.string ⟨nm.toArray⟩) ∧ w'.cell? ⟨D, 1, none⟩ = some (.slice ia il ic) ∧ w'.cell? ⟨D, 2, none⟩ = some (.slice (some ⟨b, off, none⟩) fs.length fc) ∧ w'.cell? ⟨b, off + j * 3, none⟩ = some (.string ⟨s.toArray⟩) ∧ w'.cell? ⟨b, off + j * 3 + 1, none⟩ = some (.int .i64 n) ∧ w'.cell? ⟨b, off + j * 3 + 2, none⟩ = some (.slice ta tl tc))) (by kernel_rfl) ?_ (fun hHeld => ?_)
       ·
        first | (dsimp only; done) | (dsimp only; go_keep) | go_keep
       refine wpAnyH_take (i := 0) (oi := ⟨some 28, _, _, _, _, _⟩) (v := ?v0) rfl (by kernel_rfl) (by kernel_rfl) (by kernel_rfl) (fun _ _ _ h => h) (Or.inl ⟨by rfl, ?hy0⟩) (by assumption) ?rest0
       case hy0 => (intro wq hSw; (try dsimp only at hSw); first | (go_simp; done) | (go_simp; with_reducible rfl))
       simp only [Act.put, List.setIfInBounds_toArray, List.set_cons_zero, List.set_cons_succ]
       refine wpAnyH_take (i := 1) (oi := ⟨some 29, _, _, _, _, _⟩) (v := ?v1) rfl (by kernel_rfl) (by kernel_rfl) (by kernel_rfl) (fun _ _ _ h => h) (Or.inl ⟨by rfl, ?hy1⟩) (by assumption) ?rest1
       case hy1 => (intro wq hSw; (try dsimp only at hSw); first | (go_simp; done) | (go_simp; with_reducible rfl))
       simp only [Act.put, List.setIfInBounds_toArray, List.set_cons_zero, List.set_cons_succ]
       refine wpAnyH_take (i := 2) (oi := ⟨some 30, _, _, _, _, _⟩) (v := ?v2) rfl (by kernel_rfl) (by kernel_rfl) (by kernel_rfl) (fun _ _ _ h => h) (Or.inl ⟨by rfl, ?hy2⟩) (by assumption) ?rest2
       case hy2 => (intro wq hSw; (try dsimp only at hSw); first | (go_simp; done) | (go_simp; with_reducible rfl))
       simp only [Act.put, List.setIfInBounds_toArray, List.set_cons_zero, List.set_cons_succ]
       refine wpAnyH_take (i := 3) (oi := ⟨some 31, _, _, _, _, _⟩) (v := ?v3) rfl (by kernel_rfl) (by kernel_rfl) (by kernel_rfl) (fun _ _ _ h => h) (Or.inl ⟨by rfl, ?hy3⟩) (by assumption) ?rest3
       case hy3 => (intro wq hSw; (try dsimp only at hSw); first | (go_simp; done) | (go_simp; with_reducible rfl))
       simp only [Act.put, List.setIfInBounds_toArray, List.set_cons_zero, List.set_cons_succ]
       refine wpAnyH_take (i := 4) (oi := ⟨some 32, _, _, _, _, _⟩) (v := ?v4) rfl (by kernel_rfl) (by kernel_rfl) (by kernel_rfl) (fun _ _ _ h => h) (Or.inl ⟨by rfl, ?hy4⟩) (by assumption) ?rest4
       case hy4 => (intro wq hSw; (try dsimp only at hSw); first | (go_simp; done) | (go_simp; with_reducible rfl))
       simp only [Act.put, List.setIfInBounds_toArray, List.set_cons_zero, List.set_cons_succ]
       refine wpAnyH_ready (rs := [5]) (by kernel_rfl) (by simp) ?_
       refine AllReadyH.cons rfl (fun K hK => ?_) AllReadyH.nil
       go_simp
       (go_at_call 135; refine (specFuncOk (s, n, t) ta tl tc _ hin HSH.out.2.2 (by omega) HSH.out.1).mono ?_; rintro e wn ⟨rfl, hbn⟩; replace st := st.below hbn; replace hB := hB.trans (hbn.mono hB.size); replace k0 := st.k0; replace k1 := st.k1; replace k2 := st.k2; replace c0 := (hbn.cell (p := ⟨b, off + j * 3, none⟩) hbl).trans c0; replace c1 := (hbn.cell (p := ⟨b, off + j * 3 + 1, none⟩) hbl).trans c1; replace c2 := (hbn.cell (p := ⟨b, off + j * 3 + 2, none⟩) hbl).trans c2; replace hin := hin.below hbn; replace hbl := Nat.lt_of_lt_of_le hbl hbn.size; clear hbn; rw [HFB.out])
       refine hK.out _ _ ?_ (fun hHeld => ?_)
       ·
        first | (dsimp only; done) | (dsimp only; go_keep) | go_keep
       clear hK K
       refine wpAnyH_take (i := 6) (oi := ⟨some 34, _, _, _, _, _⟩) (v := ?v6) rfl (by kernel_rfl) (by kernel_rfl) (by kernel_rfl) (fun _ _ _ h => h) (Or.inl ⟨by rfl, ?hy6⟩) (by assumption) ?rest6
       case hy6 => (intro wq hSw; (try dsimp only at hSw); first | (go_simp; done) | (go_simp; with_reducible rfl))
       simp only [Act.put, List.setIfInBounds_toArray, List.set_cons_zero, List.set_cons_succ]
       refine wpAnyH_take (i := 7) (oi := ⟨some 35, _, _, _, _, _⟩) (v := ?v7) rfl (by kernel_rfl) (by kernel_rfl) (by kernel_rfl) (fun _ _ _ h => h) (Or.inl ⟨by rfl, ?hy7⟩) (by assumption) ?rest7
       case hy7 => (intro wq hSw; (try dsimp only at hSw); first | (go_simp; done) | (go_simp; with_reducible rfl))
       simp only [Act.put, List.setIfInBounds_toArray, List.set_cons_zero, List.set_cons_succ]
       refine wpAnyH_take (i := 8) (oi := ⟨some 36, _, _, _, _, _⟩) (v := undef) rfl (by kernel_rfl) (by kernel_rfl) (by kernel_rfl) (fun _ _ _ h => h) (Or.inr ⟨by rfl, rfl⟩) (by assumption) ?_
       simp only [Act.put, List.setIfInBounds_toArray, List.set_cons_zero, List.set_cons_succ]
       refine wpAnyH_take (i := 9) (oi := ⟨some 37, _, _, _, _, _⟩) (v := undef) rfl (by kernel_rfl) (by kernel_rfl) (by kernel_rfl) (fun _ _ _ h => h) (Or.inr ⟨by rfl, rfl⟩) (by assumption) ?_
       simp only [Act.put, List.setIfInBounds_toArray, List.set_cons_zero, List.set_cons_succ]
       refine wpAnyH_take (i := 10) (oi := ⟨some 38, _, _, _, _, _⟩) (v := undef) rfl (by kernel_rfl) (by kernel_rfl) (by kernel_rfl) (fun _ _ _ h => h) (Or.inr ⟨by rfl, rfl⟩) (by assumption) ?_
       simp only [Act.put, List.setIfInBounds_toArray, List.set_cons_zero, List.set_cons_succ]
       refine wpAnyH_take (i := 11) (oi := ⟨some 39, _, _, _, _, _⟩) (v := undef) rfl (by kernel_rfl) (by kernel_rfl) (by kernel_rfl) (fun _ _ _ h => h) (Or.inr ⟨by rfl, rfl⟩) (by assumption) ?_
       simp only [Act.put, List.setIfInBounds_toArray, List.set_cons_zero, List.set_cons_succ]
       refine wpAnyH_take (i := 12) (oi := ⟨some 40, _, _, _, _, _⟩) (v := undef) rfl (by kernel_rfl) (by kernel_rfl) (by kernel_rfl) (fun _ _ _ h => h) (Or.inr ⟨by rfl, rfl⟩) (by assumption) ?_
       simp only [Act.put, List.setIfInBounds_toArray, List.set_cons_zero, List.set_cons_succ]
       refine wpAnyH_take (i := 13) (oi := ⟨some 41, _, _, _, _, _⟩) (v := undef) rfl (by kernel_rfl) (by kernel_rfl) (by kernel_rfl) (fun _ _ _ h => h) (Or.inr ⟨by rfl, rfl⟩) (by assumption) ?_
       simp only [Act.put, List.setIfInBounds_toArray, List.set_cons_zero, List.set_cons_succ]
       refine wpAnyH_take (i := 14) (oi := ⟨some 42, _, _, _, _, _⟩) (v := undef) rfl (by kernel_rfl) (by kernel_rfl) (by kernel_rfl) (fun _ _ _ h => h) (Or.inr ⟨by rfl, rfl⟩) (by assumption) ?_
       simp only [Act.put, List.setIfInBounds_toArray, List.set_cons_zero, List.set_cons_succ]
       refine wpAnyH_take (i := 15) (oi := ⟨some 43, _, _, _, _, _⟩) (v := undef) rfl (by kernel_rfl) (by kernel_rfl) (by kernel_rfl) (fun _ _ _ h => h) (Or.inr ⟨by rfl, rfl⟩) (by assumption) ?_
       simp only [Act.put, List.setIfInBounds_toArray, List.set_cons_zero, List.set_cons_succ]
       refine wpAnyH_take (i := 16) (oi := ⟨some 44, _, _, _, _, _⟩) (v := undef) rfl (by kernel_rfl) (by kernel_rfl) (by kernel_rfl) (fun _ _ _ h => h) (Or.inr ⟨by rfl, rfl⟩) (by assumption) ?_
       simp only [Act.put, List.setIfInBounds_toArray, List.set_cons_zero, List.set_cons_succ]
       refine wpAnyH_take (i := 17) (oi := ⟨some 45, _, _, _, _, _⟩) (v := undef) rfl (by kernel_rfl) (by kernel_rfl) (by kernel_rfl) (fun _ _ _ h => h) (Or.inr ⟨by rfl, rfl⟩) (by assumption) ?_
       simp only [Act.put, List.setIfInBounds_toArray, List.set_cons_zero, List.set_cons_succ]
       refine wpAnyH_take (i := 18) (oi := ⟨some 46, _, _, _, _, _⟩) (v := ?v18) rfl (by kernel_rfl) (by kernel_rfl) (by kernel_rfl) (fun _ _ _ h => h) (Or.inl ⟨by rfl, ?hy18⟩) (by assumption) ?rest18
       case hy18 => (intro wq hSw; (try dsimp only at hSw); first | (go_simp; done) | (go_simp; with_reducible rfl))
       simp only [Act.put, List.setIfInBounds_toArray, List.set_cons_zero, List.set_cons_succ]
       refine wpAnyH_done (by kernel_rfl) ?_ _
       go_wp2
       go_ret
       exact ⟨by rw [HR.out]; rfl, (by first | exact hB | (rw [← hD]; exact hB))⟩
      ·
       by_cases hje : av = (j : Int)
       ·
        subst hje
        have HA2 : Hid (∀ i, i < j + 1 → funcsOk fs i) := fun i hi => by
         rcases Nat.lt_or_ge i j with h | h
         ·
          exact HA.out i h
         ·
          obtain rfl : i = j := by omega
          exact HOK.out.2 ⟨HFB.out, HAT.out⟩
        go_wp2_with fail
        go_region_held3 (fun w' => w'.cell? ⟨D, 0, none⟩ = some (.string ⟨nm.toArray⟩) ∧ w'.cell? ⟨D, 1, none⟩ = some (.slice ia il ic) ∧ w'.cell? ⟨D, 2, none⟩ = some (.slice (some ⟨b, off, none⟩) fs.length fc) ∧ w'.cell? ⟨b, off + j * 3, none⟩ = some (.string ⟨s.toArray⟩) ∧ w'.cell? ⟨b, off + j * 3 + 1, none⟩ = some (.int .i64 n) ∧ w'.cell? ⟨b, off + j * 3 + 2, none⟩ = some (.slice ta tl tc)) (go_keep) (first | (go_at_call 135; refine (specFuncOk (s, n, t) ta tl tc _ hin HSH.out.2.2 (by omega) HSH.out.1).mono ?_; rintro e wn ⟨rfl, hbn⟩; replace st := st.below hbn; replace hB := hB.trans (hbn.mono hB.size); replace k0 := st.k0; replace k1 := st.k1; replace k2 := st.k2; replace c0 := (hbn.cell (p := ⟨b, off + j * 3, none⟩) hbl).trans c0; replace c1 := (hbn.cell (p := ⟨b, off + j * 3 + 1, none⟩) hbl).trans c1; replace c2 := (hbn.cell (p := ⟨b, off + j * 3 + 2, none⟩) hbl).trans c2; replace hin := hin.below hbn; replace hbl := Nat.lt_of_lt_of_le hbl hbn.size; clear hbn; rw [HFB.out]) | (go_at_call 109; refine (specAt nm s ia il ic (some ⟨b, off, none⟩) fs.length fc fs _ st.f (by omega)).mono ?_; rintro e wn ⟨rfl, hbn⟩; replace st := st.below hbn; replace hB := hB.trans (hbn.mono hB.size); replace k0 := st.k0; replace k1 := st.k1; replace k2 := st.k2; replace c0 := (hbn.cell (p := ⟨b, off + j * 3, none⟩) hbl).trans c0; replace c1 := (hbn.cell (p := ⟨b, off + j * 3 + 1, none⟩) hbl).trans c1; replace c2 := (hbn.cell (p := ⟨b, off + j * 3 + 2, none⟩) hbl).trans c2; replace hin := hin.below hbn; replace hbl := Nat.lt_of_lt_of_le hbl hbn.size; clear hbn; rw [HAT.out]))
        all_goals go_wp2
        all_goals go_roundw
        case rel => exact ⟨j + 1, by go_num, by omega, HA2, st, hB⟩
        case measure => simp [intOf]; omega
       ·
        have HR : Hid (pkgB (nm, ims, fs) = false) := pkgB_no (nm, ims, fs) (j := j) (by show j < fs.length; omega) (fun h => hje (by have := (HOK.out.1 h).2; rw [← this]; exact HAT.out.symm))
        have hjb : (av != (j : Int)) = true := by rw [bne_iff_ne]; exact hje
        have hjc : (av == (j : Int)) = false := by rw [beq_eq_false_iff_ne]; exact hje
        go_wp2_with fail
        go_region_held3 (fun w' => w'.cell? ⟨D, 0, none⟩ = some (.string ⟨nm.toArray⟩) ∧ w'.cell? ⟨D, 1, none⟩ = some (.slice ia il ic) ∧ w'.cell? ⟨D, 2, none⟩ = some (.slice (some ⟨b, off, none⟩) fs.length fc) ∧ w'.cell? ⟨b, off + j * 3, none⟩ = some (.string ⟨s.toArray⟩) ∧ w'.cell? ⟨b, off + j * 3 + 1, none⟩ = some (.int .i64 n) ∧ w'.cell? ⟨b, off + j * 3 + 2, none⟩ = some (.slice ta tl tc)) (go_keep) (first | (go_at_call 135; refine (specFuncOk (s, n, t) ta tl tc _ hin HSH.out.2.2 (by omega) HSH.out.1).mono ?_; rintro e wn ⟨rfl, hbn⟩; replace st := st.below hbn; replace hB := hB.trans (hbn.mono hB.size); replace k0 := st.k0; replace k1 := st.k1; replace k2 := st.k2; replace c0 := (hbn.cell (p := ⟨b, off + j * 3, none⟩) hbl).trans c0; replace c1 := (hbn.cell (p := ⟨b, off + j * 3 + 1, none⟩) hbl).trans c1; replace c2 := (hbn.cell (p := ⟨b, off + j * 3 + 2, none⟩) hbl).trans c2; replace hin := hin.below hbn; replace hbl := Nat.lt_of_lt_of_le hbl hbn.size; clear hbn; rw [HFB.out]) | (go_at_call 109; refine (specAt nm s ia il ic (some ⟨b, off, none⟩) fs.length fc fs _ st.f (by omega)).mono ?_; rintro e wn ⟨rfl, hbn⟩; replace st := st.below hbn; replace hB := hB.trans (hbn.mono hB.size); replace k0 := st.k0; replace k1 := st.k1; replace k2 := st.k2; replace c0 := (hbn.cell (p := ⟨b, off + j * 3, none⟩) hbl).trans c0; replace c1 := (hbn.cell (p := ⟨b, off + j * 3 + 1, none⟩) hbl).trans c1; replace c2 := (hbn.cell (p := ⟨b, off + j * 3 + 2, none⟩) hbl).trans c2; replace hin := hin.below hbn; replace hbl := Nat.lt_of_lt_of_le hbl hbn.size; clear hbn; rw [HAT.out]))
        all_goals go_wp2
        all_goals go_ret
        all_goals exact ⟨by rw [HR.out]; rfl, (by first | exact hB | (rw [← hD]; exact hB))⟩
     ·
      have HR : Hid (pkgB (nm, ims, fs) = true) := HH1.out rfl (fun i hi => HA.out i (by omega))
      go_wp2
      go_ret
      exact ⟨by rw [HR.out]; rfl, (by first | exact hB | (rw [← hD]; exact hB))⟩

end Go.Proofs.YtdoghjpjepolbaaGreatDoor

/-! The contract of the specification's l1Has. -/
namespace Go.Proofs.YtdoghjpjepolbaaGreatDoor
open Go.RowKit

theorem mem_take_step {ts : List (List UInt8)} {s : List UInt8} {k : Nat} (h : ∀ i, i < k → ts.getD i [] ≠ s) (hk : ts.length ≤ k) : ¬ s ∈ ts := fun hm => by
 obtain ⟨i, hi, rfl⟩ := List.mem_iff_getElem.1 hm
 exact h i (by omega) (by simp [List.getD, hi])
theorem getD_mem8 {ts : List (List UInt8)} {k : Nat} (hk : k < ts.length) : ts.getD k [] ∈ ts := by
 rw [List.getD_eq_getElem?_getD, List.getElem?_eq_getElem hk]; exact List.getElem_mem hk

set_option maxHeartbeats 1000000 in
set_option maxRecDepth 100000 in
theorem specHas (a : Option Addr) (len cap : Nat) (ts : List (List UInt8)) (s : List UInt8) (w : World) (hin : TextsIn w a len ts) (hlen : len ≤ 4194304) :
 Calls Tryz.prog 41 #[.slice a len cap, .string ⟨s.toArray⟩] w fun e w' => e = .returned (.bool (decide (s ∈ ts))) ∧ w' = w := by
 obtain rfl : ts.length = len := hin.1
 have HI : Hid (TextsIn w a ts.length ts) := hin
 clear hin
 go_enter Tryz.func41, Tryz.ntmps41
 go_wp2
 go_loopw [5] (fun iv wr => ∃ k : Nat, iv = .int .i64 (k : Int) ∧ k ≤ ts.length ∧ Hid (∀ i, i < k → ts.getD i [] ≠ s) ∧ wr = w) (fun iv _ => ts.length - (intOf iv).toNat)
 case atStart => exact ⟨0, rfl, by omega, (fun i hi => by omega), rfl⟩
 case round =>
  obtain ⟨k, rfl, hk, HA, rfl⟩ := hrel
  by_cases hlt : (k : Int) < (ts.length : Int)
  ·
   have hk2 : k < ts.length := by omega
   obtain ⟨b, off, rfl, hbl, c0⟩ := HI.out.2 k hk2
   have hmem := getD_mem8 hk2
   obtain ⟨x, hx⟩ : ∃ x, ts.getD k [] = x := ⟨_, rfl⟩
   rw [hx] at c0 hmem
   by_cases hxs : x = s
   ·
    subst hxs
    have HR : Hid (decide (x ∈ ts) = true) := decide_eq_true hmem
    have hself : (x == x) = true := by simp
    clear HA hx hmem
    go_wp2
    go_ret
    exact ⟨by rw [HR.out]; rfl, rfl⟩
   ·
    have HA2 : Hid (∀ i, i < k + 1 → ts.getD i [] ≠ s) := fun i hi => by
     rcases Nat.lt_or_ge i k with h | h
     ·
      exact HA.out i h
     ·
      obtain rfl : i = k := by omega
      rw [hx]; exact hxs
    have hne : (x == s) = false := by rw [beq_eq_false_iff_ne]; exact hxs
    clear HA hx hmem
    go_wp2
    go_roundw
    case rel => exact ⟨k + 1, by go_num, by omega, HA2, trivial⟩
    case measure => simp [intOf]; omega
  ·
   have HR : Hid (decide (s ∈ ts) = false) := decide_eq_false (mem_take_step HA.out (by omega))
   go_wp2
   go_ret
   exact ⟨by rw [HR.out]; rfl, rfl⟩

end Go.Proofs.YtdoghjpjepolbaaGreatDoor

/-! The contracts of chapter 8's specification: l1Has, l8At. -/
namespace Go.Proofs.YtdoghjpjepolbaaGreatDoor
open Go.RowKit

/-- The packages ps lie at a, three cells each, their lists where those say. -/
def PkgsIn (w : World) (a : Option Addr) (len : Nat) (ps : List Pk) : Prop :=
 ps.length = len ∧ ∀ j, j < len → ∃ b off, a = some ⟨b, off, none⟩ ∧ b < w.heap.size ∧ w.cell? ⟨b, off + j * 3, none⟩ = some (.string ⟨(ps.getD j pk0).1.toArray⟩) ∧
  ∃ ia il ic fa fl fc, w.cell? ⟨b, off + j * 3 + 1, none⟩ = some (.slice ia il ic) ∧ w.cell? ⟨b, off + j * 3 + 2, none⟩ = some (.slice fa fl fc) ∧ TextsIn w ia il (ps.getD j pk0).2.1 ∧ FuncsIn w fa fl (ps.getD j pk0).2.2
theorem PkgsIn.below {w w' : World} {a : Option Addr} {len : Nat} {ps : List Pk} (h : PkgsIn w a len ps) (hb : Below w.heap.size w w') : PkgsIn w' a len ps := by
 refine ⟨h.1, fun j hj => ?_⟩
 obtain ⟨b, off, e, hlt, c0, ia, il, ic, fa, fl, fc, c1, c2, hi, hf⟩ := h.2 j hj
 exact ⟨b, off, e, Nat.lt_of_lt_of_le hlt hb.size, (hb.cell (p := ⟨b, off + j * 3, none⟩) hlt).trans c0, ia, il, ic, fa, fl, fc, (hb.cell (p := ⟨b, off + j * 3 + 1, none⟩) hlt).trans c1, (hb.cell (p := ⟨b, off + j * 3 + 2, none⟩) hlt).trans c2, hi.below hb, hf.below hb⟩

/-- How long the parts of a project may be. -/
def ShortPs (ps : List Pk) : Prop := ∀ j, (ps.getD j pk0).1.length ≤ 1048576 ∧ (ps.getD j pk0).2.1.length ≤ 1048576 ∧ (∀ i, ((ps.getD j pk0).2.1.getD i []).length ≤ 1048576) ∧ (ps.getD j pk0).2.2.length ≤ 1048576 ∧ ShortF (ps.getD j pk0).2.2

set_option maxHeartbeats 1000000 in
set_option maxRecDepth 100000 in
theorem specAt8 (a : Option Addr) (len cap : Nat) (ps : List Pk) (s : List UInt8) (w : World) (hin : PkgsIn w a len ps) (hlen : len ≤ 1048576) :
 Calls Tryz.prog 40 #[.slice a len cap, .string ⟨s.toArray⟩] w fun e w' => e = .returned (.int .i64 (at8 ps s)) ∧ w' = w := by
 obtain rfl : ps.length = len := hin.1
 have HI : Hid (PkgsIn w a ps.length ps) := hin
 clear hin
 go_enter Tryz.func40, Tryz.ntmps40
 go_wp2
 go_loopw [5] (fun iv wr => ∃ j : Nat, iv = .int .i64 (j : Int) ∧ j ≤ ps.length ∧ Hid (at8 ps s = at8Go s (ps.drop j) j) ∧ wr = w) (fun iv _ => ps.length - (intOf iv).toNat)
 case atStart => exact ⟨0, rfl, by omega, (rfl : at8 ps s = at8Go s (ps.drop 0) 0), rfl⟩
 case round =>
  obtain ⟨j, rfl, hj, HA, rfl⟩ := hrel
  by_cases hlt : (j : Int) < (ps.length : Int)
  ·
   obtain ⟨b, off, rfl, hbl, c0, _⟩ := HI.out.2 j (by omega)
   have hg := at8Go_drop (ps := ps) (k := j) (by omega) s
   obtain ⟨x, hx⟩ : ∃ x, (ps.getD j pk0).1 = x := ⟨_, rfl⟩
   rw [hx] at c0 hg
   by_cases hxs : x = s
   ·
    subst hxs
    have HR : Hid (at8 ps x = (j : Int)) := by exact (by rw [HA.out, hg, if_pos rfl] : at8 ps x = (j : Int))
    have hself : (x == x) = true := by simp
    clear HA hg hx
    go_wp2
    go_ret
    exact ⟨by rw [HR.out]; rfl, rfl⟩
   ·
    have HR : Hid (at8 ps s = at8Go s (ps.drop (j + 1)) (j + 1)) := by exact (by rw [HA.out, hg, if_neg hxs] : at8 ps s = at8Go s (ps.drop (j + 1)) (j + 1))
    have hne : (x == s) = false := by rw [beq_eq_false_iff_ne]; exact hxs
    clear HA hg hx
    go_wp2
    go_roundw
    case rel => exact ⟨j + 1, by go_num, by omega, HR, trivial⟩
    case measure => simp [intOf]; omega
  ·
   have HR : Hid (at8 ps s = -1) := by exact (by rw [HA.out, List.drop_of_length_le (by omega)]; rfl : at8 ps s = -1)
   go_wp2
   go_ret
   exact ⟨by rw [HR.out]; rfl, rfl⟩

end Go.Proofs.YtdoghjpjepolbaaGreatDoor
