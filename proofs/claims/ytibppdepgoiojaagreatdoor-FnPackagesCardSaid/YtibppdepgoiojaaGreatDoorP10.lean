/-
  Parts of one proof, one behind the other: PackS3, Math7S, Math7R.
-/
import Derived.Test.YtibppdepgoiojaaGreatDoorP9
import Derived.Test.YtibppdepgoiojaaGreatDoorP5

/-! The contract of chapter 7's specification: PackageOk. -/
namespace Go.Proofs.YtibppdepgoiojaaGreatDoor
open Go.RowKit

/-- A package in a block of its own, as a walk holds it. -/
structure PkIn (W : World) (D : Nat) (nm : List UInt8) (ia : Option Addr) (il ic : Nat) (fa : Option Addr) (fl fc : Nat) (ims : List (List UInt8)) (fs : List Fn) : Prop where
  k0 : W.cell? ⟨D, 0, none⟩ = some (.string ⟨nm.toArray⟩)
  k1 : W.cell? ⟨D, 1, none⟩ = some (.slice ia il ic)
  k2 : W.cell? ⟨D, 2, none⟩ = some (.slice fa fl fc)
  i : TextsIn W ia il ims
  f : FuncsIn W fa fl fs

theorem PkIn.below {W W' : World} {D : Nat} {nm : List UInt8} {ia : Option Addr} {il ic : Nat} {fa : Option Addr} {fl fc : Nat} {ims : List (List UInt8)} {fs : List Fn} (h : PkIn W D nm ia il ic fa fl fc ims fs) (hb : Below W.heap.size W W') : PkIn W' D nm ia il ic fa fl fc ims fs :=
  have hl : D < W.heap.size := World.block_lt_of_cell? W ⟨D, 0, none⟩ h.k0
  ⟨(hb.cell (p := ⟨D, 0, none⟩) hl).trans h.k0, (hb.cell (p := ⟨D, 1, none⟩) hl).trans h.k1, (hb.cell (p := ⟨D, 2, none⟩) hl).trans h.k2, h.i.below hb, h.f.below hb⟩

theorem PkIn.drew {W : World} {D : Nat} {nm : List UInt8} {ia : Option Addr} {il ic : Nat} {fa : Option Addr} {fl fc : Nat} {ims : List (List UInt8)} {fs : List Fn} (h : PkIn W D nm ia il ic fa fl fc ims fs) : PkIn W.drew D nm ia il ic fa fl fc ims fs := ⟨h.k0, h.k1, h.k2, h.i, h.f⟩

theorem PkIn.new {w : World} {nm : List UInt8} {ia : Option Addr} {il ic : Nat} {fa : Option Addr} {fl fc : Nat} {ims : List (List UInt8)} {fs : List Fn} (hi : TextsIn w ia il ims) (hf : FuncsIn w fa fl fs) :
    PkIn (w.alloc (.cells #[.string ⟨nm.toArray⟩, .slice ia il ic, .slice fa fl fc] 27)) w.heap.size nm ia il ic fa fl fc ims fs ∧ Below w.heap.size w (w.alloc (.cells #[.string ⟨nm.toArray⟩, .slice ia il ic, .slice fa fl fc] 27)) := by
  have hb : Below w.heap.size w (w.alloc (.cells #[.string ⟨nm.toArray⟩, .slice ia il ic, .slice fa fl fc] 27)) := (Below.refl _ _).alloc (Nat.le_refl _) _
  have hA := heap_alloc_new w (.cells #[.string ⟨nm.toArray⟩, .slice ia il ic, .slice fa fl fc] 27)
  generalize w.alloc (.cells #[.string ⟨nm.toArray⟩, .slice ia il ic, .slice fa fl fc] 27) = W at hb hA ⊢
  exact ⟨⟨by simp [World.cell?, hA], by simp [World.cell?, hA], by simp [World.cell?, hA], hi.below hb, hf.below hb⟩, hb⟩

theorem pkgB_head (p : Pk) (h : (nameB p.1 && (importsB p.2.1 && inB (p.2.2.length : Int) 1 8)) = false) : pkgB p = false := by unfold pkgB; rw [h]; rfl
theorem pkgB_no (p : Pk) {j : Nat} (hj : j < p.2.2.length) (h : ¬ funcsOk p.2.2 j) : pkgB p = false := by unfold pkgB; rw [decide_eq_false (fun g => h (g j hj)), Bool.and_false]
theorem pkgB_yes (p : Pk) (h : (nameB p.1 && (importsB p.2.1 && inB (p.2.2.length : Int) 1 8)) = true) (k : ∀ i, i < p.2.2.length → funcsOk p.2.2 i) : pkgB p = true := by unfold pkgB; rw [h, decide_eq_true k]; rfl

set_option maxHeartbeats 4000000 in
set_option maxRecDepth 100000 in
theorem specPackageOk (nm : List UInt8) (ia : Option Addr) (il ic : Nat) (fa : Option Addr) (fl fc : Nat) (ims : List (List UInt8)) (fs : List Fn) (w : World) (hi : TextsIn w ia il ims) (hf : FuncsIn w fa fl fs) (hil : il ≤ 1048576) (hfl : fl ≤ 1048576) (hnl : nm.length ≤ 1048576) (his : ∀ i, (ims.getD i []).length ≤ 1048576) (hfs : ShortF fs) :
    Calls Tryz.prog 15 #[.agg #[.string ⟨nm.toArray⟩, .slice ia il ic, .slice fa fl fc]] w fun e w' => e = .returned (.bool (pkgB (nm, ims, fs))) ∧ Below w.heap.size w w' := by
  obtain rfl : fs.length = fl := hf.1
  obtain ⟨W, hW⟩ : ∃ W, w.alloc (.cells #[.string ⟨nm.toArray⟩, .slice ia il ic, .slice fa fs.length fc] 27) = W := ⟨_, rfl⟩
  obtain ⟨st, hB⟩ := PkIn.new (w := w) (nm := nm) (ic := ic) (fc := fc) hi hf
  rw [hW] at st hB
  have HIS : Hid (∀ i, (ims.getD i []).length ≤ 1048576) := his
  have HFS : Hid (ShortF fs) := hfs
  obtain ⟨D, hD⟩ : ∃ D, w.heap.size = D := ⟨_, rfl⟩
  rw [hD] at st
  have k0 := st.k0
  have k1 := st.k1
  have k2 := st.k2
  have hC1 : Hid (_) := specNameOk nm W hnl
  have hC2 : Hid (_) := specImports ia il ic ims W st.i hil his
  have hC3 : Hid (_) := fun V : World => specIn (fs.length : Int) 1 8 V
  have HH0 : Hid ((nameB nm && (importsB ims && inB (fs.length : Int) 1 8)) = false → pkgB (nm, ims, fs) = false) := pkgB_head (nm, ims, fs)
  have HH1 : Hid ((nameB nm && (importsB ims && inB (fs.length : Int) 1 8)) = true → (∀ i, i < fs.length → funcsOk fs i) → pkgB (nm, ims, fs) = true) := pkgB_yes (nm, ims, fs)
  generalize nameB nm = nb at hC1 HH0 HH1
  generalize importsB ims = ib at hC2 HH0 HH1
  generalize inB (fs.length : Int) 1 8 = lb at hC3 HH0 HH1
  clear hi hf his hfs
  go_enter Tryz.func15, Tryz.ntmps15
  rcases nb with _ | _
  · go_wp2_with (go_at_call 42; refine Calls.mono hC1.out ?_; rintro e w1 ⟨rfl, rfl⟩)
    go_ret
    exact ⟨by rw [HH0.out rfl]; rfl, (by first | exact hB | (rw [← hD]; exact hB))⟩
  · rcases ib with _ | _
    · go_wp2_with (first | (go_at_call 42; refine Calls.mono hC1.out ?_; rintro e w1 ⟨rfl, rfl⟩) | (go_at_call 43; refine Calls.mono hC2.out ?_; rintro e w1 ⟨rfl, hb1⟩))
      go_ret
      exact ⟨by rw [HH0.out rfl]; rfl, hB.trans (hb1.mono hB.size)⟩
    · go_wp2_with fail
      refine Calls.mono hC1.out ?_
      rintro e w1 ⟨rfl, rfl⟩
      go_wp2_with fail
      refine Calls.mono hC2.out ?_
      rintro e w1 ⟨rfl, hb1⟩
      replace st := st.below hb1
      replace hB := hB.trans (hb1.mono hB.size)
      replace k0 := st.k0
      replace k1 := st.k1
      replace k2 := st.k2
      clear hb1 hC1 hC2
      rcases lb with _ | _
      · go_wp2_with (go_at_call 44; refine Calls.mono (hC3.out _) ?_; rintro e w1 ⟨rfl, rfl⟩)
        go_ret
        exact ⟨by rw [HH0.out rfl]; rfl, (by first | exact hB | (rw [← hD]; exact hB))⟩
      · go_wp2_with (go_at_call 44; refine Calls.mono (hC3.out _) ?_; rintro e w1 ⟨rfl, rfl⟩)
        have ST : Hid (PkIn w1 D nm ia il ic fa fs.length fc ims fs) := st
        have HB : Hid (Below w.heap.size w w1) := hB
        clear st hB k0 k1 k2
        go_loopw [3] (fun iv wr => ∃ j : Nat, iv = .int .i64 (j : Int) ∧ j ≤ fs.length ∧ Hid (∀ i, i < j → funcsOk fs i) ∧ Hid (PkIn wr D nm ia il ic fa fs.length fc ims fs) ∧ Hid (Below w.heap.size w wr)) (fun iv _ => fs.length - (intOf iv).toNat)
        case atStart => exact ⟨0, rfl, by omega, (fun i hi => by omega), ST, HB⟩
        case round =>
          obtain ⟨j, rfl, hj, HA, ST2, HB2⟩ := hrel
          clear ST HB
          have st := ST2.out
          have hB := HB2.out
          clear ST2 HB2
          have k0 := st.k0
          have k1 := st.k1
          have k2 := st.k2
          by_cases hlt : (j : Int) < (fs.length : Int)
          · obtain ⟨b, off, rfl, hbl, c0, c1, ta, tl, tc, c2, _, hin⟩ := st.f.2 j (by omega)
            have hsh := HFS.out j
            obtain ⟨f, hfj⟩ : ∃ f, fs.getD j fn0 = f := ⟨_, rfl⟩
            have HOK : Hid (funcsOk fs j ↔ (funcB f = true ∧ atV fs f.1 = (j : Int))) := by exact (by unfold funcsOk; rw [hfj] : funcsOk fs j ↔ (funcB f = true ∧ atV fs f.1 = (j : Int)))
            rw [hfj] at c0 c1 hin hsh
            clear hfj
            obtain ⟨s, n, t⟩ := f
            simp only at c0 c1 hin hsh
            have HSH : Hid (s.length ≤ 1048576 ∧ t.length ≤ 1048576 ∧ ShortT t) := hsh
            have htl : tl ≤ 1048576 := by rw [← hin.1]; exact hsh.2.1
            clear hsh
            obtain ⟨fb, hfb⟩ : ∃ fb, funcB (s, n, t) = fb := ⟨_, rfl⟩
            obtain ⟨av, hav⟩ : ∃ av, atV fs s = av := ⟨_, rfl⟩
            have HFB : Hid (funcB (s, n, t) = fb) := hfb
            have HAT : Hid (atV fs s = av) := hav
            clear hfb hav
            replace st := st.drew
            replace hB : Below w.heap.size w wr.drew := hB.drew
            replace hin : NodesIn wr.drew ta tl t := hin
            replace hbl : b < wr.drew.heap.size := hbl
            rcases fb with _ | _
            · have HR : Hid (pkgB (nm, ims, fs) = false) := pkgB_no (nm, ims, fs) (j := j) (by show j < fs.length; omega) (fun h => by have := (HOK.out.1 h).1; rw [HFB.out] at this; cases this)
              go_wp2_with fail
              refine wp_region_held_drew (S := (fun w' => w'.cell? ⟨D, 0, none⟩ = some (.string ⟨nm.toArray⟩) ∧ w'.cell? ⟨D, 1, none⟩ = some (.slice ia il ic) ∧ w'.cell? ⟨D, 2, none⟩ = some (.slice (some ⟨b, off, none⟩) fs.length fc) ∧ w'.cell? ⟨b, off + j * 3, none⟩ = some (.string ⟨s.toArray⟩) ∧ w'.cell? ⟨b, off + j * 3 + 1, none⟩ = some (.int .i64 n) ∧ w'.cell? ⟨b, off + j * 3 + 2, none⟩ = some (.slice ta tl tc))) (by kernel_rfl) ?_ (fun hHeld => ?_)
              · first | (dsimp only; done) | (dsimp only; go_keep) | go_keep
              refine wpAnyH_take (i := 0) (oi := ⟨some 28, _, _, _, _, _⟩) (v := ?v0) rfl (by kernel_rfl) (by kernel_rfl) (by kernel_rfl) (fun _ _ _ h => h) (Or.inl ⟨by rfl, ?hy0⟩) (by assumption) ?rest0
              case hy0 => (intro wq hSw; (try dsimp only at hSw); first | (go_simp; done) | (go_simp; with_reducible rfl))
              simp only [Act.put, List.setIfInBounds_toArray, List.set_cons_zero, List.set_cons_succ]
              refine wpAnyH_take (i := 1) (oi := ⟨some 29, _, _, _, _, _⟩) (v := ?v1) rfl (by kernel_rfl) (by kernel_rfl) (by kernel_rfl) (fun _ _ _ h => h) (Or.inl ⟨by rfl, ?hy1⟩) (by assumption) ?rest1
              case hy1 => (intro wq hSw; (try dsimp only at hSw); first | (go_simp; done) | (go_simp; with_reducible rfl))
              simp only [Act.put, List.setIfInBounds_toArray, List.set_cons_zero, List.set_cons_succ]
              refine wpAnyH_take (i := 2) (oi := ⟨some 30, _, _, _, _, _⟩) (v := ?v2) rfl (by kernel_rfl) (by kernel_rfl) (by kernel_rfl) (fun _ _ _ h => h) (Or.inl ⟨by rfl, ?hy2⟩) (by assumption) ?rest2
              case hy2 => (intro wq hSw; (try dsimp only at hSw); first | (go_simp; done) | (go_simp; with_reducible rfl))
              simp only [Act.put, List.setIfInBounds_toArray, List.set_cons_zero, List.set_cons_succ]
              refine wpAnyH_take (i := 3) (oi := ⟨some 31, _, _, _, _, _⟩) (v := ?v3) rfl (by kernel_rfl) (by kernel_rfl) (by kernel_rfl) (fun _ _ _ h => h) (Or.inl ⟨by rfl, ?hy3⟩) (by assumption) ?rest3
              case hy3 => (intro wq hSw; (try dsimp only at hSw); first | (go_simp; done) | (go_simp; with_reducible rfl))
              simp only [Act.put, List.setIfInBounds_toArray, List.set_cons_zero, List.set_cons_succ]
              refine wpAnyH_take (i := 4) (oi := ⟨some 32, _, _, _, _, _⟩) (v := ?v4) rfl (by kernel_rfl) (by kernel_rfl) (by kernel_rfl) (fun _ _ _ h => h) (Or.inl ⟨by rfl, ?hy4⟩) (by assumption) ?rest4
              case hy4 => (intro wq hSw; (try dsimp only at hSw); first | (go_simp; done) | (go_simp; with_reducible rfl))
              simp only [Act.put, List.setIfInBounds_toArray, List.set_cons_zero, List.set_cons_succ]
              refine wpAnyH_ready (rs := [5]) (by kernel_rfl) (by simp) ?_
              refine AllReadyH.cons rfl (fun K hK => ?_) AllReadyH.nil
              go_simp
              (go_at_call 45; refine (specFuncOk (s, n, t) ta tl tc _ hin HSH.out.2.2 (by omega) HSH.out.1).mono ?_; rintro e wn ⟨rfl, hbn⟩; replace st := st.below hbn; replace hB := hB.trans (hbn.mono hB.size); replace k0 := st.k0; replace k1 := st.k1; replace k2 := st.k2; replace c0 := (hbn.cell (p := ⟨b, off + j * 3, none⟩) hbl).trans c0; replace c1 := (hbn.cell (p := ⟨b, off + j * 3 + 1, none⟩) hbl).trans c1; replace c2 := (hbn.cell (p := ⟨b, off + j * 3 + 2, none⟩) hbl).trans c2; replace hin := hin.below hbn; replace hbl := Nat.lt_of_lt_of_le hbl hbn.size; clear hbn; rw [HFB.out])
              refine hK.out _ _ ?_ (fun hHeld => ?_)
              · first | (dsimp only; done) | (dsimp only; go_keep) | go_keep
              clear hK K
              refine wpAnyH_take (i := 6) (oi := ⟨some 34, _, _, _, _, _⟩) (v := ?v6) rfl (by kernel_rfl) (by kernel_rfl) (by kernel_rfl) (fun _ _ _ h => h) (Or.inl ⟨by rfl, ?hy6⟩) (by assumption) ?rest6
              case hy6 => (intro wq hSw; (try dsimp only at hSw); first | (go_simp; done) | (go_simp; with_reducible rfl))
              simp only [Act.put, List.setIfInBounds_toArray, List.set_cons_zero, List.set_cons_succ]
              refine wpAnyH_take (i := 7) (oi := ⟨some 35, _, _, _, _, _⟩) (v := ?v7) rfl (by kernel_rfl) (by kernel_rfl) (by kernel_rfl) (fun _ _ _ h => h) (Or.inl ⟨by rfl, ?hy7⟩) (by assumption) ?rest7
              case hy7 => (intro wq hSw; (try dsimp only at hSw); first | (go_simp; done) | (go_simp; with_reducible rfl))
              simp only [Act.put, List.setIfInBounds_toArray, List.set_cons_zero, List.set_cons_succ]
              refine wpAnyH_take (i := 8) (oi := ⟨some 36, _, _, _, _, _⟩) (v := undef) rfl (by kernel_rfl) (by kernel_rfl) (by kernel_rfl) (fun _ _ _ h => h) (Or.inr ⟨by rfl, rfl⟩) (by assumption) ?_
              simp only [Act.put, List.setIfInBounds_toArray, List.set_cons_zero, List.set_cons_succ]
              refine wpAnyH_take (i := 9) (oi := ⟨some 37, _, _, _, _, _⟩) (v := undef) rfl (by kernel_rfl) (by kernel_rfl) (by kernel_rfl) (fun _ _ _ h => h) (Or.inr ⟨by rfl, rfl⟩) (by assumption) ?_
              simp only [Act.put, List.setIfInBounds_toArray, List.set_cons_zero, List.set_cons_succ]
              refine wpAnyH_take (i := 10) (oi := ⟨some 38, _, _, _, _, _⟩) (v := undef) rfl (by kernel_rfl) (by kernel_rfl) (by kernel_rfl) (fun _ _ _ h => h) (Or.inr ⟨by rfl, rfl⟩) (by assumption) ?_
              simp only [Act.put, List.setIfInBounds_toArray, List.set_cons_zero, List.set_cons_succ]
              refine wpAnyH_take (i := 11) (oi := ⟨some 39, _, _, _, _, _⟩) (v := undef) rfl (by kernel_rfl) (by kernel_rfl) (by kernel_rfl) (fun _ _ _ h => h) (Or.inr ⟨by rfl, rfl⟩) (by assumption) ?_
              simp only [Act.put, List.setIfInBounds_toArray, List.set_cons_zero, List.set_cons_succ]
              refine wpAnyH_take (i := 12) (oi := ⟨some 40, _, _, _, _, _⟩) (v := undef) rfl (by kernel_rfl) (by kernel_rfl) (by kernel_rfl) (fun _ _ _ h => h) (Or.inr ⟨by rfl, rfl⟩) (by assumption) ?_
              simp only [Act.put, List.setIfInBounds_toArray, List.set_cons_zero, List.set_cons_succ]
              refine wpAnyH_take (i := 13) (oi := ⟨some 41, _, _, _, _, _⟩) (v := undef) rfl (by kernel_rfl) (by kernel_rfl) (by kernel_rfl) (fun _ _ _ h => h) (Or.inr ⟨by rfl, rfl⟩) (by assumption) ?_
              simp only [Act.put, List.setIfInBounds_toArray, List.set_cons_zero, List.set_cons_succ]
              refine wpAnyH_take (i := 14) (oi := ⟨some 42, _, _, _, _, _⟩) (v := undef) rfl (by kernel_rfl) (by kernel_rfl) (by kernel_rfl) (fun _ _ _ h => h) (Or.inr ⟨by rfl, rfl⟩) (by assumption) ?_
              simp only [Act.put, List.setIfInBounds_toArray, List.set_cons_zero, List.set_cons_succ]
              refine wpAnyH_take (i := 15) (oi := ⟨some 43, _, _, _, _, _⟩) (v := undef) rfl (by kernel_rfl) (by kernel_rfl) (by kernel_rfl) (fun _ _ _ h => h) (Or.inr ⟨by rfl, rfl⟩) (by assumption) ?_
              simp only [Act.put, List.setIfInBounds_toArray, List.set_cons_zero, List.set_cons_succ]
              refine wpAnyH_take (i := 16) (oi := ⟨some 44, _, _, _, _, _⟩) (v := undef) rfl (by kernel_rfl) (by kernel_rfl) (by kernel_rfl) (fun _ _ _ h => h) (Or.inr ⟨by rfl, rfl⟩) (by assumption) ?_
              simp only [Act.put, List.setIfInBounds_toArray, List.set_cons_zero, List.set_cons_succ]
              refine wpAnyH_take (i := 17) (oi := ⟨some 45, _, _, _, _, _⟩) (v := undef) rfl (by kernel_rfl) (by kernel_rfl) (by kernel_rfl) (fun _ _ _ h => h) (Or.inr ⟨by rfl, rfl⟩) (by assumption) ?_
              simp only [Act.put, List.setIfInBounds_toArray, List.set_cons_zero, List.set_cons_succ]
              refine wpAnyH_take (i := 18) (oi := ⟨some 46, _, _, _, _, _⟩) (v := ?v18) rfl (by kernel_rfl) (by kernel_rfl) (by kernel_rfl) (fun _ _ _ h => h) (Or.inl ⟨by rfl, ?hy18⟩) (by assumption) ?rest18
              case hy18 => (intro wq hSw; (try dsimp only at hSw); first | (go_simp; done) | (go_simp; with_reducible rfl))
              simp only [Act.put, List.setIfInBounds_toArray, List.set_cons_zero, List.set_cons_succ]
              refine wpAnyH_done (by kernel_rfl) ?_ _
              go_wp2
              go_ret
              exact ⟨by rw [HR.out]; rfl, (by first | exact hB | (rw [← hD]; exact hB))⟩
            · by_cases hje : av = (j : Int)
              · subst hje
                have HA2 : Hid (∀ i, i < j + 1 → funcsOk fs i) := fun i hi => by
                  rcases Nat.lt_or_ge i j with h | h
                  · exact HA.out i h
                  · obtain rfl : i = j := by omega
                    exact HOK.out.2 ⟨HFB.out, HAT.out⟩
                go_wp2_with fail
                go_region_held3 (fun w' => w'.cell? ⟨D, 0, none⟩ = some (.string ⟨nm.toArray⟩) ∧ w'.cell? ⟨D, 1, none⟩ = some (.slice ia il ic) ∧ w'.cell? ⟨D, 2, none⟩ = some (.slice (some ⟨b, off, none⟩) fs.length fc) ∧ w'.cell? ⟨b, off + j * 3, none⟩ = some (.string ⟨s.toArray⟩) ∧ w'.cell? ⟨b, off + j * 3 + 1, none⟩ = some (.int .i64 n) ∧ w'.cell? ⟨b, off + j * 3 + 2, none⟩ = some (.slice ta tl tc)) (go_keep) (first | (go_at_call 45; refine (specFuncOk (s, n, t) ta tl tc _ hin HSH.out.2.2 (by omega) HSH.out.1).mono ?_; rintro e wn ⟨rfl, hbn⟩; replace st := st.below hbn; replace hB := hB.trans (hbn.mono hB.size); replace k0 := st.k0; replace k1 := st.k1; replace k2 := st.k2; replace c0 := (hbn.cell (p := ⟨b, off + j * 3, none⟩) hbl).trans c0; replace c1 := (hbn.cell (p := ⟨b, off + j * 3 + 1, none⟩) hbl).trans c1; replace c2 := (hbn.cell (p := ⟨b, off + j * 3 + 2, none⟩) hbl).trans c2; replace hin := hin.below hbn; replace hbl := Nat.lt_of_lt_of_le hbl hbn.size; clear hbn; rw [HFB.out]) | (go_at_call 46; refine (specAt nm s ia il ic (some ⟨b, off, none⟩) fs.length fc fs _ st.f (by omega)).mono ?_; rintro e wn ⟨rfl, hbn⟩; replace st := st.below hbn; replace hB := hB.trans (hbn.mono hB.size); replace k0 := st.k0; replace k1 := st.k1; replace k2 := st.k2; replace c0 := (hbn.cell (p := ⟨b, off + j * 3, none⟩) hbl).trans c0; replace c1 := (hbn.cell (p := ⟨b, off + j * 3 + 1, none⟩) hbl).trans c1; replace c2 := (hbn.cell (p := ⟨b, off + j * 3 + 2, none⟩) hbl).trans c2; replace hin := hin.below hbn; replace hbl := Nat.lt_of_lt_of_le hbl hbn.size; clear hbn; rw [HAT.out]))
                all_goals go_wp2
                all_goals go_roundw
                case rel => exact ⟨j + 1, by go_num, by omega, HA2, st, hB⟩
                case measure => simp [intOf]; omega
              · have HR : Hid (pkgB (nm, ims, fs) = false) := pkgB_no (nm, ims, fs) (j := j) (by show j < fs.length; omega) (fun h => hje (by have := (HOK.out.1 h).2; rw [← this]; exact HAT.out.symm))
                have hjb : (av != (j : Int)) = true := by rw [bne_iff_ne]; exact hje
                have hjc : (av == (j : Int)) = false := by rw [beq_eq_false_iff_ne]; exact hje
                go_wp2_with fail
                go_region_held3 (fun w' => w'.cell? ⟨D, 0, none⟩ = some (.string ⟨nm.toArray⟩) ∧ w'.cell? ⟨D, 1, none⟩ = some (.slice ia il ic) ∧ w'.cell? ⟨D, 2, none⟩ = some (.slice (some ⟨b, off, none⟩) fs.length fc) ∧ w'.cell? ⟨b, off + j * 3, none⟩ = some (.string ⟨s.toArray⟩) ∧ w'.cell? ⟨b, off + j * 3 + 1, none⟩ = some (.int .i64 n) ∧ w'.cell? ⟨b, off + j * 3 + 2, none⟩ = some (.slice ta tl tc)) (go_keep) (first | (go_at_call 45; refine (specFuncOk (s, n, t) ta tl tc _ hin HSH.out.2.2 (by omega) HSH.out.1).mono ?_; rintro e wn ⟨rfl, hbn⟩; replace st := st.below hbn; replace hB := hB.trans (hbn.mono hB.size); replace k0 := st.k0; replace k1 := st.k1; replace k2 := st.k2; replace c0 := (hbn.cell (p := ⟨b, off + j * 3, none⟩) hbl).trans c0; replace c1 := (hbn.cell (p := ⟨b, off + j * 3 + 1, none⟩) hbl).trans c1; replace c2 := (hbn.cell (p := ⟨b, off + j * 3 + 2, none⟩) hbl).trans c2; replace hin := hin.below hbn; replace hbl := Nat.lt_of_lt_of_le hbl hbn.size; clear hbn; rw [HFB.out]) | (go_at_call 46; refine (specAt nm s ia il ic (some ⟨b, off, none⟩) fs.length fc fs _ st.f (by omega)).mono ?_; rintro e wn ⟨rfl, hbn⟩; replace st := st.below hbn; replace hB := hB.trans (hbn.mono hB.size); replace k0 := st.k0; replace k1 := st.k1; replace k2 := st.k2; replace c0 := (hbn.cell (p := ⟨b, off + j * 3, none⟩) hbl).trans c0; replace c1 := (hbn.cell (p := ⟨b, off + j * 3 + 1, none⟩) hbl).trans c1; replace c2 := (hbn.cell (p := ⟨b, off + j * 3 + 2, none⟩) hbl).trans c2; replace hin := hin.below hbn; replace hbl := Nat.lt_of_lt_of_le hbl hbn.size; clear hbn; rw [HAT.out]))
                all_goals go_wp2
                all_goals go_ret
                all_goals exact ⟨by rw [HR.out]; rfl, (by first | exact hB | (rw [← hD]; exact hB))⟩
          · have HR : Hid (pkgB (nm, ims, fs) = true) := HH1.out rfl (fun i hi => HA.out i (by omega))
            go_wp2
            go_ret
            exact ⟨by rw [HR.out]; rfl, (by first | exact hB | (rw [← hD]; exact hB))⟩

end Go.Proofs.YtibppdepgoiojaaGreatDoor

/-! Plain facts for chapter 7: how a package is shown and read. -/
namespace Go.Proofs.YtibppdepgoiojaaGreatDoor
open Go.RowKit

theorem split_term (ls : List (List UInt8)) (h : ∀ x ∈ ls, ∀ c ∈ x, c ≠ 10) : splitL 10 (termJ ls) = ls ++ [[]] := by
  unfold splitL
  induction ls with
  | nil => rfl
  | cons x r ih =>
    have e : termJ (x :: r) = x ++ 10 :: termJ r := by simp [termJ]
    rw [e, split_one 10 x (termJ r) [] (h x (by simp)), ih (fun y hy => h y (by simp [hy])), List.nil_append]
    rfl

theorem lines_term (ls : List (List UInt8)) (h : ∀ x ∈ ls, ∀ c ∈ x, c ≠ 10) : linesL (termJ ls) = ls := by
  unfold linesL
  rw [split_term ls h, if_pos (by simp [List.getLastD_eq_getLast?]), List.dropLast_concat]

def kwPackage : List UInt8 := [112, 97, 99, 107, 97, 103, 101]
def kwImport : List UInt8 := [105, 109, 112, 111, 114, 116]
def kwFunc : List UInt8 := [102, 117, 110, 99]

def packLn (s : List UInt8) : List UInt8 := kwPackage ++ [32] ++ s
def impLn (s : List UInt8) : List UInt8 := kwImport ++ [32] ++ s
def funcLn (f : Fn) : List UInt8 := kwFunc ++ [32] ++ f.1 ++ [32] ++ intL f.2.1 ++ [32] ++ showL f.2.2
def pkLines (p : Pk) : List (List UInt8) := packLn p.1 :: (p.2.1.map impLn ++ p.2.2.map funcLn)
def showP (p : Pk) : List UInt8 := termJ (pkLines p)
def showPk (p : Pk) : List UInt8 := if pkgB p = true then showP p else []

/-- What a line adds. -/
noncomputable def readLn (p : Pk) (l : List UInt8) : Option Pk :=
  if (splitL 32 l).getD 0 [] = kwPackage ∧ (splitL 32 l).length = 2 then some ((splitL 32 l).getD 1 [], p.2.1, p.2.2)
  else if (splitL 32 l).getD 0 [] = kwImport ∧ (splitL 32 l).length = 2 then some (p.1, p.2.1 ++ [(splitL 32 l).getD 1 []], p.2.2)
  else if (splitL 32 l).getD 0 [] = kwFunc ∧ 3 < (splitL 32 l).length then
    (if readOk (l.drop (((splitL 32 l).getD 1 []).length + ((splitL 32 l).getD 2 []).length + 7)) = true then
      some (p.1, p.2.1, p.2.2 ++ [((splitL 32 l).getD 1 [], readV ((splitL 32 l).getD 2 []), readTV (l.drop (((splitL 32 l).getD 1 []).length + ((splitL 32 l).getD 2 []).length + 7)))])
    else none)
  else none

noncomputable def readLs : Pk → List (List UInt8) → Option Pk
  | p, [] => some p
  | p, l :: r => match readLn p l with | none => none | some q => readLs q r

theorem name_noblank {s : List UInt8} (h : nameB s = true) : ∀ c ∈ s, c ≠ 32 := fun c hc e => by
  have := (name_letters h).2 c hc
  rw [e] at this
  simp at this

theorem two_words (a b : List UInt8) (ha : ∀ c ∈ a, c ≠ 32) (hb : ∀ c ∈ b, c ≠ 32) : splitL 32 (a ++ [32] ++ b) = [a, b] := by
  have := split_join 32 [a, b] (by simp) (by intro x hx; simp at hx; rcases hx with rfl | rfl <;> assumption)
  simpa [joinBy] using this

theorem read_pack (p : Pk) (s : List UInt8) (h : nameB s = true) : readLn p (packLn s) = some (s, p.2.1, p.2.2) := by
  have hs : splitL 32 (packLn s) = [kwPackage, s] := two_words _ _ (by decide) (name_noblank h)
  unfold readLn
  rw [hs]
  simp

theorem read_imp (p : Pk) (s : List UInt8) (h : nameB s = true) : readLn p (impLn s) = some (p.1, p.2.1 ++ [s], p.2.2) := by
  have hs : splitL 32 (impLn s) = [kwImport, s] := two_words _ _ (by decide) (name_noblank h)
  unfold readLn
  rw [hs]
  rw [if_neg (by simp [kwImport, kwPackage]), if_pos (by simp)]
  simp

theorem tree_backL {ns : List Nd} (h : treeB ns = true) : readOk (showL ns) = true ∧ readTV (showL ns) = ns := by
  have hr := readT_show ns h
  have hok : readOk (showL ns) = true := by
    unfold readOk
    rw [hr]
    have h1 := showL_len ns (tree_nodes h)
    have h2 := (tree_end h).1.2
    simp only [Bool.and_eq_true, decide_eq_true_eq, beq_iff_eq]
    exact ⟨by omega, h, trivial⟩
  exact ⟨hok, by unfold readTV; rw [if_pos hok]; exact hr⟩

theorem joinBy_front (b : UInt8) (x y z : List UInt8) (r : List (List UInt8)) (hr : r ≠ []) : joinBy b (x :: y :: z :: r) = x ++ [b] ++ y ++ [b] ++ z ++ [b] ++ joinBy b r := by
  rw [joinBy_cons b x _ (by simp), joinBy_cons b y _ (by simp), joinBy_cons b z _ hr]
  simp

theorem read_func (p : Pk) (f : Fn) (h : funcB f = true) : readLn p (funcLn f) = some (p.1, p.2.1, p.2.2 ++ [f]) := by
  obtain ⟨s, n, t⟩ := f
  unfold funcB at h
  simp only [Bool.and_eq_true] at h
  obtain ⟨hs, hn, ht⟩ := h
  have hnb : 0 ≤ n ∧ n ≤ 3 := by unfold inB at hn; exact of_decide_eq_true hn
  have htl := (tree_end ht).1
  have htn : t.map showN ≠ [] := by intro e; have := congrArg List.length e; simp at this; rw [this] at htl; simp at htl
  have hrd := read_of_int n (by omega) (by omega)
  have hj : funcLn (s, n, t) = joinBy 32 (kwFunc :: s :: intL n :: t.map showN) := by
    rw [joinBy_front 32 _ _ _ _ htn]; rfl
  have hsp : splitL 32 (funcLn (s, n, t)) = kwFunc :: s :: intL n :: t.map showN := by
    rw [hj]
    refine split_join 32 _ (by simp) ?_
    intro x hx
    simp only [List.mem_cons, List.mem_map] at hx
    rcases hx with rfl | rfl | rfl | ⟨m, hm, rfl⟩
    · decide
    · exact name_noblank hs
    · intro c hc e
      have := intL_bytes n (by omega) (by omega) c hc
      rw [e] at this
      simp at this
    · exact show_noblank m (tree_nodes ht m hm)
  have hdrop : (funcLn (s, n, t)).drop (s.length + (intL n).length + 7) = showL t := by
    have e : funcLn (s, n, t) = (kwFunc ++ [32] ++ s ++ [32] ++ intL n ++ [32]) ++ showL t := rfl
    rw [e, List.drop_append_of_le_length (by simp [kwFunc]; omega)]
    rw [List.drop_of_length_le (by simp [kwFunc]; omega)]
    simp
  unfold readLn
  rw [hsp]
  rw [if_neg (by simp [kwFunc, kwPackage]), if_neg (by simp [kwFunc, kwImport]), if_pos (by simp; omega)]
  simp only [List.getD_cons_zero, List.getD_cons_succ]
  rw [hdrop, if_pos (tree_backL ht).1, (tree_backL ht).2, hrd.2]

theorem readLs_imps (r : List (List UInt8)) : ∀ (ims : List (List UInt8)) (p : Pk), (∀ x ∈ ims, nameB x = true) → readLs p (ims.map impLn ++ r) = readLs (p.1, p.2.1 ++ ims, p.2.2) r
  | [], p, _ => by simp
  | s :: ims, p, h => by
    rw [List.map_cons, List.cons_append, readLs, read_imp p s (h s (by simp))]
    simp only
    rw [readLs_imps r ims _ (fun x hx => h x (by simp [hx]))]
    simp

theorem readLs_funcs : ∀ (fs : List Fn) (p : Pk), (∀ f ∈ fs, funcB f = true) → readLs p (fs.map funcLn) = some (p.1, p.2.1, p.2.2 ++ fs)
  | [], p, _ => by simp [readLs]
  | f :: fs, p, h => by
    rw [List.map_cons, readLs, read_func p f (h f (by simp))]
    simp only
    rw [readLs_funcs fs _ (fun x hx => h x (by simp [hx]))]
    simp

theorem pkgB_parts {p : Pk} (h : pkgB p = true) : nameB p.1 = true ∧ (∀ x ∈ p.2.1, nameB x = true) ∧ p.2.1.length ≤ 6 ∧ (1 ≤ p.2.2.length ∧ p.2.2.length ≤ 8) ∧ (∀ f ∈ p.2.2, funcB f = true) := by
  unfold pkgB importsB inB at h
  simp only [Bool.and_eq_true, decide_eq_true_eq] at h
  obtain ⟨⟨h1, ⟨h2, h3, _⟩, h4⟩, h5⟩ := h
  refine ⟨h1, fun x hx => ?_, h3, by omega, fun f hf => ?_⟩
  · obtain ⟨i, hi, rfl⟩ := List.getElem_of_mem hx
    have := h2 i hi
    rwa [List.getD_eq_getElem?_getD, List.getElem?_eq_getElem hi] at this
  · obtain ⟨i, hi, rfl⟩ := List.getElem_of_mem hf
    have := (h5 i hi).1
    rwa [List.getD_eq_getElem?_getD, List.getElem?_eq_getElem hi] at this

/-- What is shown of a right package is read as it, line by line. -/
theorem read_lines {p : Pk} (h : pkgB p = true) : readLs ([], [], []) (pkLines p) = some p := by
  obtain ⟨h1, h2, _, _, h5⟩ := pkgB_parts h
  unfold pkLines
  rw [readLs, read_pack _ _ h1]
  simp only
  rw [readLs_imps _ _ _ h2, readLs_funcs _ _ h5]
  simp

end Go.Proofs.YtibppdepgoiojaaGreatDoor

/-! Plain facts for chapter 7: ReadPackage of ShowPackage is the package. -/
namespace Go.Proofs.YtibppdepgoiojaaGreatDoor
open Go.RowKit

def lineT (x : List UInt8) : List UInt8 := x ++ [10]

def pk0 : Pk := ([], [], [])

theorem name_no10 {s : List UInt8} (h : nameB s = true) : ∀ c ∈ s, c ≠ 10 := fun c hc e => by
  have := (name_letters h).2 c hc
  rw [e] at this
  simp at this

theorem int_no10 (n : Int) (h0 : -2147483648 ≤ n) (h1 : n ≤ 2147483647) : ∀ c ∈ intL n, c ≠ 10 := fun c hc e => by
  have := intL_bytes n h0 h1 c hc
  rw [e] at this
  simp at this

theorem show_no10 (n : Nd) (h : nodeB n = true) : ∀ c ∈ showN n, c ≠ 10 := by
  obtain ⟨k, a, p, f⟩ := n
  have hp := nodeB_iff.1 h
  unfold nodeP at hp
  simp only at hp
  rcases hp with ⟨rfl, ⟨h0, h1⟩, rfl, rfl⟩ | ⟨rfl, ⟨h0, h1⟩, rfl, rfl⟩ | ⟨hk, rfl, rfl, rfl⟩ | ⟨rfl, ⟨h0, h1⟩, hpn, hfn⟩
  · have hs : showN (1, a, [], []) = intL a := by unfold showN; simp
    rw [hs]; exact int_no10 a h0 h1
  · have hs : showN (2, a, [], []) = 36 :: intL a := by unfold showN; simp
    rw [hs]
    intro c hc
    rcases List.mem_cons.1 hc with rfl | hc
    · decide
    · exact int_no10 a (by omega) (by omega) c hc
  · rcases (show k = 3 ∨ k = 4 ∨ k = 5 ∨ k = 6 ∨ k = 7 by omega) with rfl | rfl | rfl | rfl | rfl <;> (unfold showN; simp)
  · have hs : showN (8, a, p, f) = (64 :: p) ++ [46] ++ f ++ [47] ++ intL a := by unfold showN; simp
    rw [hs]
    intro c hc
    simp only [List.mem_append, List.mem_cons, List.not_mem_nil, or_false] at hc
    rcases hc with ((((rfl | hc) | rfl) | hc) | rfl) | hc
    · decide
    · exact name_no10 hpn c hc
    · decide
    · exact name_no10 hfn c hc
    · decide
    · exact int_no10 a (by omega) (by omega) c hc

theorem join_no (d b : UInt8) (hd : b ≠ d) : ∀ (ws : List (List UInt8)), (∀ x ∈ ws, ∀ c ∈ x, c ≠ d) → ∀ c ∈ joinBy b ws, c ≠ d
  | [], _ => by simp [joinBy]
  | [x], h => by simpa [joinBy] using h
  | x :: y :: r, h => by
    intro c hc
    rw [joinBy_cons b x (y :: r) (by simp)] at hc
    simp only [List.mem_append, List.mem_singleton] at hc
    rcases hc with (hc | rfl) | hc
    · exact h x (by simp) c hc
    · exact hd
    · exact join_no d b hd (y :: r) (fun z hz => h z (by simp at hz ⊢; exact Or.inr hz)) c hc

theorem lines_no10 {p : Pk} (h : pkgB p = true) : ∀ x ∈ pkLines p, ∀ c ∈ x, c ≠ 10 := by
  obtain ⟨h1, h2, _, _, h5⟩ := pkgB_parts h
  intro x hx
  unfold pkLines at hx
  simp only [List.mem_cons, List.mem_append, List.mem_map] at hx
  rcases hx with rfl | ⟨s, hs, rfl⟩ | ⟨f, hf, rfl⟩
  · intro c hc
    unfold packLn kwPackage at hc
    rw [List.mem_append] at hc
    rcases hc with hc | hc
    · intro e; rw [e] at hc; revert hc; decide
    · exact name_no10 h1 c hc
  · intro c hc
    unfold impLn kwImport at hc
    rw [List.mem_append] at hc
    rcases hc with hc | hc
    · intro e; rw [e] at hc; revert hc; decide
    · exact name_no10 (h2 s hs) c hc
  · have hfb := h5 f hf
    obtain ⟨s, n, t⟩ := f
    unfold funcB at hfb
    simp only [Bool.and_eq_true] at hfb
    obtain ⟨hs, hn, ht⟩ := hfb
    have hnb : 0 ≤ n ∧ n ≤ 3 := by unfold inB at hn; exact of_decide_eq_true hn
    intro c hc
    unfold funcLn kwFunc at hc
    simp only [List.mem_append] at hc
    rcases hc with (((((hc | hc) | hc) | hc) | hc) | hc) | hc
    · intro e; rw [e] at hc; revert hc; decide
    · intro e; rw [e] at hc; revert hc; decide
    · exact name_no10 hs c hc
    · intro e; rw [e] at hc; revert hc; decide
    · exact int_no10 n (by omega) (by omega) c hc
    · intro e; rw [e] at hc; revert hc; decide
    · exact join_no 10 32 (by decide) _ (by intro y hy; obtain ⟨m, hm, rfl⟩ := List.mem_map.1 hy; exact show_no10 m (tree_nodes ht m hm)) c hc

theorem termJ_len (n : Nat) : ∀ ls : List (List UInt8), (∀ x ∈ ls, x.length ≤ n) → (termJ ls).length ≤ ls.length * (n + 1)
  | [], _ => by simp [termJ]
  | x :: r, h => by
    have e : termJ (x :: r) = x ++ 10 :: termJ r := by simp [termJ]
    have h1 := h x (by simp)
    have h2 := termJ_len n r (fun y hy => h y (by simp [hy]))
    rw [e, List.length_append, List.length_cons, List.length_cons, Nat.succ_mul]
    omega

theorem funcLn_len {f : Fn} (h : funcB f = true) : (funcLn f).length ≤ 1900 := by
  obtain ⟨s, n, t⟩ := f
  unfold funcB at h
  simp only [Bool.and_eq_true] at h
  obtain ⟨hs, hn, ht⟩ := h
  have hnb : 0 ≤ n ∧ n ≤ 3 := by unfold inB at hn; exact of_decide_eq_true hn
  have h1 := showL_len t (tree_nodes ht)
  have h2 := (tree_end ht).1.2
  have h3 := (name_letters hs).1
  have h4 := intL_short n (by omega) (by omega)
  unfold funcLn kwFunc
  simp only [List.length_append, List.length_cons, List.length_nil]
  omega

theorem showP_len {p : Pk} (h : pkgB p = true) : (showP p).length ≤ 20000 := by
  obtain ⟨h1, h2, h3, h4, h5⟩ := pkgB_parts h
  have e : showP p = termJ (packLn p.1 :: p.2.1.map impLn) ++ termJ (p.2.2.map funcLn) := by
    unfold showP pkLines
    rw [← List.cons_append]
    simp [termJ]
  have ha := termJ_len 20 (packLn p.1 :: p.2.1.map impLn) (by
    intro x hx
    simp only [List.mem_cons, List.mem_map] at hx
    rcases hx with rfl | ⟨s, hs, rfl⟩
    · have := (name_letters h1).1
      unfold packLn kwPackage; simp; omega
    · have := (name_letters (h2 s hs)).1
      unfold impLn kwImport; simp; omega)
  have hb := termJ_len 1900 (p.2.2.map funcLn) (by
    intro x hx
    obtain ⟨f, hf, rfl⟩ := List.mem_map.1 hx
    exact funcLn_len (h5 f hf))
  rw [List.length_cons, List.length_map] at ha
  rw [List.length_map] at hb
  rw [e, List.length_append]
  omega

/-- What is read of a text: the package, where there is one. -/
noncomputable def readPB (s : List UInt8) : Bool := decide (s.length ≤ 20000) && (match readLs pk0 (linesL s) with | none => false | some p => pkgB p && (showP p == s))
noncomputable def readPV (s : List UInt8) : Pk := if readPB s = true then (readLs pk0 (linesL s)).getD pk0 else pk0

theorem read_pv (s : List UInt8) : (readPB s = true ∧ pkgB (readPV s) = true ∧ showPk (readPV s) = s) ∨ (readPB s = false ∧ readPV s = pk0) := by
  rcases h : readPB s with _ | _
  · exact Or.inr ⟨rfl, by unfold readPV; rw [if_neg (by rw [h]; simp)]⟩
  · have hv : readPV s = (readLs pk0 (linesL s)).getD pk0 := by unfold readPV; rw [if_pos h]
    unfold readPB at h
    rw [Bool.and_eq_true] at h
    obtain ⟨_, h⟩ := h
    cases he : readLs pk0 (linesL s) with
    | none => rw [he] at h; cases h
    | some p =>
      rw [he] at h hv
      simp only [Bool.and_eq_true, beq_iff_eq] at h
      rw [Option.getD_some] at hv
      rw [hv]
      exact Or.inl ⟨rfl, h.1, by unfold showPk; rw [if_pos h.1]; exact h.2⟩

theorem pack_back {p : Pk} (h : pkgB p = true) : showPk p ≠ [] ∧ readPB (showPk p) = true ∧ readPV (showPk p) = p := by
  have hs : showPk p = showP p := by unfold showPk; rw [if_pos h]
  have hl : linesL (showP p) = pkLines p := lines_term _ (lines_no10 h)
  have hr : readLs pk0 (linesL (showP p)) = some p := by rw [hl]; exact read_lines h
  have hb : readPB (showP p) = true := by
    unfold readPB
    rw [hr, decide_eq_true (showP_len h)]
    simp [h]
  refine ⟨?_, by rw [hs]; exact hb, by rw [hs]; unfold readPV; rw [if_pos hb, hr, Option.getD_some]⟩
  rw [hs]
  unfold showP pkLines packLn kwPackage
  simp [termJ]

theorem pack_not {p : Pk} (h : pkgB p = false) : showPk p = [] := by unfold showPk; rw [if_neg (by rw [h]; simp)]

end Go.Proofs.YtibppdepgoiojaaGreatDoor
