/-
  Parts of one proof, one behind the other: ExpI.
-/
import Derived.Test.YtdjglpcllcjcfaaGreatDoorP33
import Derived.Test.YtdjglpcllcjcfaaGreatDoorP26
import Derived.Test.YtdjglpcllcjcfaaGreatDoorP30

/-! The contract of chapter 9's landed Exports. -/
namespace Go.Proofs.YtdjglpcllcjcfaaGreatDoor
open Go.RowKit

set_option maxHeartbeats 4000000 in
set_option maxRecDepth 100000 in
theorem implExports (nm : List UInt8) (ia : Option Addr) (il ic : Nat) (fa : Option Addr) (fl fc : Nat) (ims : List (List UInt8)) (fs : List Fn) (w : World) (hT : PowIs w) (h : PkOk w nm ia il ic fa fl fc ims fs) :
    Calls Tryz.prog 9 #[.agg #[.string ⟨nm.toArray⟩, .slice ia il ic, .slice fa fl fc]] w fun e w' => ∃ v, e = .returned v ∧ w'.ownsRow w.heap.size 9 1 v (exportsV (nm, ims, fs)).length (strV (exportsV (nm, ims, fs))) ∧ Below w.heap.size w w' := by
  obtain rfl : fs.length = fl := h.f.1
  obtain ⟨bx, hbx⟩ := Box3.new w (.string ⟨nm.toArray⟩) (.slice ia il ic) (.slice fa fs.length fc) 32
  obtain ⟨W1, hW1⟩ : ∃ W1, w.alloc (.cells #[.string ⟨nm.toArray⟩, .slice ia il ic, .slice fa fs.length fc] 32) = W1 := ⟨_, rfl⟩
  have hs1 : W1.heap.size = w.heap.size + 1 := by rw [← hW1]; simp
  rw [hW1] at bx hbx
  have hO0 := World.ownsRow_lit (base := W1.heap.size) (e := 9) (size := 1) W1 #[] 0 (Nat.le_refl _) (by decide) rfl
  have hb2 : Below W1.heap.size W1 (W1.alloc (.cells #[] 9)) := (Below.refl _ _).alloc (Nat.le_refl _) _
  obtain ⟨W2, hW2⟩ : ∃ W2, W1.alloc (.cells #[] 9) = W2 := ⟨_, rfl⟩
  rw [hW2] at hO0 hb2
  have hbw : Below w.heap.size w W2 := hbx.trans (hb2.mono (by omega))
  have p0 := (bx.below hb2).c0
  have p1 := (bx.below hb2).c1
  have p2 := (bx.below hb2).c2
  have HPk : Hid (_) := implPackageOk nm ia il ic fa fs.length fc ims fs W2 (h.below hbw)
  have HZ : Hid (∀ Z, Below W1.heap.size W1 Z → Box3 Z w.heap.size (.string ⟨nm.toArray⟩) (.slice ia il ic) (.slice fa fs.length fc) ∧ FuncsIn Z fa fs.length fs ∧ Below w.heap.size w Z ∧ PowIs Z) := fun Z hz => ⟨bx.below hz, (h.f.below hbx).below hz, hbx.trans (hz.mono hbx.size), (hT.below hbx).below hz⟩
  have HB2 : Hid (Below W1.heap.size W1 W2) := hb2
  have HO2 : Hid (W2.ownsRow W1.heap.size 9 1 (.slice (some ⟨W1.heap.size, 0, none⟩) 0 0) 0 (strV [])) := hO0
  have hflb := h.fl
  clear bx hbx hO0 hb2 hbw h hT
  rcases hp : pkgB (nm, ims, fs) with _ | _
  · have HE : Hid (exportsV (nm, ims, fs) = []) := by exact (by unfold exportsV; rw [if_neg (by rw [hp]; simp)] : exportsV (nm, ims, fs) = [])
    rw [hp] at HPk
    clear hp
    go_enter Tryz.func9, Tryz.ntmps9
    go_wp2_with fail
    refine Calls.mono HPk.out ?_
    rintro e w3 ⟨rfl, hb3⟩
    have HR : Hid (w3.ownsRow W1.heap.size 9 1 (.slice (some ⟨W1.heap.size, 0, none⟩) 0 0) 0 (strV []) ∧ Below w.heap.size w w3) := ⟨own_below HO2.out hb3, (HZ.out w3 (HB2.out.trans (hb3.mono HB2.out.size))).2.2.1⟩
    have HW1 : Hid (w.heap.size ≤ W1.heap.size) := by exact (by omega : w.heap.size ≤ W1.heap.size)
    clear hb3
    go_wp2
    go_ret
    exact ⟨_, rfl, by rw [HE.out]; have h1 := own_base HR.out.1 HW1.out; rw [hs1] at h1; exact h1, HR.out.2⟩
  · have HE : Hid (exportsV (nm, ims, fs) = exports9 fs) := by exact (by unfold exportsV; rw [if_pos hp] : exportsV (nm, ims, fs) = exports9 fs)
    have HSm : Hid (∀ k, k < fs.length → (fs.getD k fn0).1.length ≤ 8 ∧ 0 ≤ (fs.getD k fn0).2.1 ∧ (fs.getD k fn0).2.1 ≤ 3) := fun k hk => by
      have h1 := (pkgB_parts hp).2.2.2.2 (fs.getD k fn0) (by simp [List.getD, hk])
      unfold funcB inB at h1
      rw [Bool.and_eq_true, Bool.and_eq_true, decide_eq_true_eq] at h1
      exact ⟨(name_letters h1.1).1.2, h1.2.1.1, h1.2.1.2⟩
    have hf8 : fs.length ≤ 8 := (pkgB_parts hp).2.2.2.1.2
    rw [hp] at HPk
    clear hp
    go_enter Tryz.func9, Tryz.ntmps9
    go_wp2_with fail
    refine Calls.mono HPk.out ?_
    rintro e w3 ⟨rfl, hb3⟩
    have HO3 : Hid (w3.ownsRow W1.heap.size 9 1 (.slice (some ⟨W1.heap.size, 0, none⟩) 0 0) 0 (strV (exports9 (fs.take 0)))) := own_below HO2.out hb3
    have HB3 : Hid (Below W1.heap.size W1 w3) := HB2.out.trans (hb3.mono HB2.out.size)
    have hO3 := HO3.out
    rw [hs1] at hO3
    have HO4 : Hid (w3.ownsRow (w.heap.size + 1) 9 1 (.slice (some ⟨w.heap.size + 1, 0, none⟩) 0 0) 0 (strV (exports9 (fs.take 0)))) := hO3
    clear hb3 HB2 HO2 HPk p0 p1 p2 HO3 hO3
    have p2 := (HZ.out w3 HB3.out).1.c2
    go_wp2
    go_loopw [3, 14] (fun ov iv wr => ∃ (k : Nat) (oa : Option Addr) (oc : Nat), ov = .slice oa k oc ∧ iv = .int .i64 (k : Int) ∧ k ≤ fs.length ∧ Hid (wr.ownsRow (w.heap.size + 1) 9 1 (.slice oa k oc) k (strV (exports9 (fs.take k)))) ∧ Hid (Below W1.heap.size W1 wr)) (fun _ iv _ => fs.length - (intOf iv).toNat)
    case atStart => exact ⟨0, _, 0, rfl, rfl, by omega, HO4, HB3⟩
    case round =>
      obtain ⟨k, oa, oc, rfl, rfl, hk, HO, HB⟩ := hrel
      clear HO4 HB3 p2
      obtain ⟨bx, hfi, hbw, hT⟩ := HZ.out wr HB.out
      by_cases hlt : (k : Int) < (fs.length : Int)
      · have hk2 : k < fs.length := by omega
        obtain ⟨b, off, rfl, hbl, c0, c1, ta, tl, tc, c2, _⟩ := hfi.2 k hk2
        have het := exp_take fs hk2
        obtain ⟨hs8, hA0, hA3⟩ := HSm.out k hk2
        obtain ⟨f, hfe⟩ : ∃ f, fs.getD k fn0 = f := ⟨_, rfl⟩
        rw [hfe] at c0 c1 het hs8 hA0 hA3
        obtain ⟨x, A, tt⟩ := f
        simp only at c0 c1 hs8 hA0 hA3
        have HET : Hid (exports9 (fs.take (k + 1)) = exports9 (fs.take k) ++ [x ++ 47 :: intL A]) := by exact (by rw [het]; simp [exp9] : exports9 (fs.take (k + 1)) = exports9 (fs.take k) ++ [x ++ 47 :: intL A])
        have hil4 : (intL A).length ≤ 11 := intL_short A (by omega) (by omega)
        have e1 : ∀ W : World, (Op.stringOp .add ⟨x.toArray⟩ ⟨#[47]⟩).run Tryz.prog W = .ok (.string ⟨(x ++ [47]).toArray⟩) W := fun W => by
          have := run_string_add_lists (P := Tryz.prog) W x [47] (by omega) (by simp)
          simpa using this
        have e2 : ∀ W : World, (Op.stringOp .add ⟨(x ++ [47]).toArray⟩ ⟨(intL A).toArray⟩).run Tryz.prog W = .ok (.string ⟨(x ++ 47 :: intL A).toArray⟩) W := fun W => by
          have := run_string_add_lists (P := Tryz.prog) W (x ++ [47]) (intL A) (by simp; omega) (by omega)
          simpa using this
        obtain ⟨bg, hbg⟩ := Box3.new wr (.string ⟨x.toArray⟩) (.int .i64 A) (.slice ta tl tc) 42
        obtain ⟨X, hX⟩ : ∃ X, wr.alloc (.cells #[.string ⟨x.toArray⟩, .int .i64 A, .slice ta tl tc] 42) = X := ⟨_, rfl⟩
        obtain ⟨G, hG⟩ : ∃ G, wr.heap.size = G := ⟨_, rfl⟩
        rw [hX] at bg hbg
        rw [hG] at bg
        have HTX : Hid (PowIs X) := hT.below hbg
        have HOX : Hid (X.ownsRow (w.heap.size + 1) 9 1 (.slice oa k oc) k (strV (exports9 (fs.take k)))) := own_below HO.out hbg
        have HBX : Hid (Below W1.heap.size W1 X) := HB.out.trans (hbg.mono HB.out.size)
        have d0 := bg.c0
        have d1 := bg.c1
        have hGl : G < X.heap.size := bg.lt
        clear hfi hbw bx het hfe hT bg hbg HO HB
        go_upto_region 7 with fail
        go_region_law (first | (refine step_append_run (by rfl) (.tmp 18) (.tmp 26) 29 (by rfl) _ _ _ (by rfl) (by rfl) hr ?_) | (go_simp; go_at_call 29; refine (fmtInt A _ (by exact HTX.out) (by omega) (by omega)).mono ?_; rintro e w5 ⟨rfl, hb5⟩; have hb5' : Below X.heap.size X w5 := ⟨hb5.os, hb5.tape, hb5.output, hb5.size, hb5.block⟩; have d05 := (hb5'.cell (p := ⟨G, 0, none⟩) hGl).trans d0; have d15 := (hb5'.cell (p := ⟨G, 1, none⟩) hGl).trans d1; have hO5 := own_below HOX.out hb5'; have hB5 := HBX.out.trans (hb5'.mono HBX.out.size); have hbs5 : w.heap.size + 1 ≤ w5.heap.size := (by have := hB5.size; omega); obtain ⟨v', Y, hr, ho, hg⟩ := push_text (x ++ 47 :: intL A) hO5 hbs5 (by omega); rw [← HET.out] at ho; obtain ⟨g', c', rfl⟩ := own_some ho (by omega); have HOY : Hid (Y.ownsRow (w.heap.size + 1) 9 1 (.slice (some ⟨g', 0, none⟩) (k + 1) c') (k + 1) (strV (exports9 (fs.take (k + 1))))) := ho; have HBY : Hid (Below W1.heap.size W1 Y) := hB5.grown hg hB5.size (fun q e => (by have := (hO5.lt q e).1; omega)); clear ho hg hO5 hB5 hb5 hb5'; dsimp only))
        all_goals
          go_wp2
          go_roundw
          case rel => exact ⟨k + 1, _, c', rfl, by go_num, by omega, HOY, HBY⟩
          case measure => simp [intOf]; omega
      · have HR : Hid (wr.ownsRow w.heap.size 9 1 (.slice oa k oc) (exports9 fs).length (strV (exports9 fs))) := by
          have h1 := own_base HO.out (show w.heap.size ≤ w.heap.size + 1 by omega)
          rw [show fs.take k = fs from List.take_of_length_le (by omega)] at h1
          rw [show (exports9 fs).length = k by unfold exports9; rw [List.length_map]; omega]
          exact h1
        have HE2 : Hid (Below w.heap.size w wr) := hbw
        clear hfi hbw bx hT
        go_wp2
        go_ret
        exact ⟨_, rfl, by rw [HE.out]; exact HR.out, HE2.out⟩

end Go.Proofs.YtdjglpcllcjcfaaGreatDoor
