/-
  Parts of one proof, one behind the other: ImgS2.
-/
import Derived.Test.YtogobeegibngiaaGreatDoorP22
import Derived.Test.YtogobeegibngiaaGreatDoorP15
import Derived.Deep.RegionHeld
import Derived.RegionTactic
import Derived.Deep.CutRange

/-! The contract of chapter 14's specification: ImageOk. -/
namespace Go.Proofs.YtogobeegibngiaaGreatDoor
open Go.RowKit

theorem cls_all {rs : List Rt} {c : List In13} (h : ∀ j, j < c.length → clsB rs (c.getD j in0) = true) : c.all (clsB rs) = true := by
  rw [List.all_eq_true]
  intro i hi
  obtain ⟨j, hj, rfl⟩ := List.getElem_of_mem hi
  have := h j hj
  simpa only [List.getD, List.getElem?_eq_getElem hj, Option.getD_some] using this
theorem cls_no {rs : List Rt} {c : List In13} {j : Nat} (hj : j < c.length) (h : clsB rs (c.getD j in0) = false) : c.all (clsB rs) = false := by
  rw [Bool.eq_false_iff]
  intro e
  have := List.all_eq_true.1 e c[j] (List.getElem_mem hj)
  simp only [List.getD, List.getElem?_eq_getElem hj, Option.getD_some] at h
  rw [h] at this
  cases this
set_option maxHeartbeats 20000000 in
set_option maxRecDepth 100000 in
theorem specImageOk (a : Option Addr) (len cap : Nat) (rs : List Rt) (w : World) (hin : RtsIn w a len rs) (hsh : ShortR rs) (hlen : len ≤ 1048576) :
    Calls Tryz.prog 13 #[.agg #[.slice a len cap]] w fun e w' => e = .returned (.bool (imageB rs)) ∧ Below w.heap.size w w' := by
  obtain rfl : rs.length = len := hin.1
  obtain ⟨W, hW⟩ : ∃ W, w.alloc (.cells #[.slice a rs.length cap] 26) = W := ⟨_, rfl⟩
  have hbW : Below w.heap.size w W := by rw [← hW]; exact (Below.refl _ _).alloc (Nat.le_refl _) _
  have hA : W.heap[w.heap.size]? = some (.cells #[.slice a rs.length cap] 26) := by rw [← hW]; exact heap_alloc_new w _
  obtain ⟨D, hD⟩ : ∃ D, w.heap.size = D := ⟨_, rfl⟩
  rw [hD] at hA
  have k0 : W.cell? ⟨D, 0, none⟩ = some (.slice a rs.length cap) := by simp [World.cell?, hA]
  have hDl : D < W.heap.size := World.block_lt_of_cell? W ⟨D, 0, none⟩ k0
  have HK : Hid (∀ Z, Below W.heap.size W Z → Z.cell? ⟨D, 0, none⟩ = some (.slice a rs.length cap)) := fun Z hz => (hz.cell (p := ⟨D, 0, none⟩) hDl).trans k0
  have HI : Hid (∀ Z, Below W.heap.size W Z → RtsIn Z a rs.length rs) := fun Z hz => (hin.below hbW).below hz
  have HA : Hid (∀ Z (s : List UInt8), Below W.heap.size W Z → Calls Tryz.prog 30 #[.slice a rs.length cap, .string ⟨s.toArray⟩] Z fun e w' => e = .returned (.int .i64 (at14 rs s)) ∧ w' = Z) := fun Z s hz => specAt14 a rs.length cap rs s Z ((hin.below hbW).below hz) hlen
  have HS : Hid (ShortR rs) := hsh
  have HB : Hid (Below w.heap.size w W) := hbW
  clear hin hsh hbW hA hDl
  go_enter Tryz.func13, Tryz.ntmps13
  go_wp2
  go_loopw [3] (fun iv wr => ∃ j : Nat, iv = .int .i64 (j : Int) ∧ j ≤ rs.length ∧ Hid (∀ u, u < j → oneB rs u) ∧ Hid (Below W.heap.size W wr)) (fun iv _ => rs.length - (intOf iv).toNat)
  case atStart => exact ⟨0, rfl, Nat.zero_le _, fun u hu => by omega, Below.refl _ _⟩
  case round =>
    obtain ⟨j, rfl, hj, HO, HBr⟩ := hrel
    clear k0
    have k0 := HK.out wr HBr.out
    by_cases hlt : (j : Int) < (rs.length : Int)
    · obtain ⟨b, off, rfl, hbl, c0, c1, ca, cl, cc, c2, hci⟩ := (HI.out wr HBr.out).2 j (by omega)
      have hshj := HS.out j
      obtain ⟨x, hx⟩ : ∃ x, rs.getD j rt0 = x := ⟨_, rfl⟩
      rw [hx] at c0 c1 hci hshj
      obtain ⟨n, ar, c⟩ := x
      simp only at c0 c1 hci hshj
      have hcl : c.length = cl := hci.1
      obtain ⟨V, hV⟩ : ∃ V, wr.alloc (.cells #[.string ⟨n.toArray⟩, .int .i64 ar, .slice ca cl cc] 50) = V := ⟨_, rfl⟩
      have hbV : Below wr.heap.size wr V := by rw [← hV]; exact (Below.refl _ _).alloc (Nat.le_refl _) _
      have hA : V.heap[wr.heap.size]? = some (.cells #[.string ⟨n.toArray⟩, .int .i64 ar, .slice ca cl cc] 50) := by rw [← hV]; exact heap_alloc_new wr _
      obtain ⟨N, hN⟩ : ∃ N, wr.heap.size = N := ⟨_, rfl⟩
      rw [hN] at hA
      have n0 : V.cell? ⟨N, 0, none⟩ = some (.string ⟨n.toArray⟩) := by simp [World.cell?, hA]
      have n1 : V.cell? ⟨N, 1, none⟩ = some (.int .i64 ar) := by simp [World.cell?, hA]
      have n2 : V.cell? ⟨N, 2, none⟩ = some (.slice ca cl cc) := by simp [World.cell?, hA]
      have hNl : N < V.heap.size := World.block_lt_of_cell? V ⟨N, 0, none⟩ n0
      have hBV := HBr.out.trans (hbV.mono HBr.out.size)
      have HBV : Hid (Below W.heap.size W V) := hBV
      have HZ : Hid (∀ Z, Below V.heap.size V Z → Z.cell? ⟨N, 0, none⟩ = some (.string ⟨n.toArray⟩) ∧ Z.cell? ⟨N, 1, none⟩ = some (.int .i64 ar) ∧ Z.cell? ⟨N, 2, none⟩ = some (.slice ca cl cc) ∧ Z.cell? ⟨D, 0, none⟩ = some (.slice (some ⟨b, off, none⟩) rs.length cap)) := fun Z hz => ⟨(hz.cell (p := ⟨N, 0, none⟩) hNl).trans n0, (hz.cell (p := ⟨N, 1, none⟩) hNl).trans n1, (hz.cell (p := ⟨N, 2, none⟩) hNl).trans n2, HK.out Z (HBV.out.trans (hz.mono HBV.out.size))⟩
      have HCi : Hid (∀ Z, Below V.heap.size V Z → InsIn Z ca cl c) := fun Z hz => (hci.below hbV).below hz
      have HCk : Hid (∀ Z, Below V.heap.size V Z → Calls Tryz.prog 29 #[.agg #[.string ⟨n.toArray⟩, .int .i64 ar, .slice ca cl cc]] Z fun e w' => e = .returned (.bool (rtB (n, ar, c))) ∧ Below Z.heap.size Z w') := fun Z hz => specRoutine n ar ca cl cc c Z ((hci.below hbV).below hz) hshj.2.2 (by rw [← hcl]; exact hshj.2.1) hshj.1
      have HX0 : Hid (rs.getD j rt0 = (n, ar, c)) := hx
      have HCl : Hid (c.length = cl) := hcl
      have hcl2 : cl ≤ 1048576 := by rw [← hcl]; exact hshj.2.1
      have HPv : Hid (∀ p, p + 1 = j → ∀ Z, Below V.heap.size V Z → Z.cell? ⟨b, off + p * 3, none⟩ = some (.string ⟨(rs.getD p rt0).1.toArray⟩)) := fun p hp Z hz => by
        obtain ⟨b', off', e, _, d0, _⟩ := (HI.out Z (HBV.out.trans (hz.mono HBV.out.size))).2 p (by omega)
        injection e with e
        injection e with e1 e2 _
        subst e1 e2
        exact d0
      clear hci hbV hA n0 n1 n2 hNl hBV hx hshj hcl
      rcases hrb : rtB (n, ar, c) with _ | _
      · rw [hrb] at HCk
        have HNo : Hid (imageB rs = false) := image_no (j := j) (by omega) (fun e => by have := e.1; rw [HX0.out, hrb] at this; cases this)
        clear hrb
        go_wp2
        refine wp_region_held_drew (S := fun Z => Below V.heap.size V Z) (by kernel_rfl) (by exact ⟨rfl, rfl, rfl, Nat.le_refl _, fun _ _ => rfl⟩) (fun hHeld => ?_)
        refine wpAnyH_take (i := 0) (oi := ⟨some 19, _, _, _, _, _⟩) (v := ?v1) rfl (by kernel_rfl) (by kernel_rfl) (by kernel_rfl) (fun _ _ _ h => h) (Or.inl ⟨by rfl, ?hy1⟩) (by assumption) ?rest1
        case hy1 => (intro wq hSw; obtain ⟨z0, z1, z2, z3⟩ := HZ.out wq hSw; clear hSw; first | (go_simp; done) | (go_simp; with_reducible rfl))
        simp only [Act.put, List.setIfInBounds_toArray, List.set_cons_zero, List.set_cons_succ]
        refine wpAnyH_ready (rs := [1]) (by kernel_rfl) (by simp) ?_
        refine AllReadyH.cons rfl (fun K hK => ?_) AllReadyH.nil
        go_simp
        refine Calls.mono (HCk.out _ hHeld) ?_
        rintro e V1 ⟨rfl, hb1⟩
        dsimp only
        refine hK.out _ _ (by exact hHeld.trans (hb1.mono hHeld.size)) (fun hHeld => ?_)
        clear hK K
        (try simp only [Act.put, List.setIfInBounds_toArray, List.set_cons_zero, List.set_cons_succ])
        refine wpAnyH_take (i := 2) (oi := ⟨some 21, _, _, _, _, _⟩) (v := ?v2) rfl (by kernel_rfl) (by kernel_rfl) (by kernel_rfl) (fun _ _ _ h => h) (Or.inl ⟨by rfl, ?hy2⟩) (by assumption) ?rest2
        case hy2 => (intro wq hSw; obtain ⟨z0, z1, z2, z3⟩ := HZ.out wq hSw; clear hSw; first | (go_simp; done) | (go_simp; with_reducible rfl))
        simp only [Act.put, List.setIfInBounds_toArray, List.set_cons_zero, List.set_cons_succ]
        refine wpAnyH_take (i := 3) (oi := ⟨some 22, _, _, _, _, _⟩) (v := ?v3) rfl (by kernel_rfl) (by kernel_rfl) (by kernel_rfl) (fun _ _ _ h => h) (Or.inl ⟨by rfl, ?hy3⟩) (by assumption) ?rest3
        case hy3 => (intro wq hSw; obtain ⟨z0, z1, z2, z3⟩ := HZ.out wq hSw; clear hSw; first | (go_simp; done) | (go_simp; with_reducible rfl))
        simp only [Act.put, List.setIfInBounds_toArray, List.set_cons_zero, List.set_cons_succ]
        refine wpAnyH_take (i := 4) (oi := ⟨some 23, _, _, _, _, _⟩) (v := undef) rfl (by kernel_rfl) (by kernel_rfl) (by kernel_rfl) (fun _ _ _ h => h) (Or.inr ⟨by rfl, rfl⟩) (by assumption) ?_
        simp only [Act.put, List.setIfInBounds_toArray, List.set_cons_zero, List.set_cons_succ]
        refine wpAnyH_take (i := 5) (oi := ⟨some 24, _, _, _, _, _⟩) (v := undef) rfl (by kernel_rfl) (by kernel_rfl) (by kernel_rfl) (fun _ _ _ h => h) (Or.inr ⟨by rfl, rfl⟩) (by assumption) ?_
        simp only [Act.put, List.setIfInBounds_toArray, List.set_cons_zero, List.set_cons_succ]
        refine wpAnyH_take (i := 6) (oi := ⟨some 25, _, _, _, _, _⟩) (v := undef) rfl (by kernel_rfl) (by kernel_rfl) (by kernel_rfl) (fun _ _ _ h => h) (Or.inr ⟨by rfl, rfl⟩) (by assumption) ?_
        simp only [Act.put, List.setIfInBounds_toArray, List.set_cons_zero, List.set_cons_succ]
        refine wpAnyH_take (i := 7) (oi := ⟨some 26, _, _, _, _, _⟩) (v := undef) rfl (by kernel_rfl) (by kernel_rfl) (by kernel_rfl) (fun _ _ _ h => h) (Or.inr ⟨by rfl, rfl⟩) (by assumption) ?_
        simp only [Act.put, List.setIfInBounds_toArray, List.set_cons_zero, List.set_cons_succ]
        refine wpAnyH_take (i := 8) (oi := ⟨some 27, _, _, _, _, _⟩) (v := undef) rfl (by kernel_rfl) (by kernel_rfl) (by kernel_rfl) (fun _ _ _ h => h) (Or.inr ⟨by rfl, rfl⟩) (by assumption) ?_
        simp only [Act.put, List.setIfInBounds_toArray, List.set_cons_zero, List.set_cons_succ]
        refine wpAnyH_take (i := 9) (oi := ⟨some 28, _, _, _, _, _⟩) (v := undef) rfl (by kernel_rfl) (by kernel_rfl) (by kernel_rfl) (fun _ _ _ h => h) (Or.inr ⟨by rfl, rfl⟩) (by assumption) ?_
        simp only [Act.put, List.setIfInBounds_toArray, List.set_cons_zero, List.set_cons_succ]
        refine wpAnyH_take (i := 10) (oi := ⟨some 29, _, _, _, _, _⟩) (v := undef) rfl (by kernel_rfl) (by kernel_rfl) (by kernel_rfl) (fun _ _ _ h => h) (Or.inr ⟨by rfl, rfl⟩) (by assumption) ?_
        simp only [Act.put, List.setIfInBounds_toArray, List.set_cons_zero, List.set_cons_succ]
        refine wpAnyH_take (i := 11) (oi := ⟨some 30, _, _, _, _, _⟩) (v := undef) rfl (by kernel_rfl) (by kernel_rfl) (by kernel_rfl) (fun _ _ _ h => h) (Or.inr ⟨by rfl, rfl⟩) (by assumption) ?_
        simp only [Act.put, List.setIfInBounds_toArray, List.set_cons_zero, List.set_cons_succ]
        refine wpAnyH_take (i := 12) (oi := ⟨some 31, _, _, _, _, _⟩) (v := undef) rfl (by kernel_rfl) (by kernel_rfl) (by kernel_rfl) (fun _ _ _ h => h) (Or.inr ⟨by rfl, rfl⟩) (by assumption) ?_
        simp only [Act.put, List.setIfInBounds_toArray, List.set_cons_zero, List.set_cons_succ]
        refine wpAnyH_take (i := 13) (oi := ⟨some 32, _, _, _, _, _⟩) (v := undef) rfl (by kernel_rfl) (by kernel_rfl) (by kernel_rfl) (fun _ _ _ h => h) (Or.inr ⟨by rfl, rfl⟩) (by assumption) ?_
        simp only [Act.put, List.setIfInBounds_toArray, List.set_cons_zero, List.set_cons_succ]
        refine wpAnyH_take (i := 14) (oi := ⟨some 33, _, _, _, _, _⟩) (v := undef) rfl (by kernel_rfl) (by kernel_rfl) (by kernel_rfl) (fun _ _ _ h => h) (Or.inr ⟨by rfl, rfl⟩) (by assumption) ?_
        simp only [Act.put, List.setIfInBounds_toArray, List.set_cons_zero, List.set_cons_succ]
        refine wpAnyH_take (i := 15) (oi := ⟨some 34, _, _, _, _, _⟩) (v := undef) rfl (by kernel_rfl) (by kernel_rfl) (by kernel_rfl) (fun _ _ _ h => h) (Or.inr ⟨by rfl, rfl⟩) (by assumption) ?_
        simp only [Act.put, List.setIfInBounds_toArray, List.set_cons_zero, List.set_cons_succ]
        refine wpAnyH_take (i := 16) (oi := ⟨some 35, _, _, _, _, _⟩) (v := undef) rfl (by kernel_rfl) (by kernel_rfl) (by kernel_rfl) (fun _ _ _ h => h) (Or.inr ⟨by rfl, rfl⟩) (by assumption) ?_
        simp only [Act.put, List.setIfInBounds_toArray, List.set_cons_zero, List.set_cons_succ]
        refine wpAnyH_take (i := 17) (oi := ⟨some 36, _, _, _, _, _⟩) (v := undef) rfl (by kernel_rfl) (by kernel_rfl) (by kernel_rfl) (fun _ _ _ h => h) (Or.inr ⟨by rfl, rfl⟩) (by assumption) ?_
        simp only [Act.put, List.setIfInBounds_toArray, List.set_cons_zero, List.set_cons_succ]
        refine wpAnyH_take (i := 18) (oi := ⟨some 37, _, _, _, _, _⟩) (v := ?v4) rfl (by kernel_rfl) (by kernel_rfl) (by kernel_rfl) (fun _ _ _ h => h) (Or.inl ⟨by rfl, ?hy4⟩) (by assumption) ?rest4
        case hy4 => (intro wq hSw; obtain ⟨z0, z1, z2, z3⟩ := HZ.out wq hSw; clear hSw; first | (go_simp; done) | (go_simp; with_reducible rfl))
        simp only [Act.put, List.setIfInBounds_toArray, List.set_cons_zero, List.set_cons_succ]
        have HV1 : Hid (Below V.heap.size V V1) := hHeld
        refine wpAnyH_done (by kernel_rfl) ?_ _
        clear hHeld hb1
        go_wp2
        go_ret
        exact ⟨by rw [HNo.out]; rfl, hD ▸ (HB.out.trans ((HBV.out.trans (HV1.out.mono HBV.out.size)).mono HB.out.size))⟩
      · rw [hrb] at HCk
        have HRb : Hid (rtB (n, ar, c) = true) := hrb
        clear hrb
        go_wp2
        go_cut [37] from 19 to 36 (fun v wx => ∃ bv : Bool, v = .bool bv ∧ Hid (Below V.heap.size V wx) ∧ Hid (bv = true → imageB rs = false) ∧ Hid (bv = false → 0 < j → leT n (rs.getD (j - 1) rt0).1 = false))
        case first =>
          by_cases hj0 : j = 0
          · have hj1 : ¬ ((j : Int) > 0) := by omega
            have hj3 : ¬ (0 < j) := by omega
            have HJ0 : Hid (j = 0) := hj0
            clear hj0
            refine wp_region_held_drew (S := fun Z => Below V.heap.size V Z) (by kernel_rfl) (by exact ⟨rfl, rfl, rfl, Nat.le_refl _, fun _ _ => rfl⟩) (fun hHeld => ?_)
            refine wpAnyH_take (i := 0) (oi := ⟨some 19, _, _, _, _, _⟩) (v := ?v5) rfl (by kernel_rfl) (by kernel_rfl) (by kernel_rfl) (fun _ _ _ h => h) (Or.inl ⟨by rfl, ?hy5⟩) (by assumption) ?rest5
            case hy5 => (intro wq hSw; obtain ⟨z0, z1, z2, z3⟩ := HZ.out wq hSw; clear hSw; first | (go_simp; done) | (go_simp; with_reducible rfl))
            simp only [Act.put, List.setIfInBounds_toArray, List.set_cons_zero, List.set_cons_succ]
            refine wpAnyH_ready (rs := [1]) (by kernel_rfl) (by simp) ?_
            refine AllReadyH.cons rfl (fun K hK => ?_) AllReadyH.nil
            go_simp
            refine Calls.mono (HCk.out _ hHeld) ?_
            rintro e V1 ⟨rfl, hb1⟩
            dsimp only
            refine hK.out _ _ (by exact hHeld.trans (hb1.mono hHeld.size)) (fun hHeld => ?_)
            clear hK K
            (try simp only [Act.put, List.setIfInBounds_toArray, List.set_cons_zero, List.set_cons_succ])
            refine wpAnyH_take (i := 2) (oi := ⟨some 21, _, _, _, _, _⟩) (v := ?v6) rfl (by kernel_rfl) (by kernel_rfl) (by kernel_rfl) (fun _ _ _ h => h) (Or.inl ⟨by rfl, ?hy6⟩) (by assumption) ?rest6
            case hy6 => (intro wq hSw; obtain ⟨z0, z1, z2, z3⟩ := HZ.out wq hSw; clear hSw; first | (go_simp; done) | (go_simp; with_reducible rfl))
            simp only [Act.put, List.setIfInBounds_toArray, List.set_cons_zero, List.set_cons_succ]
            refine wpAnyH_take (i := 3) (oi := ⟨some 22, _, _, _, _, _⟩) (v := ?v7) rfl (by kernel_rfl) (by kernel_rfl) (by kernel_rfl) (fun _ _ _ h => h) (Or.inl ⟨by rfl, ?hy7⟩) (by assumption) ?rest7
            case hy7 => (intro wq hSw; obtain ⟨z0, z1, z2, z3⟩ := HZ.out wq hSw; clear hSw; first | (go_simp; done) | (go_simp; with_reducible rfl))
            simp only [Act.put, List.setIfInBounds_toArray, List.set_cons_zero, List.set_cons_succ]
            refine wpAnyH_take (i := 4) (oi := ⟨some 23, _, _, _, _, _⟩) (v := ?v8) rfl (by kernel_rfl) (by kernel_rfl) (by kernel_rfl) (fun _ _ _ h => h) (Or.inl ⟨by rfl, ?hy8⟩) (by assumption) ?rest8
            case hy8 => (intro wq hSw; obtain ⟨z0, z1, z2, z3⟩ := HZ.out wq hSw; clear hSw; first | (go_simp; done) | (go_simp; with_reducible rfl))
            simp only [Act.put, List.setIfInBounds_toArray, List.set_cons_zero, List.set_cons_succ]
            refine wpAnyH_take (i := 5) (oi := ⟨some 24, _, _, _, _, _⟩) (v := ?v9) rfl (by kernel_rfl) (by kernel_rfl) (by kernel_rfl) (fun _ _ _ h => h) (Or.inl ⟨by rfl, ?hy9⟩) (by assumption) ?rest9
            case hy9 => (intro wq hSw; obtain ⟨z0, z1, z2, z3⟩ := HZ.out wq hSw; clear hSw; first | (go_simp; done) | (go_simp; with_reducible rfl))
            simp only [Act.put, List.setIfInBounds_toArray, List.set_cons_zero, List.set_cons_succ]
            refine wpAnyH_take (i := 6) (oi := ⟨some 25, _, _, _, _, _⟩) (v := ?v10) rfl (by kernel_rfl) (by kernel_rfl) (by kernel_rfl) (fun _ _ _ h => h) (Or.inl ⟨by rfl, ?hy10⟩) (by assumption) ?rest10
            case hy10 => (intro wq hSw; obtain ⟨z0, z1, z2, z3⟩ := HZ.out wq hSw; clear hSw; first | (go_simp; done) | (go_simp; with_reducible rfl))
            simp only [Act.put, List.setIfInBounds_toArray, List.set_cons_zero, List.set_cons_succ]
            refine wpAnyH_take (i := 7) (oi := ⟨some 26, _, _, _, _, _⟩) (v := undef) rfl (by kernel_rfl) (by kernel_rfl) (by kernel_rfl) (fun _ _ _ h => h) (Or.inr ⟨by rfl, rfl⟩) (by assumption) ?_
            simp only [Act.put, List.setIfInBounds_toArray, List.set_cons_zero, List.set_cons_succ]
            refine wpAnyH_take (i := 8) (oi := ⟨some 27, _, _, _, _, _⟩) (v := undef) rfl (by kernel_rfl) (by kernel_rfl) (by kernel_rfl) (fun _ _ _ h => h) (Or.inr ⟨by rfl, rfl⟩) (by assumption) ?_
            simp only [Act.put, List.setIfInBounds_toArray, List.set_cons_zero, List.set_cons_succ]
            refine wpAnyH_take (i := 9) (oi := ⟨some 28, _, _, _, _, _⟩) (v := undef) rfl (by kernel_rfl) (by kernel_rfl) (by kernel_rfl) (fun _ _ _ h => h) (Or.inr ⟨by rfl, rfl⟩) (by assumption) ?_
            simp only [Act.put, List.setIfInBounds_toArray, List.set_cons_zero, List.set_cons_succ]
            refine wpAnyH_take (i := 10) (oi := ⟨some 29, _, _, _, _, _⟩) (v := undef) rfl (by kernel_rfl) (by kernel_rfl) (by kernel_rfl) (fun _ _ _ h => h) (Or.inr ⟨by rfl, rfl⟩) (by assumption) ?_
            simp only [Act.put, List.setIfInBounds_toArray, List.set_cons_zero, List.set_cons_succ]
            refine wpAnyH_take (i := 11) (oi := ⟨some 30, _, _, _, _, _⟩) (v := undef) rfl (by kernel_rfl) (by kernel_rfl) (by kernel_rfl) (fun _ _ _ h => h) (Or.inr ⟨by rfl, rfl⟩) (by assumption) ?_
            simp only [Act.put, List.setIfInBounds_toArray, List.set_cons_zero, List.set_cons_succ]
            refine wpAnyH_take (i := 12) (oi := ⟨some 31, _, _, _, _, _⟩) (v := undef) rfl (by kernel_rfl) (by kernel_rfl) (by kernel_rfl) (fun _ _ _ h => h) (Or.inr ⟨by rfl, rfl⟩) (by assumption) ?_
            simp only [Act.put, List.setIfInBounds_toArray, List.set_cons_zero, List.set_cons_succ]
            refine wpAnyH_take (i := 13) (oi := ⟨some 32, _, _, _, _, _⟩) (v := undef) rfl (by kernel_rfl) (by kernel_rfl) (by kernel_rfl) (fun _ _ _ h => h) (Or.inr ⟨by rfl, rfl⟩) (by assumption) ?_
            simp only [Act.put, List.setIfInBounds_toArray, List.set_cons_zero, List.set_cons_succ]
            refine wpAnyH_take (i := 14) (oi := ⟨some 33, _, _, _, _, _⟩) (v := undef) rfl (by kernel_rfl) (by kernel_rfl) (by kernel_rfl) (fun _ _ _ h => h) (Or.inr ⟨by rfl, rfl⟩) (by assumption) ?_
            simp only [Act.put, List.setIfInBounds_toArray, List.set_cons_zero, List.set_cons_succ]
            refine wpAnyH_take (i := 15) (oi := ⟨some 34, _, _, _, _, _⟩) (v := undef) rfl (by kernel_rfl) (by kernel_rfl) (by kernel_rfl) (fun _ _ _ h => h) (Or.inr ⟨by rfl, rfl⟩) (by assumption) ?_
            simp only [Act.put, List.setIfInBounds_toArray, List.set_cons_zero, List.set_cons_succ]
            refine wpAnyH_take (i := 16) (oi := ⟨some 35, _, _, _, _, _⟩) (v := undef) rfl (by kernel_rfl) (by kernel_rfl) (by kernel_rfl) (fun _ _ _ h => h) (Or.inr ⟨by rfl, rfl⟩) (by assumption) ?_
            simp only [Act.put, List.setIfInBounds_toArray, List.set_cons_zero, List.set_cons_succ]
            refine wpAnyH_take (i := 17) (oi := ⟨some 36, _, _, _, _, _⟩) (v := ?v11) rfl (by kernel_rfl) (by kernel_rfl) (by kernel_rfl) (fun _ _ _ h => h) (Or.inl ⟨by rfl, ?hy11⟩) (by assumption) ?rest11
            case hy11 => (intro wq hSw; obtain ⟨z0, z1, z2, z3⟩ := HZ.out wq hSw; clear hSw; first | (go_simp; done) | (go_simp; with_reducible rfl))
            simp only [Act.put, List.setIfInBounds_toArray, List.set_cons_zero, List.set_cons_succ]
            refine wpAnyH_take (i := 18) (oi := ⟨some 37, _, _, _, _, _⟩) (v := ?v12) rfl (by kernel_rfl) (by kernel_rfl) (by kernel_rfl) (fun _ _ _ h => h) (Or.inl ⟨by rfl, ?hy12⟩) (by assumption) ?rest12
            case hy12 => (intro wq hSw; obtain ⟨z0, z1, z2, z3⟩ := HZ.out wq hSw; clear hSw; first | (go_simp; done) | (go_simp; with_reducible rfl))
            simp only [Act.put, List.setIfInBounds_toArray, List.set_cons_zero, List.set_cons_succ]
            have HV1 : Hid (Below V.heap.size V V1) := hHeld
            refine wpAnyH_done (by kernel_rfl) ?_ _
            clear hHeld hb1
            go_wp2_with fail
            go_meet
            case rel => exact ⟨false, rfl, HV1, (fun e => by cases e), (fun _ h => by have := HJ0.out; omega)⟩
          · obtain ⟨p, hp⟩ : ∃ p, p + 1 = j := ⟨j - 1, by omega⟩
            have hj1 : (j : Int) > 0 := by omega
            have hj2 : (0 : Int) < (j : Int) := by omega
            have hj3 : 0 < j := by omega
            have hjp : (j : Int) - 1 = (p : Int) := by omega
            have hpl : (p : Int) < (rs.length : Int) := by omega
            have hpw : IntKind.i64.wrap (p : Int) = (p : Int) := by rw [IntKind.wrap_i64]; omega
            have HP : Hid (_) := HPv.out p hp
            have hpj : j - 1 = p := by omega
            obtain ⟨y, hy⟩ : ∃ y, (rs.getD p rt0).1 = y := ⟨_, rfl⟩
            rw [hy] at HP
            rcases hle : leT n y with _ | _
            · have HL : Hid (leT n (rs.getD (j - 1) rt0).1 = false) := by
                show leT n (rs.getD (j - 1) rt0).1 = false
                rw [hpj, hy]
                exact hle
              unfold leT at hle
              clear hp hpj hy
              refine wp_region_held_drew (S := fun Z => Below V.heap.size V Z) (by kernel_rfl) (by exact ⟨rfl, rfl, rfl, Nat.le_refl _, fun _ _ => rfl⟩) (fun hHeld => ?_)
              refine wpAnyH_take (i := 0) (oi := ⟨some 19, _, _, _, _, _⟩) (v := ?v13) rfl (by kernel_rfl) (by kernel_rfl) (by kernel_rfl) (fun _ _ _ h => h) (Or.inl ⟨by rfl, ?hy13⟩) (by assumption) ?rest13
              case hy13 => (intro wq hSw; obtain ⟨z0, z1, z2, z3⟩ := HZ.out wq hSw; clear hSw; first | (go_simp; done) | (go_simp; with_reducible rfl))
              simp only [Act.put, List.setIfInBounds_toArray, List.set_cons_zero, List.set_cons_succ]
              refine wpAnyH_ready (rs := [1]) (by kernel_rfl) (by simp) ?_
              refine AllReadyH.cons rfl (fun K hK => ?_) AllReadyH.nil
              go_simp
              refine Calls.mono (HCk.out _ hHeld) ?_
              rintro e V1 ⟨rfl, hb1⟩
              dsimp only
              refine hK.out _ _ (by exact hHeld.trans (hb1.mono hHeld.size)) (fun hHeld => ?_)
              clear hK K
              (try simp only [Act.put, List.setIfInBounds_toArray, List.set_cons_zero, List.set_cons_succ])
              refine wpAnyH_take (i := 2) (oi := ⟨some 21, _, _, _, _, _⟩) (v := ?v14) rfl (by kernel_rfl) (by kernel_rfl) (by kernel_rfl) (fun _ _ _ h => h) (Or.inl ⟨by rfl, ?hy14⟩) (by assumption) ?rest14
              case hy14 => (intro wq hSw; obtain ⟨z0, z1, z2, z3⟩ := HZ.out wq hSw; clear hSw; first | (go_simp; done) | (go_simp; with_reducible rfl))
              simp only [Act.put, List.setIfInBounds_toArray, List.set_cons_zero, List.set_cons_succ]
              refine wpAnyH_take (i := 3) (oi := ⟨some 22, _, _, _, _, _⟩) (v := ?v15) rfl (by kernel_rfl) (by kernel_rfl) (by kernel_rfl) (fun _ _ _ h => h) (Or.inl ⟨by rfl, ?hy15⟩) (by assumption) ?rest15
              case hy15 => (intro wq hSw; obtain ⟨z0, z1, z2, z3⟩ := HZ.out wq hSw; clear hSw; first | (go_simp; done) | (go_simp; with_reducible rfl))
              simp only [Act.put, List.setIfInBounds_toArray, List.set_cons_zero, List.set_cons_succ]
              refine wpAnyH_take (i := 4) (oi := ⟨some 23, _, _, _, _, _⟩) (v := ?v16) rfl (by kernel_rfl) (by kernel_rfl) (by kernel_rfl) (fun _ _ _ h => h) (Or.inl ⟨by rfl, ?hy16⟩) (by assumption) ?rest16
              case hy16 => (intro wq hSw; obtain ⟨z0, z1, z2, z3⟩ := HZ.out wq hSw; clear hSw; first | (go_simp; done) | (go_simp; with_reducible rfl))
              simp only [Act.put, List.setIfInBounds_toArray, List.set_cons_zero, List.set_cons_succ]
              refine wpAnyH_take (i := 5) (oi := ⟨some 24, _, _, _, _, _⟩) (v := ?v17) rfl (by kernel_rfl) (by kernel_rfl) (by kernel_rfl) (fun _ _ _ h => h) (Or.inl ⟨by rfl, ?hy17⟩) (by assumption) ?rest17
              case hy17 => (intro wq hSw; obtain ⟨z0, z1, z2, z3⟩ := HZ.out wq hSw; clear hSw; first | (go_simp; done) | (go_simp; with_reducible rfl))
              simp only [Act.put, List.setIfInBounds_toArray, List.set_cons_zero, List.set_cons_succ]
              refine wpAnyH_take (i := 6) (oi := ⟨some 25, _, _, _, _, _⟩) (v := ?v18) rfl (by kernel_rfl) (by kernel_rfl) (by kernel_rfl) (fun _ _ _ h => h) (Or.inl ⟨by rfl, ?hy18⟩) (by assumption) ?rest18
              case hy18 => (intro wq hSw; obtain ⟨z0, z1, z2, z3⟩ := HZ.out wq hSw; clear hSw; first | (go_simp; done) | (go_simp; with_reducible rfl))
              simp only [Act.put, List.setIfInBounds_toArray, List.set_cons_zero, List.set_cons_succ]
              refine wpAnyH_take (i := 7) (oi := ⟨some 26, _, _, _, _, _⟩) (v := ?v19) rfl (by kernel_rfl) (by kernel_rfl) (by kernel_rfl) (fun _ _ _ h => h) (Or.inl ⟨by rfl, ?hy19⟩) (by assumption) ?rest19
              case hy19 => (intro wq hSw; obtain ⟨z0, z1, z2, z3⟩ := HZ.out wq hSw; have z4 := HP.out wq hSw; clear hSw; first | (go_simp; done) | (go_simp; with_reducible rfl))
              simp only [Act.put, List.setIfInBounds_toArray, List.set_cons_zero, List.set_cons_succ]
              refine wpAnyH_take (i := 8) (oi := ⟨some 27, _, _, _, _, _⟩) (v := ?v20) rfl (by kernel_rfl) (by kernel_rfl) (by kernel_rfl) (fun _ _ _ h => h) (Or.inl ⟨by rfl, ?hy20⟩) (by assumption) ?rest20
              case hy20 => (intro wq hSw; obtain ⟨z0, z1, z2, z3⟩ := HZ.out wq hSw; have z4 := HP.out wq hSw; clear hSw; first | (go_simp; done) | (go_simp; with_reducible rfl))
              simp only [Act.put, List.setIfInBounds_toArray, List.set_cons_zero, List.set_cons_succ]
              refine wpAnyH_take (i := 9) (oi := ⟨some 28, _, _, _, _, _⟩) (v := ?v21) rfl (by kernel_rfl) (by kernel_rfl) (by kernel_rfl) (fun _ _ _ h => h) (Or.inl ⟨by rfl, ?hy21⟩) (by assumption) ?rest21
              case hy21 => (intro wq hSw; obtain ⟨z0, z1, z2, z3⟩ := HZ.out wq hSw; have z4 := HP.out wq hSw; clear hSw; first | (go_simp; done) | (go_simp; with_reducible rfl))
              simp only [Act.put, List.setIfInBounds_toArray, List.set_cons_zero, List.set_cons_succ]
              refine wpAnyH_take (i := 10) (oi := ⟨some 29, _, _, _, _, _⟩) (v := ?v22) rfl (by kernel_rfl) (by kernel_rfl) (by kernel_rfl) (fun _ _ _ h => h) (Or.inl ⟨by rfl, ?hy22⟩) (by assumption) ?rest22
              case hy22 => (intro wq hSw; obtain ⟨z0, z1, z2, z3⟩ := HZ.out wq hSw; have z4 := HP.out wq hSw; clear hSw; first | (go_simp; done) | (go_simp; with_reducible rfl))
              simp only [Act.put, List.setIfInBounds_toArray, List.set_cons_zero, List.set_cons_succ]
              refine wpAnyH_take (i := 11) (oi := ⟨some 30, _, _, _, _, _⟩) (v := ?v23) rfl (by kernel_rfl) (by kernel_rfl) (by kernel_rfl) (fun _ _ _ h => h) (Or.inl ⟨by rfl, ?hy23⟩) (by assumption) ?rest23
              case hy23 => (intro wq hSw; obtain ⟨z0, z1, z2, z3⟩ := HZ.out wq hSw; have z4 := HP.out wq hSw; clear hSw; first | (go_simp; done) | (go_simp; with_reducible rfl))
              simp only [Act.put, List.setIfInBounds_toArray, List.set_cons_zero, List.set_cons_succ]
              refine wpAnyH_take (i := 12) (oi := ⟨some 31, _, _, _, _, _⟩) (v := ?v24) rfl (by kernel_rfl) (by kernel_rfl) (by kernel_rfl) (fun _ _ _ h => h) (Or.inl ⟨by rfl, ?hy24⟩) (by assumption) ?rest24
              case hy24 => (intro wq hSw; obtain ⟨z0, z1, z2, z3⟩ := HZ.out wq hSw; have z4 := HP.out wq hSw; clear hSw; first | (go_simp; done) | (go_simp; with_reducible rfl))
              simp only [Act.put, List.setIfInBounds_toArray, List.set_cons_zero, List.set_cons_succ]
              refine wpAnyH_take (i := 13) (oi := ⟨some 32, _, _, _, _, _⟩) (v := ?v25) rfl (by kernel_rfl) (by kernel_rfl) (by kernel_rfl) (fun _ _ _ h => h) (Or.inl ⟨by rfl, ?hy25⟩) (by assumption) ?rest25
              case hy25 => (intro wq hSw; obtain ⟨z0, z1, z2, z3⟩ := HZ.out wq hSw; have z4 := HP.out wq hSw; clear hSw; first | (go_simp; done) | (go_simp; with_reducible rfl))
              simp only [Act.put, List.setIfInBounds_toArray, List.set_cons_zero, List.set_cons_succ]
              refine wpAnyH_take (i := 14) (oi := ⟨some 33, _, _, _, _, _⟩) (v := ?v26) rfl (by kernel_rfl) (by kernel_rfl) (by kernel_rfl) (fun _ _ _ h => h) (Or.inl ⟨by rfl, ?hy26⟩) (by assumption) ?rest26
              case hy26 => (intro wq hSw; obtain ⟨z0, z1, z2, z3⟩ := HZ.out wq hSw; have z4 := HP.out wq hSw; clear hSw; first | (go_simp; done) | (go_simp; with_reducible rfl))
              simp only [Act.put, List.setIfInBounds_toArray, List.set_cons_zero, List.set_cons_succ]
              refine wpAnyH_take (i := 15) (oi := ⟨some 34, _, _, _, _, _⟩) (v := ?v27) rfl (by kernel_rfl) (by kernel_rfl) (by kernel_rfl) (fun _ _ _ h => h) (Or.inl ⟨by rfl, ?hy27⟩) (by assumption) ?rest27
              case hy27 => (intro wq hSw; obtain ⟨z0, z1, z2, z3⟩ := HZ.out wq hSw; have z4 := HP.out wq hSw; clear hSw; first | (go_simp; done) | (go_simp; with_reducible rfl))
              simp only [Act.put, List.setIfInBounds_toArray, List.set_cons_zero, List.set_cons_succ]
              refine wpAnyH_take (i := 16) (oi := ⟨some 35, _, _, _, _, _⟩) (v := ?v28) rfl (by kernel_rfl) (by kernel_rfl) (by kernel_rfl) (fun _ _ _ h => h) (Or.inl ⟨by rfl, ?hy28⟩) (by assumption) ?rest28
              case hy28 => (intro wq hSw; obtain ⟨z0, z1, z2, z3⟩ := HZ.out wq hSw; have z4 := HP.out wq hSw; clear hSw; first | (go_simp; done) | (go_simp; with_reducible rfl))
              simp only [Act.put, List.setIfInBounds_toArray, List.set_cons_zero, List.set_cons_succ]
              refine wpAnyH_take (i := 17) (oi := ⟨some 36, _, _, _, _, _⟩) (v := ?v29) rfl (by kernel_rfl) (by kernel_rfl) (by kernel_rfl) (fun _ _ _ h => h) (Or.inl ⟨by rfl, ?hy29⟩) (by assumption) ?rest29
              case hy29 => (intro wq hSw; obtain ⟨z0, z1, z2, z3⟩ := HZ.out wq hSw; clear hSw; first | (go_simp; done) | (go_simp; with_reducible rfl))
              simp only [Act.put, List.setIfInBounds_toArray, List.set_cons_zero, List.set_cons_succ]
              refine wpAnyH_take (i := 18) (oi := ⟨some 37, _, _, _, _, _⟩) (v := ?v30) rfl (by kernel_rfl) (by kernel_rfl) (by kernel_rfl) (fun _ _ _ h => h) (Or.inl ⟨by rfl, ?hy30⟩) (by assumption) ?rest30
              case hy30 => (intro wq hSw; obtain ⟨z0, z1, z2, z3⟩ := HZ.out wq hSw; clear hSw; first | (go_simp; done) | (go_simp; with_reducible rfl))
              simp only [Act.put, List.setIfInBounds_toArray, List.set_cons_zero, List.set_cons_succ]
              have HV1 : Hid (Below V.heap.size V V1) := hHeld
              refine wpAnyH_done (by kernel_rfl) ?_ _
              clear hHeld hb1
              go_wp2_with fail
              go_meet
              case rel => exact ⟨false, rfl, HV1, (fun e => by cases e), (fun _ _ => HL.out)⟩
            · have HNo : Hid (imageB rs = false) := image_no (j := j) (by omega) (fun e => by
                have h2 := e.2.1 (by omega)
                rw [hpj, HX0.out, hy] at h2
                simp only at h2
                rw [hle] at h2
                cases h2)
              unfold leT at hle
              clear hp hpj hy
              refine wp_region_held_drew (S := fun Z => Below V.heap.size V Z) (by kernel_rfl) (by exact ⟨rfl, rfl, rfl, Nat.le_refl _, fun _ _ => rfl⟩) (fun hHeld => ?_)
              refine wpAnyH_take (i := 0) (oi := ⟨some 19, _, _, _, _, _⟩) (v := ?v31) rfl (by kernel_rfl) (by kernel_rfl) (by kernel_rfl) (fun _ _ _ h => h) (Or.inl ⟨by rfl, ?hy31⟩) (by assumption) ?rest31
              case hy31 => (intro wq hSw; obtain ⟨z0, z1, z2, z3⟩ := HZ.out wq hSw; clear hSw; first | (go_simp; done) | (go_simp; with_reducible rfl))
              simp only [Act.put, List.setIfInBounds_toArray, List.set_cons_zero, List.set_cons_succ]
              refine wpAnyH_ready (rs := [1]) (by kernel_rfl) (by simp) ?_
              refine AllReadyH.cons rfl (fun K hK => ?_) AllReadyH.nil
              go_simp
              refine Calls.mono (HCk.out _ hHeld) ?_
              rintro e V1 ⟨rfl, hb1⟩
              dsimp only
              refine hK.out _ _ (by exact hHeld.trans (hb1.mono hHeld.size)) (fun hHeld => ?_)
              clear hK K
              (try simp only [Act.put, List.setIfInBounds_toArray, List.set_cons_zero, List.set_cons_succ])
              refine wpAnyH_take (i := 2) (oi := ⟨some 21, _, _, _, _, _⟩) (v := ?v32) rfl (by kernel_rfl) (by kernel_rfl) (by kernel_rfl) (fun _ _ _ h => h) (Or.inl ⟨by rfl, ?hy32⟩) (by assumption) ?rest32
              case hy32 => (intro wq hSw; obtain ⟨z0, z1, z2, z3⟩ := HZ.out wq hSw; clear hSw; first | (go_simp; done) | (go_simp; with_reducible rfl))
              simp only [Act.put, List.setIfInBounds_toArray, List.set_cons_zero, List.set_cons_succ]
              refine wpAnyH_take (i := 3) (oi := ⟨some 22, _, _, _, _, _⟩) (v := ?v33) rfl (by kernel_rfl) (by kernel_rfl) (by kernel_rfl) (fun _ _ _ h => h) (Or.inl ⟨by rfl, ?hy33⟩) (by assumption) ?rest33
              case hy33 => (intro wq hSw; obtain ⟨z0, z1, z2, z3⟩ := HZ.out wq hSw; clear hSw; first | (go_simp; done) | (go_simp; with_reducible rfl))
              simp only [Act.put, List.setIfInBounds_toArray, List.set_cons_zero, List.set_cons_succ]
              refine wpAnyH_take (i := 4) (oi := ⟨some 23, _, _, _, _, _⟩) (v := ?v34) rfl (by kernel_rfl) (by kernel_rfl) (by kernel_rfl) (fun _ _ _ h => h) (Or.inl ⟨by rfl, ?hy34⟩) (by assumption) ?rest34
              case hy34 => (intro wq hSw; obtain ⟨z0, z1, z2, z3⟩ := HZ.out wq hSw; clear hSw; first | (go_simp; done) | (go_simp; with_reducible rfl))
              simp only [Act.put, List.setIfInBounds_toArray, List.set_cons_zero, List.set_cons_succ]
              refine wpAnyH_take (i := 5) (oi := ⟨some 24, _, _, _, _, _⟩) (v := ?v35) rfl (by kernel_rfl) (by kernel_rfl) (by kernel_rfl) (fun _ _ _ h => h) (Or.inl ⟨by rfl, ?hy35⟩) (by assumption) ?rest35
              case hy35 => (intro wq hSw; obtain ⟨z0, z1, z2, z3⟩ := HZ.out wq hSw; clear hSw; first | (go_simp; done) | (go_simp; with_reducible rfl))
              simp only [Act.put, List.setIfInBounds_toArray, List.set_cons_zero, List.set_cons_succ]
              refine wpAnyH_take (i := 6) (oi := ⟨some 25, _, _, _, _, _⟩) (v := ?v36) rfl (by kernel_rfl) (by kernel_rfl) (by kernel_rfl) (fun _ _ _ h => h) (Or.inl ⟨by rfl, ?hy36⟩) (by assumption) ?rest36
              case hy36 => (intro wq hSw; obtain ⟨z0, z1, z2, z3⟩ := HZ.out wq hSw; clear hSw; first | (go_simp; done) | (go_simp; with_reducible rfl))
              simp only [Act.put, List.setIfInBounds_toArray, List.set_cons_zero, List.set_cons_succ]
              refine wpAnyH_take (i := 7) (oi := ⟨some 26, _, _, _, _, _⟩) (v := ?v37) rfl (by kernel_rfl) (by kernel_rfl) (by kernel_rfl) (fun _ _ _ h => h) (Or.inl ⟨by rfl, ?hy37⟩) (by assumption) ?rest37
              case hy37 => (intro wq hSw; obtain ⟨z0, z1, z2, z3⟩ := HZ.out wq hSw; have z4 := HP.out wq hSw; clear hSw; first | (go_simp; done) | (go_simp; with_reducible rfl))
              simp only [Act.put, List.setIfInBounds_toArray, List.set_cons_zero, List.set_cons_succ]
              refine wpAnyH_take (i := 8) (oi := ⟨some 27, _, _, _, _, _⟩) (v := ?v38) rfl (by kernel_rfl) (by kernel_rfl) (by kernel_rfl) (fun _ _ _ h => h) (Or.inl ⟨by rfl, ?hy38⟩) (by assumption) ?rest38
              case hy38 => (intro wq hSw; obtain ⟨z0, z1, z2, z3⟩ := HZ.out wq hSw; have z4 := HP.out wq hSw; clear hSw; first | (go_simp; done) | (go_simp; with_reducible rfl))
              simp only [Act.put, List.setIfInBounds_toArray, List.set_cons_zero, List.set_cons_succ]
              refine wpAnyH_take (i := 9) (oi := ⟨some 28, _, _, _, _, _⟩) (v := ?v39) rfl (by kernel_rfl) (by kernel_rfl) (by kernel_rfl) (fun _ _ _ h => h) (Or.inl ⟨by rfl, ?hy39⟩) (by assumption) ?rest39
              case hy39 => (intro wq hSw; obtain ⟨z0, z1, z2, z3⟩ := HZ.out wq hSw; have z4 := HP.out wq hSw; clear hSw; first | (go_simp; done) | (go_simp; with_reducible rfl))
              simp only [Act.put, List.setIfInBounds_toArray, List.set_cons_zero, List.set_cons_succ]
              refine wpAnyH_take (i := 10) (oi := ⟨some 29, _, _, _, _, _⟩) (v := ?v40) rfl (by kernel_rfl) (by kernel_rfl) (by kernel_rfl) (fun _ _ _ h => h) (Or.inl ⟨by rfl, ?hy40⟩) (by assumption) ?rest40
              case hy40 => (intro wq hSw; obtain ⟨z0, z1, z2, z3⟩ := HZ.out wq hSw; have z4 := HP.out wq hSw; clear hSw; first | (go_simp; done) | (go_simp; with_reducible rfl))
              simp only [Act.put, List.setIfInBounds_toArray, List.set_cons_zero, List.set_cons_succ]
              refine wpAnyH_take (i := 11) (oi := ⟨some 30, _, _, _, _, _⟩) (v := ?v41) rfl (by kernel_rfl) (by kernel_rfl) (by kernel_rfl) (fun _ _ _ h => h) (Or.inl ⟨by rfl, ?hy41⟩) (by assumption) ?rest41
              case hy41 => (intro wq hSw; obtain ⟨z0, z1, z2, z3⟩ := HZ.out wq hSw; have z4 := HP.out wq hSw; clear hSw; first | (go_simp; done) | (go_simp; with_reducible rfl))
              simp only [Act.put, List.setIfInBounds_toArray, List.set_cons_zero, List.set_cons_succ]
              refine wpAnyH_take (i := 12) (oi := ⟨some 31, _, _, _, _, _⟩) (v := ?v42) rfl (by kernel_rfl) (by kernel_rfl) (by kernel_rfl) (fun _ _ _ h => h) (Or.inl ⟨by rfl, ?hy42⟩) (by assumption) ?rest42
              case hy42 => (intro wq hSw; obtain ⟨z0, z1, z2, z3⟩ := HZ.out wq hSw; have z4 := HP.out wq hSw; clear hSw; first | (go_simp; done) | (go_simp; with_reducible rfl))
              simp only [Act.put, List.setIfInBounds_toArray, List.set_cons_zero, List.set_cons_succ]
              refine wpAnyH_take (i := 13) (oi := ⟨some 32, _, _, _, _, _⟩) (v := ?v43) rfl (by kernel_rfl) (by kernel_rfl) (by kernel_rfl) (fun _ _ _ h => h) (Or.inl ⟨by rfl, ?hy43⟩) (by assumption) ?rest43
              case hy43 => (intro wq hSw; obtain ⟨z0, z1, z2, z3⟩ := HZ.out wq hSw; have z4 := HP.out wq hSw; clear hSw; first | (go_simp; done) | (go_simp; with_reducible rfl))
              simp only [Act.put, List.setIfInBounds_toArray, List.set_cons_zero, List.set_cons_succ]
              refine wpAnyH_take (i := 14) (oi := ⟨some 33, _, _, _, _, _⟩) (v := ?v44) rfl (by kernel_rfl) (by kernel_rfl) (by kernel_rfl) (fun _ _ _ h => h) (Or.inl ⟨by rfl, ?hy44⟩) (by assumption) ?rest44
              case hy44 => (intro wq hSw; obtain ⟨z0, z1, z2, z3⟩ := HZ.out wq hSw; have z4 := HP.out wq hSw; clear hSw; first | (go_simp; done) | (go_simp; with_reducible rfl))
              simp only [Act.put, List.setIfInBounds_toArray, List.set_cons_zero, List.set_cons_succ]
              refine wpAnyH_take (i := 15) (oi := ⟨some 34, _, _, _, _, _⟩) (v := ?v45) rfl (by kernel_rfl) (by kernel_rfl) (by kernel_rfl) (fun _ _ _ h => h) (Or.inl ⟨by rfl, ?hy45⟩) (by assumption) ?rest45
              case hy45 => (intro wq hSw; obtain ⟨z0, z1, z2, z3⟩ := HZ.out wq hSw; have z4 := HP.out wq hSw; clear hSw; first | (go_simp; done) | (go_simp; with_reducible rfl))
              simp only [Act.put, List.setIfInBounds_toArray, List.set_cons_zero, List.set_cons_succ]
              refine wpAnyH_take (i := 16) (oi := ⟨some 35, _, _, _, _, _⟩) (v := ?v46) rfl (by kernel_rfl) (by kernel_rfl) (by kernel_rfl) (fun _ _ _ h => h) (Or.inl ⟨by rfl, ?hy46⟩) (by assumption) ?rest46
              case hy46 => (intro wq hSw; obtain ⟨z0, z1, z2, z3⟩ := HZ.out wq hSw; have z4 := HP.out wq hSw; clear hSw; first | (go_simp; done) | (go_simp; with_reducible rfl))
              simp only [Act.put, List.setIfInBounds_toArray, List.set_cons_zero, List.set_cons_succ]
              refine wpAnyH_take (i := 17) (oi := ⟨some 36, _, _, _, _, _⟩) (v := ?v47) rfl (by kernel_rfl) (by kernel_rfl) (by kernel_rfl) (fun _ _ _ h => h) (Or.inl ⟨by rfl, ?hy47⟩) (by assumption) ?rest47
              case hy47 => (intro wq hSw; obtain ⟨z0, z1, z2, z3⟩ := HZ.out wq hSw; clear hSw; first | (go_simp; done) | (go_simp; with_reducible rfl))
              simp only [Act.put, List.setIfInBounds_toArray, List.set_cons_zero, List.set_cons_succ]
              refine wpAnyH_take (i := 18) (oi := ⟨some 37, _, _, _, _, _⟩) (v := ?v48) rfl (by kernel_rfl) (by kernel_rfl) (by kernel_rfl) (fun _ _ _ h => h) (Or.inl ⟨by rfl, ?hy48⟩) (by assumption) ?rest48
              case hy48 => (intro wq hSw; obtain ⟨z0, z1, z2, z3⟩ := HZ.out wq hSw; clear hSw; first | (go_simp; done) | (go_simp; with_reducible rfl))
              simp only [Act.put, List.setIfInBounds_toArray, List.set_cons_zero, List.set_cons_succ]
              have HV1 : Hid (Below V.heap.size V V1) := hHeld
              refine wpAnyH_done (by kernel_rfl) ?_ _
              clear hHeld hb1
              go_wp2_with fail
              go_meet
              case rel => exact ⟨true, rfl, HV1, (fun _ => HNo.out), (fun e => by cases e)⟩
        case rest =>
        obtain ⟨bv, rfl, HVc, HT, HF⟩ := hcut
        rcases bv with _ | _
        · go_wp2
          go_loopw [5] (fun iv wx => ∃ k : Nat, iv = .int .i64 (k : Int) ∧ k ≤ cl ∧ Hid (∀ u, u < k → clsB rs (c.getD u in0) = true) ∧ Hid (Below V.heap.size V wx)) (fun iv _ => cl - (intOf iv).toNat)
          case atStart => exact ⟨0, rfl, Nat.zero_le _, fun u hu => by omega, HVc⟩
          case round =>
            obtain ⟨k, rfl, hk, HQ, HBk⟩ := hrel
            rename World => U
            obtain ⟨z0, z1, z2, z3⟩ := HZ.out U HBk.out
            by_cases hkl : (k : Int) < (cl : Int)
            · obtain ⟨cb, co, rfl, _, x0, _, _, _, _⟩ := (HCi.out U HBk.out).2 k (by omega)
              obtain ⟨i, hi⟩ : ∃ i, c.getD k in0 = i := ⟨_, rfl⟩
              have HX : Hid (∀ Z, Below V.heap.size V Z → Z.cell? ⟨cb, co + k * 5, none⟩ = some (.int .i64 i.1) ∧ Z.cell? ⟨cb, co + k * 5 + 2, none⟩ = some (.int .i64 i.2.2.1) ∧ Z.cell? ⟨cb, co + k * 5 + 4, none⟩ = some (.string ⟨i.2.2.2.2.toArray⟩)) := fun Z hz => by
                obtain ⟨cb', co', e, _, d0, _, d2, _, d4⟩ := (HCi.out Z hz).2 k (by omega)
                injection e with e
                injection e with e1 e2 _
                subst e1 e2
                rw [hi] at d0 d2 d4
                exact ⟨d0, d2, d4⟩
              rw [hi] at x0
              obtain ⟨kd, r, aa, bb, s⟩ := i
              simp only at x0 HX
              by_cases h9 : kd = 9
              · subst h9
                have HCb : Hid (clsB rs (c.getD k in0) = (decide (0 ≤ at14 rs s) && decide ((rs.getD (at14 rs s).toNat rt0).2.1 = aa))) := by
                  exact (by rw [hi]; unfold clsB; simp : clsB rs (c.getD k in0) = (decide (0 ≤ at14 rs s) && decide ((rs.getD (at14 rs s).toNat rt0).2.1 = aa)))
                have hzb := at14_bd rs s
                clear hi
                go_wp2
                refine wp_region_held_drew (S := fun Z => Below V.heap.size V Z) (by kernel_rfl) (by exact HBk.out.trans ⟨rfl, rfl, rfl, Nat.le_refl _, fun _ _ => rfl⟩) (fun hHeld => ?_)
                refine wpAnyH_take (i := 0) (oi := ⟨some 52, _, _, _, _, _⟩) (v := ?v49) rfl (by kernel_rfl) (by kernel_rfl) (by kernel_rfl) (fun _ _ _ h => h) (Or.inl ⟨by rfl, ?hy49⟩) (by assumption) ?rest49
                case hy49 => (intro wq hSw; obtain ⟨z0, z1, z2, z3⟩ := HZ.out wq hSw; obtain ⟨x0, x2, x4⟩ := HX.out wq hSw; clear hSw; first | (go_simp; done) | (go_simp; with_reducible rfl))
                simp only [Act.put, List.setIfInBounds_toArray, List.set_cons_zero, List.set_cons_succ]
                refine wpAnyH_take (i := 1) (oi := ⟨some 53, _, _, _, _, _⟩) (v := ?v50) rfl (by kernel_rfl) (by kernel_rfl) (by kernel_rfl) (fun _ _ _ h => h) (Or.inl ⟨by rfl, ?hy50⟩) (by assumption) ?rest50
                case hy50 => (intro wq hSw; obtain ⟨z0, z1, z2, z3⟩ := HZ.out wq hSw; obtain ⟨x0, x2, x4⟩ := HX.out wq hSw; clear hSw; first | (go_simp; done) | (go_simp; with_reducible rfl))
                simp only [Act.put, List.setIfInBounds_toArray, List.set_cons_zero, List.set_cons_succ]
                refine wpAnyH_take (i := 2) (oi := ⟨some 54, _, _, _, _, _⟩) (v := ?v51) rfl (by kernel_rfl) (by kernel_rfl) (by kernel_rfl) (fun _ _ _ h => h) (Or.inl ⟨by rfl, ?hy51⟩) (by assumption) ?rest51
                case hy51 => (intro wq hSw; obtain ⟨z0, z1, z2, z3⟩ := HZ.out wq hSw; obtain ⟨x0, x2, x4⟩ := HX.out wq hSw; clear hSw; first | (go_simp; done) | (go_simp; with_reducible rfl))
                simp only [Act.put, List.setIfInBounds_toArray, List.set_cons_zero, List.set_cons_succ]
                refine wpAnyH_take (i := 3) (oi := ⟨some 55, _, _, _, _, _⟩) (v := ?v52) rfl (by kernel_rfl) (by kernel_rfl) (by kernel_rfl) (fun _ _ _ h => h) (Or.inl ⟨by rfl, ?hy52⟩) (by assumption) ?rest52
                case hy52 => (intro wq hSw; obtain ⟨z0, z1, z2, z3⟩ := HZ.out wq hSw; obtain ⟨x0, x2, x4⟩ := HX.out wq hSw; clear hSw; first | (go_simp; done) | (go_simp; with_reducible rfl))
                simp only [Act.put, List.setIfInBounds_toArray, List.set_cons_zero, List.set_cons_succ]
                refine wpAnyH_take (i := 4) (oi := ⟨some 56, _, _, _, _, _⟩) (v := ?v53) rfl (by kernel_rfl) (by kernel_rfl) (by kernel_rfl) (fun _ _ _ h => h) (Or.inl ⟨by rfl, ?hy53⟩) (by assumption) ?rest53
                case hy53 => (intro wq hSw; obtain ⟨z0, z1, z2, z3⟩ := HZ.out wq hSw; obtain ⟨x0, x2, x4⟩ := HX.out wq hSw; clear hSw; first | (go_simp; done) | (go_simp; with_reducible rfl))
                simp only [Act.put, List.setIfInBounds_toArray, List.set_cons_zero, List.set_cons_succ]
                refine wpAnyH_take (i := 5) (oi := ⟨some 57, _, _, _, _, _⟩) (v := ?v54) rfl (by kernel_rfl) (by kernel_rfl) (by kernel_rfl) (fun _ _ _ h => h) (Or.inl ⟨by rfl, ?hy54⟩) (by assumption) ?rest54
                case hy54 => (intro wq hSw; obtain ⟨z0, z1, z2, z3⟩ := HZ.out wq hSw; obtain ⟨x0, x2, x4⟩ := HX.out wq hSw; clear hSw; first | (go_simp; done) | (go_simp; with_reducible rfl))
                simp only [Act.put, List.setIfInBounds_toArray, List.set_cons_zero, List.set_cons_succ]
                refine wpAnyH_take (i := 6) (oi := ⟨some 58, _, _, _, _, _⟩) (v := ?v55) rfl (by kernel_rfl) (by kernel_rfl) (by kernel_rfl) (fun _ _ _ h => h) (Or.inl ⟨by rfl, ?hy55⟩) (by assumption) ?rest55
                case hy55 => (intro wq hSw; obtain ⟨z0, z1, z2, z3⟩ := HZ.out wq hSw; obtain ⟨x0, x2, x4⟩ := HX.out wq hSw; clear hSw; first | (go_simp; done) | (go_simp; with_reducible rfl))
                simp only [Act.put, List.setIfInBounds_toArray, List.set_cons_zero, List.set_cons_succ]
                refine wpAnyH_take (i := 7) (oi := ⟨some 59, _, _, _, _, _⟩) (v := ?v56) rfl (by kernel_rfl) (by kernel_rfl) (by kernel_rfl) (fun _ _ _ h => h) (Or.inl ⟨by rfl, ?hy56⟩) (by assumption) ?rest56
                case hy56 => (intro wq hSw; obtain ⟨z0, z1, z2, z3⟩ := HZ.out wq hSw; obtain ⟨x0, x2, x4⟩ := HX.out wq hSw; clear hSw; first | (go_simp; done) | (go_simp; with_reducible rfl))
                simp only [Act.put, List.setIfInBounds_toArray, List.set_cons_zero, List.set_cons_succ]
                refine wpAnyH_ready (rs := [8]) (by kernel_rfl) (by simp) ?_
                refine AllReadyH.cons rfl (fun K hK => ?_) AllReadyH.nil
                go_simp
                refine Calls.mono (HA.out _ s (HBV.out.trans (hHeld.mono HBV.out.size))) ?_
                rintro e V2 ⟨rfl, hw2⟩; obtain rfl := hw2.symm; clear hw2
                dsimp only
                refine hK.out _ _ (by exact hHeld) (fun hHeld => ?_)
                clear hK K
                (try simp only [Act.put, List.setIfInBounds_toArray, List.set_cons_zero, List.set_cons_succ])
                refine wpAnyH_take (i := 9) (oi := ⟨some 6, _, _, _, _, _⟩) (v := ?v57) rfl (by kernel_rfl) (by kernel_rfl) (by kernel_rfl) (fun _ _ _ h => h) (Or.inl ⟨by rfl, ?hy57⟩) (by assumption) ?rest57
                case hy57 => (intro wq hSw; obtain ⟨z0, z1, z2, z3⟩ := HZ.out wq hSw; obtain ⟨x0, x2, x4⟩ := HX.out wq hSw; clear hSw; first | (go_simp; done) | (go_simp; with_reducible rfl))
                simp only [Act.put, List.setIfInBounds_toArray, List.set_cons_zero, List.set_cons_succ]
                have HV2 : Hid (Below V.heap.size V U.drew) := hHeld
                refine wpAnyH_done (by kernel_rfl) ?_ _
                clear hHeld
                obtain ⟨z, hz⟩ : ∃ z, at14 rs s = z := ⟨_, rfl⟩
                rw [hz] at HCb hzb ⊢
                clear hz
                by_cases hzn : z < 0
                · have HNo : Hid (imageB rs = false) := image_no (j := j) (by omega) (fun e => by
                    have h2 := e.2.2
                    rw [HX0.out] at h2
                    simp only at h2
                    rw [cls_no (j := k) (by rw [HCl.out]; omega) (by rw [HCb.out, decide_eq_false (by omega)]; rfl)] at h2
                    cases h2)
                  go_wp2
                  refine wp_region_held_drew (S := fun Z => Below V.heap.size V Z) (by kernel_rfl) (by exact HV2.out.trans ⟨rfl, rfl, rfl, Nat.le_refl _, fun _ _ => rfl⟩) (fun hHeld => ?_)
                  refine wpAnyH_take (i := 0) (oi := ⟨some 61, _, _, _, _, _⟩) (v := ?v58) rfl (by kernel_rfl) (by kernel_rfl) (by kernel_rfl) (fun _ _ _ h => h) (Or.inl ⟨by rfl, ?hy58⟩) (by assumption) ?rest58
                  case hy58 => (intro wq hSw; obtain ⟨z0, z1, z2, z3⟩ := HZ.out wq hSw; obtain ⟨x0, x2, x4⟩ := HX.out wq hSw; clear hSw; first | (go_simp; done) | (go_simp; with_reducible rfl))
                  simp only [Act.put, List.setIfInBounds_toArray, List.set_cons_zero, List.set_cons_succ]
                  refine wpAnyH_take (i := 1) (oi := ⟨some 62, _, _, _, _, _⟩) (v := ?v59) rfl (by kernel_rfl) (by kernel_rfl) (by kernel_rfl) (fun _ _ _ h => h) (Or.inl ⟨by rfl, ?hy59⟩) (by assumption) ?rest59
                  case hy59 => (intro wq hSw; obtain ⟨z0, z1, z2, z3⟩ := HZ.out wq hSw; obtain ⟨x0, x2, x4⟩ := HX.out wq hSw; clear hSw; first | (go_simp; done) | (go_simp; with_reducible rfl))
                  simp only [Act.put, List.setIfInBounds_toArray, List.set_cons_zero, List.set_cons_succ]
                  refine wpAnyH_take (i := 2) (oi := ⟨some 63, _, _, _, _, _⟩) (v := ?v60) rfl (by kernel_rfl) (by kernel_rfl) (by kernel_rfl) (fun _ _ _ h => h) (Or.inl ⟨by rfl, ?hy60⟩) (by assumption) ?rest60
                  case hy60 => (intro wq hSw; obtain ⟨z0, z1, z2, z3⟩ := HZ.out wq hSw; obtain ⟨x0, x2, x4⟩ := HX.out wq hSw; clear hSw; first | (go_simp; done) | (go_simp; with_reducible rfl))
                  simp only [Act.put, List.setIfInBounds_toArray, List.set_cons_zero, List.set_cons_succ]
                  refine wpAnyH_take (i := 3) (oi := ⟨some 64, _, _, _, _, _⟩) (v := undef) rfl (by kernel_rfl) (by kernel_rfl) (by kernel_rfl) (fun _ _ _ h => h) (Or.inr ⟨by rfl, rfl⟩) (by assumption) ?_
                  simp only [Act.put, List.setIfInBounds_toArray, List.set_cons_zero, List.set_cons_succ]
                  refine wpAnyH_take (i := 4) (oi := ⟨some 65, _, _, _, _, _⟩) (v := undef) rfl (by kernel_rfl) (by kernel_rfl) (by kernel_rfl) (fun _ _ _ h => h) (Or.inr ⟨by rfl, rfl⟩) (by assumption) ?_
                  simp only [Act.put, List.setIfInBounds_toArray, List.set_cons_zero, List.set_cons_succ]
                  refine wpAnyH_take (i := 5) (oi := ⟨some 66, _, _, _, _, _⟩) (v := undef) rfl (by kernel_rfl) (by kernel_rfl) (by kernel_rfl) (fun _ _ _ h => h) (Or.inr ⟨by rfl, rfl⟩) (by assumption) ?_
                  simp only [Act.put, List.setIfInBounds_toArray, List.set_cons_zero, List.set_cons_succ]
                  refine wpAnyH_take (i := 6) (oi := ⟨some 67, _, _, _, _, _⟩) (v := undef) rfl (by kernel_rfl) (by kernel_rfl) (by kernel_rfl) (fun _ _ _ h => h) (Or.inr ⟨by rfl, rfl⟩) (by assumption) ?_
                  simp only [Act.put, List.setIfInBounds_toArray, List.set_cons_zero, List.set_cons_succ]
                  refine wpAnyH_take (i := 7) (oi := ⟨some 68, _, _, _, _, _⟩) (v := undef) rfl (by kernel_rfl) (by kernel_rfl) (by kernel_rfl) (fun _ _ _ h => h) (Or.inr ⟨by rfl, rfl⟩) (by assumption) ?_
                  simp only [Act.put, List.setIfInBounds_toArray, List.set_cons_zero, List.set_cons_succ]
                  refine wpAnyH_take (i := 8) (oi := ⟨some 69, _, _, _, _, _⟩) (v := undef) rfl (by kernel_rfl) (by kernel_rfl) (by kernel_rfl) (fun _ _ _ h => h) (Or.inr ⟨by rfl, rfl⟩) (by assumption) ?_
                  simp only [Act.put, List.setIfInBounds_toArray, List.set_cons_zero, List.set_cons_succ]
                  refine wpAnyH_take (i := 9) (oi := ⟨some 70, _, _, _, _, _⟩) (v := undef) rfl (by kernel_rfl) (by kernel_rfl) (by kernel_rfl) (fun _ _ _ h => h) (Or.inr ⟨by rfl, rfl⟩) (by assumption) ?_
                  simp only [Act.put, List.setIfInBounds_toArray, List.set_cons_zero, List.set_cons_succ]
                  refine wpAnyH_take (i := 10) (oi := ⟨some 71, _, _, _, _, _⟩) (v := undef) rfl (by kernel_rfl) (by kernel_rfl) (by kernel_rfl) (fun _ _ _ h => h) (Or.inr ⟨by rfl, rfl⟩) (by assumption) ?_
                  simp only [Act.put, List.setIfInBounds_toArray, List.set_cons_zero, List.set_cons_succ]
                  refine wpAnyH_take (i := 11) (oi := ⟨some 72, _, _, _, _, _⟩) (v := undef) rfl (by kernel_rfl) (by kernel_rfl) (by kernel_rfl) (fun _ _ _ h => h) (Or.inr ⟨by rfl, rfl⟩) (by assumption) ?_
                  simp only [Act.put, List.setIfInBounds_toArray, List.set_cons_zero, List.set_cons_succ]
                  refine wpAnyH_take (i := 12) (oi := ⟨some 73, _, _, _, _, _⟩) (v := undef) rfl (by kernel_rfl) (by kernel_rfl) (by kernel_rfl) (fun _ _ _ h => h) (Or.inr ⟨by rfl, rfl⟩) (by assumption) ?_
                  simp only [Act.put, List.setIfInBounds_toArray, List.set_cons_zero, List.set_cons_succ]
                  refine wpAnyH_take (i := 13) (oi := ⟨some 74, _, _, _, _, _⟩) (v := undef) rfl (by kernel_rfl) (by kernel_rfl) (by kernel_rfl) (fun _ _ _ h => h) (Or.inr ⟨by rfl, rfl⟩) (by assumption) ?_
                  simp only [Act.put, List.setIfInBounds_toArray, List.set_cons_zero, List.set_cons_succ]
                  refine wpAnyH_take (i := 14) (oi := ⟨some 75, _, _, _, _, _⟩) (v := undef) rfl (by kernel_rfl) (by kernel_rfl) (by kernel_rfl) (fun _ _ _ h => h) (Or.inr ⟨by rfl, rfl⟩) (by assumption) ?_
                  simp only [Act.put, List.setIfInBounds_toArray, List.set_cons_zero, List.set_cons_succ]
                  refine wpAnyH_take (i := 15) (oi := ⟨some 76, _, _, _, _, _⟩) (v := undef) rfl (by kernel_rfl) (by kernel_rfl) (by kernel_rfl) (fun _ _ _ h => h) (Or.inr ⟨by rfl, rfl⟩) (by assumption) ?_
                  simp only [Act.put, List.setIfInBounds_toArray, List.set_cons_zero, List.set_cons_succ]
                  refine wpAnyH_take (i := 16) (oi := ⟨some 77, _, _, _, _, _⟩) (v := ?v61) rfl (by kernel_rfl) (by kernel_rfl) (by kernel_rfl) (fun _ _ _ h => h) (Or.inl ⟨by rfl, ?hy61⟩) (by assumption) ?rest61
                  case hy61 => (intro wq hSw; obtain ⟨z0, z1, z2, z3⟩ := HZ.out wq hSw; obtain ⟨x0, x2, x4⟩ := HX.out wq hSw; clear hSw; first | (go_simp; done) | (go_simp; with_reducible rfl))
                  simp only [Act.put, List.setIfInBounds_toArray, List.set_cons_zero, List.set_cons_succ]
                  have HV3 : Hid (Below V.heap.size V U.drew.drew) := hHeld
                  refine wpAnyH_done (by kernel_rfl) ?_ _
                  clear hHeld
                  go_wp2
                  go_ret
                  exact ⟨by rw [HNo.out]; rfl, hD ▸ (HB.out.trans ((HBV.out.trans (HV3.out.mono HBV.out.size)).mono HB.out.size))⟩
                · obtain ⟨zn, rfl⟩ : ∃ zn : Nat, z = (zn : Int) := Int.eq_ofNat_of_zero_le (by omega)
                  have hzl : (zn : Int) < (rs.length : Int) := hzb.2
                  obtain ⟨ar2, har2⟩ : ∃ ar2, (rs.getD zn rt0).2.1 = ar2 := ⟨_, rfl⟩
                  have HY : Hid (∀ Z, Below V.heap.size V Z → Z.cell? ⟨b, off + zn * 3 + 1, none⟩ = some (.int .i64 ar2)) := fun Z hz => by
                    obtain ⟨b', off', e, _, _, d1, _⟩ := (HI.out Z (HBV.out.trans (hz.mono HBV.out.size))).2 zn (by omega)
                    injection e with e
                    injection e with e1 e2 _
                    subst e1 e2
                    rw [har2] at d1
                    exact d1
                  rw [Int.toNat_natCast, har2] at HCb
                  by_cases hae : ar2 = aa
                  · have HQ2 : Hid (∀ u, u < k + 1 → clsB rs (c.getD u in0) = true) := fun u hu => by
                      by_cases e : u = k
                      · rw [e, HCb.out, decide_eq_true (by omega), decide_eq_true hae]; rfl
                      · exact HQ.out u (by omega)
                    subst hae
                    have hne : (ar2 != ar2) = false := by simp
                    clear har2
                    go_wp2
                    refine wp_region_held_drew (S := fun Z => Below V.heap.size V Z) (by kernel_rfl) (by exact HV2.out.trans ⟨rfl, rfl, rfl, Nat.le_refl _, fun _ _ => rfl⟩) (fun hHeld => ?_)
                    refine wpAnyH_take (i := 0) (oi := ⟨some 61, _, _, _, _, _⟩) (v := ?v62) rfl (by kernel_rfl) (by kernel_rfl) (by kernel_rfl) (fun _ _ _ h => h) (Or.inl ⟨by rfl, ?hy62⟩) (by assumption) ?rest62
                    case hy62 => (intro wq hSw; obtain ⟨z0, z1, z2, z3⟩ := HZ.out wq hSw; obtain ⟨x0, x2, x4⟩ := HX.out wq hSw; clear hSw; first | (go_simp; done) | (go_simp; with_reducible rfl))
                    simp only [Act.put, List.setIfInBounds_toArray, List.set_cons_zero, List.set_cons_succ]
                    refine wpAnyH_take (i := 1) (oi := ⟨some 62, _, _, _, _, _⟩) (v := ?v63) rfl (by kernel_rfl) (by kernel_rfl) (by kernel_rfl) (fun _ _ _ h => h) (Or.inl ⟨by rfl, ?hy63⟩) (by assumption) ?rest63
                    case hy63 => (intro wq hSw; obtain ⟨z0, z1, z2, z3⟩ := HZ.out wq hSw; obtain ⟨x0, x2, x4⟩ := HX.out wq hSw; clear hSw; first | (go_simp; done) | (go_simp; with_reducible rfl))
                    simp only [Act.put, List.setIfInBounds_toArray, List.set_cons_zero, List.set_cons_succ]
                    refine wpAnyH_take (i := 2) (oi := ⟨some 63, _, _, _, _, _⟩) (v := ?v64) rfl (by kernel_rfl) (by kernel_rfl) (by kernel_rfl) (fun _ _ _ h => h) (Or.inl ⟨by rfl, ?hy64⟩) (by assumption) ?rest64
                    case hy64 => (intro wq hSw; obtain ⟨z0, z1, z2, z3⟩ := HZ.out wq hSw; obtain ⟨x0, x2, x4⟩ := HX.out wq hSw; clear hSw; first | (go_simp; done) | (go_simp; with_reducible rfl))
                    simp only [Act.put, List.setIfInBounds_toArray, List.set_cons_zero, List.set_cons_succ]
                    refine wpAnyH_take (i := 3) (oi := ⟨some 64, _, _, _, _, _⟩) (v := ?v65) rfl (by kernel_rfl) (by kernel_rfl) (by kernel_rfl) (fun _ _ _ h => h) (Or.inl ⟨by rfl, ?hy65⟩) (by assumption) ?rest65
                    case hy65 => (intro wq hSw; obtain ⟨z0, z1, z2, z3⟩ := HZ.out wq hSw; obtain ⟨x0, x2, x4⟩ := HX.out wq hSw; have y1 := HY.out wq hSw; clear hSw; first | (go_simp; done) | (go_simp; with_reducible rfl))
                    simp only [Act.put, List.setIfInBounds_toArray, List.set_cons_zero, List.set_cons_succ]
                    refine wpAnyH_take (i := 4) (oi := ⟨some 65, _, _, _, _, _⟩) (v := ?v66) rfl (by kernel_rfl) (by kernel_rfl) (by kernel_rfl) (fun _ _ _ h => h) (Or.inl ⟨by rfl, ?hy66⟩) (by assumption) ?rest66
                    case hy66 => (intro wq hSw; obtain ⟨z0, z1, z2, z3⟩ := HZ.out wq hSw; obtain ⟨x0, x2, x4⟩ := HX.out wq hSw; have y1 := HY.out wq hSw; clear hSw; first | (go_simp; done) | (go_simp; with_reducible rfl))
                    simp only [Act.put, List.setIfInBounds_toArray, List.set_cons_zero, List.set_cons_succ]
                    refine wpAnyH_take (i := 5) (oi := ⟨some 66, _, _, _, _, _⟩) (v := ?v67) rfl (by kernel_rfl) (by kernel_rfl) (by kernel_rfl) (fun _ _ _ h => h) (Or.inl ⟨by rfl, ?hy67⟩) (by assumption) ?rest67
                    case hy67 => (intro wq hSw; obtain ⟨z0, z1, z2, z3⟩ := HZ.out wq hSw; obtain ⟨x0, x2, x4⟩ := HX.out wq hSw; have y1 := HY.out wq hSw; clear hSw; first | (go_simp; done) | (go_simp; with_reducible rfl))
                    simp only [Act.put, List.setIfInBounds_toArray, List.set_cons_zero, List.set_cons_succ]
                    refine wpAnyH_take (i := 6) (oi := ⟨some 67, _, _, _, _, _⟩) (v := ?v68) rfl (by kernel_rfl) (by kernel_rfl) (by kernel_rfl) (fun _ _ _ h => h) (Or.inl ⟨by rfl, ?hy68⟩) (by assumption) ?rest68
                    case hy68 => (intro wq hSw; obtain ⟨z0, z1, z2, z3⟩ := HZ.out wq hSw; obtain ⟨x0, x2, x4⟩ := HX.out wq hSw; have y1 := HY.out wq hSw; clear hSw; first | (go_simp; done) | (go_simp; with_reducible rfl))
                    simp only [Act.put, List.setIfInBounds_toArray, List.set_cons_zero, List.set_cons_succ]
                    refine wpAnyH_take (i := 7) (oi := ⟨some 68, _, _, _, _, _⟩) (v := ?v69) rfl (by kernel_rfl) (by kernel_rfl) (by kernel_rfl) (fun _ _ _ h => h) (Or.inl ⟨by rfl, ?hy69⟩) (by assumption) ?rest69
                    case hy69 => (intro wq hSw; obtain ⟨z0, z1, z2, z3⟩ := HZ.out wq hSw; obtain ⟨x0, x2, x4⟩ := HX.out wq hSw; have y1 := HY.out wq hSw; clear hSw; first | (go_simp; done) | (go_simp; with_reducible rfl))
                    simp only [Act.put, List.setIfInBounds_toArray, List.set_cons_zero, List.set_cons_succ]
                    refine wpAnyH_take (i := 8) (oi := ⟨some 69, _, _, _, _, _⟩) (v := ?v70) rfl (by kernel_rfl) (by kernel_rfl) (by kernel_rfl) (fun _ _ _ h => h) (Or.inl ⟨by rfl, ?hy70⟩) (by assumption) ?rest70
                    case hy70 => (intro wq hSw; obtain ⟨z0, z1, z2, z3⟩ := HZ.out wq hSw; obtain ⟨x0, x2, x4⟩ := HX.out wq hSw; have y1 := HY.out wq hSw; clear hSw; first | (go_simp; done) | (go_simp; with_reducible rfl))
                    simp only [Act.put, List.setIfInBounds_toArray, List.set_cons_zero, List.set_cons_succ]
                    refine wpAnyH_take (i := 9) (oi := ⟨some 70, _, _, _, _, _⟩) (v := ?v71) rfl (by kernel_rfl) (by kernel_rfl) (by kernel_rfl) (fun _ _ _ h => h) (Or.inl ⟨by rfl, ?hy71⟩) (by assumption) ?rest71
                    case hy71 => (intro wq hSw; obtain ⟨z0, z1, z2, z3⟩ := HZ.out wq hSw; obtain ⟨x0, x2, x4⟩ := HX.out wq hSw; have y1 := HY.out wq hSw; clear hSw; first | (go_simp; done) | (go_simp; with_reducible rfl))
                    simp only [Act.put, List.setIfInBounds_toArray, List.set_cons_zero, List.set_cons_succ]
                    refine wpAnyH_take (i := 10) (oi := ⟨some 71, _, _, _, _, _⟩) (v := ?v72) rfl (by kernel_rfl) (by kernel_rfl) (by kernel_rfl) (fun _ _ _ h => h) (Or.inl ⟨by rfl, ?hy72⟩) (by assumption) ?rest72
                    case hy72 => (intro wq hSw; obtain ⟨z0, z1, z2, z3⟩ := HZ.out wq hSw; obtain ⟨x0, x2, x4⟩ := HX.out wq hSw; have y1 := HY.out wq hSw; clear hSw; first | (go_simp; done) | (go_simp; with_reducible rfl))
                    simp only [Act.put, List.setIfInBounds_toArray, List.set_cons_zero, List.set_cons_succ]
                    refine wpAnyH_take (i := 11) (oi := ⟨some 72, _, _, _, _, _⟩) (v := ?v73) rfl (by kernel_rfl) (by kernel_rfl) (by kernel_rfl) (fun _ _ _ h => h) (Or.inl ⟨by rfl, ?hy73⟩) (by assumption) ?rest73
                    case hy73 => (intro wq hSw; obtain ⟨z0, z1, z2, z3⟩ := HZ.out wq hSw; obtain ⟨x0, x2, x4⟩ := HX.out wq hSw; have y1 := HY.out wq hSw; clear hSw; first | (go_simp; done) | (go_simp; with_reducible rfl))
                    simp only [Act.put, List.setIfInBounds_toArray, List.set_cons_zero, List.set_cons_succ]
                    refine wpAnyH_take (i := 12) (oi := ⟨some 73, _, _, _, _, _⟩) (v := ?v74) rfl (by kernel_rfl) (by kernel_rfl) (by kernel_rfl) (fun _ _ _ h => h) (Or.inl ⟨by rfl, ?hy74⟩) (by assumption) ?rest74
                    case hy74 => (intro wq hSw; obtain ⟨z0, z1, z2, z3⟩ := HZ.out wq hSw; obtain ⟨x0, x2, x4⟩ := HX.out wq hSw; have y1 := HY.out wq hSw; clear hSw; first | (go_simp; done) | (go_simp; with_reducible rfl))
                    simp only [Act.put, List.setIfInBounds_toArray, List.set_cons_zero, List.set_cons_succ]
                    refine wpAnyH_take (i := 13) (oi := ⟨some 74, _, _, _, _, _⟩) (v := ?v75) rfl (by kernel_rfl) (by kernel_rfl) (by kernel_rfl) (fun _ _ _ h => h) (Or.inl ⟨by rfl, ?hy75⟩) (by assumption) ?rest75
                    case hy75 => (intro wq hSw; obtain ⟨z0, z1, z2, z3⟩ := HZ.out wq hSw; obtain ⟨x0, x2, x4⟩ := HX.out wq hSw; have y1 := HY.out wq hSw; clear hSw; first | (go_simp; done) | (go_simp; with_reducible rfl))
                    simp only [Act.put, List.setIfInBounds_toArray, List.set_cons_zero, List.set_cons_succ]
                    refine wpAnyH_take (i := 14) (oi := ⟨some 75, _, _, _, _, _⟩) (v := ?v76) rfl (by kernel_rfl) (by kernel_rfl) (by kernel_rfl) (fun _ _ _ h => h) (Or.inl ⟨by rfl, ?hy76⟩) (by assumption) ?rest76
                    case hy76 => (intro wq hSw; obtain ⟨z0, z1, z2, z3⟩ := HZ.out wq hSw; obtain ⟨x0, x2, x4⟩ := HX.out wq hSw; have y1 := HY.out wq hSw; clear hSw; first | (go_simp; done) | (go_simp; with_reducible rfl))
                    simp only [Act.put, List.setIfInBounds_toArray, List.set_cons_zero, List.set_cons_succ]
                    refine wpAnyH_take (i := 15) (oi := ⟨some 76, _, _, _, _, _⟩) (v := ?v77) rfl (by kernel_rfl) (by kernel_rfl) (by kernel_rfl) (fun _ _ _ h => h) (Or.inl ⟨by rfl, ?hy77⟩) (by assumption) ?rest77
                    case hy77 => (intro wq hSw; obtain ⟨z0, z1, z2, z3⟩ := HZ.out wq hSw; obtain ⟨x0, x2, x4⟩ := HX.out wq hSw; have y1 := HY.out wq hSw; clear hSw; first | (go_simp; done) | (go_simp; with_reducible rfl))
                    simp only [Act.put, List.setIfInBounds_toArray, List.set_cons_zero, List.set_cons_succ]
                    refine wpAnyH_take (i := 16) (oi := ⟨some 77, _, _, _, _, _⟩) (v := ?v78) rfl (by kernel_rfl) (by kernel_rfl) (by kernel_rfl) (fun _ _ _ h => h) (Or.inl ⟨by rfl, ?hy78⟩) (by assumption) ?rest78
                    case hy78 => (intro wq hSw; obtain ⟨z0, z1, z2, z3⟩ := HZ.out wq hSw; obtain ⟨x0, x2, x4⟩ := HX.out wq hSw; clear hSw; first | (go_simp; done) | (go_simp; with_reducible rfl))
                    simp only [Act.put, List.setIfInBounds_toArray, List.set_cons_zero, List.set_cons_succ]
                    have HV3 : Hid (Below V.heap.size V U.drew.drew) := hHeld
                    refine wpAnyH_done (by kernel_rfl) ?_ _
                    clear hHeld
                    go_wp2
                    go_roundw
                    case rel => exact ⟨k + 1, by go_num, by omega, HQ2, HV3⟩
                    case measure => simp [intOf]; omega
                  · have HNo : Hid (imageB rs = false) := image_no (j := j) (by omega) (fun e => by
                      have h2 := e.2.2
                      rw [HX0.out] at h2
                      simp only at h2
                      rw [cls_no (j := k) (by rw [HCl.out]; omega) (by rw [HCb.out, decide_eq_false hae, Bool.and_false])] at h2
                      cases h2)
                    have hne : (ar2 != aa) = true := by rw [bne_iff_ne]; exact hae
                    clear har2
                    go_wp2
                    refine wp_region_held_drew (S := fun Z => Below V.heap.size V Z) (by kernel_rfl) (by exact HV2.out.trans ⟨rfl, rfl, rfl, Nat.le_refl _, fun _ _ => rfl⟩) (fun hHeld => ?_)
                    refine wpAnyH_take (i := 0) (oi := ⟨some 61, _, _, _, _, _⟩) (v := ?v79) rfl (by kernel_rfl) (by kernel_rfl) (by kernel_rfl) (fun _ _ _ h => h) (Or.inl ⟨by rfl, ?hy79⟩) (by assumption) ?rest79
                    case hy79 => (intro wq hSw; obtain ⟨z0, z1, z2, z3⟩ := HZ.out wq hSw; obtain ⟨x0, x2, x4⟩ := HX.out wq hSw; clear hSw; first | (go_simp; done) | (go_simp; with_reducible rfl))
                    simp only [Act.put, List.setIfInBounds_toArray, List.set_cons_zero, List.set_cons_succ]
                    refine wpAnyH_take (i := 1) (oi := ⟨some 62, _, _, _, _, _⟩) (v := ?v80) rfl (by kernel_rfl) (by kernel_rfl) (by kernel_rfl) (fun _ _ _ h => h) (Or.inl ⟨by rfl, ?hy80⟩) (by assumption) ?rest80
                    case hy80 => (intro wq hSw; obtain ⟨z0, z1, z2, z3⟩ := HZ.out wq hSw; obtain ⟨x0, x2, x4⟩ := HX.out wq hSw; clear hSw; first | (go_simp; done) | (go_simp; with_reducible rfl))
                    simp only [Act.put, List.setIfInBounds_toArray, List.set_cons_zero, List.set_cons_succ]
                    refine wpAnyH_take (i := 2) (oi := ⟨some 63, _, _, _, _, _⟩) (v := ?v81) rfl (by kernel_rfl) (by kernel_rfl) (by kernel_rfl) (fun _ _ _ h => h) (Or.inl ⟨by rfl, ?hy81⟩) (by assumption) ?rest81
                    case hy81 => (intro wq hSw; obtain ⟨z0, z1, z2, z3⟩ := HZ.out wq hSw; obtain ⟨x0, x2, x4⟩ := HX.out wq hSw; clear hSw; first | (go_simp; done) | (go_simp; with_reducible rfl))
                    simp only [Act.put, List.setIfInBounds_toArray, List.set_cons_zero, List.set_cons_succ]
                    refine wpAnyH_take (i := 3) (oi := ⟨some 64, _, _, _, _, _⟩) (v := ?v82) rfl (by kernel_rfl) (by kernel_rfl) (by kernel_rfl) (fun _ _ _ h => h) (Or.inl ⟨by rfl, ?hy82⟩) (by assumption) ?rest82
                    case hy82 => (intro wq hSw; obtain ⟨z0, z1, z2, z3⟩ := HZ.out wq hSw; obtain ⟨x0, x2, x4⟩ := HX.out wq hSw; have y1 := HY.out wq hSw; clear hSw; first | (go_simp; done) | (go_simp; with_reducible rfl))
                    simp only [Act.put, List.setIfInBounds_toArray, List.set_cons_zero, List.set_cons_succ]
                    refine wpAnyH_take (i := 4) (oi := ⟨some 65, _, _, _, _, _⟩) (v := ?v83) rfl (by kernel_rfl) (by kernel_rfl) (by kernel_rfl) (fun _ _ _ h => h) (Or.inl ⟨by rfl, ?hy83⟩) (by assumption) ?rest83
                    case hy83 => (intro wq hSw; obtain ⟨z0, z1, z2, z3⟩ := HZ.out wq hSw; obtain ⟨x0, x2, x4⟩ := HX.out wq hSw; have y1 := HY.out wq hSw; clear hSw; first | (go_simp; done) | (go_simp; with_reducible rfl))
                    simp only [Act.put, List.setIfInBounds_toArray, List.set_cons_zero, List.set_cons_succ]
                    refine wpAnyH_take (i := 5) (oi := ⟨some 66, _, _, _, _, _⟩) (v := ?v84) rfl (by kernel_rfl) (by kernel_rfl) (by kernel_rfl) (fun _ _ _ h => h) (Or.inl ⟨by rfl, ?hy84⟩) (by assumption) ?rest84
                    case hy84 => (intro wq hSw; obtain ⟨z0, z1, z2, z3⟩ := HZ.out wq hSw; obtain ⟨x0, x2, x4⟩ := HX.out wq hSw; have y1 := HY.out wq hSw; clear hSw; first | (go_simp; done) | (go_simp; with_reducible rfl))
                    simp only [Act.put, List.setIfInBounds_toArray, List.set_cons_zero, List.set_cons_succ]
                    refine wpAnyH_take (i := 6) (oi := ⟨some 67, _, _, _, _, _⟩) (v := ?v85) rfl (by kernel_rfl) (by kernel_rfl) (by kernel_rfl) (fun _ _ _ h => h) (Or.inl ⟨by rfl, ?hy85⟩) (by assumption) ?rest85
                    case hy85 => (intro wq hSw; obtain ⟨z0, z1, z2, z3⟩ := HZ.out wq hSw; obtain ⟨x0, x2, x4⟩ := HX.out wq hSw; have y1 := HY.out wq hSw; clear hSw; first | (go_simp; done) | (go_simp; with_reducible rfl))
                    simp only [Act.put, List.setIfInBounds_toArray, List.set_cons_zero, List.set_cons_succ]
                    refine wpAnyH_take (i := 7) (oi := ⟨some 68, _, _, _, _, _⟩) (v := ?v86) rfl (by kernel_rfl) (by kernel_rfl) (by kernel_rfl) (fun _ _ _ h => h) (Or.inl ⟨by rfl, ?hy86⟩) (by assumption) ?rest86
                    case hy86 => (intro wq hSw; obtain ⟨z0, z1, z2, z3⟩ := HZ.out wq hSw; obtain ⟨x0, x2, x4⟩ := HX.out wq hSw; have y1 := HY.out wq hSw; clear hSw; first | (go_simp; done) | (go_simp; with_reducible rfl))
                    simp only [Act.put, List.setIfInBounds_toArray, List.set_cons_zero, List.set_cons_succ]
                    refine wpAnyH_take (i := 8) (oi := ⟨some 69, _, _, _, _, _⟩) (v := ?v87) rfl (by kernel_rfl) (by kernel_rfl) (by kernel_rfl) (fun _ _ _ h => h) (Or.inl ⟨by rfl, ?hy87⟩) (by assumption) ?rest87
                    case hy87 => (intro wq hSw; obtain ⟨z0, z1, z2, z3⟩ := HZ.out wq hSw; obtain ⟨x0, x2, x4⟩ := HX.out wq hSw; have y1 := HY.out wq hSw; clear hSw; first | (go_simp; done) | (go_simp; with_reducible rfl))
                    simp only [Act.put, List.setIfInBounds_toArray, List.set_cons_zero, List.set_cons_succ]
                    refine wpAnyH_take (i := 9) (oi := ⟨some 70, _, _, _, _, _⟩) (v := ?v88) rfl (by kernel_rfl) (by kernel_rfl) (by kernel_rfl) (fun _ _ _ h => h) (Or.inl ⟨by rfl, ?hy88⟩) (by assumption) ?rest88
                    case hy88 => (intro wq hSw; obtain ⟨z0, z1, z2, z3⟩ := HZ.out wq hSw; obtain ⟨x0, x2, x4⟩ := HX.out wq hSw; have y1 := HY.out wq hSw; clear hSw; first | (go_simp; done) | (go_simp; with_reducible rfl))
                    simp only [Act.put, List.setIfInBounds_toArray, List.set_cons_zero, List.set_cons_succ]
                    refine wpAnyH_take (i := 10) (oi := ⟨some 71, _, _, _, _, _⟩) (v := ?v89) rfl (by kernel_rfl) (by kernel_rfl) (by kernel_rfl) (fun _ _ _ h => h) (Or.inl ⟨by rfl, ?hy89⟩) (by assumption) ?rest89
                    case hy89 => (intro wq hSw; obtain ⟨z0, z1, z2, z3⟩ := HZ.out wq hSw; obtain ⟨x0, x2, x4⟩ := HX.out wq hSw; have y1 := HY.out wq hSw; clear hSw; first | (go_simp; done) | (go_simp; with_reducible rfl))
                    simp only [Act.put, List.setIfInBounds_toArray, List.set_cons_zero, List.set_cons_succ]
                    refine wpAnyH_take (i := 11) (oi := ⟨some 72, _, _, _, _, _⟩) (v := ?v90) rfl (by kernel_rfl) (by kernel_rfl) (by kernel_rfl) (fun _ _ _ h => h) (Or.inl ⟨by rfl, ?hy90⟩) (by assumption) ?rest90
                    case hy90 => (intro wq hSw; obtain ⟨z0, z1, z2, z3⟩ := HZ.out wq hSw; obtain ⟨x0, x2, x4⟩ := HX.out wq hSw; have y1 := HY.out wq hSw; clear hSw; first | (go_simp; done) | (go_simp; with_reducible rfl))
                    simp only [Act.put, List.setIfInBounds_toArray, List.set_cons_zero, List.set_cons_succ]
                    refine wpAnyH_take (i := 12) (oi := ⟨some 73, _, _, _, _, _⟩) (v := ?v91) rfl (by kernel_rfl) (by kernel_rfl) (by kernel_rfl) (fun _ _ _ h => h) (Or.inl ⟨by rfl, ?hy91⟩) (by assumption) ?rest91
                    case hy91 => (intro wq hSw; obtain ⟨z0, z1, z2, z3⟩ := HZ.out wq hSw; obtain ⟨x0, x2, x4⟩ := HX.out wq hSw; have y1 := HY.out wq hSw; clear hSw; first | (go_simp; done) | (go_simp; with_reducible rfl))
                    simp only [Act.put, List.setIfInBounds_toArray, List.set_cons_zero, List.set_cons_succ]
                    refine wpAnyH_take (i := 13) (oi := ⟨some 74, _, _, _, _, _⟩) (v := ?v92) rfl (by kernel_rfl) (by kernel_rfl) (by kernel_rfl) (fun _ _ _ h => h) (Or.inl ⟨by rfl, ?hy92⟩) (by assumption) ?rest92
                    case hy92 => (intro wq hSw; obtain ⟨z0, z1, z2, z3⟩ := HZ.out wq hSw; obtain ⟨x0, x2, x4⟩ := HX.out wq hSw; have y1 := HY.out wq hSw; clear hSw; first | (go_simp; done) | (go_simp; with_reducible rfl))
                    simp only [Act.put, List.setIfInBounds_toArray, List.set_cons_zero, List.set_cons_succ]
                    refine wpAnyH_take (i := 14) (oi := ⟨some 75, _, _, _, _, _⟩) (v := ?v93) rfl (by kernel_rfl) (by kernel_rfl) (by kernel_rfl) (fun _ _ _ h => h) (Or.inl ⟨by rfl, ?hy93⟩) (by assumption) ?rest93
                    case hy93 => (intro wq hSw; obtain ⟨z0, z1, z2, z3⟩ := HZ.out wq hSw; obtain ⟨x0, x2, x4⟩ := HX.out wq hSw; have y1 := HY.out wq hSw; clear hSw; first | (go_simp; done) | (go_simp; with_reducible rfl))
                    simp only [Act.put, List.setIfInBounds_toArray, List.set_cons_zero, List.set_cons_succ]
                    refine wpAnyH_take (i := 15) (oi := ⟨some 76, _, _, _, _, _⟩) (v := ?v94) rfl (by kernel_rfl) (by kernel_rfl) (by kernel_rfl) (fun _ _ _ h => h) (Or.inl ⟨by rfl, ?hy94⟩) (by assumption) ?rest94
                    case hy94 => (intro wq hSw; obtain ⟨z0, z1, z2, z3⟩ := HZ.out wq hSw; obtain ⟨x0, x2, x4⟩ := HX.out wq hSw; have y1 := HY.out wq hSw; clear hSw; first | (go_simp; done) | (go_simp; with_reducible rfl))
                    simp only [Act.put, List.setIfInBounds_toArray, List.set_cons_zero, List.set_cons_succ]
                    refine wpAnyH_take (i := 16) (oi := ⟨some 77, _, _, _, _, _⟩) (v := ?v95) rfl (by kernel_rfl) (by kernel_rfl) (by kernel_rfl) (fun _ _ _ h => h) (Or.inl ⟨by rfl, ?hy95⟩) (by assumption) ?rest95
                    case hy95 => (intro wq hSw; obtain ⟨z0, z1, z2, z3⟩ := HZ.out wq hSw; obtain ⟨x0, x2, x4⟩ := HX.out wq hSw; clear hSw; first | (go_simp; done) | (go_simp; with_reducible rfl))
                    simp only [Act.put, List.setIfInBounds_toArray, List.set_cons_zero, List.set_cons_succ]
                    have HV3 : Hid (Below V.heap.size V U.drew.drew) := hHeld
                    refine wpAnyH_done (by kernel_rfl) ?_ _
                    clear hHeld
                    go_wp2
                    go_ret
                    exact ⟨by rw [HNo.out]; rfl, hD ▸ (HB.out.trans ((HBV.out.trans (HV3.out.mono HBV.out.size)).mono HB.out.size))⟩
              · have HQ2 : Hid (∀ u, u < k + 1 → clsB rs (c.getD u in0) = true) := fun u hu => by
                  by_cases e : u = k
                  · rw [e, hi]; unfold clsB; simp [h9]
                  · exact HQ.out u (by omega)
                have hne : (kd != 9) = true := by rw [bne_iff_ne]; exact h9
                clear hi
                go_wp2
                go_roundw
                case rel => exact ⟨k + 1, by go_num, by omega, HQ2, HBk⟩
                case measure => simp [intOf]; omega
            · have HO2 : Hid (∀ u, u < j + 1 → oneB rs u) := fun u hu => by
                by_cases e : u = j
                · subst e
                  refine ⟨by rw [HX0.out]; exact HRb.out, fun h => by rw [HX0.out]; exact HF.out (by trivial) h, ?_⟩
                  rw [HX0.out]
                  exact cls_all (fun q hq => HQ.out q (by have := HCl.out; have hq2 : q < c.length := hq; omega))
                · exact HO.out u (by omega)
              have HBo : Hid (Below W.heap.size W U) := HBV.out.trans (HBk.out.mono HBV.out.size)
              go_wp2
              go_roundw
              case rel => exact ⟨j + 1, by go_num, by omega, HO2, HBo⟩
              case measure => simp [intOf]; omega
        · have HNo : Hid (imageB rs = false) := HT.out rfl
          go_wp2
          go_ret
          exact ⟨by rw [HNo.out]; rfl, hD ▸ (HB.out.trans ((HBV.out.trans (HVc.out.mono HBV.out.size)).mono HB.out.size))⟩
    · have HE : Hid (imageB rs = inB (rs.length : Int) 1 64) := image_all (fun u hu => HO.out u (by omega))
      go_wp2_with fail
      refine Calls.mono (specIn (rs.length : Int) 1 64 _) ?_
      rintro e w5 ⟨rfl, hw5⟩
      obtain rfl := hw5.symm
      go_wp2
      go_ret
      exact ⟨by rw [HE.out]; rfl, hD ▸ (HB.out.trans (HBr.out.mono HB.out.size))⟩

end Go.Proofs.YtogobeegibngiaaGreatDoor
