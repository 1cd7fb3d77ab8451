/-
  Parts of one proof, one behind the other: ObS.
-/
import Derived.Test.YtfhkiaogfopigaaGreatDoorQ12
import Derived.Test.YtfhkiaogfopigaaGreatDoorQ6
import Derived.Test.YtfhkiaogfopigaaGreatDoorQ11
import Derived.Test.YtfhkiaogfopigaaGreatDoorQ9
import Derived.Deep.RegionHeld
import Derived.RegionTactic
import Derived.Deep.CutRange

/-! The contract of chapter 15's specification: ObjectOk (written by gen_obs.py). -/
namespace Go.Proofs.YtfhkiaogfopigaaGreatDoor
open Go.RowKit

/-- The first of the parts of a text. -/
theorem specHead (l : List UInt8) (w : World) (hl : l.length ≤ 1048576) :
    Calls Tryz.prog 46 #[.string ⟨l.toArray⟩, .int .u8 46] w fun e w' => ∃ g cp n, e = .returned (.slice (some ⟨g, 0, none⟩) (n + 1) cp) ∧ w'.cell? ⟨g, 0, none⟩ = some (.string ⟨(cutA 46 l).toArray⟩) ∧ Below w.heap.size w w' := by
  refine (specSplit l 46 46 w (by rfl) hl).mono ?_
  rintro e w' ⟨g, cp, rfl, ho, hb⟩
  have hne : splitL 46 l ≠ [] := splitGo_ne 46 l []
  obtain ⟨n, hn⟩ : ∃ n, (splitL 46 l).length = n + 1 := ⟨(splitL 46 l).length - 1, by have := List.length_pos_iff.2 hne; omega⟩
  have hc := (own_texts ho).2
  obtain ⟨a, c, e1, hin⟩ := hc
  injection e1 with e1 _ _
  subst e1
  obtain ⟨b, off, e2, _, hc0⟩ := hin.2 0 (by omega)
  injection e2 with e2
  injection e2 with e3 e4 _
  subst e3 e4
  rw [split_headA] at hc0
  exact ⟨g, cp, n, by rw [hn], hc0, hb⟩

set_option maxHeartbeats 20000000 in
set_option maxRecDepth 100000 in
theorem specObjectOk (nm : List UInt8) (ia : Option Addr) (il ic : Nat) (fa : Option Addr) (fl fc : Nat) (ims : List (List UInt8)) (rs : List Rt) (w : World) (hi : TextsIn w ia il ims) (hf : RtsIn w fa fl rs) (hil : il ≤ 1048576) (hfl : fl ≤ 1048576) (hnl : nm.length ≤ 1048576) (his : ∀ i, (ims.getD i []).length ≤ 1048576) (hfs : ShortR rs) :
    Calls Tryz.prog 40 #[.agg #[.string ⟨nm.toArray⟩, .slice ia il ic, .slice fa fl fc]] w fun e w' => e = .returned (.bool (objB (nm, ims, rs))) ∧ Below w.heap.size w w' := by
  obtain rfl : rs.length = fl := hf.1
  obtain rfl : ims.length = il := hi.1
  obtain ⟨W, hW⟩ : ∃ W, w.alloc (.cells #[.string ⟨nm.toArray⟩, .slice ia ims.length ic, .slice fa rs.length fc] 43) = W := ⟨_, rfl⟩
  obtain ⟨st, hB⟩ := ObIn.new (w := w) (nm := nm) (ic := ic) (fc := fc) hi hf
  rw [hW] at st hB
  obtain ⟨D, hD⟩ : ∃ D, w.heap.size = D := ⟨_, rfl⟩
  rw [hD] at st
  have HST : Hid (∀ Z, Below W.heap.size W Z → ObIn Z D nm ia ims.length ic fa rs.length fc ims rs) := fun Z hz => st.below hz
  have HS : Hid (ShortR rs) := hfs
  have HB : Hid (Below w.heap.size w W) := hB
  have HFB : Hid (∀ Z, Below W.heap.size W Z → Below w.heap.size w Z) := fun Z hz => HB.out.trans (hz.mono HB.out.size)
  have HC1 : Hid (_) := specNameOk nm W hnl
  have HC2 : Hid (_) := specImports ia ims.length ic ims W st.i hil his
  have HN1 : Hid (nameB nm = false → objB (nm, ims, rs) = false) := fun e => obj_name (o := (nm, ims, rs)) e
  have HN2 : Hid (importsB ims = false → objB (nm, ims, rs) = false) := fun e => obj_imps (o := (nm, ims, rs)) e
  have HN3 : Hid (¬ (1 ≤ rs.length ∧ rs.length ≤ 8) → objB (nm, ims, rs) = false) := fun e => obj_len (o := (nm, ims, rs)) e
  have HYes : Hid (nameB nm = true → importsB ims = true → (1 ≤ rs.length ∧ rs.length ≤ 8) → (∀ j, j < rs.length → one15 nm ims rs j) → objB (nm, ims, rs) = true) := fun e1 e2 e3 e4 => obj_yes (o := (nm, ims, rs)) e1 e2 e3 e4
  have HNo : Hid (∀ j, j < rs.length → ¬ one15 nm ims rs j → objB (nm, ims, rs) = false) := fun j hj e => obj_no (o := (nm, ims, rs)) hj e
  obtain ⟨k0, k1, k2⟩ : W.cell? ⟨D, 0, none⟩ = some (.string ⟨nm.toArray⟩) ∧ W.cell? ⟨D, 1, none⟩ = some (.slice ia ims.length ic) ∧ W.cell? ⟨D, 2, none⟩ = some (.slice fa rs.length fc) := ⟨st.k0, st.k1, st.k2⟩
  generalize objB (nm, ims, rs) = res at HN1 HN2 HN3 HYes HNo ⊢
  generalize nameB nm = b1 at HN1 HYes HC1
  generalize importsB ims = b2 at HN2 HYes HC2
  clear hi hf hfs his st hB
  go_enter Tryz.func40, Tryz.ntmps40
  go_wp2_with fail
  refine Calls.mono HC1.out ?_
  rintro e w1 ⟨rfl, hw1⟩
  obtain rfl := hw1.symm
  rcases b1 with _ | _
  · have HR : Hid (res = false) := HN1.out rfl
    go_wp2
    go_ret
    exact ⟨by rw [HR.out]; rfl, by first | exact HB.out | exact hD ▸ HB.out⟩
  go_wp2_with fail
  refine Calls.mono HC2.out ?_
  rintro e w2 ⟨rfl, hb2⟩
  replace k0 := (HST.out _ hb2).k0
  replace k1 := (HST.out _ hb2).k1
  replace k2 := (HST.out _ hb2).k2
  rcases b2 with _ | _
  · have HR : Hid (res = false) := HN2.out rfl
    have HF := HFB.out _ hb2
    go_wp2
    go_ret
    exact ⟨by rw [HR.out]; rfl, by first | exact HF | exact hD ▸ HF⟩
  have HB2 : Hid (Below W.heap.size W w2) := hb2
  clear hb2
  by_cases hln : inB (rs.length : Int) 1 8 = true
  rotate_left
  · have hln2 : inB (rs.length : Int) 1 8 = false := by rw [Bool.eq_false_iff]; exact hln
    have HR : Hid (res = false) := HN3.out (fun e => hln (inB_yes _ _ _ (by omega) (by omega)))
    have HF := HFB.out _ HB2.out
    clear hln
    go_wp2_with fail
    refine (specIn (rs.length : Int) 1 8 _).mono ?_
    rintro e w3 ⟨rfl, hw3⟩
    obtain rfl := hw3.symm
    rw [hln2]
    go_wp2
    go_ret
    exact ⟨by rw [HR.out]; rfl, by first | exact HF | exact hD ▸ HF⟩
  have HL8 : Hid (1 ≤ rs.length ∧ rs.length ≤ 8) := by
    have h : 1 ≤ (rs.length : Int) ∧ (rs.length : Int) ≤ 8 := by unfold inB at hln; exact of_decide_eq_true hln
    exact (by omega : 1 ≤ rs.length ∧ rs.length ≤ 8)
  have HY2 : Hid ((∀ j, j < rs.length → one15 nm ims rs j) → res = true) := HYes.out (by trivial) (by trivial) HL8.out
  clear HYes HN1 HN2 HN3 HC1 HC2
  go_wp2_with fail
  refine (specIn (rs.length : Int) 1 8 _).mono ?_
  rintro e w3 ⟨rfl, hw3⟩
  obtain rfl := hw3.symm
  rw [hln]
  clear hln
  go_wp2
  go_loopw [3] (fun iv wr => ∃ j : Nat, iv = .int .i64 (j : Int) ∧ j ≤ rs.length ∧ Hid (∀ u, u < j → one15 nm ims rs u) ∧ Hid (Below W.heap.size W wr)) (fun iv _ => rs.length - (intOf iv).toNat)
  case atStart => exact ⟨0, rfl, Nat.zero_le _, fun u hu => by omega, HB2⟩
  case round =>
    obtain ⟨j, rfl, hj, HO, HBr⟩ := hrel
    clear k0 k1 k2
    have k2 := (HST.out wr HBr.out).k2
    by_cases hlt : (j : Int) < (rs.length : Int)
    · obtain ⟨b, off, rfl, hbl, c0, c1, ca, cl, cc, c2, hci⟩ := (HST.out wr HBr.out).f.2 j (by omega)
      have hshj := HS.out j
      have hnoj := HNo.out j (by omega)
      obtain ⟨x, hx⟩ : ∃ x, rs.getD j rt0 = x := ⟨_, rfl⟩
      rw [hx] at c0 c1 hci hshj
      obtain ⟨n, ar, c⟩ := x
      simp only at c0 c1 hci hshj
      have hcl : c.length = cl := hci.1
      obtain ⟨V, hV⟩ : ∃ V, wr.alloc (.cells #[.string ⟨n.toArray⟩, .int .i64 ar, .slice ca cl cc] 78) = V := ⟨_, rfl⟩
      have hbV : Below wr.heap.size wr V := by rw [← hV]; exact (Below.refl _ _).alloc (Nat.le_refl _) _
      have hA : V.heap[wr.heap.size]? = some (.cells #[.string ⟨n.toArray⟩, .int .i64 ar, .slice ca cl cc] 78) := by rw [← hV]; exact heap_alloc_new wr _
      obtain ⟨N, hN⟩ : ∃ N, wr.heap.size = N := ⟨_, rfl⟩
      rw [hN] at hA
      have n0 : V.cell? ⟨N, 0, none⟩ = some (.string ⟨n.toArray⟩) := by simp [World.cell?, hA]
      have n1 : V.cell? ⟨N, 1, none⟩ = some (.int .i64 ar) := by simp [World.cell?, hA]
      have n2 : V.cell? ⟨N, 2, none⟩ = some (.slice ca cl cc) := by simp [World.cell?, hA]
      have hNl : N < V.heap.size := World.block_lt_of_cell? V ⟨N, 0, none⟩ n0
      have hBV := HBr.out.trans (hbV.mono HBr.out.size)
      have HBV : Hid (Below W.heap.size W V) := hBV
      have HZ : Hid (∀ Z, Below V.heap.size V Z → Z.cell? ⟨N, 0, none⟩ = some (.string ⟨n.toArray⟩) ∧ Z.cell? ⟨N, 1, none⟩ = some (.int .i64 ar) ∧ Z.cell? ⟨N, 2, none⟩ = some (.slice ca cl cc) ∧ Z.cell? ⟨D, 2, none⟩ = some (.slice (some ⟨b, off, none⟩) rs.length fc) ∧ Z.cell? ⟨D, 0, none⟩ = some (.string ⟨nm.toArray⟩)) := fun Z hz => ⟨(hz.cell (p := ⟨N, 0, none⟩) hNl).trans n0, (hz.cell (p := ⟨N, 1, none⟩) hNl).trans n1, (hz.cell (p := ⟨N, 2, none⟩) hNl).trans n2, (HST.out Z (HBV.out.trans (hz.mono HBV.out.size))).k2, (HST.out Z (HBV.out.trans (hz.mono HBV.out.size))).k0⟩
      have HTx : Hid (∀ Z, Below V.heap.size V Z → Z.cell? ⟨D, 1, none⟩ = some (.slice ia ims.length ic) ∧ TextsIn Z ia ims.length ims) := fun Z hz => ⟨(HST.out Z (HBV.out.trans (hz.mono HBV.out.size))).k1, (HST.out Z (HBV.out.trans (hz.mono HBV.out.size))).i⟩
      have HCi : Hid (∀ Z, Below V.heap.size V Z → InsIn Z ca cl c) := fun Z hz => (hci.below hbV).below hz
      have HCk : Hid (∀ Z, Below V.heap.size V Z → Calls Tryz.prog 52 #[.agg #[.string ⟨n.toArray⟩, .int .i64 ar, .slice ca cl cc]] Z fun e w' => e = .returned (.bool (rtB (n, ar, c))) ∧ Below Z.heap.size Z w') := fun Z hz => specRoutine n ar ca cl cc c Z ((hci.below hbV).below hz) hshj.2.2 (by rw [← hcl]; exact hshj.2.1) hshj.1
      have HSp : Hid (_) := fun Z : World => specHead n Z hshj.1
      have HSh2 : Hid (ShortI c) := hshj.2.2
      have HX0 : Hid (rs.getD j rt0 = (n, ar, c)) := hx
      have HCl : Hid (c.length = cl) := hcl
      have hcl2 : cl ≤ 1048576 := by rw [← hcl]; exact hshj.2.1
      have HNj : Hid (¬ one15 nm ims rs j → res = false) := hnoj
      have HPv : Hid (∀ p, p + 1 = j → ∀ Z, Below V.heap.size V Z → Z.cell? ⟨b, off + p * 3, none⟩ = some (.string ⟨(rs.getD p rt0).1.toArray⟩)) := fun p hp Z hz => by
        obtain ⟨b', off', e, _, d0, _⟩ := (HST.out Z (HBV.out.trans (hz.mono HBV.out.size))).f.2 p (by omega)
        injection e with e
        injection e with e1 e2 _
        subst e1 e2
        exact d0
      obtain ⟨y0, hy0⟩ : ∃ y0, cutA 46 n = y0 := ⟨_, rfl⟩
      have HY0 : Hid (cutA 46 n = y0) := hy0
      rw [hy0] at HSp
      have hFV := HFB.out _ HBV.out
      have HFV : Hid (∀ Z, Below V.heap.size V Z → Below w.heap.size w Z) := fun Z hz => hFV.trans (hz.mono hFV.size)
      clear hci hbV hA n0 n1 n2 hNl hBV hx hshj hcl hnoj hy0 hFV
      rcases hrb : rtB (n, ar, c) with _ | _
      · rw [hrb] at HCk
        have HR : Hid (res = false) := HNj.out (fun e => by have := e.1.1; rw [HX0.out, hrb] at this; cases this)
        clear hrb
        go_wp2
        refine wp_region_held_drew (S := fun Z => Below V.heap.size V Z) (by kernel_rfl) (by exact ⟨rfl, rfl, rfl, Nat.le_refl _, fun _ _ => rfl⟩) (fun hHeld => ?_)
        refine wpAnyH_take (i := 0) (oi := ⟨some 36, _, _, _, _, _⟩) (v := ?v1) rfl (by kernel_rfl) (by kernel_rfl) (by kernel_rfl) (fun _ _ _ h => h) (Or.inl ⟨by rfl, ?hy1⟩) (by assumption) ?rest1
        case hy1 => (intro wq hSw; obtain ⟨z0, z1, z2, z3, z4⟩ := HZ.out wq hSw; clear hSw; first | (go_simp; done) | (go_simp; with_reducible rfl))
        simp only [Act.put, List.setIfInBounds_toArray, List.set_cons_zero, List.set_cons_succ]
        refine wpAnyH_ready (rs := [1]) (by kernel_rfl) (by simp) ?_
        refine AllReadyH.cons rfl (fun K hK => ?_) AllReadyH.nil
        go_simp
        refine Calls.mono (HCk.out _ hHeld) ?_
        rintro e V1 ⟨rfl, hb1⟩
        dsimp only
        refine hK.out _ _ (by exact hHeld.trans (hb1.mono hHeld.size)) (fun hHeld => ?_)
        clear hK K
        (try simp only [Act.put, List.setIfInBounds_toArray, List.set_cons_zero, List.set_cons_succ])
        refine wpAnyH_take (i := 2) (oi := ⟨some 38, _, _, _, _, _⟩) (v := ?v2) rfl (by kernel_rfl) (by kernel_rfl) (by kernel_rfl) (fun _ _ _ h => h) (Or.inl ⟨by rfl, ?hy2⟩) (by assumption) ?rest2
        case hy2 => (intro wq hSw; obtain ⟨z0, z1, z2, z3, z4⟩ := HZ.out wq hSw; clear hSw; first | (go_simp; done) | (go_simp; with_reducible rfl))
        simp only [Act.put, List.setIfInBounds_toArray, List.set_cons_zero, List.set_cons_succ]
        refine wpAnyH_take (i := 3) (oi := ⟨some 39, _, _, _, _, _⟩) (v := ?v3) rfl (by kernel_rfl) (by kernel_rfl) (by kernel_rfl) (fun _ _ _ h => h) (Or.inl ⟨by rfl, ?hy3⟩) (by assumption) ?rest3
        case hy3 => (intro wq hSw; obtain ⟨z0, z1, z2, z3, z4⟩ := HZ.out wq hSw; clear hSw; first | (go_simp; done) | (go_simp; with_reducible rfl))
        simp only [Act.put, List.setIfInBounds_toArray, List.set_cons_zero, List.set_cons_succ]
        refine wpAnyH_take (i := 4) (oi := ⟨some 40, _, _, _, _, _⟩) (v := undef) rfl (by kernel_rfl) (by kernel_rfl) (by kernel_rfl) (fun _ _ _ h => h) (Or.inr ⟨by rfl, rfl⟩) (by assumption) ?_
        simp only [Act.put, List.setIfInBounds_toArray, List.set_cons_zero, List.set_cons_succ]
        refine wpAnyH_take (i := 5) (oi := ⟨some 41, _, _, _, _, _⟩) (v := undef) rfl (by kernel_rfl) (by kernel_rfl) (by kernel_rfl) (fun _ _ _ h => h) (Or.inr ⟨by rfl, rfl⟩) (by assumption) ?_
        simp only [Act.put, List.setIfInBounds_toArray, List.set_cons_zero, List.set_cons_succ]
        refine wpAnyH_take (i := 6) (oi := ⟨some 42, _, _, _, _, _⟩) (v := undef) rfl (by kernel_rfl) (by kernel_rfl) (by kernel_rfl) (fun _ _ _ h => h) (Or.inr ⟨by rfl, rfl⟩) (by assumption) ?_
        simp only [Act.put, List.setIfInBounds_toArray, List.set_cons_zero, List.set_cons_succ]
        refine wpAnyH_take (i := 7) (oi := ⟨some 43, _, _, _, _, _⟩) (v := undef) rfl (by kernel_rfl) (by kernel_rfl) (by kernel_rfl) (fun _ _ _ h => h) (Or.inr ⟨by rfl, rfl⟩) (by assumption) ?_
        simp only [Act.put, List.setIfInBounds_toArray, List.set_cons_zero, List.set_cons_succ]
        refine wpAnyH_take (i := 8) (oi := ⟨some 44, _, _, _, _, _⟩) (v := undef) rfl (by kernel_rfl) (by kernel_rfl) (by kernel_rfl) (fun _ _ _ h => h) (Or.inr ⟨by rfl, rfl⟩) (by assumption) ?_
        simp only [Act.put, List.setIfInBounds_toArray, List.set_cons_zero, List.set_cons_succ]
        refine wpAnyH_take (i := 9) (oi := ⟨some 45, _, _, _, _, _⟩) (v := undef) rfl (by kernel_rfl) (by kernel_rfl) (by kernel_rfl) (fun _ _ _ h => h) (Or.inr ⟨by rfl, rfl⟩) (by assumption) ?_
        simp only [Act.put, List.setIfInBounds_toArray, List.set_cons_zero, List.set_cons_succ]
        refine wpAnyH_take (i := 10) (oi := ⟨some 46, _, _, _, _, _⟩) (v := undef) rfl (by kernel_rfl) (by kernel_rfl) (by kernel_rfl) (fun _ _ _ h => h) (Or.inr ⟨by rfl, rfl⟩) (by assumption) ?_
        simp only [Act.put, List.setIfInBounds_toArray, List.set_cons_zero, List.set_cons_succ]
        refine wpAnyH_take (i := 11) (oi := ⟨some 47, _, _, _, _, _⟩) (v := undef) rfl (by kernel_rfl) (by kernel_rfl) (by kernel_rfl) (fun _ _ _ h => h) (Or.inr ⟨by rfl, rfl⟩) (by assumption) ?_
        simp only [Act.put, List.setIfInBounds_toArray, List.set_cons_zero, List.set_cons_succ]
        refine wpAnyH_take (i := 12) (oi := ⟨some 48, _, _, _, _, _⟩) (v := undef) rfl (by kernel_rfl) (by kernel_rfl) (by kernel_rfl) (fun _ _ _ h => h) (Or.inr ⟨by rfl, rfl⟩) (by assumption) ?_
        simp only [Act.put, List.setIfInBounds_toArray, List.set_cons_zero, List.set_cons_succ]
        refine wpAnyH_take (i := 13) (oi := ⟨some 49, _, _, _, _, _⟩) (v := undef) rfl (by kernel_rfl) (by kernel_rfl) (by kernel_rfl) (fun _ _ _ h => h) (Or.inr ⟨by rfl, rfl⟩) (by assumption) ?_
        simp only [Act.put, List.setIfInBounds_toArray, List.set_cons_zero, List.set_cons_succ]
        refine wpAnyH_take (i := 14) (oi := ⟨some 50, _, _, _, _, _⟩) (v := undef) rfl (by kernel_rfl) (by kernel_rfl) (by kernel_rfl) (fun _ _ _ h => h) (Or.inr ⟨by rfl, rfl⟩) (by assumption) ?_
        simp only [Act.put, List.setIfInBounds_toArray, List.set_cons_zero, List.set_cons_succ]
        refine wpAnyH_take (i := 15) (oi := ⟨some 51, _, _, _, _, _⟩) (v := undef) rfl (by kernel_rfl) (by kernel_rfl) (by kernel_rfl) (fun _ _ _ h => h) (Or.inr ⟨by rfl, rfl⟩) (by assumption) ?_
        simp only [Act.put, List.setIfInBounds_toArray, List.set_cons_zero, List.set_cons_succ]
        refine wpAnyH_take (i := 16) (oi := ⟨some 52, _, _, _, _, _⟩) (v := undef) rfl (by kernel_rfl) (by kernel_rfl) (by kernel_rfl) (fun _ _ _ h => h) (Or.inr ⟨by rfl, rfl⟩) (by assumption) ?_
        simp only [Act.put, List.setIfInBounds_toArray, List.set_cons_zero, List.set_cons_succ]
        refine wpAnyH_take (i := 17) (oi := ⟨some 53, _, _, _, _, _⟩) (v := undef) rfl (by kernel_rfl) (by kernel_rfl) (by kernel_rfl) (fun _ _ _ h => h) (Or.inr ⟨by rfl, rfl⟩) (by assumption) ?_
        simp only [Act.put, List.setIfInBounds_toArray, List.set_cons_zero, List.set_cons_succ]
        refine wpAnyH_take (i := 18) (oi := ⟨some 54, _, _, _, _, _⟩) (v := ?v4) rfl (by kernel_rfl) (by kernel_rfl) (by kernel_rfl) (fun _ _ _ h => h) (Or.inl ⟨by rfl, ?hy4⟩) (by assumption) ?rest4
        case hy4 => (intro wq hSw; obtain ⟨z0, z1, z2, z3, z4⟩ := HZ.out wq hSw; clear hSw; first | (go_simp; done) | (go_simp; with_reducible rfl))
        simp only [Act.put, List.setIfInBounds_toArray, List.set_cons_zero, List.set_cons_succ]
        refine wpAnyH_take (i := 19) (oi := ⟨some 55, _, _, _, _, _⟩) (v := ?v5) rfl (by kernel_rfl) (by kernel_rfl) (by kernel_rfl) (fun _ _ _ h => h) (Or.inl ⟨by rfl, ?hy5⟩) (by assumption) ?rest5
        case hy5 => (intro wq hSw; obtain ⟨z0, z1, z2, z3, z4⟩ := HZ.out wq hSw; clear hSw; first | (go_simp; done) | (go_simp; with_reducible rfl))
        simp only [Act.put, List.setIfInBounds_toArray, List.set_cons_zero, List.set_cons_succ]
        refine wpAnyH_take (i := 20) (oi := ⟨some 56, _, _, _, _, _⟩) (v := undef) rfl (by kernel_rfl) (by kernel_rfl) (by kernel_rfl) (fun _ _ _ h => h) (Or.inr ⟨by rfl, rfl⟩) (by assumption) ?_
        simp only [Act.put, List.setIfInBounds_toArray, List.set_cons_zero, List.set_cons_succ]
        refine wpAnyH_take (i := 21) (oi := ⟨some 57, _, _, _, _, _⟩) (v := undef) rfl (by kernel_rfl) (by kernel_rfl) (by kernel_rfl) (fun _ _ _ h => h) (Or.inr ⟨by rfl, rfl⟩) (by assumption) ?_
        simp only [Act.put, List.setIfInBounds_toArray, List.set_cons_zero, List.set_cons_succ]
        refine wpAnyH_take (i := 22) (oi := ⟨some 58, _, _, _, _, _⟩) (v := undef) rfl (by kernel_rfl) (by kernel_rfl) (by kernel_rfl) (fun _ _ _ h => h) (Or.inr ⟨by rfl, rfl⟩) (by assumption) ?_
        simp only [Act.put, List.setIfInBounds_toArray, List.set_cons_zero, List.set_cons_succ]
        refine wpAnyH_take (i := 23) (oi := ⟨some 59, _, _, _, _, _⟩) (v := undef) rfl (by kernel_rfl) (by kernel_rfl) (by kernel_rfl) (fun _ _ _ h => h) (Or.inr ⟨by rfl, rfl⟩) (by assumption) ?_
        simp only [Act.put, List.setIfInBounds_toArray, List.set_cons_zero, List.set_cons_succ]
        refine wpAnyH_take (i := 24) (oi := ⟨some 60, _, _, _, _, _⟩) (v := undef) rfl (by kernel_rfl) (by kernel_rfl) (by kernel_rfl) (fun _ _ _ h => h) (Or.inr ⟨by rfl, rfl⟩) (by assumption) ?_
        simp only [Act.put, List.setIfInBounds_toArray, List.set_cons_zero, List.set_cons_succ]
        refine wpAnyH_take (i := 25) (oi := ⟨some 61, _, _, _, _, _⟩) (v := undef) rfl (by kernel_rfl) (by kernel_rfl) (by kernel_rfl) (fun _ _ _ h => h) (Or.inr ⟨by rfl, rfl⟩) (by assumption) ?_
        simp only [Act.put, List.setIfInBounds_toArray, List.set_cons_zero, List.set_cons_succ]
        refine wpAnyH_take (i := 26) (oi := ⟨some 62, _, _, _, _, _⟩) (v := undef) rfl (by kernel_rfl) (by kernel_rfl) (by kernel_rfl) (fun _ _ _ h => h) (Or.inr ⟨by rfl, rfl⟩) (by assumption) ?_
        simp only [Act.put, List.setIfInBounds_toArray, List.set_cons_zero, List.set_cons_succ]
        refine wpAnyH_take (i := 27) (oi := ⟨some 63, _, _, _, _, _⟩) (v := undef) rfl (by kernel_rfl) (by kernel_rfl) (by kernel_rfl) (fun _ _ _ h => h) (Or.inr ⟨by rfl, rfl⟩) (by assumption) ?_
        simp only [Act.put, List.setIfInBounds_toArray, List.set_cons_zero, List.set_cons_succ]
        refine wpAnyH_take (i := 28) (oi := ⟨some 64, _, _, _, _, _⟩) (v := ?v6) rfl (by kernel_rfl) (by kernel_rfl) (by kernel_rfl) (fun _ _ _ h => h) (Or.inl ⟨by rfl, ?hy6⟩) (by assumption) ?rest6
        case hy6 => (intro wq hSw; obtain ⟨z0, z1, z2, z3, z4⟩ := HZ.out wq hSw; clear hSw; first | (go_simp; done) | (go_simp; with_reducible rfl))
        simp only [Act.put, List.setIfInBounds_toArray, List.set_cons_zero, List.set_cons_succ]
        have HV1 : Hid (Below V.heap.size V _) := hHeld
        refine wpAnyH_done (by kernel_rfl) ?_ _
        clear hHeld hb1
        go_wp2
        go_ret
        exact ⟨by rw [HR.out]; rfl, by first | exact HFV.out _ HV1.out | exact hD ▸ HFV.out _ HV1.out⟩
      rw [hrb] at HCk
      have HRb : Hid (rtB (n, ar, c) = true) := hrb
      clear hrb
      go_wp2
      go_cut [64] from 36 to 63 (fun v wx => ∃ bv : Bool, v = .bool bv ∧ Hid (Below V.heap.size V wx) ∧ Hid (bv = true → res = false) ∧ Hid (bv = false → (0 < j → leT n (rs.getD (j - 1) rt0).1 = false) ∧ cutA 46 n = nm))
      case first =>
        by_cases hj0 : j = 0
        · have hj1 : ¬ ((j : Int) > 0) := by omega
          have hj3 : ¬ (0 < j) := by omega
          have HJ0 : Hid (j = 0) := hj0
          clear hj0
          by_cases hyn : y0 = nm
          · have heb : (y0 != nm) = false := by rw [hyn]; simp
            have heb2 : (y0 == nm) = true := by rw [hyn]; simp
            have HYN : Hid (y0 = nm) := hyn
            clear hyn
            refine wp_region_held_drew (S := fun Z => Below V.heap.size V Z) (by kernel_rfl) (by exact ⟨rfl, rfl, rfl, Nat.le_refl _, fun _ _ => rfl⟩) (fun hHeld => ?_)
            refine wpAnyH_take (i := 0) (oi := ⟨some 36, _, _, _, _, _⟩) (v := ?v7) rfl (by kernel_rfl) (by kernel_rfl) (by kernel_rfl) (fun _ _ _ h => h) (Or.inl ⟨by rfl, ?hy7⟩) (by assumption) ?rest7
            case hy7 => (intro wq hSw; obtain ⟨z0, z1, z2, z3, z4⟩ := HZ.out wq hSw; clear hSw; first | (go_simp; done) | (go_simp; with_reducible rfl))
            simp only [Act.put, List.setIfInBounds_toArray, List.set_cons_zero, List.set_cons_succ]
            refine wpAnyH_ready (rs := [1]) (by kernel_rfl) (by simp) ?_
            refine AllReadyH.cons rfl (fun K hK => ?_) AllReadyH.nil
            go_simp
            refine Calls.mono (HCk.out _ hHeld) ?_
            rintro e V1 ⟨rfl, hb1⟩
            dsimp only
            refine hK.out _ _ (by exact hHeld.trans (hb1.mono hHeld.size)) (fun hHeld => ?_)
            clear hK K
            (try simp only [Act.put, List.setIfInBounds_toArray, List.set_cons_zero, List.set_cons_succ])
            refine wpAnyH_take (i := 2) (oi := ⟨some 38, _, _, _, _, _⟩) (v := ?v8) rfl (by kernel_rfl) (by kernel_rfl) (by kernel_rfl) (fun _ _ _ h => h) (Or.inl ⟨by rfl, ?hy8⟩) (by assumption) ?rest8
            case hy8 => (intro wq hSw; obtain ⟨z0, z1, z2, z3, z4⟩ := HZ.out wq hSw; clear hSw; first | (go_simp; done) | (go_simp; with_reducible rfl))
            simp only [Act.put, List.setIfInBounds_toArray, List.set_cons_zero, List.set_cons_succ]
            refine wpAnyH_take (i := 3) (oi := ⟨some 39, _, _, _, _, _⟩) (v := ?v9) rfl (by kernel_rfl) (by kernel_rfl) (by kernel_rfl) (fun _ _ _ h => h) (Or.inl ⟨by rfl, ?hy9⟩) (by assumption) ?rest9
            case hy9 => (intro wq hSw; obtain ⟨z0, z1, z2, z3, z4⟩ := HZ.out wq hSw; clear hSw; first | (go_simp; done) | (go_simp; with_reducible rfl))
            simp only [Act.put, List.setIfInBounds_toArray, List.set_cons_zero, List.set_cons_succ]
            refine wpAnyH_take (i := 4) (oi := ⟨some 40, _, _, _, _, _⟩) (v := ?v10) rfl (by kernel_rfl) (by kernel_rfl) (by kernel_rfl) (fun _ _ _ h => h) (Or.inl ⟨by rfl, ?hy10⟩) (by assumption) ?rest10
            case hy10 => (intro wq hSw; obtain ⟨z0, z1, z2, z3, z4⟩ := HZ.out wq hSw; clear hSw; first | (go_simp; done) | (go_simp; with_reducible rfl))
            simp only [Act.put, List.setIfInBounds_toArray, List.set_cons_zero, List.set_cons_succ]
            refine wpAnyH_take (i := 5) (oi := ⟨some 41, _, _, _, _, _⟩) (v := ?v11) rfl (by kernel_rfl) (by kernel_rfl) (by kernel_rfl) (fun _ _ _ h => h) (Or.inl ⟨by rfl, ?hy11⟩) (by assumption) ?rest11
            case hy11 => (intro wq hSw; obtain ⟨z0, z1, z2, z3, z4⟩ := HZ.out wq hSw; clear hSw; first | (go_simp; done) | (go_simp; with_reducible rfl))
            simp only [Act.put, List.setIfInBounds_toArray, List.set_cons_zero, List.set_cons_succ]
            refine wpAnyH_take (i := 6) (oi := ⟨some 42, _, _, _, _, _⟩) (v := ?v12) rfl (by kernel_rfl) (by kernel_rfl) (by kernel_rfl) (fun _ _ _ h => h) (Or.inl ⟨by rfl, ?hy12⟩) (by assumption) ?rest12
            case hy12 => (intro wq hSw; obtain ⟨z0, z1, z2, z3, z4⟩ := HZ.out wq hSw; clear hSw; first | (go_simp; done) | (go_simp; with_reducible rfl))
            simp only [Act.put, List.setIfInBounds_toArray, List.set_cons_zero, List.set_cons_succ]
            refine wpAnyH_take (i := 7) (oi := ⟨some 43, _, _, _, _, _⟩) (v := undef) rfl (by kernel_rfl) (by kernel_rfl) (by kernel_rfl) (fun _ _ _ h => h) (Or.inr ⟨by rfl, rfl⟩) (by assumption) ?_
            simp only [Act.put, List.setIfInBounds_toArray, List.set_cons_zero, List.set_cons_succ]
            refine wpAnyH_take (i := 8) (oi := ⟨some 44, _, _, _, _, _⟩) (v := undef) rfl (by kernel_rfl) (by kernel_rfl) (by kernel_rfl) (fun _ _ _ h => h) (Or.inr ⟨by rfl, rfl⟩) (by assumption) ?_
            simp only [Act.put, List.setIfInBounds_toArray, List.set_cons_zero, List.set_cons_succ]
            refine wpAnyH_take (i := 9) (oi := ⟨some 45, _, _, _, _, _⟩) (v := undef) rfl (by kernel_rfl) (by kernel_rfl) (by kernel_rfl) (fun _ _ _ h => h) (Or.inr ⟨by rfl, rfl⟩) (by assumption) ?_
            simp only [Act.put, List.setIfInBounds_toArray, List.set_cons_zero, List.set_cons_succ]
            refine wpAnyH_take (i := 10) (oi := ⟨some 46, _, _, _, _, _⟩) (v := undef) rfl (by kernel_rfl) (by kernel_rfl) (by kernel_rfl) (fun _ _ _ h => h) (Or.inr ⟨by rfl, rfl⟩) (by assumption) ?_
            simp only [Act.put, List.setIfInBounds_toArray, List.set_cons_zero, List.set_cons_succ]
            refine wpAnyH_take (i := 11) (oi := ⟨some 47, _, _, _, _, _⟩) (v := undef) rfl (by kernel_rfl) (by kernel_rfl) (by kernel_rfl) (fun _ _ _ h => h) (Or.inr ⟨by rfl, rfl⟩) (by assumption) ?_
            simp only [Act.put, List.setIfInBounds_toArray, List.set_cons_zero, List.set_cons_succ]
            refine wpAnyH_take (i := 12) (oi := ⟨some 48, _, _, _, _, _⟩) (v := undef) rfl (by kernel_rfl) (by kernel_rfl) (by kernel_rfl) (fun _ _ _ h => h) (Or.inr ⟨by rfl, rfl⟩) (by assumption) ?_
            simp only [Act.put, List.setIfInBounds_toArray, List.set_cons_zero, List.set_cons_succ]
            refine wpAnyH_take (i := 13) (oi := ⟨some 49, _, _, _, _, _⟩) (v := undef) rfl (by kernel_rfl) (by kernel_rfl) (by kernel_rfl) (fun _ _ _ h => h) (Or.inr ⟨by rfl, rfl⟩) (by assumption) ?_
            simp only [Act.put, List.setIfInBounds_toArray, List.set_cons_zero, List.set_cons_succ]
            refine wpAnyH_take (i := 14) (oi := ⟨some 50, _, _, _, _, _⟩) (v := undef) rfl (by kernel_rfl) (by kernel_rfl) (by kernel_rfl) (fun _ _ _ h => h) (Or.inr ⟨by rfl, rfl⟩) (by assumption) ?_
            simp only [Act.put, List.setIfInBounds_toArray, List.set_cons_zero, List.set_cons_succ]
            refine wpAnyH_take (i := 15) (oi := ⟨some 51, _, _, _, _, _⟩) (v := undef) rfl (by kernel_rfl) (by kernel_rfl) (by kernel_rfl) (fun _ _ _ h => h) (Or.inr ⟨by rfl, rfl⟩) (by assumption) ?_
            simp only [Act.put, List.setIfInBounds_toArray, List.set_cons_zero, List.set_cons_succ]
            refine wpAnyH_take (i := 16) (oi := ⟨some 52, _, _, _, _, _⟩) (v := undef) rfl (by kernel_rfl) (by kernel_rfl) (by kernel_rfl) (fun _ _ _ h => h) (Or.inr ⟨by rfl, rfl⟩) (by assumption) ?_
            simp only [Act.put, List.setIfInBounds_toArray, List.set_cons_zero, List.set_cons_succ]
            refine wpAnyH_take (i := 17) (oi := ⟨some 53, _, _, _, _, _⟩) (v := ?v13) rfl (by kernel_rfl) (by kernel_rfl) (by kernel_rfl) (fun _ _ _ h => h) (Or.inl ⟨by rfl, ?hy13⟩) (by assumption) ?rest13
            case hy13 => (intro wq hSw; obtain ⟨z0, z1, z2, z3, z4⟩ := HZ.out wq hSw; clear hSw; first | (go_simp; done) | (go_simp; with_reducible rfl))
            simp only [Act.put, List.setIfInBounds_toArray, List.set_cons_zero, List.set_cons_succ]
            refine wpAnyH_take (i := 18) (oi := ⟨some 54, _, _, _, _, _⟩) (v := ?v14) rfl (by kernel_rfl) (by kernel_rfl) (by kernel_rfl) (fun _ _ _ h => h) (Or.inl ⟨by rfl, ?hy14⟩) (by assumption) ?rest14
            case hy14 => (intro wq hSw; obtain ⟨z0, z1, z2, z3, z4⟩ := HZ.out wq hSw; clear hSw; first | (go_simp; done) | (go_simp; with_reducible rfl))
            simp only [Act.put, List.setIfInBounds_toArray, List.set_cons_zero, List.set_cons_succ]
            refine wpAnyH_take (i := 19) (oi := ⟨some 55, _, _, _, _, _⟩) (v := ?v15) rfl (by kernel_rfl) (by kernel_rfl) (by kernel_rfl) (fun _ _ _ h => h) (Or.inl ⟨by rfl, ?hy15⟩) (by assumption) ?rest15
            case hy15 => (intro wq hSw; obtain ⟨z0, z1, z2, z3, z4⟩ := HZ.out wq hSw; clear hSw; first | (go_simp; done) | (go_simp; with_reducible rfl))
            simp only [Act.put, List.setIfInBounds_toArray, List.set_cons_zero, List.set_cons_succ]
            refine wpAnyH_take (i := 20) (oi := ⟨some 56, _, _, _, _, _⟩) (v := ?v16) rfl (by kernel_rfl) (by kernel_rfl) (by kernel_rfl) (fun _ _ _ h => h) (Or.inl ⟨by rfl, ?hy16⟩) (by assumption) ?rest16
            case hy16 => (intro wq hSw; obtain ⟨z0, z1, z2, z3, z4⟩ := HZ.out wq hSw; clear hSw; first | (go_simp; done) | (go_simp; with_reducible rfl))
            simp only [Act.put, List.setIfInBounds_toArray, List.set_cons_zero, List.set_cons_succ]
            refine wpAnyH_take (i := 21) (oi := ⟨some 57, _, _, _, _, _⟩) (v := ?v17) rfl (by kernel_rfl) (by kernel_rfl) (by kernel_rfl) (fun _ _ _ h => h) (Or.inl ⟨by rfl, ?hy17⟩) (by assumption) ?rest17
            case hy17 => (intro wq hSw; obtain ⟨z0, z1, z2, z3, z4⟩ := HZ.out wq hSw; clear hSw; first | (go_simp; done) | (go_simp; with_reducible rfl))
            simp only [Act.put, List.setIfInBounds_toArray, List.set_cons_zero, List.set_cons_succ]
            refine wpAnyH_take (i := 25) (oi := ⟨some 61, _, _, _, _, _⟩) (v := ?v18) rfl (by kernel_rfl) (by kernel_rfl) (by kernel_rfl) (fun _ _ _ h => h) (Or.inl ⟨by rfl, ?hy18⟩) (by assumption) ?rest18
            case hy18 => (intro wq hSw; obtain ⟨z0, z1, z2, z3, z4⟩ := HZ.out wq hSw; clear hSw; first | (go_simp; done) | (go_simp; with_reducible rfl))
            simp only [Act.put, List.setIfInBounds_toArray, List.set_cons_zero, List.set_cons_succ]
            refine wpAnyH_take (i := 26) (oi := ⟨some 62, _, _, _, _, _⟩) (v := ?v19) rfl (by kernel_rfl) (by kernel_rfl) (by kernel_rfl) (fun _ _ _ h => h) (Or.inl ⟨by rfl, ?hy19⟩) (by assumption) ?rest19
            case hy19 => (intro wq hSw; obtain ⟨z0, z1, z2, z3, z4⟩ := HZ.out wq hSw; clear hSw; first | (go_simp; done) | (go_simp; with_reducible rfl))
            simp only [Act.put, List.setIfInBounds_toArray, List.set_cons_zero, List.set_cons_succ]
            refine wpAnyH_ready (rs := [22]) (by kernel_rfl) (by simp) ?_
            refine AllReadyH.cons rfl (fun K hK => ?_) AllReadyH.nil
            go_simp
            refine Calls.mono (HSp.out _) ?_
            rintro e V2 ⟨g2, cp2, m2, rfl, hx2, hb2⟩; have hm2 : (0 : Int) < ((m2 + 1 : Nat) : Int) := (by omega)
            dsimp only
            refine hK.out _ _ (by exact hHeld.trans (hb2.mono hHeld.size)) (fun hHeld => ?_)
            clear hK K
            (try simp only [Act.put, List.setIfInBounds_toArray, List.set_cons_zero, List.set_cons_succ])
            refine wpAnyH_ready (rs := [23]) (by kernel_rfl) (by simp) ?_
            refine AllReadyH.cons rfl (fun K hK => ?_) AllReadyH.nil
            go_simp
            refine hK.out _ _ (by exact hHeld) (fun hHeld => ?_)
            clear hK K
            (try simp only [Act.put, List.setIfInBounds_toArray, List.set_cons_zero, List.set_cons_succ])
            refine wpAnyH_ready (rs := [24]) (by kernel_rfl) (by simp) ?_
            refine AllReadyH.cons rfl (fun K hK => ?_) AllReadyH.nil
            go_simp
            refine hK.out _ _ (by exact hHeld) (fun hHeld => ?_)
            clear hK K
            (try simp only [Act.put, List.setIfInBounds_toArray, List.set_cons_zero, List.set_cons_succ])
            refine wpAnyH_take (i := 27) (oi := ⟨some 63, _, _, _, _, _⟩) (v := ?v20) rfl (by kernel_rfl) (by kernel_rfl) (by kernel_rfl) (fun _ _ _ h => h) (Or.inl ⟨by rfl, ?hy20⟩) (by assumption) ?rest20
            case hy20 => (intro wq hSw; obtain ⟨z0, z1, z2, z3, z4⟩ := HZ.out wq hSw; clear hSw; first | (go_simp; done) | (go_simp; with_reducible rfl))
            simp only [Act.put, List.setIfInBounds_toArray, List.set_cons_zero, List.set_cons_succ]
            refine wpAnyH_take (i := 28) (oi := ⟨some 64, _, _, _, _, _⟩) (v := ?v21) rfl (by kernel_rfl) (by kernel_rfl) (by kernel_rfl) (fun _ _ _ h => h) (Or.inl ⟨by rfl, ?hy21⟩) (by assumption) ?rest21
            case hy21 => (intro wq hSw; obtain ⟨z0, z1, z2, z3, z4⟩ := HZ.out wq hSw; clear hSw; first | (go_simp; done) | (go_simp; with_reducible rfl))
            simp only [Act.put, List.setIfInBounds_toArray, List.set_cons_zero, List.set_cons_succ]
            have HV1 : Hid (Below V.heap.size V _) := hHeld
            refine wpAnyH_done (by kernel_rfl) ?_ _
            clear hHeld hb1 hb2 hx2
            go_wp2_with fail
            go_meet
            case rel => exact ⟨false, rfl, HV1, (fun e => by cases e), (fun _ => ⟨fun h => by have := HJ0.out; omega, HY0.out.trans HYN.out⟩)⟩
          · have heb : (y0 != nm) = true := bne_iff_ne.2 hyn
            have heb2 : (y0 == nm) = false := beq_eq_false_iff_ne.2 hyn
            have HR : Hid (res = false) := HNj.out (fun e => by have := e.1.2.2; rw [HX0.out] at this; exact hyn (HY0.out.symm.trans this))
            clear hyn
            refine wp_region_held_drew (S := fun Z => Below V.heap.size V Z) (by kernel_rfl) (by exact ⟨rfl, rfl, rfl, Nat.le_refl _, fun _ _ => rfl⟩) (fun hHeld => ?_)
            refine wpAnyH_take (i := 0) (oi := ⟨some 36, _, _, _, _, _⟩) (v := ?v22) rfl (by kernel_rfl) (by kernel_rfl) (by kernel_rfl) (fun _ _ _ h => h) (Or.inl ⟨by rfl, ?hy22⟩) (by assumption) ?rest22
            case hy22 => (intro wq hSw; obtain ⟨z0, z1, z2, z3, z4⟩ := HZ.out wq hSw; clear hSw; first | (go_simp; done) | (go_simp; with_reducible rfl))
            simp only [Act.put, List.setIfInBounds_toArray, List.set_cons_zero, List.set_cons_succ]
            refine wpAnyH_ready (rs := [1]) (by kernel_rfl) (by simp) ?_
            refine AllReadyH.cons rfl (fun K hK => ?_) AllReadyH.nil
            go_simp
            refine Calls.mono (HCk.out _ hHeld) ?_
            rintro e V1 ⟨rfl, hb1⟩
            dsimp only
            refine hK.out _ _ (by exact hHeld.trans (hb1.mono hHeld.size)) (fun hHeld => ?_)
            clear hK K
            (try simp only [Act.put, List.setIfInBounds_toArray, List.set_cons_zero, List.set_cons_succ])
            refine wpAnyH_take (i := 2) (oi := ⟨some 38, _, _, _, _, _⟩) (v := ?v23) rfl (by kernel_rfl) (by kernel_rfl) (by kernel_rfl) (fun _ _ _ h => h) (Or.inl ⟨by rfl, ?hy23⟩) (by assumption) ?rest23
            case hy23 => (intro wq hSw; obtain ⟨z0, z1, z2, z3, z4⟩ := HZ.out wq hSw; clear hSw; first | (go_simp; done) | (go_simp; with_reducible rfl))
            simp only [Act.put, List.setIfInBounds_toArray, List.set_cons_zero, List.set_cons_succ]
            refine wpAnyH_take (i := 3) (oi := ⟨some 39, _, _, _, _, _⟩) (v := ?v24) rfl (by kernel_rfl) (by kernel_rfl) (by kernel_rfl) (fun _ _ _ h => h) (Or.inl ⟨by rfl, ?hy24⟩) (by assumption) ?rest24
            case hy24 => (intro wq hSw; obtain ⟨z0, z1, z2, z3, z4⟩ := HZ.out wq hSw; clear hSw; first | (go_simp; done) | (go_simp; with_reducible rfl))
            simp only [Act.put, List.setIfInBounds_toArray, List.set_cons_zero, List.set_cons_succ]
            refine wpAnyH_take (i := 4) (oi := ⟨some 40, _, _, _, _, _⟩) (v := ?v25) rfl (by kernel_rfl) (by kernel_rfl) (by kernel_rfl) (fun _ _ _ h => h) (Or.inl ⟨by rfl, ?hy25⟩) (by assumption) ?rest25
            case hy25 => (intro wq hSw; obtain ⟨z0, z1, z2, z3, z4⟩ := HZ.out wq hSw; clear hSw; first | (go_simp; done) | (go_simp; with_reducible rfl))
            simp only [Act.put, List.setIfInBounds_toArray, List.set_cons_zero, List.set_cons_succ]
            refine wpAnyH_take (i := 5) (oi := ⟨some 41, _, _, _, _, _⟩) (v := ?v26) rfl (by kernel_rfl) (by kernel_rfl) (by kernel_rfl) (fun _ _ _ h => h) (Or.inl ⟨by rfl, ?hy26⟩) (by assumption) ?rest26
            case hy26 => (intro wq hSw; obtain ⟨z0, z1, z2, z3, z4⟩ := HZ.out wq hSw; clear hSw; first | (go_simp; done) | (go_simp; with_reducible rfl))
            simp only [Act.put, List.setIfInBounds_toArray, List.set_cons_zero, List.set_cons_succ]
            refine wpAnyH_take (i := 6) (oi := ⟨some 42, _, _, _, _, _⟩) (v := ?v27) rfl (by kernel_rfl) (by kernel_rfl) (by kernel_rfl) (fun _ _ _ h => h) (Or.inl ⟨by rfl, ?hy27⟩) (by assumption) ?rest27
            case hy27 => (intro wq hSw; obtain ⟨z0, z1, z2, z3, z4⟩ := HZ.out wq hSw; clear hSw; first | (go_simp; done) | (go_simp; with_reducible rfl))
            simp only [Act.put, List.setIfInBounds_toArray, List.set_cons_zero, List.set_cons_succ]
            refine wpAnyH_take (i := 7) (oi := ⟨some 43, _, _, _, _, _⟩) (v := undef) rfl (by kernel_rfl) (by kernel_rfl) (by kernel_rfl) (fun _ _ _ h => h) (Or.inr ⟨by rfl, rfl⟩) (by assumption) ?_
            simp only [Act.put, List.setIfInBounds_toArray, List.set_cons_zero, List.set_cons_succ]
            refine wpAnyH_take (i := 8) (oi := ⟨some 44, _, _, _, _, _⟩) (v := undef) rfl (by kernel_rfl) (by kernel_rfl) (by kernel_rfl) (fun _ _ _ h => h) (Or.inr ⟨by rfl, rfl⟩) (by assumption) ?_
            simp only [Act.put, List.setIfInBounds_toArray, List.set_cons_zero, List.set_cons_succ]
            refine wpAnyH_take (i := 9) (oi := ⟨some 45, _, _, _, _, _⟩) (v := undef) rfl (by kernel_rfl) (by kernel_rfl) (by kernel_rfl) (fun _ _ _ h => h) (Or.inr ⟨by rfl, rfl⟩) (by assumption) ?_
            simp only [Act.put, List.setIfInBounds_toArray, List.set_cons_zero, List.set_cons_succ]
            refine wpAnyH_take (i := 10) (oi := ⟨some 46, _, _, _, _, _⟩) (v := undef) rfl (by kernel_rfl) (by kernel_rfl) (by kernel_rfl) (fun _ _ _ h => h) (Or.inr ⟨by rfl, rfl⟩) (by assumption) ?_
            simp only [Act.put, List.setIfInBounds_toArray, List.set_cons_zero, List.set_cons_succ]
            refine wpAnyH_take (i := 11) (oi := ⟨some 47, _, _, _, _, _⟩) (v := undef) rfl (by kernel_rfl) (by kernel_rfl) (by kernel_rfl) (fun _ _ _ h => h) (Or.inr ⟨by rfl, rfl⟩) (by assumption) ?_
            simp only [Act.put, List.setIfInBounds_toArray, List.set_cons_zero, List.set_cons_succ]
            refine wpAnyH_take (i := 12) (oi := ⟨some 48, _, _, _, _, _⟩) (v := undef) rfl (by kernel_rfl) (by kernel_rfl) (by kernel_rfl) (fun _ _ _ h => h) (Or.inr ⟨by rfl, rfl⟩) (by assumption) ?_
            simp only [Act.put, List.setIfInBounds_toArray, List.set_cons_zero, List.set_cons_succ]
            refine wpAnyH_take (i := 13) (oi := ⟨some 49, _, _, _, _, _⟩) (v := undef) rfl (by kernel_rfl) (by kernel_rfl) (by kernel_rfl) (fun _ _ _ h => h) (Or.inr ⟨by rfl, rfl⟩) (by assumption) ?_
            simp only [Act.put, List.setIfInBounds_toArray, List.set_cons_zero, List.set_cons_succ]
            refine wpAnyH_take (i := 14) (oi := ⟨some 50, _, _, _, _, _⟩) (v := undef) rfl (by kernel_rfl) (by kernel_rfl) (by kernel_rfl) (fun _ _ _ h => h) (Or.inr ⟨by rfl, rfl⟩) (by assumption) ?_
            simp only [Act.put, List.setIfInBounds_toArray, List.set_cons_zero, List.set_cons_succ]
            refine wpAnyH_take (i := 15) (oi := ⟨some 51, _, _, _, _, _⟩) (v := undef) rfl (by kernel_rfl) (by kernel_rfl) (by kernel_rfl) (fun _ _ _ h => h) (Or.inr ⟨by rfl, rfl⟩) (by assumption) ?_
            simp only [Act.put, List.setIfInBounds_toArray, List.set_cons_zero, List.set_cons_succ]
            refine wpAnyH_take (i := 16) (oi := ⟨some 52, _, _, _, _, _⟩) (v := undef) rfl (by kernel_rfl) (by kernel_rfl) (by kernel_rfl) (fun _ _ _ h => h) (Or.inr ⟨by rfl, rfl⟩) (by assumption) ?_
            simp only [Act.put, List.setIfInBounds_toArray, List.set_cons_zero, List.set_cons_succ]
            refine wpAnyH_take (i := 17) (oi := ⟨some 53, _, _, _, _, _⟩) (v := ?v28) rfl (by kernel_rfl) (by kernel_rfl) (by kernel_rfl) (fun _ _ _ h => h) (Or.inl ⟨by rfl, ?hy28⟩) (by assumption) ?rest28
            case hy28 => (intro wq hSw; obtain ⟨z0, z1, z2, z3, z4⟩ := HZ.out wq hSw; clear hSw; first | (go_simp; done) | (go_simp; with_reducible rfl))
            simp only [Act.put, List.setIfInBounds_toArray, List.set_cons_zero, List.set_cons_succ]
            refine wpAnyH_take (i := 18) (oi := ⟨some 54, _, _, _, _, _⟩) (v := ?v29) rfl (by kernel_rfl) (by kernel_rfl) (by kernel_rfl) (fun _ _ _ h => h) (Or.inl ⟨by rfl, ?hy29⟩) (by assumption) ?rest29
            case hy29 => (intro wq hSw; obtain ⟨z0, z1, z2, z3, z4⟩ := HZ.out wq hSw; clear hSw; first | (go_simp; done) | (go_simp; with_reducible rfl))
            simp only [Act.put, List.setIfInBounds_toArray, List.set_cons_zero, List.set_cons_succ]
            refine wpAnyH_take (i := 19) (oi := ⟨some 55, _, _, _, _, _⟩) (v := ?v30) rfl (by kernel_rfl) (by kernel_rfl) (by kernel_rfl) (fun _ _ _ h => h) (Or.inl ⟨by rfl, ?hy30⟩) (by assumption) ?rest30
            case hy30 => (intro wq hSw; obtain ⟨z0, z1, z2, z3, z4⟩ := HZ.out wq hSw; clear hSw; first | (go_simp; done) | (go_simp; with_reducible rfl))
            simp only [Act.put, List.setIfInBounds_toArray, List.set_cons_zero, List.set_cons_succ]
            refine wpAnyH_take (i := 20) (oi := ⟨some 56, _, _, _, _, _⟩) (v := ?v31) rfl (by kernel_rfl) (by kernel_rfl) (by kernel_rfl) (fun _ _ _ h => h) (Or.inl ⟨by rfl, ?hy31⟩) (by assumption) ?rest31
            case hy31 => (intro wq hSw; obtain ⟨z0, z1, z2, z3, z4⟩ := HZ.out wq hSw; clear hSw; first | (go_simp; done) | (go_simp; with_reducible rfl))
            simp only [Act.put, List.setIfInBounds_toArray, List.set_cons_zero, List.set_cons_succ]
            refine wpAnyH_take (i := 21) (oi := ⟨some 57, _, _, _, _, _⟩) (v := ?v32) rfl (by kernel_rfl) (by kernel_rfl) (by kernel_rfl) (fun _ _ _ h => h) (Or.inl ⟨by rfl, ?hy32⟩) (by assumption) ?rest32
            case hy32 => (intro wq hSw; obtain ⟨z0, z1, z2, z3, z4⟩ := HZ.out wq hSw; clear hSw; first | (go_simp; done) | (go_simp; with_reducible rfl))
            simp only [Act.put, List.setIfInBounds_toArray, List.set_cons_zero, List.set_cons_succ]
            refine wpAnyH_take (i := 25) (oi := ⟨some 61, _, _, _, _, _⟩) (v := ?v33) rfl (by kernel_rfl) (by kernel_rfl) (by kernel_rfl) (fun _ _ _ h => h) (Or.inl ⟨by rfl, ?hy33⟩) (by assumption) ?rest33
            case hy33 => (intro wq hSw; obtain ⟨z0, z1, z2, z3, z4⟩ := HZ.out wq hSw; clear hSw; first | (go_simp; done) | (go_simp; with_reducible rfl))
            simp only [Act.put, List.setIfInBounds_toArray, List.set_cons_zero, List.set_cons_succ]
            refine wpAnyH_take (i := 26) (oi := ⟨some 62, _, _, _, _, _⟩) (v := ?v34) rfl (by kernel_rfl) (by kernel_rfl) (by kernel_rfl) (fun _ _ _ h => h) (Or.inl ⟨by rfl, ?hy34⟩) (by assumption) ?rest34
            case hy34 => (intro wq hSw; obtain ⟨z0, z1, z2, z3, z4⟩ := HZ.out wq hSw; clear hSw; first | (go_simp; done) | (go_simp; with_reducible rfl))
            simp only [Act.put, List.setIfInBounds_toArray, List.set_cons_zero, List.set_cons_succ]
            refine wpAnyH_ready (rs := [22]) (by kernel_rfl) (by simp) ?_
            refine AllReadyH.cons rfl (fun K hK => ?_) AllReadyH.nil
            go_simp
            refine Calls.mono (HSp.out _) ?_
            rintro e V2 ⟨g2, cp2, m2, rfl, hx2, hb2⟩; have hm2 : (0 : Int) < ((m2 + 1 : Nat) : Int) := (by omega)
            dsimp only
            refine hK.out _ _ (by exact hHeld.trans (hb2.mono hHeld.size)) (fun hHeld => ?_)
            clear hK K
            (try simp only [Act.put, List.setIfInBounds_toArray, List.set_cons_zero, List.set_cons_succ])
            refine wpAnyH_ready (rs := [23]) (by kernel_rfl) (by simp) ?_
            refine AllReadyH.cons rfl (fun K hK => ?_) AllReadyH.nil
            go_simp
            refine hK.out _ _ (by exact hHeld) (fun hHeld => ?_)
            clear hK K
            (try simp only [Act.put, List.setIfInBounds_toArray, List.set_cons_zero, List.set_cons_succ])
            refine wpAnyH_ready (rs := [24]) (by kernel_rfl) (by simp) ?_
            refine AllReadyH.cons rfl (fun K hK => ?_) AllReadyH.nil
            go_simp
            refine hK.out _ _ (by exact hHeld) (fun hHeld => ?_)
            clear hK K
            (try simp only [Act.put, List.setIfInBounds_toArray, List.set_cons_zero, List.set_cons_succ])
            refine wpAnyH_take (i := 27) (oi := ⟨some 63, _, _, _, _, _⟩) (v := ?v35) rfl (by kernel_rfl) (by kernel_rfl) (by kernel_rfl) (fun _ _ _ h => h) (Or.inl ⟨by rfl, ?hy35⟩) (by assumption) ?rest35
            case hy35 => (intro wq hSw; obtain ⟨z0, z1, z2, z3, z4⟩ := HZ.out wq hSw; clear hSw; first | (go_simp; done) | (go_simp; with_reducible rfl))
            simp only [Act.put, List.setIfInBounds_toArray, List.set_cons_zero, List.set_cons_succ]
            refine wpAnyH_take (i := 28) (oi := ⟨some 64, _, _, _, _, _⟩) (v := ?v36) rfl (by kernel_rfl) (by kernel_rfl) (by kernel_rfl) (fun _ _ _ h => h) (Or.inl ⟨by rfl, ?hy36⟩) (by assumption) ?rest36
            case hy36 => (intro wq hSw; obtain ⟨z0, z1, z2, z3, z4⟩ := HZ.out wq hSw; clear hSw; first | (go_simp; done) | (go_simp; with_reducible rfl))
            simp only [Act.put, List.setIfInBounds_toArray, List.set_cons_zero, List.set_cons_succ]
            have HV1 : Hid (Below V.heap.size V _) := hHeld
            refine wpAnyH_done (by kernel_rfl) ?_ _
            clear hHeld hb1 hb2 hx2
            go_wp2_with fail
            go_meet
            case rel => exact ⟨true, rfl, HV1, (fun _ => HR.out), (fun e => by cases e)⟩
        · obtain ⟨p, hp⟩ : ∃ p, p + 1 = j := ⟨j - 1, by omega⟩
          have hj1 : (j : Int) > 0 := by omega
          have hj2 : (0 : Int) < (j : Int) := by omega
          have hj3 : 0 < j := by omega
          have hjp : (j : Int) - 1 = (p : Int) := by omega
          have hpl : (p : Int) < (rs.length : Int) := by omega
          have hpw : IntKind.i64.wrap (p : Int) = (p : Int) := by rw [IntKind.wrap_i64]; omega
          have HP : Hid (_) := HPv.out p hp
          have hpj : j - 1 = p := by omega
          obtain ⟨y, hy⟩ : ∃ y, (rs.getD p rt0).1 = y := ⟨_, rfl⟩
          rw [hy] at HP
          rcases hle : leT n y with _ | _
          · have HL : Hid (leT n (rs.getD (j - 1) rt0).1 = false) := by
              show leT n (rs.getD (j - 1) rt0).1 = false
              rw [hpj, hy]
              exact hle
            unfold leT at hle
            clear hp hpj hy
            by_cases hyn : y0 = nm
            · have heb : (y0 != nm) = false := by rw [hyn]; simp
              have heb2 : (y0 == nm) = true := by rw [hyn]; simp
              have HYN : Hid (y0 = nm) := hyn
              clear hyn
              refine wp_region_held_drew (S := fun Z => Below V.heap.size V Z) (by kernel_rfl) (by exact ⟨rfl, rfl, rfl, Nat.le_refl _, fun _ _ => rfl⟩) (fun hHeld => ?_)
              refine wpAnyH_take (i := 0) (oi := ⟨some 36, _, _, _, _, _⟩) (v := ?v37) rfl (by kernel_rfl) (by kernel_rfl) (by kernel_rfl) (fun _ _ _ h => h) (Or.inl ⟨by rfl, ?hy37⟩) (by assumption) ?rest37
              case hy37 => (intro wq hSw; obtain ⟨z0, z1, z2, z3, z4⟩ := HZ.out wq hSw; clear hSw; first | (go_simp; done) | (go_simp; with_reducible rfl))
              simp only [Act.put, List.setIfInBounds_toArray, List.set_cons_zero, List.set_cons_succ]
              refine wpAnyH_ready (rs := [1]) (by kernel_rfl) (by simp) ?_
              refine AllReadyH.cons rfl (fun K hK => ?_) AllReadyH.nil
              go_simp
              refine Calls.mono (HCk.out _ hHeld) ?_
              rintro e V1 ⟨rfl, hb1⟩
              dsimp only
              refine hK.out _ _ (by exact hHeld.trans (hb1.mono hHeld.size)) (fun hHeld => ?_)
              clear hK K
              (try simp only [Act.put, List.setIfInBounds_toArray, List.set_cons_zero, List.set_cons_succ])
              refine wpAnyH_take (i := 2) (oi := ⟨some 38, _, _, _, _, _⟩) (v := ?v38) rfl (by kernel_rfl) (by kernel_rfl) (by kernel_rfl) (fun _ _ _ h => h) (Or.inl ⟨by rfl, ?hy38⟩) (by assumption) ?rest38
              case hy38 => (intro wq hSw; obtain ⟨z0, z1, z2, z3, z4⟩ := HZ.out wq hSw; clear hSw; first | (go_simp; done) | (go_simp; with_reducible rfl))
              simp only [Act.put, List.setIfInBounds_toArray, List.set_cons_zero, List.set_cons_succ]
              refine wpAnyH_take (i := 3) (oi := ⟨some 39, _, _, _, _, _⟩) (v := ?v39) rfl (by kernel_rfl) (by kernel_rfl) (by kernel_rfl) (fun _ _ _ h => h) (Or.inl ⟨by rfl, ?hy39⟩) (by assumption) ?rest39
              case hy39 => (intro wq hSw; obtain ⟨z0, z1, z2, z3, z4⟩ := HZ.out wq hSw; clear hSw; first | (go_simp; done) | (go_simp; with_reducible rfl))
              simp only [Act.put, List.setIfInBounds_toArray, List.set_cons_zero, List.set_cons_succ]
              refine wpAnyH_take (i := 4) (oi := ⟨some 40, _, _, _, _, _⟩) (v := ?v40) rfl (by kernel_rfl) (by kernel_rfl) (by kernel_rfl) (fun _ _ _ h => h) (Or.inl ⟨by rfl, ?hy40⟩) (by assumption) ?rest40
              case hy40 => (intro wq hSw; obtain ⟨z0, z1, z2, z3, z4⟩ := HZ.out wq hSw; clear hSw; first | (go_simp; done) | (go_simp; with_reducible rfl))
              simp only [Act.put, List.setIfInBounds_toArray, List.set_cons_zero, List.set_cons_succ]
              refine wpAnyH_take (i := 5) (oi := ⟨some 41, _, _, _, _, _⟩) (v := ?v41) rfl (by kernel_rfl) (by kernel_rfl) (by kernel_rfl) (fun _ _ _ h => h) (Or.inl ⟨by rfl, ?hy41⟩) (by assumption) ?rest41
              case hy41 => (intro wq hSw; obtain ⟨z0, z1, z2, z3, z4⟩ := HZ.out wq hSw; clear hSw; first | (go_simp; done) | (go_simp; with_reducible rfl))
              simp only [Act.put, List.setIfInBounds_toArray, List.set_cons_zero, List.set_cons_succ]
              refine wpAnyH_take (i := 6) (oi := ⟨some 42, _, _, _, _, _⟩) (v := ?v42) rfl (by kernel_rfl) (by kernel_rfl) (by kernel_rfl) (fun _ _ _ h => h) (Or.inl ⟨by rfl, ?hy42⟩) (by assumption) ?rest42
              case hy42 => (intro wq hSw; obtain ⟨z0, z1, z2, z3, z4⟩ := HZ.out wq hSw; clear hSw; first | (go_simp; done) | (go_simp; with_reducible rfl))
              simp only [Act.put, List.setIfInBounds_toArray, List.set_cons_zero, List.set_cons_succ]
              refine wpAnyH_take (i := 7) (oi := ⟨some 43, _, _, _, _, _⟩) (v := ?v43) rfl (by kernel_rfl) (by kernel_rfl) (by kernel_rfl) (fun _ _ _ h => h) (Or.inl ⟨by rfl, ?hy43⟩) (by assumption) ?rest43
              case hy43 => (intro wq hSw; obtain ⟨z0, z1, z2, z3, z4⟩ := HZ.out wq hSw; have z5 := HP.out wq hSw; clear hSw; first | (go_simp; done) | (go_simp; with_reducible rfl))
              simp only [Act.put, List.setIfInBounds_toArray, List.set_cons_zero, List.set_cons_succ]
              refine wpAnyH_take (i := 8) (oi := ⟨some 44, _, _, _, _, _⟩) (v := ?v44) rfl (by kernel_rfl) (by kernel_rfl) (by kernel_rfl) (fun _ _ _ h => h) (Or.inl ⟨by rfl, ?hy44⟩) (by assumption) ?rest44
              case hy44 => (intro wq hSw; obtain ⟨z0, z1, z2, z3, z4⟩ := HZ.out wq hSw; have z5 := HP.out wq hSw; clear hSw; first | (go_simp; done) | (go_simp; with_reducible rfl))
              simp only [Act.put, List.setIfInBounds_toArray, List.set_cons_zero, List.set_cons_succ]
              refine wpAnyH_take (i := 9) (oi := ⟨some 45, _, _, _, _, _⟩) (v := ?v45) rfl (by kernel_rfl) (by kernel_rfl) (by kernel_rfl) (fun _ _ _ h => h) (Or.inl ⟨by rfl, ?hy45⟩) (by assumption) ?rest45
              case hy45 => (intro wq hSw; obtain ⟨z0, z1, z2, z3, z4⟩ := HZ.out wq hSw; have z5 := HP.out wq hSw; clear hSw; first | (go_simp; done) | (go_simp; with_reducible rfl))
              simp only [Act.put, List.setIfInBounds_toArray, List.set_cons_zero, List.set_cons_succ]
              refine wpAnyH_take (i := 10) (oi := ⟨some 46, _, _, _, _, _⟩) (v := ?v46) rfl (by kernel_rfl) (by kernel_rfl) (by kernel_rfl) (fun _ _ _ h => h) (Or.inl ⟨by rfl, ?hy46⟩) (by assumption) ?rest46
              case hy46 => (intro wq hSw; obtain ⟨z0, z1, z2, z3, z4⟩ := HZ.out wq hSw; have z5 := HP.out wq hSw; clear hSw; first | (go_simp; done) | (go_simp; with_reducible rfl))
              simp only [Act.put, List.setIfInBounds_toArray, List.set_cons_zero, List.set_cons_succ]
              refine wpAnyH_take (i := 11) (oi := ⟨some 47, _, _, _, _, _⟩) (v := ?v47) rfl (by kernel_rfl) (by kernel_rfl) (by kernel_rfl) (fun _ _ _ h => h) (Or.inl ⟨by rfl, ?hy47⟩) (by assumption) ?rest47
              case hy47 => (intro wq hSw; obtain ⟨z0, z1, z2, z3, z4⟩ := HZ.out wq hSw; have z5 := HP.out wq hSw; clear hSw; first | (go_simp; done) | (go_simp; with_reducible rfl))
              simp only [Act.put, List.setIfInBounds_toArray, List.set_cons_zero, List.set_cons_succ]
              refine wpAnyH_take (i := 12) (oi := ⟨some 48, _, _, _, _, _⟩) (v := ?v48) rfl (by kernel_rfl) (by kernel_rfl) (by kernel_rfl) (fun _ _ _ h => h) (Or.inl ⟨by rfl, ?hy48⟩) (by assumption) ?rest48
              case hy48 => (intro wq hSw; obtain ⟨z0, z1, z2, z3, z4⟩ := HZ.out wq hSw; have z5 := HP.out wq hSw; clear hSw; first | (go_simp; done) | (go_simp; with_reducible rfl))
              simp only [Act.put, List.setIfInBounds_toArray, List.set_cons_zero, List.set_cons_succ]
              refine wpAnyH_take (i := 13) (oi := ⟨some 49, _, _, _, _, _⟩) (v := ?v49) rfl (by kernel_rfl) (by kernel_rfl) (by kernel_rfl) (fun _ _ _ h => h) (Or.inl ⟨by rfl, ?hy49⟩) (by assumption) ?rest49
              case hy49 => (intro wq hSw; obtain ⟨z0, z1, z2, z3, z4⟩ := HZ.out wq hSw; have z5 := HP.out wq hSw; clear hSw; first | (go_simp; done) | (go_simp; with_reducible rfl))
              simp only [Act.put, List.setIfInBounds_toArray, List.set_cons_zero, List.set_cons_succ]
              refine wpAnyH_take (i := 14) (oi := ⟨some 50, _, _, _, _, _⟩) (v := ?v50) rfl (by kernel_rfl) (by kernel_rfl) (by kernel_rfl) (fun _ _ _ h => h) (Or.inl ⟨by rfl, ?hy50⟩) (by assumption) ?rest50
              case hy50 => (intro wq hSw; obtain ⟨z0, z1, z2, z3, z4⟩ := HZ.out wq hSw; have z5 := HP.out wq hSw; clear hSw; first | (go_simp; done) | (go_simp; with_reducible rfl))
              simp only [Act.put, List.setIfInBounds_toArray, List.set_cons_zero, List.set_cons_succ]
              refine wpAnyH_take (i := 15) (oi := ⟨some 51, _, _, _, _, _⟩) (v := ?v51) rfl (by kernel_rfl) (by kernel_rfl) (by kernel_rfl) (fun _ _ _ h => h) (Or.inl ⟨by rfl, ?hy51⟩) (by assumption) ?rest51
              case hy51 => (intro wq hSw; obtain ⟨z0, z1, z2, z3, z4⟩ := HZ.out wq hSw; have z5 := HP.out wq hSw; clear hSw; first | (go_simp; done) | (go_simp; with_reducible rfl))
              simp only [Act.put, List.setIfInBounds_toArray, List.set_cons_zero, List.set_cons_succ]
              refine wpAnyH_take (i := 16) (oi := ⟨some 52, _, _, _, _, _⟩) (v := ?v52) rfl (by kernel_rfl) (by kernel_rfl) (by kernel_rfl) (fun _ _ _ h => h) (Or.inl ⟨by rfl, ?hy52⟩) (by assumption) ?rest52
              case hy52 => (intro wq hSw; obtain ⟨z0, z1, z2, z3, z4⟩ := HZ.out wq hSw; have z5 := HP.out wq hSw; clear hSw; first | (go_simp; done) | (go_simp; with_reducible rfl))
              simp only [Act.put, List.setIfInBounds_toArray, List.set_cons_zero, List.set_cons_succ]
              refine wpAnyH_take (i := 17) (oi := ⟨some 53, _, _, _, _, _⟩) (v := ?v53) rfl (by kernel_rfl) (by kernel_rfl) (by kernel_rfl) (fun _ _ _ h => h) (Or.inl ⟨by rfl, ?hy53⟩) (by assumption) ?rest53
              case hy53 => (intro wq hSw; obtain ⟨z0, z1, z2, z3, z4⟩ := HZ.out wq hSw; clear hSw; first | (go_simp; done) | (go_simp; with_reducible rfl))
              simp only [Act.put, List.setIfInBounds_toArray, List.set_cons_zero, List.set_cons_succ]
              refine wpAnyH_take (i := 18) (oi := ⟨some 54, _, _, _, _, _⟩) (v := ?v54) rfl (by kernel_rfl) (by kernel_rfl) (by kernel_rfl) (fun _ _ _ h => h) (Or.inl ⟨by rfl, ?hy54⟩) (by assumption) ?rest54
              case hy54 => (intro wq hSw; obtain ⟨z0, z1, z2, z3, z4⟩ := HZ.out wq hSw; clear hSw; first | (go_simp; done) | (go_simp; with_reducible rfl))
              simp only [Act.put, List.setIfInBounds_toArray, List.set_cons_zero, List.set_cons_succ]
              refine wpAnyH_take (i := 19) (oi := ⟨some 55, _, _, _, _, _⟩) (v := ?v55) rfl (by kernel_rfl) (by kernel_rfl) (by kernel_rfl) (fun _ _ _ h => h) (Or.inl ⟨by rfl, ?hy55⟩) (by assumption) ?rest55
              case hy55 => (intro wq hSw; obtain ⟨z0, z1, z2, z3, z4⟩ := HZ.out wq hSw; clear hSw; first | (go_simp; done) | (go_simp; with_reducible rfl))
              simp only [Act.put, List.setIfInBounds_toArray, List.set_cons_zero, List.set_cons_succ]
              refine wpAnyH_take (i := 20) (oi := ⟨some 56, _, _, _, _, _⟩) (v := ?v56) rfl (by kernel_rfl) (by kernel_rfl) (by kernel_rfl) (fun _ _ _ h => h) (Or.inl ⟨by rfl, ?hy56⟩) (by assumption) ?rest56
              case hy56 => (intro wq hSw; obtain ⟨z0, z1, z2, z3, z4⟩ := HZ.out wq hSw; clear hSw; first | (go_simp; done) | (go_simp; with_reducible rfl))
              simp only [Act.put, List.setIfInBounds_toArray, List.set_cons_zero, List.set_cons_succ]
              refine wpAnyH_take (i := 21) (oi := ⟨some 57, _, _, _, _, _⟩) (v := ?v57) rfl (by kernel_rfl) (by kernel_rfl) (by kernel_rfl) (fun _ _ _ h => h) (Or.inl ⟨by rfl, ?hy57⟩) (by assumption) ?rest57
              case hy57 => (intro wq hSw; obtain ⟨z0, z1, z2, z3, z4⟩ := HZ.out wq hSw; clear hSw; first | (go_simp; done) | (go_simp; with_reducible rfl))
              simp only [Act.put, List.setIfInBounds_toArray, List.set_cons_zero, List.set_cons_succ]
              refine wpAnyH_take (i := 25) (oi := ⟨some 61, _, _, _, _, _⟩) (v := ?v58) rfl (by kernel_rfl) (by kernel_rfl) (by kernel_rfl) (fun _ _ _ h => h) (Or.inl ⟨by rfl, ?hy58⟩) (by assumption) ?rest58
              case hy58 => (intro wq hSw; obtain ⟨z0, z1, z2, z3, z4⟩ := HZ.out wq hSw; clear hSw; first | (go_simp; done) | (go_simp; with_reducible rfl))
              simp only [Act.put, List.setIfInBounds_toArray, List.set_cons_zero, List.set_cons_succ]
              refine wpAnyH_take (i := 26) (oi := ⟨some 62, _, _, _, _, _⟩) (v := ?v59) rfl (by kernel_rfl) (by kernel_rfl) (by kernel_rfl) (fun _ _ _ h => h) (Or.inl ⟨by rfl, ?hy59⟩) (by assumption) ?rest59
              case hy59 => (intro wq hSw; obtain ⟨z0, z1, z2, z3, z4⟩ := HZ.out wq hSw; clear hSw; first | (go_simp; done) | (go_simp; with_reducible rfl))
              simp only [Act.put, List.setIfInBounds_toArray, List.set_cons_zero, List.set_cons_succ]
              refine wpAnyH_ready (rs := [22]) (by kernel_rfl) (by simp) ?_
              refine AllReadyH.cons rfl (fun K hK => ?_) AllReadyH.nil
              go_simp
              refine Calls.mono (HSp.out _) ?_
              rintro e V2 ⟨g2, cp2, m2, rfl, hx2, hb2⟩; have hm2 : (0 : Int) < ((m2 + 1 : Nat) : Int) := (by omega)
              dsimp only
              refine hK.out _ _ (by exact hHeld.trans (hb2.mono hHeld.size)) (fun hHeld => ?_)
              clear hK K
              (try simp only [Act.put, List.setIfInBounds_toArray, List.set_cons_zero, List.set_cons_succ])
              refine wpAnyH_ready (rs := [23]) (by kernel_rfl) (by simp) ?_
              refine AllReadyH.cons rfl (fun K hK => ?_) AllReadyH.nil
              go_simp
              refine hK.out _ _ (by exact hHeld) (fun hHeld => ?_)
              clear hK K
              (try simp only [Act.put, List.setIfInBounds_toArray, List.set_cons_zero, List.set_cons_succ])
              refine wpAnyH_ready (rs := [24]) (by kernel_rfl) (by simp) ?_
              refine AllReadyH.cons rfl (fun K hK => ?_) AllReadyH.nil
              go_simp
              refine hK.out _ _ (by exact hHeld) (fun hHeld => ?_)
              clear hK K
              (try simp only [Act.put, List.setIfInBounds_toArray, List.set_cons_zero, List.set_cons_succ])
              refine wpAnyH_take (i := 27) (oi := ⟨some 63, _, _, _, _, _⟩) (v := ?v60) rfl (by kernel_rfl) (by kernel_rfl) (by kernel_rfl) (fun _ _ _ h => h) (Or.inl ⟨by rfl, ?hy60⟩) (by assumption) ?rest60
              case hy60 => (intro wq hSw; obtain ⟨z0, z1, z2, z3, z4⟩ := HZ.out wq hSw; clear hSw; first | (go_simp; done) | (go_simp; with_reducible rfl))
              simp only [Act.put, List.setIfInBounds_toArray, List.set_cons_zero, List.set_cons_succ]
              refine wpAnyH_take (i := 28) (oi := ⟨some 64, _, _, _, _, _⟩) (v := ?v61) rfl (by kernel_rfl) (by kernel_rfl) (by kernel_rfl) (fun _ _ _ h => h) (Or.inl ⟨by rfl, ?hy61⟩) (by assumption) ?rest61
              case hy61 => (intro wq hSw; obtain ⟨z0, z1, z2, z3, z4⟩ := HZ.out wq hSw; clear hSw; first | (go_simp; done) | (go_simp; with_reducible rfl))
              simp only [Act.put, List.setIfInBounds_toArray, List.set_cons_zero, List.set_cons_succ]
              have HV1 : Hid (Below V.heap.size V _) := hHeld
              refine wpAnyH_done (by kernel_rfl) ?_ _
              clear hHeld hb1 hb2 hx2
              go_wp2_with fail
              go_meet
              case rel => exact ⟨false, rfl, HV1, (fun e => by cases e), (fun _ => ⟨fun _ => HL.out, HY0.out.trans HYN.out⟩)⟩
            · have heb : (y0 != nm) = true := bne_iff_ne.2 hyn
              have heb2 : (y0 == nm) = false := beq_eq_false_iff_ne.2 hyn
              have HR : Hid (res = false) := HNj.out (fun e => by have := e.1.2.2; rw [HX0.out] at this; exact hyn (HY0.out.symm.trans this))
              clear hyn
              refine wp_region_held_drew (S := fun Z => Below V.heap.size V Z) (by kernel_rfl) (by exact ⟨rfl, rfl, rfl, Nat.le_refl _, fun _ _ => rfl⟩) (fun hHeld => ?_)
              refine wpAnyH_take (i := 0) (oi := ⟨some 36, _, _, _, _, _⟩) (v := ?v62) rfl (by kernel_rfl) (by kernel_rfl) (by kernel_rfl) (fun _ _ _ h => h) (Or.inl ⟨by rfl, ?hy62⟩) (by assumption) ?rest62
              case hy62 => (intro wq hSw; obtain ⟨z0, z1, z2, z3, z4⟩ := HZ.out wq hSw; clear hSw; first | (go_simp; done) | (go_simp; with_reducible rfl))
              simp only [Act.put, List.setIfInBounds_toArray, List.set_cons_zero, List.set_cons_succ]
              refine wpAnyH_ready (rs := [1]) (by kernel_rfl) (by simp) ?_
              refine AllReadyH.cons rfl (fun K hK => ?_) AllReadyH.nil
              go_simp
              refine Calls.mono (HCk.out _ hHeld) ?_
              rintro e V1 ⟨rfl, hb1⟩
              dsimp only
              refine hK.out _ _ (by exact hHeld.trans (hb1.mono hHeld.size)) (fun hHeld => ?_)
              clear hK K
              (try simp only [Act.put, List.setIfInBounds_toArray, List.set_cons_zero, List.set_cons_succ])
              refine wpAnyH_take (i := 2) (oi := ⟨some 38, _, _, _, _, _⟩) (v := ?v63) rfl (by kernel_rfl) (by kernel_rfl) (by kernel_rfl) (fun _ _ _ h => h) (Or.inl ⟨by rfl, ?hy63⟩) (by assumption) ?rest63
              case hy63 => (intro wq hSw; obtain ⟨z0, z1, z2, z3, z4⟩ := HZ.out wq hSw; clear hSw; first | (go_simp; done) | (go_simp; with_reducible rfl))
              simp only [Act.put, List.setIfInBounds_toArray, List.set_cons_zero, List.set_cons_succ]
              refine wpAnyH_take (i := 3) (oi := ⟨some 39, _, _, _, _, _⟩) (v := ?v64) rfl (by kernel_rfl) (by kernel_rfl) (by kernel_rfl) (fun _ _ _ h => h) (Or.inl ⟨by rfl, ?hy64⟩) (by assumption) ?rest64
              case hy64 => (intro wq hSw; obtain ⟨z0, z1, z2, z3, z4⟩ := HZ.out wq hSw; clear hSw; first | (go_simp; done) | (go_simp; with_reducible rfl))
              simp only [Act.put, List.setIfInBounds_toArray, List.set_cons_zero, List.set_cons_succ]
              refine wpAnyH_take (i := 4) (oi := ⟨some 40, _, _, _, _, _⟩) (v := ?v65) rfl (by kernel_rfl) (by kernel_rfl) (by kernel_rfl) (fun _ _ _ h => h) (Or.inl ⟨by rfl, ?hy65⟩) (by assumption) ?rest65
              case hy65 => (intro wq hSw; obtain ⟨z0, z1, z2, z3, z4⟩ := HZ.out wq hSw; clear hSw; first | (go_simp; done) | (go_simp; with_reducible rfl))
              simp only [Act.put, List.setIfInBounds_toArray, List.set_cons_zero, List.set_cons_succ]
              refine wpAnyH_take (i := 5) (oi := ⟨some 41, _, _, _, _, _⟩) (v := ?v66) rfl (by kernel_rfl) (by kernel_rfl) (by kernel_rfl) (fun _ _ _ h => h) (Or.inl ⟨by rfl, ?hy66⟩) (by assumption) ?rest66
              case hy66 => (intro wq hSw; obtain ⟨z0, z1, z2, z3, z4⟩ := HZ.out wq hSw; clear hSw; first | (go_simp; done) | (go_simp; with_reducible rfl))
              simp only [Act.put, List.setIfInBounds_toArray, List.set_cons_zero, List.set_cons_succ]
              refine wpAnyH_take (i := 6) (oi := ⟨some 42, _, _, _, _, _⟩) (v := ?v67) rfl (by kernel_rfl) (by kernel_rfl) (by kernel_rfl) (fun _ _ _ h => h) (Or.inl ⟨by rfl, ?hy67⟩) (by assumption) ?rest67
              case hy67 => (intro wq hSw; obtain ⟨z0, z1, z2, z3, z4⟩ := HZ.out wq hSw; clear hSw; first | (go_simp; done) | (go_simp; with_reducible rfl))
              simp only [Act.put, List.setIfInBounds_toArray, List.set_cons_zero, List.set_cons_succ]
              refine wpAnyH_take (i := 7) (oi := ⟨some 43, _, _, _, _, _⟩) (v := ?v68) rfl (by kernel_rfl) (by kernel_rfl) (by kernel_rfl) (fun _ _ _ h => h) (Or.inl ⟨by rfl, ?hy68⟩) (by assumption) ?rest68
              case hy68 => (intro wq hSw; obtain ⟨z0, z1, z2, z3, z4⟩ := HZ.out wq hSw; have z5 := HP.out wq hSw; clear hSw; first | (go_simp; done) | (go_simp; with_reducible rfl))
              simp only [Act.put, List.setIfInBounds_toArray, List.set_cons_zero, List.set_cons_succ]
              refine wpAnyH_take (i := 8) (oi := ⟨some 44, _, _, _, _, _⟩) (v := ?v69) rfl (by kernel_rfl) (by kernel_rfl) (by kernel_rfl) (fun _ _ _ h => h) (Or.inl ⟨by rfl, ?hy69⟩) (by assumption) ?rest69
              case hy69 => (intro wq hSw; obtain ⟨z0, z1, z2, z3, z4⟩ := HZ.out wq hSw; have z5 := HP.out wq hSw; clear hSw; first | (go_simp; done) | (go_simp; with_reducible rfl))
              simp only [Act.put, List.setIfInBounds_toArray, List.set_cons_zero, List.set_cons_succ]
              refine wpAnyH_take (i := 9) (oi := ⟨some 45, _, _, _, _, _⟩) (v := ?v70) rfl (by kernel_rfl) (by kernel_rfl) (by kernel_rfl) (fun _ _ _ h => h) (Or.inl ⟨by rfl, ?hy70⟩) (by assumption) ?rest70
              case hy70 => (intro wq hSw; obtain ⟨z0, z1, z2, z3, z4⟩ := HZ.out wq hSw; have z5 := HP.out wq hSw; clear hSw; first | (go_simp; done) | (go_simp; with_reducible rfl))
              simp only [Act.put, List.setIfInBounds_toArray, List.set_cons_zero, List.set_cons_succ]
              refine wpAnyH_take (i := 10) (oi := ⟨some 46, _, _, _, _, _⟩) (v := ?v71) rfl (by kernel_rfl) (by kernel_rfl) (by kernel_rfl) (fun _ _ _ h => h) (Or.inl ⟨by rfl, ?hy71⟩) (by assumption) ?rest71
              case hy71 => (intro wq hSw; obtain ⟨z0, z1, z2, z3, z4⟩ := HZ.out wq hSw; have z5 := HP.out wq hSw; clear hSw; first | (go_simp; done) | (go_simp; with_reducible rfl))
              simp only [Act.put, List.setIfInBounds_toArray, List.set_cons_zero, List.set_cons_succ]
              refine wpAnyH_take (i := 11) (oi := ⟨some 47, _, _, _, _, _⟩) (v := ?v72) rfl (by kernel_rfl) (by kernel_rfl) (by kernel_rfl) (fun _ _ _ h => h) (Or.inl ⟨by rfl, ?hy72⟩) (by assumption) ?rest72
              case hy72 => (intro wq hSw; obtain ⟨z0, z1, z2, z3, z4⟩ := HZ.out wq hSw; have z5 := HP.out wq hSw; clear hSw; first | (go_simp; done) | (go_simp; with_reducible rfl))
              simp only [Act.put, List.setIfInBounds_toArray, List.set_cons_zero, List.set_cons_succ]
              refine wpAnyH_take (i := 12) (oi := ⟨some 48, _, _, _, _, _⟩) (v := ?v73) rfl (by kernel_rfl) (by kernel_rfl) (by kernel_rfl) (fun _ _ _ h => h) (Or.inl ⟨by rfl, ?hy73⟩) (by assumption) ?rest73
              case hy73 => (intro wq hSw; obtain ⟨z0, z1, z2, z3, z4⟩ := HZ.out wq hSw; have z5 := HP.out wq hSw; clear hSw; first | (go_simp; done) | (go_simp; with_reducible rfl))
              simp only [Act.put, List.setIfInBounds_toArray, List.set_cons_zero, List.set_cons_succ]
              refine wpAnyH_take (i := 13) (oi := ⟨some 49, _, _, _, _, _⟩) (v := ?v74) rfl (by kernel_rfl) (by kernel_rfl) (by kernel_rfl) (fun _ _ _ h => h) (Or.inl ⟨by rfl, ?hy74⟩) (by assumption) ?rest74
              case hy74 => (intro wq hSw; obtain ⟨z0, z1, z2, z3, z4⟩ := HZ.out wq hSw; have z5 := HP.out wq hSw; clear hSw; first | (go_simp; done) | (go_simp; with_reducible rfl))
              simp only [Act.put, List.setIfInBounds_toArray, List.set_cons_zero, List.set_cons_succ]
              refine wpAnyH_take (i := 14) (oi := ⟨some 50, _, _, _, _, _⟩) (v := ?v75) rfl (by kernel_rfl) (by kernel_rfl) (by kernel_rfl) (fun _ _ _ h => h) (Or.inl ⟨by rfl, ?hy75⟩) (by assumption) ?rest75
              case hy75 => (intro wq hSw; obtain ⟨z0, z1, z2, z3, z4⟩ := HZ.out wq hSw; have z5 := HP.out wq hSw; clear hSw; first | (go_simp; done) | (go_simp; with_reducible rfl))
              simp only [Act.put, List.setIfInBounds_toArray, List.set_cons_zero, List.set_cons_succ]
              refine wpAnyH_take (i := 15) (oi := ⟨some 51, _, _, _, _, _⟩) (v := ?v76) rfl (by kernel_rfl) (by kernel_rfl) (by kernel_rfl) (fun _ _ _ h => h) (Or.inl ⟨by rfl, ?hy76⟩) (by assumption) ?rest76
              case hy76 => (intro wq hSw; obtain ⟨z0, z1, z2, z3, z4⟩ := HZ.out wq hSw; have z5 := HP.out wq hSw; clear hSw; first | (go_simp; done) | (go_simp; with_reducible rfl))
              simp only [Act.put, List.setIfInBounds_toArray, List.set_cons_zero, List.set_cons_succ]
              refine wpAnyH_take (i := 16) (oi := ⟨some 52, _, _, _, _, _⟩) (v := ?v77) rfl (by kernel_rfl) (by kernel_rfl) (by kernel_rfl) (fun _ _ _ h => h) (Or.inl ⟨by rfl, ?hy77⟩) (by assumption) ?rest77
              case hy77 => (intro wq hSw; obtain ⟨z0, z1, z2, z3, z4⟩ := HZ.out wq hSw; have z5 := HP.out wq hSw; clear hSw; first | (go_simp; done) | (go_simp; with_reducible rfl))
              simp only [Act.put, List.setIfInBounds_toArray, List.set_cons_zero, List.set_cons_succ]
              refine wpAnyH_take (i := 17) (oi := ⟨some 53, _, _, _, _, _⟩) (v := ?v78) rfl (by kernel_rfl) (by kernel_rfl) (by kernel_rfl) (fun _ _ _ h => h) (Or.inl ⟨by rfl, ?hy78⟩) (by assumption) ?rest78
              case hy78 => (intro wq hSw; obtain ⟨z0, z1, z2, z3, z4⟩ := HZ.out wq hSw; clear hSw; first | (go_simp; done) | (go_simp; with_reducible rfl))
              simp only [Act.put, List.setIfInBounds_toArray, List.set_cons_zero, List.set_cons_succ]
              refine wpAnyH_take (i := 18) (oi := ⟨some 54, _, _, _, _, _⟩) (v := ?v79) rfl (by kernel_rfl) (by kernel_rfl) (by kernel_rfl) (fun _ _ _ h => h) (Or.inl ⟨by rfl, ?hy79⟩) (by assumption) ?rest79
              case hy79 => (intro wq hSw; obtain ⟨z0, z1, z2, z3, z4⟩ := HZ.out wq hSw; clear hSw; first | (go_simp; done) | (go_simp; with_reducible rfl))
              simp only [Act.put, List.setIfInBounds_toArray, List.set_cons_zero, List.set_cons_succ]
              refine wpAnyH_take (i := 19) (oi := ⟨some 55, _, _, _, _, _⟩) (v := ?v80) rfl (by kernel_rfl) (by kernel_rfl) (by kernel_rfl) (fun _ _ _ h => h) (Or.inl ⟨by rfl, ?hy80⟩) (by assumption) ?rest80
              case hy80 => (intro wq hSw; obtain ⟨z0, z1, z2, z3, z4⟩ := HZ.out wq hSw; clear hSw; first | (go_simp; done) | (go_simp; with_reducible rfl))
              simp only [Act.put, List.setIfInBounds_toArray, List.set_cons_zero, List.set_cons_succ]
              refine wpAnyH_take (i := 20) (oi := ⟨some 56, _, _, _, _, _⟩) (v := ?v81) rfl (by kernel_rfl) (by kernel_rfl) (by kernel_rfl) (fun _ _ _ h => h) (Or.inl ⟨by rfl, ?hy81⟩) (by assumption) ?rest81
              case hy81 => (intro wq hSw; obtain ⟨z0, z1, z2, z3, z4⟩ := HZ.out wq hSw; clear hSw; first | (go_simp; done) | (go_simp; with_reducible rfl))
              simp only [Act.put, List.setIfInBounds_toArray, List.set_cons_zero, List.set_cons_succ]
              refine wpAnyH_take (i := 21) (oi := ⟨some 57, _, _, _, _, _⟩) (v := ?v82) rfl (by kernel_rfl) (by kernel_rfl) (by kernel_rfl) (fun _ _ _ h => h) (Or.inl ⟨by rfl, ?hy82⟩) (by assumption) ?rest82
              case hy82 => (intro wq hSw; obtain ⟨z0, z1, z2, z3, z4⟩ := HZ.out wq hSw; clear hSw; first | (go_simp; done) | (go_simp; with_reducible rfl))
              simp only [Act.put, List.setIfInBounds_toArray, List.set_cons_zero, List.set_cons_succ]
              refine wpAnyH_take (i := 25) (oi := ⟨some 61, _, _, _, _, _⟩) (v := ?v83) rfl (by kernel_rfl) (by kernel_rfl) (by kernel_rfl) (fun _ _ _ h => h) (Or.inl ⟨by rfl, ?hy83⟩) (by assumption) ?rest83
              case hy83 => (intro wq hSw; obtain ⟨z0, z1, z2, z3, z4⟩ := HZ.out wq hSw; clear hSw; first | (go_simp; done) | (go_simp; with_reducible rfl))
              simp only [Act.put, List.setIfInBounds_toArray, List.set_cons_zero, List.set_cons_succ]
              refine wpAnyH_take (i := 26) (oi := ⟨some 62, _, _, _, _, _⟩) (v := ?v84) rfl (by kernel_rfl) (by kernel_rfl) (by kernel_rfl) (fun _ _ _ h => h) (Or.inl ⟨by rfl, ?hy84⟩) (by assumption) ?rest84
              case hy84 => (intro wq hSw; obtain ⟨z0, z1, z2, z3, z4⟩ := HZ.out wq hSw; clear hSw; first | (go_simp; done) | (go_simp; with_reducible rfl))
              simp only [Act.put, List.setIfInBounds_toArray, List.set_cons_zero, List.set_cons_succ]
              refine wpAnyH_ready (rs := [22]) (by kernel_rfl) (by simp) ?_
              refine AllReadyH.cons rfl (fun K hK => ?_) AllReadyH.nil
              go_simp
              refine Calls.mono (HSp.out _) ?_
              rintro e V2 ⟨g2, cp2, m2, rfl, hx2, hb2⟩; have hm2 : (0 : Int) < ((m2 + 1 : Nat) : Int) := (by omega)
              dsimp only
              refine hK.out _ _ (by exact hHeld.trans (hb2.mono hHeld.size)) (fun hHeld => ?_)
              clear hK K
              (try simp only [Act.put, List.setIfInBounds_toArray, List.set_cons_zero, List.set_cons_succ])
              refine wpAnyH_ready (rs := [23]) (by kernel_rfl) (by simp) ?_
              refine AllReadyH.cons rfl (fun K hK => ?_) AllReadyH.nil
              go_simp
              refine hK.out _ _ (by exact hHeld) (fun hHeld => ?_)
              clear hK K
              (try simp only [Act.put, List.setIfInBounds_toArray, List.set_cons_zero, List.set_cons_succ])
              refine wpAnyH_ready (rs := [24]) (by kernel_rfl) (by simp) ?_
              refine AllReadyH.cons rfl (fun K hK => ?_) AllReadyH.nil
              go_simp
              refine hK.out _ _ (by exact hHeld) (fun hHeld => ?_)
              clear hK K
              (try simp only [Act.put, List.setIfInBounds_toArray, List.set_cons_zero, List.set_cons_succ])
              refine wpAnyH_take (i := 27) (oi := ⟨some 63, _, _, _, _, _⟩) (v := ?v85) rfl (by kernel_rfl) (by kernel_rfl) (by kernel_rfl) (fun _ _ _ h => h) (Or.inl ⟨by rfl, ?hy85⟩) (by assumption) ?rest85
              case hy85 => (intro wq hSw; obtain ⟨z0, z1, z2, z3, z4⟩ := HZ.out wq hSw; clear hSw; first | (go_simp; done) | (go_simp; with_reducible rfl))
              simp only [Act.put, List.setIfInBounds_toArray, List.set_cons_zero, List.set_cons_succ]
              refine wpAnyH_take (i := 28) (oi := ⟨some 64, _, _, _, _, _⟩) (v := ?v86) rfl (by kernel_rfl) (by kernel_rfl) (by kernel_rfl) (fun _ _ _ h => h) (Or.inl ⟨by rfl, ?hy86⟩) (by assumption) ?rest86
              case hy86 => (intro wq hSw; obtain ⟨z0, z1, z2, z3, z4⟩ := HZ.out wq hSw; clear hSw; first | (go_simp; done) | (go_simp; with_reducible rfl))
              simp only [Act.put, List.setIfInBounds_toArray, List.set_cons_zero, List.set_cons_succ]
              have HV1 : Hid (Below V.heap.size V _) := hHeld
              refine wpAnyH_done (by kernel_rfl) ?_ _
              clear hHeld hb1 hb2 hx2
              go_wp2_with fail
              go_meet
              case rel => exact ⟨true, rfl, HV1, (fun _ => HR.out), (fun e => by cases e)⟩
          · have HR : Hid (res = false) := HNj.out (fun e => by
              have h2 := e.1.2.1 (by omega)
              rw [hpj, HX0.out, hy] at h2
              simp only at h2
              rw [hle] at h2
              cases h2)
            unfold leT at hle
            clear hp hpj hy
            refine wp_region_held_drew (S := fun Z => Below V.heap.size V Z) (by kernel_rfl) (by exact ⟨rfl, rfl, rfl, Nat.le_refl _, fun _ _ => rfl⟩) (fun hHeld => ?_)
            refine wpAnyH_take (i := 0) (oi := ⟨some 36, _, _, _, _, _⟩) (v := ?v87) rfl (by kernel_rfl) (by kernel_rfl) (by kernel_rfl) (fun _ _ _ h => h) (Or.inl ⟨by rfl, ?hy87⟩) (by assumption) ?rest87
            case hy87 => (intro wq hSw; obtain ⟨z0, z1, z2, z3, z4⟩ := HZ.out wq hSw; clear hSw; first | (go_simp; done) | (go_simp; with_reducible rfl))
            simp only [Act.put, List.setIfInBounds_toArray, List.set_cons_zero, List.set_cons_succ]
            refine wpAnyH_ready (rs := [1]) (by kernel_rfl) (by simp) ?_
            refine AllReadyH.cons rfl (fun K hK => ?_) AllReadyH.nil
            go_simp
            refine Calls.mono (HCk.out _ hHeld) ?_
            rintro e V1 ⟨rfl, hb1⟩
            dsimp only
            refine hK.out _ _ (by exact hHeld.trans (hb1.mono hHeld.size)) (fun hHeld => ?_)
            clear hK K
            (try simp only [Act.put, List.setIfInBounds_toArray, List.set_cons_zero, List.set_cons_succ])
            refine wpAnyH_take (i := 2) (oi := ⟨some 38, _, _, _, _, _⟩) (v := ?v88) rfl (by kernel_rfl) (by kernel_rfl) (by kernel_rfl) (fun _ _ _ h => h) (Or.inl ⟨by rfl, ?hy88⟩) (by assumption) ?rest88
            case hy88 => (intro wq hSw; obtain ⟨z0, z1, z2, z3, z4⟩ := HZ.out wq hSw; clear hSw; first | (go_simp; done) | (go_simp; with_reducible rfl))
            simp only [Act.put, List.setIfInBounds_toArray, List.set_cons_zero, List.set_cons_succ]
            refine wpAnyH_take (i := 3) (oi := ⟨some 39, _, _, _, _, _⟩) (v := ?v89) rfl (by kernel_rfl) (by kernel_rfl) (by kernel_rfl) (fun _ _ _ h => h) (Or.inl ⟨by rfl, ?hy89⟩) (by assumption) ?rest89
            case hy89 => (intro wq hSw; obtain ⟨z0, z1, z2, z3, z4⟩ := HZ.out wq hSw; clear hSw; first | (go_simp; done) | (go_simp; with_reducible rfl))
            simp only [Act.put, List.setIfInBounds_toArray, List.set_cons_zero, List.set_cons_succ]
            refine wpAnyH_take (i := 4) (oi := ⟨some 40, _, _, _, _, _⟩) (v := ?v90) rfl (by kernel_rfl) (by kernel_rfl) (by kernel_rfl) (fun _ _ _ h => h) (Or.inl ⟨by rfl, ?hy90⟩) (by assumption) ?rest90
            case hy90 => (intro wq hSw; obtain ⟨z0, z1, z2, z3, z4⟩ := HZ.out wq hSw; clear hSw; first | (go_simp; done) | (go_simp; with_reducible rfl))
            simp only [Act.put, List.setIfInBounds_toArray, List.set_cons_zero, List.set_cons_succ]
            refine wpAnyH_take (i := 5) (oi := ⟨some 41, _, _, _, _, _⟩) (v := ?v91) rfl (by kernel_rfl) (by kernel_rfl) (by kernel_rfl) (fun _ _ _ h => h) (Or.inl ⟨by rfl, ?hy91⟩) (by assumption) ?rest91
            case hy91 => (intro wq hSw; obtain ⟨z0, z1, z2, z3, z4⟩ := HZ.out wq hSw; clear hSw; first | (go_simp; done) | (go_simp; with_reducible rfl))
            simp only [Act.put, List.setIfInBounds_toArray, List.set_cons_zero, List.set_cons_succ]
            refine wpAnyH_take (i := 6) (oi := ⟨some 42, _, _, _, _, _⟩) (v := ?v92) rfl (by kernel_rfl) (by kernel_rfl) (by kernel_rfl) (fun _ _ _ h => h) (Or.inl ⟨by rfl, ?hy92⟩) (by assumption) ?rest92
            case hy92 => (intro wq hSw; obtain ⟨z0, z1, z2, z3, z4⟩ := HZ.out wq hSw; clear hSw; first | (go_simp; done) | (go_simp; with_reducible rfl))
            simp only [Act.put, List.setIfInBounds_toArray, List.set_cons_zero, List.set_cons_succ]
            refine wpAnyH_take (i := 7) (oi := ⟨some 43, _, _, _, _, _⟩) (v := ?v93) rfl (by kernel_rfl) (by kernel_rfl) (by kernel_rfl) (fun _ _ _ h => h) (Or.inl ⟨by rfl, ?hy93⟩) (by assumption) ?rest93
            case hy93 => (intro wq hSw; obtain ⟨z0, z1, z2, z3, z4⟩ := HZ.out wq hSw; have z5 := HP.out wq hSw; clear hSw; first | (go_simp; done) | (go_simp; with_reducible rfl))
            simp only [Act.put, List.setIfInBounds_toArray, List.set_cons_zero, List.set_cons_succ]
            refine wpAnyH_take (i := 8) (oi := ⟨some 44, _, _, _, _, _⟩) (v := ?v94) rfl (by kernel_rfl) (by kernel_rfl) (by kernel_rfl) (fun _ _ _ h => h) (Or.inl ⟨by rfl, ?hy94⟩) (by assumption) ?rest94
            case hy94 => (intro wq hSw; obtain ⟨z0, z1, z2, z3, z4⟩ := HZ.out wq hSw; have z5 := HP.out wq hSw; clear hSw; first | (go_simp; done) | (go_simp; with_reducible rfl))
            simp only [Act.put, List.setIfInBounds_toArray, List.set_cons_zero, List.set_cons_succ]
            refine wpAnyH_take (i := 9) (oi := ⟨some 45, _, _, _, _, _⟩) (v := ?v95) rfl (by kernel_rfl) (by kernel_rfl) (by kernel_rfl) (fun _ _ _ h => h) (Or.inl ⟨by rfl, ?hy95⟩) (by assumption) ?rest95
            case hy95 => (intro wq hSw; obtain ⟨z0, z1, z2, z3, z4⟩ := HZ.out wq hSw; have z5 := HP.out wq hSw; clear hSw; first | (go_simp; done) | (go_simp; with_reducible rfl))
            simp only [Act.put, List.setIfInBounds_toArray, List.set_cons_zero, List.set_cons_succ]
            refine wpAnyH_take (i := 10) (oi := ⟨some 46, _, _, _, _, _⟩) (v := ?v96) rfl (by kernel_rfl) (by kernel_rfl) (by kernel_rfl) (fun _ _ _ h => h) (Or.inl ⟨by rfl, ?hy96⟩) (by assumption) ?rest96
            case hy96 => (intro wq hSw; obtain ⟨z0, z1, z2, z3, z4⟩ := HZ.out wq hSw; have z5 := HP.out wq hSw; clear hSw; first | (go_simp; done) | (go_simp; with_reducible rfl))
            simp only [Act.put, List.setIfInBounds_toArray, List.set_cons_zero, List.set_cons_succ]
            refine wpAnyH_take (i := 11) (oi := ⟨some 47, _, _, _, _, _⟩) (v := ?v97) rfl (by kernel_rfl) (by kernel_rfl) (by kernel_rfl) (fun _ _ _ h => h) (Or.inl ⟨by rfl, ?hy97⟩) (by assumption) ?rest97
            case hy97 => (intro wq hSw; obtain ⟨z0, z1, z2, z3, z4⟩ := HZ.out wq hSw; have z5 := HP.out wq hSw; clear hSw; first | (go_simp; done) | (go_simp; with_reducible rfl))
            simp only [Act.put, List.setIfInBounds_toArray, List.set_cons_zero, List.set_cons_succ]
            refine wpAnyH_take (i := 12) (oi := ⟨some 48, _, _, _, _, _⟩) (v := ?v98) rfl (by kernel_rfl) (by kernel_rfl) (by kernel_rfl) (fun _ _ _ h => h) (Or.inl ⟨by rfl, ?hy98⟩) (by assumption) ?rest98
            case hy98 => (intro wq hSw; obtain ⟨z0, z1, z2, z3, z4⟩ := HZ.out wq hSw; have z5 := HP.out wq hSw; clear hSw; first | (go_simp; done) | (go_simp; with_reducible rfl))
            simp only [Act.put, List.setIfInBounds_toArray, List.set_cons_zero, List.set_cons_succ]
            refine wpAnyH_take (i := 13) (oi := ⟨some 49, _, _, _, _, _⟩) (v := ?v99) rfl (by kernel_rfl) (by kernel_rfl) (by kernel_rfl) (fun _ _ _ h => h) (Or.inl ⟨by rfl, ?hy99⟩) (by assumption) ?rest99
            case hy99 => (intro wq hSw; obtain ⟨z0, z1, z2, z3, z4⟩ := HZ.out wq hSw; have z5 := HP.out wq hSw; clear hSw; first | (go_simp; done) | (go_simp; with_reducible rfl))
            simp only [Act.put, List.setIfInBounds_toArray, List.set_cons_zero, List.set_cons_succ]
            refine wpAnyH_take (i := 14) (oi := ⟨some 50, _, _, _, _, _⟩) (v := ?v100) rfl (by kernel_rfl) (by kernel_rfl) (by kernel_rfl) (fun _ _ _ h => h) (Or.inl ⟨by rfl, ?hy100⟩) (by assumption) ?rest100
            case hy100 => (intro wq hSw; obtain ⟨z0, z1, z2, z3, z4⟩ := HZ.out wq hSw; have z5 := HP.out wq hSw; clear hSw; first | (go_simp; done) | (go_simp; with_reducible rfl))
            simp only [Act.put, List.setIfInBounds_toArray, List.set_cons_zero, List.set_cons_succ]
            refine wpAnyH_take (i := 15) (oi := ⟨some 51, _, _, _, _, _⟩) (v := ?v101) rfl (by kernel_rfl) (by kernel_rfl) (by kernel_rfl) (fun _ _ _ h => h) (Or.inl ⟨by rfl, ?hy101⟩) (by assumption) ?rest101
            case hy101 => (intro wq hSw; obtain ⟨z0, z1, z2, z3, z4⟩ := HZ.out wq hSw; have z5 := HP.out wq hSw; clear hSw; first | (go_simp; done) | (go_simp; with_reducible rfl))
            simp only [Act.put, List.setIfInBounds_toArray, List.set_cons_zero, List.set_cons_succ]
            refine wpAnyH_take (i := 16) (oi := ⟨some 52, _, _, _, _, _⟩) (v := ?v102) rfl (by kernel_rfl) (by kernel_rfl) (by kernel_rfl) (fun _ _ _ h => h) (Or.inl ⟨by rfl, ?hy102⟩) (by assumption) ?rest102
            case hy102 => (intro wq hSw; obtain ⟨z0, z1, z2, z3, z4⟩ := HZ.out wq hSw; have z5 := HP.out wq hSw; clear hSw; first | (go_simp; done) | (go_simp; with_reducible rfl))
            simp only [Act.put, List.setIfInBounds_toArray, List.set_cons_zero, List.set_cons_succ]
            refine wpAnyH_take (i := 17) (oi := ⟨some 53, _, _, _, _, _⟩) (v := ?v103) rfl (by kernel_rfl) (by kernel_rfl) (by kernel_rfl) (fun _ _ _ h => h) (Or.inl ⟨by rfl, ?hy103⟩) (by assumption) ?rest103
            case hy103 => (intro wq hSw; obtain ⟨z0, z1, z2, z3, z4⟩ := HZ.out wq hSw; clear hSw; first | (go_simp; done) | (go_simp; with_reducible rfl))
            simp only [Act.put, List.setIfInBounds_toArray, List.set_cons_zero, List.set_cons_succ]
            refine wpAnyH_take (i := 18) (oi := ⟨some 54, _, _, _, _, _⟩) (v := ?v104) rfl (by kernel_rfl) (by kernel_rfl) (by kernel_rfl) (fun _ _ _ h => h) (Or.inl ⟨by rfl, ?hy104⟩) (by assumption) ?rest104
            case hy104 => (intro wq hSw; obtain ⟨z0, z1, z2, z3, z4⟩ := HZ.out wq hSw; clear hSw; first | (go_simp; done) | (go_simp; with_reducible rfl))
            simp only [Act.put, List.setIfInBounds_toArray, List.set_cons_zero, List.set_cons_succ]
            refine wpAnyH_take (i := 19) (oi := ⟨some 55, _, _, _, _, _⟩) (v := ?v105) rfl (by kernel_rfl) (by kernel_rfl) (by kernel_rfl) (fun _ _ _ h => h) (Or.inl ⟨by rfl, ?hy105⟩) (by assumption) ?rest105
            case hy105 => (intro wq hSw; obtain ⟨z0, z1, z2, z3, z4⟩ := HZ.out wq hSw; clear hSw; first | (go_simp; done) | (go_simp; with_reducible rfl))
            simp only [Act.put, List.setIfInBounds_toArray, List.set_cons_zero, List.set_cons_succ]
            refine wpAnyH_take (i := 20) (oi := ⟨some 56, _, _, _, _, _⟩) (v := undef) rfl (by kernel_rfl) (by kernel_rfl) (by kernel_rfl) (fun _ _ _ h => h) (Or.inr ⟨by rfl, rfl⟩) (by assumption) ?_
            simp only [Act.put, List.setIfInBounds_toArray, List.set_cons_zero, List.set_cons_succ]
            refine wpAnyH_take (i := 21) (oi := ⟨some 57, _, _, _, _, _⟩) (v := undef) rfl (by kernel_rfl) (by kernel_rfl) (by kernel_rfl) (fun _ _ _ h => h) (Or.inr ⟨by rfl, rfl⟩) (by assumption) ?_
            simp only [Act.put, List.setIfInBounds_toArray, List.set_cons_zero, List.set_cons_succ]
            refine wpAnyH_take (i := 22) (oi := ⟨some 58, _, _, _, _, _⟩) (v := undef) rfl (by kernel_rfl) (by kernel_rfl) (by kernel_rfl) (fun _ _ _ h => h) (Or.inr ⟨by rfl, rfl⟩) (by assumption) ?_
            simp only [Act.put, List.setIfInBounds_toArray, List.set_cons_zero, List.set_cons_succ]
            refine wpAnyH_take (i := 23) (oi := ⟨some 59, _, _, _, _, _⟩) (v := undef) rfl (by kernel_rfl) (by kernel_rfl) (by kernel_rfl) (fun _ _ _ h => h) (Or.inr ⟨by rfl, rfl⟩) (by assumption) ?_
            simp only [Act.put, List.setIfInBounds_toArray, List.set_cons_zero, List.set_cons_succ]
            refine wpAnyH_take (i := 24) (oi := ⟨some 60, _, _, _, _, _⟩) (v := undef) rfl (by kernel_rfl) (by kernel_rfl) (by kernel_rfl) (fun _ _ _ h => h) (Or.inr ⟨by rfl, rfl⟩) (by assumption) ?_
            simp only [Act.put, List.setIfInBounds_toArray, List.set_cons_zero, List.set_cons_succ]
            refine wpAnyH_take (i := 25) (oi := ⟨some 61, _, _, _, _, _⟩) (v := undef) rfl (by kernel_rfl) (by kernel_rfl) (by kernel_rfl) (fun _ _ _ h => h) (Or.inr ⟨by rfl, rfl⟩) (by assumption) ?_
            simp only [Act.put, List.setIfInBounds_toArray, List.set_cons_zero, List.set_cons_succ]
            refine wpAnyH_take (i := 26) (oi := ⟨some 62, _, _, _, _, _⟩) (v := undef) rfl (by kernel_rfl) (by kernel_rfl) (by kernel_rfl) (fun _ _ _ h => h) (Or.inr ⟨by rfl, rfl⟩) (by assumption) ?_
            simp only [Act.put, List.setIfInBounds_toArray, List.set_cons_zero, List.set_cons_succ]
            refine wpAnyH_take (i := 27) (oi := ⟨some 63, _, _, _, _, _⟩) (v := undef) rfl (by kernel_rfl) (by kernel_rfl) (by kernel_rfl) (fun _ _ _ h => h) (Or.inr ⟨by rfl, rfl⟩) (by assumption) ?_
            simp only [Act.put, List.setIfInBounds_toArray, List.set_cons_zero, List.set_cons_succ]
            refine wpAnyH_take (i := 28) (oi := ⟨some 64, _, _, _, _, _⟩) (v := ?v106) rfl (by kernel_rfl) (by kernel_rfl) (by kernel_rfl) (fun _ _ _ h => h) (Or.inl ⟨by rfl, ?hy106⟩) (by assumption) ?rest106
            case hy106 => (intro wq hSw; obtain ⟨z0, z1, z2, z3, z4⟩ := HZ.out wq hSw; clear hSw; first | (go_simp; done) | (go_simp; with_reducible rfl))
            simp only [Act.put, List.setIfInBounds_toArray, List.set_cons_zero, List.set_cons_succ]
            have HV1 : Hid (Below V.heap.size V _) := hHeld
            refine wpAnyH_done (by kernel_rfl) ?_ _
            clear hHeld hb1
            go_wp2_with fail
            go_meet
            case rel => exact ⟨true, rfl, HV1, (fun _ => HR.out), (fun e => by cases e)⟩
      case rest =>
      obtain ⟨bv, rfl, HVc, HT, HF⟩ := hcut
      rcases bv with _ | _
      · go_wp2
        go_loopw [5] (fun iv wx => ∃ k : Nat, iv = .int .i64 (k : Int) ∧ k ≤ cl ∧ Hid (∀ u, u < k → nearB nm ims (c.getD u in0) = true) ∧ Hid (Below V.heap.size V wx)) (fun iv _ => cl - (intOf iv).toNat)
        case atStart => exact ⟨0, rfl, Nat.zero_le _, fun u hu => by omega, HVc⟩
        case round =>
          obtain ⟨k, rfl, hk, HQ, HBk⟩ := hrel
          rename World => U
          obtain ⟨z0, z1, z2, z3, z4⟩ := HZ.out U HBk.out
          by_cases hkl : (k : Int) < (cl : Int)
          · obtain ⟨cb, co, rfl, hcbl, x0, _, _, _, x4⟩ := (HCi.out U HBk.out).2 k (by omega)
            have hsk := HSh2.out k
            obtain ⟨i, hi⟩ : ∃ i, c.getD k in0 = i := ⟨_, rfl⟩
            rw [hi] at x0 x4 hsk
            obtain ⟨kd, r, aa, bb, s⟩ := i
            simp only at x0 x4 hsk
            by_cases h9 : kd = 9
            · subst h9
              have HSs : Hid (_) := specHead s U hsk
              obtain ⟨y, hy⟩ : ∃ y, cutA 46 s = y := ⟨_, rfl⟩
              have HCb : Hid (nearB nm ims (c.getD k in0) = (decide (y = nm) || decide (y ∈ ims))) := by
                exact (by rw [hi]; unfold nearB; simp [hy] : nearB nm ims (c.getD k in0) = (decide (y = nm) || decide (y ∈ ims)))
              rw [hy] at HSs
              have HKl : Hid (k < c.length) := by exact (by have := HCl.out; omega : k < c.length)
              clear hi hy hsk
              go_wp2_with fail
              refine Calls.mono HSs.out ?_
              rintro e U2 ⟨g2, cp2, m2, rfl, hx2, hb2⟩
              have HB3 : Hid (Below V.heap.size V U2) := HBk.out.trans (hb2.mono HBk.out.size)
              obtain ⟨q0, q1, q2, q3, q4⟩ := HZ.out U2 HB3.out
              have q5 := (HTx.out U2 HB3.out).1
              have hm2 : (0 : Int) < ((m2 + 1 : Nat) : Int) := by omega
              clear hb2
              by_cases hyn : y = nm
              · have HQ2 : Hid (∀ u, u < k + 1 → nearB nm ims (c.getD u in0) = true) := fun u hu => by
                  by_cases e : u = k
                  · rw [e, HCb.out, decide_eq_true hyn]; rfl
                  · exact HQ.out u (by omega)
                have heb : (y != nm) = false := by rw [hyn]; simp
                have heb2 : (y == nm) = true := by rw [hyn]; simp
                clear hyn
                go_wp2
                go_roundw
                case rel => exact ⟨k + 1, by go_num, by omega, HQ2, HB3⟩
                case measure => simp [intOf]; omega
              have heb : (y != nm) = true := bne_iff_ne.2 hyn
              have heb2 : (y == nm) = false := beq_eq_false_iff_ne.2 hyn
              have HHas : Hid (_) := specHas ia ims.length ic ims y U2 (HTx.out U2 HB3.out).2 (by omega)
              by_cases hm : y ∈ ims
              · have HQ2 : Hid (∀ u, u < k + 1 → nearB nm ims (c.getD u in0) = true) := fun u hu => by
                  by_cases e : u = k
                  · rw [e, HCb.out, decide_eq_true hm, Bool.or_true]
                  · exact HQ.out u (by omega)
                rw [decide_eq_true hm] at HHas
                clear hyn hm
                go_wp2_with fail
                refine Calls.mono HHas.out ?_
                rintro e U3 ⟨rfl, hu3⟩
                obtain rfl := hu3.symm
                go_wp2
                go_roundw
                case rel => exact ⟨k + 1, by go_num, by omega, HQ2, HB3⟩
                case measure => simp [intOf]; omega
              · have HR : Hid (res = false) := HNj.out (fun e => by
                  have h2 := e.2
                  rw [HX0.out] at h2
                  simp only at h2
                  rw [near_no (j := k) HKl.out (by rw [HCb.out, decide_eq_false hyn, decide_eq_false hm]; rfl)] at h2
                  cases h2)
                rw [decide_eq_false hm] at HHas
                clear hyn hm
                go_wp2_with fail
                refine Calls.mono HHas.out ?_
                rintro e U3 ⟨rfl, hu3⟩
                obtain rfl := hu3.symm
                go_wp2
                go_ret
                exact ⟨by rw [HR.out]; rfl, by first | exact HFV.out _ HB3.out | exact hD ▸ HFV.out _ HB3.out⟩
            · have HQ2 : Hid (∀ u, u < k + 1 → nearB nm ims (c.getD u in0) = true) := fun u hu => by
                by_cases e : u = k
                · rw [e, hi]; unfold nearB; simp [h9]
                · exact HQ.out u (by omega)
              have hne : (kd != 9) = true := by rw [bne_iff_ne]; exact h9
              clear hi
              go_wp2
              go_roundw
              case rel => exact ⟨k + 1, by go_num, by omega, HQ2, HBk⟩
              case measure => simp [intOf]; omega
          · have HO2 : Hid (∀ u, u < j + 1 → one15 nm ims rs u) := fun u hu => by
              by_cases e : u = j
              · subst e
                refine ⟨⟨by rw [HX0.out]; exact HRb.out, fun h => by rw [HX0.out]; exact (HF.out (by trivial)).1 h, by rw [HX0.out]; exact (HF.out (by trivial)).2⟩, ?_⟩
                rw [HX0.out]
                exact near_all (fun q hq => HQ.out q (by have := HCl.out; have hq2 : q < c.length := hq; omega))
              · exact HO.out u (by omega)
            have HBo : Hid (Below W.heap.size W U) := HBV.out.trans (HBk.out.mono HBV.out.size)
            go_wp2
            go_roundw
            case rel => exact ⟨j + 1, by go_num, by omega, HO2, HBo⟩
            case measure => simp [intOf]; omega
      · have HR : Hid (res = false) := HT.out rfl
        go_wp2
        go_ret
        exact ⟨by rw [HR.out]; rfl, by first | exact HFV.out _ HVc.out | exact hD ▸ HFV.out _ HVc.out⟩
    · have HR : Hid (res = true) := HY2.out (fun u hu => HO.out u (by omega))
      have HF := HFB.out _ HBr.out
      go_wp2
      go_ret
      exact ⟨by rw [HR.out]; rfl, by first | exact HF | exact hD ▸ HF⟩

end Go.Proofs.YtfhkiaogfopigaaGreatDoor
