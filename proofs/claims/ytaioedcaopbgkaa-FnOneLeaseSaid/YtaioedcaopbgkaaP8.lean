/-
  Parts of one proof, one behind the other: ProjS2.
-/
import Derived.Test.YtaioedcaopbgkaaP7

/-! The contracts of chapter 8's specification: ProjectOk, l8Order. -/
namespace Go.Proofs.Ytaioedcaopbgkaa
open Go.RowKit

set_option maxHeartbeats 4000000 in
set_option maxRecDepth 100000 in
theorem specProjectOk (a : Option Addr) (len cap : Nat) (ps : List Pk) (w : World) (hin : PkgsIn w a len ps) (hlen : len ≤ 1048576) (hsh : ShortPs ps) :
 Calls Try.prog 71 #[.slice a len cap] w fun e w' => e = .returned (.bool (projB ps)) ∧ Below w.heap.size w w' := by
 obtain rfl : ps.length = len := hin.1
 have HI : Hid (PkgsIn w a ps.length ps) := hin
 have HS : Hid (ShortPs ps) := hsh
 clear hin hsh
 go_enter Try.func71, Try.ntmps71
 go_wp2
 go_loopw [3] (fun iv wr => ∃ j : Nat, iv = .int .i64 (j : Int) ∧ j ≤ ps.length ∧ Hid (∀ i, i < j → pj8 ps i) ∧ Hid (PkgsIn wr a ps.length ps) ∧ Hid (Below w.heap.size w wr)) (fun iv _ => ps.length - (intOf iv).toNat)
 case atStart => exact ⟨0, rfl, by omega, (fun i hi => by omega), HI, Below.refl _ _⟩
 case round =>
  obtain ⟨j, rfl, hj, HA, HP, HB⟩ := hrel
  clear HI
  by_cases hlt : (j : Int) < (ps.length : Int)
  ·
   have hj2 : j < ps.length := by omega
   have hin := HP.out
   have hB := HB.out
   clear HP HB
   obtain ⟨b, off, rfl, hbl, c0, ia, il, ic, fa, fl, fc, c1, c2, hi, hf⟩ := hin.2 j hj2
   have hsj := HS.out j
   have hpj : pj8 ps j ↔ (pkgB (ps.getD j pk0) = true ∧ (0 < j → leT (ps.getD j pk0).1 (ps.getD (j - 1) pk0).1 = false)) := Iff.rfl
   obtain ⟨p, hp⟩ : ∃ p, ps.getD j pk0 = p := ⟨_, rfl⟩
   rw [hp] at c0 hi hf hsj hpj
   clear hp
   obtain ⟨x, ims, fs⟩ := p
   simp only at c0 hi hf hsj hpj
   obtain ⟨hx, hil, him, hfl, hfs⟩ := hsj
   rw [hi.1] at hil
   rw [hf.1] at hfl
   have HSH : Hid (x.length ≤ 1048576 ∧ (∀ i, (ims.getD i []).length ≤ 1048576) ∧ ShortF fs) := ⟨hx, him, hfs⟩
   have HPJ : Hid (pj8 ps j ↔ (pkgB (x, ims, fs) = true ∧ (0 < j → leT x (ps.getD (j - 1) pk0).1 = false))) := hpj
   obtain ⟨pb, hpb⟩ : ∃ pb, pkgB (x, ims, fs) = pb := ⟨_, rfl⟩
   have HPB : Hid (pkgB (x, ims, fs) = pb) := hpb
   clear hx him hfs hpj hpb
   replace hB : Below w.heap.size w wr.drew := hB.drew
   replace hin : PkgsIn wr.drew (some ⟨b, off, none⟩) ps.length ps := hin
   replace hi : TextsIn wr.drew ia il ims := hi
   replace hf : FuncsIn wr.drew fa fl fs := hf
   replace hbl : b < wr.drew.heap.size := hbl
   rcases pb with _ | _
   ·
    have HR : Hid (projB ps = false) := projB_no hj2 (fun h => by have := (HPJ.out.1 h).1; rw [HPB.out] at this; cases this)
    go_wp2_with fail
    refine wp_region_held_drew (S := (fun w' => w'.cell? ⟨b, off + j * 3, none⟩ = some (.string ⟨x.toArray⟩) ∧ w'.cell? ⟨b, off + j * 3 + 1, none⟩ = some (.slice ia il ic) ∧ w'.cell? ⟨b, off + j * 3 + 2, none⟩ = some (.slice fa fl fc))) (by kernel_rfl) ?_ (fun hHeld => ?_)
    ·
     first | (dsimp only; done) | (dsimp only; go_keep) | go_keep
    refine wpAnyH_take (i := 0) (oi := ⟨some 10, _, _, _, _, _⟩) (v := ?v0) rfl (by kernel_rfl) (by kernel_rfl) (by kernel_rfl) (fun _ _ _ h => h) (Or.inl ⟨by rfl, ?hy0⟩) (by assumption) ?rest0
    case hy0 => (intro wq hSw; (try dsimp only at hSw); first | (go_simp; done) | (go_simp; with_reducible rfl))
    simp only [Act.put, List.setIfInBounds_toArray, List.set_cons_zero, List.set_cons_succ]
    refine wpAnyH_take (i := 1) (oi := ⟨some 11, _, _, _, _, _⟩) (v := ?v1) rfl (by kernel_rfl) (by kernel_rfl) (by kernel_rfl) (fun _ _ _ h => h) (Or.inl ⟨by rfl, ?hy1⟩) (by assumption) ?rest1
    case hy1 => (intro wq hSw; (try dsimp only at hSw); first | (go_simp; done) | (go_simp; with_reducible rfl))
    simp only [Act.put, List.setIfInBounds_toArray, List.set_cons_zero, List.set_cons_succ]
    refine wpAnyH_take (i := 2) (oi := ⟨some 12, _, _, _, _, _⟩) (v := ?v2) rfl (by kernel_rfl) (by kernel_rfl) (by kernel_rfl) (fun _ _ _ h => h) (Or.inl ⟨by rfl, ?hy2⟩) (by assumption) ?rest2
    case hy2 => (intro wq hSw; (try dsimp only at hSw); first | (go_simp; done) | (go_simp; with_reducible rfl))
    simp only [Act.put, List.setIfInBounds_toArray, List.set_cons_zero, List.set_cons_succ]
    refine wpAnyH_take (i := 3) (oi := ⟨some 13, _, _, _, _, _⟩) (v := ?v3) rfl (by kernel_rfl) (by kernel_rfl) (by kernel_rfl) (fun _ _ _ h => h) (Or.inl ⟨by rfl, ?hy3⟩) (by assumption) ?rest3
    case hy3 => (intro wq hSw; (try dsimp only at hSw); first | (go_simp; done) | (go_simp; with_reducible rfl))
    simp only [Act.put, List.setIfInBounds_toArray, List.set_cons_zero, List.set_cons_succ]
    refine wpAnyH_ready (rs := [4]) (by kernel_rfl) (by simp) ?_
    refine AllReadyH.cons rfl (fun K hK => ?_) AllReadyH.nil
    go_simp
    (go_at_call 83; refine (specPackageOk x ia il ic fa fl fc ims fs _ hi hf (by omega) (by omega) HSH.out.1 HSH.out.2.1 HSH.out.2.2).mono ?_; rintro e wn ⟨rfl, hbn⟩; rw [HPB.out]; replace hB := hB.trans (hbn.mono hB.size); replace hin := hin.below hbn; replace c0 := (hbn.cell (p := ⟨b, off + j * 3, none⟩) hbl).trans c0; replace c1 := (hbn.cell (p := ⟨b, off + j * 3 + 1, none⟩) hbl).trans c1; replace c2 := (hbn.cell (p := ⟨b, off + j * 3 + 2, none⟩) hbl).trans c2; replace hi := hi.below hbn; replace hf := hf.below hbn; replace hbl := Nat.lt_of_lt_of_le hbl hbn.size; clear hbn)
    refine hK.out _ _ ?_ (fun hHeld => ?_)
    ·
     first | (dsimp only; done) | (dsimp only; go_keep) | go_keep
    clear hK K
    refine wpAnyH_take (i := 5) (oi := ⟨some 15, _, _, _, _, _⟩) (v := ?v5) rfl (by kernel_rfl) (by kernel_rfl) (by kernel_rfl) (fun _ _ _ h => h) (Or.inl ⟨by rfl, ?hy5⟩) (by assumption) ?rest5
    case hy5 => (intro wq hSw; (try dsimp only at hSw); first | (go_simp; done) | (go_simp; with_reducible rfl))
    simp only [Act.put, List.setIfInBounds_toArray, List.set_cons_zero, List.set_cons_succ]
    refine wpAnyH_take (i := 6) (oi := ⟨some 16, _, _, _, _, _⟩) (v := ?v6) rfl (by kernel_rfl) (by kernel_rfl) (by kernel_rfl) (fun _ _ _ h => h) (Or.inl ⟨by rfl, ?hy6⟩) (by assumption) ?rest6
    case hy6 => (intro wq hSw; (try dsimp only at hSw); first | (go_simp; done) | (go_simp; with_reducible rfl))
    simp only [Act.put, List.setIfInBounds_toArray, List.set_cons_zero, List.set_cons_succ]
    refine wpAnyH_take (i := 7) (oi := ⟨some 17, _, _, _, _, _⟩) (v := undef) rfl (by kernel_rfl) (by kernel_rfl) (by kernel_rfl) (fun _ _ _ h => h) (Or.inr ⟨by rfl, rfl⟩) (by assumption) ?_
    simp only [Act.put, List.setIfInBounds_toArray, List.set_cons_zero, List.set_cons_succ]
    refine wpAnyH_take (i := 8) (oi := ⟨some 18, _, _, _, _, _⟩) (v := undef) rfl (by kernel_rfl) (by kernel_rfl) (by kernel_rfl) (fun _ _ _ h => h) (Or.inr ⟨by rfl, rfl⟩) (by assumption) ?_
    simp only [Act.put, List.setIfInBounds_toArray, List.set_cons_zero, List.set_cons_succ]
    refine wpAnyH_take (i := 9) (oi := ⟨some 19, _, _, _, _, _⟩) (v := undef) rfl (by kernel_rfl) (by kernel_rfl) (by kernel_rfl) (fun _ _ _ h => h) (Or.inr ⟨by rfl, rfl⟩) (by assumption) ?_
    simp only [Act.put, List.setIfInBounds_toArray, List.set_cons_zero, List.set_cons_succ]
    refine wpAnyH_take (i := 10) (oi := ⟨some 20, _, _, _, _, _⟩) (v := undef) rfl (by kernel_rfl) (by kernel_rfl) (by kernel_rfl) (fun _ _ _ h => h) (Or.inr ⟨by rfl, rfl⟩) (by assumption) ?_
    simp only [Act.put, List.setIfInBounds_toArray, List.set_cons_zero, List.set_cons_succ]
    refine wpAnyH_take (i := 11) (oi := ⟨some 21, _, _, _, _, _⟩) (v := undef) rfl (by kernel_rfl) (by kernel_rfl) (by kernel_rfl) (fun _ _ _ h => h) (Or.inr ⟨by rfl, rfl⟩) (by assumption) ?_
    simp only [Act.put, List.setIfInBounds_toArray, List.set_cons_zero, List.set_cons_succ]
    refine wpAnyH_take (i := 12) (oi := ⟨some 22, _, _, _, _, _⟩) (v := undef) rfl (by kernel_rfl) (by kernel_rfl) (by kernel_rfl) (fun _ _ _ h => h) (Or.inr ⟨by rfl, rfl⟩) (by assumption) ?_
    simp only [Act.put, List.setIfInBounds_toArray, List.set_cons_zero, List.set_cons_succ]
    refine wpAnyH_take (i := 13) (oi := ⟨some 23, _, _, _, _, _⟩) (v := undef) rfl (by kernel_rfl) (by kernel_rfl) (by kernel_rfl) (fun _ _ _ h => h) (Or.inr ⟨by rfl, rfl⟩) (by assumption) ?_
    simp only [Act.put, List.setIfInBounds_toArray, List.set_cons_zero, List.set_cons_succ]
    refine wpAnyH_take (i := 14) (oi := ⟨some 24, _, _, _, _, _⟩) (v := undef) rfl (by kernel_rfl) (by kernel_rfl) (by kernel_rfl) (fun _ _ _ h => h) (Or.inr ⟨by rfl, rfl⟩) (by assumption) ?_
    simp only [Act.put, List.setIfInBounds_toArray, List.set_cons_zero, List.set_cons_succ]
    refine wpAnyH_take (i := 15) (oi := ⟨some 25, _, _, _, _, _⟩) (v := undef) rfl (by kernel_rfl) (by kernel_rfl) (by kernel_rfl) (fun _ _ _ h => h) (Or.inr ⟨by rfl, rfl⟩) (by assumption) ?_
    simp only [Act.put, List.setIfInBounds_toArray, List.set_cons_zero, List.set_cons_succ]
    refine wpAnyH_take (i := 16) (oi := ⟨some 26, _, _, _, _, _⟩) (v := undef) rfl (by kernel_rfl) (by kernel_rfl) (by kernel_rfl) (fun _ _ _ h => h) (Or.inr ⟨by rfl, rfl⟩) (by assumption) ?_
    simp only [Act.put, List.setIfInBounds_toArray, List.set_cons_zero, List.set_cons_succ]
    refine wpAnyH_take (i := 17) (oi := ⟨some 27, _, _, _, _, _⟩) (v := undef) rfl (by kernel_rfl) (by kernel_rfl) (by kernel_rfl) (fun _ _ _ h => h) (Or.inr ⟨by rfl, rfl⟩) (by assumption) ?_
    simp only [Act.put, List.setIfInBounds_toArray, List.set_cons_zero, List.set_cons_succ]
    refine wpAnyH_take (i := 18) (oi := ⟨some 28, _, _, _, _, _⟩) (v := undef) rfl (by kernel_rfl) (by kernel_rfl) (by kernel_rfl) (fun _ _ _ h => h) (Or.inr ⟨by rfl, rfl⟩) (by assumption) ?_
    simp only [Act.put, List.setIfInBounds_toArray, List.set_cons_zero, List.set_cons_succ]
    refine wpAnyH_take (i := 19) (oi := ⟨some 29, _, _, _, _, _⟩) (v := undef) rfl (by kernel_rfl) (by kernel_rfl) (by kernel_rfl) (fun _ _ _ h => h) (Or.inr ⟨by rfl, rfl⟩) (by assumption) ?_
    simp only [Act.put, List.setIfInBounds_toArray, List.set_cons_zero, List.set_cons_succ]
    refine wpAnyH_take (i := 20) (oi := ⟨some 30, _, _, _, _, _⟩) (v := undef) rfl (by kernel_rfl) (by kernel_rfl) (by kernel_rfl) (fun _ _ _ h => h) (Or.inr ⟨by rfl, rfl⟩) (by assumption) ?_
    simp only [Act.put, List.setIfInBounds_toArray, List.set_cons_zero, List.set_cons_succ]
    refine wpAnyH_take (i := 21) (oi := ⟨some 31, _, _, _, _, _⟩) (v := undef) rfl (by kernel_rfl) (by kernel_rfl) (by kernel_rfl) (fun _ _ _ h => h) (Or.inr ⟨by rfl, rfl⟩) (by assumption) ?_
    simp only [Act.put, List.setIfInBounds_toArray, List.set_cons_zero, List.set_cons_succ]
    refine wpAnyH_take (i := 22) (oi := ⟨some 32, _, _, _, _, _⟩) (v := undef) rfl (by kernel_rfl) (by kernel_rfl) (by kernel_rfl) (fun _ _ _ h => h) (Or.inr ⟨by rfl, rfl⟩) (by assumption) ?_
    simp only [Act.put, List.setIfInBounds_toArray, List.set_cons_zero, List.set_cons_succ]
    refine wpAnyH_take (i := 23) (oi := ⟨some 33, _, _, _, _, _⟩) (v := ?v23) rfl (by kernel_rfl) (by kernel_rfl) (by kernel_rfl) (fun _ _ _ h => h) (Or.inl ⟨by rfl, ?hy23⟩) (by assumption) ?rest23
    case hy23 => (intro wq hSw; (try dsimp only at hSw); first | (go_simp; done) | (go_simp; with_reducible rfl))
    simp only [Act.put, List.setIfInBounds_toArray, List.set_cons_zero, List.set_cons_succ]
    refine wpAnyH_done (by kernel_rfl) ?_ _
    go_wp2
    go_ret
    exact ⟨by rw [HR.out]; rfl, hB⟩
   ·
    rcases j with _ | j
    ·
     have HA2 : Hid (∀ i, i < 0 + 1 → pj8 ps i) := fun i hi => by
      obtain rfl : i = 0 := by omega
      exact HPJ.out.2 ⟨HPB.out, fun h => by omega⟩
     simp only [Nat.zero_mul, Nat.add_zero] at c0 c1 c2
     have hl0 : (0 : Int) < (ps.length : Int) := hlt
     rw [show ((0 : Nat) : Int) = 0 from rfl]
     clear hlt
     go_wp2_with fail
     refine wp_region_held_drew (S := (fun w' => w'.cell? ⟨b, off, none⟩ = some (.string ⟨x.toArray⟩) ∧ w'.cell? ⟨b, off + 1, none⟩ = some (.slice ia il ic) ∧ w'.cell? ⟨b, off + 2, none⟩ = some (.slice fa fl fc))) (by kernel_rfl) ?_ (fun hHeld => ?_)
     ·
      first | (dsimp only; done) | (dsimp only; go_keep) | go_keep
     refine wpAnyH_take (i := 0) (oi := ⟨some 10, _, _, _, _, _⟩) (v := ?vz0) rfl (by kernel_rfl) (by kernel_rfl) (by kernel_rfl) (fun _ _ _ h => h) (Or.inl ⟨by rfl, ?hyz0⟩) (by assumption) ?restz0
     case hyz0 => (intro wq hSw; (try dsimp only at hSw); first | (go_simp; done) | (go_simp; with_reducible rfl))
     simp only [Act.put, List.setIfInBounds_toArray, List.set_cons_zero, List.set_cons_succ]
     refine wpAnyH_take (i := 1) (oi := ⟨some 11, _, _, _, _, _⟩) (v := ?vz1) rfl (by kernel_rfl) (by kernel_rfl) (by kernel_rfl) (fun _ _ _ h => h) (Or.inl ⟨by rfl, ?hyz1⟩) (by assumption) ?restz1
     case hyz1 => (intro wq hSw; (try dsimp only at hSw); first | (go_simp; done) | (go_simp; with_reducible rfl))
     simp only [Act.put, List.setIfInBounds_toArray, List.set_cons_zero, List.set_cons_succ]
     refine wpAnyH_take (i := 2) (oi := ⟨some 12, _, _, _, _, _⟩) (v := ?vz2) rfl (by kernel_rfl) (by kernel_rfl) (by kernel_rfl) (fun _ _ _ h => h) (Or.inl ⟨by rfl, ?hyz2⟩) (by assumption) ?restz2
     case hyz2 => (intro wq hSw; (try dsimp only at hSw); first | (go_simp; done) | (go_simp; with_reducible rfl))
     simp only [Act.put, List.setIfInBounds_toArray, List.set_cons_zero, List.set_cons_succ]
     refine wpAnyH_take (i := 3) (oi := ⟨some 13, _, _, _, _, _⟩) (v := ?vz3) rfl (by kernel_rfl) (by kernel_rfl) (by kernel_rfl) (fun _ _ _ h => h) (Or.inl ⟨by rfl, ?hyz3⟩) (by assumption) ?restz3
     case hyz3 => (intro wq hSw; (try dsimp only at hSw); first | (go_simp; done) | (go_simp; with_reducible rfl))
     simp only [Act.put, List.setIfInBounds_toArray, List.set_cons_zero, List.set_cons_succ]
     refine wpAnyH_ready (rs := [4]) (by kernel_rfl) (by simp) ?_
     refine AllReadyH.cons rfl (fun K hK => ?_) AllReadyH.nil
     go_simp
     (go_at_call 83; refine (specPackageOk x ia il ic fa fl fc ims fs _ hi hf (by omega) (by omega) HSH.out.1 HSH.out.2.1 HSH.out.2.2).mono ?_; rintro e wn ⟨rfl, hbn⟩; rw [HPB.out]; replace hB := hB.trans (hbn.mono hB.size); replace hin := hin.below hbn; replace c0 := (hbn.cell (p := ⟨b, off, none⟩) hbl).trans c0; replace c1 := (hbn.cell (p := ⟨b, off + 1, none⟩) hbl).trans c1; replace c2 := (hbn.cell (p := ⟨b, off + 2, none⟩) hbl).trans c2; replace hi := hi.below hbn; replace hf := hf.below hbn; replace hbl := Nat.lt_of_lt_of_le hbl hbn.size; clear hbn)
     refine hK.out _ _ ?_ (fun hHeld => ?_)
     ·
      first | (dsimp only; done) | (dsimp only; go_keep) | go_keep
     clear hK K
     refine wpAnyH_take (i := 5) (oi := ⟨some 15, _, _, _, _, _⟩) (v := ?vz5) rfl (by kernel_rfl) (by kernel_rfl) (by kernel_rfl) (fun _ _ _ h => h) (Or.inl ⟨by rfl, ?hyz5⟩) (by assumption) ?restz5
     case hyz5 => (intro wq hSw; (try dsimp only at hSw); first | (go_simp; done) | (go_simp; with_reducible rfl))
     simp only [Act.put, List.setIfInBounds_toArray, List.set_cons_zero, List.set_cons_succ]
     refine wpAnyH_take (i := 6) (oi := ⟨some 16, _, _, _, _, _⟩) (v := ?vz6) rfl (by kernel_rfl) (by kernel_rfl) (by kernel_rfl) (fun _ _ _ h => h) (Or.inl ⟨by rfl, ?hyz6⟩) (by assumption) ?restz6
     case hyz6 => (intro wq hSw; (try dsimp only at hSw); first | (go_simp; done) | (go_simp; with_reducible rfl))
     simp only [Act.put, List.setIfInBounds_toArray, List.set_cons_zero, List.set_cons_succ]
     refine wpAnyH_take (i := 7) (oi := ⟨some 17, _, _, _, _, _⟩) (v := ?vz7) rfl (by kernel_rfl) (by kernel_rfl) (by kernel_rfl) (fun _ _ _ h => h) (Or.inl ⟨by rfl, ?hyz7⟩) (by assumption) ?restz7
     case hyz7 => (intro wq hSw; (try dsimp only at hSw); first | (go_simp; done) | (go_simp; with_reducible rfl))
     simp only [Act.put, List.setIfInBounds_toArray, List.set_cons_zero, List.set_cons_succ]
     refine wpAnyH_take (i := 8) (oi := ⟨some 18, _, _, _, _, _⟩) (v := ?vz8) rfl (by kernel_rfl) (by kernel_rfl) (by kernel_rfl) (fun _ _ _ h => h) (Or.inl ⟨by rfl, ?hyz8⟩) (by assumption) ?restz8
     case hyz8 => (intro wq hSw; (try dsimp only at hSw); first | (go_simp; done) | (go_simp; with_reducible rfl))
     simp only [Act.put, List.setIfInBounds_toArray, List.set_cons_zero, List.set_cons_succ]
     refine wpAnyH_take (i := 9) (oi := ⟨some 19, _, _, _, _, _⟩) (v := ?vz9) rfl (by kernel_rfl) (by kernel_rfl) (by kernel_rfl) (fun _ _ _ h => h) (Or.inl ⟨by rfl, ?hyz9⟩) (by assumption) ?restz9
     case hyz9 => (intro wq hSw; (try dsimp only at hSw); first | (go_simp; done) | (go_simp; with_reducible rfl))
     simp only [Act.put, List.setIfInBounds_toArray, List.set_cons_zero, List.set_cons_succ]
     refine wpAnyH_take (i := 10) (oi := ⟨some 20, _, _, _, _, _⟩) (v := undef) rfl (by kernel_rfl) (by kernel_rfl) (by kernel_rfl) (fun _ _ _ h => h) (Or.inr ⟨by rfl, rfl⟩) (by assumption) ?_
     simp only [Act.put, List.setIfInBounds_toArray, List.set_cons_zero, List.set_cons_succ]
     refine wpAnyH_take (i := 11) (oi := ⟨some 21, _, _, _, _, _⟩) (v := undef) rfl (by kernel_rfl) (by kernel_rfl) (by kernel_rfl) (fun _ _ _ h => h) (Or.inr ⟨by rfl, rfl⟩) (by assumption) ?_
     simp only [Act.put, List.setIfInBounds_toArray, List.set_cons_zero, List.set_cons_succ]
     refine wpAnyH_take (i := 12) (oi := ⟨some 22, _, _, _, _, _⟩) (v := undef) rfl (by kernel_rfl) (by kernel_rfl) (by kernel_rfl) (fun _ _ _ h => h) (Or.inr ⟨by rfl, rfl⟩) (by assumption) ?_
     simp only [Act.put, List.setIfInBounds_toArray, List.set_cons_zero, List.set_cons_succ]
     refine wpAnyH_take (i := 13) (oi := ⟨some 23, _, _, _, _, _⟩) (v := undef) rfl (by kernel_rfl) (by kernel_rfl) (by kernel_rfl) (fun _ _ _ h => h) (Or.inr ⟨by rfl, rfl⟩) (by assumption) ?_
     simp only [Act.put, List.setIfInBounds_toArray, List.set_cons_zero, List.set_cons_succ]
     refine wpAnyH_take (i := 14) (oi := ⟨some 24, _, _, _, _, _⟩) (v := undef) rfl (by kernel_rfl) (by kernel_rfl) (by kernel_rfl) (fun _ _ _ h => h) (Or.inr ⟨by rfl, rfl⟩) (by assumption) ?_
     simp only [Act.put, List.setIfInBounds_toArray, List.set_cons_zero, List.set_cons_succ]
     refine wpAnyH_take (i := 15) (oi := ⟨some 25, _, _, _, _, _⟩) (v := undef) rfl (by kernel_rfl) (by kernel_rfl) (by kernel_rfl) (fun _ _ _ h => h) (Or.inr ⟨by rfl, rfl⟩) (by assumption) ?_
     simp only [Act.put, List.setIfInBounds_toArray, List.set_cons_zero, List.set_cons_succ]
     refine wpAnyH_take (i := 16) (oi := ⟨some 26, _, _, _, _, _⟩) (v := undef) rfl (by kernel_rfl) (by kernel_rfl) (by kernel_rfl) (fun _ _ _ h => h) (Or.inr ⟨by rfl, rfl⟩) (by assumption) ?_
     simp only [Act.put, List.setIfInBounds_toArray, List.set_cons_zero, List.set_cons_succ]
     refine wpAnyH_take (i := 17) (oi := ⟨some 27, _, _, _, _, _⟩) (v := undef) rfl (by kernel_rfl) (by kernel_rfl) (by kernel_rfl) (fun _ _ _ h => h) (Or.inr ⟨by rfl, rfl⟩) (by assumption) ?_
     simp only [Act.put, List.setIfInBounds_toArray, List.set_cons_zero, List.set_cons_succ]
     refine wpAnyH_take (i := 18) (oi := ⟨some 28, _, _, _, _, _⟩) (v := undef) rfl (by kernel_rfl) (by kernel_rfl) (by kernel_rfl) (fun _ _ _ h => h) (Or.inr ⟨by rfl, rfl⟩) (by assumption) ?_
     simp only [Act.put, List.setIfInBounds_toArray, List.set_cons_zero, List.set_cons_succ]
     refine wpAnyH_take (i := 19) (oi := ⟨some 29, _, _, _, _, _⟩) (v := undef) rfl (by kernel_rfl) (by kernel_rfl) (by kernel_rfl) (fun _ _ _ h => h) (Or.inr ⟨by rfl, rfl⟩) (by assumption) ?_
     simp only [Act.put, List.setIfInBounds_toArray, List.set_cons_zero, List.set_cons_succ]
     refine wpAnyH_take (i := 20) (oi := ⟨some 30, _, _, _, _, _⟩) (v := undef) rfl (by kernel_rfl) (by kernel_rfl) (by kernel_rfl) (fun _ _ _ h => h) (Or.inr ⟨by rfl, rfl⟩) (by assumption) ?_
     simp only [Act.put, List.setIfInBounds_toArray, List.set_cons_zero, List.set_cons_succ]
     refine wpAnyH_take (i := 21) (oi := ⟨some 31, _, _, _, _, _⟩) (v := undef) rfl (by kernel_rfl) (by kernel_rfl) (by kernel_rfl) (fun _ _ _ h => h) (Or.inr ⟨by rfl, rfl⟩) (by assumption) ?_
     simp only [Act.put, List.setIfInBounds_toArray, List.set_cons_zero, List.set_cons_succ]
     refine wpAnyH_take (i := 22) (oi := ⟨some 32, _, _, _, _, _⟩) (v := ?vz22) rfl (by kernel_rfl) (by kernel_rfl) (by kernel_rfl) (fun _ _ _ h => h) (Or.inl ⟨by rfl, ?hyz22⟩) (by assumption) ?restz22
     case hyz22 => (intro wq hSw; (try dsimp only at hSw); first | (go_simp; done) | (go_simp; with_reducible rfl))
     simp only [Act.put, List.setIfInBounds_toArray, List.set_cons_zero, List.set_cons_succ]
     refine wpAnyH_take (i := 23) (oi := ⟨some 33, _, _, _, _, _⟩) (v := ?vz23) rfl (by kernel_rfl) (by kernel_rfl) (by kernel_rfl) (fun _ _ _ h => h) (Or.inl ⟨by rfl, ?hyz23⟩) (by assumption) ?restz23
     case hyz23 => (intro wq hSw; (try dsimp only at hSw); first | (go_simp; done) | (go_simp; with_reducible rfl))
     simp only [Act.put, List.setIfInBounds_toArray, List.set_cons_zero, List.set_cons_succ]
     refine wpAnyH_done (by kernel_rfl) ?_ _
     have HP2 : Hid (PkgsIn wn (some ⟨b, off, none⟩) ps.length ps) := hin
     have HB2 : Hid (Below w.heap.size w wn) := hB
     go_wp2
     go_roundw
     case rel => exact ⟨0 + 1, by go_num, by omega, HA2, HP2, HB2⟩
     case measure => simp [intOf]; omega
    ·
     obtain ⟨b', off', he, _, d0, _⟩ := hin.2 j (by omega)
     rw [show ((j + 1 : Nat) : Int) = (j : Int) + 1 by omega]
     have hl1 : (j : Int) + 1 < (ps.length : Int) := by omega
     have hl2 : (j : Int) < (ps.length : Int) := by omega
     have hl3 : (0 : Int) ≤ (j : Int) + 1 := by omega
     have hl4 : (0 : Int) < (j : Int) + 1 := by omega
     have hl5 : IntKind.i64.wrap ((j : Int) + 1 - 1) = (j : Int) := by rw [show (j : Int) + 1 - 1 = (j : Int) by omega]; rw [IntKind.wrap_i64]; omega
     have hl6 : IntKind.i64.wrap (j : Int) = (j : Int) := by rw [IntKind.wrap_i64]; omega
     clear hlt
     simp only [Option.some.injEq, Addr.mk.injEq, and_true] at he
     obtain ⟨rfl, rfl⟩ := he
     obtain ⟨y, hy⟩ : ∃ y, (ps.getD j pk0).1 = y := ⟨_, rfl⟩
     have hpj := HPJ.out
     rw [show j + 1 - 1 = j by omega, hy] at hpj
     rw [hy] at d0
     replace HPJ : Hid (pj8 ps (j + 1) ↔ (pkgB (x, ims, fs) = true ∧ (0 < j + 1 → leT x y = false))) := hpj
     have d0' : wr.cell? ⟨b, off + j * 3, none⟩ = some (.string ⟨y.toArray⟩) := d0
     rcases hle : leT x y with _ | _
     ·
      have HA2 : Hid (∀ i, i < j + 1 + 1 → pj8 ps i) := fun i hi => by
       rcases Nat.lt_or_ge i (j + 1) with h | h
       ·
        exact HA.out i h
       ·
        obtain rfl : i = j + 1 := by omega
        exact HPJ.out.2 ⟨HPB.out, fun _ => hle⟩
      unfold leT at hle
      clear hy hpj
      go_wp2_with fail
      go_region_held3 (fun w' => w'.cell? ⟨b, off + (j + 1) * 3, none⟩ = some (.string ⟨x.toArray⟩) ∧ w'.cell? ⟨b, off + (j + 1) * 3 + 1, none⟩ = some (.slice ia il ic) ∧ w'.cell? ⟨b, off + (j + 1) * 3 + 2, none⟩ = some (.slice fa fl fc) ∧ w'.cell? ⟨b, off + j * 3, none⟩ = some (.string ⟨y.toArray⟩)) (go_keep) (first | (go_at_call 83; refine (specPackageOk x ia il ic fa fl fc ims fs _ hi hf (by omega) (by omega) HSH.out.1 HSH.out.2.1 HSH.out.2.2).mono ?_; rintro e wn ⟨rfl, hbn⟩; rw [HPB.out]; replace hB := hB.trans (hbn.mono hB.size); replace hin := hin.below hbn; replace c0 := (hbn.cell (p := ⟨b, off + (j + 1) * 3, none⟩) hbl).trans c0; replace c1 := (hbn.cell (p := ⟨b, off + (j + 1) * 3 + 1, none⟩) hbl).trans c1; replace c2 := (hbn.cell (p := ⟨b, off + (j + 1) * 3 + 2, none⟩) hbl).trans c2; replace d0 := (hbn.cell (p := ⟨b, off + j * 3, none⟩) hbl).trans d0; replace hi := hi.below hbn; replace hf := hf.below hbn; replace hbl := Nat.lt_of_lt_of_le hbl hbn.size; clear hbn))
      all_goals
       have HP2 : Hid (PkgsIn wn (some ⟨b, off, none⟩) ps.length ps) := hin
       have HB2 : Hid (Below w.heap.size w wn) := hB
       go_wp2
       go_roundw
       case rel => exact ⟨j + 1 + 1, by go_num, by omega, HA2, HP2, HB2⟩
       case measure => simp [intOf]; omega
     ·
      have HR : Hid (projB ps = false) := projB_no hj2 (fun h => by have := (HPJ.out.1 h).2 (by omega); rw [hle] at this; cases this)
      unfold leT at hle
      clear hy hpj
      go_wp2_with fail
      go_region_held3 (fun w' => w'.cell? ⟨b, off + (j + 1) * 3, none⟩ = some (.string ⟨x.toArray⟩) ∧ w'.cell? ⟨b, off + (j + 1) * 3 + 1, none⟩ = some (.slice ia il ic) ∧ w'.cell? ⟨b, off + (j + 1) * 3 + 2, none⟩ = some (.slice fa fl fc) ∧ w'.cell? ⟨b, off + j * 3, none⟩ = some (.string ⟨y.toArray⟩)) (go_keep) (first | (go_at_call 83; refine (specPackageOk x ia il ic fa fl fc ims fs _ hi hf (by omega) (by omega) HSH.out.1 HSH.out.2.1 HSH.out.2.2).mono ?_; rintro e wn ⟨rfl, hbn⟩; rw [HPB.out]; replace hB := hB.trans (hbn.mono hB.size); replace hin := hin.below hbn; replace c0 := (hbn.cell (p := ⟨b, off + (j + 1) * 3, none⟩) hbl).trans c0; replace c1 := (hbn.cell (p := ⟨b, off + (j + 1) * 3 + 1, none⟩) hbl).trans c1; replace c2 := (hbn.cell (p := ⟨b, off + (j + 1) * 3 + 2, none⟩) hbl).trans c2; replace d0 := (hbn.cell (p := ⟨b, off + j * 3, none⟩) hbl).trans d0; replace hi := hi.below hbn; replace hf := hf.below hbn; replace hbl := Nat.lt_of_lt_of_le hbl hbn.size; clear hbn))
      all_goals
       go_wp2
       go_ret
       exact ⟨by rw [HR.out]; rfl, hB⟩
  ·
   have HR : Hid (projB ps = inB (ps.length : Int) 1 8) := projB_all (fun i hi => HA.out i (by omega))
   have hC : Hid (_) := specIn (ps.length : Int) 1 8 wr
   generalize inB (ps.length : Int) 1 8 = ib at hC HR
   go_wp2_with (go_at_call 36; refine Calls.mono hC.out ?_; rintro e w1 ⟨rfl, rfl⟩)
   go_ret
   exact ⟨by rw [HR.out]; rfl, HB.out⟩

end Go.Proofs.Ytaioedcaopbgkaa
