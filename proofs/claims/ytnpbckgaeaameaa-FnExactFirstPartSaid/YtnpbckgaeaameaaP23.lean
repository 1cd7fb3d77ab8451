/-
  Parts of one proof, one behind the other: LawFi, TreeX, NodeM.
-/
import Derived.Test.YtnpbckgaeaameaaP22
import Derived.Deep.RegionHeld
import Derived.Deep.Cut
import Derived.Test.YtnpbckgaeaameaaP7
import Derived.Test.YtnpbckgaeaameaaP5
import Derived.Deep.RegionWith

/-! The law FnFirst: the part that goes first needs no less than the other one. -/
namespace Go.Proofs.Ytnpbckgaeaameaa
open Go.RowKit

theorem first_no {t : List Nd} {a : Int} (h : ¬ (treeB t = true ∧ 0 ≤ a ∧ a < t.length ∧ 3 ≤ (t.getD a.toNat nd0).1 ∧ (t.getD a.toNat nd0).1 ≤ 6)) : firstT t a = -1 := by
  unfold firstT
  rw [if_neg h]
theorem nodes_cut12 {w : World} {g off n : Nat} {ns : List Nd} (h : NodesIn w (some ⟨g, off, none⟩) n ns) (p q : Nat) (hp : p ≤ q) (hq : q ≤ n) : NodesIn w (some ⟨g, off + p * 4, none⟩) (q - p) ((ns.drop p).take (q - p)) :=
  (h.drop p).take (q - p) (by omega)

set_option maxHeartbeats 8000000 in
set_option maxRecDepth 100000 in
theorem lawFirst (w : World) (a : Option Addr) (len cap : Nat) (hcode : Code w w.heap.size a len) :
    Calls Try.prog 3 #[.slice a len cap] w fun e w' => e = .returned (.bool true) ∧ Below w.heap.size w w' := by
  by_cases hbig : 4096 < (len : Int)
  · have hd : decide (4096 < (len : Int)) = true := decide_eq_true hbig
    go_enter Try.func3, Try.ntmps3
    go_wp2_with (go_at_call 9; refine (bigB _ _ _ _).mono ?_; rintro e w' ⟨rfl, rfl⟩)
    go_ret
    exact ⟨rfl, Below.refl _ _⟩
  · have hd : decide (4096 < (len : Int)) = false := decide_eq_false hbig
    have hl : len ≤ 4096 := by omega
    go_enter Try.func3, Try.ntmps3
    go_wp2_with fail
    refine (bigB _ _ _ _).mono ?_
    rintro e w1 ⟨rfl, hw1⟩
    obtain rfl := hw1.symm
    go_wp2_with fail
    refine (drawFirstPart _ _ _ _ hl hcode).mono ?_
    rintro e w2 ⟨v, ns, x, rfl, ⟨hown, hn62, hsm, _⟩, hx0, hx1, hB2⟩
    obtain ⟨_, ta, tc, rfl, hin⟩ := own_nodes hown
    have hcap := own_capT hown
    have hcm := own_capM hown
    have hsh := hsm.short
    have hint := hsm.int
    have HFi : Hid (∀ Z, Below w2.heap.size w2 Z → Calls Try.prog 11 #[.slice ta ns.length tc, .int .i64 x] Z fun e w' => e = .returned (.int .i64 (firstT ns x)) ∧ Below Z.heap.size Z w') := fun Z hz => implFirstPart ta ns.length tc ns x Z (hin.below hz) hint hsh (by omega) hcap hcm ⟨by omega, by omega⟩
    have HFs : Hid (∀ Z, Below w2.heap.size w2 Z → Calls Try.prog 12 #[.slice ta ns.length tc, .int .i64 x] Z fun e w' => e = .returned (.int .i64 (firstT ns x)) ∧ Below Z.heap.size Z w') := fun Z hz => specFirstPart ta ns.length tc ns x Z (hin.below hz) hsh (by omega) (by omega) (by omega)
    have HTr : Hid (∀ Z, Below w2.heap.size w2 Z → Calls Try.prog 13 #[.slice ta ns.length tc] Z fun e w' => e = .returned (.bool (treeB ns)) ∧ Below Z.heap.size Z w') := fun Z hz => specTreeOk ta ns.length tc ns Z (hin.below hz) hsh (by omega)
    have HPt : Hid (∀ Z, Below w2.heap.size w2 Z → Calls Try.prog 14 #[.slice ta ns.length tc, .int .i64 x] Z fun e w' => ∃ v, e = .returned v ∧ w'.ownsRow Z.heap.size 2 1 v (partsV ns x).length (intsV (partsV ns x)) ∧ Below Z.heap.size Z w') := fun Z hz => specPartsOf ta ns.length tc ns x Z (hin.below hz) hsh (by omega)
    have HEn : Hid (∀ Z, Below w2.heap.size w2 Z → Calls Try.prog 16 #[.slice ta ns.length tc, .int .i64 x] Z fun e w' => e = .returned (.int .i64 (endV ns x)) ∧ Below Z.heap.size Z w') := fun Z hz => specEndOf ta ns.length tc ns x Z (hin.below hz) hsh (by omega)
    have HCu : Hid (∀ b off, ta = some ⟨b, off, none⟩ → ∀ p q : Nat, p ≤ q → q ≤ ns.length → ∀ Z, Below w2.heap.size w2 Z → Calls Try.prog 15 #[.slice (some ⟨b, off + p * 4, none⟩) (q - p) (tc - p)] Z fun e w' => e = .returned (.int .i64 (needT ((ns.drop p).take (q - p)))) ∧ Below Z.heap.size Z w') := fun b off e p q hp hq Z hz => by
      subst e
      exact implNeed _ (q - p) (tc - p) _ Z (nodes_cut12 (hin.below hz) p q hp hq) ((hint.drop p).take _) ((hsh.drop p).take _) (by omega) (by omega) (by omega)
    have HIn : Hid (∀ Z, Below w2.heap.size w2 Z → NodesIn Z ta ns.length ns) := fun Z hz => hin.below hz
    have HB0 : Hid (Below w.heap.size w w2) := hB2
    have HE : Hid (∀ Z, Below w2.heap.size w2 Z → Below w.heap.size w Z) := fun Z hz => HB0.out.trans (hz.mono HB0.out.size)
    have hB : Below w2.heap.size w2 w2 := Below.refl _ _
    obtain ⟨f, hf⟩ : ∃ f, firstT ns x = f := ⟨_, rfl⟩
    have HF : Hid (firstT ns x = f) := hf
    rw [hf] at HFi HFs
    have hne : (f != f) = false := by simp
    have hcT : (ns.length : Int) ≤ (tc : Int) := by omega
    clear hown hin hcap hcm hsh hint hsm hcode hB2 hf HB0
    go_wp2_with fail
    refine (HFi.out _ hB).mono ?_
    rintro e w3 ⟨rfl, hb3⟩
    replace hB := hB.trans (hb3.mono hB.size)
    clear hb3 HFi
    go_wp2_with fail
    refine (HFs.out _ hB).mono ?_
    rintro e w4 ⟨rfl, hb4⟩
    replace hB := hB.trans (hb4.mono hB.size)
    clear hb4 HFs
    by_cases hc : treeB ns = true ∧ 0 ≤ x ∧ x < ns.length ∧ 3 ≤ (ns.getD x.toNat nd0).1 ∧ (ns.getD x.toNat nd0).1 ≤ 6
    rotate_left
    · obtain rfl : f = -1 := HF.out.symm.trans (first_no hc)
      have HV : Hid (_) := HTr.out _ hB
      have HE4 : Hid (∀ Z, Below w4.heap.size w4 Z → Below w.heap.size w Z) := fun Z hz => HE.out _ (hB.trans (hz.mono hB.size))
      have HI4 : Hid (∀ Z, Below w4.heap.size w4 Z → NodesIn Z ta ns.length ns) := fun Z hz => HIn.out _ (hB.trans (hz.mono hB.size))
      clear HF HPt HEn HCu HTr hcT
      rcases hz : treeB ns with _ | _
      · rw [hz] at HV
        clear hz hc HIn HI4
        go_wp2_with fail
        refine Calls.mono HV.out ?_
        rintro e w5 ⟨rfl, hb5⟩
        have HF := HE4.out _ hb5
        clear hb5
        go_wp2
        go_ret
        exact ⟨rfl, HF⟩
      rw [hz] at HV
      by_cases h0 : x < 0
      · clear hz hc HIn HI4
        go_wp2_with fail
        refine Calls.mono HV.out ?_
        rintro e w5 ⟨rfl, hb5⟩
        have HF := HE4.out _ hb5
        clear hb5
        go_wp2
        go_ret
        exact ⟨rfl, HF⟩
      by_cases h1 : (ns.length : Int) ≤ x
      · clear hz hc HIn HI4
        go_wp2_with fail
        refine Calls.mono HV.out ?_
        rintro e w5 ⟨rfl, hb5⟩
        have HF := HE4.out _ hb5
        clear hb5
        go_wp2
        go_ret
        exact ⟨rfl, HF⟩
      obtain ⟨k, rfl⟩ : ∃ k : Nat, x = (k : Int) := Int.eq_ofNat_of_zero_le (by omega)
      rw [Int.toNat_natCast] at hc
      have hk : k < ns.length := by omega
      have hkd : (ns.getD k nd0).1 < 3 ∨ 6 < (ns.getD k nd0).1 := by
        rcases Int.lt_or_le (ns.getD k nd0).1 3 with h | h
        · exact Or.inl h
        · exact Or.inr (Int.lt_of_not_ge (fun h6 => hc ⟨hz, by omega, by omega, h, h6⟩))
      clear hz hc HIn
      go_wp2_with fail
      refine Calls.mono HV.out ?_
      rintro e w5 ⟨rfl, hb5⟩
      have HF := HE4.out _ hb5
      obtain ⟨b, off, rfl, hbl, c0, _⟩ := (HI4.out _ hb5).2 k hk
      generalize (ns.getD k nd0).1 = kd at c0 hkd
      clear hb5 HI4 HE4
      rcases hkd with h3 | h6
      · go_wp2
        go_ret
        exact ⟨rfl, HF⟩
      · have h3 : ¬ kd < 3 := by omega
        go_wp2
        go_ret
        exact ⟨rfl, HF⟩
    obtain ⟨htb, h0, h1, h3, h6⟩ := hc
    obtain ⟨k, rfl⟩ : ∃ k : Nat, x = (k : Int) := Int.eq_ofNat_of_zero_le (by omega)
    rw [Int.toNat_natCast] at h3 h6
    have hk : k < ns.length := by omega
    obtain ⟨p, q, ee, hpt, hen, hpq, hqe, hel, hA, hBq⟩ := first_law htb hk ⟨h3, h6⟩
    have hpv : partsV ns (k : Int) = [(p : Int), (q : Int)] := by unfold partsV; rw [if_neg (by rw [hen]; omega)]; exact hpt
    have hfv : f = if need12 60 ns [] (q : Int) ≤ need12 60 ns [] (p : Int) then 0 else 1 := by
      rw [← HF.out]
      unfold firstT
      rw [Int.toNat_natCast, if_pos ⟨htb, by omega, by omega, h3, h6⟩, hpt]
      rfl
    obtain ⟨b, off, rfl, hbl, _⟩ := (HIn.out _ hB).2 k hk
    rw [hpv] at HPt
    rw [hen] at HEn
    have HNp : Hid (_) := HCu.out b off rfl p q (by omega) (by omega)
    have HNq : Hid (_) := HCu.out b off rfl q ee (by omega) (by omega)
    rw [hA] at HNp
    rw [hBq] at HNq
    generalize need12 60 ns [] (p : Int) = y at HNp hfv
    generalize need12 60 ns [] (q : Int) = z at HNq hfv
    have HFv : Hid (f = if z ≤ y then 0 else 1) := hfv
    have hf0 : ¬ f < 0 := by rw [hfv]; split <;> omega
    obtain ⟨n, hn⟩ : ∃ n, ns.length = n := ⟨_, rfl⟩
    have HLn : Hid (ns.length = n) := hn
    have hpq2 : (p : Int) ≤ (q : Int) := by omega
    have hqe2 : (q : Int) ≤ (ee : Int) := by omega
    have hqt : (q : Int) ≤ (tc : Int) := by omega
    have het : (ee : Int) ≤ (tc : Int) := by omega
    have htp : ¬ tc = p := by omega
    have htq : ¬ tc = q := by omega
    rw [hn] at HPt HEn ⊢
    clear hA hBq hpv hpt hen htb h3 h6 hfv HTr HF HCu HIn hn h1 h0 hbl hel hcT hn62 hk
    go_wp2_with fail
    refine (HPt.out _ hB).mono ?_
    rintro e V ⟨v, rfl, hv, hbV⟩
    replace hB := hB.trans (hbV.mono hB.size)
    obtain ⟨gp, cp, rfl⟩ := own_some hv (by simp)
    have c0 : V.cell? ⟨gp, 0, none⟩ = some (.int .i64 (p : Int)) := ints_cell hv 0 (by simp)
    have c1 : V.cell? ⟨gp, 1, none⟩ = some (.int .i64 (q : Int)) := ints_cell hv 1 (by simp)
    have hgl := (hv.lt gp rfl).2
    have HBV : Hid (Below w2.heap.size w2 V.drew) := ⟨hB.os, hB.tape, hB.output, hB.size, hB.block⟩
    have hl2 : ([(p : Int), (q : Int)] : List Int).length = 2 := rfl
    rw [hl2]
    clear hv HPt hbV hB hl2
    go_upto_region 10 with fail
    go_cut [7] from 58 (fun v wx => v = .int .i64 y ∧ gp < wx.heap.size ∧ wx.cell? ⟨gp, 1, none⟩ = some (.int .i64 (q : Int)) ∧ Hid (Below w2.heap.size w2 wx))
    case first =>
      refine wp_region_held_drew (S := (fun w' => w'.cell? ⟨gp, 0, none⟩ = some (.int .i64 (p : Int)) ∧ w'.cell? ⟨gp, 1, none⟩ = some (.int .i64 (q : Int)))) (by kernel_rfl) ?_ (fun hHeld => ?_)
      · first | (dsimp only; done) | (dsimp only; go_keep) | go_keep
      refine wpAnyH_take (i := 0) (oi := ⟨some 58, _, _, _, _, _⟩) (v := ?vf0) rfl (by kernel_rfl) (by kernel_rfl) (by kernel_rfl) (fun _ _ _ h => h) (Or.inl ⟨by rfl, ?hyf0⟩) (by assumption) ?restf0
      case hyf0 => (intro wq hSw; (try dsimp only at hSw); first | (go_simp; done) | (go_simp; with_reducible rfl))
      simp only [Act.put, List.setIfInBounds_toArray, List.set_cons_zero, List.set_cons_succ]
      refine wpAnyH_take (i := 1) (oi := ⟨some 59, _, _, _, _, _⟩) (v := ?vf1) rfl (by kernel_rfl) (by kernel_rfl) (by kernel_rfl) (fun _ _ _ h => h) (Or.inl ⟨by rfl, ?hyf1⟩) (by assumption) ?restf1
      case hyf1 => (intro wq hSw; (try dsimp only at hSw); first | (go_simp; done) | (go_simp; with_reducible rfl))
      simp only [Act.put, List.setIfInBounds_toArray, List.set_cons_zero, List.set_cons_succ]
      refine wpAnyH_take (i := 2) (oi := ⟨some 60, _, _, _, _, _⟩) (v := ?vf2) rfl (by kernel_rfl) (by kernel_rfl) (by kernel_rfl) (fun _ _ _ h => h) (Or.inl ⟨by rfl, ?hyf2⟩) (by assumption) ?restf2
      case hyf2 => (intro wq hSw; (try dsimp only at hSw); first | (go_simp; done) | (go_simp; with_reducible rfl))
      simp only [Act.put, List.setIfInBounds_toArray, List.set_cons_zero, List.set_cons_succ]
      refine wpAnyH_take (i := 3) (oi := ⟨some 61, _, _, _, _, _⟩) (v := ?vf3) rfl (by kernel_rfl) (by kernel_rfl) (by kernel_rfl) (fun _ _ _ h => h) (Or.inl ⟨by rfl, ?hyf3⟩) (by assumption) ?restf3
      case hyf3 => (intro wq hSw; (try dsimp only at hSw); first | (go_simp; done) | (go_simp; with_reducible rfl))
      simp only [Act.put, List.setIfInBounds_toArray, List.set_cons_zero, List.set_cons_succ]
      refine wpAnyH_take (i := 4) (oi := ⟨some 62, _, _, _, _, _⟩) (v := ?vf4) rfl (by kernel_rfl) (by kernel_rfl) (by kernel_rfl) (fun _ _ _ h => h) (Or.inl ⟨by rfl, ?hyf4⟩) (by assumption) ?restf4
      case hyf4 => (intro wq hSw; (try dsimp only at hSw); first | (go_simp; done) | (go_simp; with_reducible rfl))
      simp only [Act.put, List.setIfInBounds_toArray, List.set_cons_zero, List.set_cons_succ]
      refine wpAnyH_take (i := 5) (oi := ⟨some 63, _, _, _, _, _⟩) (v := ?vf5) rfl (by kernel_rfl) (by kernel_rfl) (by kernel_rfl) (fun _ _ _ h => h) (Or.inl ⟨by rfl, ?hyf5⟩) (by assumption) ?restf5
      case hyf5 => (intro wq hSw; (try dsimp only at hSw); first | (go_simp; done) | (go_simp; with_reducible rfl))
      simp only [Act.put, List.setIfInBounds_toArray, List.set_cons_zero, List.set_cons_succ]
      refine wpAnyH_take (i := 6) (oi := ⟨some 64, _, _, _, _, _⟩) (v := ?vf6) rfl (by kernel_rfl) (by kernel_rfl) (by kernel_rfl) (fun _ _ _ h => h) (Or.inl ⟨by rfl, ?hyf6⟩) (by assumption) ?restf6
      case hyf6 => (intro wq hSw; (try dsimp only at hSw); first | (go_simp; done) | (go_simp; with_reducible rfl))
      simp only [Act.put, List.setIfInBounds_toArray, List.set_cons_zero, List.set_cons_succ]
      refine wpAnyH_take (i := 7) (oi := ⟨some 65, _, _, _, _, _⟩) (v := ?vf7) rfl (by kernel_rfl) (by kernel_rfl) (by kernel_rfl) (fun _ _ _ h => h) (Or.inl ⟨by rfl, ?hyf7⟩) (by assumption) ?restf7
      case hyf7 => (intro wq hSw; (try dsimp only at hSw); first | (go_simp; done) | (go_simp; with_reducible rfl))
      simp only [Act.put, List.setIfInBounds_toArray, List.set_cons_zero, List.set_cons_succ]
      refine wpAnyH_ready (rs := [8]) (by kernel_rfl) (by simp) ?_
      refine AllReadyH.cons rfl (fun K hK => ?_) AllReadyH.nil
      go_simp
      go_at_call 15; refine Calls.mono (HNp.out _ HBV.out) ?_; rintro e wn ⟨rfl, hbn⟩; have hgwn : gp < wn.heap.size := Nat.lt_of_lt_of_le hgl hbn.size; replace c0 := (hbn.cell (p := ⟨gp, 0, none⟩) hgl).trans c0; replace c1 := (hbn.cell (p := ⟨gp, 1, none⟩) hgl).trans c1; have HBwn : Hid (Below w2.heap.size w2 wn) := HBV.out.trans (hbn.mono HBV.out.size); clear hbn; dsimp only
      refine hK.out _ _ ?_ (fun hHeld => ?_)
      · first | (dsimp only; done) | (dsimp only; go_keep) | go_keep
      clear hK K
      refine wpAnyH_take (i := 9) (oi := ⟨some 7, _, _, _, _, _⟩) (v := ?vf9) rfl (by kernel_rfl) (by kernel_rfl) (by kernel_rfl) (fun _ _ _ h => h) (Or.inl ⟨by rfl, ?hyf9⟩) (by assumption) ?restf9
      case hyf9 => (intro wq hSw; (try dsimp only at hSw); first | (go_simp; done) | (go_simp; with_reducible rfl))
      simp only [Act.put, List.setIfInBounds_toArray, List.set_cons_zero, List.set_cons_succ]
      refine wpAnyH_done (by kernel_rfl) ?_ _
      go_wp2_with fail
      go_meet
      case rel => exact ⟨rfl, hgwn, c1, HBwn⟩
    case rest =>
    obtain ⟨rfl, hgc, c1, HBc⟩ := hcut
    have HBd : Hid (Below w2.heap.size w2 wc.drew) := ⟨HBc.out.os, HBc.out.tape, HBc.out.output, HBc.out.size, HBc.out.block⟩
    clear HBc HBV hgl HNp
    go_upto_region 11 with fail
    go_cut [8] from 67 (fun v wx => v = .int .i64 z ∧ Hid (Below w2.heap.size w2 wx))
    case first =>
      refine wp_region_held_drew (S := (fun w' => w'.cell? ⟨gp, 1, none⟩ = some (.int .i64 (q : Int)))) (by kernel_rfl) ?_ (fun hHeld => ?_)
      · first | (dsimp only; done) | (dsimp only; go_keep) | go_keep
      refine wpAnyH_take (i := 0) (oi := ⟨some 67, _, _, _, _, _⟩) (v := ?vg0) rfl (by kernel_rfl) (by kernel_rfl) (by kernel_rfl) (fun _ _ _ h => h) (Or.inl ⟨by rfl, ?hyg0⟩) (by assumption) ?restg0
      case hyg0 => (intro wq hSw; (try dsimp only at hSw); first | (go_simp; done) | (go_simp; with_reducible rfl))
      simp only [Act.put, List.setIfInBounds_toArray, List.set_cons_zero, List.set_cons_succ]
      refine wpAnyH_take (i := 1) (oi := ⟨some 68, _, _, _, _, _⟩) (v := ?vg1) rfl (by kernel_rfl) (by kernel_rfl) (by kernel_rfl) (fun _ _ _ h => h) (Or.inl ⟨by rfl, ?hyg1⟩) (by assumption) ?restg1
      case hyg1 => (intro wq hSw; (try dsimp only at hSw); first | (go_simp; done) | (go_simp; with_reducible rfl))
      simp only [Act.put, List.setIfInBounds_toArray, List.set_cons_zero, List.set_cons_succ]
      refine wpAnyH_take (i := 2) (oi := ⟨some 69, _, _, _, _, _⟩) (v := ?vg2) rfl (by kernel_rfl) (by kernel_rfl) (by kernel_rfl) (fun _ _ _ h => h) (Or.inl ⟨by rfl, ?hyg2⟩) (by assumption) ?restg2
      case hyg2 => (intro wq hSw; (try dsimp only at hSw); first | (go_simp; done) | (go_simp; with_reducible rfl))
      simp only [Act.put, List.setIfInBounds_toArray, List.set_cons_zero, List.set_cons_succ]
      refine wpAnyH_take (i := 3) (oi := ⟨some 70, _, _, _, _, _⟩) (v := ?vg3) rfl (by kernel_rfl) (by kernel_rfl) (by kernel_rfl) (fun _ _ _ h => h) (Or.inl ⟨by rfl, ?hyg3⟩) (by assumption) ?restg3
      case hyg3 => (intro wq hSw; (try dsimp only at hSw); first | (go_simp; done) | (go_simp; with_reducible rfl))
      simp only [Act.put, List.setIfInBounds_toArray, List.set_cons_zero, List.set_cons_succ]
      refine wpAnyH_take (i := 4) (oi := ⟨some 71, _, _, _, _, _⟩) (v := ?vg4) rfl (by kernel_rfl) (by kernel_rfl) (by kernel_rfl) (fun _ _ _ h => h) (Or.inl ⟨by rfl, ?hyg4⟩) (by assumption) ?restg4
      case hyg4 => (intro wq hSw; (try dsimp only at hSw); first | (go_simp; done) | (go_simp; with_reducible rfl))
      simp only [Act.put, List.setIfInBounds_toArray, List.set_cons_zero, List.set_cons_succ]
      refine wpAnyH_take (i := 5) (oi := ⟨some 72, _, _, _, _, _⟩) (v := ?vg5) rfl (by kernel_rfl) (by kernel_rfl) (by kernel_rfl) (fun _ _ _ h => h) (Or.inl ⟨by rfl, ?hyg5⟩) (by assumption) ?restg5
      case hyg5 => (intro wq hSw; (try dsimp only at hSw); first | (go_simp; done) | (go_simp; with_reducible rfl))
      simp only [Act.put, List.setIfInBounds_toArray, List.set_cons_zero, List.set_cons_succ]
      refine wpAnyH_ready (rs := [6]) (by kernel_rfl) (by simp) ?_
      refine AllReadyH.cons rfl (fun K hK => ?_) AllReadyH.nil
      go_simp
      go_at_call 16; refine Calls.mono (HEn.out _ HBd.out) ?_; rintro e wm ⟨rfl, hbn⟩; have hgwm : gp < wm.heap.size := Nat.lt_of_lt_of_le hgc hbn.size; replace c1 := (hbn.cell (p := ⟨gp, 1, none⟩) hgc).trans c1; have HBwm : Hid (Below w2.heap.size w2 wm) := HBd.out.trans (hbn.mono HBd.out.size); clear hbn; dsimp only
      refine hK.out _ _ ?_ (fun hHeld => ?_)
      · first | (dsimp only; done) | (dsimp only; go_keep) | go_keep
      clear hK K
      refine wpAnyH_take (i := 7) (oi := ⟨some 74, _, _, _, _, _⟩) (v := ?vg7) rfl (by kernel_rfl) (by kernel_rfl) (by kernel_rfl) (fun _ _ _ h => h) (Or.inl ⟨by rfl, ?hyg7⟩) (by assumption) ?restg7
      case hyg7 => (intro wq hSw; (try dsimp only at hSw); first | (go_simp; done) | (go_simp; with_reducible rfl))
      simp only [Act.put, List.setIfInBounds_toArray, List.set_cons_zero, List.set_cons_succ]
      refine wpAnyH_ready (rs := [8]) (by kernel_rfl) (by simp) ?_
      refine AllReadyH.cons rfl (fun K hK => ?_) AllReadyH.nil
      go_simp
      go_at_call 15; refine Calls.mono (HNq.out _ HBwm.out) ?_; rintro e wo ⟨rfl, hbn⟩; have hgwo : gp < wo.heap.size := Nat.lt_of_lt_of_le hgwm hbn.size; replace c1 := (hbn.cell (p := ⟨gp, 1, none⟩) hgwm).trans c1; have HBwo : Hid (Below w2.heap.size w2 wo) := HBwm.out.trans (hbn.mono HBwm.out.size); clear hbn; dsimp only
      refine hK.out _ _ ?_ (fun hHeld => ?_)
      · first | (dsimp only; done) | (dsimp only; go_keep) | go_keep
      clear hK K
      refine wpAnyH_take (i := 9) (oi := ⟨some 8, _, _, _, _, _⟩) (v := ?vg9) rfl (by kernel_rfl) (by kernel_rfl) (by kernel_rfl) (fun _ _ _ h => h) (Or.inl ⟨by rfl, ?hyg9⟩) (by assumption) ?restg9
      case hyg9 => (intro wq hSw; (try dsimp only at hSw); first | (go_simp; done) | (go_simp; with_reducible rfl))
      simp only [Act.put, List.setIfInBounds_toArray, List.set_cons_zero, List.set_cons_succ]
      refine wpAnyH_done (by kernel_rfl) ?_ _
      go_wp2_with fail
      go_meet
      case rel => exact ⟨rfl, HBwo⟩
    case rest =>
    obtain ⟨rfl, HBf⟩ := hcut
    have HFin := HE.out _ HBf.out
    clear HBd c1 hgc HBf HNq HEn HE hf0
    by_cases h : z ≤ y
    · obtain rfl : f = 0 := by rw [HFv.out, if_pos h]
      clear HFv
      go_wp2
      go_ret
      exact ⟨rfl, HFin⟩
    · obtain rfl : f = 1 := by rw [HFv.out, if_neg h]
      have h2 : y < z := by omega
      clear HFv h
      go_wp2
      go_ret
      exact ⟨rfl, HFin⟩

end Go.Proofs.Ytnpbckgaeaameaa

/-! Small facts for the walks of stage 6. -/
namespace Go.Proofs.Ytnpbckgaeaameaa
open Go.RowKit

theorem own_ne3 {v v2 : Value} (hd : ∀ q, v.ownBlock = some q → v2.ownBlock = some q → False) : v.ownBlock = none ∨ v.ownBlock ≠ v2.ownBlock := by
  rcases hv : v.ownBlock with _ | q
  · exact Or.inl rfl
  · exact Or.inr (fun e => hd q hv e.symm)

theorem partsV_len (l : List Nd) (a : Int) : (partsV l a).length ≤ 3 := by
  unfold partsV
  split
  · simp
  · rename_i hneg
    have hin2 : ¬ (a < 0 ∨ (l.length : Int) ≤ a) := fun h => hneg (by rw [endV_out l a h]; omega)
    obtain ⟨k, rfl⟩ : ∃ k : Nat, a = (k : Int) := Int.eq_ofNat_of_zero_le (by omega)
    obtain ⟨_, hnb, _⟩ := end_parts (by omega : 0 ≤ endV l (k : Int))
    rw [partsGo_len]
    exact (@kidsV_ok _ hnb).2

theorem readTV_len (s : List UInt8) : (readTV s).length ≤ 60 := by
  unfold readTV
  split
  · rename_i h
    unfold readOk at h
    simp only [Bool.and_eq_true] at h
    exact (tree_end h.2.1).1.2
  · simp

end Go.Proofs.Ytnpbckgaeaameaa

/-! The laws' own helpers over rows of nodes: markNodeS, heldNodeS, likeTree. -/
namespace Go.Proofs.Ytnpbckgaeaameaa
open Go.RowKit

/-- The marks of m nodes, from k on. -/
def marksN (k : Nat) : Nat → List Nd
  | 0 => []
  | m + 1 => marksN k m ++ [(((k + 4 * m : Nat) : Int), ((k + 4 * m + 1 : Nat) : Int), markL (k + 4 * m + 1 + 1), markL (k + 4 * m + 1 + 1 + 1))]

theorem marksN_len (k m : Nat) : (marksN k m).length = m := by
  induction m with
  | zero => rfl
  | succ m ih => simp [marksN, ih]

theorem marksN_at (k m j : Nat) (h : j < m) : (marksN k m).getD j nd0 = (((k + 4 * j : Nat) : Int), ((k + 4 * j + 1 : Nat) : Int), markL (k + 4 * j + 1 + 1), markL (k + 4 * j + 1 + 1 + 1)) := by
  induction m with
  | zero => omega
  | succ m ih =>
    unfold marksN
    by_cases hj : j < m
    · rw [← ih hj]
      simp [List.getD, List.getElem?_append, marksN_len, hj]
    · obtain rfl : j = m := by omega
      simp [List.getD, marksN_len]

theorem marksN_set (k i : Nat) (ns : List Nd) (h : i < ns.length) : (marksN k i ++ ns.drop i).set i (((k + 4 * i : Nat) : Int), ((k + 4 * i + 1 : Nat) : Int), markL (k + 4 * i + 1 + 1), markL (k + 4 * i + 1 + 1 + 1)) = marksN k (i + 1) ++ ns.drop (i + 1) := by
  rw [List.set_append_right _ _ (by rw [marksN_len]; omega), marksN_len, Nat.sub_self, List.drop_eq_getElem_cons h, List.set_cons_zero]
  conv => rhs; unfold marksN
  rw [List.append_assoc]; rfl

set_option maxHeartbeats 2000000 in
set_option maxRecDepth 100000 in
theorem markNodeSC (w : World) (base g cp n k0 : Nat) (ns : List Nd) (hn : n ≤ 1100000) (hk0 : 0 < k0) (hk1 : k0 ≤ 30000000)
    (h : w.ownsRow base 30 4 (.slice (some ⟨g, 0, none⟩) n cp) n (nodesV ns)) :
    Calls Try.prog 31 #[.slice (some ⟨g, 0, none⟩) n cp, .int .i64 k0] w fun e w' => e = .returned (.int .i64 ((k0 + 4 * n : Nat) : Int)) ∧ w'.ownsRow base 30 4 (.slice (some ⟨g, 0, none⟩) n cp) n (nodesV (marksN k0 n)) ∧ w.grownBy w' (some g) := by
  have hbl := (own_nodes h).1
  go_enter Try.func31, Try.ntmps31
  go_wp2
  go_loopw [1, 5] (fun k i wr => ∃ m : Nat, m ≤ n ∧ i = .int .i64 m ∧ k = .int .i64 ((k0 + 4 * m : Nat) : Int) ∧ wr.ownsRow base 30 4 (.slice (some ⟨g, 0, none⟩) n cp) n (nodesV (marksN k0 m ++ ns.drop m)) ∧ w.grownBy wr (some g)) (fun _ i _ => n - (intOf i).toNat)
  case atStart => exact ⟨0, Nat.zero_le _, rfl, rfl, h, World.grownBy.refl _ _⟩
  case round =>
    obtain ⟨m, hm, rfl, rfl, hown, hg⟩ := hrel
    by_cases hlt : (m : Int) < (n : Int)
    · have hl2 : (marksN k0 m ++ ns.drop m).length = n := (own_nodes hown).1
      have hset := marksN_set k0 m ns (by omega)
      obtain ⟨q, hq⟩ : ∃ q, k0 + 4 * m = q := ⟨_, rfl⟩
      have hq3 : q ≤ 34500000 := by omega
      have HQ2 : Hid (k0 + 4 * (m + 1) = q + 1 + 1 + 1 + 1) := by exact (by omega : k0 + 4 * (m + 1) = q + 1 + 1 + 1 + 1)
      rw [hq] at hset ⊢
      clear hq
      obtain ⟨v0, v1, v2, v3⟩ := nodesV_at (marksN k0 m ++ ns.drop m) m (by omega)
      obtain ⟨xs, hxs⟩ : ∃ xs, nodesV (marksN k0 m ++ ns.drop m) = xs := ⟨_, rfl⟩
      have hset2 := nodesV_set (marksN k0 m ++ ns.drop m) m (q : Int) ((q + 1 : Nat) : Int) (markL (q + 1 + 1)) (markL (q + 1 + 1 + 1))
      rw [hset, hxs] at hset2
      rw [hxs] at hown v0 v1 v2 v3
      have HSET : Hid ((((xs.set (m * 4) (.int .i64 (q : Int))).set (m * 4 + 1) (.int .i64 ((q + 1 : Nat) : Int))).set (m * 4 + 2) (.string ⟨(markL (q + 1 + 1)).toArray⟩)).set (m * 4 + 3) (.string ⟨(markL (q + 1 + 1 + 1)).toArray⟩) = nodesV (marksN k0 (m + 1) ++ ns.drop (m + 1))) := hset2
      clear hset hset2 hxs
      obtain ⟨u0, d0⟩ : ∃ u, wr.cell? ⟨g, m * 4, none⟩ = some u := by rw [hown.cellAt (m * 4) (by omega), v0]; exact ⟨_, rfl⟩
      obtain ⟨u1, d1⟩ : ∃ u, wr.cell? ⟨g, m * 4 + 1, none⟩ = some u := by rw [hown.cellAt (m * 4 + 1) (by omega), v1]; exact ⟨_, rfl⟩
      have e0 := hown.frozenAt (m * 4)
      have e1 := hown.frozenAt (m * 4 + 1)
      have hs1 := hown.stored (m * 4) (.int .i64 (q : Int))
      have hs2 := hs1.1.stored (m * 4 + 1) (.int .i64 ((q + 1 : Nat) : Int))
      obtain ⟨W1, hW1⟩ : ∃ W1, (wr.setCell ⟨g, m * 4, none⟩ (.int .i64 (q : Int))).setCell ⟨g, m * 4 + 1, none⟩ (.int .i64 ((q + 1 : Nat) : Int)) = W1 := ⟨_, rfl⟩
      rw [hW1] at hs2
      have HS1 : Hid (W1.ownsRow base 30 4 (.slice (some ⟨g, 0, none⟩) n cp) n ((xs.set (m * 4) (.int .i64 (q : Int))).set (m * 4 + 1) (.int .i64 ((q + 1 : Nat) : Int)))) := hs2.1
      have HG1 : Hid (w.grownBy W1 (some g)) := (hg.trans hs1.2).trans hs2.2
      clear hs1 hs2
      go_wp2_with fail
      refine (markTextC (q + 1 + 1) _ (by omega) (by omega)).mono ?_
      rintro e w2 ⟨rfl, hg2⟩
      first | (have hg2' : W1.grownBy w2 none := hg2) | (have hg2' : W1.grownBy w2 none := by rw [← hW1]; exact hg2)
      have hown2 := own_none HS1.out hg2'
      obtain ⟨u2, d2⟩ : ∃ u, w2.cell? ⟨g, m * 4 + 2, none⟩ = some u := by
        rw [hown2.cellAt (m * 4 + 2) (by omega), List.getElem?_set_ne (by omega), List.getElem?_set_ne (by omega), v2]; exact ⟨_, rfl⟩
      have e2 := hown2.frozenAt (m * 4 + 2)
      have hs3 := hown2.stored (m * 4 + 2) (.string ⟨(markL (q + 1 + 1)).toArray⟩)
      have HS3 : Hid ((w2.setCell ⟨g, m * 4 + 2, none⟩ (.string ⟨(markL (q + 1 + 1)).toArray⟩)).ownsRow base 30 4 (.slice (some ⟨g, 0, none⟩) n cp) n (((xs.set (m * 4) (.int .i64 (q : Int))).set (m * 4 + 1) (.int .i64 ((q + 1 : Nat) : Int))).set (m * 4 + 2) (.string ⟨(markL (q + 1 + 1)).toArray⟩))) := hs3.1
      have HG3 : Hid (w.grownBy (w2.setCell ⟨g, m * 4 + 2, none⟩ (.string ⟨(markL (q + 1 + 1)).toArray⟩)) (some g)) := (HG1.out.andThen hg2' (by simp)).trans hs3.2
      clear hs3 hown2 hg2 hg2' hown hg HS1 HG1 d0 d1 e0 e1 v0 v1 v2
      go_wp2_with fail
      refine (markTextC (q + 1 + 1 + 1) _ (by omega) (by omega)).mono ?_
      rintro e w4 ⟨rfl, hg4⟩
      have hown4 := own_none HS3.out hg4
      obtain ⟨u3, d3⟩ : ∃ u, w4.cell? ⟨g, m * 4 + 3, none⟩ = some u := by
        rw [hown4.cellAt (m * 4 + 3) (by omega), List.getElem?_set_ne (by omega), List.getElem?_set_ne (by omega), List.getElem?_set_ne (by omega), v3]; exact ⟨_, rfl⟩
      have e3 := hown4.frozenAt (m * 4 + 3)
      have hs5 := hown4.stored (m * 4 + 3) (.string ⟨(markL (q + 1 + 1 + 1)).toArray⟩)
      rw [HSET.out] at hs5
      have hg5 := (HG3.out.andThen hg4 (by simp)).trans hs5.2
      have hs6 := hs5.1
      clear hown4 hs5 hg4 HS3 HG3 HSET v3 d2 e2
      go_wp2
      go_roundw
      case rel => exact ⟨m + 1, by omega, by go_num, by rw [HQ2.out]; go_num, hs6, hg5⟩
      case measure => simp [intOf]; omega
    · obtain rfl : m = n := by omega
      have hd : ns.drop m = [] := List.drop_eq_nil_of_le (by omega)
      rw [hd, List.append_nil] at hown
      clear hd
      go_wp2
      go_ret
      exact ⟨rfl, hown, hg⟩

set_option maxHeartbeats 1000000 in
set_option maxRecDepth 100000 in
theorem markNodeSNil (w : World) (k0 : Nat) :
    Calls Try.prog 31 #[.slice none 0 0, .int .i64 k0] w fun e w' => e = .returned (.int .i64 (k0 : Int)) ∧ w' = w := by
  go_enter Try.func31, Try.ntmps31
  go_wp2
  refine wp_loop_rounds 1 ?_
  rw [rounds_succ]
  go_wp2
  go_ret
  exact ⟨rfl, rfl⟩

theorem markNodeSV (w : World) (base n k0 : Nat) (v : Value) (ns : List Nd) (hn : n ≤ 1100000) (hk0 : 0 < k0) (hk1 : k0 ≤ 30000000) (h : w.ownsRow base 30 4 v n (nodesV ns)) :
    Calls Try.prog 31 #[v, .int .i64 k0] w fun e w' => e = .returned (.int .i64 ((k0 + 4 * n : Nat) : Int)) ∧ w'.ownsRow base 30 4 v n (nodesV (marksN k0 n)) ∧ w.grownBy w' v.ownBlock := by
  rcases own_forms h with ⟨rfl, rfl, _⟩ | ⟨g, cp, rfl⟩
  · refine (markNodeSNil w k0).mono ?_
    rintro e w' ⟨rfl, rfl⟩
    exact ⟨rfl, World.ownsRow_nil _ _ _ _, World.grownBy.refl _ _⟩
  · exact markNodeSC w base g cp n k0 ns hn hk0 hk1 h


end Go.Proofs.Ytnpbckgaeaameaa
