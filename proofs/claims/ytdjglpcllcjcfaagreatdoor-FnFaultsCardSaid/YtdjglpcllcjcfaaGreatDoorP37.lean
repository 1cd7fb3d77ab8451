/-
  Parts of one proof, one behind the other: LawF.
-/
import Derived.Test.YtdjglpcllcjcfaaGreatDoorP36
import Derived.Test.YtdjglpcllcjcfaaGreatDoorP20
import Derived.Test.YtdjglpcllcjcfaaGreatDoorP33
import Derived.Test.YtdjglpcllcjcfaaGreatDoorP34
import Derived.Test.YtdjglpcllcjcfaaGreatDoorP35
import Derived.Test.YtdjglpcllcjcfaaGreatDoorP22

/-! FnFaults, whole. -/
namespace Go.Proofs.YtdjglpcllcjcfaaGreatDoor
open Go.RowKit

/-- The function that is looked for at the end. -/
def hitM (ps : List Pk) (q m : Nat) : Prop := (ps.getD q pk0).1 = mainT ∧ ((ps.getD q pk0).2.2.getD m fn0).1 = mainT ∧ ((ps.getD q pk0).2.2.getD m fn0).2.1 = 1
def M9 (ps : List Pk) (i k : Nat) : Prop := ∃ q m, (q < i ∧ m < (ps.getD q pk0).2.2.length ∨ q = i ∧ m < k) ∧ hitM ps q m
theorem m9_zero (ps : List Pk) : M9 ps 0 0 → false = true := fun ⟨q, m, h, _⟩ => by omega
theorem m9_step {ps : List Pk} {i k : Nat} {mb : Bool} (h : M9 ps i k → mb = true) : M9 ps i (k + 1) → mb = true ∨ hitM ps i k := by
  rintro ⟨q, m, h1 | ⟨rfl, h1⟩, h2⟩
  · exact Or.inl (h ⟨q, m, Or.inl h1, h2⟩)
  · rcases Nat.lt_or_ge m k with h3 | h3
    · exact Or.inl (h ⟨q, m, Or.inr ⟨rfl, h3⟩, h2⟩)
    · obtain rfl : m = k := by omega
      exact Or.inr h2
theorem m9_next {ps : List Pk} {i k : Nat} (hk : (ps.getD i pk0).2.2.length = k) : M9 ps (i + 1) 0 → M9 ps i k := by
  rintro ⟨q, m, ⟨h1, h3⟩ | ⟨rfl, h1⟩, h2⟩
  · rcases Nat.lt_or_ge q i with h4 | h4
    · exact ⟨q, m, Or.inl ⟨h4, h3⟩, h2⟩
    · obtain rfl : q = i := by omega
      exact ⟨q, m, Or.inr ⟨rfl, by omega⟩, h2⟩
  · omega
theorem getD_in {α : Type} {l : List α} {d : α} {k : Nat} (hk : k < l.length) : l.getD k d ∈ l := by
  rw [show l.getD k d = l[k] by simp [List.getD, hk]]; exact List.getElem_mem hk
theorem pk_in {ps : List Pk} {i : Nat} (hi : i < ps.length) : ps.getD i pk0 ∈ ps := by
  rw [show ps.getD i pk0 = ps[i] by simp [List.getD, hi]]; exact List.getElem_mem hi
theorem zero9 {ps : List Pk} {c : Int} {p g : List UInt8} (hF : faultV ps = (c, p, g)) (h0 : c = 0) : p = [] ∧ g = [] ∧ projB ps = true ∧ (orderV ps).length = ps.length ∧ (∀ i, i < ps.length → ∀ m ∈ (ps.getD i pk0).2.1, (reachV ps m).length ≠ 0) ∧
    (∀ i, i < ps.length → ∀ k, k < (ps.getD i pk0).2.2.length → ∀ n ∈ ((ps.getD i pk0).2.2.getD k fn0).2.2, ¬ arg9 ((ps.getD i pk0).2.2.getD k fn0) n ∧ (n.1 = 8 → callV ps (ps.getD i pk0).1 (k : Int) n = 0)) ∧ M9 ps ps.length 0 := by
  obtain ⟨e, hp, ho, him, hfn, hm⟩ := faultV_zero (ps := ps) (by rw [hF]; exact h0)
  rw [hF] at e
  injection e with _ e
  injection e with e1 e2
  refine ⟨e1, e2, hp, ?_, fun i hi m hm h => ?_, fun i hi k hk n hn => callV_of hp (pk_in hi) hk hn (hfn _ (pk_in hi) k hk), ?_⟩
  · unfold orderV; rw [if_pos hp]; exact ho
  · have h1 := him _ (pk_in hi) m hm
    unfold reachV at h
    rw [if_pos (by unfold hereB; rw [hp, Bool.true_and, decide_eq_true_eq]; exact (at8_mem ps m).2 h1)] at h
    have h2 := (reach8_end h1).1.self
    rw [List.length_eq_zero_iff.1 h] at h2
    cases h2
  · obtain ⟨h1, h2, h3⟩ := hm
    have hmem := (at8_mem ps mainT).1 h1
    have hpk := pkOf_mem hmem
    obtain ⟨q, hq, e⟩ := List.mem_iff_getElem.1 hpk.1
    have e5 : ps.getD q pk0 = pkOf ps mainT := by rw [← e]; simp [List.getD, hq]
    rcases at7_is (pkOf ps mainT).2.2 mainT with e3 | ⟨m, hm, e3, e4⟩
    · omega
    · refine ⟨q, m, Or.inl ⟨hq, by rw [e5]; exact hm⟩, ?_⟩
      unfold hitM
      rw [e5]
      refine ⟨hpk.2, e4, ?_⟩
      rw [e3] at h3
      exact h3
theorem law9 {ps : List Pk} {c : Int} {p g : List UInt8} (hF : faultV ps = (c, p, g)) (h0 : ¬ c = 0) : (1 ≤ c ∧ c ≤ 2 ∧ g = [] ∧ projB ps = true) ∨ (3 ≤ c ∧ c ≤ 5 ∧ (∃ z zs, g = z :: zs) ∧ projB ps = true) ∨ (c = 6 ∧ g = [] ∧ projB ps = false) := by
  have h := faultV_law ps (by rw [hF]; exact h0)
  rw [hF] at h
  obtain ⟨h1, h2, h3, h4⟩ := h
  simp only at h1 h2 h3 h4
  have hp : c ≠ 6 → projB ps = true := fun e => by rcases hb : projB ps with _ | _; exact absurd (h3.2 hb) e; rfl
  have hg : ¬ (3 ≤ c ∧ c ≤ 5) → g = [] := fun e => Decidable.byContradiction fun e2 => e (h4.1 e2)
  have hz : (3 ≤ c ∧ c ≤ 5) → ∃ z zs, g = z :: zs := fun e => List.exists_cons_of_ne_nil (h4.2 e)
  have : (1 ≤ c ∧ c ≤ 2) ∨ (3 ≤ c ∧ c ≤ 5) ∨ c = 6 := by omega
  rcases this with e | e | e
  · exact Or.inl ⟨e.1, e.2, hg (by omega), hp (by omega)⟩
  · exact Or.inr (Or.inl ⟨e.1, e.2, hz e, hp (by omega)⟩)
  · exact Or.inr (Or.inr ⟨e, hg (by omega), h3.1 e⟩)
theorem exports_law (p : Pk) (h : pkgB p = true) : (exportsV p).length = p.2.2.length := by
  unfold exportsV; rw [if_pos h]; unfold exports9; rw [List.length_map]

set_option maxHeartbeats 16000000 in
set_option maxRecDepth 100000 in
theorem lawFaults (w : World) (a : Option Addr) (len cap : Nat) (hcode : Code w w.heap.size a len) (er : Nat → Addr) (hT : Err8 w er) (hP : PowIs w) :
    Calls Tryz.prog 3 #[.slice a len cap] w fun e w' => e = .returned (.bool true) ∧ Below w.heap.size w w' := by
  by_cases hbig : 4096 < (len : Int)
  · have hd : decide (4096 < (len : Int)) = true := decide_eq_true hbig
    go_enter Tryz.func3, Tryz.ntmps3
    go_wp2_with (go_at_call 5; refine (bigB _ _ _ _).mono ?_; rintro e w' ⟨rfl, rfl⟩)
    go_ret
    exact ⟨rfl, Below.refl _ _⟩
  · have hd : decide (4096 < (len : Int)) = false := decide_eq_false hbig
    go_enter Tryz.func3, Tryz.ntmps3
    go_wp2_with fail
    refine (bigB _ _ _ _).mono ?_
    rintro e w1 ⟨rfl, hw1⟩
    obtain rfl := hw1.symm
    go_wp2_with fail
    refine (drawFaultOf9 _ _ _ _ (by omega) hcode).mono ?_
    rintro e w2 ⟨v, rfl, la, n, lc, ps, rfl, hn, hok, hB2⟩
    obtain rfl : ps.length = n := hok.hlen
    have HT : Hid (Err8 w er) := hT
    have HPW : Hid (PowIs w) := hP
    clear hT hP
    have HIm : Hid (∀ Z, Err8 Z er → PkgsOk Z la ps.length lc ps → Calls Tryz.prog 7 #[.slice la ps.length lc] Z fun e w' => e = .returned (fltVal (faultV ps)) ∧ Below Z.heap.size Z w') := fun Z hy hz => implFaultOf la ps.length lc ps er Z hy hz
    have HSp : Hid (∀ Z, PkgsOk Z la ps.length lc ps → Calls Tryz.prog 10 #[.slice la ps.length lc] Z fun e w' => e = .returned (fltVal (faultV ps)) ∧ Below Z.heap.size Z w') := fun Z hz => specFaultOf la ps.length lc ps Z hz.in hz.small hz.short
    have HPj : Hid (∀ Z, PkgsOk Z la ps.length lc ps → Calls Tryz.prog 14 #[.slice la ps.length lc] Z fun e w' => e = .returned (.bool (projB ps)) ∧ Below Z.heap.size Z w') := fun Z hz => specProjectOk la ps.length lc ps Z hz.in hz.small hz.short
    obtain ⟨F, hF⟩ : ∃ F, faultV ps = F := ⟨_, rfl⟩
    obtain ⟨cF, pF, gF⟩ := F
    have HLaw : Hid (¬ cF = 0 → _) := law9 hF
    have HZer : Hid (cF = 0 → _) := zero9 hF
    rw [hF] at HIm HSp
    unfold fltVal at HIm HSp
    simp only at HIm HSp
    clear hF
    go_wp2_with fail
    refine Calls.mono (HIm.out _ (HT.out.below hB2) hok) ?_
    rintro e w3 ⟨rfl, hb3⟩
    obtain ⟨bF, hbF⟩ := Box3.new w3 (.int .i64 cF) (.string ⟨pF.toArray⟩) (.string ⟨gF.toArray⟩) 27
    obtain ⟨W3, hW3⟩ : ∃ W3, w3.alloc (.cells #[.int .i64 cF, .string ⟨pF.toArray⟩, .string ⟨gF.toArray⟩] 27) = W3 := ⟨_, rfl⟩
    obtain ⟨D, hD⟩ : ∃ D, w3.heap.size = D := ⟨_, rfl⟩
    rw [hW3] at bF hbF
    rw [hD] at bF
    have hB3 : Below w.heap.size w w3 := hB2.trans (hb3.mono hB2.size)
    have hBW3 : Below w.heap.size w W3 := hB3.trans (hbF.mono hB3.size)
    have hok3 := (hok.below hb3).below hbF
    have hcode3 := code_grown hcode (Below.by hBW3)
    clear hok hcode hB2 hb3 hB3 hbF HIm
    go_wp2_with fail
    refine (drawExports9 _ _ _ _ (by omega) hcode3).mono ?_
    rintro e w4 ⟨v, nm, ims, xs, rfl, hd7, hb4⟩
    obtain ⟨ia, ic, fa, fcp, rfl, hpk⟩ := hd7.ok
    clear hd7
    generalize xs.map (·.1) = fs at hpk ⊢
    have hok4 := hok3.below hb4
    have bF4 := bF.below hb4
    have hB4 : Below w.heap.size w w4 := hBW3.trans (hb4.mono hBW3.size)
    obtain ⟨bP, hbP⟩ := Box3.new w4 (.string ⟨nm.toArray⟩) (.slice ia ims.length ic) (.slice fa fs.length fcp) 32
    obtain ⟨W4, hW4⟩ : ∃ W4, w4.alloc (.cells #[.string ⟨nm.toArray⟩, .slice ia ims.length ic, .slice fa fs.length fcp] 32) = W4 := ⟨_, rfl⟩
    obtain ⟨E, hE⟩ : ∃ E, w4.heap.size = E := ⟨_, rfl⟩
    rw [hW4] at bP hbP
    rw [hE] at bP
    have hpk4 := hpk.below hbP
    have hok5 := hok4.below hbP
    have bF5 := bF4.below hbP
    have hB5 : Below w.heap.size w W4 := hB4.trans (hbP.mono hB4.size)
    have p0 := bP.c0
    have p1 := bP.c1
    have p2 := bP.c2
    clear hok3 hcode3 hBW3 hb4 hpk hok4 bF bF4 hB4 hbP
    have HSe : Hid (∀ Z, PkOk Z nm ia ims.length ic fa fs.length fcp ims fs → Calls Tryz.prog 12 #[.agg #[.string ⟨nm.toArray⟩, .slice ia ims.length ic, .slice fa fs.length fcp]] Z fun e w' => ∃ v, e = .returned v ∧ w'.ownsRow Z.heap.size 9 1 v (exportsV (nm, ims, fs)).length (strV (exportsV (nm, ims, fs))) ∧ Below Z.heap.size Z w') := fun Z hz => specExports nm ia _ ic fa _ fcp ims fs Z hz.i hz.f hz.il hz.fl hz.nm hz.is hz.fs
    have HSk : Hid (∀ Z, PkOk Z nm ia ims.length ic fa fs.length fcp ims fs → Calls Tryz.prog 13 #[.agg #[.string ⟨nm.toArray⟩, .slice ia ims.length ic, .slice fa fs.length fcp]] Z fun e w' => e = .returned (.bool (pkgB (nm, ims, fs))) ∧ Below Z.heap.size Z w') := fun Z hz => specPackageOk nm ia _ ic fa _ fcp ims fs Z hz.i hz.f hz.il hz.fl hz.nm hz.is hz.fs
    have HEx : Hid (pkgB (nm, ims, fs) = true → (exportsV (nm, ims, fs)).length = fs.length) := exports_law (nm, ims, fs)
    have hexl := exportsV_len (nm, ims, fs)
    go_wp2_with fail
    refine (implExports nm ia _ ic fa _ fcp ims fs _ (HPW.out.below hB5) hpk4).mono ?_
    rintro e V ⟨v5, rfl, ho5, hb5⟩
    obtain ⟨ex, hex⟩ : ∃ ex, exportsV (nm, ims, fs) = ex := ⟨_, rfl⟩
    obtain ⟨pb, hpb⟩ : ∃ pb, pkgB (nm, ims, fs) = pb := ⟨_, rfl⟩
    rw [hex] at HSe HEx hexl ho5
    rw [hpb] at HSk HEx
    obtain ⟨_, ea, ec, rfl, hin⟩ := own_texts ho5
    have HZ : Hid (∀ Z, Below V.heap.size V Z → (Z.cell? ⟨D, 0, none⟩ = some (.int .i64 cF) ∧ Z.cell? ⟨D, 1, none⟩ = some (.string ⟨pF.toArray⟩) ∧ Z.cell? ⟨D, 2, none⟩ = some (.string ⟨gF.toArray⟩)) ∧ (Z.cell? ⟨E, 0, none⟩ = some (.string ⟨nm.toArray⟩) ∧ Z.cell? ⟨E, 1, none⟩ = some (.slice ia ims.length ic) ∧ Z.cell? ⟨E, 2, none⟩ = some (.slice fa fs.length fcp)) ∧ PkgsOk Z la ps.length lc ps ∧ PkOk Z nm ia ims.length ic fa fs.length fcp ims fs ∧ TextsIn Z ea ex.length ex ∧ Below w.heap.size w Z) := fun Z hz =>
      have b1 := (bF5.below hb5).below hz
      have b2 := (bP.below hb5).below hz
      ⟨⟨b1.c0, b1.c1, b1.c2⟩, ⟨b2.c0, b2.c1, b2.c2⟩, (hok5.below hb5).below hz, (hpk4.below hb5).below hz, hin.below hz, (hB5.trans (hb5.mono hB5.size)).trans (hz.mono (hB5.trans (hb5.mono hB5.size)).size)⟩
    have HB : Hid (Below V.heap.size V V) := Below.refl _ _
    clear ho5 hb5 hin bF5 bP p0 p1 p2 hok5 hpk4 hB5 hex hpb
    obtain ⟨⟨d0, d1, d2⟩, ⟨p0, p1, p2⟩, hok5, -, -, -⟩ := HZ.out V HB.out
    go_upto_region 7 with fail
    refine wp_region_held_drew (S := (fun w' => (w'.cell? ⟨D, 0, none⟩ = some (.int .i64 cF) ∧ w'.cell? ⟨D, 1, none⟩ = some (.string ⟨pF.toArray⟩) ∧ w'.cell? ⟨D, 2, none⟩ = some (.string ⟨gF.toArray⟩)) ∧ (w'.cell? ⟨E, 0, none⟩ = some (.string ⟨nm.toArray⟩) ∧ w'.cell? ⟨E, 1, none⟩ = some (.slice ia ims.length ic) ∧ w'.cell? ⟨E, 2, none⟩ = some (.slice fa fs.length fcp)))) (by kernel_rfl) ?_ (fun hHeld => ?_)
    · first | (dsimp only; done) | (dsimp only; go_keep) | go_keep
    replace HB : Hid (Below V.heap.size V V.drew) := ⟨rfl, rfl, rfl, Nat.le_refl _, fun _ _ => rfl⟩
    replace hok5 := (HZ.out _ HB.out).2.2.1
    refine wpAnyH_take (i := 0) (oi := ⟨some 23, _, _, _, _, _⟩) (v := ?vs0) rfl (by kernel_rfl) (by kernel_rfl) (by kernel_rfl) (fun _ _ _ h => h) (Or.inl ⟨by rfl, ?hys0⟩) (by assumption) ?rests0
    case hys0 => (intro wq hSw; (try dsimp only at hSw); first | (go_simp; done) | (go_simp; with_reducible rfl))
    simp only [Act.put, List.setIfInBounds_toArray, List.set_cons_zero, List.set_cons_succ]
    refine wpAnyH_take (i := 1) (oi := ⟨some 24, _, _, _, _, _⟩) (v := ?vs1) rfl (by kernel_rfl) (by kernel_rfl) (by kernel_rfl) (fun _ _ _ h => h) (Or.inl ⟨by rfl, ?hys1⟩) (by assumption) ?rests1
    case hys1 => (intro wq hSw; (try dsimp only at hSw); first | (go_simp; done) | (go_simp; with_reducible rfl))
    simp only [Act.put, List.setIfInBounds_toArray, List.set_cons_zero, List.set_cons_succ]
    refine wpAnyH_ready (rs := [2]) (by kernel_rfl) (by simp) ?_
    refine AllReadyH.cons rfl (fun K hK => ?_) AllReadyH.nil
    go_simp
    (go_at_call 10; refine Calls.mono (HSp.out _ hok5) ?_; rintro e wn ⟨rfl, hbn⟩; replace HB : Hid (Below V.heap.size V wn) := HB.out.trans (hbn.mono HB.out.size); clear d0 d1 d2 p0 p1 p2; obtain ⟨⟨d0, d1, d2⟩, ⟨p0, p1, p2⟩, hok6, hpk6, -, -⟩ := HZ.out wn HB.out; clear hbn)
    refine hK.out _ _ ?_ (fun hHeld => ?_)
    · first | (dsimp only; done) | (dsimp only; go_keep) | go_keep
    clear hK K
    refine wpAnyH_take (i := 3) (oi := ⟨some 26, _, _, _, _, _⟩) (v := .bool false) rfl (by kernel_rfl) (by kernel_rfl) (by kernel_rfl) (fun _ _ _ h => h) (Or.inl ⟨by rfl, ?hys3⟩) (by assumption) ?rests3
    case hys3 => (intro wq hSw; (try dsimp only at hSw); go_simp; (first | done | simp | assumption | simp_all))
    simp only [Act.put, List.setIfInBounds_toArray, List.set_cons_zero, List.set_cons_succ]
    refine wpAnyH_take (i := 4) (oi := ⟨some 27, _, _, _, _, _⟩) (v := ?vs4) rfl (by kernel_rfl) (by kernel_rfl) (by kernel_rfl) (fun _ _ _ h => h) (Or.inl ⟨by rfl, ?hys4⟩) (by assumption) ?rests4
    case hys4 => (intro wq hSw; (try dsimp only at hSw); first | (go_simp; done) | (go_simp; with_reducible rfl))
    simp only [Act.put, List.setIfInBounds_toArray, List.set_cons_zero, List.set_cons_succ]
    refine wpAnyH_take (i := 5) (oi := ⟨some 28, _, _, _, _, _⟩) (v := ?vs5) rfl (by kernel_rfl) (by kernel_rfl) (by kernel_rfl) (fun _ _ _ h => h) (Or.inl ⟨by rfl, ?hys5⟩) (by assumption) ?rests5
    case hys5 => (intro wq hSw; (try dsimp only at hSw); first | (go_simp; done) | (go_simp; with_reducible rfl))
    simp only [Act.put, List.setIfInBounds_toArray, List.set_cons_zero, List.set_cons_succ]
    refine wpAnyH_take (i := 6) (oi := ⟨some 29, _, _, _, _, _⟩) (v := ?vs6) rfl (by kernel_rfl) (by kernel_rfl) (by kernel_rfl) (fun _ _ _ h => h) (Or.inl ⟨by rfl, ?hys6⟩) (by assumption) ?rests6
    case hys6 => (intro wq hSw; (try dsimp only at hSw); first | (go_simp; done) | (go_simp; with_reducible rfl))
    simp only [Act.put, List.setIfInBounds_toArray, List.set_cons_zero, List.set_cons_succ]
    refine wpAnyH_ready (rs := [7]) (by kernel_rfl) (by simp) ?_
    refine AllReadyH.cons rfl (fun K hK => ?_) AllReadyH.nil
    go_simp
    (go_at_call 12; refine Calls.mono (HSe.out _ hpk6) ?_; rintro e wn ⟨v6, rfl, ho6, hbn⟩; replace HB : Hid (Below V.heap.size V wn) := HB.out.trans (hbn.mono HB.out.size); clear d0 d1 d2 p0 p1 p2; obtain ⟨⟨d0, d1, d2⟩, ⟨p0, p1, p2⟩, -, -, hin6, -⟩ := HZ.out wn HB.out; obtain ⟨_, ea6, ec6, rfl, hin7⟩ := own_texts ho6; clear hbn ho6)
    refine hK.out _ _ ?_ (fun hHeld => ?_)
    · first | (dsimp only; done) | (dsimp only; go_keep) | go_keep
    clear hK K
    refine wpAnyH_ready (rs := [8]) (by kernel_rfl) (by simp) ?_
    refine AllReadyH.cons rfl (fun K hK => ?_) AllReadyH.nil
    go_simp
    (go_at_call 11; refine Calls.mono (likeTexts8 ea ea6 ex.length ec ec6 ex _ hin6 hin7 (by omega)) ?_; rintro e wn ⟨rfl, hbn⟩; replace HB : Hid (Below V.heap.size V wn) := HB.out.trans (hbn.mono HB.out.size); clear d0 d1 d2 p0 p1 p2; obtain ⟨⟨d0, d1, d2⟩, ⟨p0, p1, p2⟩, -, -, -, -⟩ := HZ.out wn HB.out; clear hbn)
    refine hK.out _ _ ?_ (fun hHeld => ?_)
    · first | (dsimp only; done) | (dsimp only; go_keep) | go_keep
    clear hK K
    refine wpAnyH_take (i := 9) (oi := ⟨some 32, _, _, _, _, _⟩) (v := ?vs9) rfl (by kernel_rfl) (by kernel_rfl) (by kernel_rfl) (fun _ _ _ h => h) (Or.inl ⟨by rfl, ?hys9⟩) (by assumption) ?rests9
    case hys9 => (intro wq hSw; (try dsimp only at hSw); first | (go_simp; done) | (go_simp; with_reducible rfl))
    simp only [Act.put, List.setIfInBounds_toArray, List.set_cons_zero, List.set_cons_succ]
    refine wpAnyH_take (i := 10) (oi := ⟨some 33, _, _, _, _, _⟩) (v := .bool false) rfl (by kernel_rfl) (by kernel_rfl) (by kernel_rfl) (fun _ _ _ h => h) (Or.inl ⟨by rfl, ?hys10⟩) (by assumption) ?rests10
    case hys10 => (intro wq hSw; (try dsimp only at hSw); go_simp; (first | done | simp | assumption | simp_all))
    simp only [Act.put, List.setIfInBounds_toArray, List.set_cons_zero, List.set_cons_succ]
    refine wpAnyH_done (by kernel_rfl) ?_ _
    clear d0 d1 d2 p0 p1 p2
    obtain ⟨-, ⟨p0, p1, p2⟩, -, hpk8, -, -⟩ := HZ.out _ HB.out
    go_upto_region 9 with fail
    go_cut [43] from 34 (fun v wx => v = .bool false ∧ Hid (Below V.heap.size V wx))
    case first =>
      rcases pb with _ | _
      · go_wp2_with fail
        refine Calls.mono (HSk.out _ hpk8) ?_
        rintro e wn ⟨rfl, hbn⟩
        have HB2 : Hid (Below V.heap.size V wn) := HB.out.trans (hbn.mono HB.out.size)
        clear hbn HB
        go_wp2
        go_meet
        case rel => exact ⟨rfl, HB2⟩
      · have hl : ex.length = fs.length := HEx.out rfl
        have hne : ((ex.length : Int) != (fs.length : Int)) = false := by rw [hl]; simp
        clear hl
        go_wp2_with fail
        refine Calls.mono (HSk.out _ hpk8) ?_
        rintro e wn ⟨rfl, hbn⟩
        have HB2 : Hid (Below V.heap.size V wn) := HB.out.trans (hbn.mono HB.out.size)
        clear hbn HB p0 p1 p2
        obtain ⟨-, ⟨p0, p1, p2⟩, -, -, -, -⟩ := HZ.out wn HB2.out
        go_wp2
        go_meet
        case rel => exact ⟨rfl, HB2⟩
    case rest =>
    obtain ⟨rfl, HB⟩ := hcut
    rename World => wy
    clear p0 p1 p2 hpk8 HSe HSk HEx
    obtain ⟨⟨d0, d1, d2⟩, -, -, -, -, -⟩ := HZ.out wy HB.out
    by_cases hc0 : cF = 0
    rotate_left
    · have h := HLaw.out hc0
      clear HLaw HZer
      rcases h with hA | hB | hC
      · obtain ⟨hlo, hhi, rfl, hpj⟩ := hA
        have hz0 : (cF != 0) = true := by rw [bne_iff_ne]; exact hc0
        rw [hpj] at HPj
        clear hpj
        go_upto_region 12 with fail
        refine faults12A _ _ _ _ _ _ _ _ _ _ _ _ _ _ _ _ _ _ _ _ _ _ _ _ _ _ _ _ _ _ _ _ _ _ _ _ _ _ _ _ _ _ _ _ _ _ _ _ _ _ _ _ _ _ _ _ _ _ _ _ _ _ _ _ _ _ _ _ _ _ _ _ _ _ _ _ _ _ _ _ _ _ _ _ _ _ _ _ _ _ _ _ _ _ _ _ _ _ _ _ _ _ _ _ _ _ _ _ _ _ _ _ _ _ _ _ _ _ _ _ _ _ _ _ _ _ _ _ _ _ _ _ _ _ _ _ _ _ _ _ _ _ _ _ _ _ _ _ _ _ _ _ _ _ _ _ _ _ _ _ _ _ _ _ _ _ _ _ _ _ _ _ _ _ _ _ _ _ _ _ _ _ _ _ _ _ _ _ _ _ _ _ _ _ _ _ _ _ _ _ _ _ _ la lc D ps cF pF hlo hhi V wy HPj (fun Z hz => ⟨(HZ.out Z hz).1, (HZ.out Z hz).2.2.1⟩) HB _ (fun _ _ _ _ _ h => h) ?_
        intro u47 u48 u49 u50 u51 u52 u53 u54 u55 u56 u57 u58 u59 u60 u61 u62 u63 u64 u65 u66 u67 u68 u69 u70 u71 u72 u73 u74 u75 u76 u77 w12 hb12
        have HE := (HZ.out _ hb12).2.2.2.2.2
        clear hb12
        go_wp2
        go_ret
        exact ⟨rfl, HE⟩
      · obtain ⟨hlo, hhi, ⟨z, zs, rfl⟩, hpj⟩ := hB
        have hz0 : (cF != 0) = true := by rw [bne_iff_ne]; exact hc0
        rw [hpj] at HPj
        clear hpj
        go_upto_region 12 with fail
        refine faults12B _ _ _ _ _ _ _ _ _ _ _ _ _ _ _ _ _ _ _ _ _ _ _ _ _ _ _ _ _ _ _ _ _ _ _ _ _ _ _ _ _ _ _ _ _ _ _ _ _ _ _ _ _ _ _ _ _ _ _ _ _ _ _ _ _ _ _ _ _ _ _ _ _ _ _ _ _ _ _ _ _ _ _ _ _ _ _ _ _ _ _ _ _ _ _ _ _ _ _ _ _ _ _ _ _ _ _ _ _ _ _ _ _ _ _ _ _ _ _ _ _ _ _ _ _ _ _ _ _ _ _ _ _ _ _ _ _ _ _ _ _ _ _ _ _ _ _ _ _ _ _ _ _ _ _ _ _ _ _ _ _ _ _ _ _ _ _ _ _ _ _ _ _ _ _ _ _ _ _ _ _ _ _ _ _ _ _ _ _ _ _ _ _ _ _ _ _ _ _ _ _ _ _ la lc D ps cF pF z zs hlo hhi V wy HPj (fun Z hz => ⟨(HZ.out Z hz).1, (HZ.out Z hz).2.2.1⟩) HB _ (fun _ _ _ _ _ h => h) ?_
        intro u47 u48 u49 u50 u51 u52 u53 u54 u55 u56 u57 u58 u59 u60 u61 u62 u63 u64 u65 u66 u67 u68 u69 u70 u71 u72 u73 u74 u75 u76 u77 w12 hb12
        have HE := (HZ.out _ hb12).2.2.2.2.2
        clear hb12
        go_wp2
        go_ret
        exact ⟨rfl, HE⟩
      · obtain ⟨rfl, rfl, hpj⟩ := hC
        rw [hpj] at HPj
        clear hpj
        go_upto_region 12 with fail
        refine faults12C _ _ _ _ _ _ _ _ _ _ _ _ _ _ _ _ _ _ _ _ _ _ _ _ _ _ _ _ _ _ _ _ _ _ _ _ _ _ _ _ _ _ _ _ _ _ _ _ _ _ _ _ _ _ _ _ _ _ _ _ _ _ _ _ _ _ _ _ _ _ _ _ _ _ _ _ _ _ _ _ _ _ _ _ _ _ _ _ _ _ _ _ _ _ _ _ _ _ _ _ _ _ _ _ _ _ _ _ _ _ _ _ _ _ _ _ _ _ _ _ _ _ _ _ _ _ _ _ _ _ _ _ _ _ _ _ _ _ _ _ _ _ _ _ _ _ _ _ _ _ _ _ _ _ _ _ _ _ _ _ _ _ _ _ _ _ _ _ _ _ _ _ _ _ _ _ _ _ _ _ _ _ _ _ _ _ _ _ _ _ _ _ _ _ _ _ _ _ _ _ _ _ _ la lc D ps pF V wy HPj (fun Z hz => ⟨(HZ.out Z hz).1, (HZ.out Z hz).2.2.1⟩) HB _ (fun _ _ _ _ _ h => h) ?_
        intro u47 u48 u49 u50 u51 u52 u53 u54 u55 u56 u57 u58 u59 u60 u61 u62 u63 u64 u65 u66 u67 u68 u69 u70 u71 u72 u73 u74 u75 u76 u77 w12 hb12
        have HE := (HZ.out _ hb12).2.2.2.2.2
        clear hb12
        go_wp2
        go_ret
        exact ⟨rfl, HE⟩
    obtain ⟨rfl, rfl, hpj, hor, him, hfn, hmain⟩ := HZer.out hc0
    subst hc0
    have HOr : Hid (∀ Z, PkgsOk Z la ps.length lc ps → Calls Tryz.prog 15 #[.slice la ps.length lc] Z fun e w' => ∃ v, e = .returned v ∧ w'.ownsRow Z.heap.size 9 1 v ps.length (strV (orderV ps)) ∧ Below Z.heap.size Z w') := fun Z hz => by
      have h := specOrder la ps.length lc ps Z hz.in hz.small hz.short
      rw [hor] at h
      exact h
    have HIm : Hid (_) := him
    have HFn : Hid (_) := hfn
    have HMain : Hid (_) := hmain
    have hself : ((ps.length : Int) != (ps.length : Int)) = false := by simp
    obtain ⟨-, -, hok7, -, -, -⟩ := HZ.out wy HB.out
    clear HLaw HZer hpj hor him hfn hmain HSp
    go_wp2_with fail
    refine Calls.mono (HOr.out _ hok7) ?_
    rintro e wq ⟨v, rfl, ho, hbn⟩
    obtain ⟨_, oa, oc, rfl, -⟩ := own_texts ho
    replace HB : Hid (Below V.heap.size V wq) := HB.out.trans (hbn.mono HB.out.size)
    clear hbn ho HOr hok7 d0 d1 d2
    go_wp2
    go_loopw [7, 8] (fun mv iv wx => ∃ (i : Nat) (mb : Bool), mv = .bool mb ∧ iv = .int .i64 (i : Int) ∧ i ≤ ps.length ∧ Hid (M9 ps i 0 → mb = true) ∧ Hid (Below V.heap.size V wx)) (fun _ iv _ => ps.length - (intOf iv).toNat)
    case atStart => exact ⟨0, false, rfl, rfl, by omega, m9_zero ps, HB⟩
    case round =>
      obtain ⟨i, mb, rfl, rfl, hi, HM, HB⟩ := hrel
      by_cases hil : (i : Int) < (ps.length : Int)
      · have hi2 : i < ps.length := by omega
        have HIm2 : Hid (∀ m ∈ (ps.getD i pk0).2.1, (reachV ps m).length ≠ 0) := HIm.out i hi2
        have HFn2 : Hid (_) := HFn.out i hi2
        obtain ⟨iq, hiq⟩ : ∃ iq, (ps.getD i pk0).2.1.length = iq := ⟨_, rfl⟩
        have HIQ : Hid ((ps.getD i pk0).2.1.length = iq) := hiq
        obtain ⟨fq, hfq⟩ : ∃ fq, (ps.getD i pk0).2.2.length = fq := ⟨_, rfl⟩
        have HFQ : Hid ((ps.getD i pk0).2.2.length = fq) := hfq
        clear hiq hfq
        go_wp2
        go_loopw [9] (fun kv wx => ∃ k : Nat, kv = .int .i64 (k : Int) ∧ k ≤ iq ∧ Hid (Below V.heap.size V wx)) (fun kv _ => iq - (intOf kv).toNat)
        case atStart => exact ⟨0, rfl, by omega, HB⟩
        case round =>
          obtain ⟨k, rfl, hk, HB⟩ := hrel
          obtain ⟨-, -, hok, -, -, -⟩ := HZ.out wr HB.out
          obtain ⟨b, off, rfl, hbl, c0, ia2, il2, ic2, fa2, fl2, fc2, c1, c2, hpk⟩ := hok.each i hi2
          obtain rfl : iq = il2 := HIQ.out.symm.trans hpk.i.1
          have hilb := hpk.il
          by_cases hkl : (k : Int) < (iq : Int)
          · have hk2 : k < iq := by omega
            obtain ⟨bi, oi, rfl, hbi, r0⟩ := hpk.i.2 k hk2
            have HRe : Hid ((reachV ps ((ps.getD i pk0).2.1.getD k [])).length ≠ 0) := HIm2.out _ (getD_in (by have := HIQ.out; omega))
            obtain ⟨m, hm⟩ : ∃ m, (ps.getD i pk0).2.1.getD k [] = m := ⟨_, rfl⟩
            rw [hm] at r0 HRe
            have HC : Hid (_) := specReaches (some ⟨b, off, none⟩) ps.length lc ps m wr hok.in hok.small hok.short
            obtain ⟨rl, hrl⟩ : ∃ rl, (reachV ps m).length = rl := ⟨_, rfl⟩
            rw [hrl] at HC HRe
            have hne : ((rl : Int) == 0) = false := by rw [beq_eq_false_iff_ne]; have := HRe.out; omega
            clear hm hrl hok hpk HRe
            go_wp2_with fail
            refine Calls.mono HC.out ?_
            rintro e wn ⟨v, rfl, ho, hbn⟩
            obtain ⟨_, ra, rc, rfl, -⟩ := own_texts ho
            replace HB : Hid (Below V.heap.size V wn) := HB.out.trans (hbn.mono HB.out.size)
            clear hbn ho HC
            go_wp2
            go_roundw
            case rel => exact ⟨k + 1, by go_num, by omega, HB⟩
            case measure => simp [intOf]; omega
          · clear hok hpk
            go_wp2
            go_loopw [7, 10] (fun mv kv wx => ∃ (k : Nat) (mb : Bool), mv = .bool mb ∧ kv = .int .i64 (k : Int) ∧ k ≤ fq ∧ Hid (M9 ps i k → mb = true) ∧ Hid (Below V.heap.size V wx)) (fun _ kv _ => fq - (intOf kv).toNat)
            case atStart => exact ⟨0, mb, rfl, rfl, by omega, HM, HB⟩
            case round =>
              obtain ⟨k, mb, rfl, rfl, hk, HM, HB⟩ := hrel
              obtain ⟨-, -, hok, -, -, -⟩ := HZ.out wr HB.out
              obtain ⟨b', off', he, hbl, c0, ia2, il2, ic2, fa2, fl2, fc2, c1, c2, hpk⟩ := hok.each i hi2
              simp only [Option.some.injEq, Addr.mk.injEq, and_true] at he
              obtain ⟨rfl, rfl⟩ := he
              obtain rfl : fq = fl2 := HFQ.out.symm.trans hpk.f.1
              have hflb := hpk.fl
              by_cases hkl : (k : Int) < (fq : Int)
              · have hk2 : k < fq := by omega
                obtain ⟨bf, of, rfl, hbf, r0, r1, ta, tl, tc, r2, -, hnd⟩ := hpk.f.2 k hk2
                have HFn3 : Hid (∀ n ∈ ((ps.getD i pk0).2.2.getD k fn0).2.2, ¬ arg9 ((ps.getD i pk0).2.2.getD k fn0) n ∧ (n.1 = 8 → callV ps (ps.getD i pk0).1 (k : Int) n = 0)) := HFn2.out k (by have := HFQ.out; omega)
                have HInt : Hid (IntT ((ps.getD i pk0).2.2.getD k fn0).2.2) := (hpk.int k).2
                have HSh : Hid (ShortT ((ps.getD i pk0).2.2.getD k fn0).2.2) := (hpk.fs k).2.2
                have HStep : Hid (M9 ps i (k + 1) → mb = true ∨ ((ps.getD i pk0).1 = mainT ∧ ((ps.getD i pk0).2.2.getD k fn0).1 = mainT ∧ ((ps.getD i pk0).2.2.getD k fn0).2.1 = 1)) := m9_step HM.out
                have hxl := hpk.nm
                have htl : tl ≤ 1048576 := by have := (hpk.fs k).2.1; have := hnd.1; omega
                obtain ⟨x, hx⟩ : ∃ x, (ps.getD i pk0).1 = x := ⟨_, rfl⟩
                obtain ⟨g, hg⟩ : ∃ g, (ps.getD i pk0).2.2.getD k fn0 = g := ⟨_, rfl⟩
                rw [hg] at r0 r1 hnd HFn3 HInt HSh HStep
                rw [hx] at c0 HFn3 HStep hxl
                obtain ⟨gn, gA, gt⟩ := g
                simp only at r0 r1 hnd HFn3 HInt HSh HStep
                obtain ⟨bg, hbg⟩ := Box3.new wr (.string ⟨gn.toArray⟩) (.int .i64 gA) (.slice ta tl tc) 42
                obtain ⟨X, hX⟩ : ∃ X, wr.alloc (.cells #[.string ⟨gn.toArray⟩, .int .i64 gA, .slice ta tl tc] 42) = X := ⟨_, rfl⟩
                obtain ⟨G, hG⟩ : ∃ G, wr.heap.size = G := ⟨_, rfl⟩
                rw [hX] at bg hbg
                rw [hG] at bg
                have HX : Hid (∀ Z, Below X.heap.size X Z → (Z.cell? ⟨G, 0, none⟩ = some (.string ⟨gn.toArray⟩) ∧ Z.cell? ⟨G, 1, none⟩ = some (.int .i64 gA) ∧ Z.cell? ⟨G, 2, none⟩ = some (.slice ta tl tc)) ∧ G < Z.heap.size ∧ (Z.cell? ⟨b, off + i * 3, none⟩ = some (.string ⟨x.toArray⟩) ∧ b < Z.heap.size) ∧ NodesIn Z ta tl gt ∧ PkgsOk Z (some ⟨b, off, none⟩) ps.length lc ps ∧ Below V.heap.size V Z) := fun Z hz =>
                  have b1 := bg.below hz
                  have b2 := hbg.trans (hz.mono hbg.size)
                  have hBX := HB.out.trans (hbg.mono HB.out.size)
                  have hBZ := hBX.trans (hz.mono hBX.size)
                  ⟨⟨b1.c0, b1.c1, b1.c2⟩, b1.lt, ⟨(b2.cell (p := ⟨b, off + i * 3, none⟩) hbl).trans c0, Nat.lt_of_lt_of_le hbl b2.size⟩, (hnd.below hbg).below hz, (HZ.out Z hBZ).2.2.1, hBZ⟩
                obtain ⟨⟨x4, x5, x6⟩, -, ⟨xc, -⟩, -, -, -⟩ := HX.out X (Below.refl _ _)
                clear hok hpk hg hx bg hbg hnd HB
                go_upto_region 28 with fail
                go_cut [7] from 117 to 203 (fun v wx => ∃ mb2 : Bool, v = .bool mb2 ∧ Hid (M9 ps i (k + 1) → mb2 = true) ∧ Hid (Below X.heap.size X wx))
                case first =>
                  rcases mb with _ | _
                  rotate_left
                  · skip
                    go_wp2
                    go_meet
                    case rel => exact ⟨true, rfl, fun _ => rfl, ⟨rfl, rfl, rfl, Nat.le_refl _, fun _ _ => rfl⟩⟩
                  · by_cases hy1 : x = mainT
                    rotate_left
                    · have hyb : (x == [109, 97, 105, 110]) = false := beq_eq_false_iff_ne.2 hy1
                      have HN : Hid (¬ M9 ps i (k + 1)) := fun h => by rcases HStep.out h with h | h; cases h; exact hy1 h.1
                      clear HM HStep
                      go_wp2
                      go_meet
                      case rel => exact ⟨false, rfl, fun h => absurd h HN.out, ⟨rfl, rfl, rfl, Nat.le_refl _, fun _ _ => rfl⟩⟩
                    · by_cases hy2 : gn = mainT
                      rotate_left
                      · have hyb : (gn == [109, 97, 105, 110]) = false := beq_eq_false_iff_ne.2 hy2
                        have hyc : (x == [109, 97, 105, 110]) = true := beq_iff_eq.2 hy1
                        have HN : Hid (¬ M9 ps i (k + 1)) := fun h => by rcases HStep.out h with h | h; cases h; exact hy2 h.2.1
                        clear HM HStep
                        go_wp2
                        go_meet
                        case rel => exact ⟨false, rfl, fun h => absurd h HN.out, ⟨rfl, rfl, rfl, Nat.le_refl _, fun _ _ => rfl⟩⟩
                      · have hyc : (x == [109, 97, 105, 110]) = true := beq_iff_eq.2 hy1
                        have hyd : (gn == [109, 97, 105, 110]) = true := beq_iff_eq.2 hy2
                        by_cases hy3 : gA = 1
                        rotate_left
                        · have hyb : (gA == 1) = false := beq_eq_false_iff_ne.2 hy3
                          have HN : Hid (¬ M9 ps i (k + 1)) := fun h => by rcases HStep.out h with h | h; cases h; exact hy3 h.2.2
                          clear HM HStep
                          go_wp2
                          go_meet
                          case rel => exact ⟨false, rfl, fun h => absurd h HN.out, ⟨rfl, rfl, rfl, Nat.le_refl _, fun _ _ => rfl⟩⟩
                        · have hyb : (gA == 1) = true := beq_iff_eq.2 hy3
                          clear HM HStep
                          go_wp2
                          go_meet
                          case rel => exact ⟨true, rfl, fun _ => rfl, ⟨rfl, rfl, rfl, Nat.le_refl _, fun _ _ => rfl⟩⟩
                case rest =>
                  obtain ⟨mb2, rfl, HM2, HBx⟩ := hcut
                  rename World => wv
                  clear HStep HM r0 r1 r2 c0 c1 c2 x4 x5 x6 xc
                  obtain ⟨⟨x4, x5, x6⟩, -, -, -, -, -⟩ := HX.out wv HBx.out
                  go_wp2
                  go_loopw [12] (fun jv wx => ∃ j : Nat, jv = .int .i64 (j : Int) ∧ j ≤ tl ∧ Hid (Below X.heap.size X wx)) (fun jv _ => tl - (intOf jv).toNat)
                  case atStart => exact ⟨0, rfl, by omega, HBx⟩
                  case round =>
                    obtain ⟨j, rfl, hj, HBx⟩ := hrel
                    clear x4 x5 x6
                    obtain ⟨⟨g0, g1, g2⟩, hGl, ⟨xc, hbl2⟩, hnd, hok9, hBv⟩ := HX.out wr HBx.out
                    by_cases hjl : (j : Int) < (tl : Int)
                    · have hj2 : j < tl := by omega
                      obtain ⟨tb, tp, rfl, htb, n0, n1, n2, n3⟩ := hnd.2 j hj2
                      have hA := HFn3.out (gt.getD j nd0) (getD_in (by have := hnd.1; omega))
                      have hI := HInt.out j
                      have hS := HSh.out j
                      obtain ⟨nd, hnd2⟩ : ∃ nd, gt.getD j nd0 = nd := ⟨_, rfl⟩
                      rw [hnd2] at n0 n1 n2 n3 hA hI hS
                      obtain ⟨nk, nA, np, nf⟩ := nd
                      simp only at n0 n1 n2 n3 hA hS
                      have HY : Hid (∀ Z, Below wr.heap.size wr Z → (Z.cell? ⟨G, 0, none⟩ = some (.string ⟨gn.toArray⟩) ∧ Z.cell? ⟨G, 1, none⟩ = some (.int .i64 gA) ∧ Z.cell? ⟨G, 2, none⟩ = some (.slice (some ⟨tb, tp, none⟩) tl tc) ∧ Z.cell? ⟨b, off + i * 3, none⟩ = some (.string ⟨x.toArray⟩) ∧ Z.cell? ⟨tb, tp + j * 4, none⟩ = some (.int .i64 nk) ∧ Z.cell? ⟨tb, tp + j * 4 + 1, none⟩ = some (.int .i64 nA) ∧ Z.cell? ⟨tb, tp + j * 4 + 2, none⟩ = some (.string ⟨np.toArray⟩) ∧ Z.cell? ⟨tb, tp + j * 4 + 3, none⟩ = some (.string ⟨nf.toArray⟩)) ∧ PkgsOk Z (some ⟨b, off, none⟩) ps.length lc ps) := fun Z hz => ⟨⟨(hz.cell (p := ⟨G, 0, none⟩) hGl).trans g0, (hz.cell (p := ⟨G, 1, none⟩) hGl).trans g1, (hz.cell (p := ⟨G, 2, none⟩) hGl).trans g2, (hz.cell (p := ⟨b, off + i * 3, none⟩) hbl2).trans xc, (hz.cell (p := ⟨tb, tp + j * 4, none⟩) htb).trans n0, (hz.cell (p := ⟨tb, tp + j * 4 + 1, none⟩) htb).trans n1, (hz.cell (p := ⟨tb, tp + j * 4 + 2, none⟩) htb).trans n2, (hz.cell (p := ⟨tb, tp + j * 4 + 3, none⟩) htb).trans n3⟩, hok9.below hz⟩
                      have HCall0 : Hid (nk = 8 → ∀ Z, Below wr.heap.size wr Z → PkgsOk Z (some ⟨b, off, none⟩) ps.length lc ps → Calls Tryz.prog 17 #[.slice (some ⟨b, off, none⟩) ps.length lc, .string ⟨x.toArray⟩, .int .i64 (k : Int), nodeVal (nk, nA, np, nf)] Z fun e w' => e = .returned (.int .i64 0) ∧ Below Z.heap.size Z w') := fun h8 Z hbz hz => by
                        have h := implCallCode (some ⟨b, off, none⟩) ps.length lc ps x (k : Int) (nk, nA, np, nf) er Z (HT.out.below (HZ.out Z (hBv.trans (hbz.mono hBv.size))).2.2.2.2.2).four hz hxl hI hS.1 hS.2 ⟨by omega, by omega⟩
                        rw [hA.2 h8] at h
                        exact h
                      clear hnd hnd2 hBv hbf
                      by_cases hn2 : nk = 2
                      · subst hn2
                        have hlt : nA < gA := by rcases Int.lt_or_le nA gA with h | h; exact h; exact absurd ⟨rfl, h⟩ hA.1
                        clear hA hI hS HCall0
                        go_upto_region 32 with fail
                        refine wp_region_held_drew (S := (fun w' => w'.cell? ⟨G, 0, none⟩ = some (.string ⟨gn.toArray⟩) ∧ w'.cell? ⟨G, 1, none⟩ = some (.int .i64 gA) ∧ w'.cell? ⟨G, 2, none⟩ = some (.slice (some ⟨tb, tp, none⟩) tl tc) ∧ w'.cell? ⟨b, off + i * 3, none⟩ = some (.string ⟨x.toArray⟩) ∧ w'.cell? ⟨tb, tp + j * 4, none⟩ = some (.int .i64 2) ∧ w'.cell? ⟨tb, tp + j * 4 + 1, none⟩ = some (.int .i64 nA) ∧ w'.cell? ⟨tb, tp + j * 4 + 2, none⟩ = some (.string ⟨np.toArray⟩) ∧ w'.cell? ⟨tb, tp + j * 4 + 3, none⟩ = some (.string ⟨nf.toArray⟩))) (by kernel_rfl) ?_ (fun hHeld => ?_)
                        · first | (dsimp only; done) | (dsimp only; go_keep) | go_keep
                        have HBj : Hid (Below wr.heap.size wr wr.drew) := ⟨rfl, rfl, rfl, Nat.le_refl _, fun _ _ => rfl⟩
                        replace hok9 := (HY.out _ HBj.out).2
                        refine wpAnyH_take (i := 0) (oi := ⟨some 161, _, _, _, _, _⟩) (v := ?vk20) rfl (by kernel_rfl) (by kernel_rfl) (by kernel_rfl) (fun _ _ _ h => h) (Or.inl ⟨by rfl, ?hyk20⟩) (by assumption) ?restk20
                        case hyk20 => (intro wq hSw; (try dsimp only at hSw); first | (go_simp; done) | (go_simp; with_reducible rfl))
                        simp only [Act.put, List.setIfInBounds_toArray, List.set_cons_zero, List.set_cons_succ]
                        refine wpAnyH_take (i := 1) (oi := ⟨some 162, _, _, _, _, _⟩) (v := ?vk21) rfl (by kernel_rfl) (by kernel_rfl) (by kernel_rfl) (fun _ _ _ h => h) (Or.inl ⟨by rfl, ?hyk21⟩) (by assumption) ?restk21
                        case hyk21 => (intro wq hSw; (try dsimp only at hSw); first | (go_simp; done) | (go_simp; with_reducible rfl))
                        simp only [Act.put, List.setIfInBounds_toArray, List.set_cons_zero, List.set_cons_succ]
                        refine wpAnyH_take (i := 2) (oi := ⟨some 163, _, _, _, _, _⟩) (v := ?vk22) rfl (by kernel_rfl) (by kernel_rfl) (by kernel_rfl) (fun _ _ _ h => h) (Or.inl ⟨by rfl, ?hyk22⟩) (by assumption) ?restk22
                        case hyk22 => (intro wq hSw; (try dsimp only at hSw); first | (go_simp; done) | (go_simp; with_reducible rfl))
                        simp only [Act.put, List.setIfInBounds_toArray, List.set_cons_zero, List.set_cons_succ]
                        refine wpAnyH_take (i := 3) (oi := ⟨some 164, _, _, _, _, _⟩) (v := ?vk23) rfl (by kernel_rfl) (by kernel_rfl) (by kernel_rfl) (fun _ _ _ h => h) (Or.inl ⟨by rfl, ?hyk23⟩) (by assumption) ?restk23
                        case hyk23 => (intro wq hSw; (try dsimp only at hSw); first | (go_simp; done) | (go_simp; with_reducible rfl))
                        simp only [Act.put, List.setIfInBounds_toArray, List.set_cons_zero, List.set_cons_succ]
                        refine wpAnyH_take (i := 4) (oi := ⟨some 165, _, _, _, _, _⟩) (v := ?vk24) rfl (by kernel_rfl) (by kernel_rfl) (by kernel_rfl) (fun _ _ _ h => h) (Or.inl ⟨by rfl, ?hyk24⟩) (by assumption) ?restk24
                        case hyk24 => (intro wq hSw; (try dsimp only at hSw); first | (go_simp; done) | (go_simp; with_reducible rfl))
                        simp only [Act.put, List.setIfInBounds_toArray, List.set_cons_zero, List.set_cons_succ]
                        refine wpAnyH_take (i := 5) (oi := ⟨some 166, _, _, _, _, _⟩) (v := ?vk25) rfl (by kernel_rfl) (by kernel_rfl) (by kernel_rfl) (fun _ _ _ h => h) (Or.inl ⟨by rfl, ?hyk25⟩) (by assumption) ?restk25
                        case hyk25 => (intro wq hSw; (try dsimp only at hSw); first | (go_simp; done) | (go_simp; with_reducible rfl))
                        simp only [Act.put, List.setIfInBounds_toArray, List.set_cons_zero, List.set_cons_succ]
                        refine wpAnyH_take (i := 6) (oi := ⟨some 167, _, _, _, _, _⟩) (v := .bool true) rfl (by kernel_rfl) (by kernel_rfl) (by kernel_rfl) (fun _ _ _ h => h) (Or.inl ⟨by rfl, ?hyk26⟩) (by assumption) ?restk26
                        case hyk26 => (intro wq hSw; (try dsimp only at hSw); go_simp; (first | done | simp | assumption | simp_all))
                        simp only [Act.put, List.setIfInBounds_toArray, List.set_cons_zero, List.set_cons_succ]
                        refine wpAnyH_take (i := 7) (oi := ⟨some 168, _, _, _, _, _⟩) (v := ?vk27) rfl (by kernel_rfl) (by kernel_rfl) (by kernel_rfl) (fun _ _ _ h => h) (Or.inl ⟨by rfl, ?hyk27⟩) (by assumption) ?restk27
                        case hyk27 => (intro wq hSw; (try dsimp only at hSw); first | (go_simp; done) | (go_simp; with_reducible rfl))
                        simp only [Act.put, List.setIfInBounds_toArray, List.set_cons_zero, List.set_cons_succ]
                        refine wpAnyH_take (i := 8) (oi := ⟨some 169, _, _, _, _, _⟩) (v := ?vk28) rfl (by kernel_rfl) (by kernel_rfl) (by kernel_rfl) (fun _ _ _ h => h) (Or.inl ⟨by rfl, ?hyk28⟩) (by assumption) ?restk28
                        case hyk28 => (intro wq hSw; (try dsimp only at hSw); first | (go_simp; done) | (go_simp; with_reducible rfl))
                        simp only [Act.put, List.setIfInBounds_toArray, List.set_cons_zero, List.set_cons_succ]
                        refine wpAnyH_take (i := 9) (oi := ⟨some 170, _, _, _, _, _⟩) (v := ?vk29) rfl (by kernel_rfl) (by kernel_rfl) (by kernel_rfl) (fun _ _ _ h => h) (Or.inl ⟨by rfl, ?hyk29⟩) (by assumption) ?restk29
                        case hyk29 => (intro wq hSw; (try dsimp only at hSw); first | (go_simp; done) | (go_simp; with_reducible rfl))
                        simp only [Act.put, List.setIfInBounds_toArray, List.set_cons_zero, List.set_cons_succ]
                        refine wpAnyH_take (i := 10) (oi := ⟨some 171, _, _, _, _, _⟩) (v := ?vk210) rfl (by kernel_rfl) (by kernel_rfl) (by kernel_rfl) (fun _ _ _ h => h) (Or.inl ⟨by rfl, ?hyk210⟩) (by assumption) ?restk210
                        case hyk210 => (intro wq hSw; (try dsimp only at hSw); first | (go_simp; done) | (go_simp; with_reducible rfl))
                        simp only [Act.put, List.setIfInBounds_toArray, List.set_cons_zero, List.set_cons_succ]
                        refine wpAnyH_take (i := 11) (oi := ⟨some 172, _, _, _, _, _⟩) (v := ?vk211) rfl (by kernel_rfl) (by kernel_rfl) (by kernel_rfl) (fun _ _ _ h => h) (Or.inl ⟨by rfl, ?hyk211⟩) (by assumption) ?restk211
                        case hyk211 => (intro wq hSw; (try dsimp only at hSw); first | (go_simp; done) | (go_simp; with_reducible rfl))
                        simp only [Act.put, List.setIfInBounds_toArray, List.set_cons_zero, List.set_cons_succ]
                        refine wpAnyH_take (i := 12) (oi := ⟨some 173, _, _, _, _, _⟩) (v := ?vk212) rfl (by kernel_rfl) (by kernel_rfl) (by kernel_rfl) (fun _ _ _ h => h) (Or.inl ⟨by rfl, ?hyk212⟩) (by assumption) ?restk212
                        case hyk212 => (intro wq hSw; (try dsimp only at hSw); first | (go_simp; done) | (go_simp; with_reducible rfl))
                        simp only [Act.put, List.setIfInBounds_toArray, List.set_cons_zero, List.set_cons_succ]
                        refine wpAnyH_take (i := 13) (oi := ⟨some 174, _, _, _, _, _⟩) (v := ?vk213) rfl (by kernel_rfl) (by kernel_rfl) (by kernel_rfl) (fun _ _ _ h => h) (Or.inl ⟨by rfl, ?hyk213⟩) (by assumption) ?restk213
                        case hyk213 => (intro wq hSw; (try dsimp only at hSw); first | (go_simp; done) | (go_simp; with_reducible rfl))
                        simp only [Act.put, List.setIfInBounds_toArray, List.set_cons_zero, List.set_cons_succ]
                        refine wpAnyH_take (i := 14) (oi := ⟨some 175, _, _, _, _, _⟩) (v := ?vk214) rfl (by kernel_rfl) (by kernel_rfl) (by kernel_rfl) (fun _ _ _ h => h) (Or.inl ⟨by rfl, ?hyk214⟩) (by assumption) ?restk214
                        case hyk214 => (intro wq hSw; (try dsimp only at hSw); first | (go_simp; done) | (go_simp; with_reducible rfl))
                        simp only [Act.put, List.setIfInBounds_toArray, List.set_cons_zero, List.set_cons_succ]
                        refine wpAnyH_take (i := 15) (oi := ⟨some 176, _, _, _, _, _⟩) (v := ?vk215) rfl (by kernel_rfl) (by kernel_rfl) (by kernel_rfl) (fun _ _ _ h => h) (Or.inl ⟨by rfl, ?hyk215⟩) (by assumption) ?restk215
                        case hyk215 => (intro wq hSw; (try dsimp only at hSw); first | (go_simp; done) | (go_simp; with_reducible rfl))
                        simp only [Act.put, List.setIfInBounds_toArray, List.set_cons_zero, List.set_cons_succ]
                        refine wpAnyH_take (i := 16) (oi := ⟨some 177, _, _, _, _, _⟩) (v := .bool false) rfl (by kernel_rfl) (by kernel_rfl) (by kernel_rfl) (fun _ _ _ h => h) (Or.inl ⟨by rfl, ?hyk216⟩) (by assumption) ?restk216
                        case hyk216 => (intro wq hSw; (try dsimp only at hSw); go_simp; (first | done | simp | assumption | simp_all))
                        simp only [Act.put, List.setIfInBounds_toArray, List.set_cons_zero, List.set_cons_succ]
                        refine wpAnyH_take (i := 17) (oi := ⟨some 178, _, _, _, _, _⟩) (v := .bool false) rfl (by kernel_rfl) (by kernel_rfl) (by kernel_rfl) (fun _ _ _ h => h) (Or.inl ⟨by rfl, ?hyk217⟩) (by assumption) ?restk217
                        case hyk217 => (intro wq hSw; (try dsimp only at hSw); go_simp; (first | done | simp | assumption | simp_all))
                        simp only [Act.put, List.setIfInBounds_toArray, List.set_cons_zero, List.set_cons_succ]
                        refine wpAnyH_take (i := 18) (oi := ⟨some 179, _, _, _, _, _⟩) (v := ?vk218) rfl (by kernel_rfl) (by kernel_rfl) (by kernel_rfl) (fun _ _ _ h => h) (Or.inl ⟨by rfl, ?hyk218⟩) (by assumption) ?restk218
                        case hyk218 => (intro wq hSw; (try dsimp only at hSw); first | (go_simp; done) | (go_simp; with_reducible rfl))
                        simp only [Act.put, List.setIfInBounds_toArray, List.set_cons_zero, List.set_cons_succ]
                        refine wpAnyH_take (i := 19) (oi := ⟨some 180, _, _, _, _, _⟩) (v := ?vk219) rfl (by kernel_rfl) (by kernel_rfl) (by kernel_rfl) (fun _ _ _ h => h) (Or.inl ⟨by rfl, ?hyk219⟩) (by assumption) ?restk219
                        case hyk219 => (intro wq hSw; (try dsimp only at hSw); first | (go_simp; done) | (go_simp; with_reducible rfl))
                        simp only [Act.put, List.setIfInBounds_toArray, List.set_cons_zero, List.set_cons_succ]
                        refine wpAnyH_take (i := 20) (oi := ⟨some 181, _, _, _, _, _⟩) (v := ?vk220) rfl (by kernel_rfl) (by kernel_rfl) (by kernel_rfl) (fun _ _ _ h => h) (Or.inl ⟨by rfl, ?hyk220⟩) (by assumption) ?restk220
                        case hyk220 => (intro wq hSw; (try dsimp only at hSw); first | (go_simp; done) | (go_simp; with_reducible rfl))
                        simp only [Act.put, List.setIfInBounds_toArray, List.set_cons_zero, List.set_cons_succ]
                        refine wpAnyH_take (i := 21) (oi := ⟨some 182, _, _, _, _, _⟩) (v := ?vk221) rfl (by kernel_rfl) (by kernel_rfl) (by kernel_rfl) (fun _ _ _ h => h) (Or.inl ⟨by rfl, ?hyk221⟩) (by assumption) ?restk221
                        case hyk221 => (intro wq hSw; (try dsimp only at hSw); first | (go_simp; done) | (go_simp; with_reducible rfl))
                        simp only [Act.put, List.setIfInBounds_toArray, List.set_cons_zero, List.set_cons_succ]
                        refine wpAnyH_take (i := 22) (oi := ⟨some 183, _, _, _, _, _⟩) (v := ?vk222) rfl (by kernel_rfl) (by kernel_rfl) (by kernel_rfl) (fun _ _ _ h => h) (Or.inl ⟨by rfl, ?hyk222⟩) (by assumption) ?restk222
                        case hyk222 => (intro wq hSw; (try dsimp only at hSw); first | (go_simp; done) | (go_simp; with_reducible rfl))
                        simp only [Act.put, List.setIfInBounds_toArray, List.set_cons_zero, List.set_cons_succ]
                        refine wpAnyH_take (i := 23) (oi := ⟨some 184, _, _, _, _, _⟩) (v := ?vk223) rfl (by kernel_rfl) (by kernel_rfl) (by kernel_rfl) (fun _ _ _ h => h) (Or.inl ⟨by rfl, ?hyk223⟩) (by assumption) ?restk223
                        case hyk223 => (intro wq hSw; (try dsimp only at hSw); first | (go_simp; done) | (go_simp; with_reducible rfl))
                        simp only [Act.put, List.setIfInBounds_toArray, List.set_cons_zero, List.set_cons_succ]
                        refine wpAnyH_take (i := 24) (oi := ⟨some 185, _, _, _, _, _⟩) (v := ?vk224) rfl (by kernel_rfl) (by kernel_rfl) (by kernel_rfl) (fun _ _ _ h => h) (Or.inl ⟨by rfl, ?hyk224⟩) (by assumption) ?restk224
                        case hyk224 => (intro wq hSw; (try dsimp only at hSw); first | (go_simp; done) | (go_simp; with_reducible rfl))
                        simp only [Act.put, List.setIfInBounds_toArray, List.set_cons_zero, List.set_cons_succ]
                        refine wpAnyH_take (i := 25) (oi := ⟨some 186, _, _, _, _, _⟩) (v := .bool false) rfl (by kernel_rfl) (by kernel_rfl) (by kernel_rfl) (fun _ _ _ h => h) (Or.inl ⟨by rfl, ?hyk225⟩) (by assumption) ?restk225
                        case hyk225 => (intro wq hSw; (try dsimp only at hSw); go_simp; (first | done | simp | assumption | simp_all))
                        simp only [Act.put, List.setIfInBounds_toArray, List.set_cons_zero, List.set_cons_succ]
                        refine wpAnyH_take (i := 26) (oi := ⟨some 187, _, _, _, _, _⟩) (v := ?vk226) rfl (by kernel_rfl) (by kernel_rfl) (by kernel_rfl) (fun _ _ _ h => h) (Or.inl ⟨by rfl, ?hyk226⟩) (by assumption) ?restk226
                        case hyk226 => (intro wq hSw; (try dsimp only at hSw); first | (go_simp; done) | (go_simp; with_reducible rfl))
                        simp only [Act.put, List.setIfInBounds_toArray, List.set_cons_zero, List.set_cons_succ]
                        refine wpAnyH_take (i := 27) (oi := ⟨some 188, _, _, _, _, _⟩) (v := undef) rfl (by kernel_rfl) (by kernel_rfl) (by kernel_rfl) (fun _ _ _ h => h) (Or.inr ⟨by rfl, rfl⟩) (by assumption) ?_
                        simp only [Act.put, List.setIfInBounds_toArray, List.set_cons_zero, List.set_cons_succ]
                        refine wpAnyH_take (i := 28) (oi := ⟨some 189, _, _, _, _, _⟩) (v := undef) rfl (by kernel_rfl) (by kernel_rfl) (by kernel_rfl) (fun _ _ _ h => h) (Or.inr ⟨by rfl, rfl⟩) (by assumption) ?_
                        simp only [Act.put, List.setIfInBounds_toArray, List.set_cons_zero, List.set_cons_succ]
                        refine wpAnyH_take (i := 29) (oi := ⟨some 190, _, _, _, _, _⟩) (v := undef) rfl (by kernel_rfl) (by kernel_rfl) (by kernel_rfl) (fun _ _ _ h => h) (Or.inr ⟨by rfl, rfl⟩) (by assumption) ?_
                        simp only [Act.put, List.setIfInBounds_toArray, List.set_cons_zero, List.set_cons_succ]
                        refine wpAnyH_take (i := 30) (oi := ⟨some 191, _, _, _, _, _⟩) (v := undef) rfl (by kernel_rfl) (by kernel_rfl) (by kernel_rfl) (fun _ _ _ h => h) (Or.inr ⟨by rfl, rfl⟩) (by assumption) ?_
                        simp only [Act.put, List.setIfInBounds_toArray, List.set_cons_zero, List.set_cons_succ]
                        refine wpAnyH_take (i := 31) (oi := ⟨some 192, _, _, _, _, _⟩) (v := undef) rfl (by kernel_rfl) (by kernel_rfl) (by kernel_rfl) (fun _ _ _ h => h) (Or.inr ⟨by rfl, rfl⟩) (by assumption) ?_
                        simp only [Act.put, List.setIfInBounds_toArray, List.set_cons_zero, List.set_cons_succ]
                        refine wpAnyH_take (i := 32) (oi := ⟨some 193, _, _, _, _, _⟩) (v := undef) rfl (by kernel_rfl) (by kernel_rfl) (by kernel_rfl) (fun _ _ _ h => h) (Or.inr ⟨by rfl, rfl⟩) (by assumption) ?_
                        simp only [Act.put, List.setIfInBounds_toArray, List.set_cons_zero, List.set_cons_succ]
                        refine wpAnyH_take (i := 33) (oi := ⟨some 194, _, _, _, _, _⟩) (v := undef) rfl (by kernel_rfl) (by kernel_rfl) (by kernel_rfl) (fun _ _ _ h => h) (Or.inr ⟨by rfl, rfl⟩) (by assumption) ?_
                        simp only [Act.put, List.setIfInBounds_toArray, List.set_cons_zero, List.set_cons_succ]
                        refine wpAnyH_take (i := 34) (oi := ⟨some 195, _, _, _, _, _⟩) (v := undef) rfl (by kernel_rfl) (by kernel_rfl) (by kernel_rfl) (fun _ _ _ h => h) (Or.inr ⟨by rfl, rfl⟩) (by assumption) ?_
                        simp only [Act.put, List.setIfInBounds_toArray, List.set_cons_zero, List.set_cons_succ]
                        refine wpAnyH_take (i := 35) (oi := ⟨some 196, _, _, _, _, _⟩) (v := undef) rfl (by kernel_rfl) (by kernel_rfl) (by kernel_rfl) (fun _ _ _ h => h) (Or.inr ⟨by rfl, rfl⟩) (by assumption) ?_
                        simp only [Act.put, List.setIfInBounds_toArray, List.set_cons_zero, List.set_cons_succ]
                        refine wpAnyH_take (i := 36) (oi := ⟨some 197, _, _, _, _, _⟩) (v := undef) rfl (by kernel_rfl) (by kernel_rfl) (by kernel_rfl) (fun _ _ _ h => h) (Or.inr ⟨by rfl, rfl⟩) (by assumption) ?_
                        simp only [Act.put, List.setIfInBounds_toArray, List.set_cons_zero, List.set_cons_succ]
                        refine wpAnyH_take (i := 37) (oi := ⟨some 198, _, _, _, _, _⟩) (v := undef) rfl (by kernel_rfl) (by kernel_rfl) (by kernel_rfl) (fun _ _ _ h => h) (Or.inr ⟨by rfl, rfl⟩) (by assumption) ?_
                        simp only [Act.put, List.setIfInBounds_toArray, List.set_cons_zero, List.set_cons_succ]
                        refine wpAnyH_take (i := 38) (oi := ⟨some 199, _, _, _, _, _⟩) (v := undef) rfl (by kernel_rfl) (by kernel_rfl) (by kernel_rfl) (fun _ _ _ h => h) (Or.inr ⟨by rfl, rfl⟩) (by assumption) ?_
                        simp only [Act.put, List.setIfInBounds_toArray, List.set_cons_zero, List.set_cons_succ]
                        refine wpAnyH_take (i := 39) (oi := ⟨some 200, _, _, _, _, _⟩) (v := undef) rfl (by kernel_rfl) (by kernel_rfl) (by kernel_rfl) (fun _ _ _ h => h) (Or.inr ⟨by rfl, rfl⟩) (by assumption) ?_
                        simp only [Act.put, List.setIfInBounds_toArray, List.set_cons_zero, List.set_cons_succ]
                        refine wpAnyH_take (i := 40) (oi := ⟨some 201, _, _, _, _, _⟩) (v := undef) rfl (by kernel_rfl) (by kernel_rfl) (by kernel_rfl) (fun _ _ _ h => h) (Or.inr ⟨by rfl, rfl⟩) (by assumption) ?_
                        simp only [Act.put, List.setIfInBounds_toArray, List.set_cons_zero, List.set_cons_succ]
                        refine wpAnyH_take (i := 41) (oi := ⟨some 202, _, _, _, _, _⟩) (v := .bool false) rfl (by kernel_rfl) (by kernel_rfl) (by kernel_rfl) (fun _ _ _ h => h) (Or.inl ⟨by rfl, ?hyk241⟩) (by assumption) ?restk241
                        case hyk241 => (intro wq hSw; (try dsimp only at hSw); go_simp; (first | done | simp | assumption | simp_all))
                        simp only [Act.put, List.setIfInBounds_toArray, List.set_cons_zero, List.set_cons_succ]
                        refine wpAnyH_take (i := 42) (oi := ⟨some 203, _, _, _, _, _⟩) (v := .bool false) rfl (by kernel_rfl) (by kernel_rfl) (by kernel_rfl) (fun _ _ _ h => h) (Or.inl ⟨by rfl, ?hyk242⟩) (by assumption) ?restk242
                        case hyk242 => (intro wq hSw; (try dsimp only at hSw); go_simp; (first | done | simp | assumption | simp_all))
                        simp only [Act.put, List.setIfInBounds_toArray, List.set_cons_zero, List.set_cons_succ]
                        refine wpAnyH_done (by kernel_rfl) ?_ _
                        have HBn : Hid (Below X.heap.size X _) := HBx.out.trans (HBj.out.mono HBx.out.size)
                        clear HBj
                        go_wp2
                        go_roundw
                        case rel => exact ⟨j + 1, by go_num, by omega, HBn⟩
                        case measure => simp [intOf]; omega
                      · by_cases hn8 : nk = 8
                        · subst hn8
                          have HCall := Hid.out HCall0 rfl
                          unfold nodeVal at HCall
                          simp only at HCall
                          clear hA hI hS HCall0
                          have HC : Hid (_) := HCall
                          clear HCall
                          have HCall := HC
                          clear HC
                          go_upto_region 32 with fail
                          refine wp_region_held_drew (S := (fun w' => w'.cell? ⟨G, 0, none⟩ = some (.string ⟨gn.toArray⟩) ∧ w'.cell? ⟨G, 1, none⟩ = some (.int .i64 gA) ∧ w'.cell? ⟨G, 2, none⟩ = some (.slice (some ⟨tb, tp, none⟩) tl tc) ∧ w'.cell? ⟨b, off + i * 3, none⟩ = some (.string ⟨x.toArray⟩) ∧ w'.cell? ⟨tb, tp + j * 4, none⟩ = some (.int .i64 8) ∧ w'.cell? ⟨tb, tp + j * 4 + 1, none⟩ = some (.int .i64 nA) ∧ w'.cell? ⟨tb, tp + j * 4 + 2, none⟩ = some (.string ⟨np.toArray⟩) ∧ w'.cell? ⟨tb, tp + j * 4 + 3, none⟩ = some (.string ⟨nf.toArray⟩))) (by kernel_rfl) ?_ (fun hHeld => ?_)
                          · first | (dsimp only; done) | (dsimp only; go_keep) | go_keep
                          have HBj : Hid (Below wr.heap.size wr wr.drew) := ⟨rfl, rfl, rfl, Nat.le_refl _, fun _ _ => rfl⟩
                          replace hok9 := (HY.out _ HBj.out).2
                          refine wpAnyH_take (i := 0) (oi := ⟨some 161, _, _, _, _, _⟩) (v := ?vk80) rfl (by kernel_rfl) (by kernel_rfl) (by kernel_rfl) (fun _ _ _ h => h) (Or.inl ⟨by rfl, ?hyk80⟩) (by assumption) ?restk80
                          case hyk80 => (intro wq hSw; (try dsimp only at hSw); first | (go_simp; done) | (go_simp; with_reducible rfl))
                          simp only [Act.put, List.setIfInBounds_toArray, List.set_cons_zero, List.set_cons_succ]
                          refine wpAnyH_take (i := 1) (oi := ⟨some 162, _, _, _, _, _⟩) (v := ?vk81) rfl (by kernel_rfl) (by kernel_rfl) (by kernel_rfl) (fun _ _ _ h => h) (Or.inl ⟨by rfl, ?hyk81⟩) (by assumption) ?restk81
                          case hyk81 => (intro wq hSw; (try dsimp only at hSw); first | (go_simp; done) | (go_simp; with_reducible rfl))
                          simp only [Act.put, List.setIfInBounds_toArray, List.set_cons_zero, List.set_cons_succ]
                          refine wpAnyH_take (i := 2) (oi := ⟨some 163, _, _, _, _, _⟩) (v := ?vk82) rfl (by kernel_rfl) (by kernel_rfl) (by kernel_rfl) (fun _ _ _ h => h) (Or.inl ⟨by rfl, ?hyk82⟩) (by assumption) ?restk82
                          case hyk82 => (intro wq hSw; (try dsimp only at hSw); first | (go_simp; done) | (go_simp; with_reducible rfl))
                          simp only [Act.put, List.setIfInBounds_toArray, List.set_cons_zero, List.set_cons_succ]
                          refine wpAnyH_take (i := 3) (oi := ⟨some 164, _, _, _, _, _⟩) (v := ?vk83) rfl (by kernel_rfl) (by kernel_rfl) (by kernel_rfl) (fun _ _ _ h => h) (Or.inl ⟨by rfl, ?hyk83⟩) (by assumption) ?restk83
                          case hyk83 => (intro wq hSw; (try dsimp only at hSw); first | (go_simp; done) | (go_simp; with_reducible rfl))
                          simp only [Act.put, List.setIfInBounds_toArray, List.set_cons_zero, List.set_cons_succ]
                          refine wpAnyH_take (i := 4) (oi := ⟨some 165, _, _, _, _, _⟩) (v := ?vk84) rfl (by kernel_rfl) (by kernel_rfl) (by kernel_rfl) (fun _ _ _ h => h) (Or.inl ⟨by rfl, ?hyk84⟩) (by assumption) ?restk84
                          case hyk84 => (intro wq hSw; (try dsimp only at hSw); first | (go_simp; done) | (go_simp; with_reducible rfl))
                          simp only [Act.put, List.setIfInBounds_toArray, List.set_cons_zero, List.set_cons_succ]
                          refine wpAnyH_take (i := 5) (oi := ⟨some 166, _, _, _, _, _⟩) (v := ?vk85) rfl (by kernel_rfl) (by kernel_rfl) (by kernel_rfl) (fun _ _ _ h => h) (Or.inl ⟨by rfl, ?hyk85⟩) (by assumption) ?restk85
                          case hyk85 => (intro wq hSw; (try dsimp only at hSw); first | (go_simp; done) | (go_simp; with_reducible rfl))
                          simp only [Act.put, List.setIfInBounds_toArray, List.set_cons_zero, List.set_cons_succ]
                          refine wpAnyH_take (i := 6) (oi := ⟨some 167, _, _, _, _, _⟩) (v := .bool false) rfl (by kernel_rfl) (by kernel_rfl) (by kernel_rfl) (fun _ _ _ h => h) (Or.inl ⟨by rfl, ?hyk86⟩) (by assumption) ?restk86
                          case hyk86 => (intro wq hSw; (try dsimp only at hSw); go_simp; (first | done | simp | assumption | simp_all))
                          simp only [Act.put, List.setIfInBounds_toArray, List.set_cons_zero, List.set_cons_succ]
                          refine wpAnyH_take (i := 7) (oi := ⟨some 168, _, _, _, _, _⟩) (v := ?vk87) rfl (by kernel_rfl) (by kernel_rfl) (by kernel_rfl) (fun _ _ _ h => h) (Or.inl ⟨by rfl, ?hyk87⟩) (by assumption) ?restk87
                          case hyk87 => (intro wq hSw; (try dsimp only at hSw); first | (go_simp; done) | (go_simp; with_reducible rfl))
                          simp only [Act.put, List.setIfInBounds_toArray, List.set_cons_zero, List.set_cons_succ]
                          refine wpAnyH_take (i := 8) (oi := ⟨some 169, _, _, _, _, _⟩) (v := undef) rfl (by kernel_rfl) (by kernel_rfl) (by kernel_rfl) (fun _ _ _ h => h) (Or.inr ⟨by rfl, rfl⟩) (by assumption) ?_
                          simp only [Act.put, List.setIfInBounds_toArray, List.set_cons_zero, List.set_cons_succ]
                          refine wpAnyH_take (i := 9) (oi := ⟨some 170, _, _, _, _, _⟩) (v := undef) rfl (by kernel_rfl) (by kernel_rfl) (by kernel_rfl) (fun _ _ _ h => h) (Or.inr ⟨by rfl, rfl⟩) (by assumption) ?_
                          simp only [Act.put, List.setIfInBounds_toArray, List.set_cons_zero, List.set_cons_succ]
                          refine wpAnyH_take (i := 10) (oi := ⟨some 171, _, _, _, _, _⟩) (v := undef) rfl (by kernel_rfl) (by kernel_rfl) (by kernel_rfl) (fun _ _ _ h => h) (Or.inr ⟨by rfl, rfl⟩) (by assumption) ?_
                          simp only [Act.put, List.setIfInBounds_toArray, List.set_cons_zero, List.set_cons_succ]
                          refine wpAnyH_take (i := 11) (oi := ⟨some 172, _, _, _, _, _⟩) (v := undef) rfl (by kernel_rfl) (by kernel_rfl) (by kernel_rfl) (fun _ _ _ h => h) (Or.inr ⟨by rfl, rfl⟩) (by assumption) ?_
                          simp only [Act.put, List.setIfInBounds_toArray, List.set_cons_zero, List.set_cons_succ]
                          refine wpAnyH_take (i := 12) (oi := ⟨some 173, _, _, _, _, _⟩) (v := undef) rfl (by kernel_rfl) (by kernel_rfl) (by kernel_rfl) (fun _ _ _ h => h) (Or.inr ⟨by rfl, rfl⟩) (by assumption) ?_
                          simp only [Act.put, List.setIfInBounds_toArray, List.set_cons_zero, List.set_cons_succ]
                          refine wpAnyH_take (i := 13) (oi := ⟨some 174, _, _, _, _, _⟩) (v := undef) rfl (by kernel_rfl) (by kernel_rfl) (by kernel_rfl) (fun _ _ _ h => h) (Or.inr ⟨by rfl, rfl⟩) (by assumption) ?_
                          simp only [Act.put, List.setIfInBounds_toArray, List.set_cons_zero, List.set_cons_succ]
                          refine wpAnyH_take (i := 14) (oi := ⟨some 175, _, _, _, _, _⟩) (v := undef) rfl (by kernel_rfl) (by kernel_rfl) (by kernel_rfl) (fun _ _ _ h => h) (Or.inr ⟨by rfl, rfl⟩) (by assumption) ?_
                          simp only [Act.put, List.setIfInBounds_toArray, List.set_cons_zero, List.set_cons_succ]
                          refine wpAnyH_take (i := 15) (oi := ⟨some 176, _, _, _, _, _⟩) (v := undef) rfl (by kernel_rfl) (by kernel_rfl) (by kernel_rfl) (fun _ _ _ h => h) (Or.inr ⟨by rfl, rfl⟩) (by assumption) ?_
                          simp only [Act.put, List.setIfInBounds_toArray, List.set_cons_zero, List.set_cons_succ]
                          refine wpAnyH_take (i := 16) (oi := ⟨some 177, _, _, _, _, _⟩) (v := undef) rfl (by kernel_rfl) (by kernel_rfl) (by kernel_rfl) (fun _ _ _ h => h) (Or.inr ⟨by rfl, rfl⟩) (by assumption) ?_
                          simp only [Act.put, List.setIfInBounds_toArray, List.set_cons_zero, List.set_cons_succ]
                          refine wpAnyH_take (i := 17) (oi := ⟨some 178, _, _, _, _, _⟩) (v := .bool false) rfl (by kernel_rfl) (by kernel_rfl) (by kernel_rfl) (fun _ _ _ h => h) (Or.inl ⟨by rfl, ?hyk817⟩) (by assumption) ?restk817
                          case hyk817 => (intro wq hSw; (try dsimp only at hSw); go_simp; (first | done | simp | assumption | simp_all))
                          simp only [Act.put, List.setIfInBounds_toArray, List.set_cons_zero, List.set_cons_succ]
                          refine wpAnyH_take (i := 18) (oi := ⟨some 179, _, _, _, _, _⟩) (v := ?vk818) rfl (by kernel_rfl) (by kernel_rfl) (by kernel_rfl) (fun _ _ _ h => h) (Or.inl ⟨by rfl, ?hyk818⟩) (by assumption) ?restk818
                          case hyk818 => (intro wq hSw; (try dsimp only at hSw); first | (go_simp; done) | (go_simp; with_reducible rfl))
                          simp only [Act.put, List.setIfInBounds_toArray, List.set_cons_zero, List.set_cons_succ]
                          refine wpAnyH_take (i := 19) (oi := ⟨some 180, _, _, _, _, _⟩) (v := ?vk819) rfl (by kernel_rfl) (by kernel_rfl) (by kernel_rfl) (fun _ _ _ h => h) (Or.inl ⟨by rfl, ?hyk819⟩) (by assumption) ?restk819
                          case hyk819 => (intro wq hSw; (try dsimp only at hSw); first | (go_simp; done) | (go_simp; with_reducible rfl))
                          simp only [Act.put, List.setIfInBounds_toArray, List.set_cons_zero, List.set_cons_succ]
                          refine wpAnyH_take (i := 20) (oi := ⟨some 181, _, _, _, _, _⟩) (v := ?vk820) rfl (by kernel_rfl) (by kernel_rfl) (by kernel_rfl) (fun _ _ _ h => h) (Or.inl ⟨by rfl, ?hyk820⟩) (by assumption) ?restk820
                          case hyk820 => (intro wq hSw; (try dsimp only at hSw); first | (go_simp; done) | (go_simp; with_reducible rfl))
                          simp only [Act.put, List.setIfInBounds_toArray, List.set_cons_zero, List.set_cons_succ]
                          refine wpAnyH_take (i := 21) (oi := ⟨some 182, _, _, _, _, _⟩) (v := ?vk821) rfl (by kernel_rfl) (by kernel_rfl) (by kernel_rfl) (fun _ _ _ h => h) (Or.inl ⟨by rfl, ?hyk821⟩) (by assumption) ?restk821
                          case hyk821 => (intro wq hSw; (try dsimp only at hSw); first | (go_simp; done) | (go_simp; with_reducible rfl))
                          simp only [Act.put, List.setIfInBounds_toArray, List.set_cons_zero, List.set_cons_succ]
                          refine wpAnyH_take (i := 22) (oi := ⟨some 183, _, _, _, _, _⟩) (v := ?vk822) rfl (by kernel_rfl) (by kernel_rfl) (by kernel_rfl) (fun _ _ _ h => h) (Or.inl ⟨by rfl, ?hyk822⟩) (by assumption) ?restk822
                          case hyk822 => (intro wq hSw; (try dsimp only at hSw); first | (go_simp; done) | (go_simp; with_reducible rfl))
                          simp only [Act.put, List.setIfInBounds_toArray, List.set_cons_zero, List.set_cons_succ]
                          refine wpAnyH_take (i := 23) (oi := ⟨some 184, _, _, _, _, _⟩) (v := ?vk823) rfl (by kernel_rfl) (by kernel_rfl) (by kernel_rfl) (fun _ _ _ h => h) (Or.inl ⟨by rfl, ?hyk823⟩) (by assumption) ?restk823
                          case hyk823 => (intro wq hSw; (try dsimp only at hSw); first | (go_simp; done) | (go_simp; with_reducible rfl))
                          simp only [Act.put, List.setIfInBounds_toArray, List.set_cons_zero, List.set_cons_succ]
                          refine wpAnyH_take (i := 24) (oi := ⟨some 185, _, _, _, _, _⟩) (v := ?vk824) rfl (by kernel_rfl) (by kernel_rfl) (by kernel_rfl) (fun _ _ _ h => h) (Or.inl ⟨by rfl, ?hyk824⟩) (by assumption) ?restk824
                          case hyk824 => (intro wq hSw; (try dsimp only at hSw); first | (go_simp; done) | (go_simp; with_reducible rfl))
                          simp only [Act.put, List.setIfInBounds_toArray, List.set_cons_zero, List.set_cons_succ]
                          refine wpAnyH_take (i := 25) (oi := ⟨some 186, _, _, _, _, _⟩) (v := .bool true) rfl (by kernel_rfl) (by kernel_rfl) (by kernel_rfl) (fun _ _ _ h => h) (Or.inl ⟨by rfl, ?hyk825⟩) (by assumption) ?restk825
                          case hyk825 => (intro wq hSw; (try dsimp only at hSw); go_simp; (first | done | simp | assumption | simp_all))
                          simp only [Act.put, List.setIfInBounds_toArray, List.set_cons_zero, List.set_cons_succ]
                          refine wpAnyH_take (i := 26) (oi := ⟨some 187, _, _, _, _, _⟩) (v := ?vk826) rfl (by kernel_rfl) (by kernel_rfl) (by kernel_rfl) (fun _ _ _ h => h) (Or.inl ⟨by rfl, ?hyk826⟩) (by assumption) ?restk826
                          case hyk826 => (intro wq hSw; (try dsimp only at hSw); first | (go_simp; done) | (go_simp; with_reducible rfl))
                          simp only [Act.put, List.setIfInBounds_toArray, List.set_cons_zero, List.set_cons_succ]
                          refine wpAnyH_take (i := 27) (oi := ⟨some 188, _, _, _, _, _⟩) (v := ?vk827) rfl (by kernel_rfl) (by kernel_rfl) (by kernel_rfl) (fun _ _ _ h => h) (Or.inl ⟨by rfl, ?hyk827⟩) (by assumption) ?restk827
                          case hyk827 => (intro wq hSw; (try dsimp only at hSw); first | (go_simp; done) | (go_simp; with_reducible rfl))
                          simp only [Act.put, List.setIfInBounds_toArray, List.set_cons_zero, List.set_cons_succ]
                          refine wpAnyH_take (i := 28) (oi := ⟨some 189, _, _, _, _, _⟩) (v := ?vk828) rfl (by kernel_rfl) (by kernel_rfl) (by kernel_rfl) (fun _ _ _ h => h) (Or.inl ⟨by rfl, ?hyk828⟩) (by assumption) ?restk828
                          case hyk828 => (intro wq hSw; (try dsimp only at hSw); first | (go_simp; done) | (go_simp; with_reducible rfl))
                          simp only [Act.put, List.setIfInBounds_toArray, List.set_cons_zero, List.set_cons_succ]
                          refine wpAnyH_take (i := 29) (oi := ⟨some 190, _, _, _, _, _⟩) (v := ?vk829) rfl (by kernel_rfl) (by kernel_rfl) (by kernel_rfl) (fun _ _ _ h => h) (Or.inl ⟨by rfl, ?hyk829⟩) (by assumption) ?restk829
                          case hyk829 => (intro wq hSw; (try dsimp only at hSw); first | (go_simp; done) | (go_simp; with_reducible rfl))
                          simp only [Act.put, List.setIfInBounds_toArray, List.set_cons_zero, List.set_cons_succ]
                          refine wpAnyH_take (i := 30) (oi := ⟨some 191, _, _, _, _, _⟩) (v := ?vk830) rfl (by kernel_rfl) (by kernel_rfl) (by kernel_rfl) (fun _ _ _ h => h) (Or.inl ⟨by rfl, ?hyk830⟩) (by assumption) ?restk830
                          case hyk830 => (intro wq hSw; (try dsimp only at hSw); first | (go_simp; done) | (go_simp; with_reducible rfl))
                          simp only [Act.put, List.setIfInBounds_toArray, List.set_cons_zero, List.set_cons_succ]
                          refine wpAnyH_take (i := 31) (oi := ⟨some 192, _, _, _, _, _⟩) (v := ?vk831) rfl (by kernel_rfl) (by kernel_rfl) (by kernel_rfl) (fun _ _ _ h => h) (Or.inl ⟨by rfl, ?hyk831⟩) (by assumption) ?restk831
                          case hyk831 => (intro wq hSw; (try dsimp only at hSw); first | (go_simp; done) | (go_simp; with_reducible rfl))
                          simp only [Act.put, List.setIfInBounds_toArray, List.set_cons_zero, List.set_cons_succ]
                          refine wpAnyH_take (i := 32) (oi := ⟨some 193, _, _, _, _, _⟩) (v := ?vk832) rfl (by kernel_rfl) (by kernel_rfl) (by kernel_rfl) (fun _ _ _ h => h) (Or.inl ⟨by rfl, ?hyk832⟩) (by assumption) ?restk832
                          case hyk832 => (intro wq hSw; (try dsimp only at hSw); first | (go_simp; done) | (go_simp; with_reducible rfl))
                          simp only [Act.put, List.setIfInBounds_toArray, List.set_cons_zero, List.set_cons_succ]
                          refine wpAnyH_take (i := 33) (oi := ⟨some 194, _, _, _, _, _⟩) (v := ?vk833) rfl (by kernel_rfl) (by kernel_rfl) (by kernel_rfl) (fun _ _ _ h => h) (Or.inl ⟨by rfl, ?hyk833⟩) (by assumption) ?restk833
                          case hyk833 => (intro wq hSw; (try dsimp only at hSw); first | (go_simp; done) | (go_simp; with_reducible rfl))
                          simp only [Act.put, List.setIfInBounds_toArray, List.set_cons_zero, List.set_cons_succ]
                          refine wpAnyH_take (i := 34) (oi := ⟨some 195, _, _, _, _, _⟩) (v := ?vk834) rfl (by kernel_rfl) (by kernel_rfl) (by kernel_rfl) (fun _ _ _ h => h) (Or.inl ⟨by rfl, ?hyk834⟩) (by assumption) ?restk834
                          case hyk834 => (intro wq hSw; (try dsimp only at hSw); first | (go_simp; done) | (go_simp; with_reducible rfl))
                          simp only [Act.put, List.setIfInBounds_toArray, List.set_cons_zero, List.set_cons_succ]
                          refine wpAnyH_take (i := 35) (oi := ⟨some 196, _, _, _, _, _⟩) (v := ?vk835) rfl (by kernel_rfl) (by kernel_rfl) (by kernel_rfl) (fun _ _ _ h => h) (Or.inl ⟨by rfl, ?hyk835⟩) (by assumption) ?restk835
                          case hyk835 => (intro wq hSw; (try dsimp only at hSw); first | (go_simp; done) | (go_simp; with_reducible rfl))
                          simp only [Act.put, List.setIfInBounds_toArray, List.set_cons_zero, List.set_cons_succ]
                          refine wpAnyH_take (i := 36) (oi := ⟨some 197, _, _, _, _, _⟩) (v := ?vk836) rfl (by kernel_rfl) (by kernel_rfl) (by kernel_rfl) (fun _ _ _ h => h) (Or.inl ⟨by rfl, ?hyk836⟩) (by assumption) ?restk836
                          case hyk836 => (intro wq hSw; (try dsimp only at hSw); first | (go_simp; done) | (go_simp; with_reducible rfl))
                          simp only [Act.put, List.setIfInBounds_toArray, List.set_cons_zero, List.set_cons_succ]
                          refine wpAnyH_take (i := 37) (oi := ⟨some 198, _, _, _, _, _⟩) (v := ?vk837) rfl (by kernel_rfl) (by kernel_rfl) (by kernel_rfl) (fun _ _ _ h => h) (Or.inl ⟨by rfl, ?hyk837⟩) (by assumption) ?restk837
                          case hyk837 => (intro wq hSw; (try dsimp only at hSw); first | (go_simp; done) | (go_simp; with_reducible rfl))
                          simp only [Act.put, List.setIfInBounds_toArray, List.set_cons_zero, List.set_cons_succ]
                          refine wpAnyH_take (i := 38) (oi := ⟨some 199, _, _, _, _, _⟩) (v := ?vk838) rfl (by kernel_rfl) (by kernel_rfl) (by kernel_rfl) (fun _ _ _ h => h) (Or.inl ⟨by rfl, ?hyk838⟩) (by assumption) ?restk838
                          case hyk838 => (intro wq hSw; (try dsimp only at hSw); first | (go_simp; done) | (go_simp; with_reducible rfl))
                          simp only [Act.put, List.setIfInBounds_toArray, List.set_cons_zero, List.set_cons_succ]
                          refine wpAnyH_ready (rs := [39]) (by kernel_rfl) (by simp) ?_
                          refine AllReadyH.cons rfl (fun K hK => ?_) AllReadyH.nil
                          go_simp
                          (go_at_call 17; refine Calls.mono (HCall.out _ HBj.out hok9) ?_; rintro e wn ⟨rfl, hbn⟩; replace HBj : Hid (Below wr.heap.size wr wn) := HBj.out.trans (hbn.mono HBj.out.size); clear g0 g1 g2 xc n0 n1 n2 n3 hok9; obtain ⟨⟨g0, g1, g2, xc, n0, n1, n2, n3⟩, hok9⟩ := HY.out wn HBj.out; clear hbn)
                          refine hK.out _ _ ?_ (fun hHeld => ?_)
                          · first | (dsimp only; done) | (dsimp only; go_keep) | go_keep
                          clear hK K
                          refine wpAnyH_take (i := 40) (oi := ⟨some 201, _, _, _, _, _⟩) (v := .bool false) rfl (by kernel_rfl) (by kernel_rfl) (by kernel_rfl) (fun _ _ _ h => h) (Or.inl ⟨by rfl, ?hyk840⟩) (by assumption) ?restk840
                          case hyk840 => (intro wq hSw; (try dsimp only at hSw); go_simp; (first | done | simp | assumption | simp_all))
                          simp only [Act.put, List.setIfInBounds_toArray, List.set_cons_zero, List.set_cons_succ]
                          refine wpAnyH_take (i := 41) (oi := ⟨some 202, _, _, _, _, _⟩) (v := .bool false) rfl (by kernel_rfl) (by kernel_rfl) (by kernel_rfl) (fun _ _ _ h => h) (Or.inl ⟨by rfl, ?hyk841⟩) (by assumption) ?restk841
                          case hyk841 => (intro wq hSw; (try dsimp only at hSw); go_simp; (first | done | simp | assumption | simp_all))
                          simp only [Act.put, List.setIfInBounds_toArray, List.set_cons_zero, List.set_cons_succ]
                          refine wpAnyH_take (i := 42) (oi := ⟨some 203, _, _, _, _, _⟩) (v := .bool false) rfl (by kernel_rfl) (by kernel_rfl) (by kernel_rfl) (fun _ _ _ h => h) (Or.inl ⟨by rfl, ?hyk842⟩) (by assumption) ?restk842
                          case hyk842 => (intro wq hSw; (try dsimp only at hSw); go_simp; (first | done | simp | assumption | simp_all))
                          simp only [Act.put, List.setIfInBounds_toArray, List.set_cons_zero, List.set_cons_succ]
                          refine wpAnyH_done (by kernel_rfl) ?_ _
                          have HBn : Hid (Below X.heap.size X _) := HBx.out.trans (HBj.out.mono HBx.out.size)
                          clear HBj
                          go_wp2
                          go_roundw
                          case rel => exact ⟨j + 1, by go_num, by omega, HBn⟩
                          case measure => simp [intOf]; omega
                        · have hq2 : (nk == 2) = false := beq_eq_false_iff_ne.2 hn2
                          have hq8 : (nk == 8) = false := beq_eq_false_iff_ne.2 hn8
                          clear hA hI hS HCall0
                          go_upto_region 32 with fail
                          refine wp_region_held_drew (S := (fun w' => w'.cell? ⟨G, 0, none⟩ = some (.string ⟨gn.toArray⟩) ∧ w'.cell? ⟨G, 1, none⟩ = some (.int .i64 gA) ∧ w'.cell? ⟨G, 2, none⟩ = some (.slice (some ⟨tb, tp, none⟩) tl tc) ∧ w'.cell? ⟨b, off + i * 3, none⟩ = some (.string ⟨x.toArray⟩) ∧ w'.cell? ⟨tb, tp + j * 4, none⟩ = some (.int .i64 nk) ∧ w'.cell? ⟨tb, tp + j * 4 + 1, none⟩ = some (.int .i64 nA) ∧ w'.cell? ⟨tb, tp + j * 4 + 2, none⟩ = some (.string ⟨np.toArray⟩) ∧ w'.cell? ⟨tb, tp + j * 4 + 3, none⟩ = some (.string ⟨nf.toArray⟩))) (by kernel_rfl) ?_ (fun hHeld => ?_)
                          · first | (dsimp only; done) | (dsimp only; go_keep) | go_keep
                          have HBj : Hid (Below wr.heap.size wr wr.drew) := ⟨rfl, rfl, rfl, Nat.le_refl _, fun _ _ => rfl⟩
                          replace hok9 := (HY.out _ HBj.out).2
                          refine wpAnyH_take (i := 0) (oi := ⟨some 161, _, _, _, _, _⟩) (v := ?vk00) rfl (by kernel_rfl) (by kernel_rfl) (by kernel_rfl) (fun _ _ _ h => h) (Or.inl ⟨by rfl, ?hyk00⟩) (by assumption) ?restk00
                          case hyk00 => (intro wq hSw; (try dsimp only at hSw); first | (go_simp; done) | (go_simp; with_reducible rfl))
                          simp only [Act.put, List.setIfInBounds_toArray, List.set_cons_zero, List.set_cons_succ]
                          refine wpAnyH_take (i := 1) (oi := ⟨some 162, _, _, _, _, _⟩) (v := ?vk01) rfl (by kernel_rfl) (by kernel_rfl) (by kernel_rfl) (fun _ _ _ h => h) (Or.inl ⟨by rfl, ?hyk01⟩) (by assumption) ?restk01
                          case hyk01 => (intro wq hSw; (try dsimp only at hSw); first | (go_simp; done) | (go_simp; with_reducible rfl))
                          simp only [Act.put, List.setIfInBounds_toArray, List.set_cons_zero, List.set_cons_succ]
                          refine wpAnyH_take (i := 2) (oi := ⟨some 163, _, _, _, _, _⟩) (v := ?vk02) rfl (by kernel_rfl) (by kernel_rfl) (by kernel_rfl) (fun _ _ _ h => h) (Or.inl ⟨by rfl, ?hyk02⟩) (by assumption) ?restk02
                          case hyk02 => (intro wq hSw; (try dsimp only at hSw); first | (go_simp; done) | (go_simp; with_reducible rfl))
                          simp only [Act.put, List.setIfInBounds_toArray, List.set_cons_zero, List.set_cons_succ]
                          refine wpAnyH_take (i := 3) (oi := ⟨some 164, _, _, _, _, _⟩) (v := ?vk03) rfl (by kernel_rfl) (by kernel_rfl) (by kernel_rfl) (fun _ _ _ h => h) (Or.inl ⟨by rfl, ?hyk03⟩) (by assumption) ?restk03
                          case hyk03 => (intro wq hSw; (try dsimp only at hSw); first | (go_simp; done) | (go_simp; with_reducible rfl))
                          simp only [Act.put, List.setIfInBounds_toArray, List.set_cons_zero, List.set_cons_succ]
                          refine wpAnyH_take (i := 4) (oi := ⟨some 165, _, _, _, _, _⟩) (v := ?vk04) rfl (by kernel_rfl) (by kernel_rfl) (by kernel_rfl) (fun _ _ _ h => h) (Or.inl ⟨by rfl, ?hyk04⟩) (by assumption) ?restk04
                          case hyk04 => (intro wq hSw; (try dsimp only at hSw); first | (go_simp; done) | (go_simp; with_reducible rfl))
                          simp only [Act.put, List.setIfInBounds_toArray, List.set_cons_zero, List.set_cons_succ]
                          refine wpAnyH_take (i := 5) (oi := ⟨some 166, _, _, _, _, _⟩) (v := ?vk05) rfl (by kernel_rfl) (by kernel_rfl) (by kernel_rfl) (fun _ _ _ h => h) (Or.inl ⟨by rfl, ?hyk05⟩) (by assumption) ?restk05
                          case hyk05 => (intro wq hSw; (try dsimp only at hSw); first | (go_simp; done) | (go_simp; with_reducible rfl))
                          simp only [Act.put, List.setIfInBounds_toArray, List.set_cons_zero, List.set_cons_succ]
                          refine wpAnyH_take (i := 6) (oi := ⟨some 167, _, _, _, _, _⟩) (v := .bool false) rfl (by kernel_rfl) (by kernel_rfl) (by kernel_rfl) (fun _ _ _ h => h) (Or.inl ⟨by rfl, ?hyk06⟩) (by assumption) ?restk06
                          case hyk06 => (intro wq hSw; (try dsimp only at hSw); go_simp; (first | done | simp | assumption | simp_all))
                          simp only [Act.put, List.setIfInBounds_toArray, List.set_cons_zero, List.set_cons_succ]
                          refine wpAnyH_take (i := 7) (oi := ⟨some 168, _, _, _, _, _⟩) (v := ?vk07) rfl (by kernel_rfl) (by kernel_rfl) (by kernel_rfl) (fun _ _ _ h => h) (Or.inl ⟨by rfl, ?hyk07⟩) (by assumption) ?restk07
                          case hyk07 => (intro wq hSw; (try dsimp only at hSw); first | (go_simp; done) | (go_simp; with_reducible rfl))
                          simp only [Act.put, List.setIfInBounds_toArray, List.set_cons_zero, List.set_cons_succ]
                          refine wpAnyH_take (i := 8) (oi := ⟨some 169, _, _, _, _, _⟩) (v := undef) rfl (by kernel_rfl) (by kernel_rfl) (by kernel_rfl) (fun _ _ _ h => h) (Or.inr ⟨by rfl, rfl⟩) (by assumption) ?_
                          simp only [Act.put, List.setIfInBounds_toArray, List.set_cons_zero, List.set_cons_succ]
                          refine wpAnyH_take (i := 9) (oi := ⟨some 170, _, _, _, _, _⟩) (v := undef) rfl (by kernel_rfl) (by kernel_rfl) (by kernel_rfl) (fun _ _ _ h => h) (Or.inr ⟨by rfl, rfl⟩) (by assumption) ?_
                          simp only [Act.put, List.setIfInBounds_toArray, List.set_cons_zero, List.set_cons_succ]
                          refine wpAnyH_take (i := 10) (oi := ⟨some 171, _, _, _, _, _⟩) (v := undef) rfl (by kernel_rfl) (by kernel_rfl) (by kernel_rfl) (fun _ _ _ h => h) (Or.inr ⟨by rfl, rfl⟩) (by assumption) ?_
                          simp only [Act.put, List.setIfInBounds_toArray, List.set_cons_zero, List.set_cons_succ]
                          refine wpAnyH_take (i := 11) (oi := ⟨some 172, _, _, _, _, _⟩) (v := undef) rfl (by kernel_rfl) (by kernel_rfl) (by kernel_rfl) (fun _ _ _ h => h) (Or.inr ⟨by rfl, rfl⟩) (by assumption) ?_
                          simp only [Act.put, List.setIfInBounds_toArray, List.set_cons_zero, List.set_cons_succ]
                          refine wpAnyH_take (i := 12) (oi := ⟨some 173, _, _, _, _, _⟩) (v := undef) rfl (by kernel_rfl) (by kernel_rfl) (by kernel_rfl) (fun _ _ _ h => h) (Or.inr ⟨by rfl, rfl⟩) (by assumption) ?_
                          simp only [Act.put, List.setIfInBounds_toArray, List.set_cons_zero, List.set_cons_succ]
                          refine wpAnyH_take (i := 13) (oi := ⟨some 174, _, _, _, _, _⟩) (v := undef) rfl (by kernel_rfl) (by kernel_rfl) (by kernel_rfl) (fun _ _ _ h => h) (Or.inr ⟨by rfl, rfl⟩) (by assumption) ?_
                          simp only [Act.put, List.setIfInBounds_toArray, List.set_cons_zero, List.set_cons_succ]
                          refine wpAnyH_take (i := 14) (oi := ⟨some 175, _, _, _, _, _⟩) (v := undef) rfl (by kernel_rfl) (by kernel_rfl) (by kernel_rfl) (fun _ _ _ h => h) (Or.inr ⟨by rfl, rfl⟩) (by assumption) ?_
                          simp only [Act.put, List.setIfInBounds_toArray, List.set_cons_zero, List.set_cons_succ]
                          refine wpAnyH_take (i := 15) (oi := ⟨some 176, _, _, _, _, _⟩) (v := undef) rfl (by kernel_rfl) (by kernel_rfl) (by kernel_rfl) (fun _ _ _ h => h) (Or.inr ⟨by rfl, rfl⟩) (by assumption) ?_
                          simp only [Act.put, List.setIfInBounds_toArray, List.set_cons_zero, List.set_cons_succ]
                          refine wpAnyH_take (i := 16) (oi := ⟨some 177, _, _, _, _, _⟩) (v := undef) rfl (by kernel_rfl) (by kernel_rfl) (by kernel_rfl) (fun _ _ _ h => h) (Or.inr ⟨by rfl, rfl⟩) (by assumption) ?_
                          simp only [Act.put, List.setIfInBounds_toArray, List.set_cons_zero, List.set_cons_succ]
                          refine wpAnyH_take (i := 17) (oi := ⟨some 178, _, _, _, _, _⟩) (v := .bool false) rfl (by kernel_rfl) (by kernel_rfl) (by kernel_rfl) (fun _ _ _ h => h) (Or.inl ⟨by rfl, ?hyk017⟩) (by assumption) ?restk017
                          case hyk017 => (intro wq hSw; (try dsimp only at hSw); go_simp; (first | done | simp | assumption | simp_all))
                          simp only [Act.put, List.setIfInBounds_toArray, List.set_cons_zero, List.set_cons_succ]
                          refine wpAnyH_take (i := 18) (oi := ⟨some 179, _, _, _, _, _⟩) (v := ?vk018) rfl (by kernel_rfl) (by kernel_rfl) (by kernel_rfl) (fun _ _ _ h => h) (Or.inl ⟨by rfl, ?hyk018⟩) (by assumption) ?restk018
                          case hyk018 => (intro wq hSw; (try dsimp only at hSw); first | (go_simp; done) | (go_simp; with_reducible rfl))
                          simp only [Act.put, List.setIfInBounds_toArray, List.set_cons_zero, List.set_cons_succ]
                          refine wpAnyH_take (i := 19) (oi := ⟨some 180, _, _, _, _, _⟩) (v := ?vk019) rfl (by kernel_rfl) (by kernel_rfl) (by kernel_rfl) (fun _ _ _ h => h) (Or.inl ⟨by rfl, ?hyk019⟩) (by assumption) ?restk019
                          case hyk019 => (intro wq hSw; (try dsimp only at hSw); first | (go_simp; done) | (go_simp; with_reducible rfl))
                          simp only [Act.put, List.setIfInBounds_toArray, List.set_cons_zero, List.set_cons_succ]
                          refine wpAnyH_take (i := 20) (oi := ⟨some 181, _, _, _, _, _⟩) (v := ?vk020) rfl (by kernel_rfl) (by kernel_rfl) (by kernel_rfl) (fun _ _ _ h => h) (Or.inl ⟨by rfl, ?hyk020⟩) (by assumption) ?restk020
                          case hyk020 => (intro wq hSw; (try dsimp only at hSw); first | (go_simp; done) | (go_simp; with_reducible rfl))
                          simp only [Act.put, List.setIfInBounds_toArray, List.set_cons_zero, List.set_cons_succ]
                          refine wpAnyH_take (i := 21) (oi := ⟨some 182, _, _, _, _, _⟩) (v := ?vk021) rfl (by kernel_rfl) (by kernel_rfl) (by kernel_rfl) (fun _ _ _ h => h) (Or.inl ⟨by rfl, ?hyk021⟩) (by assumption) ?restk021
                          case hyk021 => (intro wq hSw; (try dsimp only at hSw); first | (go_simp; done) | (go_simp; with_reducible rfl))
                          simp only [Act.put, List.setIfInBounds_toArray, List.set_cons_zero, List.set_cons_succ]
                          refine wpAnyH_take (i := 22) (oi := ⟨some 183, _, _, _, _, _⟩) (v := ?vk022) rfl (by kernel_rfl) (by kernel_rfl) (by kernel_rfl) (fun _ _ _ h => h) (Or.inl ⟨by rfl, ?hyk022⟩) (by assumption) ?restk022
                          case hyk022 => (intro wq hSw; (try dsimp only at hSw); first | (go_simp; done) | (go_simp; with_reducible rfl))
                          simp only [Act.put, List.setIfInBounds_toArray, List.set_cons_zero, List.set_cons_succ]
                          refine wpAnyH_take (i := 23) (oi := ⟨some 184, _, _, _, _, _⟩) (v := ?vk023) rfl (by kernel_rfl) (by kernel_rfl) (by kernel_rfl) (fun _ _ _ h => h) (Or.inl ⟨by rfl, ?hyk023⟩) (by assumption) ?restk023
                          case hyk023 => (intro wq hSw; (try dsimp only at hSw); first | (go_simp; done) | (go_simp; with_reducible rfl))
                          simp only [Act.put, List.setIfInBounds_toArray, List.set_cons_zero, List.set_cons_succ]
                          refine wpAnyH_take (i := 24) (oi := ⟨some 185, _, _, _, _, _⟩) (v := ?vk024) rfl (by kernel_rfl) (by kernel_rfl) (by kernel_rfl) (fun _ _ _ h => h) (Or.inl ⟨by rfl, ?hyk024⟩) (by assumption) ?restk024
                          case hyk024 => (intro wq hSw; (try dsimp only at hSw); first | (go_simp; done) | (go_simp; with_reducible rfl))
                          simp only [Act.put, List.setIfInBounds_toArray, List.set_cons_zero, List.set_cons_succ]
                          refine wpAnyH_take (i := 25) (oi := ⟨some 186, _, _, _, _, _⟩) (v := .bool false) rfl (by kernel_rfl) (by kernel_rfl) (by kernel_rfl) (fun _ _ _ h => h) (Or.inl ⟨by rfl, ?hyk025⟩) (by assumption) ?restk025
                          case hyk025 => (intro wq hSw; (try dsimp only at hSw); go_simp; (first | done | simp | assumption | simp_all))
                          simp only [Act.put, List.setIfInBounds_toArray, List.set_cons_zero, List.set_cons_succ]
                          refine wpAnyH_take (i := 26) (oi := ⟨some 187, _, _, _, _, _⟩) (v := ?vk026) rfl (by kernel_rfl) (by kernel_rfl) (by kernel_rfl) (fun _ _ _ h => h) (Or.inl ⟨by rfl, ?hyk026⟩) (by assumption) ?restk026
                          case hyk026 => (intro wq hSw; (try dsimp only at hSw); first | (go_simp; done) | (go_simp; with_reducible rfl))
                          simp only [Act.put, List.setIfInBounds_toArray, List.set_cons_zero, List.set_cons_succ]
                          refine wpAnyH_take (i := 27) (oi := ⟨some 188, _, _, _, _, _⟩) (v := undef) rfl (by kernel_rfl) (by kernel_rfl) (by kernel_rfl) (fun _ _ _ h => h) (Or.inr ⟨by rfl, rfl⟩) (by assumption) ?_
                          simp only [Act.put, List.setIfInBounds_toArray, List.set_cons_zero, List.set_cons_succ]
                          refine wpAnyH_take (i := 28) (oi := ⟨some 189, _, _, _, _, _⟩) (v := undef) rfl (by kernel_rfl) (by kernel_rfl) (by kernel_rfl) (fun _ _ _ h => h) (Or.inr ⟨by rfl, rfl⟩) (by assumption) ?_
                          simp only [Act.put, List.setIfInBounds_toArray, List.set_cons_zero, List.set_cons_succ]
                          refine wpAnyH_take (i := 29) (oi := ⟨some 190, _, _, _, _, _⟩) (v := undef) rfl (by kernel_rfl) (by kernel_rfl) (by kernel_rfl) (fun _ _ _ h => h) (Or.inr ⟨by rfl, rfl⟩) (by assumption) ?_
                          simp only [Act.put, List.setIfInBounds_toArray, List.set_cons_zero, List.set_cons_succ]
                          refine wpAnyH_take (i := 30) (oi := ⟨some 191, _, _, _, _, _⟩) (v := undef) rfl (by kernel_rfl) (by kernel_rfl) (by kernel_rfl) (fun _ _ _ h => h) (Or.inr ⟨by rfl, rfl⟩) (by assumption) ?_
                          simp only [Act.put, List.setIfInBounds_toArray, List.set_cons_zero, List.set_cons_succ]
                          refine wpAnyH_take (i := 31) (oi := ⟨some 192, _, _, _, _, _⟩) (v := undef) rfl (by kernel_rfl) (by kernel_rfl) (by kernel_rfl) (fun _ _ _ h => h) (Or.inr ⟨by rfl, rfl⟩) (by assumption) ?_
                          simp only [Act.put, List.setIfInBounds_toArray, List.set_cons_zero, List.set_cons_succ]
                          refine wpAnyH_take (i := 32) (oi := ⟨some 193, _, _, _, _, _⟩) (v := undef) rfl (by kernel_rfl) (by kernel_rfl) (by kernel_rfl) (fun _ _ _ h => h) (Or.inr ⟨by rfl, rfl⟩) (by assumption) ?_
                          simp only [Act.put, List.setIfInBounds_toArray, List.set_cons_zero, List.set_cons_succ]
                          refine wpAnyH_take (i := 33) (oi := ⟨some 194, _, _, _, _, _⟩) (v := undef) rfl (by kernel_rfl) (by kernel_rfl) (by kernel_rfl) (fun _ _ _ h => h) (Or.inr ⟨by rfl, rfl⟩) (by assumption) ?_
                          simp only [Act.put, List.setIfInBounds_toArray, List.set_cons_zero, List.set_cons_succ]
                          refine wpAnyH_take (i := 34) (oi := ⟨some 195, _, _, _, _, _⟩) (v := undef) rfl (by kernel_rfl) (by kernel_rfl) (by kernel_rfl) (fun _ _ _ h => h) (Or.inr ⟨by rfl, rfl⟩) (by assumption) ?_
                          simp only [Act.put, List.setIfInBounds_toArray, List.set_cons_zero, List.set_cons_succ]
                          refine wpAnyH_take (i := 35) (oi := ⟨some 196, _, _, _, _, _⟩) (v := undef) rfl (by kernel_rfl) (by kernel_rfl) (by kernel_rfl) (fun _ _ _ h => h) (Or.inr ⟨by rfl, rfl⟩) (by assumption) ?_
                          simp only [Act.put, List.setIfInBounds_toArray, List.set_cons_zero, List.set_cons_succ]
                          refine wpAnyH_take (i := 36) (oi := ⟨some 197, _, _, _, _, _⟩) (v := undef) rfl (by kernel_rfl) (by kernel_rfl) (by kernel_rfl) (fun _ _ _ h => h) (Or.inr ⟨by rfl, rfl⟩) (by assumption) ?_
                          simp only [Act.put, List.setIfInBounds_toArray, List.set_cons_zero, List.set_cons_succ]
                          refine wpAnyH_take (i := 37) (oi := ⟨some 198, _, _, _, _, _⟩) (v := undef) rfl (by kernel_rfl) (by kernel_rfl) (by kernel_rfl) (fun _ _ _ h => h) (Or.inr ⟨by rfl, rfl⟩) (by assumption) ?_
                          simp only [Act.put, List.setIfInBounds_toArray, List.set_cons_zero, List.set_cons_succ]
                          refine wpAnyH_take (i := 38) (oi := ⟨some 199, _, _, _, _, _⟩) (v := undef) rfl (by kernel_rfl) (by kernel_rfl) (by kernel_rfl) (fun _ _ _ h => h) (Or.inr ⟨by rfl, rfl⟩) (by assumption) ?_
                          simp only [Act.put, List.setIfInBounds_toArray, List.set_cons_zero, List.set_cons_succ]
                          refine wpAnyH_take (i := 39) (oi := ⟨some 200, _, _, _, _, _⟩) (v := undef) rfl (by kernel_rfl) (by kernel_rfl) (by kernel_rfl) (fun _ _ _ h => h) (Or.inr ⟨by rfl, rfl⟩) (by assumption) ?_
                          simp only [Act.put, List.setIfInBounds_toArray, List.set_cons_zero, List.set_cons_succ]
                          refine wpAnyH_take (i := 40) (oi := ⟨some 201, _, _, _, _, _⟩) (v := undef) rfl (by kernel_rfl) (by kernel_rfl) (by kernel_rfl) (fun _ _ _ h => h) (Or.inr ⟨by rfl, rfl⟩) (by assumption) ?_
                          simp only [Act.put, List.setIfInBounds_toArray, List.set_cons_zero, List.set_cons_succ]
                          refine wpAnyH_take (i := 41) (oi := ⟨some 202, _, _, _, _, _⟩) (v := .bool false) rfl (by kernel_rfl) (by kernel_rfl) (by kernel_rfl) (fun _ _ _ h => h) (Or.inl ⟨by rfl, ?hyk041⟩) (by assumption) ?restk041
                          case hyk041 => (intro wq hSw; (try dsimp only at hSw); go_simp; (first | done | simp | assumption | simp_all))
                          simp only [Act.put, List.setIfInBounds_toArray, List.set_cons_zero, List.set_cons_succ]
                          refine wpAnyH_take (i := 42) (oi := ⟨some 203, _, _, _, _, _⟩) (v := .bool false) rfl (by kernel_rfl) (by kernel_rfl) (by kernel_rfl) (fun _ _ _ h => h) (Or.inl ⟨by rfl, ?hyk042⟩) (by assumption) ?restk042
                          case hyk042 => (intro wq hSw; (try dsimp only at hSw); go_simp; (first | done | simp | assumption | simp_all))
                          simp only [Act.put, List.setIfInBounds_toArray, List.set_cons_zero, List.set_cons_succ]
                          refine wpAnyH_done (by kernel_rfl) ?_ _
                          have HBn : Hid (Below X.heap.size X _) := HBx.out.trans (HBj.out.mono HBx.out.size)
                          clear HBj
                          go_wp2
                          go_roundw
                          case rel => exact ⟨j + 1, by go_num, by omega, HBn⟩
                          case measure => simp [intOf]; omega
                    · have HBn : Hid (Below V.heap.size V wr) := hBv
                      clear hnd hok9 hBv
                      go_wp2
                      go_roundw
                      case rel => exact ⟨k + 1, mb2, rfl, by go_num, by omega, HM2, HBn⟩
                      case measure => simp [intOf]; omega
              · have HMi : Hid (M9 ps (i + 1) 0 → mb = true) := fun h => HM.out (m9_next (by have := HFQ.out; omega) h)
                clear hok hpk
                go_wp2
                go_roundw
                case rel => exact ⟨i + 1, mb, rfl, by go_num, by omega, HMi, HB⟩
                case measure => simp [intOf]; omega
      · have hE : mb = true := HM.out (by
          obtain rfl : i = ps.length := by omega
          exact HMain.out)
        subst hE
        have HE := (HZ.out wr HB.out).2.2.2.2.2
        go_wp2
        go_ret
        exact ⟨rfl, HE⟩

end Go.Proofs.YtdjglpcllcjcfaaGreatDoor
