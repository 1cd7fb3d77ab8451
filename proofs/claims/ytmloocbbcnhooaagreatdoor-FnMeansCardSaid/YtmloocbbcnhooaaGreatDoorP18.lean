/-
  Parts of one proof, one behind the other: ValJ, ValK.
-/
import Derived.Test.YtmloocbbcnhooaaGreatDoorP17

/-! The contracts of chapter 10's landed code: two words; a test. -/
namespace Go.Proofs.YtmloocbbcnhooaaGreatDoor
open Go.RowKit

/-- A walk that is stopped stays as it is. -/
theorem bind_stop {C : Cmp10} {D : Int → Cmp10} {s : St10} (hD : ∀ v, Sk10 (D v)) (h : (C s).2.2 ≠ 0) : bind10 C D s = (0, (C s).2) := by
  unfold bind10
  exact (hD _).stop _ h
theorem bind_go (C : Cmp10) (D : Int → Cmp10) (s : St10) {v : Int} {f : Nat} {c : Int} (h : C s = (v, (f, c))) : bind10 C D s = D v (f, c) := by unfold bind10; rw [h]

/-- The parts of a node with two or three parts. -/
theorem part_two {t : List Nd} {a : Nat} (hp : 0 ≤ endV t (a : Int)) (hk : kidsN (t.getD a nd0) = 2) :
    (pts10 t (a : Int)).getD 0 0 = ((a + 1 : Nat) : Int) ∧ (pts10 t (a : Int)).getD 1 0 = endV t ((a + 1 : Nat) : Int) ∧ 0 ≤ endV t ((a + 1 : Nat) : Int) ∧ 0 ≤ endV t (endV t ((a + 1 : Nat) : Int)) ∧ endV t (endV t ((a + 1 : Nat) : Int)) = endV t (a : Int) := by
  obtain ⟨_, _, hc, _, _⟩ := end_parts hp
  have hc2 : chain t (kidsN (t.getD a nd0)) ((a + 1 : Nat) : Int) = endV t (a : Int) := hc
  have e0 := pts_chain t a 0 (by omega)
  have e1 := pts_chain t a 1 (by omega)
  obtain ⟨q0, h0, _, h0e⟩ := part_place hp (i := 0) (by omega)
  obtain ⟨q1, h1, _, h1e⟩ := part_place hp (i := 1) (by omega)
  rw [hk] at hc2
  rw [← h0, e0] at h0e
  rw [← h1, e1] at h1e
  exact ⟨e0, e1, h0e, h1e, hc2⟩
theorem part_three {t : List Nd} {a : Nat} (hp : 0 ≤ endV t (a : Int)) (hk : kidsN (t.getD a nd0) = 3) :
    ((pts10 t (a : Int)).getD 0 0 = ((a + 1 : Nat) : Int) ∧ (pts10 t (a : Int)).getD 1 0 = endV t ((a + 1 : Nat) : Int) ∧ (pts10 t (a : Int)).getD 2 0 = endV t (endV t ((a + 1 : Nat) : Int))) ∧ 0 ≤ endV t ((a + 1 : Nat) : Int) ∧ 0 ≤ endV t (endV t ((a + 1 : Nat) : Int)) ∧ 0 ≤ endV t (endV t (endV t ((a + 1 : Nat) : Int))) ∧ endV t (endV t (endV t ((a + 1 : Nat) : Int))) = endV t (a : Int) := by
  obtain ⟨_, _, hc, _, _⟩ := end_parts hp
  have hc2 : chain t (kidsN (t.getD a nd0)) ((a + 1 : Nat) : Int) = endV t (a : Int) := hc
  have e0 := pts_chain t a 0 (by omega)
  have e1 := pts_chain t a 1 (by omega)
  have e2 := pts_chain t a 2 (by omega)
  obtain ⟨q0, h0, _, h0e⟩ := part_place hp (i := 0) (by omega)
  obtain ⟨q1, h1, _, h1e⟩ := part_place hp (i := 1) (by omega)
  obtain ⟨q2, h2, _, h2e⟩ := part_place hp (i := 2) (by omega)
  rw [hk] at hc2
  rw [← h0, e0] at h0e
  rw [← h1, e1] at h1e
  rw [← h2, e2] at h2e
  exact ⟨⟨e0, e1, e2⟩, h0e, h1e, h2e, hc2⟩
theorem end_small {t : List Nd} {q : Int} (h : 0 ≤ endV t q) (hl : t.length ≤ 1048576) : 0 ≤ q ∧ q ≤ 1048576 := by
  obtain ⟨k, rfl, hk⟩ := endV_place h
  omega

set_option maxHeartbeats 4000000 in
set_option maxRecDepth 100000 in
theorem implPair (B : World) (la : Option Addr) (lc : Nat) (ps : List Pk) (A d : Nat) (ih : Vi10 B la lc ps A d)
    (Z : World) (f : Nat) (ta : Option Addr) (tc : Nat) (t : List Nd) (m : Int) (G : Nat) (aa : Option Addr) (ac : Nat) (xs : List Int) (a : Nat) (E : Env10 B ps A G ta t xs m) (hB : Below B.heap.size B Z) (hf : f < d) (hA : Ak Z A (.slice la ps.length lc) f) (hg : Go10 Z A G (.slice ta t.length tc) aa ac xs ((a + 1 : Nat) : Int)) (hp : 0 ≤ endV t (a : Int)) (hkd : 3 ≤ (t.getD a nd0).1 ∧ (t.getD a nd0).1 ≤ 6) :
    Calls Tryz.prog 79 #[.pointer (some ⟨A, 0, none⟩), .pointer (some ⟨G, 0, none⟩), .int .i64 (t.getD a nd0).1] Z (Post10 Z A G (.slice la ps.length lc) (.slice ta t.length tc) aa ac xs (endV t (a : Int)) (node10 ps (val10 ps d) t (a : Int) xs (t.getD a nd0) (f, 0))) := by
  have hk2 : kidsN (t.getD a nd0) = 2 := by unfold kidsN; rw [if_pos hkd]
  obtain ⟨e0, e1, h0, h1, h2⟩ := part_two hp hk2
  have hr : node10 ps (val10 ps d) t (a : Int) xs (t.getD a nd0) (f, 0) = bind10 (val10 ps d t ((a + 1 : Nat) : Int) xs) (fun x => bind10 (val10 ps d t (endV t ((a + 1 : Nat) : Int)) xs) (fun y => fin10 (doneV (t.getD a nd0).1 x y) (doneB (t.getD a nd0).1 x y))) (f, 0) := by
    unfold node10
    rw [if_neg (by omega), if_neg (by omega), if_neg (by omega), if_neg (by omega), e0, e1]
  rw [hr]
  clear hr e0 e1
  generalize (t.getD a nd0).1 = kd
  rw [← h2]
  obtain ⟨q1, hq1⟩ : ∃ q1, endV t ((a + 1 : Nat) : Int) = q1 := ⟨_, rfl⟩
  have H0 : Hid (_) := ih.at (tc := tc) (ac := ac) E hB hf hA hg h0
  rw [hq1] at H0 h1 ⊢
  obtain ⟨r0, hr0⟩ : ∃ r0, val10 ps d t ((a + 1 : Nat) : Int) xs (f, 0) = r0 := ⟨_, rfl⟩
  have hl0 := (Sk10.val ps d t ((a + 1 : Nat) : Int) xs).less (f, 0)
  rw [hr0] at H0 hl0
  obtain ⟨v0, f0, c0⟩ := r0
  simp only at hl0
  have HS : Hid (∀ x, Sk10 (bind10 (val10 ps d t q1 xs) (fun y => fin10 (doneV kd x y) (doneB kd x y)))) := fun x => (Sk10.val ps d t q1 xs).bind (fun y => Sk10.fin _ _)
  have HE : Hid (_) := E
  have HIH : Hid (Vi10 B la lc ps A d) := ih
  have HBb : Hid (_) := hB
  by_cases hc0 : c0 = 0
  rotate_left
  · have hR : bind10 (val10 ps d t ((a + 1 : Nat) : Int) xs) (fun x => bind10 (val10 ps d t q1 xs) (fun y => fin10 (doneV kd x y) (doneB kd x y))) (f, 0) = (0, (f0, c0)) := (bind_stop HS.out (by rw [hr0]; exact hc0)).trans (by rw [hr0])
    rw [hR]
    clear hR hr0 HS ih E hB hA hg hp h0 h1 h2 hq1 hk2 hkd
    go_enter Tryz.func79, Tryz.ntmps79
    go_wp2_with fail
    refine Calls.mono H0.out ?_
    rintro e Z1 ⟨hA1, hw1, hh⟩
    rcases hh with ⟨hc, _⟩ | ⟨_, rfl⟩
    · exact absurd hc hc0
    · exact ⟨rfl, hA1, hw1, Or.inr ⟨hc0, rfl⟩⟩
  subst hc0
  rw [bind_go _ _ _ hr0]
  obtain ⟨r1, hr1⟩ : ∃ r1, val10 ps d t q1 xs (f0, 0) = r1 := ⟨_, rfl⟩
  have hl1 := (Sk10.val ps d t q1 xs).less (f0, 0)
  rw [hr1] at hl1
  obtain ⟨v1, f1, c1⟩ := r1
  simp only at hl1
  have H1 : Hid (∀ Y, Ak Y A (.slice la ps.length lc) f0 → W2 Z Y A G → Go10 Y A G (.slice ta t.length tc) aa ac xs q1 → Calls Tryz.prog 60 #[.pointer (some ⟨A, 0, none⟩), .pointer (some ⟨G, 0, none⟩)] Y (Post10 Y A G (.slice la ps.length lc) (.slice ta t.length tc) aa ac xs (endV t q1) (v1, (f1, c1)))) := fun Y hAY hwY hgY => by
    have h := HIH.out.at (tc := tc) (ac := ac) HE.out (w2_base HBb.out HE.out.hA HE.out.hG hwY) (show f0 < d by omega) hAY hgY h1
    rw [hr1] at h
    exact h
  by_cases hc1 : c1 = 0
  rotate_left
  · have hR : bind10 (val10 ps d t q1 xs) (fun y => fin10 (doneV kd v0 y) (doneB kd v0 y)) (f0, 0) = (0, (f1, c1)) := (bind_stop (fun y => Sk10.fin _ _) (by rw [hr1]; exact hc1)).trans (by rw [hr1])
    rw [hR]
    clear hR hr0 hr1 HS ih E hB hA hg hp h0 h1 h2 hq1 hk2 hkd HE HIH HBb
    go_enter Tryz.func79, Tryz.ntmps79
    go_wp2_with fail
    refine Calls.mono H0.out ?_
    rintro e Z1 ⟨hA1, hw1, hh⟩
    rcases hh with ⟨_, rfl, hg1⟩ | ⟨hc, _⟩
    rotate_left
    · exact absurd rfl hc
    have HC : Hid (_) := H1.out Z1 hA1 hw1 hg1
    have HW : Hid (_) := hw1
    clear hA1 hw1 hg1 H0 H1
    go_wp2_with fail
    refine Calls.mono HC.out ?_
    rintro e Z2 ⟨hA2, hw2, hh⟩
    rcases hh with ⟨hc, _⟩ | ⟨_, rfl⟩
    · exact absurd hc hc1
    · exact ⟨rfl, hA2, HW.out.trans hw2, Or.inr ⟨hc1, rfl⟩⟩
  subst hc1
  rw [bind_go _ _ _ hr1]
  have HD : Hid (∀ Y, _) := fun Y => implDoneS kd v0 v1 Y
  cases hdb : doneB kd v0 v1 with
  | false =>
    have hR : fin10 (doneV kd v0 v1) false (f1, 0) = (0, (f1, 1)) := rfl
    rw [hR]
    rw [hdb] at HD
    generalize doneV kd v0 v1 = dv at HD
    clear hR hdb hr0 hr1 HS ih E hB hA hg hp h0 h1 h2 hq1 hk2 hkd HE HIH HBb
    go_enter Tryz.func79, Tryz.ntmps79
    go_wp2_with fail
    refine Calls.mono H0.out ?_
    rintro e Z1 ⟨hA1, hw1, hh⟩
    rcases hh with ⟨_, rfl, hg1⟩ | ⟨hc, _⟩
    rotate_left
    · exact absurd rfl hc
    have HC : Hid (_) := H1.out Z1 hA1 hw1 hg1
    have HW : Hid (_) := hw1
    clear hA1 hw1 hg1 H0 H1
    go_wp2_with fail
    refine Calls.mono HC.out ?_
    rintro e Z2 ⟨hA2, hw2, hh⟩
    rcases hh with ⟨_, rfl, hg2⟩ | ⟨hc, _⟩
    rotate_left
    · exact absurd rfl hc
    have HA2 : Hid (_) := hA2
    have HW2 : Hid (_) := HW.out.trans hw2
    clear hA2 hw2 hg2 HC HW
    go_wp2_with fail
    refine Calls.mono (HD.out Z2) ?_
    rintro e w3 ⟨rfl, hw3⟩
    obtain rfl := hw3.symm
    go_wp2
    exact ⟨rfl, HA2.out, HW2.out, Or.inr ⟨(by decide : (1 : Int) ≠ 0), rfl⟩⟩
  | true =>
    have hR : fin10 (doneV kd v0 v1) true (f1, 0) = (doneV kd v0 v1, (f1, 0)) := rfl
    rw [hR]
    rw [hdb] at HD
    generalize doneV kd v0 v1 = dv at HD ⊢
    clear hR hdb hr0 hr1 HS ih E hB hA hg hp h0 h1 h2 hq1 hk2 hkd HE HIH HBb
    go_enter Tryz.func79, Tryz.ntmps79
    go_wp2_with fail
    refine Calls.mono H0.out ?_
    rintro e Z1 ⟨hA1, hw1, hh⟩
    rcases hh with ⟨_, rfl, hg1⟩ | ⟨hc, _⟩
    rotate_left
    · exact absurd rfl hc
    have HC : Hid (_) := H1.out Z1 hA1 hw1 hg1
    have HW : Hid (_) := hw1
    clear hA1 hw1 hg1 H0 H1
    go_wp2_with fail
    refine Calls.mono HC.out ?_
    rintro e Z2 ⟨hA2, hw2, hh⟩
    rcases hh with ⟨_, rfl, hg2⟩ | ⟨hc, _⟩
    rotate_left
    · exact absurd rfl hc
    have HA2 : Hid (_) := hA2
    have HG2 : Hid (_) := hg2
    have HW2 : Hid (_) := HW.out.trans hw2
    clear hA2 hw2 hg2 HC HW
    go_wp2_with fail
    refine Calls.mono (HD.out Z2) ?_
    rintro e w3 ⟨rfl, hw3⟩
    obtain rfl := hw3.symm
    go_wp2
    go_ret
    exact ⟨HA2.out, HW2.out, Or.inl ⟨rfl, rfl, HG2.out⟩⟩

end Go.Proofs.YtmloocbbcnhooaaGreatDoor

/-! The contracts of chapter 10's landed code: a test. -/
namespace Go.Proofs.YtmloocbbcnhooaaGreatDoor
open Go.RowKit

set_option maxHeartbeats 4000000 in
set_option maxRecDepth 100000 in
theorem implIf (B : World) (la : Option Addr) (lc : Nat) (ps : List Pk) (A d : Nat) (ih : Vi10 B la lc ps A d)
    (Z : World) (f : Nat) (ta : Option Addr) (tc : Nat) (t : List Nd) (m : Int) (G : Nat) (aa : Option Addr) (ac : Nat) (xs : List Int) (a : Nat) (E : Env10 B ps A G ta t xs m) (hB : Below B.heap.size B Z) (hf : f < d) (hA : Ak Z A (.slice la ps.length lc) f) (hg : Go10 Z A G (.slice ta t.length tc) aa ac xs ((a + 1 : Nat) : Int)) (hp : 0 ≤ endV t (a : Int)) (hkd : (t.getD a nd0).1 = 7) :
    Calls Tryz.prog 77 #[.pointer (some ⟨A, 0, none⟩), .pointer (some ⟨G, 0, none⟩)] Z (Post10 Z A G (.slice la ps.length lc) (.slice ta t.length tc) aa ac xs (endV t (a : Int)) (node10 ps (val10 ps d) t (a : Int) xs (t.getD a nd0) (f, 0))) := by
  have hk3 : kidsN (t.getD a nd0) = 3 := by unfold kidsN; rw [if_neg (by omega), if_pos hkd]
  obtain ⟨⟨e0, e1, e2⟩, h0, h1, h2, h3⟩ := part_three hp hk3
  have hr : node10 ps (val10 ps d) t (a : Int) xs (t.getD a nd0) (f, 0) = bind10 (val10 ps d t ((a + 1 : Nat) : Int) xs) (fun k => if k ≠ 0 then val10 ps d t (endV t ((a + 1 : Nat) : Int)) xs else val10 ps d t (endV t (endV t ((a + 1 : Nat) : Int))) xs) (f, 0) := by
    unfold node10
    rw [if_neg (by omega), if_neg (by omega), if_pos hkd, e0, e1, e2]
  rw [hr]
  clear hr e0 e1 e2 hk3 hkd
  rw [← h3]
  obtain ⟨q1, hq1⟩ : ∃ q1, endV t ((a + 1 : Nat) : Int) = q1 := ⟨_, rfl⟩
  have H0 : Hid (_) := ih.at (tc := tc) (ac := ac) E hB hf hA hg h0
  rw [hq1] at H0 h1 h2 ⊢
  obtain ⟨q2, hq2⟩ : ∃ q2, endV t q1 = q2 := ⟨_, rfl⟩
  rw [hq2] at h1 h2 ⊢
  have hs1 : 0 ≤ q1 ∧ q1 ≤ 1048576 := end_small (t := t) (by rw [hq2]; exact h1) E.len
  have hs2 : 0 ≤ q2 ∧ q2 ≤ 1048576 := end_small (t := t) h2 E.len
  obtain ⟨r0, hr0⟩ : ∃ r0, val10 ps d t ((a + 1 : Nat) : Int) xs (f, 0) = r0 := ⟨_, rfl⟩
  have hl0 := (Sk10.val ps d t ((a + 1 : Nat) : Int) xs).less (f, 0)
  rw [hr0] at H0 hl0
  obtain ⟨v0, f0, c0⟩ := r0
  simp only at hl0
  have HE : Hid (Env10 B ps A G ta t xs m) := E
  have HIH : Hid (Vi10 B la lc ps A d) := ih
  have HBb : Hid (Below B.heap.size B Z) := hB
  -- a part is passed over
  have HPs : Hid (∀ (Y : World) (q : Int), 0 ≤ q ∧ q ≤ 1048576 → W2 Z Y A G → Go10 Y A G (.slice ta t.length tc) aa ac xs q → Calls Tryz.prog 96 #[.pointer (some ⟨G, 0, none⟩)] Y fun e Y' => e = .returned (.tuple #[]) ∧ Go10 Y' A G (.slice ta t.length tc) aa ac xs (endV t q) ∧ Wrote Y Y' (fun k => k = G)) := fun Y q hq hwY hgY =>
    (implPass Y G ta tc t (.slice aa xs.length ac) q hgY.bx (HE.out.inn.below (w2_base HBb.out HE.out.hA HE.out.hG hwY)) HE.out.int HE.out.sh HE.out.len hq).mono fun e Y' h => ⟨h.1, hgY.next h.2.2 h.2.1, h.2.2⟩
  have HCl : Hid (∀ (Y : World) (q : Int) (g : Nat), g < d → 0 ≤ endV t q → Ak Y A (.slice la ps.length lc) g → W2 Z Y A G → Go10 Y A G (.slice ta t.length tc) aa ac xs q → Calls Tryz.prog 60 #[.pointer (some ⟨A, 0, none⟩), .pointer (some ⟨G, 0, none⟩)] Y (Post10 Y A G (.slice la ps.length lc) (.slice ta t.length tc) aa ac xs (endV t q) (val10 ps d t q xs (g, 0)))) := fun Y q g hgd hq hAY hwY hgY => HIH.out.at (tc := tc) (ac := ac) HE.out (w2_base HBb.out HE.out.hA HE.out.hG hwY) hgd hAY hgY hq
  have HGA : Hid (A ≠ G) := hg.ne.symm
  by_cases hc0 : c0 = 0
  rotate_left
  · have hR : bind10 (val10 ps d t ((a + 1 : Nat) : Int) xs) (fun k => if k ≠ 0 then val10 ps d t q1 xs else val10 ps d t q2 xs) (f, 0) = (0, (f0, c0)) := (bind_stop (fun k => by split <;> exact Sk10.val ps d t _ xs) (by rw [hr0]; exact hc0)).trans (by rw [hr0])
    rw [hR]
    clear hR hr0 ih E hB hA hg hp h0 h1 h2 h3 hq1 hq2 HPs HCl
    go_enter Tryz.func77, Tryz.ntmps77
    go_wp2_with fail
    refine Calls.mono H0.out ?_
    rintro e Z1 ⟨hA1, hw1, hh⟩
    rcases hh with ⟨hc, _⟩ | ⟨_, rfl⟩
    · exact absurd hc hc0
    · exact ⟨rfl, hA1, hw1, Or.inr ⟨hc0, rfl⟩⟩
  subst hc0
  rw [bind_go _ _ _ hr0]
  have hfd : f0 < d := by omega
  by_cases hv0 : v0 = 0
  · subst hv0
    rw [if_neg (by simp)]
    obtain ⟨r1, hr1⟩ : ∃ r1, val10 ps d t q2 xs (f0, 0) = r1 := ⟨_, rfl⟩
    rw [hr1]
    have HR1 : Hid (val10 ps d t q2 xs (f0, 0) = r1) := hr1
    have HQ : Hid (endV t q1 = q2) := hq2
    have H2 : Hid (0 ≤ endV t q2) := h2
    clear hr0 hr1 ih E hB hA hg hp h0 h1 h2 h3 hq1 hq2
    go_enter Tryz.func77, Tryz.ntmps77
    go_wp2_with fail
    refine Calls.mono H0.out ?_
    rintro e Z1 ⟨hA1, hw1, hh⟩
    rcases hh with ⟨_, rfl, hg1⟩ | ⟨hc, _⟩
    rotate_left
    · exact absurd rfl hc
    have HC : Hid (_) := HPs.out Z1 q1 hs1 hw1 hg1
    have HW : Hid (W2 Z Z1 A G) := hw1
    have HA1 : Hid (Ak Z1 A (.slice la ps.length lc) f0) := hA1
    clear hA1 hw1 hg1 H0 HPs
    go_wp2_with fail
    refine Calls.mono HC.out ?_
    rintro e Z2 ⟨rfl, hg2, hw2⟩
    rw [HQ.out] at hg2
    have hW2 : W2 Z Z2 A G := HW.out.trans (hw2.mono (fun k e => Or.inr e))
    have HD : Hid (_) := HCl.out Z2 q2 f0 hfd H2.out (HA1.out.wrote hw2 HGA.out) hW2 hg2
    have HW2 : Hid (W2 Z Z2 A G) := hW2
    rw [HR1.out] at HD
    clear hw2 hg2 hW2 HC HA1 HW
    go_wp2_with fail
    refine Calls.mono HD.out ?_
    rintro e Z3 ⟨hA3, hw3, hh⟩
    rcases hh with ⟨hc, rfl, hg3⟩ | ⟨hc, rfl⟩
    · have HP : Hid (Post10 Z A G (.slice la ps.length lc) (.slice ta t.length tc) aa ac xs (endV t q2) r1 (.returned (.int .i64 r1.1)) Z3) := ⟨hA3, HW2.out.trans hw3, Or.inl ⟨hc, rfl, hg3⟩⟩
      clear hA3 hw3 hg3 hc HD
      go_wp2
      go_ret
      exact HP.out
    · exact ⟨rfl, hA3, HW2.out.trans hw3, Or.inr ⟨hc, rfl⟩⟩
  · rw [if_pos hv0]
    have hvb : (v0 == 0) = false := beq_eq_false_iff_ne.2 hv0
    obtain ⟨r1, hr1⟩ : ∃ r1, val10 ps d t q1 xs (f0, 0) = r1 := ⟨_, rfl⟩
    rw [hr1]
    have HR1 : Hid (val10 ps d t q1 xs (f0, 0) = r1) := hr1
    have HQ : Hid (endV t q1 = q2) := hq2
    have H1 : Hid (0 ≤ endV t q1) := by exact (by rw [hq2]; exact hs2.1 : 0 ≤ endV t q1)
    clear hr0 hr1 ih E hB hA hg hp h0 h1 h2 h3 hq1 hq2 hv0
    go_enter Tryz.func77, Tryz.ntmps77
    go_wp2_with fail
    refine Calls.mono H0.out ?_
    rintro e Z1 ⟨hA1, hw1, hh⟩
    rcases hh with ⟨_, rfl, hg1⟩ | ⟨hc, _⟩
    rotate_left
    · exact absurd rfl hc
    have HC : Hid (_) := HCl.out Z1 q1 f0 hfd H1.out hA1 hw1 hg1
    have HW : Hid (W2 Z Z1 A G) := hw1
    rw [HR1.out, HQ.out] at HC
    clear hA1 hw1 hg1 H0
    go_wp2_with fail
    refine Calls.mono HC.out ?_
    rintro e Z2 ⟨hA2, hw2, hh⟩
    rcases hh with ⟨hc, rfl, hg2⟩ | ⟨hc, rfl⟩
    rotate_left
    · exact ⟨rfl, hA2, HW.out.trans hw2, Or.inr ⟨hc, rfl⟩⟩
    have HD : Hid (_) := HPs.out Z2 q2 hs2 (HW.out.trans hw2) hg2
    have HA2 : Hid (Ak Z2 A (.slice la ps.length lc) r1.2.1) := hA2
    have HW2 : Hid (W2 Z Z2 A G) := HW.out.trans hw2
    have HC2 : Hid (r1.2.2 = 0) := hc
    clear hA2 hw2 hg2 HC hc HPs HCl
    go_wp2_with fail
    refine Calls.mono HD.out ?_
    rintro e Z3 ⟨rfl, hg3, hw3⟩
    have HP : Hid (Post10 Z A G (.slice la ps.length lc) (.slice ta t.length tc) aa ac xs (endV t q2) r1 (.returned (.int .i64 r1.1)) Z3) := ⟨HA2.out.wrote hw3 HGA.out, HW2.out.trans (hw3.mono (fun k e => Or.inr e)), Or.inl ⟨HC2.out, rfl, hg3⟩⟩
    clear hg3 hw3 HD
    go_wp2
    go_ret
    exact HP.out

end Go.Proofs.YtmloocbbcnhooaaGreatDoor
