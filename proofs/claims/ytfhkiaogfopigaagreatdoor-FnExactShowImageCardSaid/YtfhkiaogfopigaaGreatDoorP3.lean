/-
  Parts of one proof, one behind the other: InsS2, InsS3, InsS4.
-/
import Derived.Test.YtfhkiaogfopigaaGreatDoorP2
import Derived.Deep.Cut

/-! The contract of chapter 13's specification: InsOk. -/
namespace Go.Proofs.YtfhkiaogfopigaaGreatDoor
open Go.RowKit

theorem ins_new13 (V : World) (a b c d f : Value) (t : TypeId) : ((V.alloc (.cells #[a, b, c, d, f] t)).cell? ⟨V.heap.size, 0, none⟩ = some a ∧ (V.alloc (.cells #[a, b, c, d, f] t)).cell? ⟨V.heap.size, 1, none⟩ = some b ∧ (V.alloc (.cells #[a, b, c, d, f] t)).cell? ⟨V.heap.size, 2, none⟩ = some c ∧ (V.alloc (.cells #[a, b, c, d, f] t)).cell? ⟨V.heap.size, 3, none⟩ = some d ∧ (V.alloc (.cells #[a, b, c, d, f] t)).cell? ⟨V.heap.size, 4, none⟩ = some f) ∧ Below V.heap.size V (V.alloc (.cells #[a, b, c, d, f] t)) := by
  have hb : Below V.heap.size V (V.alloc (.cells #[a, b, c, d, f] t)) := (Below.refl _ _).alloc (Nat.le_refl _) _
  have hA := heap_alloc_new V (.cells #[a, b, c, d, f] t)
  generalize V.alloc (.cells #[a, b, c, d, f] t) = W at hb hA ⊢
  exact ⟨⟨by simp [World.cell?, hA], by simp [World.cell?, hA], by simp [World.cell?, hA], by simp [World.cell?, hA], by simp [World.cell?, hA]⟩, hb⟩

theorem inB_iff13 {x lo hi : Int} : inB x lo hi = true ↔ lo ≤ x ∧ x ≤ hi := by unfold inB; simp

set_option maxHeartbeats 8000000 in
set_option maxRecDepth 100000 in
theorem specInsOk (i : In13) (w : World) (hl : i.2.2.2.2.length ≤ 1048576) :
    Calls Tryz.prog 96 #[insVal i] w fun e w' => e = .returned (.bool (insB i)) ∧ Below w.heap.size w w' := by
  obtain ⟨k, R, A, B, nm⟩ := i
  simp only at hl
  rw [insB_two]
  unfold insVal
  simp only
  obtain ⟨⟨n0, n1, n2, n3, n4⟩, hbg⟩ := ins_new13 w (.int .i64 k) (.int .i64 R) (.int .i64 A) (.int .i64 B) (.string ⟨nm.toArray⟩) 81
  obtain ⟨X, hX⟩ : ∃ X, w.alloc (.cells #[.int .i64 k, .int .i64 R, .int .i64 A, .int .i64 B, .string ⟨nm.toArray⟩] 81) = X := ⟨_, rfl⟩
  obtain ⟨N, hN⟩ : ∃ N, w.heap.size = N := ⟨_, rfl⟩
  rw [hX] at n0 n1 n2 n3 n4 hbg
  rw [hN] at n0 n1 n2 n3 n4 hbg ⊢
  have HBX : Hid (Below N w X) := hbg
  obtain ⟨bb, hbb⟩ : ∃ b, bad13 k B nm = b := ⟨_, rfl⟩
  have HBb : Hid (bad13 k B nm = bb) := hbb
  obtain ⟨res, hres⟩ : ∃ b, (!bad13 k B nm && kind13 k R A B nm) = b := ⟨_, rfl⟩
  rw [hres]
  rw [hbb] at hres
  have HR : Hid ((!bb && kind13 k R A B nm) = res) := hres
  have HRg : Hid (_) := fun (r : Int) (W : World) => specReg13 r W
  have HIn : Hid (_) := fun (x lo hi : Int) (W : World) => specIn x lo hi W
  have HWd : Hid (_) := fun (x : Int) (W : World) => specWordOk x W
  have HNm : Hid (_) := specName13 nm X hl
  clear hres hbg hbb hl
  go_enter Tryz.func96, Tryz.ntmps96
  go_wp2_with fail
  refine Calls.mono (HIn.out A 0 199 _) ?_
  rintro e wz ⟨rfl, hz⟩
  obtain rfl := hz.symm
  clear hz
  go_upto_region 2 with fail
  go_cut [25] from 7 (fun v wx => v = .bool bb ∧ wx = X)
  case first =>
    by_cases h9 : k = 9
    · subst h9
      have h3 : inB 9 3 6 = false := by decide
      have HF : Hid (bb = (B != 0)) := by exact (by rw [← HBb.out]; unfold bad13; rw [h3]; by_cases h : B = 0 <;> simp [h] : bb = (B != 0))
      clear HBb HR
      go_wp2_with fail
      refine Calls.mono (HIn.out _ _ _ _) ?_
      rintro e wz ⟨rfl, hz⟩
      obtain rfl := hz.symm
      rw [h3]
      clear hz h3
      go_wp2_with fail
      go_meet
      case rel => exact ⟨by rw [HF.out], rfl⟩
    · have d9 : (k != 9) = true := bne_iff_ne.2 h9
      rcases hnm : nm.isEmpty with _ | _
      · have HF : Hid (bb = true) := by exact (by rw [← HBb.out]; unfold bad13; simp [h9, hnm] : bb = true)
        clear HBb HR h9
        go_wp2_with fail
        go_meet
        case rel => exact ⟨by rw [HF.out], rfl⟩
      · obtain rfl : nm = [] := List.isEmpty_iff.1 hnm
        rcases h3 : inB k 3 6 with _ | _
        · have HF : Hid (bb = (B != 0)) := by exact (by rw [← HBb.out]; unfold bad13; rw [h3]; by_cases h : B = 0 <;> simp [h] : bb = (B != 0))
          clear HBb HR h9 hnm
          go_wp2_with fail
          refine Calls.mono (HIn.out _ _ _ _) ?_
          rintro e wz ⟨rfl, hz⟩
          obtain rfl := hz.symm
          rw [h3]
          clear hz h3
          go_wp2_with fail
          go_meet
          case rel => exact ⟨by rw [HF.out], rfl⟩
        · have HF : Hid (bb = false) := by exact (by rw [← HBb.out]; unfold bad13; rw [h3]; simp : bb = false)
          clear HBb HR h9 hnm
          go_wp2_with fail
          refine Calls.mono (HIn.out _ _ _ _) ?_
          rintro e wz ⟨rfl, hz⟩
          obtain rfl := hz.symm
          rw [h3]
          clear hz h3
          go_wp2_with fail
          go_meet
          case rel => exact ⟨by rw [HF.out], rfl⟩
  case rest =>
  obtain ⟨rfl, hz⟩ := hcut
  obtain rfl := hz.symm
  clear HBb hz
  rcases bb with _ | _
  rotate_left
  · have HK : Hid (res = false) := by exact (by rw [← HR.out]; rfl : res = false)
    go_wp2
    go_ret
    exact ⟨by rw [HK.out]; rfl, HBX.out⟩
  by_cases h1 : k = 1
  · subst h1
    have HK : Hid (res = (inB R 0 63 && inB A (-2147483648) 2147483647)) := by exact (by rw [← HR.out]; simp [kind13] : res = (inB R 0 63 && inB A (-2147483648) 2147483647))
    clear HR
    go_wp2_with fail
    refine Calls.mono (HRg.out R _) ?_
    rintro e wz ⟨rfl, hz⟩
    obtain rfl := hz.symm
    clear hz
    rcases hb0 : inB R 0 63 with _ | _
    · rw [hb0] at HK
      clear hb0
      go_wp2
      go_ret
      exact ⟨by rw [HK.out]; rfl, HBX.out⟩
    · rw [hb0] at HK
      clear hb0
      go_wp2_with fail
      refine Calls.mono (HWd.out A _) ?_
      rintro e wz ⟨rfl, hz⟩
      obtain rfl := hz.symm
      clear hz
      go_wp2
      go_ret
      exact ⟨by rw [HK.out]; rfl, HBX.out⟩
  have d1 : (k == 1) = false := beq_eq_false_iff_ne.2 h1
  by_cases h2 : k = 2
  · subst h2
    clear h1 d1
    have HK : Hid (res = (inB R 0 63 && inB A 0 2)) := by exact (by rw [← HR.out]; simp [kind13] : res = (inB R 0 63 && inB A 0 2))
    clear HR
    go_wp2_with fail
    refine Calls.mono (HRg.out R _) ?_
    rintro e wz ⟨rfl, hz⟩
    obtain rfl := hz.symm
    clear hz
    rcases hb0 : inB R 0 63 with _ | _
    · rw [hb0] at HK
      clear hb0
      go_wp2
      go_ret
      exact ⟨by rw [HK.out]; rfl, HBX.out⟩
    · rw [hb0] at HK
      clear hb0
      go_wp2_with fail
      refine Calls.mono (HIn.out A 0 2 _) ?_
      rintro e wz ⟨rfl, hz⟩
      obtain rfl := hz.symm
      clear hz
      go_wp2
      go_ret
      exact ⟨by rw [HK.out]; rfl, HBX.out⟩
  have d2 : (k == 2) = false := beq_eq_false_iff_ne.2 h2
  by_cases h3 : k = 3
  · subst h3
    clear h1 d1 h2 d2
    have HK : Hid (res = (inB R 0 63 && inB A 0 63 && inB B 0 63)) := by exact (by rw [← HR.out]; simp [kind13] : res = (inB R 0 63 && inB A 0 63 && inB B 0 63))
    clear HR
    go_wp2_with fail
    refine Calls.mono (HRg.out R _) ?_
    rintro e wz ⟨rfl, hz⟩
    obtain rfl := hz.symm
    clear hz
    rcases hb0 : inB R 0 63 with _ | _
    · rw [hb0] at HK
      clear hb0
      go_wp2
      go_ret
      exact ⟨by rw [HK.out]; rfl, HBX.out⟩
    · rw [hb0] at HK
      clear hb0
      go_wp2_with fail
      refine Calls.mono (HRg.out A _) ?_
      rintro e wz ⟨rfl, hz⟩
      obtain rfl := hz.symm
      clear hz
      rcases hb1 : inB A 0 63 with _ | _
      · rw [hb1] at HK
        clear hb1
        go_wp2
        go_ret
        exact ⟨by rw [HK.out]; rfl, HBX.out⟩
      · rw [hb1] at HK
        clear hb1
        go_wp2_with fail
        refine Calls.mono (HRg.out B _) ?_
        rintro e wz ⟨rfl, hz⟩
        obtain rfl := hz.symm
        clear hz
        go_wp2
        go_ret
        exact ⟨by rw [HK.out]; rfl, HBX.out⟩
  have d3 : (k == 3) = false := beq_eq_false_iff_ne.2 h3
  by_cases h4 : k = 4
  · subst h4
    clear h1 d1 h2 d2 h3 d3
    have HK : Hid (res = (inB R 0 63 && inB A 0 63 && inB B 0 63)) := by exact (by rw [← HR.out]; simp [kind13] : res = (inB R 0 63 && inB A 0 63 && inB B 0 63))
    clear HR
    go_wp2_with fail
    refine Calls.mono (HRg.out R _) ?_
    rintro e wz ⟨rfl, hz⟩
    obtain rfl := hz.symm
    clear hz
    rcases hb0 : inB R 0 63 with _ | _
    · rw [hb0] at HK
      clear hb0
      go_wp2
      go_ret
      exact ⟨by rw [HK.out]; rfl, HBX.out⟩
    · rw [hb0] at HK
      clear hb0
      go_wp2_with fail
      refine Calls.mono (HRg.out A _) ?_
      rintro e wz ⟨rfl, hz⟩
      obtain rfl := hz.symm
      clear hz
      rcases hb1 : inB A 0 63 with _ | _
      · rw [hb1] at HK
        clear hb1
        go_wp2
        go_ret
        exact ⟨by rw [HK.out]; rfl, HBX.out⟩
      · rw [hb1] at HK
        clear hb1
        go_wp2_with fail
        refine Calls.mono (HRg.out B _) ?_
        rintro e wz ⟨rfl, hz⟩
        obtain rfl := hz.symm
        clear hz
        go_wp2
        go_ret
        exact ⟨by rw [HK.out]; rfl, HBX.out⟩
  have d4 : (k == 4) = false := beq_eq_false_iff_ne.2 h4
  by_cases h5 : k = 5
  · subst h5
    clear h1 d1 h2 d2 h3 d3 h4 d4
    have HK : Hid (res = (inB R 0 63 && inB A 0 63 && inB B 0 63)) := by exact (by rw [← HR.out]; simp [kind13] : res = (inB R 0 63 && inB A 0 63 && inB B 0 63))
    clear HR
    go_wp2_with fail
    refine Calls.mono (HRg.out R _) ?_
    rintro e wz ⟨rfl, hz⟩
    obtain rfl := hz.symm
    clear hz
    rcases hb0 : inB R 0 63 with _ | _
    · rw [hb0] at HK
      clear hb0
      go_wp2
      go_ret
      exact ⟨by rw [HK.out]; rfl, HBX.out⟩
    · rw [hb0] at HK
      clear hb0
      go_wp2_with fail
      refine Calls.mono (HRg.out A _) ?_
      rintro e wz ⟨rfl, hz⟩
      obtain rfl := hz.symm
      clear hz
      rcases hb1 : inB A 0 63 with _ | _
      · rw [hb1] at HK
        clear hb1
        go_wp2
        go_ret
        exact ⟨by rw [HK.out]; rfl, HBX.out⟩
      · rw [hb1] at HK
        clear hb1
        go_wp2_with fail
        refine Calls.mono (HRg.out B _) ?_
        rintro e wz ⟨rfl, hz⟩
        obtain rfl := hz.symm
        clear hz
        go_wp2
        go_ret
        exact ⟨by rw [HK.out]; rfl, HBX.out⟩
  have d5 : (k == 5) = false := beq_eq_false_iff_ne.2 h5
  by_cases h6 : k = 6
  · subst h6
    clear h1 d1 h2 d2 h3 d3 h4 d4 h5 d5
    have HK : Hid (res = (inB R 0 63 && inB A 0 63 && inB B 0 63)) := by exact (by rw [← HR.out]; simp [kind13] : res = (inB R 0 63 && inB A 0 63 && inB B 0 63))
    clear HR
    go_wp2_with fail
    refine Calls.mono (HRg.out R _) ?_
    rintro e wz ⟨rfl, hz⟩
    obtain rfl := hz.symm
    clear hz
    rcases hb0 : inB R 0 63 with _ | _
    · rw [hb0] at HK
      clear hb0
      go_wp2
      go_ret
      exact ⟨by rw [HK.out]; rfl, HBX.out⟩
    · rw [hb0] at HK
      clear hb0
      go_wp2_with fail
      refine Calls.mono (HRg.out A _) ?_
      rintro e wz ⟨rfl, hz⟩
      obtain rfl := hz.symm
      clear hz
      rcases hb1 : inB A 0 63 with _ | _
      · rw [hb1] at HK
        clear hb1
        go_wp2
        go_ret
        exact ⟨by rw [HK.out]; rfl, HBX.out⟩
      · rw [hb1] at HK
        clear hb1
        go_wp2_with fail
        refine Calls.mono (HRg.out B _) ?_
        rintro e wz ⟨rfl, hz⟩
        obtain rfl := hz.symm
        clear hz
        go_wp2
        go_ret
        exact ⟨by rw [HK.out]; rfl, HBX.out⟩
  have d6 : (k == 6) = false := beq_eq_false_iff_ne.2 h6
  by_cases h7 : k = 7
  · subst h7
    clear h1 d1 h2 d2 h3 d3 h4 d4 h5 d5 h6 d6
    have HK : Hid (res = (inB R 0 63 && inB A 0 199)) := by exact (by rw [← HR.out]; simp [kind13] : res = (inB R 0 63 && inB A 0 199))
    clear HR
    go_wp2_with fail
    refine Calls.mono (HRg.out R _) ?_
    rintro e wz ⟨rfl, hz⟩
    obtain rfl := hz.symm
    clear hz
    rcases hb0 : inB R 0 63 with _ | _
    · rw [hb0] at HK
      clear hb0
      go_wp2
      go_ret
      exact ⟨by rw [HK.out]; rfl, HBX.out⟩
    · rw [hb0] at HK
      clear hb0
      go_wp2
      go_ret
      exact ⟨by rw [HK.out]; rfl, HBX.out⟩
  have d7 : (k == 7) = false := beq_eq_false_iff_ne.2 h7
  by_cases h8 : k = 8
  · subst h8
    clear h1 d1 h2 d2 h3 d3 h4 d4 h5 d5 h6 d6 h7 d7
    have HK : Hid (res = (decide (R = 0) && inB A 0 199)) := by exact (by rw [← HR.out]; simp [kind13] : res = (decide (R = 0) && inB A 0 199))
    clear HR
    by_cases h0 : R = 0
    · have hd : decide (R = 0) = true := decide_eq_true h0
      rw [hd] at HK
      clear hd
      have hq : (R == 0) = true := by simp [h0]
      clear h0
      go_wp2
      go_ret
      exact ⟨by rw [HK.out]; rfl, HBX.out⟩
    · have hd : decide (R = 0) = false := decide_eq_false h0
      rw [hd] at HK
      clear hd
      have hq : (R == 0) = false := beq_eq_false_iff_ne.2 h0
      clear h0
      go_wp2
      go_ret
      exact ⟨by rw [HK.out]; rfl, HBX.out⟩
  have d8 : (k == 8) = false := beq_eq_false_iff_ne.2 h8
  by_cases h9 : k = 9
  · subst h9
    clear h1 d1 h2 d2 h3 d3 h4 d4 h5 d5 h6 d6 h7 d7 h8 d8
    have HK : Hid (res = (inB R 0 63 && inB A 0 3 && decide (R + A - 1 ≤ 63) && name13 nm)) := by exact (by rw [← HR.out]; simp [kind13] : res = (inB R 0 63 && inB A 0 3 && decide (R + A - 1 ≤ 63) && name13 nm))
    clear HR
    go_wp2_with fail
    refine Calls.mono (HRg.out R _) ?_
    rintro e wz ⟨rfl, hz⟩
    obtain rfl := hz.symm
    clear hz
    rcases hb0 : inB R 0 63 with _ | _
    · rw [hb0] at HK
      clear hb0
      go_wp2
      go_ret
      exact ⟨by rw [HK.out]; rfl, HBX.out⟩
    · rw [hb0] at HK
      go_wp2_with fail
      refine Calls.mono (HIn.out A 0 3 _) ?_
      rintro e wz ⟨rfl, hz⟩
      obtain rfl := hz.symm
      clear hz
      rcases hb1 : inB A 0 3 with _ | _
      · rw [hb1] at HK
        clear hb1
        go_wp2
        go_ret
        exact ⟨by rw [HK.out]; rfl, HBX.out⟩
      · rw [hb1] at HK
        have hr := inB_iff13.1 hb0
        have ha := inB_iff13.1 hb1
        by_cases h2 : R + A - 1 ≤ 63
        · have hd : decide (R + A - 1 ≤ 63) = true := decide_eq_true h2
          rw [hd] at HK
          clear hd
          go_wp2_with fail
          refine Calls.mono HNm.out ?_
          rintro e wz ⟨rfl, hbz⟩
          have HBz := HBX.out.trans (hbz.mono (hN ▸ HBX.out.size))
          clear hbz
          go_wp2
          go_ret
          exact ⟨by rw [HK.out]; rfl, HBz⟩
        · have hd : decide (R + A - 1 ≤ 63) = false := decide_eq_false h2
          rw [hd] at HK
          clear hd
          go_wp2
          go_ret
          exact ⟨by rw [HK.out]; rfl, HBX.out⟩
  have d9 : (k == 9) = false := beq_eq_false_iff_ne.2 h9
  by_cases h10 : k = 10
  · subst h10
    clear h1 d1 h2 d2 h3 d3 h4 d4 h5 d5 h6 d6 h7 d7 h8 d8 h9 d9
    have HK : Hid (res = (inB R 0 63 && decide (A = 0))) := by exact (by rw [← HR.out]; simp [kind13] : res = (inB R 0 63 && decide (A = 0)))
    clear HR
    go_wp2_with fail
    refine Calls.mono (HRg.out R _) ?_
    rintro e wz ⟨rfl, hz⟩
    obtain rfl := hz.symm
    clear hz
    rcases hb0 : inB R 0 63 with _ | _
    · rw [hb0] at HK
      clear hb0
      go_wp2
      go_ret
      exact ⟨by rw [HK.out]; rfl, HBX.out⟩
    · rw [hb0] at HK
      clear hb0
      have he : (A == 0) = decide (A = 0) := by by_cases h : A = 0 <;> simp [h]
      rw [← he] at HK
      clear he
      go_wp2
      go_ret
      exact ⟨by rw [HK.out]; rfl, HBX.out⟩
  have d10 : (k == 10) = false := beq_eq_false_iff_ne.2 h10
  have HK : Hid (res = false) := by exact (by rw [← HR.out]; unfold kind13; rw [if_neg h1, if_neg h2, if_neg (by omega), if_neg h7, if_neg h8, if_neg h9, if_neg h10]; rfl : res = false)
  clear HR h1 h2 h3 h4 h5 h6 h7 h8 h9 h10
  go_wp2
  go_ret
  exact ⟨by rw [HK.out]; rfl, HBX.out⟩

end Go.Proofs.YtfhkiaogfopigaaGreatDoor

/-! The contract of chapter 13's specification: CodeOk. -/
namespace Go.Proofs.YtfhkiaogfopigaaGreatDoor
open Go.RowKit

def InsIn (w : World) (a : Option Addr) (len : Nat) (is : List In13) : Prop :=
  is.length = len ∧ ∀ j, j < len → ∃ b off, a = some ⟨b, off, none⟩ ∧ b < w.heap.size ∧ w.cell? ⟨b, off + j * 5, none⟩ = some (.int .i64 (is.getD j in0).1) ∧ w.cell? ⟨b, off + j * 5 + 1, none⟩ = some (.int .i64 (is.getD j in0).2.1) ∧ w.cell? ⟨b, off + j * 5 + 2, none⟩ = some (.int .i64 (is.getD j in0).2.2.1) ∧ w.cell? ⟨b, off + j * 5 + 3, none⟩ = some (.int .i64 (is.getD j in0).2.2.2.1) ∧ w.cell? ⟨b, off + j * 5 + 4, none⟩ = some (.string ⟨(is.getD j in0).2.2.2.2.toArray⟩)
theorem InsIn.below {w w' : World} {a : Option Addr} {len : Nat} {is : List In13} (h : InsIn w a len is) (hb : Below w.heap.size w w') : InsIn w' a len is := by
  refine ⟨h.1, fun j hj => ?_⟩
  obtain ⟨b, off, e, hlt, c0, c1, c2, c3, c4⟩ := h.2 j hj
  have hk := hb.block b hlt
  exact ⟨b, off, e, Nat.lt_of_lt_of_le hlt hb.size, (World.cell?_of_block (a := ⟨b, off + j * 5, none⟩) hk).trans c0, (World.cell?_of_block (a := ⟨b, off + j * 5 + 1, none⟩) hk).trans c1, (World.cell?_of_block (a := ⟨b, off + j * 5 + 2, none⟩) hk).trans c2, (World.cell?_of_block (a := ⟨b, off + j * 5 + 3, none⟩) hk).trans c3, (World.cell?_of_block (a := ⟨b, off + j * 5 + 4, none⟩) hk).trans c4⟩
def ShortI (is : List In13) : Prop := ∀ j, (is.getD j in0).2.2.2.2.length ≤ 1048576

theorem code_len {c : List In13} (h : c.length < 1 ∨ 200 < c.length) : codeB c = false := decide_eq_false (fun e => by have := e.1; omega)
theorem code_no {c : List In13} {j : Nat} (hj : j < c.length) (h : ¬ insAt c.length (c.getD j in0)) : codeB c = false := decide_eq_false (fun e => h (e.2.1 _ (by simp [List.getD, hj])))
theorem code_end {c : List In13} (h1 : 1 ≤ c.length) (h2 : c.length ≤ 200) (h : ∀ j, j < c.length → insAt c.length (c.getD j in0)) : codeB c = (((c.getD (c.length - 1) in0).1 == 10) || ((c.getD (c.length - 1) in0).1 == 8)) := by
  have hall : ∀ i ∈ c, insAt c.length i := fun i hi => by
    obtain ⟨j, hj, rfl⟩ := List.getElem_of_mem hi
    have := h j hj
    simpa [List.getD, hj] using this
  unfold codeB
  rw [Bool.eq_iff_iff, decide_eq_true_eq, Bool.or_eq_true, beq_iff_eq, beq_iff_eq]
  exact ⟨fun e => e.2.2, fun e => ⟨⟨h1, h2⟩, hall, e⟩⟩

set_option maxHeartbeats 4000000 in
set_option maxRecDepth 100000 in
theorem specCodeOk (a : Option Addr) (len cap : Nat) (is : List In13) (w : World) (hin : InsIn w a len is) (hsh : ShortI is) (hlen : len ≤ 1048576) :
    Calls Tryz.prog 78 #[.slice a len cap] w fun e w' => e = .returned (.bool (codeB is)) ∧ Below w.heap.size w w' := by
  obtain rfl : is.length = len := hin.1
  have HI : Hid (InsIn w a is.length is) := hin
  have HS : Hid (ShortI is) := hsh
  have HL : Hid (is.length < 1 ∨ 200 < is.length → codeB is = false) := code_len
  have HNo : Hid (∀ j, j < is.length → ¬ insAt is.length (is.getD j in0) → codeB is = false) := fun j hj h => code_no hj h
  have HEn : Hid (1 ≤ is.length → is.length ≤ 200 → (∀ j, j < is.length → insAt is.length (is.getD j in0)) → codeB is = (((is.getD (is.length - 1) in0).1 == 10) || ((is.getD (is.length - 1) in0).1 == 8))) := code_end
  obtain ⟨n, hn⟩ : ∃ n, is.length = n := ⟨_, rfl⟩
  rw [hn] at HI HL HNo HEn hlen ⊢
  generalize codeB is = res at HL HNo HEn ⊢
  clear hin hsh hn
  by_cases h1 : (n : Int) < 1
  · have HF := HL.out (Or.inl (by omega))
    have HF2 : Hid (res = false) := HF
    clear HF HL HNo HEn
    go_enter Tryz.func78, Tryz.ntmps78
    go_wp2
    go_ret
    exact ⟨by rw [HF2.out]; rfl, Below.refl _ _⟩
  by_cases h2 : 200 < (n : Int)
  · have HF2 : Hid (res = false) := HL.out (Or.inr (by omega))
    clear HL HNo HEn
    go_enter Tryz.func78, Tryz.ntmps78
    go_wp2
    go_ret
    exact ⟨by rw [HF2.out]; rfl, Below.refl _ _⟩
  obtain ⟨m, hm⟩ : ∃ m, n = m + 1 := ⟨n - 1, by omega⟩
  have HM : Hid (n = m + 1) := hm
  have HEn2 : Hid ((∀ j, j < n → insAt n (is.getD j in0)) → res = (((is.getD m in0).1 == 10) || ((is.getD m in0).1 == 8))) := fun h => by
    have := HEn.out (by omega) (by omega) h
    rw [show n - 1 = m by omega] at this
    exact this
  clear hm HL HEn
  go_enter Tryz.func78, Tryz.ntmps78
  go_wp2
  go_loopw [4] (fun iv wr => ∃ i : Nat, iv = .int .i64 (i : Int) ∧ i ≤ n ∧ Hid (∀ j, j < i → insAt n (is.getD j in0)) ∧ Hid (Below w.heap.size w wr)) (fun iv _ => n - (intOf iv).toNat)
  case atStart => exact ⟨0, rfl, Nat.zero_le _, fun j hj => by omega, Below.refl _ _⟩
  case round =>
    obtain ⟨i, rfl, hi, HA, HB⟩ := hrel
    by_cases hlt : (i : Int) < (n : Int)
    · obtain ⟨b, off, rfl, hbl, c0, c1, c2, c3, c4⟩ := (HI.out.below HB.out).2 i (by omega)
      have HC : Hid (_) := fun W : World => specInsOk (is.getD i in0) W (HS.out i)
      have HNx : Hid (insAt n (is.getD i in0) → ∀ j, j < i + 1 → insAt n (is.getD j in0)) := fun h j hj => by
        by_cases e : j = i
        · rw [e]; exact h
        · exact HA.out j (by omega)
      have HNi : Hid (¬ insAt n (is.getD i in0) → res = false) := HNo.out i (by omega)
      clear HEn2 HNo HA HS
      generalize is.getD i in0 = ii at c0 c1 c2 c3 c4 HC HNx HNi
      obtain ⟨kd, R, A, Bq, nm⟩ := ii
      unfold insVal at HC
      simp only at c0 c1 c2 c3 c4 HC
      go_wp2_with fail
      refine Calls.mono (HC.out _) ?_
      rintro e w1 ⟨rfl, hb1⟩
      have hB1 := HB.out.trans (hb1.mono HB.out.size)
      have d0 := (hb1.cell (p := ⟨b, off + i * 5, none⟩) hbl).trans c0
      have d2 := (hb1.cell (p := ⟨b, off + i * 5 + 2, none⟩) hbl).trans c2
      clear c0 c1 c2 c3 c4 hb1 HC
      rcases hib : insB (kd, R, A, Bq, nm) with _ | _
      · have HF : Hid (res = false) := HNi.out (fun h => by have := decide_eq_true h.1; rw [show decide (insP (kd, R, A, Bq, nm)) = insB (kd, R, A, Bq, nm) from rfl, hib] at this; cases this)
        clear hib HNi HNx
        go_wp2
        go_ret
        exact ⟨by rw [HF.out]; rfl, hB1⟩
      have hip : insP (kd, R, A, Bq, nm) := of_decide_eq_true hib
      have HP : Hid (insP (kd, R, A, Bq, nm)) := hip
      clear hib hip
      by_cases h7 : kd = 7
      · subst h7
        by_cases hA : (n : Int) ≤ A
        · have HF : Hid (res = false) := HNi.out (fun h => by have := h.2 (Or.inl rfl); simp only at this; omega)
          clear HNi HNx HP
          go_wp2
          go_ret
          exact ⟨by rw [HF.out]; rfl, hB1⟩
        · have HN2 : Hid (_) := HNx.out ⟨HP.out, fun _ => by simp only; omega⟩
          clear HNi HNx HP
          go_wp2
          go_roundw
          case rel => exact ⟨i + 1, by go_num, by omega, HN2, hB1⟩
          case measure => simp [intOf]; omega
      have d7 : (kd == 7) = false := beq_eq_false_iff_ne.2 h7
      by_cases h8 : kd = 8
      · subst h8
        clear h7 d7
        by_cases hA : (n : Int) ≤ A
        · have HF : Hid (res = false) := HNi.out (fun h => by have := h.2 (Or.inr rfl); simp only at this; omega)
          clear HNi HNx HP
          go_wp2
          go_ret
          exact ⟨by rw [HF.out]; rfl, hB1⟩
        · have HN2 : Hid (_) := HNx.out ⟨HP.out, fun _ => by simp only; omega⟩
          clear HNi HNx HP
          go_wp2
          go_roundw
          case rel => exact ⟨i + 1, by go_num, by omega, HN2, hB1⟩
          case measure => simp [intOf]; omega
      have d8 : (kd == 8) = false := beq_eq_false_iff_ne.2 h8
      have HN2 : Hid (_) := HNx.out ⟨HP.out, fun e => by simp only at e; rcases e with e | e; exact absurd e h7; exact absurd e h8⟩
      clear HNi HNx HP h7 h8
      go_wp2
      go_roundw
      case rel => exact ⟨i + 1, by go_num, by omega, HN2, hB1⟩
      case measure => simp [intOf]; omega
    · have hin2 : i = n := by omega
      have HF : Hid (_) := HEn2.out (fun j hj => HA.out j (by omega))
      have hmn : m < n := by have := HM.out; omega
      obtain ⟨b, off, rfl, hbl, c0, _⟩ := (HI.out.below HB.out).2 m hmn
      have hq : (n : Int) - 1 = (m : Int) := by have := HM.out; omega
      have hmz : (m : Int) < (n : Int) := by omega
      have HBr := HB.out
      generalize (is.getD m in0).1 = kd at c0 HF
      clear hin2 HEn2 HNo HA HS HM HI HB hmn
      rcases h10 : (kd == 10) with _ | _
      · rw [h10] at HF
        go_wp2
        go_ret
        exact ⟨by rw [HF.out]; rfl, HBr⟩
      · rw [h10] at HF
        go_wp2
        go_ret
        exact ⟨by rw [HF.out]; rfl, HBr⟩

end Go.Proofs.YtfhkiaogfopigaaGreatDoor

/-! The contract of chapter 13's specification: Registers. -/
namespace Go.Proofs.YtfhkiaogfopigaaGreatDoor
open Go.RowKit

end Go.Proofs.YtfhkiaogfopigaaGreatDoor
