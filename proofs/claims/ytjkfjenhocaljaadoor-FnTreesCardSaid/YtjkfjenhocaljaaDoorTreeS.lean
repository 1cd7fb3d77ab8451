/-
  The contracts of chapter 6's specification: NodeOk, how many parts, KidsOf.
-/
import Derived.Test.YtjkfjenhocaljaaDoorMath6P
import Derived.Test.YtjkfjenhocaljaaDoorTextS5
namespace Go.Proofs.YtjkfjenhocaljaaDoor
open Go.RowKit

def nodeVal (n : Nd) : Value := .agg #[.int .i64 n.1, .int .i64 n.2.1, .string ⟨n.2.2.1.toArray⟩, .string ⟨n.2.2.2.toArray⟩]

theorem nodeB_texts (k a : Int) (p f : List UInt8) (hk : k ≠ 8) (h : p ≠ [] ∨ f ≠ []) : nodeB (k, a, p, f) = false := nodeB_no (fun hp => by
  unfold nodeP at hp
  simp only at hp
  rcases hp with ⟨_, _, h1, h2⟩ | ⟨_, _, h1, h2⟩ | ⟨_, _, h1, h2⟩ | ⟨h1, _⟩
  · rcases h with h | h; exact h h1; exact h h2
  · rcases h with h | h; exact h h1; exact h h2
  · rcases h with h | h; exact h h1; exact h h2
  · exact hk h1)
theorem nodeB_num (a : Int) : nodeB (1, a, [], []) = inB a (-2147483648) 2147483647 := by
  unfold nodeB inB
  exact decide_eq_decide.2 (by unfold nodeP; simp)
theorem nodeB_arg (a : Int) : nodeB (2, a, [], []) = inB a 0 2 := by
  unfold nodeB inB
  exact decide_eq_decide.2 (by unfold nodeP; simp)
theorem nodeB_op (k a : Int) (h : 3 ≤ k ∧ k ≤ 7) : nodeB (k, a, [], []) = (a == 0) := by
  rw [Bool.eq_iff_iff, nodeB_iff, beq_iff_eq]
  unfold nodeP
  simp
  omega
theorem nodeB_call (a : Int) (p f : List UInt8) : nodeB (8, a, p, f) = (inB a 0 3 && (nameB p && nameB f)) := by
  rw [Bool.eq_iff_iff, nodeB_iff]
  unfold nodeP inB
  simp
theorem nodeB_other (k a : Int) (p f : List UInt8) (h : k < 1 ∨ 8 < k) : nodeB (k, a, p, f) = false := nodeB_no (fun hp => by
  unfold nodeP at hp
  simp only at hp
  omega)

set_option maxHeartbeats 2000000 in
set_option maxRecDepth 100000 in
theorem specNodeOk (n : Nd) (w : World) (hp : n.2.2.1.length ≤ 1048576) (hf : n.2.2.2.length ≤ 1048576) :
    Calls Tryd.prog 18 #[nodeVal n] w fun e w' => e = .returned (.bool (nodeB n)) ∧ Below w.heap.size w w' := by
  obtain ⟨k, a, p, f⟩ := n
  simp only at hp hf
  unfold nodeVal
  simp only
  by_cases h8 : k = 8
  · subst h8
    have HN := nodeB_call a p f
    rw [HN]
    clear HN
    rcases hia : inB a 0 3 with _ | _
    · have HA : Hid (inB a 0 3 = false) := hia
      clear hia
      go_enter Tryd.func18, Tryd.ntmps18
      go_wp2_with fail
      refine (specIn _ _ _ _).mono ?_
      rintro e w1 ⟨rfl, rfl⟩
      rw [HA.out]
      go_wp2
      go_ret
      exact ⟨rfl, (Below.refl _ w).alloc (Nat.le_refl _) _⟩
    · have HA : Hid (inB a 0 3 = true) := hia
      clear hia
      rcases hnp : nameB p with _ | _
      · have HP : Hid (nameB p = false) := hnp
        clear hnp
        go_enter Tryd.func18, Tryd.ntmps18
        go_wp2_with fail
        refine (specIn _ _ _ _).mono ?_
        rintro e w1 ⟨rfl, rfl⟩
        rw [HA.out]
        go_wp2_with fail
        refine (specNameOk p _ hp).mono ?_
        rintro e w1 ⟨rfl, rfl⟩
        rw [HP.out]
        go_wp2
        go_ret
        exact ⟨rfl, (Below.refl _ w).alloc (Nat.le_refl _) _⟩
      · have HP : Hid (nameB p = true) := hnp
        clear hnp
        go_enter Tryd.func18, Tryd.ntmps18
        go_wp2_with fail
        refine (specIn _ _ _ _).mono ?_
        rintro e w1 ⟨rfl, rfl⟩
        rw [HA.out]
        go_wp2_with fail
        refine (specNameOk p _ hp).mono ?_
        rintro e w1 ⟨rfl, rfl⟩
        rw [HP.out]
        go_wp2_with fail
        refine (specNameOk f _ hf).mono ?_
        rintro e w1 ⟨rfl, rfl⟩
        go_wp2
        go_ret
        exact ⟨rfl, (Below.refl _ w).alloc (Nat.le_refl _) _⟩
  · have d8 : (k != 8) = true := bne_iff_ne.2 h8
    have d8' : (k == 8) = false := beq_eq_false_iff_ne.2 h8
    by_cases hpe : p = []
    · subst hpe
      by_cases hfe : f = []
      · subst hfe
        by_cases h1 : k = 1
        · subst h1
          have HN := nodeB_num a
          rw [HN]
          clear HN
          go_enter Tryd.func18, Tryd.ntmps18
          go_wp2_with fail
          refine (specWordOk _ _).mono ?_
          rintro e w1 ⟨rfl, rfl⟩
          go_wp2
          go_ret
          exact ⟨rfl, (Below.refl _ w).alloc (Nat.le_refl _) _⟩
        · have d1 : (k == 1) = false := beq_eq_false_iff_ne.2 h1
          by_cases h2 : k = 2
          · subst h2
            have HN := nodeB_arg a
            rw [HN]
            clear HN
            go_enter Tryd.func18, Tryd.ntmps18
            go_wp2_with fail
            refine (specIn _ _ _ _).mono ?_
            rintro e w1 ⟨rfl, rfl⟩
            go_wp2
            go_ret
            exact ⟨rfl, (Below.refl _ w).alloc (Nat.le_refl _) _⟩
          · have d2 : (k == 2) = false := beq_eq_false_iff_ne.2 h2
            by_cases h37 : 3 ≤ k ∧ k ≤ 7
            · have HN := nodeB_op k a h37
              rw [HN]
              clear HN
              rcases (show k = 3 ∨ k = 4 ∨ k = 5 ∨ k = 6 ∨ k = 7 by omega) with rfl | rfl | rfl | rfl | rfl
              all_goals
                go_enter Tryd.func18, Tryd.ntmps18
                go_wp2
                go_ret
                exact ⟨rfl, (Below.refl _ w).alloc (Nat.le_refl _) _⟩
            · have HN := nodeB_other k a [] [] (by omega)
              rw [HN]
              clear HN
              have d3 : (k == 3) = false := beq_eq_false_iff_ne.2 (by omega)
              have d4 : (k == 4) = false := beq_eq_false_iff_ne.2 (by omega)
              have d5 : (k == 5) = false := beq_eq_false_iff_ne.2 (by omega)
              have d6 : (k == 6) = false := beq_eq_false_iff_ne.2 (by omega)
              have d7 : (k == 7) = false := beq_eq_false_iff_ne.2 (by omega)
              clear h37 h1 h2 h8
              go_enter Tryd.func18, Tryd.ntmps18
              go_wp2
              go_ret
              exact ⟨rfl, (Below.refl _ w).alloc (Nat.le_refl _) _⟩
      · have HN := nodeB_texts k a [] f h8 (Or.inr hfe)
        rw [HN]
        have hfb : f.isEmpty = false := by simp [hfe]
        clear HN hfe h8
        go_enter Tryd.func18, Tryd.ntmps18
        go_wp2
        go_ret
        exact ⟨rfl, (Below.refl _ w).alloc (Nat.le_refl _) _⟩
    · have HN := nodeB_texts k a p f h8 (Or.inl hpe)
      rw [HN]
      have hpb : p.isEmpty = false := by simp [hpe]
      clear HN hpe h8
      go_enter Tryd.func18, Tryd.ntmps18
      go_wp2
      go_ret
      exact ⟨rfl, (Below.refl _ w).alloc (Nat.le_refl _) _⟩

theorem kids_two (k a : Int) (p f : List UInt8) (h : 3 ≤ k ∧ k ≤ 6) : kidsV (k, a, p, f) = 2 := if_pos h
theorem kids_if (a : Int) (p f : List UInt8) : kidsV (7, a, p, f) = 3 := by unfold kidsV; simp
theorem kids_call (a : Int) (p f : List UInt8) : kidsV (8, a, p, f) = a := by unfold kidsV; simp
theorem kids_none (k a : Int) (p f : List UInt8) (h : k < 3 ∨ 8 < k) : kidsV (k, a, p, f) = 0 := by
  unfold kidsV
  simp only
  rw [if_neg (by omega), if_neg (by omega), if_neg (by omega)]

set_option maxHeartbeats 2000000 in
set_option maxRecDepth 100000 in
theorem specKids (n : Nd) (w : World) :
    Calls Tryd.prog 48 #[nodeVal n] w fun e w' => e = .returned (.int .i64 (kidsV n)) ∧ Below w.heap.size w w' := by
  obtain ⟨k, a, p, f⟩ := n
  unfold nodeVal
  simp only
  by_cases h36 : 3 ≤ k ∧ k ≤ 6
  · rw [kids_two k a p f h36]
    rcases (show k = 3 ∨ k = 4 ∨ k = 5 ∨ k = 6 by omega) with rfl | rfl | rfl | rfl
    all_goals
      go_enter Tryd.func48, Tryd.ntmps48
      go_wp2
      go_ret
      exact ⟨rfl, (Below.refl _ w).alloc (Nat.le_refl _) _⟩
  · by_cases h7 : k = 7
    · subst h7
      rw [kids_if]
      go_enter Tryd.func48, Tryd.ntmps48
      go_wp2
      go_ret
      exact ⟨rfl, (Below.refl _ w).alloc (Nat.le_refl _) _⟩
    · by_cases h8 : k = 8
      · subst h8
        rw [kids_call]
        go_enter Tryd.func48, Tryd.ntmps48
        go_wp2
        go_ret
        exact ⟨rfl, (Below.refl _ w).alloc (Nat.le_refl _) _⟩
      · rw [kids_none k a p f (by omega)]
        have d3 : (k == 3) = false := beq_eq_false_iff_ne.2 (by omega)
        have d4 : (k == 4) = false := beq_eq_false_iff_ne.2 (by omega)
        have d5 : (k == 5) = false := beq_eq_false_iff_ne.2 (by omega)
        have d6 : (k == 6) = false := beq_eq_false_iff_ne.2 (by omega)
        have d7 : (k == 7) = false := beq_eq_false_iff_ne.2 h7
        have d8 : (k == 8) = false := beq_eq_false_iff_ne.2 h8
        clear h36 h7 h8
        go_enter Tryd.func48, Tryd.ntmps48
        go_wp2
        go_ret
        exact ⟨rfl, (Below.refl _ w).alloc (Nat.le_refl _) _⟩

theorem below_boxed {w w1 : World} {o : Obj} (h : Below (w.alloc o).heap.size (w.alloc o) w1) : Below w.heap.size w w1 :=
  ((Below.refl _ w).alloc (Nat.le_refl _) o).trans (h.mono (by simp))

theorem below_boxd {w w1 : World} {o : Obj} (h : Below (w.alloc o).drew.heap.size (w.alloc o).drew w1) : Below w.heap.size w w1 :=
  ((Below.refl _ w).alloc (Nat.le_refl _) o).trans (⟨h.os, h.tape, h.output, h.size, fun k hk => h.block k (by simp; omega)⟩ : Below w.heap.size (w.alloc o) w1)

set_option maxHeartbeats 1000000 in
set_option maxRecDepth 100000 in
theorem specKidsOf (n : Nd) (w : World) (hp : n.2.2.1.length ≤ 1048576) (hf : n.2.2.2.length ≤ 1048576) :
    Calls Tryd.prog 20 #[nodeVal n] w fun e w' => e = .returned (.int .i64 (kidsOfV n)) ∧ Below w.heap.size w w' := by
  have HC := fun W : World => specNodeOk n W hp hf
  have HK := fun W : World => specKids n W
  unfold nodeVal at HC HK ⊢
  unfold kidsOfV
  obtain ⟨k, a, p, f⟩ := n
  simp only at hp hf HC HK ⊢
  have HC2 : Hid (_) := HC
  have HK2 : Hid (_) := HK
  rcases hb : nodeB (k, a, p, f) with _ | _
  · have HB : Hid (nodeB (k, a, p, f) = false) := hb
    rw [if_neg (by simp)]
    clear hb HC HK HK2
    go_enter Tryd.func20, Tryd.ntmps20
    go_wp2_with fail
    refine Calls.mono (HC2.out _) ?_
    rintro e w1 ⟨rfl, hb1⟩
    rw [HB.out]
    go_wp2
    go_ret
    exact ⟨rfl, below_boxed hb1⟩
  · have HB : Hid (nodeB (k, a, p, f) = true) := hb
    rw [if_pos rfl]
    clear hb HC HK
    go_enter Tryd.func20, Tryd.ntmps20
    go_wp2_with fail
    refine Calls.mono (HC2.out _) ?_
    rintro e w1 ⟨rfl, hb1⟩
    rw [HB.out]
    have c0 : w1.cell? ⟨w.heap.size, 0, none⟩ = some (.int .i64 k) := (hb1.cell (p := ⟨w.heap.size, 0, none⟩) (by simp)).trans (by simp)
    have c1 : w1.cell? ⟨w.heap.size, 1, none⟩ = some (.int .i64 a) := (hb1.cell (p := ⟨w.heap.size, 1, none⟩) (by simp)).trans (by simp)
    have c2 : w1.cell? ⟨w.heap.size, 2, none⟩ = some (.string ⟨p.toArray⟩) := (hb1.cell (p := ⟨w.heap.size, 2, none⟩) (by simp)).trans (by simp)
    have c3 : w1.cell? ⟨w.heap.size, 3, none⟩ = some (.string ⟨f.toArray⟩) := (hb1.cell (p := ⟨w.heap.size, 3, none⟩) (by simp)).trans (by simp)
    have hB := below_boxed hb1
    clear hb1 HC2
    go_wp2_with fail
    refine Calls.mono (HK2.out _) ?_
    rintro e w2 ⟨rfl, hb2⟩
    go_wp2
    go_ret
    exact ⟨rfl, hB.trans (hb2.mono hB.size)⟩

end Go.Proofs.YtjkfjenhocaljaaDoor
