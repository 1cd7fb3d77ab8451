/-
  Parts of one proof, one behind the other: TreeS4, TreeS5, PackC.
-/
import Derived.Test.YtiekcenknniniaaGreatDoorP7
import Derived.Test.YtiekcenknniniaaGreatDoorP5
import Derived.Deep.RegionWith

/-! The contract of chapter 6's specification: the node of a word. -/
namespace Go.Proofs.YtiekcenknniniaaGreatDoor
open Go.RowKit

theorem part_le (ws : List (List UInt8)) (j : Nat) : (ws.getD j []).length ≤ ws.flatten.length := by
  induction ws generalizing j with
  | nil => simp
  | cons x r ih =>
    cases j with
    | zero => simp
    | succ j => have := ih j; simp only [List.getD_cons_succ, List.flatten_cons, List.length_append]; omega

/-- Four cells of one block are written. -/
theorem four_set (w : World) (b : Nat) (n : Nd) {u0 u1 u2 u3 : Value} (r0 : w.cell? ⟨b, 0, none⟩ = some u0) (r1 : w.cell? ⟨b, 1, none⟩ = some u1) (r2 : w.cell? ⟨b, 2, none⟩ = some u2) (r3 : w.cell? ⟨b, 3, none⟩ = some u3) :
    let X := ((((w.setCell ⟨b, 0, none⟩ (.int .i64 n.1)).setCell ⟨b, 1, none⟩ (.int .i64 n.2.1)).setCell ⟨b, 2, none⟩ (.string ⟨n.2.2.1.toArray⟩)).setCell ⟨b, 3, none⟩ (.string ⟨n.2.2.2.toArray⟩))
    X.cell? ⟨b, 0, none⟩ = some (.int .i64 n.1) ∧ X.cell? ⟨b, 1, none⟩ = some (.int .i64 n.2.1) ∧ X.cell? ⟨b, 2, none⟩ = some (.string ⟨n.2.2.1.toArray⟩) ∧ X.cell? ⟨b, 3, none⟩ = some (.string ⟨n.2.2.2.toArray⟩) := by
  intro X
  have o : ∀ (W : World) (i j : Nat) (v : Value), i ≠ j → (W.setCell ⟨b, i, none⟩ v).cell? ⟨b, j, none⟩ = W.cell? ⟨b, j, none⟩ := fun W i j v h => World.cell?_setCell_other _ _ _ _ (by intro e; injection e with _ e; omega)
  refine ⟨?_, ?_, ?_, ?_⟩
  · exact (o _ 3 0 _ (by omega)).trans ((o _ 2 0 _ (by omega)).trans ((o _ 1 0 _ (by omega)).trans (World.cell?_setCell_same _ _ _ r0)))
  · exact (o _ 3 1 _ (by omega)).trans ((o _ 2 1 _ (by omega)).trans (World.cell?_setCell_same _ _ _ ((o _ 0 1 _ (by omega)).trans r1)))
  · exact (o _ 3 2 _ (by omega)).trans (World.cell?_setCell_same _ _ _ ((o _ 1 2 _ (by omega)).trans ((o _ 0 2 _ (by omega)).trans r2)))
  · exact World.cell?_setCell_same _ _ _ ((o _ 2 3 _ (by omega)).trans ((o _ 1 3 _ (by omega)).trans ((o _ 0 3 _ (by omega)).trans r3)))

theorem four_below {w W : World} (h : Below w.heap.size w W) (u0 u1 u2 u3 : Value) : Below w.heap.size w ((((W.setCell ⟨w.heap.size, 0, none⟩ u0).setCell ⟨w.heap.size, 1, none⟩ u1).setCell ⟨w.heap.size, 2, none⟩ u2).setCell ⟨w.heap.size, 3, none⟩ u3) :=
  (((h.setCell (p := ⟨w.heap.size, 0, none⟩) (Nat.le_refl _) _).setCell (p := ⟨w.heap.size, 1, none⟩) (Nat.le_refl _) _).setCell (p := ⟨w.heap.size, 2, none⟩) (Nat.le_refl _) _).setCell (p := ⟨w.heap.size, 3, none⟩) (Nat.le_refl _) _

theorem read_head (s : List UInt8) (c : UInt8) (h : s.head? = some c) : s ≠ [] := fun e => by rw [e] at h; cases h

set_option maxHeartbeats 4000000 in
set_option maxRecDepth 100000 in
theorem specReadN (s : List UInt8) (w : World) (hl : s.length ≤ 1048576) :
    Calls Tryz.prog 91 #[.string ⟨s.toArray⟩] w fun e w' => e = .returned (nodeVal (readN s)) ∧ Below w.heap.size w w' := by
  have hext := ext_list
  by_cases hse : s = []
  · subst hse
    have HR : Hid (readN [] = (0, 0, [], [])) := by exact (if_pos rfl : readN [] = (0, 0, [], []))
    go_enter Tryz.func91, Tryz.ntmps91
    go_wp2
    refine bodyPost_ret (v := .agg #[.int .i64 0, .int .i64 0, .string ⟨#[]⟩, .string ⟨#[]⟩]) (by simp [results, Tryz.results91, go_sem]) rfl ?_
    exact ⟨by rw [HR.out]; rfl, (Below.refl _ w).alloc (Nat.le_refl _) _⟩
  · have htl : 0 < s.length := List.length_pos_iff.2 hse
    have htb : s.isEmpty = false := by simp [hse]
    obtain ⟨x0, r, rfl⟩ : ∃ x0 r, s = x0 :: r := by
      cases s with
      | nil => exact absurd rfl hse
      | cons x0 r => exact ⟨x0, r, rfl⟩
    have hx0b : (⟨(x0 :: r).toArray⟩ : ByteArray)[0]'(by show 0 < (x0 :: r).toArray.size; simp) = x0 := rfl
    have hrl : (r.length : Int) ≤ 1048576 := by simp at hl; omega
    clear hse
    by_cases h36 : x0 = 36
    · subst h36
      have HR : Hid (readN (36 :: r) = (2, readV r, [], [])) := by exact (by unfold readN; rw [if_neg (by simp), if_pos (by rfl)]; rfl : readN (36 :: r) = (2, readV r, [], []))
      go_enter Tryz.func91, Tryz.ntmps91
      go_wp2_with fail
      refine (specRead r _ (by omega)).mono ?_
      rintro e w1 ⟨rfl, rfl⟩
      go_wp2
      refine bodyPost_ret (v := .agg #[.int .i64 2, .int .i64 (readV r), .string ⟨#[]⟩, .string ⟨#[]⟩]) (by simp [results, Tryz.results91, go_sem]) rfl ?_
      exact ⟨by rw [HR.out]; rfl, (Below.refl _ w).alloc (Nat.le_refl _) _⟩
    have d36 : ((x0.toNat : Int) == 36) = false := beq_eq_false_iff_ne.2 (fun e => h36 (UInt8.toNat_inj.1 (by have e2 : (36 : UInt8).toNat = 36 := rfl; omega)))
    by_cases h43 : x0 = 43
    · subst h43
      have HR : Hid (readN (43 :: r) = (3, 0, [], [])) := by exact (by unfold readN; rw [if_neg (by simp), if_neg (by simp), if_pos (by rfl)] : readN (43 :: r) = (3, 0, [], []))
      go_enter Tryz.func91, Tryz.ntmps91
      go_wp2
      refine bodyPost_ret (v := .agg #[.int .i64 3, .int .i64 0, .string ⟨#[]⟩, .string ⟨#[]⟩]) (by simp [results, Tryz.results91, go_sem]) rfl ?_
      exact ⟨by rw [HR.out]; rfl, (Below.refl _ w).alloc (Nat.le_refl _) _⟩
    have d43 : ((x0.toNat : Int) == 43) = false := beq_eq_false_iff_ne.2 (fun e => h43 (UInt8.toNat_inj.1 (by have e2 : (43 : UInt8).toNat = 43 := rfl; omega)))
    by_cases h42 : x0 = 42
    · subst h42
      have HR : Hid (readN (42 :: r) = (5, 0, [], [])) := by exact (by unfold readN; rw [if_neg (by simp), if_neg (by simp), if_neg (by simp), if_pos (by rfl)] : readN (42 :: r) = (5, 0, [], []))
      go_enter Tryz.func91, Tryz.ntmps91
      go_wp2
      refine bodyPost_ret (v := .agg #[.int .i64 5, .int .i64 0, .string ⟨#[]⟩, .string ⟨#[]⟩]) (by simp [results, Tryz.results91, go_sem]) rfl ?_
      exact ⟨by rw [HR.out]; rfl, (Below.refl _ w).alloc (Nat.le_refl _) _⟩
    have d42 : ((x0.toNat : Int) == 42) = false := beq_eq_false_iff_ne.2 (fun e => h42 (UInt8.toNat_inj.1 (by have e2 : (42 : UInt8).toNat = 42 := rfl; omega)))
    by_cases h47 : x0 = 47
    · subst h47
      have HR : Hid (readN (47 :: r) = (6, 0, [], [])) := by exact (by unfold readN; rw [if_neg (by simp), if_neg (by simp), if_neg (by simp), if_neg (by simp), if_pos (by rfl)] : readN (47 :: r) = (6, 0, [], []))
      go_enter Tryz.func91, Tryz.ntmps91
      go_wp2
      refine bodyPost_ret (v := .agg #[.int .i64 6, .int .i64 0, .string ⟨#[]⟩, .string ⟨#[]⟩]) (by simp [results, Tryz.results91, go_sem]) rfl ?_
      exact ⟨by rw [HR.out]; rfl, (Below.refl _ w).alloc (Nat.le_refl _) _⟩
    have d47 : ((x0.toNat : Int) == 47) = false := beq_eq_false_iff_ne.2 (fun e => h47 (UInt8.toNat_inj.1 (by have e2 : (47 : UInt8).toNat = 47 := rfl; omega)))
    by_cases h63 : x0 = 63
    · subst h63
      have HR : Hid (readN (63 :: r) = (7, 0, [], [])) := by exact (by unfold readN; rw [if_neg (by simp), if_neg (by simp), if_neg (by simp), if_neg (by simp), if_neg (by simp), if_pos (by rfl)] : readN (63 :: r) = (7, 0, [], []))
      go_enter Tryz.func91, Tryz.ntmps91
      go_wp2
      refine bodyPost_ret (v := .agg #[.int .i64 7, .int .i64 0, .string ⟨#[]⟩, .string ⟨#[]⟩]) (by simp [results, Tryz.results91, go_sem]) rfl ?_
      exact ⟨by rw [HR.out]; rfl, (Below.refl _ w).alloc (Nat.le_refl _) _⟩
    have d63 : ((x0.toNat : Int) == 63) = false := beq_eq_false_iff_ne.2 (fun e => h63 (UInt8.toNat_inj.1 (by have e2 : (63 : UInt8).toNat = 63 := rfl; omega)))
    by_cases h64 : x0 = 64
    · subst h64
      have HRd : Hid (readN (64 :: r) = if (splitL 47 r).length = 2 ∧ (splitL 46 ((splitL 47 r).getD 0 [])).length = 2 then (8, readV ((splitL 47 r).getD 1 []), (splitL 46 ((splitL 47 r).getD 0 [])).getD 0 [], (splitL 46 ((splitL 47 r).getD 0 [])).getD 1 []) else (0, 0, [], [])) := by exact (by unfold readN; rw [if_neg (by simp), if_neg (by simp), if_neg (by simp), if_neg (by simp), if_neg (by simp), if_neg (by simp), if_pos (by rfl), List.tail_cons] : readN (64 :: r) = _)
      obtain ⟨ws, hws⟩ : ∃ ws, splitL 47 r = ws := ⟨_, rfl⟩
      obtain ⟨q0, hq0⟩ : ∃ q0, ws.getD 0 [] = q0 := ⟨_, rfl⟩
      obtain ⟨q1, hq1⟩ : ∃ q1, ws.getD 1 [] = q1 := ⟨_, rfl⟩
      obtain ⟨ps, hps⟩ : ∃ ps, splitL 46 q0 = ps := ⟨_, rfl⟩
      have hwp : 0 < ws.length := by rw [← hws]; exact List.length_pos_iff.2 (splitGo_ne 47 r [])
      have hpp : 0 < ps.length := by rw [← hps]; exact List.length_pos_iff.2 (splitGo_ne 46 _ [])
      have hwl : ws.length ≤ r.length + 1 := by rw [← hws]; exact splitGo_len 47 r []
      have hwf : ∀ j, (ws.getD j []).length ≤ 1048576 := fun j => by
        have h1 := splitGo_flat 47 r []
        have h2 : (splitL 47 r).flatten.length ≤ r.length := by simpa [splitL] using h1
        rw [hws] at h2
        have h3 := part_le ws j
        omega
      have hpl : ps.length ≤ 1048577 := by rw [← hps]; have h1 := splitGo_len 46 q0 []; have h2 := hwf 0; rw [hq0] at h2; unfold splitL; omega
      have HW : Hid (splitL 47 r = ws) := hws
      have HP : Hid (splitL 46 q0 = ps) := hps
      have HQ : Hid (ws.getD 0 [] = q0 ∧ ws.getD 1 [] = q1) := ⟨hq0, hq1⟩
      have hq0l : q0.length ≤ 1048576 := by rw [← hq0]; exact hwf 0
      have hq1l : q1.length ≤ 1048576 := by rw [← hq1]; exact hwf 1
      clear hws hps hq0 hq1 hwf
      go_enter Tryz.func91, Tryz.ntmps91
      go_wp2_with fail
      refine (specSplit r 47 47 _ (by rfl) (by omega)).mono ?_
      rintro e w1 ⟨g1, cp1, rfl, hown1, hb1⟩
      rw [HW.out] at hown1 ⊢
      have hc10 := str_cellsD hown1 rfl 0 hwp
      rw [HQ.out.1] at hc10
      have hwp2 : (0 : Int) < (ws.length : Int) := by omega
      have hB1 := below_boxed hb1
      have r0 : w1.cell? ⟨w.heap.size, 0, none⟩ = some (.int .i64 0) := (hb1.cell (p := ⟨w.heap.size, 0, none⟩) (by simp)).trans (by simp)
      have r1 : w1.cell? ⟨w.heap.size, 1, none⟩ = some (.int .i64 0) := (hb1.cell (p := ⟨w.heap.size, 1, none⟩) (by simp)).trans (by simp)
      have r2 : w1.cell? ⟨w.heap.size, 2, none⟩ = some (.string ⟨#[]⟩) := (hb1.cell (p := ⟨w.heap.size, 2, none⟩) (by simp)).trans (by simp)
      have r3 : w1.cell? ⟨w.heap.size, 3, none⟩ = some (.string ⟨#[]⟩) := (hb1.cell (p := ⟨w.heap.size, 3, none⟩) (by simp)).trans (by simp)
      have rf : ∀ j, w1.frozen? ⟨w.heap.size, j, none⟩ = false := fun j => (hb1.frozen (p := ⟨w.heap.size, j, none⟩) (by simp)).trans (by simp)
      have hs1 : w.heap.size < w1.heap.size := by have := hb1.size; simp at this; omega
      rw [World.size_alloc] at hown1
      clear hb1
      go_wp2_with fail
      refine (specSplit q0 46 46 _ (by rfl) hq0l).mono ?_
      rintro e w2 ⟨g2, cp2, rfl, hown2, hb2⟩
      rw [HP.out] at hown2 ⊢
      have hB2 := hB1.trans (hb2.mono hB1.size)
      have r0 := (hb2.cell (p := ⟨w.heap.size, 0, none⟩) hs1).trans r0
      have r1 := (hb2.cell (p := ⟨w.heap.size, 1, none⟩) hs1).trans r1
      have r2 := (hb2.cell (p := ⟨w.heap.size, 2, none⟩) hs1).trans r2
      have r3 := (hb2.cell (p := ⟨w.heap.size, 3, none⟩) hs1).trans r3
      have rf := fun j => (hb2.frozen (p := ⟨w.heap.size, j, none⟩) hs1).trans (rf j)
      have rf0 := rf 0
      have rf1 := rf 1
      have rf2 := rf 2
      have rf3 := rf 3
      have hown1b := own_below hown1 hb2
      have hg2 : w1.heap.size ≤ g2 := (hown2.lt g2 rfl).1
      have hgne : g2 ≠ w.heap.size := by omega
      clear hb2 hB1 hown1 hc10 rf
      by_cases hw2 : ws.length = 2
      · have dw : ((ws.length : Int) != 2) = false := by rw [hw2]; rfl
        by_cases hp2 : ps.length = 2
        · have dp : ((ps.length : Int) != 2) = false := by rw [hp2]; rfl
          have HR : Hid (readN (64 :: r) = (8, readV q1, ps.getD 0 [], ps.getD 1 [])) := by exact (by rw [HRd.out, HW.out, HQ.out.1, HQ.out.2, HP.out, if_pos ⟨hw2, hp2⟩] : readN (64 :: r) = (8, readV q1, ps.getD 0 [], ps.getD 1 []))
          have hc11 := str_cellsD hown1b rfl 1 (by omega)
          rw [HQ.out.2] at hc11
          have hc20 := str_cellsD hown2 rfl 0 (by omega)
          have hc21 := str_cellsD hown2 rfl 1 (by omega)
          have hwl2 : (1 : Int) < (ws.length : Int) := by omega
          have hpl2 : (1 : Int) < (ps.length : Int) := by omega
          have hpl0 : (0 : Int) < (ps.length : Int) := by omega
          clear hw2 hp2 hown1b hown2
          go_wp2_with fail
          refine (specRead q1 _ hq1l).mono ?_
          rintro e w3 ⟨rfl, rfl⟩
          obtain ⟨A, hA⟩ : ∃ A, readV q1 = A := ⟨_, rfl⟩
          obtain ⟨P0, hP0⟩ : ∃ P0, ps.getD 0 [] = P0 := ⟨_, rfl⟩
          obtain ⟨P1, hP1⟩ : ∃ P1, ps.getD 1 [] = P1 := ⟨_, rfl⟩
          have HA : Hid (readV q1 = A ∧ ps.getD 0 [] = P0 ∧ ps.getD 1 [] = P1) := ⟨hA, hP0, hP1⟩
          rw [hA]
          rw [hP0] at hc20
          rw [hP1] at hc21
          clear hA hP0 hP1 hc11
          have hgne2 : w.heap.size ≠ g2 := fun e => hgne e.symm
          go_wp2
          go_region_held3 (fun w' => w'.cell? ⟨g2, 0, none⟩ = some (.string ⟨P0.toArray⟩) ∧ w'.cell? ⟨g2, 1, none⟩ = some (.string ⟨P1.toArray⟩)) (go_keep) (fail)
          go_wp2
          obtain ⟨X, hX⟩ : ∃ X, ((((w3.setCell ⟨w.heap.size, 0, none⟩ (.int .i64 8)).setCell ⟨w.heap.size, 1, none⟩ (.int .i64 A)).setCell ⟨w.heap.size, 2, none⟩ (.string ⟨P0.toArray⟩)).setCell ⟨w.heap.size, 3, none⟩ (.string ⟨P1.toArray⟩)) = X := ⟨_, rfl⟩
          have hx := four_set w3 w.heap.size (8, A, P0, P1) r0 r1 r2 r3
          simp only at hx
          rw [hX] at hx ⊢
          refine bodyPost_ret (v := .agg #[.int .i64 8, .int .i64 A, .string ⟨P0.toArray⟩, .string ⟨P1.toArray⟩]) (by simp [results, Tryz.results91, go_sem, hx]) rfl ?_
          rw [← hX]
          exact ⟨by rw [HR.out, HA.out.1, HA.out.2.1, HA.out.2.2]; rfl, (four_below hB2 _ _ _ _).drew⟩
        · have dp : ((ps.length : Int) != 2) = true := bne_iff_ne.2 (by omega)
          have HR : Hid (readN (64 :: r) = (0, 0, [], [])) := by exact (by rw [HRd.out, HW.out, HQ.out.1, HP.out, if_neg (by omega)] : readN (64 :: r) = (0, 0, [], []))
          go_wp2
          obtain ⟨X, hX⟩ : ∃ X, ((((w2.setCell ⟨w.heap.size, 0, none⟩ (.int .i64 0)).setCell ⟨w.heap.size, 1, none⟩ (.int .i64 0)).setCell ⟨w.heap.size, 2, none⟩ (.string ⟨#[]⟩)).setCell ⟨w.heap.size, 3, none⟩ (.string ⟨#[]⟩)) = X := ⟨_, rfl⟩
          have hx := four_set w2 w.heap.size (0, 0, [], []) r0 r1 r2 r3
          simp only at hx
          rw [hX] at hx ⊢
          refine bodyPost_ret (v := .agg #[.int .i64 0, .int .i64 0, .string ⟨#[]⟩, .string ⟨#[]⟩]) (by simp [results, Tryz.results91, go_sem, hx]) rfl ?_
          rw [← hX]
          exact ⟨by rw [HR.out]; rfl, four_below hB2 _ _ _ _⟩
      · have dw : ((ws.length : Int) != 2) = true := bne_iff_ne.2 (by omega)
        have HR : Hid (readN (64 :: r) = (0, 0, [], [])) := by exact (by rw [HRd.out, HW.out, HQ.out.1, HP.out, if_neg (by omega)] : readN (64 :: r) = (0, 0, [], []))
        go_wp2
        obtain ⟨X, hX⟩ : ∃ X, ((((w2.setCell ⟨w.heap.size, 0, none⟩ (.int .i64 0)).setCell ⟨w.heap.size, 1, none⟩ (.int .i64 0)).setCell ⟨w.heap.size, 2, none⟩ (.string ⟨#[]⟩)).setCell ⟨w.heap.size, 3, none⟩ (.string ⟨#[]⟩)) = X := ⟨_, rfl⟩
        have hx := four_set w2 w.heap.size (0, 0, [], []) r0 r1 r2 r3
        simp only at hx
        rw [hX] at hx ⊢
        refine bodyPost_ret (v := .agg #[.int .i64 0, .int .i64 0, .string ⟨#[]⟩, .string ⟨#[]⟩]) (by simp [results, Tryz.results91, go_sem, hx]) rfl ?_
        rw [← hX]
        exact ⟨by rw [HR.out]; rfl, four_below hB2 _ _ _ _⟩
    have d64 : ((x0.toNat : Int) == 64) = false := beq_eq_false_iff_ne.2 (fun e => h64 (UInt8.toNat_inj.1 (by have e2 : (64 : UInt8).toNat = 64 := rfl; omega)))
    have hne : ∀ c : UInt8, x0 ≠ c → ¬ (x0 :: r).head? = some c := fun c h e => h (by simpa using e)
    by_cases h45 : x0 :: r = [45]
    · have HR : Hid (readN (x0 :: r) = (4, 0, [], [])) := by exact (by unfold readN; rw [if_neg (by simp), if_neg (hne 36 h36), if_neg (hne 43 h43), if_neg (hne 42 h42), if_neg (hne 47 h47), if_neg (hne 63 h63), if_neg (hne 64 h64), if_pos h45] : readN (x0 :: r) = (4, 0, [], []))
      have dd : ((x0 :: r) == [45]) = true := by rw [h45]; rfl
      clear hne h45
      go_enter Tryz.func91, Tryz.ntmps91
      go_wp2
      refine bodyPost_ret (v := .agg #[.int .i64 4, .int .i64 0, .string ⟨#[]⟩, .string ⟨#[]⟩]) (by simp [results, Tryz.results91, go_sem]) rfl ?_
      exact ⟨by rw [HR.out]; rfl, (Below.refl _ w).alloc (Nat.le_refl _) _⟩
    · have HR : Hid (readN (x0 :: r) = (1, readV (x0 :: r), [], [])) := by exact (by unfold readN; rw [if_neg (by simp), if_neg (hne 36 h36), if_neg (hne 43 h43), if_neg (hne 42 h42), if_neg (hne 47 h47), if_neg (hne 63 h63), if_neg (hne 64 h64), if_neg h45] : readN (x0 :: r) = (1, readV (x0 :: r), [], []))
      have dd : ((x0 :: r) == [45]) = false := beq_eq_false_iff_ne.2 h45
      clear hne h45
      go_enter Tryz.func91, Tryz.ntmps91
      go_wp2_with fail
      refine (specRead (x0 :: r) _ hl).mono ?_
      rintro e w1 ⟨rfl, rfl⟩
      go_wp2
      refine bodyPost_ret (v := .agg #[.int .i64 1, .int .i64 (readV (x0 :: r)), .string ⟨#[]⟩, .string ⟨#[]⟩]) (by simp [results, Tryz.results91, go_sem]) rfl ?_
      exact ⟨by rw [HR.out]; rfl, (Below.refl _ w).alloc (Nat.le_refl _) _⟩

end Go.Proofs.YtiekcenknniniaaGreatDoor

/-! The contract of chapter 6's specification: ReadTree. -/
namespace Go.Proofs.YtiekcenknniniaaGreatDoor
open Go.RowKit

/-- What a row of nodes holds. -/
def nodesV : List Nd → List Value
  | [] => []
  | n :: r => .int .i64 n.1 :: .int .i64 n.2.1 :: .string ⟨n.2.2.1.toArray⟩ :: .string ⟨n.2.2.2.toArray⟩ :: nodesV r

theorem nodesV_len (ns : List Nd) : (nodesV ns).length = ns.length * 4 := by
  induction ns with
  | nil => rfl
  | cons n r ih => simp only [nodesV, List.length_cons, ih]; omega

theorem nodesV_append (x y : List Nd) : nodesV (x ++ y) = nodesV x ++ nodesV y := by
  induction x with
  | nil => rfl
  | cons n r ih => simp only [List.cons_append, nodesV, ih]

theorem nodesV_one (ns : List Nd) : ∀ u ∈ nodesV ns, u.oneCell' = true := by
  induction ns with
  | nil => intro u hu; cases hu
  | cons n r ih =>
    intro u hu
    simp only [nodesV, List.mem_cons] at hu
    rcases hu with rfl | rfl | rfl | rfl | h
    · rfl
    · rfl
    · rfl
    · rfl
    · exact ih u h

theorem nodesV_at (ns : List Nd) (j : Nat) (hj : j < ns.length) : (nodesV ns)[j * 4]? = some (.int .i64 (ns.getD j nd0).1) ∧ (nodesV ns)[j * 4 + 1]? = some (.int .i64 (ns.getD j nd0).2.1) ∧ (nodesV ns)[j * 4 + 2]? = some (.string ⟨(ns.getD j nd0).2.2.1.toArray⟩) ∧ (nodesV ns)[j * 4 + 3]? = some (.string ⟨(ns.getD j nd0).2.2.2.toArray⟩) := by
  induction ns generalizing j with
  | nil => simp at hj
  | cons n r ih =>
    cases j with
    | zero => simp [nodesV]
    | succ j =>
      have h := ih j (by simpa using hj)
      rw [show (j + 1) * 4 = j * 4 + 1 + 1 + 1 + 1 by omega]
      simpa [nodesV] using h

/-- A row of nodes that a call owns is a list of nodes. -/
theorem own_nodes {w : World} {base n : Nat} {v : Value} {ns : List Nd} (h : w.ownsRow base 124 4 v n (nodesV ns)) : ns.length = n ∧ ∃ a cap, v = .slice a n cap ∧ NodesIn w a n ns := by
  have hlen : ns.length = n := by have := h.1; rw [nodesV_len] at this; omega
  refine ⟨hlen, ?_⟩
  rcases own_forms h with ⟨rfl, rfl, _⟩ | ⟨g, cp, rfl⟩
  · exact ⟨none, 0, rfl, hlen, fun j hj => by omega⟩
  · refine ⟨some ⟨g, 0, none⟩, cp, rfl, hlen, fun j hj => ?_⟩
    obtain ⟨v0, v1, v2, v3⟩ := nodesV_at ns j (by omega)
    have c0 := h.cellAt (j * 4) (by omega)
    have c1 := h.cellAt (j * 4 + 1) (by omega)
    have c2 := h.cellAt (j * 4 + 2) (by omega)
    have c3 := h.cellAt (j * 4 + 3) (by omega)
    rw [v0] at c0
    rw [v1] at c1
    rw [v2] at c2
    rw [v3] at c3
    refine ⟨g, 0, rfl, (h.lt g rfl).2, ?_, ?_, ?_, ?_⟩
    · rw [Nat.zero_add]; exact c0
    · rw [Nat.zero_add]; exact c1
    · rw [Nat.zero_add]; exact c2
    · rw [Nat.zero_add]; exact c3

theorem infoNode : (Tryz.prog.info? 124).map (fun i => (i.zero, i.size, i.bytes)) = some (some (.agg #[.int .i64 0, .int .i64 0, .string ⟨#[]⟩, .string ⟨#[]⟩]), 4, 48) := by kernel_rfl

theorem new_node (w : World) (n : Nd) : ∀ j u, (nodesV [n])[j]? = some u → (w.alloc (.cells #[.int .i64 n.1, .int .i64 n.2.1, .string ⟨n.2.2.1.toArray⟩, .string ⟨n.2.2.2.toArray⟩] 124)).cell? ((⟨w.heap.size, 0, none⟩ : Addr).add j) = some u := by
  intro j u hu
  have e : (⟨w.heap.size, 0, none⟩ : Addr).add j = ⟨w.heap.size, j, none⟩ := by unfold Addr.add; split <;> simp_all
  rw [e]
  match j, hu with
  | 0, hu => simp [nodesV] at hu; subst hu; simp
  | 1, hu => simp [nodesV] at hu; subst hu; simp
  | 2, hu => simp [nodesV] at hu; subst hu; simp
  | 3, hu => simp [nodesV] at hu; subst hu; simp
  | j + 4, hu => simp [nodesV] at hu

theorem split_part (b : UInt8) (l : List UInt8) (j : Nat) : ((splitL b l).getD j []).length ≤ l.length := by
  have h1 : (splitGo b [] l).flatten.length ≤ l.length := by
    have := splitGo_flat b l []
    rw [List.length_nil, Nat.zero_add] at this
    exact this
  have h2 := part_le (splitL b l) j
  unfold splitL at h2 ⊢
  exact Nat.le_trans h2 h1

theorem readN_short (s : List UInt8) : (readN s).2.2.1.length ≤ s.length ∧ (readN s).2.2.2.length ≤ s.length := by
  unfold readN
  split
  · simp
  split
  · simp
  split
  · simp
  split
  · simp
  split
  · simp
  split
  · simp
  split
  · split
    · have h1 := split_part 47 s.tail 0
      have h2 := split_part 46 ((splitL 47 s.tail).getD 0 []) 0
      have h3 := split_part 46 ((splitL 47 s.tail).getD 0 []) 1
      have h4 : s.tail.length ≤ s.length := by rw [List.length_tail]; omega
      constructor
      · show ((splitL 46 ((splitL 47 s.tail).getD 0 [])).getD 0 []).length ≤ _; omega
      · show ((splitL 46 ((splitL 47 s.tail).getD 0 [])).getD 1 []).length ≤ _; omega
    · simp
  split
  · simp
  · simp

theorem readT_short (s : List UInt8) (h : s.length ≤ 2000) : ShortT (readT s) := by
  intro j
  unfold readT
  by_cases hj : j < (splitL 32 s).length
  · have hg : ((splitL 32 s).map readN).getD j nd0 = readN ((splitL 32 s).getD j []) := by simp [List.getD, hj]
    rw [hg]
    have h1 := readN_short ((splitL 32 s).getD j [])
    have h2 := split_part 32 s j
    omega
  · have hg : ((splitL 32 s).map readN).getD j nd0 = nd0 := by simp [List.getD, hj]
    rw [hg]; simp [nd0]

theorem map_step2 (ws : List (List UInt8)) (k : Nat) (hk : k < ws.length) : (ws.map readN).take (k + 1) = (ws.map readN).take k ++ [readN (ws.getD k [])] := by
  rw [← List.map_take, ← List.map_take]
  have hg : ws.getD k [] = ws[k] := by simp [List.getD, hk]
  rw [hg, List.take_succ_eq_append_getElem hk, List.map_append]; rfl

set_option maxHeartbeats 2000000 in
set_option maxRecDepth 100000 in
theorem specReadTree (s : List UInt8) (w : World) :
    Calls Tryz.prog 58 #[.string ⟨s.toArray⟩] w fun e w' => ∃ v, e = .returned (.tuple #[v, .bool (readOk s)]) ∧ w'.ownsRow w.heap.size 124 4 v (readTV s).length (nodesV (readTV s)) ∧ Below w.heap.size w w' := by
  have hown0 := (World.ownsRow_lit (base := w.heap.size) (e := 124) (size := 4) w #[] 0 (Nat.le_refl _) (by decide) rfl)
  by_cases hl : 2000 < (s.length : Int)
  · have HR : Hid (readOk s = false ∧ readTV s = []) := by
      have h1 : readOk s = false := by unfold readOk; rw [decide_eq_false (by omega)]; rfl
      exact ⟨h1, by unfold readTV; rw [if_neg (by rw [h1]; simp)]⟩
    go_enter Tryz.func58, Tryz.ntmps58
    go_wp2
    go_ret2
    exact ⟨_, by rw [HR.out.1]; rfl, by rw [HR.out.2]; exact hown0, (Below.refl _ _).alloc (Nat.le_refl _) _⟩
  · obtain ⟨i0, hi, hz0, hz1, hz2⟩ := info_parts infoNode
    obtain ⟨ws, hws⟩ : ∃ ws, splitL 32 s = ws := ⟨_, rfl⟩
    have hwl : ws.length ≤ 2001 := by rw [← hws]; have := splitGo_len 32 s []; unfold splitL; omega
    have hwt : ∀ j, (ws.getD j []).length ≤ 2000 := fun j => by rw [← hws]; have := split_part 32 s j; omega
    have HW : Hid (splitL 32 s = ws) := hws
    have HSh : Hid (ShortT (ws.map readN)) := by have := readT_short s (by omega); unfold readT at this; rw [hws] at this; exact this
    have HRd : Hid (readT s = ws.map readN) := by exact (by unfold readT; rw [hws] : readT s = ws.map readN)
    clear hws
    go_enter Tryz.func58, Tryz.ntmps58
    go_wp2_with fail
    refine (specSplit s 32 32 _ (by rfl) (by omega)).mono ?_
    rintro e w1 ⟨g1, cp1, rfl, hown1, hb1⟩
    rw [HW.out] at hown1 ⊢
    rw [World.size_alloc] at hown1
    have hB1 := below_boxed hb1
    have hown01 := own_below hown0 hb1
    have hg1 := hown1.lt g1 rfl
    clear hb1 hown0
    go_wp2
    go_loopw [4, 6] (fun v i wr => ∃ k : Nat, k ≤ ws.length ∧ i = .int .i64 k ∧ Hid (wr.ownsRow w.heap.size 124 4 v k (nodesV ((ws.map readN).take k)) ∧ v.ownBlock ≠ some g1) ∧ Hid (wr.ownsRow (w.heap.size + 1) 9 1 (.slice (some ⟨g1, 0, none⟩) ws.length cp1) ws.length (strV ws)) ∧ Below w.heap.size w wr) (fun _ i _ => ws.length - (intOf i).toNat)
    case atStart => exact ⟨0, Nat.zero_le _, rfl, (⟨by simpa [nodesV] using hown01, by simp [Value.ownBlock]; omega⟩ : _ ∧ _), hown1, hB1⟩
    case round =>
      obtain ⟨k, hk, rfl, HV, HS1, hb⟩ := hrel
      clear hown01 hown1 hB1
      have hg1r := (HS1.out.lt g1 rfl).2
      by_cases hkl : (k : Int) < (ws.length : Int)
      · have hk2 : k < ws.length := by omega
        have hcell := str_cellsD HS1.out rfl k hk2
        have hx := hwt k
        have hst := map_step2 ws k hk2
        obtain ⟨x, hxe⟩ : ∃ x, ws.getD k [] = x := ⟨_, rfl⟩
        rw [hxe] at hcell hx hst
        have HC : Hid (_) := fun W : World => specReadN x W (by omega)
        obtain ⟨n, hn⟩ : ∃ n, readN x = n := ⟨_, rfl⟩
        have HST : Hid ((ws.map readN).take (k + 1) = (ws.map readN).take k ++ [n]) := by exact (by rw [hst, hn] : (ws.map readN).take (k + 1) = (ws.map readN).take k ++ [n])
        rw [hn] at HC
        clear hst hxe hn
        go_wp2_with fail
        refine Calls.mono (HC.out _) ?_
        rintro e w2 ⟨rfl, hb2⟩
        have hV2 := own_below HV.out.1 hb2
        have hS2 := own_below HS1.out hb2
        have hB2 := hb.trans (hb2.mono hb.size)
        have hg2 : g1 < w2.heap.size := Nat.lt_of_lt_of_le hg1r hb2.size
        have hvn := HV.out.2
        clear hb2 hb HV HS1 hcell HC
        unfold nodeVal
        have hnc := new_node w2 n
        obtain ⟨kd, aa, p, f⟩ := n
        simp only at hnc ⊢
        go_wp2_with (at_builtin; refine wpList_append_own_at _ rfl _ _ 81 rfl w.heap.size 124 i0 _ 4 48 Tryz.underlying81 hi hz0 hz1 hz2 rfl (by decide) _ _ _ rfl (hV2.alloc _) ⟨w2.heap.size, 0, none⟩ 1 1 (nodesV [(kd, aa, p, f)]) rfl rfl ?c1 ?c2 ?c3 ?c4 ?c5 ?_)
        first | (case c1 => exact hnc) | skip
        first | (case c2 => exact nodesV_one _) | skip
        first | (case c3 => unfold maxLen; omega) | skip
        first | (case c4 => omega) | skip
        first | (case c5 => have := hB2.size; simp; try omega) | skip
        intro v' w3 hown3 hgrow3 hnil3 hat3
        have hv3 : v'.ownBlock ≠ some g1 := by
          rcases hat3 with h | h
          · rw [h]; exact hvn
          · rw [h]; simp; omega
        have HV3 : Hid (w3.ownsRow w.heap.size 124 4 v' (k + 1) (nodesV ((ws.map readN).take (k + 1))) ∧ v'.ownBlock ≠ some g1) := by
          exact (⟨by rw [HST.out, nodesV_append]; exact hown3, hv3⟩ : w3.ownsRow w.heap.size 124 4 v' (k + 1) (nodesV ((ws.map readN).take (k + 1))) ∧ v'.ownBlock ≠ some g1)
        have HS3 : Hid (w3.ownsRow (w.heap.size + 1) 9 1 (.slice (some ⟨g1, 0, none⟩) ws.length cp1) ws.length (strV ws)) := (hS2.alloc _).kept hgrow3 (.inr (fun e => hvn e.symm))
        have hb3 : Below w.heap.size w w3 := (hB2.alloc hB2.size _).grown hgrow3 (by have := hB2.size; simp; omega) (fun q e => (hV2.lt q e).1)
        clear hown3 hgrow3 hnil3 hat3 hV2 hS2 hB2 hv3 hvn hnc
        go_wp2
        go_roundw
        case rel => exact ⟨k + 1, by omega, by go_num, HV3, HS3, hb3⟩
        case measure => simp [intOf]; omega
      · obtain rfl : k = ws.length := by omega
        have hV := HV.out.1
        rw [List.take_of_length_le (by rw [List.length_map]; exact Nat.le_refl _)] at hV
        obtain ⟨_, av, cv, rfl, hin⟩ := own_nodes hV
        have HT : Hid (_) := specTreeOk av ws.length cv (ws.map readN) wr hin HSh.out (by omega)
        have HIn : Hid (NodesIn wr av ws.length (ws.map readN)) := hin
        have HVV : Hid (wr.ownsRow w.heap.size 124 4 (.slice av ws.length cv) ws.length (nodesV (ws.map readN))) := hV
        clear hV hin HV HS1
        have hok : readOk s = (treeB (ws.map readN) && (showL (ws.map readN) == s)) := by unfold readOk; rw [HRd.out, decide_eq_true (by omega)]; rfl
        rcases ht : treeB (ws.map readN) with _ | _
        · have HTB : Hid (treeB (ws.map readN) = false) := ht
          have HR : Hid (readOk s = false ∧ readTV s = []) := by
            have h1 : readOk s = false := by rw [hok, ht]; rfl
            exact ⟨h1, by unfold readTV; rw [if_neg (by rw [h1]; simp)]⟩
          clear ht hok
          go_wp2_with fail
          refine Calls.mono HT.out ?_
          rintro e w4 ⟨rfl, hb4⟩
          rw [HTB.out]
          have hB4 := hb.trans (hb4.mono hb.size)
          have hownE := (World.ownsRow_lit (base := w.heap.size) (e := 124) (size := 4) w4 #[] 0 hB4.size (by decide) rfl)
          clear hb4 hb
          go_wp2
          go_ret2
          exact ⟨_, by rw [HR.out.1]; rfl, by rw [HR.out.2]; exact hownE, hB4.alloc hB4.size _⟩
        · have HTB : Hid (treeB (ws.map readN) = true) := ht
          have hn := tree_nodes ht
          have h60 := (tree_end ht).1.2
          rw [List.length_map] at h60
          rw [ht, Bool.true_and] at hok
          clear ht
          rcases he : (showL (ws.map readN) == s) with _ | _
          · have HR : Hid (readOk s = false ∧ readTV s = []) := by
              have h1 : readOk s = false := by rw [hok, he]
              exact ⟨h1, by unfold readTV; rw [if_neg (by rw [h1]; simp)]⟩
            obtain ⟨S, hS⟩ : ∃ S, showL (ws.map readN) = S := ⟨_, rfl⟩
            rw [hS] at he
            have HS : Hid (showL (ws.map readN) = S) := hS
            have hne : (S != s) = true := by rw [bne, he]; rfl
            clear hok hS
            go_wp2_with fail
            refine Calls.mono HT.out ?_
            rintro e w4 ⟨rfl, hb4⟩
            rw [HTB.out]
            have hB4 := hb.trans (hb4.mono hb.size)
            go_wp2_with fail
            refine (specShowL av ws.length cv (ws.map readN) _ (HIn.out.below hb4) hn h60).mono ?_
            rintro e w5 ⟨rfl, hb5⟩
            rw [HS.out]
            have hB5 := hB4.trans (hb5.mono hB4.size)
            have hownE := (World.ownsRow_lit (base := w.heap.size) (e := 124) (size := 4) w5 #[] 0 hB5.size (by decide) rfl)
            clear hb4 hb hb5 hB4
            go_wp2
            go_ret2
            exact ⟨_, by rw [HR.out.1]; rfl, by rw [HR.out.2]; exact hownE, hB5.alloc hB5.size _⟩
          · have HR : Hid (readOk s = true ∧ readTV s = ws.map readN) := by
              have h1 : readOk s = true := by rw [hok, he]
              exact ⟨h1, by unfold readTV; rw [if_pos h1, HRd.out]⟩
            obtain ⟨S, hS⟩ : ∃ S, showL (ws.map readN) = S := ⟨_, rfl⟩
            rw [hS] at he
            have HS : Hid (showL (ws.map readN) = S) := hS
            have hne : (S != s) = false := by rw [bne, he]; rfl
            clear hok hS
            go_wp2_with fail
            refine Calls.mono HT.out ?_
            rintro e w4 ⟨rfl, hb4⟩
            rw [HTB.out]
            have hB4 := hb.trans (hb4.mono hb.size)
            go_wp2_with fail
            refine (specShowL av ws.length cv (ws.map readN) _ (HIn.out.below hb4) hn h60).mono ?_
            rintro e w5 ⟨rfl, hb5⟩
            rw [HS.out]
            have hB5 := hB4.trans (hb5.mono hB4.size)
            have hV5 := own_below (own_below HVV.out hb4) hb5
            clear hb4 hb hb5 hB4
            go_wp2
            go_ret2
            exact ⟨_, by rw [HR.out.1]; rfl, by rw [HR.out.2, List.length_map]; exact hV5, hB5⟩

end Go.Proofs.YtiekcenknniniaaGreatDoor

/-! Texts and trees are copied: l1Texts; rows as 'append' reads them. -/
namespace Go.Proofs.YtiekcenknniniaaGreatDoor
open Go.RowKit


theorem TextsIn.src {w : World} {a : Option Addr} {len cap : Nat} {ts : List (List UInt8)} (h : TextsIn w a len ts) (hc : a = none → cap = 0) : Src w (.slice a len cap) len 1 (strV ts) := by
  have hl : (strV ts).length = len := by simp [strV, h.1]
  refine ⟨by rw [hl]; omega, fun u hu => ?_, ?_⟩
  · simp only [strV, List.mem_map] at hu
    obtain ⟨x, _, rfl⟩ := hu
    rfl
  rcases a with _ | ad
  · have h0 : len = 0 := by
      rcases Nat.eq_zero_or_pos len with h' | h'
      · exact h'
      · obtain ⟨b, off, e, _⟩ := h.2 0 h'
        cases e
    exact Or.inl ⟨by rw [h0, hc rfl], h0⟩
  · refine Or.inr ⟨ad, cap, rfl, fun j u hu => ?_⟩
    have hj : j < (strV ts).length := by
      rcases Nat.lt_or_ge j (strV ts).length with h' | h'
      · exact h'
      · rw [List.getElem?_eq_none h'] at hu; cases hu
    rw [hl] at hj
    obtain ⟨b, off, e, _, c0⟩ := h.2 j hj
    injection e with e
    subst e
    rw [add_plain, c0]
    rw [strV_at ts j (by rw [h.1]; exact hj)] at hu
    rw [← hu, List.getD_eq_getElem?_getD, List.getElem?_eq_getElem (by rw [h.1]; exact hj)]
    rfl

theorem NodesIn.src {w : World} {a : Option Addr} {len cap : Nat} {ns : List Nd} (h : NodesIn w a len ns) (hc : a = none → cap = 0) : Src w (.slice a len cap) len 4 (nodesV ns) := by
  refine ⟨by rw [nodesV_len, h.1], nodesV_one ns, ?_⟩
  rcases a with _ | ad
  · have h0 : len = 0 := by
      rcases Nat.eq_zero_or_pos len with h' | h'
      · exact h'
      · obtain ⟨b, off, e, _⟩ := h.2 0 h'
        cases e
    exact Or.inl ⟨by rw [h0, hc rfl], h0⟩
  · refine Or.inr ⟨ad, cap, rfl, fun j u hu => ?_⟩
    have hj : j < (nodesV ns).length := by
      rcases Nat.lt_or_ge j (nodesV ns).length with h' | h'
      · exact h'
      · rw [List.getElem?_eq_none h'] at hu; cases hu
    rw [nodesV_len, h.1] at hj
    obtain ⟨b, off, e, _, c0, c1, c2, c3⟩ := h.2 (j / 4) (by omega)
    injection e with e
    subst e
    obtain ⟨v0, v1, v2, v3⟩ := nodesV_at ns (j / 4) (by rw [h.1]; omega)
    rw [add_plain]
    rcases (show j % 4 = 0 ∨ j % 4 = 1 ∨ j % 4 = 2 ∨ j % 4 = 3 by omega) with h' | h' | h' | h'
    · rw [show j / 4 * 4 = j by omega] at v0 c0
      rw [hu] at v0
      rw [c0, v0]
    · rw [show j / 4 * 4 + 1 = j by omega] at v1
      rw [hu] at v1
      rw [show off + j = off + j / 4 * 4 + 1 by omega, c1, v1]
    · rw [show j / 4 * 4 + 2 = j by omega] at v2
      rw [hu] at v2
      rw [show off + j = off + j / 4 * 4 + 2 by omega, c2, v2]
    · rw [show j / 4 * 4 + 3 = j by omega] at v3
      rw [hu] at v3
      rw [show off + j = off + j / 4 * 4 + 3 by omega, c3, v3]


end Go.Proofs.YtiekcenknniniaaGreatDoor
