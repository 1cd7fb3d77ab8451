/-
  The contract of chapter 6's specification: the node of a word.
-/
import Derived.Test.YtjkfjenhocaljaaDoorTreeS3
import Derived.Deep.RegionWith
namespace Go.Proofs.YtjkfjenhocaljaaDoor
open Go.RowKit

theorem part_le (ws : List (List UInt8)) (j : Nat) : (ws.getD j []).length ≤ ws.flatten.length := by
  induction ws generalizing j with
  | nil => simp
  | cons x r ih =>
    cases j with
    | zero => simp
    | succ j => have := ih j; simp only [List.getD_cons_succ, List.flatten_cons, List.length_append]; omega

/-- Four cells of one block are written. -/
theorem four_set (w : World) (b : Nat) (n : Nd) {u0 u1 u2 u3 : Value} (r0 : w.cell? ⟨b, 0, none⟩ = some u0) (r1 : w.cell? ⟨b, 1, none⟩ = some u1) (r2 : w.cell? ⟨b, 2, none⟩ = some u2) (r3 : w.cell? ⟨b, 3, none⟩ = some u3) :
    let X := ((((w.setCell ⟨b, 0, none⟩ (.int .i64 n.1)).setCell ⟨b, 1, none⟩ (.int .i64 n.2.1)).setCell ⟨b, 2, none⟩ (.string ⟨n.2.2.1.toArray⟩)).setCell ⟨b, 3, none⟩ (.string ⟨n.2.2.2.toArray⟩))
    X.cell? ⟨b, 0, none⟩ = some (.int .i64 n.1) ∧ X.cell? ⟨b, 1, none⟩ = some (.int .i64 n.2.1) ∧ X.cell? ⟨b, 2, none⟩ = some (.string ⟨n.2.2.1.toArray⟩) ∧ X.cell? ⟨b, 3, none⟩ = some (.string ⟨n.2.2.2.toArray⟩) := by
  intro X
  have o : ∀ (W : World) (i j : Nat) (v : Value), i ≠ j → (W.setCell ⟨b, i, none⟩ v).cell? ⟨b, j, none⟩ = W.cell? ⟨b, j, none⟩ := fun W i j v h => World.cell?_setCell_other _ _ _ _ (by intro e; injection e with _ e; omega)
  refine ⟨?_, ?_, ?_, ?_⟩
  · exact (o _ 3 0 _ (by omega)).trans ((o _ 2 0 _ (by omega)).trans ((o _ 1 0 _ (by omega)).trans (World.cell?_setCell_same _ _ _ r0)))
  · exact (o _ 3 1 _ (by omega)).trans ((o _ 2 1 _ (by omega)).trans (World.cell?_setCell_same _ _ _ ((o _ 0 1 _ (by omega)).trans r1)))
  · exact (o _ 3 2 _ (by omega)).trans (World.cell?_setCell_same _ _ _ ((o _ 1 2 _ (by omega)).trans ((o _ 0 2 _ (by omega)).trans r2)))
  · exact World.cell?_setCell_same _ _ _ ((o _ 2 3 _ (by omega)).trans ((o _ 1 3 _ (by omega)).trans ((o _ 0 3 _ (by omega)).trans r3)))

theorem four_below {w W : World} (h : Below w.heap.size w W) (u0 u1 u2 u3 : Value) : Below w.heap.size w ((((W.setCell ⟨w.heap.size, 0, none⟩ u0).setCell ⟨w.heap.size, 1, none⟩ u1).setCell ⟨w.heap.size, 2, none⟩ u2).setCell ⟨w.heap.size, 3, none⟩ u3) :=
  (((h.setCell (p := ⟨w.heap.size, 0, none⟩) (Nat.le_refl _) _).setCell (p := ⟨w.heap.size, 1, none⟩) (Nat.le_refl _) _).setCell (p := ⟨w.heap.size, 2, none⟩) (Nat.le_refl _) _).setCell (p := ⟨w.heap.size, 3, none⟩) (Nat.le_refl _) _

theorem read_head (s : List UInt8) (c : UInt8) (h : s.head? = some c) : s ≠ [] := fun e => by rw [e] at h; cases h

set_option maxHeartbeats 4000000 in
set_option maxRecDepth 100000 in
theorem specReadN (s : List UInt8) (w : World) (hl : s.length ≤ 1048576) :
    Calls Tryd.prog 39 #[.string ⟨s.toArray⟩] w fun e w' => e = .returned (nodeVal (readN s)) ∧ Below w.heap.size w w' := by
  have hext := ext_list
  by_cases hse : s = []
  · subst hse
    have HR : Hid (readN [] = (0, 0, [], [])) := by exact (if_pos rfl : readN [] = (0, 0, [], []))
    go_enter Tryd.func39, Tryd.ntmps39
    go_wp2
    refine bodyPost_ret (v := .agg #[.int .i64 0, .int .i64 0, .string ⟨#[]⟩, .string ⟨#[]⟩]) (by simp [results, Tryd.results39, go_sem]) rfl ?_
    exact ⟨by rw [HR.out]; rfl, (Below.refl _ w).alloc (Nat.le_refl _) _⟩
  · have htl : 0 < s.length := List.length_pos_iff.2 hse
    have htb : s.isEmpty = false := by simp [hse]
    obtain ⟨x0, r, rfl⟩ : ∃ x0 r, s = x0 :: r := by
      cases s with
      | nil => exact absurd rfl hse
      | cons x0 r => exact ⟨x0, r, rfl⟩
    have hx0b : (⟨(x0 :: r).toArray⟩ : ByteArray)[0]'(by show 0 < (x0 :: r).toArray.size; simp) = x0 := rfl
    have hrl : (r.length : Int) ≤ 1048576 := by simp at hl; omega
    clear hse
    by_cases h36 : x0 = 36
    · subst h36
      have HR : Hid (readN (36 :: r) = (2, readV r, [], [])) := by exact (by unfold readN; rw [if_neg (by simp), if_pos (by rfl)]; rfl : readN (36 :: r) = (2, readV r, [], []))
      go_enter Tryd.func39, Tryd.ntmps39
      go_wp2_with fail
      refine (specRead r _ (by omega)).mono ?_
      rintro e w1 ⟨rfl, rfl⟩
      go_wp2
      refine bodyPost_ret (v := .agg #[.int .i64 2, .int .i64 (readV r), .string ⟨#[]⟩, .string ⟨#[]⟩]) (by simp [results, Tryd.results39, go_sem]) rfl ?_
      exact ⟨by rw [HR.out]; rfl, (Below.refl _ w).alloc (Nat.le_refl _) _⟩
    have d36 : ((x0.toNat : Int) == 36) = false := beq_eq_false_iff_ne.2 (fun e => h36 (UInt8.toNat_inj.1 (by have e2 : (36 : UInt8).toNat = 36 := rfl; omega)))
    by_cases h43 : x0 = 43
    · subst h43
      have HR : Hid (readN (43 :: r) = (3, 0, [], [])) := by exact (by unfold readN; rw [if_neg (by simp), if_neg (by simp), if_pos (by rfl)] : readN (43 :: r) = (3, 0, [], []))
      go_enter Tryd.func39, Tryd.ntmps39
      go_wp2
      refine bodyPost_ret (v := .agg #[.int .i64 3, .int .i64 0, .string ⟨#[]⟩, .string ⟨#[]⟩]) (by simp [results, Tryd.results39, go_sem]) rfl ?_
      exact ⟨by rw [HR.out]; rfl, (Below.refl _ w).alloc (Nat.le_refl _) _⟩
    have d43 : ((x0.toNat : Int) == 43) = false := beq_eq_false_iff_ne.2 (fun e => h43 (UInt8.toNat_inj.1 (by have e2 : (43 : UInt8).toNat = 43 := rfl; omega)))
    by_cases h42 : x0 = 42
    · subst h42
      have HR : Hid (readN (42 :: r) = (5, 0, [], [])) := by exact (by unfold readN; rw [if_neg (by simp), if_neg (by simp), if_neg (by simp), if_pos (by rfl)] : readN (42 :: r) = (5, 0, [], []))
      go_enter Tryd.func39, Tryd.ntmps39
      go_wp2
      refine bodyPost_ret (v := .agg #[.int .i64 5, .int .i64 0, .string ⟨#[]⟩, .string ⟨#[]⟩]) (by simp [results, Tryd.results39, go_sem]) rfl ?_
      exact ⟨by rw [HR.out]; rfl, (Below.refl _ w).alloc (Nat.le_refl _) _⟩
    have d42 : ((x0.toNat : Int) == 42) = false := beq_eq_false_iff_ne.2 (fun e => h42 (UInt8.toNat_inj.1 (by have e2 : (42 : UInt8).toNat = 42 := rfl; omega)))
    by_cases h47 : x0 = 47
    · subst h47
      have HR : Hid (readN (47 :: r) = (6, 0, [], [])) := by exact (by unfold readN; rw [if_neg (by simp), if_neg (by simp), if_neg (by simp), if_neg (by simp), if_pos (by rfl)] : readN (47 :: r) = (6, 0, [], []))
      go_enter Tryd.func39, Tryd.ntmps39
      go_wp2
      refine bodyPost_ret (v := .agg #[.int .i64 6, .int .i64 0, .string ⟨#[]⟩, .string ⟨#[]⟩]) (by simp [results, Tryd.results39, go_sem]) rfl ?_
      exact ⟨by rw [HR.out]; rfl, (Below.refl _ w).alloc (Nat.le_refl _) _⟩
    have d47 : ((x0.toNat : Int) == 47) = false := beq_eq_false_iff_ne.2 (fun e => h47 (UInt8.toNat_inj.1 (by have e2 : (47 : UInt8).toNat = 47 := rfl; omega)))
    by_cases h63 : x0 = 63
    · subst h63
      have HR : Hid (readN (63 :: r) = (7, 0, [], [])) := by exact (by unfold readN; rw [if_neg (by simp), if_neg (by simp), if_neg (by simp), if_neg (by simp), if_neg (by simp), if_pos (by rfl)] : readN (63 :: r) = (7, 0, [], []))
      go_enter Tryd.func39, Tryd.ntmps39
      go_wp2
      refine bodyPost_ret (v := .agg #[.int .i64 7, .int .i64 0, .string ⟨#[]⟩, .string ⟨#[]⟩]) (by simp [results, Tryd.results39, go_sem]) rfl ?_
      exact ⟨by rw [HR.out]; rfl, (Below.refl _ w).alloc (Nat.le_refl _) _⟩
    have d63 : ((x0.toNat : Int) == 63) = false := beq_eq_false_iff_ne.2 (fun e => h63 (UInt8.toNat_inj.1 (by have e2 : (63 : UInt8).toNat = 63 := rfl; omega)))
    by_cases h64 : x0 = 64
    · subst h64
      have HRd : Hid (readN (64 :: r) = if (splitL 47 r).length = 2 ∧ (splitL 46 ((splitL 47 r).getD 0 [])).length = 2 then (8, readV ((splitL 47 r).getD 1 []), (splitL 46 ((splitL 47 r).getD 0 [])).getD 0 [], (splitL 46 ((splitL 47 r).getD 0 [])).getD 1 []) else (0, 0, [], [])) := by exact (by unfold readN; rw [if_neg (by simp), if_neg (by simp), if_neg (by simp), if_neg (by simp), if_neg (by simp), if_neg (by simp), if_pos (by rfl), List.tail_cons] : readN (64 :: r) = _)
      obtain ⟨ws, hws⟩ : ∃ ws, splitL 47 r = ws := ⟨_, rfl⟩
      obtain ⟨q0, hq0⟩ : ∃ q0, ws.getD 0 [] = q0 := ⟨_, rfl⟩
      obtain ⟨q1, hq1⟩ : ∃ q1, ws.getD 1 [] = q1 := ⟨_, rfl⟩
      obtain ⟨ps, hps⟩ : ∃ ps, splitL 46 q0 = ps := ⟨_, rfl⟩
      have hwp : 0 < ws.length := by rw [← hws]; exact List.length_pos_iff.2 (splitGo_ne 47 r [])
      have hpp : 0 < ps.length := by rw [← hps]; exact List.length_pos_iff.2 (splitGo_ne 46 _ [])
      have hwl : ws.length ≤ r.length + 1 := by rw [← hws]; exact splitGo_len 47 r []
      have hwf : ∀ j, (ws.getD j []).length ≤ 1048576 := fun j => by
        have h1 := splitGo_flat 47 r []
        have h2 : (splitL 47 r).flatten.length ≤ r.length := by simpa [splitL] using h1
        rw [hws] at h2
        have h3 := part_le ws j
        omega
      have hpl : ps.length ≤ 1048577 := by rw [← hps]; have h1 := splitGo_len 46 q0 []; have h2 := hwf 0; rw [hq0] at h2; unfold splitL; omega
      have HW : Hid (splitL 47 r = ws) := hws
      have HP : Hid (splitL 46 q0 = ps) := hps
      have HQ : Hid (ws.getD 0 [] = q0 ∧ ws.getD 1 [] = q1) := ⟨hq0, hq1⟩
      have hq0l : q0.length ≤ 1048576 := by rw [← hq0]; exact hwf 0
      have hq1l : q1.length ≤ 1048576 := by rw [← hq1]; exact hwf 1
      clear hws hps hq0 hq1 hwf
      go_enter Tryd.func39, Tryd.ntmps39
      go_wp2_with fail
      refine (specSplit r 47 47 _ (by rfl) (by omega)).mono ?_
      rintro e w1 ⟨g1, cp1, rfl, hown1, hb1⟩
      rw [HW.out] at hown1 ⊢
      have hc10 := str_cellsD hown1 rfl 0 hwp
      rw [HQ.out.1] at hc10
      have hwp2 : (0 : Int) < (ws.length : Int) := by omega
      have hB1 := below_boxed hb1
      have r0 : w1.cell? ⟨w.heap.size, 0, none⟩ = some (.int .i64 0) := (hb1.cell (p := ⟨w.heap.size, 0, none⟩) (by simp)).trans (by simp)
      have r1 : w1.cell? ⟨w.heap.size, 1, none⟩ = some (.int .i64 0) := (hb1.cell (p := ⟨w.heap.size, 1, none⟩) (by simp)).trans (by simp)
      have r2 : w1.cell? ⟨w.heap.size, 2, none⟩ = some (.string ⟨#[]⟩) := (hb1.cell (p := ⟨w.heap.size, 2, none⟩) (by simp)).trans (by simp)
      have r3 : w1.cell? ⟨w.heap.size, 3, none⟩ = some (.string ⟨#[]⟩) := (hb1.cell (p := ⟨w.heap.size, 3, none⟩) (by simp)).trans (by simp)
      have rf : ∀ j, w1.frozen? ⟨w.heap.size, j, none⟩ = false := fun j => (hb1.frozen (p := ⟨w.heap.size, j, none⟩) (by simp)).trans (by simp)
      have hs1 : w.heap.size < w1.heap.size := by have := hb1.size; simp at this; omega
      rw [World.size_alloc] at hown1
      clear hb1
      go_wp2_with fail
      refine (specSplit q0 46 46 _ (by rfl) hq0l).mono ?_
      rintro e w2 ⟨g2, cp2, rfl, hown2, hb2⟩
      rw [HP.out] at hown2 ⊢
      have hB2 := hB1.trans (hb2.mono hB1.size)
      have r0 := (hb2.cell (p := ⟨w.heap.size, 0, none⟩) hs1).trans r0
      have r1 := (hb2.cell (p := ⟨w.heap.size, 1, none⟩) hs1).trans r1
      have r2 := (hb2.cell (p := ⟨w.heap.size, 2, none⟩) hs1).trans r2
      have r3 := (hb2.cell (p := ⟨w.heap.size, 3, none⟩) hs1).trans r3
      have rf := fun j => (hb2.frozen (p := ⟨w.heap.size, j, none⟩) hs1).trans (rf j)
      have rf0 := rf 0
      have rf1 := rf 1
      have rf2 := rf 2
      have rf3 := rf 3
      have hown1b := own_below hown1 hb2
      have hg2 : w1.heap.size ≤ g2 := (hown2.lt g2 rfl).1
      have hgne : g2 ≠ w.heap.size := by omega
      clear hb2 hB1 hown1 hc10 rf
      by_cases hw2 : ws.length = 2
      · have dw : ((ws.length : Int) != 2) = false := by rw [hw2]; rfl
        by_cases hp2 : ps.length = 2
        · have dp : ((ps.length : Int) != 2) = false := by rw [hp2]; rfl
          have HR : Hid (readN (64 :: r) = (8, readV q1, ps.getD 0 [], ps.getD 1 [])) := by exact (by rw [HRd.out, HW.out, HQ.out.1, HQ.out.2, HP.out, if_pos ⟨hw2, hp2⟩] : readN (64 :: r) = (8, readV q1, ps.getD 0 [], ps.getD 1 []))
          have hc11 := str_cellsD hown1b rfl 1 (by omega)
          rw [HQ.out.2] at hc11
          have hc20 := str_cellsD hown2 rfl 0 (by omega)
          have hc21 := str_cellsD hown2 rfl 1 (by omega)
          have hwl2 : (1 : Int) < (ws.length : Int) := by omega
          have hpl2 : (1 : Int) < (ps.length : Int) := by omega
          have hpl0 : (0 : Int) < (ps.length : Int) := by omega
          clear hw2 hp2 hown1b hown2
          go_wp2_with fail
          refine (specRead q1 _ hq1l).mono ?_
          rintro e w3 ⟨rfl, rfl⟩
          obtain ⟨A, hA⟩ : ∃ A, readV q1 = A := ⟨_, rfl⟩
          obtain ⟨P0, hP0⟩ : ∃ P0, ps.getD 0 [] = P0 := ⟨_, rfl⟩
          obtain ⟨P1, hP1⟩ : ∃ P1, ps.getD 1 [] = P1 := ⟨_, rfl⟩
          have HA : Hid (readV q1 = A ∧ ps.getD 0 [] = P0 ∧ ps.getD 1 [] = P1) := ⟨hA, hP0, hP1⟩
          rw [hA]
          rw [hP0] at hc20
          rw [hP1] at hc21
          clear hA hP0 hP1 hc11
          have hgne2 : w.heap.size ≠ g2 := fun e => hgne e.symm
          go_wp2
          go_region_held3 (fun w' => w'.cell? ⟨g2, 0, none⟩ = some (.string ⟨P0.toArray⟩) ∧ w'.cell? ⟨g2, 1, none⟩ = some (.string ⟨P1.toArray⟩)) (go_keep) (fail)
          go_wp2
          obtain ⟨X, hX⟩ : ∃ X, ((((w3.setCell ⟨w.heap.size, 0, none⟩ (.int .i64 8)).setCell ⟨w.heap.size, 1, none⟩ (.int .i64 A)).setCell ⟨w.heap.size, 2, none⟩ (.string ⟨P0.toArray⟩)).setCell ⟨w.heap.size, 3, none⟩ (.string ⟨P1.toArray⟩)) = X := ⟨_, rfl⟩
          have hx := four_set w3 w.heap.size (8, A, P0, P1) r0 r1 r2 r3
          simp only at hx
          rw [hX] at hx ⊢
          refine bodyPost_ret (v := .agg #[.int .i64 8, .int .i64 A, .string ⟨P0.toArray⟩, .string ⟨P1.toArray⟩]) (by simp [results, Tryd.results39, go_sem, hx]) rfl ?_
          rw [← hX]
          exact ⟨by rw [HR.out, HA.out.1, HA.out.2.1, HA.out.2.2]; rfl, (four_below hB2 _ _ _ _).drew⟩
        · have dp : ((ps.length : Int) != 2) = true := bne_iff_ne.2 (by omega)
          have HR : Hid (readN (64 :: r) = (0, 0, [], [])) := by exact (by rw [HRd.out, HW.out, HQ.out.1, HP.out, if_neg (by omega)] : readN (64 :: r) = (0, 0, [], []))
          go_wp2
          obtain ⟨X, hX⟩ : ∃ X, ((((w2.setCell ⟨w.heap.size, 0, none⟩ (.int .i64 0)).setCell ⟨w.heap.size, 1, none⟩ (.int .i64 0)).setCell ⟨w.heap.size, 2, none⟩ (.string ⟨#[]⟩)).setCell ⟨w.heap.size, 3, none⟩ (.string ⟨#[]⟩)) = X := ⟨_, rfl⟩
          have hx := four_set w2 w.heap.size (0, 0, [], []) r0 r1 r2 r3
          simp only at hx
          rw [hX] at hx ⊢
          refine bodyPost_ret (v := .agg #[.int .i64 0, .int .i64 0, .string ⟨#[]⟩, .string ⟨#[]⟩]) (by simp [results, Tryd.results39, go_sem, hx]) rfl ?_
          rw [← hX]
          exact ⟨by rw [HR.out]; rfl, four_below hB2 _ _ _ _⟩
      · have dw : ((ws.length : Int) != 2) = true := bne_iff_ne.2 (by omega)
        have HR : Hid (readN (64 :: r) = (0, 0, [], [])) := by exact (by rw [HRd.out, HW.out, HQ.out.1, HP.out, if_neg (by omega)] : readN (64 :: r) = (0, 0, [], []))
        go_wp2
        obtain ⟨X, hX⟩ : ∃ X, ((((w2.setCell ⟨w.heap.size, 0, none⟩ (.int .i64 0)).setCell ⟨w.heap.size, 1, none⟩ (.int .i64 0)).setCell ⟨w.heap.size, 2, none⟩ (.string ⟨#[]⟩)).setCell ⟨w.heap.size, 3, none⟩ (.string ⟨#[]⟩)) = X := ⟨_, rfl⟩
        have hx := four_set w2 w.heap.size (0, 0, [], []) r0 r1 r2 r3
        simp only at hx
        rw [hX] at hx ⊢
        refine bodyPost_ret (v := .agg #[.int .i64 0, .int .i64 0, .string ⟨#[]⟩, .string ⟨#[]⟩]) (by simp [results, Tryd.results39, go_sem, hx]) rfl ?_
        rw [← hX]
        exact ⟨by rw [HR.out]; rfl, four_below hB2 _ _ _ _⟩
    have d64 : ((x0.toNat : Int) == 64) = false := beq_eq_false_iff_ne.2 (fun e => h64 (UInt8.toNat_inj.1 (by have e2 : (64 : UInt8).toNat = 64 := rfl; omega)))
    have hne : ∀ c : UInt8, x0 ≠ c → ¬ (x0 :: r).head? = some c := fun c h e => h (by simpa using e)
    by_cases h45 : x0 :: r = [45]
    · have HR : Hid (readN (x0 :: r) = (4, 0, [], [])) := by exact (by unfold readN; rw [if_neg (by simp), if_neg (hne 36 h36), if_neg (hne 43 h43), if_neg (hne 42 h42), if_neg (hne 47 h47), if_neg (hne 63 h63), if_neg (hne 64 h64), if_pos h45] : readN (x0 :: r) = (4, 0, [], []))
      have dd : ((x0 :: r) == [45]) = true := by rw [h45]; rfl
      clear hne h45
      go_enter Tryd.func39, Tryd.ntmps39
      go_wp2
      refine bodyPost_ret (v := .agg #[.int .i64 4, .int .i64 0, .string ⟨#[]⟩, .string ⟨#[]⟩]) (by simp [results, Tryd.results39, go_sem]) rfl ?_
      exact ⟨by rw [HR.out]; rfl, (Below.refl _ w).alloc (Nat.le_refl _) _⟩
    · have HR : Hid (readN (x0 :: r) = (1, readV (x0 :: r), [], [])) := by exact (by unfold readN; rw [if_neg (by simp), if_neg (hne 36 h36), if_neg (hne 43 h43), if_neg (hne 42 h42), if_neg (hne 47 h47), if_neg (hne 63 h63), if_neg (hne 64 h64), if_neg h45] : readN (x0 :: r) = (1, readV (x0 :: r), [], []))
      have dd : ((x0 :: r) == [45]) = false := beq_eq_false_iff_ne.2 h45
      clear hne h45
      go_enter Tryd.func39, Tryd.ntmps39
      go_wp2_with fail
      refine (specRead (x0 :: r) _ hl).mono ?_
      rintro e w1 ⟨rfl, rfl⟩
      go_wp2
      refine bodyPost_ret (v := .agg #[.int .i64 1, .int .i64 (readV (x0 :: r)), .string ⟨#[]⟩, .string ⟨#[]⟩]) (by simp [results, Tryd.results39, go_sem]) rfl ?_
      exact ⟨by rw [HR.out]; rfl, (Below.refl _ w).alloc (Nat.le_refl _) _⟩

end Go.Proofs.YtjkfjenhocaljaaDoor
