/-
  Parts of one proof, one behind the other: TreeI2, TreeI3.
-/
import Derived.Test.YtaidhjjpdkkmcaaGreatDoorP15
import Derived.Laws.StructEq
import Derived.Deep.RegionHeld3

/-! The contracts of chapter 6's landed code: NodeOk, KidsOf. -/
namespace Go.Proofs.YtaidhjjpdkkmcaaGreatDoor
open Go.RowKit

theorem nodes_eq (k a k2 a2 : Int) (p f p2 f2 : List UInt8) (w : World) : (binOp .eql 125 (.agg #[.int .i64 k, .int .i64 a, .string ⟨p.toArray⟩, .string ⟨f.toArray⟩]) (.agg #[.int .i64 k2, .int .i64 a2, .string ⟨p2.toArray⟩, .string ⟨f2.toArray⟩])).run Tryz.prog w = .ok (.bool (decide (((k, a, p, f) : Nd) = (k2, a2, p2, f2)))) w := by
 rw [run_eql_struct]
 simp [go_sem]
 by_cases h1 : k = k2
 ·
  by_cases h2 : a = a2
  ·
   by_cases h3 : p = p2
   ·
    by_cases h4 : f = f2
    ·
     simp [h1, h2, h3, h4]
    ·
     simp [h1, h2, h3, h4]
   ·
    simp [h1, h2, h3]
  ·
   simp [h1, h2]
 ·
  simp [h1]

/-- What NodeOk holds while it is at work. -/
structure NdAt (W : World) (D : Nat) (k a : Int) (p f : List UInt8) : Prop where
 c0 : W.cell? ⟨D, 0, none⟩ = some (.int .i64 k)
 c1 : W.cell? ⟨D, 1, none⟩ = some (.int .i64 a)
 c2 : W.cell? ⟨D, 2, none⟩ = some (.string ⟨p.toArray⟩)
 c3 : W.cell? ⟨D, 3, none⟩ = some (.string ⟨f.toArray⟩)

theorem NdAt.below {W W' : World} {D : Nat} {k a : Int} {p f : List UInt8} (h : NdAt W D k a p f) (hb : Below W.heap.size W W') : NdAt W' D k a p f :=
 have hl : D < W.heap.size := World.block_lt_of_cell? W ⟨D, 0, none⟩ h.c0
 ⟨(hb.cell (p := ⟨D, 0, none⟩) hl).trans h.c0, (hb.cell (p := ⟨D, 1, none⟩) hl).trans h.c1, (hb.cell (p := ⟨D, 2, none⟩) hl).trans h.c2, (hb.cell (p := ⟨D, 3, none⟩) hl).trans h.c3⟩
theorem NdAt.drew {W : World} {D : Nat} {k a : Int} {p f : List UInt8} (h : NdAt W D k a p f) : NdAt W.drew D k a p f := ⟨h.c0, h.c1, h.c2, h.c3⟩
theorem NdAt.new (w : World) (k a : Int) (p f : List UInt8) : NdAt (w.alloc (.cells #[.int .i64 k, .int .i64 a, .string ⟨p.toArray⟩, .string ⟨f.toArray⟩] 125)) w.heap.size k a p f := by
 have hA := heap_alloc_new w (.cells #[.int .i64 k, .int .i64 a, .string ⟨p.toArray⟩, .string ⟨f.toArray⟩] 125)
 generalize w.alloc (.cells #[.int .i64 k, .int .i64 a, .string ⟨p.toArray⟩, .string ⟨f.toArray⟩] 125) = W at hA ⊢
 exact ⟨by simp [World.cell?, hA], by simp [World.cell?, hA], by simp [World.cell?, hA], by simp [World.cell?, hA]⟩

set_option maxHeartbeats 4000000 in
set_option maxRecDepth 100000 in
theorem nodeOk_num_yes (k a : Int) (p f : List UInt8) (b : Int) (w : World) (e : shOf (k, a, p, f) = .num b) (hs : shOk (.num b) = true) :
 Calls Tryz.prog 197 #[nodeVal (k, a, p, f)] w fun e w' => e = .returned (.bool (nodeB (k, a, p, f))) ∧ Below w.heap.size w w' := by
 have HN : Hid (nodeB (k, a, p, f) = (true && decide (shNode (.num b) = (k, a, p, f)))) := by exact (by rw [node_sh, e, hs] : nodeB (k, a, p, f) = (true && decide (shNode (.num b) = (k, a, p, f))))
 have HC := implShapeOf (k, a, p, f)
 rw [e] at HC
 have HC2 : Hid (_) := HC
 have HK : Hid (_) := fun W : World => implShapeOk (.num b) W (fun _ _ _ e => by cases e)
 rw [hs] at HK
 have HV : Hid (_) := fun W : World => node_num b W
 unfold nodeVal shNode at HV
 simp only at HV
 have hEq := nodes_eq
 clear HC hs e
 unfold nodeVal shVal at HC2
 unfold shVal at HK
 unfold nodeVal
 simp only at HC2 HK ⊢
 obtain ⟨W0, hW0⟩ : ∃ W0, w.alloc (.cells #[.int .i64 k, .int .i64 a, .string ⟨p.toArray⟩, .string ⟨f.toArray⟩] 125) = W0 := ⟨_, rfl⟩
 have st := NdAt.new w k a p f
 have hB : Below w.heap.size w W0 := by rw [← hW0]; exact (Below.refl _ w).alloc (Nat.le_refl _) _
 rw [hW0] at st
 obtain ⟨D, hD0⟩ : ∃ D, w.heap.size = D := ⟨_, rfl⟩
 rw [hD0] at st hB
 have hD : Hid (w.heap.size = D) := hD0
 have c0 := st.c0
 have c1 := st.c1
 have c2 := st.c2
 have c3 := st.c3
 go_enter Tryz.func197, Tryz.ntmps197
 go_wp2_with fail
 refine Calls.mono (HC2.out _) ?_
 rintro e wn ⟨rfl, hbn⟩
 replace hB := hB.trans (hbn.mono (Nat.le_trans (Nat.le_of_eq hD.out.symm) hB.size)); replace st := st.below hbn; replace c0 := st.c0; replace c1 := st.c1; replace c2 := st.c2; replace c3 := st.c3; clear hbn
 go_wp2_with fail
 replace st := st.drew
 replace hB := hB.drew
 go_region_held3 (fun w' => w'.cell? ⟨D, 0, none⟩ = some (.int .i64 k) ∧ w'.cell? ⟨D, 1, none⟩ = some (.int .i64 a) ∧ w'.cell? ⟨D, 2, none⟩ = some (.string ⟨p.toArray⟩) ∧ w'.cell? ⟨D, 3, none⟩ = some (.string ⟨f.toArray⟩)) (go_keep) (first | (go_at_call 200; refine Calls.mono (HK.out _) ?_; rintro e wn ⟨rfl, hbn⟩; replace hB := hB.trans (hbn.mono (Nat.le_trans (Nat.le_of_eq hD.out.symm) hB.size)); replace st := st.below hbn; replace c0 := st.c0; replace c1 := st.c1; replace c2 := st.c2; replace c3 := st.c3; clear hbn) | (go_at_call 242; refine Calls.mono (HV.out _) ?_; rintro e wn ⟨rfl, hbn⟩; replace hB := hB.trans (hbn.mono (Nat.le_trans (Nat.le_of_eq hD.out.symm) hB.size)); replace st := st.below hbn; replace c0 := st.c0; replace c1 := st.c1; replace c2 := st.c2; replace c3 := st.c3; clear hbn))
 go_wp2
 go_ret
 refine ⟨?_, by rw [hD.out]; exact hB⟩
 rw [HN.out]
 simp [shNode, @eq_comm (List UInt8) [] p, @eq_comm (List UInt8) [] f]

set_option maxHeartbeats 4000000 in
set_option maxRecDepth 100000 in
theorem nodeOk_num_no (k a : Int) (p f : List UInt8) (b : Int) (w : World) (e : shOf (k, a, p, f) = .num b) (hs : shOk (.num b) = false) :
 Calls Tryz.prog 197 #[nodeVal (k, a, p, f)] w fun e w' => e = .returned (.bool (nodeB (k, a, p, f))) ∧ Below w.heap.size w w' := by
 have HN : Hid (nodeB (k, a, p, f) = (false && decide (shNode (.num b) = (k, a, p, f)))) := by exact (by rw [node_sh, e, hs] : nodeB (k, a, p, f) = (false && decide (shNode (.num b) = (k, a, p, f))))
 have HC := implShapeOf (k, a, p, f)
 rw [e] at HC
 have HC2 : Hid (_) := HC
 have HK : Hid (_) := fun W : World => implShapeOk (.num b) W (fun _ _ _ e => by cases e)
 rw [hs] at HK
 clear HC hs e
 unfold nodeVal shVal at HC2
 unfold shVal at HK
 unfold nodeVal
 simp only at HC2 HK ⊢
 obtain ⟨W0, hW0⟩ : ∃ W0, w.alloc (.cells #[.int .i64 k, .int .i64 a, .string ⟨p.toArray⟩, .string ⟨f.toArray⟩] 125) = W0 := ⟨_, rfl⟩
 have st := NdAt.new w k a p f
 have hB : Below w.heap.size w W0 := by rw [← hW0]; exact (Below.refl _ w).alloc (Nat.le_refl _) _
 rw [hW0] at st
 obtain ⟨D, hD0⟩ : ∃ D, w.heap.size = D := ⟨_, rfl⟩
 rw [hD0] at st hB
 have hD : Hid (w.heap.size = D) := hD0
 have c0 := st.c0
 have c1 := st.c1
 have c2 := st.c2
 have c3 := st.c3
 go_enter Tryz.func197, Tryz.ntmps197
 go_wp2_with fail
 refine Calls.mono (HC2.out _) ?_
 rintro e wn ⟨rfl, hbn⟩
 replace hB := hB.trans (hbn.mono (Nat.le_trans (Nat.le_of_eq hD.out.symm) hB.size)); replace st := st.below hbn; replace c0 := st.c0; replace c1 := st.c1; replace c2 := st.c2; replace c3 := st.c3; clear hbn
 go_wp2_with fail
 replace st := st.drew
 replace hB := hB.drew
 refine wp_region_held_drew (S := (fun _ => True)) (by kernel_rfl) ?_ (fun hHeld => ?_)
 ·
  exact True.intro
 refine tkO [(0, 6)] ?_
 repeat (refine tkY ?_ rfl (by rfl) ?_ ?_; rotate_left; (focus (intro wq hSw; (try dsimp only at hSw); first | (go_simp; done) | (go_simp; with_reducible rfl))); simp only [zP])
 refine tkZ ?_
 refine zR 1 rfl (fun K hK => ?_)
 go_simp
 (go_at_call 200; refine Calls.mono (HK.out _) ?_; rintro e wn ⟨rfl, hbn⟩; replace hB := hB.trans (hbn.mono (Nat.le_trans (Nat.le_of_eq hD.out.symm) hB.size)); replace st := st.below hbn; replace c0 := st.c0; replace c1 := st.c1; replace c2 := st.c2; replace c3 := st.c3; clear hbn)
 refine hK.out _ _ ?_ (fun hHeld => ?_)
 ·
  exact True.intro
 clear hK K
 refine tkO [(2, 8), (3, 9), (4, 10), (5, 11), (6, 12), (7, 13), (8, 2)] ?_
 repeat ((first | (refine tkY ?_ rfl (by rfl) ?_ ?_; rotate_left; (focus (intro wq hSw; (try dsimp only at hSw); first | (go_simp; done) | (go_simp; with_reducible rfl)))) | refine tkN rfl (by rfl) ?_); simp only [zP])
 refine tkZ ?_
 refine wpAnyH_done (by kernel_rfl) ?_ _
 go_wp2
 go_ret
 refine ⟨?_, by rw [hD.out]; exact hB⟩
 rw [HN.out]
 rfl

set_option maxHeartbeats 4000000 in
set_option maxRecDepth 100000 in
theorem nodeOk_arg_yes (k a : Int) (p f : List UInt8) (b : Int) (w : World) (e : shOf (k, a, p, f) = .arg b) (hs : shOk (.arg b) = true) :
 Calls Tryz.prog 197 #[nodeVal (k, a, p, f)] w fun e w' => e = .returned (.bool (nodeB (k, a, p, f))) ∧ Below w.heap.size w w' := by
 have HN : Hid (nodeB (k, a, p, f) = (true && decide (shNode (.arg b) = (k, a, p, f)))) := by exact (by rw [node_sh, e, hs] : nodeB (k, a, p, f) = (true && decide (shNode (.arg b) = (k, a, p, f))))
 have HC := implShapeOf (k, a, p, f)
 rw [e] at HC
 have HC2 : Hid (_) := HC
 have HK : Hid (_) := fun W : World => implShapeOk (.arg b) W (fun _ _ _ e => by cases e)
 rw [hs] at HK
 have HV : Hid (_) := fun W : World => node_arg b W
 unfold nodeVal shNode at HV
 simp only at HV
 have hEq := nodes_eq
 clear HC hs e
 unfold nodeVal shVal at HC2
 unfold shVal at HK
 unfold nodeVal
 simp only at HC2 HK ⊢
 obtain ⟨W0, hW0⟩ : ∃ W0, w.alloc (.cells #[.int .i64 k, .int .i64 a, .string ⟨p.toArray⟩, .string ⟨f.toArray⟩] 125) = W0 := ⟨_, rfl⟩
 have st := NdAt.new w k a p f
 have hB : Below w.heap.size w W0 := by rw [← hW0]; exact (Below.refl _ w).alloc (Nat.le_refl _) _
 rw [hW0] at st
 obtain ⟨D, hD0⟩ : ∃ D, w.heap.size = D := ⟨_, rfl⟩
 rw [hD0] at st hB
 have hD : Hid (w.heap.size = D) := hD0
 have c0 := st.c0
 have c1 := st.c1
 have c2 := st.c2
 have c3 := st.c3
 go_enter Tryz.func197, Tryz.ntmps197
 go_wp2_with fail
 refine Calls.mono (HC2.out _) ?_
 rintro e wn ⟨rfl, hbn⟩
 replace hB := hB.trans (hbn.mono (Nat.le_trans (Nat.le_of_eq hD.out.symm) hB.size)); replace st := st.below hbn; replace c0 := st.c0; replace c1 := st.c1; replace c2 := st.c2; replace c3 := st.c3; clear hbn
 go_wp2_with fail
 replace st := st.drew
 replace hB := hB.drew
 go_region_held3 (fun w' => w'.cell? ⟨D, 0, none⟩ = some (.int .i64 k) ∧ w'.cell? ⟨D, 1, none⟩ = some (.int .i64 a) ∧ w'.cell? ⟨D, 2, none⟩ = some (.string ⟨p.toArray⟩) ∧ w'.cell? ⟨D, 3, none⟩ = some (.string ⟨f.toArray⟩)) (go_keep) (first | (go_at_call 200; refine Calls.mono (HK.out _) ?_; rintro e wn ⟨rfl, hbn⟩; replace hB := hB.trans (hbn.mono (Nat.le_trans (Nat.le_of_eq hD.out.symm) hB.size)); replace st := st.below hbn; replace c0 := st.c0; replace c1 := st.c1; replace c2 := st.c2; replace c3 := st.c3; clear hbn) | (go_at_call 243; refine Calls.mono (HV.out _) ?_; rintro e wn ⟨rfl, hbn⟩; replace hB := hB.trans (hbn.mono (Nat.le_trans (Nat.le_of_eq hD.out.symm) hB.size)); replace st := st.below hbn; replace c0 := st.c0; replace c1 := st.c1; replace c2 := st.c2; replace c3 := st.c3; clear hbn))
 go_wp2
 go_ret
 refine ⟨?_, by rw [hD.out]; exact hB⟩
 rw [HN.out]
 simp [shNode, @eq_comm (List UInt8) [] p, @eq_comm (List UInt8) [] f]

set_option maxHeartbeats 4000000 in
set_option maxRecDepth 100000 in
theorem nodeOk_arg_no (k a : Int) (p f : List UInt8) (b : Int) (w : World) (e : shOf (k, a, p, f) = .arg b) (hs : shOk (.arg b) = false) :
 Calls Tryz.prog 197 #[nodeVal (k, a, p, f)] w fun e w' => e = .returned (.bool (nodeB (k, a, p, f))) ∧ Below w.heap.size w w' := by
 have HN : Hid (nodeB (k, a, p, f) = (false && decide (shNode (.arg b) = (k, a, p, f)))) := by exact (by rw [node_sh, e, hs] : nodeB (k, a, p, f) = (false && decide (shNode (.arg b) = (k, a, p, f))))
 have HC := implShapeOf (k, a, p, f)
 rw [e] at HC
 have HC2 : Hid (_) := HC
 have HK : Hid (_) := fun W : World => implShapeOk (.arg b) W (fun _ _ _ e => by cases e)
 rw [hs] at HK
 clear HC hs e
 unfold nodeVal shVal at HC2
 unfold shVal at HK
 unfold nodeVal
 simp only at HC2 HK ⊢
 obtain ⟨W0, hW0⟩ : ∃ W0, w.alloc (.cells #[.int .i64 k, .int .i64 a, .string ⟨p.toArray⟩, .string ⟨f.toArray⟩] 125) = W0 := ⟨_, rfl⟩
 have st := NdAt.new w k a p f
 have hB : Below w.heap.size w W0 := by rw [← hW0]; exact (Below.refl _ w).alloc (Nat.le_refl _) _
 rw [hW0] at st
 obtain ⟨D, hD0⟩ : ∃ D, w.heap.size = D := ⟨_, rfl⟩
 rw [hD0] at st hB
 have hD : Hid (w.heap.size = D) := hD0
 have c0 := st.c0
 have c1 := st.c1
 have c2 := st.c2
 have c3 := st.c3
 go_enter Tryz.func197, Tryz.ntmps197
 go_wp2_with fail
 refine Calls.mono (HC2.out _) ?_
 rintro e wn ⟨rfl, hbn⟩
 replace hB := hB.trans (hbn.mono (Nat.le_trans (Nat.le_of_eq hD.out.symm) hB.size)); replace st := st.below hbn; replace c0 := st.c0; replace c1 := st.c1; replace c2 := st.c2; replace c3 := st.c3; clear hbn
 go_wp2_with fail
 replace st := st.drew
 replace hB := hB.drew
 refine wp_region_held_drew (S := (fun _ => True)) (by kernel_rfl) ?_ (fun hHeld => ?_)
 ·
  exact True.intro
 refine tkO [(0, 6)] ?_
 repeat (refine tkY ?_ rfl (by rfl) ?_ ?_; rotate_left; (focus (intro wq hSw; (try dsimp only at hSw); first | (go_simp; done) | (go_simp; with_reducible rfl))); simp only [zP])
 refine tkZ ?_
 refine zR 1 rfl (fun K hK => ?_)
 go_simp
 (go_at_call 200; refine Calls.mono (HK.out _) ?_; rintro e wn ⟨rfl, hbn⟩; replace hB := hB.trans (hbn.mono (Nat.le_trans (Nat.le_of_eq hD.out.symm) hB.size)); replace st := st.below hbn; replace c0 := st.c0; replace c1 := st.c1; replace c2 := st.c2; replace c3 := st.c3; clear hbn)
 refine hK.out _ _ ?_ (fun hHeld => ?_)
 ·
  exact True.intro
 clear hK K
 refine tkO [(2, 8), (3, 9), (4, 10), (5, 11), (6, 12), (7, 13), (8, 2)] ?_
 repeat ((first | (refine tkY ?_ rfl (by rfl) ?_ ?_; rotate_left; (focus (intro wq hSw; (try dsimp only at hSw); first | (go_simp; done) | (go_simp; with_reducible rfl)))) | refine tkN rfl (by rfl) ?_); simp only [zP])
 refine tkZ ?_
 refine wpAnyH_done (by kernel_rfl) ?_ _
 go_wp2
 go_ret
 refine ⟨?_, by rw [hD.out]; exact hB⟩
 rw [HN.out]
 rfl

set_option maxHeartbeats 4000000 in
set_option maxRecDepth 100000 in
theorem nodeOk_pair_yes (k a : Int) (p f : List UInt8) (b : Int) (w : World) (e : shOf (k, a, p, f) = .pair b) (hs : shOk (.pair b) = true) :
 Calls Tryz.prog 197 #[nodeVal (k, a, p, f)] w fun e w' => e = .returned (.bool (nodeB (k, a, p, f))) ∧ Below w.heap.size w w' := by
 have HN : Hid (nodeB (k, a, p, f) = (true && decide (shNode (.pair b) = (k, a, p, f)))) := by exact (by rw [node_sh, e, hs] : nodeB (k, a, p, f) = (true && decide (shNode (.pair b) = (k, a, p, f))))
 have HC := implShapeOf (k, a, p, f)
 rw [e] at HC
 have HC2 : Hid (_) := HC
 have HK : Hid (_) := fun W : World => implShapeOk (.pair b) W (fun _ _ _ e => by cases e)
 rw [hs] at HK
 have HV : Hid (_) := fun W : World => node_pair b W
 unfold nodeVal shNode at HV
 simp only at HV
 have hEq := nodes_eq
 clear HC hs e
 unfold nodeVal shVal at HC2
 unfold shVal at HK
 unfold nodeVal
 simp only at HC2 HK ⊢
 obtain ⟨W0, hW0⟩ : ∃ W0, w.alloc (.cells #[.int .i64 k, .int .i64 a, .string ⟨p.toArray⟩, .string ⟨f.toArray⟩] 125) = W0 := ⟨_, rfl⟩
 have st := NdAt.new w k a p f
 have hB : Below w.heap.size w W0 := by rw [← hW0]; exact (Below.refl _ w).alloc (Nat.le_refl _) _
 rw [hW0] at st
 obtain ⟨D, hD0⟩ : ∃ D, w.heap.size = D := ⟨_, rfl⟩
 rw [hD0] at st hB
 have hD : Hid (w.heap.size = D) := hD0
 have c0 := st.c0
 have c1 := st.c1
 have c2 := st.c2
 have c3 := st.c3
 go_enter Tryz.func197, Tryz.ntmps197
 go_wp2_with fail
 refine Calls.mono (HC2.out _) ?_
 rintro e wn ⟨rfl, hbn⟩
 replace hB := hB.trans (hbn.mono (Nat.le_trans (Nat.le_of_eq hD.out.symm) hB.size)); replace st := st.below hbn; replace c0 := st.c0; replace c1 := st.c1; replace c2 := st.c2; replace c3 := st.c3; clear hbn
 go_wp2_with fail
 replace st := st.drew
 replace hB := hB.drew
 go_region_held3 (fun w' => w'.cell? ⟨D, 0, none⟩ = some (.int .i64 k) ∧ w'.cell? ⟨D, 1, none⟩ = some (.int .i64 a) ∧ w'.cell? ⟨D, 2, none⟩ = some (.string ⟨p.toArray⟩) ∧ w'.cell? ⟨D, 3, none⟩ = some (.string ⟨f.toArray⟩)) (go_keep) (first | (go_at_call 200; refine Calls.mono (HK.out _) ?_; rintro e wn ⟨rfl, hbn⟩; replace hB := hB.trans (hbn.mono (Nat.le_trans (Nat.le_of_eq hD.out.symm) hB.size)); replace st := st.below hbn; replace c0 := st.c0; replace c1 := st.c1; replace c2 := st.c2; replace c3 := st.c3; clear hbn) | (go_at_call 244; refine Calls.mono (HV.out _) ?_; rintro e wn ⟨rfl, hbn⟩; replace hB := hB.trans (hbn.mono (Nat.le_trans (Nat.le_of_eq hD.out.symm) hB.size)); replace st := st.below hbn; replace c0 := st.c0; replace c1 := st.c1; replace c2 := st.c2; replace c3 := st.c3; clear hbn))
 go_wp2
 go_ret
 refine ⟨?_, by rw [hD.out]; exact hB⟩
 rw [HN.out]
 simp [shNode, @eq_comm (List UInt8) [] p, @eq_comm (List UInt8) [] f]

set_option maxHeartbeats 4000000 in
set_option maxRecDepth 100000 in
theorem nodeOk_cond_yes (k a : Int) (p f : List UInt8)  (w : World) (e : shOf (k, a, p, f) = .cond) (hs : shOk (.cond) = true) :
 Calls Tryz.prog 197 #[nodeVal (k, a, p, f)] w fun e w' => e = .returned (.bool (nodeB (k, a, p, f))) ∧ Below w.heap.size w w' := by
 have HN : Hid (nodeB (k, a, p, f) = (true && decide (shNode (.cond) = (k, a, p, f)))) := by exact (by rw [node_sh, e, hs] : nodeB (k, a, p, f) = (true && decide (shNode (.cond) = (k, a, p, f))))
 have HC := implShapeOf (k, a, p, f)
 rw [e] at HC
 have HC2 : Hid (_) := HC
 have HK : Hid (_) := fun W : World => implShapeOk (.cond) W (fun _ _ _ e => by cases e)
 rw [hs] at HK
 have HV : Hid (_) := fun W : World => node_cond  W
 unfold nodeVal shNode at HV
 simp only at HV
 have hEq := nodes_eq
 clear HC hs e
 unfold nodeVal shVal at HC2
 unfold shVal at HK
 unfold nodeVal
 simp only at HC2 HK ⊢
 obtain ⟨W0, hW0⟩ : ∃ W0, w.alloc (.cells #[.int .i64 k, .int .i64 a, .string ⟨p.toArray⟩, .string ⟨f.toArray⟩] 125) = W0 := ⟨_, rfl⟩
 have st := NdAt.new w k a p f
 have hB : Below w.heap.size w W0 := by rw [← hW0]; exact (Below.refl _ w).alloc (Nat.le_refl _) _
 rw [hW0] at st
 obtain ⟨D, hD0⟩ : ∃ D, w.heap.size = D := ⟨_, rfl⟩
 rw [hD0] at st hB
 have hD : Hid (w.heap.size = D) := hD0
 have c0 := st.c0
 have c1 := st.c1
 have c2 := st.c2
 have c3 := st.c3
 go_enter Tryz.func197, Tryz.ntmps197
 go_wp2_with fail
 refine Calls.mono (HC2.out _) ?_
 rintro e wn ⟨rfl, hbn⟩
 replace hB := hB.trans (hbn.mono (Nat.le_trans (Nat.le_of_eq hD.out.symm) hB.size)); replace st := st.below hbn; replace c0 := st.c0; replace c1 := st.c1; replace c2 := st.c2; replace c3 := st.c3; clear hbn
 go_wp2_with fail
 replace st := st.drew
 replace hB := hB.drew
 go_region_held3 (fun w' => w'.cell? ⟨D, 0, none⟩ = some (.int .i64 k) ∧ w'.cell? ⟨D, 1, none⟩ = some (.int .i64 a) ∧ w'.cell? ⟨D, 2, none⟩ = some (.string ⟨p.toArray⟩) ∧ w'.cell? ⟨D, 3, none⟩ = some (.string ⟨f.toArray⟩)) (go_keep) (first | (go_at_call 200; refine Calls.mono (HK.out _) ?_; rintro e wn ⟨rfl, hbn⟩; replace hB := hB.trans (hbn.mono (Nat.le_trans (Nat.le_of_eq hD.out.symm) hB.size)); replace st := st.below hbn; replace c0 := st.c0; replace c1 := st.c1; replace c2 := st.c2; replace c3 := st.c3; clear hbn) | (go_at_call 245; refine Calls.mono (HV.out _) ?_; rintro e wn ⟨rfl, hbn⟩; replace hB := hB.trans (hbn.mono (Nat.le_trans (Nat.le_of_eq hD.out.symm) hB.size)); replace st := st.below hbn; replace c0 := st.c0; replace c1 := st.c1; replace c2 := st.c2; replace c3 := st.c3; clear hbn))
 go_wp2
 go_ret
 refine ⟨?_, by rw [hD.out]; exact hB⟩
 rw [HN.out]
 simp [shNode, @eq_comm (List UInt8) [] p, @eq_comm (List UInt8) [] f]

set_option maxHeartbeats 4000000 in
set_option maxRecDepth 100000 in
theorem nodeOk_call_yes (k a : Int) (p f : List UInt8) (q : List UInt8) (g : List UInt8) (b : Int) (w : World) (e : shOf (k, a, p, f) = .call q g b) (hs : shOk (.call q g b) = true) (hq : q.length ≤ 1048576) (hg : g.length ≤ 1048576) :
 Calls Tryz.prog 197 #[nodeVal (k, a, p, f)] w fun e w' => e = .returned (.bool (nodeB (k, a, p, f))) ∧ Below w.heap.size w w' := by
 have HN : Hid (nodeB (k, a, p, f) = (true && decide (shNode (.call q g b) = (k, a, p, f)))) := by exact (by rw [node_sh, e, hs] : nodeB (k, a, p, f) = (true && decide (shNode (.call q g b) = (k, a, p, f))))
 have HC := implShapeOf (k, a, p, f)
 rw [e] at HC
 have HC2 : Hid (_) := HC
 have HK : Hid (_) := fun W : World => implShapeOk (.call q g b) W (fun _ _ _ e => by injection e with e1 e2; subst e1; subst e2; exact ⟨hq, hg⟩)
 rw [hs] at HK
 have HV : Hid (_) := fun W : World => node_call q g b W
 unfold nodeVal shNode at HV
 simp only at HV
 have hEq := nodes_eq
 clear HC hs e
 unfold nodeVal shVal at HC2
 unfold shVal at HK
 unfold nodeVal
 simp only at HC2 HK ⊢
 obtain ⟨W0, hW0⟩ : ∃ W0, w.alloc (.cells #[.int .i64 k, .int .i64 a, .string ⟨p.toArray⟩, .string ⟨f.toArray⟩] 125) = W0 := ⟨_, rfl⟩
 have st := NdAt.new w k a p f
 have hB : Below w.heap.size w W0 := by rw [← hW0]; exact (Below.refl _ w).alloc (Nat.le_refl _) _
 rw [hW0] at st
 obtain ⟨D, hD0⟩ : ∃ D, w.heap.size = D := ⟨_, rfl⟩
 rw [hD0] at st hB
 have hD : Hid (w.heap.size = D) := hD0
 have c0 := st.c0
 have c1 := st.c1
 have c2 := st.c2
 have c3 := st.c3
 go_enter Tryz.func197, Tryz.ntmps197
 go_wp2_with fail
 refine Calls.mono (HC2.out _) ?_
 rintro e wn ⟨rfl, hbn⟩
 replace hB := hB.trans (hbn.mono (Nat.le_trans (Nat.le_of_eq hD.out.symm) hB.size)); replace st := st.below hbn; replace c0 := st.c0; replace c1 := st.c1; replace c2 := st.c2; replace c3 := st.c3; clear hbn
 go_wp2_with fail
 replace st := st.drew
 replace hB := hB.drew
 go_region_held3 (fun w' => w'.cell? ⟨D, 0, none⟩ = some (.int .i64 k) ∧ w'.cell? ⟨D, 1, none⟩ = some (.int .i64 a) ∧ w'.cell? ⟨D, 2, none⟩ = some (.string ⟨p.toArray⟩) ∧ w'.cell? ⟨D, 3, none⟩ = some (.string ⟨f.toArray⟩)) (go_keep) (first | (go_at_call 200; refine Calls.mono (HK.out _) ?_; rintro e wn ⟨rfl, hbn⟩; replace hB := hB.trans (hbn.mono (Nat.le_trans (Nat.le_of_eq hD.out.symm) hB.size)); replace st := st.below hbn; replace c0 := st.c0; replace c1 := st.c1; replace c2 := st.c2; replace c3 := st.c3; clear hbn) | (go_at_call 246; refine Calls.mono (HV.out _) ?_; rintro e wn ⟨rfl, hbn⟩; replace hB := hB.trans (hbn.mono (Nat.le_trans (Nat.le_of_eq hD.out.symm) hB.size)); replace st := st.below hbn; replace c0 := st.c0; replace c1 := st.c1; replace c2 := st.c2; replace c3 := st.c3; clear hbn))
 go_wp2
 go_ret
 refine ⟨?_, by rw [hD.out]; exact hB⟩
 rw [HN.out]
 simp [shNode]

set_option maxHeartbeats 4000000 in
set_option maxRecDepth 100000 in
theorem nodeOk_call_no (k a : Int) (p f : List UInt8) (q : List UInt8) (g : List UInt8) (b : Int) (w : World) (e : shOf (k, a, p, f) = .call q g b) (hs : shOk (.call q g b) = false) (hq : q.length ≤ 1048576) (hg : g.length ≤ 1048576) :
 Calls Tryz.prog 197 #[nodeVal (k, a, p, f)] w fun e w' => e = .returned (.bool (nodeB (k, a, p, f))) ∧ Below w.heap.size w w' := by
 have HN : Hid (nodeB (k, a, p, f) = (false && decide (shNode (.call q g b) = (k, a, p, f)))) := by exact (by rw [node_sh, e, hs] : nodeB (k, a, p, f) = (false && decide (shNode (.call q g b) = (k, a, p, f))))
 have HC := implShapeOf (k, a, p, f)
 rw [e] at HC
 have HC2 : Hid (_) := HC
 have HK : Hid (_) := fun W : World => implShapeOk (.call q g b) W (fun _ _ _ e => by injection e with e1 e2; subst e1; subst e2; exact ⟨hq, hg⟩)
 rw [hs] at HK
 clear HC hs e
 unfold nodeVal shVal at HC2
 unfold shVal at HK
 unfold nodeVal
 simp only at HC2 HK ⊢
 obtain ⟨W0, hW0⟩ : ∃ W0, w.alloc (.cells #[.int .i64 k, .int .i64 a, .string ⟨p.toArray⟩, .string ⟨f.toArray⟩] 125) = W0 := ⟨_, rfl⟩
 have st := NdAt.new w k a p f
 have hB : Below w.heap.size w W0 := by rw [← hW0]; exact (Below.refl _ w).alloc (Nat.le_refl _) _
 rw [hW0] at st
 obtain ⟨D, hD0⟩ : ∃ D, w.heap.size = D := ⟨_, rfl⟩
 rw [hD0] at st hB
 have hD : Hid (w.heap.size = D) := hD0
 have c0 := st.c0
 have c1 := st.c1
 have c2 := st.c2
 have c3 := st.c3
 go_enter Tryz.func197, Tryz.ntmps197
 go_wp2_with fail
 refine Calls.mono (HC2.out _) ?_
 rintro e wn ⟨rfl, hbn⟩
 replace hB := hB.trans (hbn.mono (Nat.le_trans (Nat.le_of_eq hD.out.symm) hB.size)); replace st := st.below hbn; replace c0 := st.c0; replace c1 := st.c1; replace c2 := st.c2; replace c3 := st.c3; clear hbn
 go_wp2_with fail
 replace st := st.drew
 replace hB := hB.drew
 refine wp_region_held_drew (S := (fun _ => True)) (by kernel_rfl) ?_ (fun hHeld => ?_)
 ·
  exact True.intro
 refine tkO [(0, 6)] ?_
 repeat (refine tkY ?_ rfl (by rfl) ?_ ?_; rotate_left; (focus (intro wq hSw; (try dsimp only at hSw); first | (go_simp; done) | (go_simp; with_reducible rfl))); simp only [zP])
 refine tkZ ?_
 refine zR 1 rfl (fun K hK => ?_)
 go_simp
 (go_at_call 200; refine Calls.mono (HK.out _) ?_; rintro e wn ⟨rfl, hbn⟩; replace hB := hB.trans (hbn.mono (Nat.le_trans (Nat.le_of_eq hD.out.symm) hB.size)); replace st := st.below hbn; replace c0 := st.c0; replace c1 := st.c1; replace c2 := st.c2; replace c3 := st.c3; clear hbn)
 refine hK.out _ _ ?_ (fun hHeld => ?_)
 ·
  exact True.intro
 clear hK K
 refine tkO [(2, 8), (3, 9), (4, 10), (5, 11), (6, 12), (7, 13), (8, 2)] ?_
 repeat ((first | (refine tkY ?_ rfl (by rfl) ?_ ?_; rotate_left; (focus (intro wq hSw; (try dsimp only at hSw); first | (go_simp; done) | (go_simp; with_reducible rfl)))) | refine tkN rfl (by rfl) ?_); simp only [zP])
 refine tkZ ?_
 refine wpAnyH_done (by kernel_rfl) ?_ _
 go_wp2
 go_ret
 refine ⟨?_, by rw [hD.out]; exact hB⟩
 rw [HN.out]
 rfl

set_option maxHeartbeats 4000000 in
set_option maxRecDepth 100000 in
theorem nodeOk_no_no (k a : Int) (p f : List UInt8)  (w : World) (e : shOf (k, a, p, f) = .no) (hs : shOk (.no) = false) :
 Calls Tryz.prog 197 #[nodeVal (k, a, p, f)] w fun e w' => e = .returned (.bool (nodeB (k, a, p, f))) ∧ Below w.heap.size w w' := by
 have HN : Hid (nodeB (k, a, p, f) = (false && decide (shNode (.no) = (k, a, p, f)))) := by exact (by rw [node_sh, e, hs] : nodeB (k, a, p, f) = (false && decide (shNode (.no) = (k, a, p, f))))
 have HC := implShapeOf (k, a, p, f)
 rw [e] at HC
 have HC2 : Hid (_) := HC
 have HK : Hid (_) := fun W : World => implShapeOk (.no) W (fun _ _ _ e => by cases e)
 rw [hs] at HK
 clear HC hs e
 unfold nodeVal shVal at HC2
 unfold shVal at HK
 unfold nodeVal
 simp only at HC2 HK ⊢
 obtain ⟨W0, hW0⟩ : ∃ W0, w.alloc (.cells #[.int .i64 k, .int .i64 a, .string ⟨p.toArray⟩, .string ⟨f.toArray⟩] 125) = W0 := ⟨_, rfl⟩
 have st := NdAt.new w k a p f
 have hB : Below w.heap.size w W0 := by rw [← hW0]; exact (Below.refl _ w).alloc (Nat.le_refl _) _
 rw [hW0] at st
 obtain ⟨D, hD0⟩ : ∃ D, w.heap.size = D := ⟨_, rfl⟩
 rw [hD0] at st hB
 have hD : Hid (w.heap.size = D) := hD0
 have c0 := st.c0
 have c1 := st.c1
 have c2 := st.c2
 have c3 := st.c3
 go_enter Tryz.func197, Tryz.ntmps197
 go_wp2_with fail
 refine Calls.mono (HC2.out _) ?_
 rintro e wn ⟨rfl, hbn⟩
 replace hB := hB.trans (hbn.mono (Nat.le_trans (Nat.le_of_eq hD.out.symm) hB.size)); replace st := st.below hbn; replace c0 := st.c0; replace c1 := st.c1; replace c2 := st.c2; replace c3 := st.c3; clear hbn
 go_wp2_with fail
 replace st := st.drew
 replace hB := hB.drew
 refine wp_region_held_drew (S := (fun _ => True)) (by kernel_rfl) ?_ (fun hHeld => ?_)
 ·
  exact True.intro
 refine tkO [(0, 6)] ?_
 repeat (refine tkY ?_ rfl (by rfl) ?_ ?_; rotate_left; (focus (intro wq hSw; (try dsimp only at hSw); first | (go_simp; done) | (go_simp; with_reducible rfl))); simp only [zP])
 refine tkZ ?_
 refine zR 1 rfl (fun K hK => ?_)
 go_simp
 (go_at_call 200; refine Calls.mono (HK.out _) ?_; rintro e wn ⟨rfl, hbn⟩; replace hB := hB.trans (hbn.mono (Nat.le_trans (Nat.le_of_eq hD.out.symm) hB.size)); replace st := st.below hbn; replace c0 := st.c0; replace c1 := st.c1; replace c2 := st.c2; replace c3 := st.c3; clear hbn)
 refine hK.out _ _ ?_ (fun hHeld => ?_)
 ·
  exact True.intro
 clear hK K
 refine tkO [(2, 8), (3, 9), (4, 10), (5, 11), (6, 12), (7, 13), (8, 2)] ?_
 repeat ((first | (refine tkY ?_ rfl (by rfl) ?_ ?_; rotate_left; (focus (intro wq hSw; (try dsimp only at hSw); first | (go_simp; done) | (go_simp; with_reducible rfl)))) | refine tkN rfl (by rfl) ?_); simp only [zP])
 refine tkZ ?_
 refine wpAnyH_done (by kernel_rfl) ?_ _
 go_wp2
 go_ret
 refine ⟨?_, by rw [hD.out]; exact hB⟩
 rw [HN.out]
 rfl

end Go.Proofs.YtaidhjjpdkkmcaaGreatDoor

/-! The contracts of chapter 6's landed code: NodeOk, KidsOf, EndOf, TreeOk, PartsOf. -/
namespace Go.Proofs.YtaidhjjpdkkmcaaGreatDoor
open Go.RowKit

theorem implNodeOk (n : Nd) (w : World) (_hi : IntN n) (hp : n.2.2.1.length ≤ 1048576) (hf : n.2.2.2.length ≤ 1048576) :
 Calls Tryz.prog 197 #[nodeVal n] w fun e w' => e = .returned (.bool (nodeB n)) ∧ Below w.heap.size w w' := by
 obtain ⟨k, a, p, f⟩ := n
 rcases shOf_kinds (k, a, p, f) with ⟨_, e⟩ | ⟨_, e⟩ | ⟨_, e⟩ | ⟨_, e⟩ | ⟨_, e⟩ | ⟨_, e⟩
 ·
  rcases hs : shOk (.num a) with _ | _
  ·
   exact nodeOk_num_no k a p f a w e hs
  ·
   exact nodeOk_num_yes k a p f a w e hs
 ·
  rcases hs : shOk (.arg a) with _ | _
  ·
   exact nodeOk_arg_no k a p f a w e hs
  ·
   exact nodeOk_arg_yes k a p f a w e hs
 ·
  exact nodeOk_pair_yes k a p f k w e rfl
 ·
  exact nodeOk_cond_yes k a p f w e rfl
 ·
  rcases hs : shOk (.call p f a) with _ | _
  ·
   exact nodeOk_call_no k a p f p f a w e hs hp hf
  ·
   exact nodeOk_call_yes k a p f p f a w e hs hp hf
 ·
  exact nodeOk_no_no k a p f w e rfl

set_option maxHeartbeats 1000000 in
set_option maxRecDepth 100000 in
theorem implKidsOf (n : Nd) (w : World) (hi : IntN n) (hp : n.2.2.1.length ≤ 1048576) (hf : n.2.2.2.length ≤ 1048576) :
 Calls Tryz.prog 196 #[nodeVal n] w fun e w' => e = .returned (.int .i64 (kidsOfV n)) ∧ Below w.heap.size w w' := by
 have HC : Hid (_) := fun W : World => implNodeOk n W hi hp hf
 have HS : Hid (_) := fun W : World => implShapeOf n W
 have HV : Hid (nodeB n = false → kidsOfV n = -1) := fun h => by unfold kidsOfV; rw [if_neg (by rw [h]; simp)]
 have HV2 : Hid (nodeB n = true → kidsOfV n = shKids (shOf n)) := fun h => by unfold kidsOfV; rw [if_pos h, kids_sh h]
 generalize nodeB n = nb at HC HV HV2
 generalize shOf n = s at HS HV2
 have HK : Hid (_) := fun W : World => implKidsOfShape s W
 obtain ⟨k, a, p, f⟩ := n
 unfold nodeVal at HC HS ⊢
 simp only at HC HS ⊢
 clear hi hp hf
 obtain ⟨W0, hW0⟩ : ∃ W0, w.alloc (.cells #[.int .i64 k, .int .i64 a, .string ⟨p.toArray⟩, .string ⟨f.toArray⟩] 125) = W0 := ⟨_, rfl⟩
 have st := NdAt.new w k a p f
 have hB : Below w.heap.size w W0 := by rw [← hW0]; exact (Below.refl _ w).alloc (Nat.le_refl _) _
 rw [hW0] at st
 obtain ⟨D, hD0⟩ : ∃ D, w.heap.size = D := ⟨_, rfl⟩
 rw [hD0] at st hB
 have hD : Hid (w.heap.size = D) := hD0
 have c0 := st.c0
 have c1 := st.c1
 have c2 := st.c2
 have c3 := st.c3
 go_enter Tryz.func196, Tryz.ntmps196
 go_wp2_with fail
 refine Calls.mono (HC.out _) ?_
 rintro e wn ⟨rfl, hbn⟩
 replace hB := hB.trans (hbn.mono (Nat.le_trans (Nat.le_of_eq hD.out.symm) hB.size))
 replace st := st.below hbn
 replace c0 := st.c0
 replace c1 := st.c1
 replace c2 := st.c2
 replace c3 := st.c3
 clear hbn
 rcases nb with _ | _
 ·
  have HO : Hid (kidsOfV (k, a, p, f) = -1) := HV.out rfl
  go_wp2
  go_ret
  exact ⟨by rw [HO.out]; rfl, by rw [hD.out]; exact hB⟩
 ·
  have HO : Hid (kidsOfV (k, a, p, f) = shKids s) := HV2.out rfl
  go_wp2_with fail
  refine Calls.mono (HS.out _) ?_
  rintro e wn ⟨rfl, hbn⟩
  replace hB := hB.trans (hbn.mono (Nat.le_trans (Nat.le_of_eq hD.out.symm) hB.size))
  clear hbn st c0 c1 c2 c3
  go_wp2_with fail
  refine Calls.mono (HK.out _) ?_
  rintro e wn ⟨rfl, hbn⟩
  replace hB := hB.trans (hbn.mono (Nat.le_trans (Nat.le_of_eq hD.out.symm) hB.size))
  go_wp2
  go_ret
  exact ⟨by rw [HO.out]; rfl, by rw [hD.out]; exact hB⟩

theorem kids_of (n : Nd) : (nodeB n = false ∧ kidsOfV n = -1) ∨ (nodeB n = true ∧ kidsOfV n = (kidsN n : Int) ∧ kidsN n ≤ 3) := by
 rcases h : nodeB n with _ | _
 ·
  exact Or.inl ⟨rfl, by unfold kidsOfV; rw [if_neg (by rw [h]; simp)]⟩
 ·
  obtain ⟨h1, h2⟩ := kidsV_ok h
  exact Or.inr ⟨rfl, by unfold kidsOfV; rw [if_pos h]; exact h1, h2⟩

set_option maxHeartbeats 2000000 in
set_option maxRecDepth 100000 in
theorem implEndOf (a : Option Addr) (len cap : Nat) (ns : List Nd) (at_ : Int) (w : World) (hin : NodesIn w a len ns) (hint : IntT ns) (hsh : ShortT ns) (hlen : len ≤ 1048576) (hat : -9223372036854775808 ≤ at_ ∧ at_ ≤ 9223372036854775807) :
 Calls Tryz.prog 195 #[.slice a len cap, .int .i64 at_] w fun e w' => e = .returned (.int .i64 (endV ns at_)) ∧ Below w.heap.size w w' := by
 obtain rfl : ns.length = len := hin.1
 by_cases h0 : at_ < 0
 ·
  have HE : Hid (endV ns at_ = -1) := endV_out ns at_ (Or.inl h0)
  go_enter Tryz.func195, Tryz.ntmps195
  go_wp2
  go_ret
  exact ⟨by rw [HE.out]; rfl, Below.refl _ _⟩
 ·
  obtain ⟨k0, rfl⟩ : ∃ k0 : Nat, at_ = (k0 : Int) := Int.eq_ofNat_of_zero_le (by omega)
  have h0' : ¬ (k0 : Int) < 0 := by omega
  have HE : Hid (endTo ns k0 1 = endV ns (k0 : Int)) := by
   by_cases hk : k0 < ns.length
   ·
    exact endTo_start hk
   ·
    exact (by rw [endTo_over (by omega), endV_out ns (k0 : Int) (Or.inr (by omega))] : endTo ns k0 1 = endV ns (k0 : Int))
  have HI : Hid (NodesIn w a ns.length ns) := hin
  have HS : Hid (ShortT ns) := hsh
  have HN0 : Hid (IntT ns) := hint
  clear hin hsh hint h0
  go_enter Tryz.func195, Tryz.ntmps195
  go_wp2
  go_loopw [1, 5] (fun av ov wr => ∃ k o : Nat, av = .int .i64 k ∧ ov = .int .i64 o ∧ (k ≤ ns.length ∨ (k = k0 ∧ o = 1)) ∧ o ≤ 1 + 3 * k ∧ Hid (endTo ns k o = endV ns (k0 : Int)) ∧ Below w.heap.size w wr) (fun av _ _ => ns.length - (intOf av).toNat)
  case atStart => exact ⟨k0, 1, rfl, rfl, Or.inr ⟨rfl, rfl⟩, by omega, HE, Below.refl _ _⟩
  case round =>
   obtain ⟨k, o, rfl, rfl, hk, ho, HT, hb⟩ := hrel
   clear HE
   by_cases hoz : o = 0
   ·
    subst hoz
    have HF : Hid ((k : Int) = endV ns (k0 : Int)) := by exact (by rw [← HT.out, endTo_zero] : (k : Int) = endV ns (k0 : Int))
    go_wp2
    go_ret
    exact ⟨by rw [← HF.out]; rfl, hb⟩
   ·
    obtain ⟨o', rfl⟩ : ∃ o', o = o' + 1 := ⟨o - 1, by omega⟩
    have ho1 : (0 : Int) < ((o' + 1 : Nat) : Int) := by omega
    by_cases hkl : (ns.length : Int) ≤ (k : Int)
    ·
     have HF : Hid (endV ns (k0 : Int) = -1) := by exact (by rw [← HT.out, endTo_over (by omega)] : endV ns (k0 : Int) = -1)
     clear hoz
     go_wp2
     go_ret
     exact ⟨by rw [HF.out]; rfl, hb⟩
    ·
     obtain ⟨b, off, rfl, hbl, hcells⟩ := (HI.out.below hb).at (by omega)
     obtain ⟨c0, c1, c2, c3⟩ := hcells k (by omega)
     have hs := HS.out k
     have hz := HN0.out k
     obtain ⟨n, hn⟩ : ∃ n, ns.getD k nd0 = n := ⟨_, rfl⟩
     rw [hn] at c0 c1 c2 c3 hs hz
     have HN : Hid (ns.getD k nd0 = n) := hn
     have HC : Hid (_) := fun W : World => implKidsOf n W hz hs.1 hs.2
     have HK : Hid (_) := kids_of n
     generalize hkn : kidsOfV n = kn at HC HK
     obtain ⟨kd, aa, p, f⟩ := n
     unfold nodeVal at HC
     simp only at c0 c1 c2 c3 HC
     clear hn hcells hoz hs hz hkn
     go_wp2_with fail
     refine Calls.mono (HC.out _) ?_
     rintro e w1 ⟨rfl, hb1⟩
     have hB1 := hb.trans (hb1.mono hb.size)
     clear c0 c1 c2 c3 hb1 hb HC
     rcases HK.out with ⟨hnb, rfl⟩ | ⟨hnb, rfl, hk3⟩
     ·
      have HF : Hid (endV ns (k0 : Int) = -1) := by exact (by rw [← HT.out, endTo_bad (by omega) (by rw [HN.out]; exact hnb)] : endV ns (k0 : Int) = -1)
      clear hnb
      go_wp2
      go_ret
      exact ⟨by rw [HF.out]; rfl, hB1⟩
     ·
      have HT2 : Hid (endTo ns (k + 1) (o' + kidsN (kd, aa, p, f)) = endV ns (k0 : Int)) := by
       have := endTo_round (o := o') (show k < ns.length by omega) (by rw [HN.out]; exact hnb)
       rw [HN.out] at this
       exact (by rw [← this]; exact HT.out : endTo ns (k + 1) (o' + kidsN (kd, aa, p, f)) = endV ns (k0 : Int))
      clear hnb
      generalize kidsN (kd, aa, p, f) = q at hk3 HT2 ⊢
      have hq1 : ((q : Int) == -1) = false := beq_eq_false_iff_ne.2 (by omega)
      have hkk : k ≤ ns.length := by omega
      clear hk HK
      go_wp2
      go_roundw
      case rel => exact ⟨k + 1, o' + q, by go_num, by go_num, Or.inl (by omega), by omega, HT2, hB1⟩
      case measure => simp [intOf]; omega

theorem treeB_many (ns : List Nd) (h : ¬ (1 ≤ ns.length ∧ ns.length ≤ 60)) : treeB ns = false := decide_eq_false (fun g => h g.1)
theorem treeB_end (ns : List Nd) (h : 1 ≤ ns.length ∧ ns.length ≤ 60) : treeB ns = (endV ns 0 == (ns.length : Int)) := by
 rw [Bool.eq_iff_iff, beq_iff_eq]
 unfold treeB
 rw [decide_eq_true_iff]
 exact ⟨fun g => g.2, fun g => ⟨h, g⟩⟩

set_option maxHeartbeats 1000000 in
set_option maxRecDepth 100000 in
theorem implTreeOk (a : Option Addr) (len cap : Nat) (ns : List Nd) (w : World) (hin : NodesIn w a len ns) (hint : IntT ns) (hsh : ShortT ns) (hlen : len ≤ 1048576) :
 Calls Tryz.prog 193 #[.slice a len cap] w fun e w' => e = .returned (.bool (treeB ns)) ∧ Below w.heap.size w w' := by
 obtain rfl : ns.length = len := hin.1
 have HC : Hid (_) := implEndOf a ns.length cap ns 0 w hin hint hsh hlen (by omega)
 by_cases h1 : (1 : Int) ≤ (ns.length : Int)
 ·
  by_cases h2 : (ns.length : Int) ≤ 60
  ·
   have HT : Hid (treeB ns = (endV ns 0 == (ns.length : Int))) := treeB_end ns (by omega)
   generalize endV ns 0 = e0 at HC HT
   clear hin hint hsh
   go_enter Tryz.func193, Tryz.ntmps193
   go_wp2_with fail
   refine Calls.mono HC.out ?_
   rintro e w1 ⟨rfl, hb1⟩
   go_wp2
   go_ret
   exact ⟨by rw [HT.out]; rfl, hb1⟩
  ·
   have HT : Hid (treeB ns = false) := treeB_many ns (by omega)
   clear hin hint hsh
   go_enter Tryz.func193, Tryz.ntmps193
   go_wp2
   go_ret
   exact ⟨by rw [HT.out]; rfl, Below.refl _ _⟩
 ·
  have HT : Hid (treeB ns = false) := treeB_many ns (by omega)
  clear hin hint hsh
  go_enter Tryz.func193, Tryz.ntmps193
  go_wp2
  go_ret
  exact ⟨by rw [HT.out]; rfl, Below.refl _ _⟩

end Go.Proofs.YtaidhjjpdkkmcaaGreatDoor
