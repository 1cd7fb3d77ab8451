/-
  Parts of one proof, one behind the other: TreeI2.
-/
import Derived.Test.YtdoghjpjepolbaaGreatDoorP14
import Derived.Laws.StructEq
import Derived.Deep.RegionHeld3

/-! The contracts of chapter 6's landed code: NodeOk, KidsOf. -/
namespace Go.Proofs.YtdoghjpjepolbaaGreatDoor
open Go.RowKit

theorem nodes_eq (k a k2 a2 : Int) (p f p2 f2 : List UInt8) (w : World) : (binOp .eql 117 (.agg #[.int .i64 k, .int .i64 a, .string ⟨p.toArray⟩, .string ⟨f.toArray⟩]) (.agg #[.int .i64 k2, .int .i64 a2, .string ⟨p2.toArray⟩, .string ⟨f2.toArray⟩])).run Tryz.prog w = .ok (.bool (decide (((k, a, p, f) : Nd) = (k2, a2, p2, f2)))) w := by
 rw [run_eql_struct]
 simp [go_sem]
 by_cases h1 : k = k2
 ·
  by_cases h2 : a = a2
  ·
   by_cases h3 : p = p2
   ·
    by_cases h4 : f = f2
    ·
     simp [h1, h2, h3, h4]
    ·
     simp [h1, h2, h3, h4]
   ·
    simp [h1, h2, h3]
  ·
   simp [h1, h2]
 ·
  simp [h1]

/-- What NodeOk holds while it is at work. -/
structure NdAt (W : World) (D : Nat) (k a : Int) (p f : List UInt8) : Prop where
 c0 : W.cell? ⟨D, 0, none⟩ = some (.int .i64 k)
 c1 : W.cell? ⟨D, 1, none⟩ = some (.int .i64 a)
 c2 : W.cell? ⟨D, 2, none⟩ = some (.string ⟨p.toArray⟩)
 c3 : W.cell? ⟨D, 3, none⟩ = some (.string ⟨f.toArray⟩)

theorem NdAt.below {W W' : World} {D : Nat} {k a : Int} {p f : List UInt8} (h : NdAt W D k a p f) (hb : Below W.heap.size W W') : NdAt W' D k a p f :=
 have hl : D < W.heap.size := World.block_lt_of_cell? W ⟨D, 0, none⟩ h.c0
 ⟨(hb.cell (p := ⟨D, 0, none⟩) hl).trans h.c0, (hb.cell (p := ⟨D, 1, none⟩) hl).trans h.c1, (hb.cell (p := ⟨D, 2, none⟩) hl).trans h.c2, (hb.cell (p := ⟨D, 3, none⟩) hl).trans h.c3⟩
theorem NdAt.drew {W : World} {D : Nat} {k a : Int} {p f : List UInt8} (h : NdAt W D k a p f) : NdAt W.drew D k a p f := ⟨h.c0, h.c1, h.c2, h.c3⟩
theorem NdAt.new (w : World) (k a : Int) (p f : List UInt8) : NdAt (w.alloc (.cells #[.int .i64 k, .int .i64 a, .string ⟨p.toArray⟩, .string ⟨f.toArray⟩] 117)) w.heap.size k a p f := by
 have hA := heap_alloc_new w (.cells #[.int .i64 k, .int .i64 a, .string ⟨p.toArray⟩, .string ⟨f.toArray⟩] 117)
 generalize w.alloc (.cells #[.int .i64 k, .int .i64 a, .string ⟨p.toArray⟩, .string ⟨f.toArray⟩] 117) = W at hA ⊢
 exact ⟨by simp [World.cell?, hA], by simp [World.cell?, hA], by simp [World.cell?, hA], by simp [World.cell?, hA]⟩

set_option maxHeartbeats 4000000 in
set_option maxRecDepth 100000 in
theorem nodeOk_num_yes (k a : Int) (p f : List UInt8) (b : Int) (w : World) (e : shOf (k, a, p, f) = .num b) (hs : shOk (.num b) = true) :
 Calls Tryz.prog 199 #[nodeVal (k, a, p, f)] w fun e w' => e = .returned (.bool (nodeB (k, a, p, f))) ∧ Below w.heap.size w w' := by
 have HN : Hid (nodeB (k, a, p, f) = (true && decide (shNode (.num b) = (k, a, p, f)))) := by exact (by rw [node_sh, e, hs] : nodeB (k, a, p, f) = (true && decide (shNode (.num b) = (k, a, p, f))))
 have HC := implShapeOf (k, a, p, f)
 rw [e] at HC
 have HC2 : Hid (_) := HC
 have HK : Hid (_) := fun W : World => implShapeOk (.num b) W (fun _ _ _ e => by cases e)
 rw [hs] at HK
 have HV : Hid (_) := fun W : World => node_num b W
 unfold nodeVal shNode at HV
 simp only at HV
 have hEq := nodes_eq
 clear HC hs e
 unfold nodeVal shVal at HC2
 unfold shVal at HK
 unfold nodeVal
 simp only at HC2 HK ⊢
 obtain ⟨W0, hW0⟩ : ∃ W0, w.alloc (.cells #[.int .i64 k, .int .i64 a, .string ⟨p.toArray⟩, .string ⟨f.toArray⟩] 117) = W0 := ⟨_, rfl⟩
 have st := NdAt.new w k a p f
 have hB : Below w.heap.size w W0 := by rw [← hW0]; exact (Below.refl _ w).alloc (Nat.le_refl _) _
 rw [hW0] at st
 obtain ⟨D, hD0⟩ : ∃ D, w.heap.size = D := ⟨_, rfl⟩
 rw [hD0] at st hB
 have hD : Hid (w.heap.size = D) := hD0
 have c0 := st.c0
 have c1 := st.c1
 have c2 := st.c2
 have c3 := st.c3
 go_enter Tryz.func199, Tryz.ntmps199
 go_wp2_with fail
 refine Calls.mono (HC2.out _) ?_
 rintro e wn ⟨rfl, hbn⟩
 replace hB := hB.trans (hbn.mono (Nat.le_trans (Nat.le_of_eq hD.out.symm) hB.size)); replace st := st.below hbn; replace c0 := st.c0; replace c1 := st.c1; replace c2 := st.c2; replace c3 := st.c3; clear hbn
 go_wp2_with fail
 replace st := st.drew
 replace hB := hB.drew
 go_region_held3 (fun w' => w'.cell? ⟨D, 0, none⟩ = some (.int .i64 k) ∧ w'.cell? ⟨D, 1, none⟩ = some (.int .i64 a) ∧ w'.cell? ⟨D, 2, none⟩ = some (.string ⟨p.toArray⟩) ∧ w'.cell? ⟨D, 3, none⟩ = some (.string ⟨f.toArray⟩)) (go_keep) (first | (go_at_call 202; refine Calls.mono (HK.out _) ?_; rintro e wn ⟨rfl, hbn⟩; replace hB := hB.trans (hbn.mono (Nat.le_trans (Nat.le_of_eq hD.out.symm) hB.size)); replace st := st.below hbn; replace c0 := st.c0; replace c1 := st.c1; replace c2 := st.c2; replace c3 := st.c3; clear hbn) | (go_at_call 244; refine Calls.mono (HV.out _) ?_; rintro e wn ⟨rfl, hbn⟩; replace hB := hB.trans (hbn.mono (Nat.le_trans (Nat.le_of_eq hD.out.symm) hB.size)); replace st := st.below hbn; replace c0 := st.c0; replace c1 := st.c1; replace c2 := st.c2; replace c3 := st.c3; clear hbn))
 go_wp2
 go_ret
 refine ⟨?_, by rw [hD.out]; exact hB⟩
 rw [HN.out]
 simp [shNode, @eq_comm (List UInt8) [] p, @eq_comm (List UInt8) [] f]

set_option maxHeartbeats 4000000 in
set_option maxRecDepth 100000 in
theorem nodeOk_num_no (k a : Int) (p f : List UInt8) (b : Int) (w : World) (e : shOf (k, a, p, f) = .num b) (hs : shOk (.num b) = false) :
 Calls Tryz.prog 199 #[nodeVal (k, a, p, f)] w fun e w' => e = .returned (.bool (nodeB (k, a, p, f))) ∧ Below w.heap.size w w' := by
 have HN : Hid (nodeB (k, a, p, f) = (false && decide (shNode (.num b) = (k, a, p, f)))) := by exact (by rw [node_sh, e, hs] : nodeB (k, a, p, f) = (false && decide (shNode (.num b) = (k, a, p, f))))
 have HC := implShapeOf (k, a, p, f)
 rw [e] at HC
 have HC2 : Hid (_) := HC
 have HK : Hid (_) := fun W : World => implShapeOk (.num b) W (fun _ _ _ e => by cases e)
 rw [hs] at HK
 clear HC hs e
 unfold nodeVal shVal at HC2
 unfold shVal at HK
 unfold nodeVal
 simp only at HC2 HK ⊢
 obtain ⟨W0, hW0⟩ : ∃ W0, w.alloc (.cells #[.int .i64 k, .int .i64 a, .string ⟨p.toArray⟩, .string ⟨f.toArray⟩] 117) = W0 := ⟨_, rfl⟩
 have st := NdAt.new w k a p f
 have hB : Below w.heap.size w W0 := by rw [← hW0]; exact (Below.refl _ w).alloc (Nat.le_refl _) _
 rw [hW0] at st
 obtain ⟨D, hD0⟩ : ∃ D, w.heap.size = D := ⟨_, rfl⟩
 rw [hD0] at st hB
 have hD : Hid (w.heap.size = D) := hD0
 have c0 := st.c0
 have c1 := st.c1
 have c2 := st.c2
 have c3 := st.c3
 go_enter Tryz.func199, Tryz.ntmps199
 go_wp2_with fail
 refine Calls.mono (HC2.out _) ?_
 rintro e wn ⟨rfl, hbn⟩
 replace hB := hB.trans (hbn.mono (Nat.le_trans (Nat.le_of_eq hD.out.symm) hB.size)); replace st := st.below hbn; replace c0 := st.c0; replace c1 := st.c1; replace c2 := st.c2; replace c3 := st.c3; clear hbn
 go_wp2_with fail
 replace st := st.drew
 replace hB := hB.drew
 refine wp_region_held_drew (S := (fun _ => True)) (by kernel_rfl) ?_ (fun hHeld => ?_)
 ·
  exact True.intro
 refine wpAnyH_take (i := 0) (oi := ⟨some 6, _, _, _, _, _⟩) (v := ?v0) rfl (by kernel_rfl) (by kernel_rfl) (by kernel_rfl) (fun _ _ _ h => h) (Or.inl ⟨by rfl, ?hy0⟩) (by assumption) ?rest0
 case hy0 => (intro wq hSw; (try dsimp only at hSw); first | (go_simp; done) | (go_simp; with_reducible rfl))
 simp only [Act.put, List.setIfInBounds_toArray, List.set_cons_zero, List.set_cons_succ]
 refine wpAnyH_ready (rs := [1]) (by kernel_rfl) (by simp) ?_
 refine AllReadyH.cons rfl (fun K hK => ?_) AllReadyH.nil
 go_simp
 (go_at_call 202; refine Calls.mono (HK.out _) ?_; rintro e wn ⟨rfl, hbn⟩; replace hB := hB.trans (hbn.mono (Nat.le_trans (Nat.le_of_eq hD.out.symm) hB.size)); replace st := st.below hbn; replace c0 := st.c0; replace c1 := st.c1; replace c2 := st.c2; replace c3 := st.c3; clear hbn)
 refine hK.out _ _ ?_ (fun hHeld => ?_)
 ·
  exact True.intro
 clear hK K
 refine wpAnyH_take (i := 2) (oi := ⟨some 8, _, _, _, _, _⟩) (v := ?v2) rfl (by kernel_rfl) (by kernel_rfl) (by kernel_rfl) (fun _ _ _ h => h) (Or.inl ⟨by rfl, ?hy2⟩) (by assumption) ?rest2
 case hy2 => (intro wq hSw; (try dsimp only at hSw); first | (go_simp; done) | (go_simp; with_reducible rfl))
 simp only [Act.put, List.setIfInBounds_toArray, List.set_cons_zero, List.set_cons_succ]
 refine wpAnyH_take (i := 3) (oi := ⟨some 9, _, _, _, _, _⟩) (v := undef) rfl (by kernel_rfl) (by kernel_rfl) (by kernel_rfl) (fun _ _ _ h => h) (Or.inr ⟨by rfl, rfl⟩) (by assumption) ?_
 simp only [Act.put, List.setIfInBounds_toArray, List.set_cons_zero, List.set_cons_succ]
 refine wpAnyH_take (i := 4) (oi := ⟨some 10, _, _, _, _, _⟩) (v := undef) rfl (by kernel_rfl) (by kernel_rfl) (by kernel_rfl) (fun _ _ _ h => h) (Or.inr ⟨by rfl, rfl⟩) (by assumption) ?_
 simp only [Act.put, List.setIfInBounds_toArray, List.set_cons_zero, List.set_cons_succ]
 refine wpAnyH_take (i := 5) (oi := ⟨some 11, _, _, _, _, _⟩) (v := undef) rfl (by kernel_rfl) (by kernel_rfl) (by kernel_rfl) (fun _ _ _ h => h) (Or.inr ⟨by rfl, rfl⟩) (by assumption) ?_
 simp only [Act.put, List.setIfInBounds_toArray, List.set_cons_zero, List.set_cons_succ]
 refine wpAnyH_take (i := 6) (oi := ⟨some 12, _, _, _, _, _⟩) (v := undef) rfl (by kernel_rfl) (by kernel_rfl) (by kernel_rfl) (fun _ _ _ h => h) (Or.inr ⟨by rfl, rfl⟩) (by assumption) ?_
 simp only [Act.put, List.setIfInBounds_toArray, List.set_cons_zero, List.set_cons_succ]
 refine wpAnyH_take (i := 7) (oi := ⟨some 13, _, _, _, _, _⟩) (v := ?v7) rfl (by kernel_rfl) (by kernel_rfl) (by kernel_rfl) (fun _ _ _ h => h) (Or.inl ⟨by rfl, ?hy7⟩) (by assumption) ?rest7
 case hy7 => (intro wq hSw; (try dsimp only at hSw); first | (go_simp; done) | (go_simp; with_reducible rfl))
 simp only [Act.put, List.setIfInBounds_toArray, List.set_cons_zero, List.set_cons_succ]
 refine wpAnyH_take (i := 8) (oi := ⟨some 2, _, _, _, _, _⟩) (v := ?v8) rfl (by kernel_rfl) (by kernel_rfl) (by kernel_rfl) (fun _ _ _ h => h) (Or.inl ⟨by rfl, ?hy8⟩) (by assumption) ?rest8
 case hy8 => (intro wq hSw; (try dsimp only at hSw); first | (go_simp; done) | (go_simp; with_reducible rfl))
 simp only [Act.put, List.setIfInBounds_toArray, List.set_cons_zero, List.set_cons_succ]
 refine wpAnyH_done (by kernel_rfl) ?_ _
 go_wp2
 go_ret
 refine ⟨?_, by rw [hD.out]; exact hB⟩
 rw [HN.out]
 rfl

set_option maxHeartbeats 4000000 in
set_option maxRecDepth 100000 in
theorem nodeOk_arg_yes (k a : Int) (p f : List UInt8) (b : Int) (w : World) (e : shOf (k, a, p, f) = .arg b) (hs : shOk (.arg b) = true) :
 Calls Tryz.prog 199 #[nodeVal (k, a, p, f)] w fun e w' => e = .returned (.bool (nodeB (k, a, p, f))) ∧ Below w.heap.size w w' := by
 have HN : Hid (nodeB (k, a, p, f) = (true && decide (shNode (.arg b) = (k, a, p, f)))) := by exact (by rw [node_sh, e, hs] : nodeB (k, a, p, f) = (true && decide (shNode (.arg b) = (k, a, p, f))))
 have HC := implShapeOf (k, a, p, f)
 rw [e] at HC
 have HC2 : Hid (_) := HC
 have HK : Hid (_) := fun W : World => implShapeOk (.arg b) W (fun _ _ _ e => by cases e)
 rw [hs] at HK
 have HV : Hid (_) := fun W : World => node_arg b W
 unfold nodeVal shNode at HV
 simp only at HV
 have hEq := nodes_eq
 clear HC hs e
 unfold nodeVal shVal at HC2
 unfold shVal at HK
 unfold nodeVal
 simp only at HC2 HK ⊢
 obtain ⟨W0, hW0⟩ : ∃ W0, w.alloc (.cells #[.int .i64 k, .int .i64 a, .string ⟨p.toArray⟩, .string ⟨f.toArray⟩] 117) = W0 := ⟨_, rfl⟩
 have st := NdAt.new w k a p f
 have hB : Below w.heap.size w W0 := by rw [← hW0]; exact (Below.refl _ w).alloc (Nat.le_refl _) _
 rw [hW0] at st
 obtain ⟨D, hD0⟩ : ∃ D, w.heap.size = D := ⟨_, rfl⟩
 rw [hD0] at st hB
 have hD : Hid (w.heap.size = D) := hD0
 have c0 := st.c0
 have c1 := st.c1
 have c2 := st.c2
 have c3 := st.c3
 go_enter Tryz.func199, Tryz.ntmps199
 go_wp2_with fail
 refine Calls.mono (HC2.out _) ?_
 rintro e wn ⟨rfl, hbn⟩
 replace hB := hB.trans (hbn.mono (Nat.le_trans (Nat.le_of_eq hD.out.symm) hB.size)); replace st := st.below hbn; replace c0 := st.c0; replace c1 := st.c1; replace c2 := st.c2; replace c3 := st.c3; clear hbn
 go_wp2_with fail
 replace st := st.drew
 replace hB := hB.drew
 go_region_held3 (fun w' => w'.cell? ⟨D, 0, none⟩ = some (.int .i64 k) ∧ w'.cell? ⟨D, 1, none⟩ = some (.int .i64 a) ∧ w'.cell? ⟨D, 2, none⟩ = some (.string ⟨p.toArray⟩) ∧ w'.cell? ⟨D, 3, none⟩ = some (.string ⟨f.toArray⟩)) (go_keep) (first | (go_at_call 202; refine Calls.mono (HK.out _) ?_; rintro e wn ⟨rfl, hbn⟩; replace hB := hB.trans (hbn.mono (Nat.le_trans (Nat.le_of_eq hD.out.symm) hB.size)); replace st := st.below hbn; replace c0 := st.c0; replace c1 := st.c1; replace c2 := st.c2; replace c3 := st.c3; clear hbn) | (go_at_call 245; refine Calls.mono (HV.out _) ?_; rintro e wn ⟨rfl, hbn⟩; replace hB := hB.trans (hbn.mono (Nat.le_trans (Nat.le_of_eq hD.out.symm) hB.size)); replace st := st.below hbn; replace c0 := st.c0; replace c1 := st.c1; replace c2 := st.c2; replace c3 := st.c3; clear hbn))
 go_wp2
 go_ret
 refine ⟨?_, by rw [hD.out]; exact hB⟩
 rw [HN.out]
 simp [shNode, @eq_comm (List UInt8) [] p, @eq_comm (List UInt8) [] f]

set_option maxHeartbeats 4000000 in
set_option maxRecDepth 100000 in
theorem nodeOk_arg_no (k a : Int) (p f : List UInt8) (b : Int) (w : World) (e : shOf (k, a, p, f) = .arg b) (hs : shOk (.arg b) = false) :
 Calls Tryz.prog 199 #[nodeVal (k, a, p, f)] w fun e w' => e = .returned (.bool (nodeB (k, a, p, f))) ∧ Below w.heap.size w w' := by
 have HN : Hid (nodeB (k, a, p, f) = (false && decide (shNode (.arg b) = (k, a, p, f)))) := by exact (by rw [node_sh, e, hs] : nodeB (k, a, p, f) = (false && decide (shNode (.arg b) = (k, a, p, f))))
 have HC := implShapeOf (k, a, p, f)
 rw [e] at HC
 have HC2 : Hid (_) := HC
 have HK : Hid (_) := fun W : World => implShapeOk (.arg b) W (fun _ _ _ e => by cases e)
 rw [hs] at HK
 clear HC hs e
 unfold nodeVal shVal at HC2
 unfold shVal at HK
 unfold nodeVal
 simp only at HC2 HK ⊢
 obtain ⟨W0, hW0⟩ : ∃ W0, w.alloc (.cells #[.int .i64 k, .int .i64 a, .string ⟨p.toArray⟩, .string ⟨f.toArray⟩] 117) = W0 := ⟨_, rfl⟩
 have st := NdAt.new w k a p f
 have hB : Below w.heap.size w W0 := by rw [← hW0]; exact (Below.refl _ w).alloc (Nat.le_refl _) _
 rw [hW0] at st
 obtain ⟨D, hD0⟩ : ∃ D, w.heap.size = D := ⟨_, rfl⟩
 rw [hD0] at st hB
 have hD : Hid (w.heap.size = D) := hD0
 have c0 := st.c0
 have c1 := st.c1
 have c2 := st.c2
 have c3 := st.c3
 go_enter Tryz.func199, Tryz.ntmps199
 go_wp2_with fail
 refine Calls.mono (HC2.out _) ?_
 rintro e wn ⟨rfl, hbn⟩
 replace hB := hB.trans (hbn.mono (Nat.le_trans (Nat.le_of_eq hD.out.symm) hB.size)); replace st := st.below hbn; replace c0 := st.c0; replace c1 := st.c1; replace c2 := st.c2; replace c3 := st.c3; clear hbn
 go_wp2_with fail
 replace st := st.drew
 replace hB := hB.drew
 refine wp_region_held_drew (S := (fun _ => True)) (by kernel_rfl) ?_ (fun hHeld => ?_)
 ·
  exact True.intro
 refine wpAnyH_take (i := 0) (oi := ⟨some 6, _, _, _, _, _⟩) (v := ?v0) rfl (by kernel_rfl) (by kernel_rfl) (by kernel_rfl) (fun _ _ _ h => h) (Or.inl ⟨by rfl, ?hy0⟩) (by assumption) ?rest0
 case hy0 => (intro wq hSw; (try dsimp only at hSw); first | (go_simp; done) | (go_simp; with_reducible rfl))
 simp only [Act.put, List.setIfInBounds_toArray, List.set_cons_zero, List.set_cons_succ]
 refine wpAnyH_ready (rs := [1]) (by kernel_rfl) (by simp) ?_
 refine AllReadyH.cons rfl (fun K hK => ?_) AllReadyH.nil
 go_simp
 (go_at_call 202; refine Calls.mono (HK.out _) ?_; rintro e wn ⟨rfl, hbn⟩; replace hB := hB.trans (hbn.mono (Nat.le_trans (Nat.le_of_eq hD.out.symm) hB.size)); replace st := st.below hbn; replace c0 := st.c0; replace c1 := st.c1; replace c2 := st.c2; replace c3 := st.c3; clear hbn)
 refine hK.out _ _ ?_ (fun hHeld => ?_)
 ·
  exact True.intro
 clear hK K
 refine wpAnyH_take (i := 2) (oi := ⟨some 8, _, _, _, _, _⟩) (v := ?v2) rfl (by kernel_rfl) (by kernel_rfl) (by kernel_rfl) (fun _ _ _ h => h) (Or.inl ⟨by rfl, ?hy2⟩) (by assumption) ?rest2
 case hy2 => (intro wq hSw; (try dsimp only at hSw); first | (go_simp; done) | (go_simp; with_reducible rfl))
 simp only [Act.put, List.setIfInBounds_toArray, List.set_cons_zero, List.set_cons_succ]
 refine wpAnyH_take (i := 3) (oi := ⟨some 9, _, _, _, _, _⟩) (v := undef) rfl (by kernel_rfl) (by kernel_rfl) (by kernel_rfl) (fun _ _ _ h => h) (Or.inr ⟨by rfl, rfl⟩) (by assumption) ?_
 simp only [Act.put, List.setIfInBounds_toArray, List.set_cons_zero, List.set_cons_succ]
 refine wpAnyH_take (i := 4) (oi := ⟨some 10, _, _, _, _, _⟩) (v := undef) rfl (by kernel_rfl) (by kernel_rfl) (by kernel_rfl) (fun _ _ _ h => h) (Or.inr ⟨by rfl, rfl⟩) (by assumption) ?_
 simp only [Act.put, List.setIfInBounds_toArray, List.set_cons_zero, List.set_cons_succ]
 refine wpAnyH_take (i := 5) (oi := ⟨some 11, _, _, _, _, _⟩) (v := undef) rfl (by kernel_rfl) (by kernel_rfl) (by kernel_rfl) (fun _ _ _ h => h) (Or.inr ⟨by rfl, rfl⟩) (by assumption) ?_
 simp only [Act.put, List.setIfInBounds_toArray, List.set_cons_zero, List.set_cons_succ]
 refine wpAnyH_take (i := 6) (oi := ⟨some 12, _, _, _, _, _⟩) (v := undef) rfl (by kernel_rfl) (by kernel_rfl) (by kernel_rfl) (fun _ _ _ h => h) (Or.inr ⟨by rfl, rfl⟩) (by assumption) ?_
 simp only [Act.put, List.setIfInBounds_toArray, List.set_cons_zero, List.set_cons_succ]
 refine wpAnyH_take (i := 7) (oi := ⟨some 13, _, _, _, _, _⟩) (v := ?v7) rfl (by kernel_rfl) (by kernel_rfl) (by kernel_rfl) (fun _ _ _ h => h) (Or.inl ⟨by rfl, ?hy7⟩) (by assumption) ?rest7
 case hy7 => (intro wq hSw; (try dsimp only at hSw); first | (go_simp; done) | (go_simp; with_reducible rfl))
 simp only [Act.put, List.setIfInBounds_toArray, List.set_cons_zero, List.set_cons_succ]
 refine wpAnyH_take (i := 8) (oi := ⟨some 2, _, _, _, _, _⟩) (v := ?v8) rfl (by kernel_rfl) (by kernel_rfl) (by kernel_rfl) (fun _ _ _ h => h) (Or.inl ⟨by rfl, ?hy8⟩) (by assumption) ?rest8
 case hy8 => (intro wq hSw; (try dsimp only at hSw); first | (go_simp; done) | (go_simp; with_reducible rfl))
 simp only [Act.put, List.setIfInBounds_toArray, List.set_cons_zero, List.set_cons_succ]
 refine wpAnyH_done (by kernel_rfl) ?_ _
 go_wp2
 go_ret
 refine ⟨?_, by rw [hD.out]; exact hB⟩
 rw [HN.out]
 rfl

set_option maxHeartbeats 4000000 in
set_option maxRecDepth 100000 in
theorem nodeOk_pair_yes (k a : Int) (p f : List UInt8) (b : Int) (w : World) (e : shOf (k, a, p, f) = .pair b) (hs : shOk (.pair b) = true) :
 Calls Tryz.prog 199 #[nodeVal (k, a, p, f)] w fun e w' => e = .returned (.bool (nodeB (k, a, p, f))) ∧ Below w.heap.size w w' := by
 have HN : Hid (nodeB (k, a, p, f) = (true && decide (shNode (.pair b) = (k, a, p, f)))) := by exact (by rw [node_sh, e, hs] : nodeB (k, a, p, f) = (true && decide (shNode (.pair b) = (k, a, p, f))))
 have HC := implShapeOf (k, a, p, f)
 rw [e] at HC
 have HC2 : Hid (_) := HC
 have HK : Hid (_) := fun W : World => implShapeOk (.pair b) W (fun _ _ _ e => by cases e)
 rw [hs] at HK
 have HV : Hid (_) := fun W : World => node_pair b W
 unfold nodeVal shNode at HV
 simp only at HV
 have hEq := nodes_eq
 clear HC hs e
 unfold nodeVal shVal at HC2
 unfold shVal at HK
 unfold nodeVal
 simp only at HC2 HK ⊢
 obtain ⟨W0, hW0⟩ : ∃ W0, w.alloc (.cells #[.int .i64 k, .int .i64 a, .string ⟨p.toArray⟩, .string ⟨f.toArray⟩] 117) = W0 := ⟨_, rfl⟩
 have st := NdAt.new w k a p f
 have hB : Below w.heap.size w W0 := by rw [← hW0]; exact (Below.refl _ w).alloc (Nat.le_refl _) _
 rw [hW0] at st
 obtain ⟨D, hD0⟩ : ∃ D, w.heap.size = D := ⟨_, rfl⟩
 rw [hD0] at st hB
 have hD : Hid (w.heap.size = D) := hD0
 have c0 := st.c0
 have c1 := st.c1
 have c2 := st.c2
 have c3 := st.c3
 go_enter Tryz.func199, Tryz.ntmps199
 go_wp2_with fail
 refine Calls.mono (HC2.out _) ?_
 rintro e wn ⟨rfl, hbn⟩
 replace hB := hB.trans (hbn.mono (Nat.le_trans (Nat.le_of_eq hD.out.symm) hB.size)); replace st := st.below hbn; replace c0 := st.c0; replace c1 := st.c1; replace c2 := st.c2; replace c3 := st.c3; clear hbn
 go_wp2_with fail
 replace st := st.drew
 replace hB := hB.drew
 go_region_held3 (fun w' => w'.cell? ⟨D, 0, none⟩ = some (.int .i64 k) ∧ w'.cell? ⟨D, 1, none⟩ = some (.int .i64 a) ∧ w'.cell? ⟨D, 2, none⟩ = some (.string ⟨p.toArray⟩) ∧ w'.cell? ⟨D, 3, none⟩ = some (.string ⟨f.toArray⟩)) (go_keep) (first | (go_at_call 202; refine Calls.mono (HK.out _) ?_; rintro e wn ⟨rfl, hbn⟩; replace hB := hB.trans (hbn.mono (Nat.le_trans (Nat.le_of_eq hD.out.symm) hB.size)); replace st := st.below hbn; replace c0 := st.c0; replace c1 := st.c1; replace c2 := st.c2; replace c3 := st.c3; clear hbn) | (go_at_call 246; refine Calls.mono (HV.out _) ?_; rintro e wn ⟨rfl, hbn⟩; replace hB := hB.trans (hbn.mono (Nat.le_trans (Nat.le_of_eq hD.out.symm) hB.size)); replace st := st.below hbn; replace c0 := st.c0; replace c1 := st.c1; replace c2 := st.c2; replace c3 := st.c3; clear hbn))
 go_wp2
 go_ret
 refine ⟨?_, by rw [hD.out]; exact hB⟩
 rw [HN.out]
 simp [shNode, @eq_comm (List UInt8) [] p, @eq_comm (List UInt8) [] f]

set_option maxHeartbeats 4000000 in
set_option maxRecDepth 100000 in
theorem nodeOk_cond_yes (k a : Int) (p f : List UInt8)  (w : World) (e : shOf (k, a, p, f) = .cond) (hs : shOk (.cond) = true) :
 Calls Tryz.prog 199 #[nodeVal (k, a, p, f)] w fun e w' => e = .returned (.bool (nodeB (k, a, p, f))) ∧ Below w.heap.size w w' := by
 have HN : Hid (nodeB (k, a, p, f) = (true && decide (shNode (.cond) = (k, a, p, f)))) := by exact (by rw [node_sh, e, hs] : nodeB (k, a, p, f) = (true && decide (shNode (.cond) = (k, a, p, f))))
 have HC := implShapeOf (k, a, p, f)
 rw [e] at HC
 have HC2 : Hid (_) := HC
 have HK : Hid (_) := fun W : World => implShapeOk (.cond) W (fun _ _ _ e => by cases e)
 rw [hs] at HK
 have HV : Hid (_) := fun W : World => node_cond  W
 unfold nodeVal shNode at HV
 simp only at HV
 have hEq := nodes_eq
 clear HC hs e
 unfold nodeVal shVal at HC2
 unfold shVal at HK
 unfold nodeVal
 simp only at HC2 HK ⊢
 obtain ⟨W0, hW0⟩ : ∃ W0, w.alloc (.cells #[.int .i64 k, .int .i64 a, .string ⟨p.toArray⟩, .string ⟨f.toArray⟩] 117) = W0 := ⟨_, rfl⟩
 have st := NdAt.new w k a p f
 have hB : Below w.heap.size w W0 := by rw [← hW0]; exact (Below.refl _ w).alloc (Nat.le_refl _) _
 rw [hW0] at st
 obtain ⟨D, hD0⟩ : ∃ D, w.heap.size = D := ⟨_, rfl⟩
 rw [hD0] at st hB
 have hD : Hid (w.heap.size = D) := hD0
 have c0 := st.c0
 have c1 := st.c1
 have c2 := st.c2
 have c3 := st.c3
 go_enter Tryz.func199, Tryz.ntmps199
 go_wp2_with fail
 refine Calls.mono (HC2.out _) ?_
 rintro e wn ⟨rfl, hbn⟩
 replace hB := hB.trans (hbn.mono (Nat.le_trans (Nat.le_of_eq hD.out.symm) hB.size)); replace st := st.below hbn; replace c0 := st.c0; replace c1 := st.c1; replace c2 := st.c2; replace c3 := st.c3; clear hbn
 go_wp2_with fail
 replace st := st.drew
 replace hB := hB.drew
 go_region_held3 (fun w' => w'.cell? ⟨D, 0, none⟩ = some (.int .i64 k) ∧ w'.cell? ⟨D, 1, none⟩ = some (.int .i64 a) ∧ w'.cell? ⟨D, 2, none⟩ = some (.string ⟨p.toArray⟩) ∧ w'.cell? ⟨D, 3, none⟩ = some (.string ⟨f.toArray⟩)) (go_keep) (first | (go_at_call 202; refine Calls.mono (HK.out _) ?_; rintro e wn ⟨rfl, hbn⟩; replace hB := hB.trans (hbn.mono (Nat.le_trans (Nat.le_of_eq hD.out.symm) hB.size)); replace st := st.below hbn; replace c0 := st.c0; replace c1 := st.c1; replace c2 := st.c2; replace c3 := st.c3; clear hbn) | (go_at_call 247; refine Calls.mono (HV.out _) ?_; rintro e wn ⟨rfl, hbn⟩; replace hB := hB.trans (hbn.mono (Nat.le_trans (Nat.le_of_eq hD.out.symm) hB.size)); replace st := st.below hbn; replace c0 := st.c0; replace c1 := st.c1; replace c2 := st.c2; replace c3 := st.c3; clear hbn))
 go_wp2
 go_ret
 refine ⟨?_, by rw [hD.out]; exact hB⟩
 rw [HN.out]
 simp [shNode, @eq_comm (List UInt8) [] p, @eq_comm (List UInt8) [] f]

set_option maxHeartbeats 4000000 in
set_option maxRecDepth 100000 in
theorem nodeOk_call_yes (k a : Int) (p f : List UInt8) (q : List UInt8) (g : List UInt8) (b : Int) (w : World) (e : shOf (k, a, p, f) = .call q g b) (hs : shOk (.call q g b) = true) (hq : q.length ≤ 1048576) (hg : g.length ≤ 1048576) :
 Calls Tryz.prog 199 #[nodeVal (k, a, p, f)] w fun e w' => e = .returned (.bool (nodeB (k, a, p, f))) ∧ Below w.heap.size w w' := by
 have HN : Hid (nodeB (k, a, p, f) = (true && decide (shNode (.call q g b) = (k, a, p, f)))) := by exact (by rw [node_sh, e, hs] : nodeB (k, a, p, f) = (true && decide (shNode (.call q g b) = (k, a, p, f))))
 have HC := implShapeOf (k, a, p, f)
 rw [e] at HC
 have HC2 : Hid (_) := HC
 have HK : Hid (_) := fun W : World => implShapeOk (.call q g b) W (fun _ _ _ e => by injection e with e1 e2; subst e1; subst e2; exact ⟨hq, hg⟩)
 rw [hs] at HK
 have HV : Hid (_) := fun W : World => node_call q g b W
 unfold nodeVal shNode at HV
 simp only at HV
 have hEq := nodes_eq
 clear HC hs e
 unfold nodeVal shVal at HC2
 unfold shVal at HK
 unfold nodeVal
 simp only at HC2 HK ⊢
 obtain ⟨W0, hW0⟩ : ∃ W0, w.alloc (.cells #[.int .i64 k, .int .i64 a, .string ⟨p.toArray⟩, .string ⟨f.toArray⟩] 117) = W0 := ⟨_, rfl⟩
 have st := NdAt.new w k a p f
 have hB : Below w.heap.size w W0 := by rw [← hW0]; exact (Below.refl _ w).alloc (Nat.le_refl _) _
 rw [hW0] at st
 obtain ⟨D, hD0⟩ : ∃ D, w.heap.size = D := ⟨_, rfl⟩
 rw [hD0] at st hB
 have hD : Hid (w.heap.size = D) := hD0
 have c0 := st.c0
 have c1 := st.c1
 have c2 := st.c2
 have c3 := st.c3
 go_enter Tryz.func199, Tryz.ntmps199
 go_wp2_with fail
 refine Calls.mono (HC2.out _) ?_
 rintro e wn ⟨rfl, hbn⟩
 replace hB := hB.trans (hbn.mono (Nat.le_trans (Nat.le_of_eq hD.out.symm) hB.size)); replace st := st.below hbn; replace c0 := st.c0; replace c1 := st.c1; replace c2 := st.c2; replace c3 := st.c3; clear hbn
 go_wp2_with fail
 replace st := st.drew
 replace hB := hB.drew
 go_region_held3 (fun w' => w'.cell? ⟨D, 0, none⟩ = some (.int .i64 k) ∧ w'.cell? ⟨D, 1, none⟩ = some (.int .i64 a) ∧ w'.cell? ⟨D, 2, none⟩ = some (.string ⟨p.toArray⟩) ∧ w'.cell? ⟨D, 3, none⟩ = some (.string ⟨f.toArray⟩)) (go_keep) (first | (go_at_call 202; refine Calls.mono (HK.out _) ?_; rintro e wn ⟨rfl, hbn⟩; replace hB := hB.trans (hbn.mono (Nat.le_trans (Nat.le_of_eq hD.out.symm) hB.size)); replace st := st.below hbn; replace c0 := st.c0; replace c1 := st.c1; replace c2 := st.c2; replace c3 := st.c3; clear hbn) | (go_at_call 248; refine Calls.mono (HV.out _) ?_; rintro e wn ⟨rfl, hbn⟩; replace hB := hB.trans (hbn.mono (Nat.le_trans (Nat.le_of_eq hD.out.symm) hB.size)); replace st := st.below hbn; replace c0 := st.c0; replace c1 := st.c1; replace c2 := st.c2; replace c3 := st.c3; clear hbn))
 go_wp2
 go_ret
 refine ⟨?_, by rw [hD.out]; exact hB⟩
 rw [HN.out]
 simp [shNode]

set_option maxHeartbeats 4000000 in
set_option maxRecDepth 100000 in
theorem nodeOk_call_no (k a : Int) (p f : List UInt8) (q : List UInt8) (g : List UInt8) (b : Int) (w : World) (e : shOf (k, a, p, f) = .call q g b) (hs : shOk (.call q g b) = false) (hq : q.length ≤ 1048576) (hg : g.length ≤ 1048576) :
 Calls Tryz.prog 199 #[nodeVal (k, a, p, f)] w fun e w' => e = .returned (.bool (nodeB (k, a, p, f))) ∧ Below w.heap.size w w' := by
 have HN : Hid (nodeB (k, a, p, f) = (false && decide (shNode (.call q g b) = (k, a, p, f)))) := by exact (by rw [node_sh, e, hs] : nodeB (k, a, p, f) = (false && decide (shNode (.call q g b) = (k, a, p, f))))
 have HC := implShapeOf (k, a, p, f)
 rw [e] at HC
 have HC2 : Hid (_) := HC
 have HK : Hid (_) := fun W : World => implShapeOk (.call q g b) W (fun _ _ _ e => by injection e with e1 e2; subst e1; subst e2; exact ⟨hq, hg⟩)
 rw [hs] at HK
 clear HC hs e
 unfold nodeVal shVal at HC2
 unfold shVal at HK
 unfold nodeVal
 simp only at HC2 HK ⊢
 obtain ⟨W0, hW0⟩ : ∃ W0, w.alloc (.cells #[.int .i64 k, .int .i64 a, .string ⟨p.toArray⟩, .string ⟨f.toArray⟩] 117) = W0 := ⟨_, rfl⟩
 have st := NdAt.new w k a p f
 have hB : Below w.heap.size w W0 := by rw [← hW0]; exact (Below.refl _ w).alloc (Nat.le_refl _) _
 rw [hW0] at st
 obtain ⟨D, hD0⟩ : ∃ D, w.heap.size = D := ⟨_, rfl⟩
 rw [hD0] at st hB
 have hD : Hid (w.heap.size = D) := hD0
 have c0 := st.c0
 have c1 := st.c1
 have c2 := st.c2
 have c3 := st.c3
 go_enter Tryz.func199, Tryz.ntmps199
 go_wp2_with fail
 refine Calls.mono (HC2.out _) ?_
 rintro e wn ⟨rfl, hbn⟩
 replace hB := hB.trans (hbn.mono (Nat.le_trans (Nat.le_of_eq hD.out.symm) hB.size)); replace st := st.below hbn; replace c0 := st.c0; replace c1 := st.c1; replace c2 := st.c2; replace c3 := st.c3; clear hbn
 go_wp2_with fail
 replace st := st.drew
 replace hB := hB.drew
 refine wp_region_held_drew (S := (fun _ => True)) (by kernel_rfl) ?_ (fun hHeld => ?_)
 ·
  exact True.intro
 refine wpAnyH_take (i := 0) (oi := ⟨some 6, _, _, _, _, _⟩) (v := ?v0) rfl (by kernel_rfl) (by kernel_rfl) (by kernel_rfl) (fun _ _ _ h => h) (Or.inl ⟨by rfl, ?hy0⟩) (by assumption) ?rest0
 case hy0 => (intro wq hSw; (try dsimp only at hSw); first | (go_simp; done) | (go_simp; with_reducible rfl))
 simp only [Act.put, List.setIfInBounds_toArray, List.set_cons_zero, List.set_cons_succ]
 refine wpAnyH_ready (rs := [1]) (by kernel_rfl) (by simp) ?_
 refine AllReadyH.cons rfl (fun K hK => ?_) AllReadyH.nil
 go_simp
 (go_at_call 202; refine Calls.mono (HK.out _) ?_; rintro e wn ⟨rfl, hbn⟩; replace hB := hB.trans (hbn.mono (Nat.le_trans (Nat.le_of_eq hD.out.symm) hB.size)); replace st := st.below hbn; replace c0 := st.c0; replace c1 := st.c1; replace c2 := st.c2; replace c3 := st.c3; clear hbn)
 refine hK.out _ _ ?_ (fun hHeld => ?_)
 ·
  exact True.intro
 clear hK K
 refine wpAnyH_take (i := 2) (oi := ⟨some 8, _, _, _, _, _⟩) (v := ?v2) rfl (by kernel_rfl) (by kernel_rfl) (by kernel_rfl) (fun _ _ _ h => h) (Or.inl ⟨by rfl, ?hy2⟩) (by assumption) ?rest2
 case hy2 => (intro wq hSw; (try dsimp only at hSw); first | (go_simp; done) | (go_simp; with_reducible rfl))
 simp only [Act.put, List.setIfInBounds_toArray, List.set_cons_zero, List.set_cons_succ]
 refine wpAnyH_take (i := 3) (oi := ⟨some 9, _, _, _, _, _⟩) (v := undef) rfl (by kernel_rfl) (by kernel_rfl) (by kernel_rfl) (fun _ _ _ h => h) (Or.inr ⟨by rfl, rfl⟩) (by assumption) ?_
 simp only [Act.put, List.setIfInBounds_toArray, List.set_cons_zero, List.set_cons_succ]
 refine wpAnyH_take (i := 4) (oi := ⟨some 10, _, _, _, _, _⟩) (v := undef) rfl (by kernel_rfl) (by kernel_rfl) (by kernel_rfl) (fun _ _ _ h => h) (Or.inr ⟨by rfl, rfl⟩) (by assumption) ?_
 simp only [Act.put, List.setIfInBounds_toArray, List.set_cons_zero, List.set_cons_succ]
 refine wpAnyH_take (i := 5) (oi := ⟨some 11, _, _, _, _, _⟩) (v := undef) rfl (by kernel_rfl) (by kernel_rfl) (by kernel_rfl) (fun _ _ _ h => h) (Or.inr ⟨by rfl, rfl⟩) (by assumption) ?_
 simp only [Act.put, List.setIfInBounds_toArray, List.set_cons_zero, List.set_cons_succ]
 refine wpAnyH_take (i := 6) (oi := ⟨some 12, _, _, _, _, _⟩) (v := undef) rfl (by kernel_rfl) (by kernel_rfl) (by kernel_rfl) (fun _ _ _ h => h) (Or.inr ⟨by rfl, rfl⟩) (by assumption) ?_
 simp only [Act.put, List.setIfInBounds_toArray, List.set_cons_zero, List.set_cons_succ]
 refine wpAnyH_take (i := 7) (oi := ⟨some 13, _, _, _, _, _⟩) (v := ?v7) rfl (by kernel_rfl) (by kernel_rfl) (by kernel_rfl) (fun _ _ _ h => h) (Or.inl ⟨by rfl, ?hy7⟩) (by assumption) ?rest7
 case hy7 => (intro wq hSw; (try dsimp only at hSw); first | (go_simp; done) | (go_simp; with_reducible rfl))
 simp only [Act.put, List.setIfInBounds_toArray, List.set_cons_zero, List.set_cons_succ]
 refine wpAnyH_take (i := 8) (oi := ⟨some 2, _, _, _, _, _⟩) (v := ?v8) rfl (by kernel_rfl) (by kernel_rfl) (by kernel_rfl) (fun _ _ _ h => h) (Or.inl ⟨by rfl, ?hy8⟩) (by assumption) ?rest8
 case hy8 => (intro wq hSw; (try dsimp only at hSw); first | (go_simp; done) | (go_simp; with_reducible rfl))
 simp only [Act.put, List.setIfInBounds_toArray, List.set_cons_zero, List.set_cons_succ]
 refine wpAnyH_done (by kernel_rfl) ?_ _
 go_wp2
 go_ret
 refine ⟨?_, by rw [hD.out]; exact hB⟩
 rw [HN.out]
 rfl

set_option maxHeartbeats 4000000 in
set_option maxRecDepth 100000 in
theorem nodeOk_no_no (k a : Int) (p f : List UInt8)  (w : World) (e : shOf (k, a, p, f) = .no) (hs : shOk (.no) = false) :
 Calls Tryz.prog 199 #[nodeVal (k, a, p, f)] w fun e w' => e = .returned (.bool (nodeB (k, a, p, f))) ∧ Below w.heap.size w w' := by
 have HN : Hid (nodeB (k, a, p, f) = (false && decide (shNode (.no) = (k, a, p, f)))) := by exact (by rw [node_sh, e, hs] : nodeB (k, a, p, f) = (false && decide (shNode (.no) = (k, a, p, f))))
 have HC := implShapeOf (k, a, p, f)
 rw [e] at HC
 have HC2 : Hid (_) := HC
 have HK : Hid (_) := fun W : World => implShapeOk (.no) W (fun _ _ _ e => by cases e)
 rw [hs] at HK
 clear HC hs e
 unfold nodeVal shVal at HC2
 unfold shVal at HK
 unfold nodeVal
 simp only at HC2 HK ⊢
 obtain ⟨W0, hW0⟩ : ∃ W0, w.alloc (.cells #[.int .i64 k, .int .i64 a, .string ⟨p.toArray⟩, .string ⟨f.toArray⟩] 117) = W0 := ⟨_, rfl⟩
 have st := NdAt.new w k a p f
 have hB : Below w.heap.size w W0 := by rw [← hW0]; exact (Below.refl _ w).alloc (Nat.le_refl _) _
 rw [hW0] at st
 obtain ⟨D, hD0⟩ : ∃ D, w.heap.size = D := ⟨_, rfl⟩
 rw [hD0] at st hB
 have hD : Hid (w.heap.size = D) := hD0
 have c0 := st.c0
 have c1 := st.c1
 have c2 := st.c2
 have c3 := st.c3
 go_enter Tryz.func199, Tryz.ntmps199
 go_wp2_with fail
 refine Calls.mono (HC2.out _) ?_
 rintro e wn ⟨rfl, hbn⟩
 replace hB := hB.trans (hbn.mono (Nat.le_trans (Nat.le_of_eq hD.out.symm) hB.size)); replace st := st.below hbn; replace c0 := st.c0; replace c1 := st.c1; replace c2 := st.c2; replace c3 := st.c3; clear hbn
 go_wp2_with fail
 replace st := st.drew
 replace hB := hB.drew
 refine wp_region_held_drew (S := (fun _ => True)) (by kernel_rfl) ?_ (fun hHeld => ?_)
 ·
  exact True.intro
 refine wpAnyH_take (i := 0) (oi := ⟨some 6, _, _, _, _, _⟩) (v := ?v0) rfl (by kernel_rfl) (by kernel_rfl) (by kernel_rfl) (fun _ _ _ h => h) (Or.inl ⟨by rfl, ?hy0⟩) (by assumption) ?rest0
 case hy0 => (intro wq hSw; (try dsimp only at hSw); first | (go_simp; done) | (go_simp; with_reducible rfl))
 simp only [Act.put, List.setIfInBounds_toArray, List.set_cons_zero, List.set_cons_succ]
 refine wpAnyH_ready (rs := [1]) (by kernel_rfl) (by simp) ?_
 refine AllReadyH.cons rfl (fun K hK => ?_) AllReadyH.nil
 go_simp
 (go_at_call 202; refine Calls.mono (HK.out _) ?_; rintro e wn ⟨rfl, hbn⟩; replace hB := hB.trans (hbn.mono (Nat.le_trans (Nat.le_of_eq hD.out.symm) hB.size)); replace st := st.below hbn; replace c0 := st.c0; replace c1 := st.c1; replace c2 := st.c2; replace c3 := st.c3; clear hbn)
 refine hK.out _ _ ?_ (fun hHeld => ?_)
 ·
  exact True.intro
 clear hK K
 refine wpAnyH_take (i := 2) (oi := ⟨some 8, _, _, _, _, _⟩) (v := ?v2) rfl (by kernel_rfl) (by kernel_rfl) (by kernel_rfl) (fun _ _ _ h => h) (Or.inl ⟨by rfl, ?hy2⟩) (by assumption) ?rest2
 case hy2 => (intro wq hSw; (try dsimp only at hSw); first | (go_simp; done) | (go_simp; with_reducible rfl))
 simp only [Act.put, List.setIfInBounds_toArray, List.set_cons_zero, List.set_cons_succ]
 refine wpAnyH_take (i := 3) (oi := ⟨some 9, _, _, _, _, _⟩) (v := undef) rfl (by kernel_rfl) (by kernel_rfl) (by kernel_rfl) (fun _ _ _ h => h) (Or.inr ⟨by rfl, rfl⟩) (by assumption) ?_
 simp only [Act.put, List.setIfInBounds_toArray, List.set_cons_zero, List.set_cons_succ]
 refine wpAnyH_take (i := 4) (oi := ⟨some 10, _, _, _, _, _⟩) (v := undef) rfl (by kernel_rfl) (by kernel_rfl) (by kernel_rfl) (fun _ _ _ h => h) (Or.inr ⟨by rfl, rfl⟩) (by assumption) ?_
 simp only [Act.put, List.setIfInBounds_toArray, List.set_cons_zero, List.set_cons_succ]
 refine wpAnyH_take (i := 5) (oi := ⟨some 11, _, _, _, _, _⟩) (v := undef) rfl (by kernel_rfl) (by kernel_rfl) (by kernel_rfl) (fun _ _ _ h => h) (Or.inr ⟨by rfl, rfl⟩) (by assumption) ?_
 simp only [Act.put, List.setIfInBounds_toArray, List.set_cons_zero, List.set_cons_succ]
 refine wpAnyH_take (i := 6) (oi := ⟨some 12, _, _, _, _, _⟩) (v := undef) rfl (by kernel_rfl) (by kernel_rfl) (by kernel_rfl) (fun _ _ _ h => h) (Or.inr ⟨by rfl, rfl⟩) (by assumption) ?_
 simp only [Act.put, List.setIfInBounds_toArray, List.set_cons_zero, List.set_cons_succ]
 refine wpAnyH_take (i := 7) (oi := ⟨some 13, _, _, _, _, _⟩) (v := ?v7) rfl (by kernel_rfl) (by kernel_rfl) (by kernel_rfl) (fun _ _ _ h => h) (Or.inl ⟨by rfl, ?hy7⟩) (by assumption) ?rest7
 case hy7 => (intro wq hSw; (try dsimp only at hSw); first | (go_simp; done) | (go_simp; with_reducible rfl))
 simp only [Act.put, List.setIfInBounds_toArray, List.set_cons_zero, List.set_cons_succ]
 refine wpAnyH_take (i := 8) (oi := ⟨some 2, _, _, _, _, _⟩) (v := ?v8) rfl (by kernel_rfl) (by kernel_rfl) (by kernel_rfl) (fun _ _ _ h => h) (Or.inl ⟨by rfl, ?hy8⟩) (by assumption) ?rest8
 case hy8 => (intro wq hSw; (try dsimp only at hSw); first | (go_simp; done) | (go_simp; with_reducible rfl))
 simp only [Act.put, List.setIfInBounds_toArray, List.set_cons_zero, List.set_cons_succ]
 refine wpAnyH_done (by kernel_rfl) ?_ _
 go_wp2
 go_ret
 refine ⟨?_, by rw [hD.out]; exact hB⟩
 rw [HN.out]
 rfl

end Go.Proofs.YtdoghjpjepolbaaGreatDoor
