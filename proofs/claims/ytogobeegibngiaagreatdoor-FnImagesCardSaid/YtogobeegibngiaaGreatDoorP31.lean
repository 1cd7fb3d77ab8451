/-
  Parts of one proof, one behind the other: StepC.
-/
import Derived.Test.YtogobeegibngiaaGreatDoorP30
import Derived.Test.YtogobeegibngiaaGreatDoorP20
import Derived.Deep.RegionHeld
import Derived.RegionTactic

/-! Contracts of chapter 13's landed code: one instruction looked over; InsOk, CodeOk, Registers. -/
namespace Go.Proofs.YtogobeegibngiaaGreatDoor
open Go.RowKit

/-- An instruction lies in block g, and a step in block s. -/
structure Ib (w X : World) (g : Nat) (i : In13) : Prop where
  c0 : X.cell? ⟨g, 0, none⟩ = some (.int .i64 i.1)
  c1 : X.cell? ⟨g, 1, none⟩ = some (.int .i64 i.2.1)
  c2 : X.cell? ⟨g, 2, none⟩ = some (.int .i64 i.2.2.1)
  c3 : X.cell? ⟨g, 3, none⟩ = some (.int .i64 i.2.2.2.1)
  c4 : X.cell? ⟨g, 4, none⟩ = some (.string ⟨i.2.2.2.2.toArray⟩)
  lo : w.heap.size ≤ g
  b : Below w.heap.size w X
section
variable {w X Y : World} {g : Nat} {i : In13}
theorem Ib.lt (s : Ib w X g i) : g < X.heap.size := World.block_lt_of_cell? X ⟨g, 0, none⟩ s.c0
theorem Ib.keep (s : Ib w X g i) (hb : Y.heap[g]? = X.heap[g]?) (hB : Below w.heap.size w Y) : Ib w Y g i :=
  ⟨(World.cell?_of_block (a := ⟨g, 0, none⟩) hb).trans s.c0, (World.cell?_of_block (a := ⟨g, 1, none⟩) hb).trans s.c1, (World.cell?_of_block (a := ⟨g, 2, none⟩) hb).trans s.c2, (World.cell?_of_block (a := ⟨g, 3, none⟩) hb).trans s.c3, (World.cell?_of_block (a := ⟨g, 4, none⟩) hb).trans s.c4, s.lo, hB⟩
theorem Ib.below (s : Ib w X g i) (hb : Below X.heap.size X Y) : Ib w Y g i := s.keep (hb.block g s.lt) (s.b.trans (hb.mono s.b.size))
theorem Ib.drew (s : Ib w X g i) : Ib w X.drew g i := s.below ⟨rfl, rfl, rfl, Nat.le_refl _, fun _ _ => rfl⟩
theorem Ib.new (w : World) (k R A B : Int) (nm : List UInt8) : Ib w (w.alloc (.cells #[.int .i64 k, .int .i64 R, .int .i64 A, .int .i64 B, .string ⟨nm.toArray⟩] 56)) w.heap.size (k, R, A, B, nm) := by
  have hA := heap_alloc_new w (.cells #[.int .i64 k, .int .i64 R, .int .i64 A, .int .i64 B, .string ⟨nm.toArray⟩] 56)
  have hB : Below w.heap.size w (w.alloc (.cells #[.int .i64 k, .int .i64 R, .int .i64 A, .int .i64 B, .string ⟨nm.toArray⟩] 56)) := (Below.refl _ _).alloc (Nat.le_refl _) _
  generalize w.alloc (.cells #[.int .i64 k, .int .i64 R, .int .i64 A, .int .i64 B, .string ⟨nm.toArray⟩] 56) = W at hA hB ⊢
  exact ⟨by simp [World.cell?, hA], by simp [World.cell?, hA], by simp [World.cell?, hA], by simp [World.cell?, hA], by simp [World.cell?, hA], Nat.le_refl _, hB⟩
end
/-- And its step. -/
structure Sb (w X : World) (g s : Nat) (i : In13) (f1 f2 f3 : Nat) : Prop where
  i : Ib w X g i
  s0 : X.cell? ⟨s, 0, none⟩ = some (.func (.func f1) #[] #[])
  s1 : X.cell? ⟨s, 1, none⟩ = some (.func (.func f2) #[] #[])
  s2 : X.cell? ⟨s, 2, none⟩ = some (.func (.func f3) #[] #[])
theorem Sb.below {w X Y : World} {g s : Nat} {i : In13} {f1 f2 f3 : Nat} (h : Sb w X g s i f1 f2 f3) (hb : Below X.heap.size X Y) : Sb w Y g s i f1 f2 f3 := by
  have hl : s < X.heap.size := World.block_lt_of_cell? X ⟨s, 0, none⟩ h.s0
  exact ⟨h.i.below hb, (hb.cell (p := ⟨s, 0, none⟩) hl).trans h.s0, (hb.cell (p := ⟨s, 1, none⟩) hl).trans h.s1, (hb.cell (p := ⟨s, 2, none⟩) hl).trans h.s2⟩
theorem Sb.drew {w X : World} {g s : Nat} {i : In13} {f1 f2 f3 : Nat} (h : Sb w X g s i f1 f2 f3) : Sb w X.drew g s i f1 f2 f3 := h.below ⟨rfl, rfl, rfl, Nat.le_refl _, fun _ _ => rfl⟩
section
variable {op : Oper} {a : Act} {w : World} {Q : Exit → Act → World → Prop} {K : Act → World → Prop}
theorem size84 : (Tryz.prog.info? 136).map (·.size) = some 3 := by kernel_rfl
theorem wp_alloc_st (ho : op.op = .alloc 136) (d : Nat) (hd : op.dst = some d) (h : ∀ Y g, Rb Y g 0 [.nilFunc, .nilFunc, .nilFunc] → Below w.heap.size w Y → w.heap.size ≤ g → K (a.put (some d) (.pointer (some ⟨g, 0, none⟩))) Y) : op.wp Tryz.prog a w K Q := by
  unfold Oper.wp execOp
  simp only [ho, Instr.alloc, Sem.run_bind, Tryz.zeroValue136, Result.andThen_ok, newVar, newRow, run_newObj_alloc, Sem.run_pure, Value.cells]
  have h2 := h _ _ (Rb.new w #[.nilFunc, .nilFunc, .nilFunc] 136) ((Below.refl _ _).alloc (Nat.le_refl _) _) (Nat.le_refl _)
  rw [← hd] at h2
  exact h2
theorem wp_store_st (x y : Operand) (ho : op.op = .store 136 x y) (b f1 f2 f3 : Nat) (hx : a.eval x = .pointer (some ⟨b, 0, none⟩)) (hy : a.eval y = .agg #[.func (.func f1) #[] #[], .func (.func f2) #[] #[], .func (.func f3) #[] #[]]) (ht : Rb w b 0 [.nilFunc, .nilFunc, .nilFunc])
    (h : ∀ Y, Rb Y b 0 [.func (.func f1) #[] #[], .func (.func f2) #[] #[], .func (.func f3) #[] #[]] → w.grownBy Y (some b) → K (a.put op.dst undef) Y) : op.wp Tryz.prog a w K Q := by
  refine wp_store_mid _ x y ho b 0 #[.func (.func f1) #[] #[], .func (.func f2) #[] #[], .func (.func f3) #[] #[]] hx hy ht.ok size84 (all_oneCell_toArray (by intro v hv; simp only [List.mem_cons, List.not_mem_nil, or_false] at hv; rcases hv with rfl | rfl | rfl <;> rfl)) ?_
  exact h _ (Rb.store (vs := [.func (.func f1) #[] #[], .func (.func f2) #[] #[], .func (.func f3) #[] #[]]) ht.ok ht.lt) (grown_setNv b _ 0 w)
end

set_option maxHeartbeats 8000000 in
set_option maxRecDepth 100000 in
theorem implIn (k R A B : Int) (nm : List UInt8) (f1 f2 f3 : Nat) (t : In13 → In13) (rs : In13 → List Int) (q : In13 → Int → Bool) (n : Int) (w : World) (hk : 1 ≤ k ∧ k ≤ 10)
    (hix : ∀ W, (Instr.index 137 (.agg tb) (.int .i64 k)).run Tryz.prog W = .ok (.agg #[.func (.func f1) #[] #[], .func (.func f2) #[] #[], .func (.func f3) #[] #[]]) W)
    (e1 : ∀ args w, (callFunc f1 args).run Tryz.prog w = .ok (.enter f1 args) w) (e2 : ∀ args w, (callFunc f2 args).run Tryz.prog w = .ok (.enter f2 args) w) (e3 : ∀ args w, (callFunc f3 args).run Tryz.prog w = .ok (.enter f3 args) w)
    (h1 : Tld f1 t) (h2 : Rgs f2 rs) (h3 : Rit f3 q) (hl : nm.length ≤ 1048576) (hr : (rs (k, R, A, B, nm)).length ≤ 1048576) :
    Calls Tryz.prog 82 #[insVal (k, R, A, B, nm), .int .i64 n] w fun e w' => e = .returned (.bool (decide (t (k, R, A, B, nm) = (k, R, A, B, nm)) && regB (rs (k, R, A, B, nm)) && q (k, R, A, B, nm) n)) ∧ Below w.heap.size w w' := by
  have st : Hid (_) := Ib.new w k R A B nm
  obtain ⟨W0, hW0⟩ : ∃ W0, w.alloc (.cells #[.int .i64 k, .int .i64 R, .int .i64 A, .int .i64 B, .string ⟨nm.toArray⟩] 56) = W0 := ⟨_, rfl⟩
  rw [hW0] at st
  have H1 : Hid (∀ X, Calls Tryz.prog f1 #[.agg #[.int .i64 k, .int .i64 R, .int .i64 A, .int .i64 B, .string ⟨nm.toArray⟩]] X fun e w' => e = .returned (insVal (t (k, R, A, B, nm))) ∧ Below X.heap.size X w') := fun X => h1 (k, R, A, B, nm) X
  have H2 : Hid (∀ X, Calls Tryz.prog f2 #[.agg #[.int .i64 k, .int .i64 R, .int .i64 A, .int .i64 B, .string ⟨nm.toArray⟩]] X fun e w' => ∃ a c, e = .returned (.slice a (rs (k, R, A, B, nm)).length c) ∧ AsIn w' a (rs (k, R, A, B, nm)) ∧ Below X.heap.size X w') := fun X => h2 (k, R, A, B, nm) X
  have H3 : Hid (∀ X, Calls Tryz.prog f3 #[.agg #[.int .i64 k, .int .i64 R, .int .i64 A, .int .i64 B, .string ⟨nm.toArray⟩], .int .i64 n] X fun e w' => e = .returned (.bool (q (k, R, A, B, nm) n)) ∧ Below X.heap.size X w') := fun X => h3 (k, R, A, B, nm) n X hl
  have hEq := ins_eq (t (k, R, A, B, nm)) (k, R, A, B, nm)
  have H4 : Hid (∀ X a c, AsIn X a (rs (k, R, A, B, nm)) → Calls Tryz.prog 101 #[.slice a (rs (k, R, A, B, nm)).length c] X fun e w' => e = .returned (.bool (regB (rs (k, R, A, B, nm)))) ∧ w' = X) := fun X a c h => implRegistersOk a _ c _ X rfl h hr
  generalize decide (t (k, R, A, B, nm) = (k, R, A, B, nm)) = d1 at hEq ⊢
  generalize t (k, R, A, B, nm) = ti at H1 hEq
  generalize regB (rs (k, R, A, B, nm)) = d2 at H4 ⊢
  generalize q (k, R, A, B, nm) n = d3 at H3 ⊢
  generalize rs (k, R, A, B, nm) = rl at H2 H4 hr
  obtain ⟨tk, tR, tA, tB, tn⟩ := ti
  unfold insVal at H1 hEq
  dsimp only at H1 hEq
  have HSt : Hid (∀ X, Calls Tryz.prog 100 #[] X fun e w' => e = .returned (.agg tb) ∧ Below X.heap.size X w') := fun X => implSteps X
  clear h1 h2 h3 hl t rs q
  obtain ⟨N, hN⟩ : ∃ N, w.heap.size = N := ⟨_, rfl⟩
  have HN : Hid (w.heap.size = N) := hN
  rw [hN] at st
  have hk1 := hk.1
  have hk2 := hk.2
  have c0 := st.out.c0
  dsimp only at c0
  unfold insVal
  dsimp only
  clear hk
  generalize tb = TB at hix HSt
  go_enter Tryz.func82, Tryz.ntmps82
  go_wp2
  clear hN c0
  refine wp_region_held_drew (S := fun X => Ib w X N (k, R, A, B, nm)) (by kernel_rfl) st.out.drew (fun hHeld => ?_)
  refine wpAnyH_take (i := 1) (oi := ⟨some 15, _, _, _, _, _⟩) (v := ?v1) rfl (by kernel_rfl) (by kernel_rfl) (by kernel_rfl) (fun _ _ _ h => h) (Or.inl ⟨by rfl, ?hy1⟩) (by assumption) ?rest1
  case hy1 => (intro wq hSw; have c0 := hSw.c0; dsimp only at c0; clear hSw; first | (go_simp; done) | (go_simp; with_reducible rfl))
  simp only [Act.put, List.setIfInBounds_toArray, List.set_cons_zero, List.set_cons_succ]
  refine wpAnyH_take (i := 2) (oi := ⟨some 16, _, _, _, _, _⟩) (v := ?v2) rfl (by kernel_rfl) (by kernel_rfl) (by kernel_rfl) (fun _ _ _ h => h) (Or.inl ⟨by rfl, ?hy2⟩) (by assumption) ?rest2
  case hy2 => (intro wq hSw; have c0 := hSw.c0; dsimp only at c0; clear hSw; first | (go_simp; done) | (go_simp; with_reducible rfl))
  simp only [Act.put, List.setIfInBounds_toArray, List.set_cons_zero, List.set_cons_succ]
  refine wpAnyH_ready (rs := [0, 4]) (by kernel_rfl) (by simp) ?_
  refine AllReadyH.cons rfl (fun K hK => ?_) (AllReadyH.cons rfl (fun K hK => ?_) AllReadyH.nil)
  ·
    go_simp
    refine Calls.mono (HSt.out _) ?_
    rintro e W1 ⟨rfl, hb1⟩
    dsimp only
    refine hK.out _ _ (by exact hHeld.below hb1) (fun hHeld => ?_)
    clear hK K
    (try simp only [Act.put, List.setIfInBounds_toArray, List.set_cons_zero, List.set_cons_succ])
    have hlN := hHeld.lt
    refine wpAnyH_take (i := 3) (oi := ⟨some 17, _, _, _, _, _⟩) (v := ?v3) rfl (by kernel_rfl) (by kernel_rfl) (by kernel_rfl) (fun _ _ _ h => h) (Or.inl ⟨by rfl, ?hy3⟩) (by assumption) ?rest3
    case hy3 => (intro wq hSw; clear hSw; first | (go_simp; done) | (go_simp; with_reducible rfl))
    simp only [Act.put, List.setIfInBounds_toArray, List.set_cons_zero, List.set_cons_succ]
    refine wpAnyH_ready (rs := [4]) (by kernel_rfl) (by simp) ?_
    refine AllReadyH.cons rfl (fun K hK => ?_) AllReadyH.nil
    refine step_of_wp rfl (wp_alloc_st rfl 5 rfl (fun Y2 gs hR2 hB2 hG2 => ?_))
    have hgs : N < gs := Nat.lt_of_lt_of_le hlN hG2
    refine hK.out _ _ (by exact hHeld.below hB2) (fun hHeld => ?_)
    clear hK K
    (try simp only [Act.put, List.setIfInBounds_toArray, List.set_cons_zero, List.set_cons_succ])
    refine wpAnyH_ready (rs := [5]) (by kernel_rfl) (by simp) ?_
    refine AllReadyH.cons rfl (fun K hK => ?_) AllReadyH.nil
    refine step_of_wp rfl (wp_store_st _ _ rfl gs f1 f2 f3 rfl rfl hR2 (fun Y3 hR3 hG3 => ?_))
    refine hK.out _ _ (by exact hHeld.keep (hG3.block N hHeld.lt (by simp; omega)) (hHeld.b.grown hG3 hHeld.b.size (fun q e => by injection e with e; have := HN.out; omega))) (fun hHeld => ?_)
    clear hK K
    (try simp only [Act.put])
    have sb : Hid (Sb w Y3 N gs (k, R, A, B, nm) f1 f2 f3) := ⟨hHeld, hR3.cell 0 _ rfl, hR3.cell 1 _ rfl, hR3.cell 2 _ rfl⟩
    refine wpAnyH_done (by kernel_rfl) ?_ _
    clear hHeld hR2 hR3 hG3 hgs hb1 hB2 hG2 hlN
    go_wp2
    refine wp_region_held_drew (S := fun X => Sb w X N gs (k, R, A, B, nm) f1 f2 f3) (by kernel_rfl) sb.out.drew (fun hHeld => ?_)
    refine wpAnyH_take (i := 0) (oi := ⟨some 18, _, _, _, _, _⟩) (v := ?v6) rfl (by kernel_rfl) (by kernel_rfl) (by kernel_rfl) (fun _ _ _ h => h) (Or.inl ⟨by rfl, ?hy6⟩) (by assumption) ?rest6
    case hy6 => (intro wq hSw; have s0 := hSw.s0; have s1 := hSw.s1; have s2 := hSw.s2; have c0 := hSw.i.c0; have c1 := hSw.i.c1; have c2 := hSw.i.c2; have c3 := hSw.i.c3; have c4 := hSw.i.c4; dsimp only at c0 c1 c2 c3 c4; clear hSw; first | (go_simp; done) | (go_simp; with_reducible rfl))
    simp only [Act.put, List.setIfInBounds_toArray, List.set_cons_zero, List.set_cons_succ]
    refine wpAnyH_take (i := 1) (oi := ⟨some 19, _, _, _, _, _⟩) (v := ?v7) rfl (by kernel_rfl) (by kernel_rfl) (by kernel_rfl) (fun _ _ _ h => h) (Or.inl ⟨by rfl, ?hy7⟩) (by assumption) ?rest7
    case hy7 => (intro wq hSw; have s0 := hSw.s0; have s1 := hSw.s1; have s2 := hSw.s2; have c0 := hSw.i.c0; have c1 := hSw.i.c1; have c2 := hSw.i.c2; have c3 := hSw.i.c3; have c4 := hSw.i.c4; dsimp only at c0 c1 c2 c3 c4; clear hSw; first | (go_simp; done) | (go_simp; with_reducible rfl))
    simp only [Act.put, List.setIfInBounds_toArray, List.set_cons_zero, List.set_cons_succ]
    refine wpAnyH_take (i := 2) (oi := ⟨some 20, _, _, _, _, _⟩) (v := ?v8) rfl (by kernel_rfl) (by kernel_rfl) (by kernel_rfl) (fun _ _ _ h => h) (Or.inl ⟨by rfl, ?hy8⟩) (by assumption) ?rest8
    case hy8 => (intro wq hSw; have s0 := hSw.s0; have s1 := hSw.s1; have s2 := hSw.s2; have c0 := hSw.i.c0; have c1 := hSw.i.c1; have c2 := hSw.i.c2; have c3 := hSw.i.c3; have c4 := hSw.i.c4; dsimp only at c0 c1 c2 c3 c4; clear hSw; first | (go_simp; done) | (go_simp; with_reducible rfl))
    simp only [Act.put, List.setIfInBounds_toArray, List.set_cons_zero, List.set_cons_succ]
    refine wpAnyH_take (i := 4) (oi := ⟨some 22, _, _, _, _, _⟩) (v := ?v9) rfl (by kernel_rfl) (by kernel_rfl) (by kernel_rfl) (fun _ _ _ h => h) (Or.inl ⟨by rfl, ?hy9⟩) (by assumption) ?rest9
    case hy9 => (intro wq hSw; have s0 := hSw.s0; have s1 := hSw.s1; have s2 := hSw.s2; have c0 := hSw.i.c0; have c1 := hSw.i.c1; have c2 := hSw.i.c2; have c3 := hSw.i.c3; have c4 := hSw.i.c4; dsimp only at c0 c1 c2 c3 c4; clear hSw; first | (go_simp; done) | (go_simp; with_reducible rfl))
    simp only [Act.put, List.setIfInBounds_toArray, List.set_cons_zero, List.set_cons_succ]
    refine wpAnyH_ready (rs := [3]) (by kernel_rfl) (by simp) ?_
    refine AllReadyH.cons rfl (fun K hK => ?_) AllReadyH.nil
    go_simp
    refine Calls.mono (H1.out _) ?_
    rintro e W4 ⟨rfl, hb4⟩
    dsimp only
    refine hK.out _ _ (by exact hHeld.below hb4) (fun hHeld => ?_)
    clear hK K
    (try simp only [Act.put, List.setIfInBounds_toArray, List.set_cons_zero, List.set_cons_succ])
    refine wpAnyH_take (i := 5) (oi := ⟨some 23, _, _, _, _, _⟩) (v := ?v10) rfl (by kernel_rfl) (by kernel_rfl) (by kernel_rfl) (fun _ _ _ h => h) (Or.inl ⟨by rfl, ?hy10⟩) (by assumption) ?rest10
    case hy10 => (intro wq hSw; clear hSw; first | (go_simp; done) | (go_simp; with_reducible rfl))
    simp only [Act.put, List.setIfInBounds_toArray, List.set_cons_zero, List.set_cons_succ]
    refine wpAnyH_take (i := 6) (oi := ⟨some 24, _, _, _, _, _⟩) (v := ?v11) rfl (by kernel_rfl) (by kernel_rfl) (by kernel_rfl) (fun _ _ _ h => h) (Or.inl ⟨by rfl, ?hy11⟩) (by assumption) ?rest11
    case hy11 => (intro wq hSw; clear hSw; first | (go_simp; done) | (go_simp; with_reducible rfl))
    simp only [Act.put, List.setIfInBounds_toArray, List.set_cons_zero, List.set_cons_succ]
    cases d1
    ·
      refine wpAnyH_take (i := 7) (oi := ⟨some 25, _, _, _, _, _⟩) (v := undef) rfl (by kernel_rfl) (by kernel_rfl) (by kernel_rfl) (fun _ _ _ h => h) (Or.inr ⟨by rfl, rfl⟩) (by assumption) ?_
      simp only [Act.put, List.setIfInBounds_toArray, List.set_cons_zero, List.set_cons_succ]
      refine wpAnyH_take (i := 8) (oi := ⟨some 26, _, _, _, _, _⟩) (v := undef) rfl (by kernel_rfl) (by kernel_rfl) (by kernel_rfl) (fun _ _ _ h => h) (Or.inr ⟨by rfl, rfl⟩) (by assumption) ?_
      simp only [Act.put, List.setIfInBounds_toArray, List.set_cons_zero, List.set_cons_succ]
      refine wpAnyH_take (i := 9) (oi := ⟨some 27, _, _, _, _, _⟩) (v := undef) rfl (by kernel_rfl) (by kernel_rfl) (by kernel_rfl) (fun _ _ _ h => h) (Or.inr ⟨by rfl, rfl⟩) (by assumption) ?_
      simp only [Act.put, List.setIfInBounds_toArray, List.set_cons_zero, List.set_cons_succ]
      refine wpAnyH_take (i := 10) (oi := ⟨some 28, _, _, _, _, _⟩) (v := undef) rfl (by kernel_rfl) (by kernel_rfl) (by kernel_rfl) (fun _ _ _ h => h) (Or.inr ⟨by rfl, rfl⟩) (by assumption) ?_
      simp only [Act.put, List.setIfInBounds_toArray, List.set_cons_zero, List.set_cons_succ]
      refine wpAnyH_take (i := 11) (oi := ⟨some 29, _, _, _, _, _⟩) (v := undef) rfl (by kernel_rfl) (by kernel_rfl) (by kernel_rfl) (fun _ _ _ h => h) (Or.inr ⟨by rfl, rfl⟩) (by assumption) ?_
      simp only [Act.put, List.setIfInBounds_toArray, List.set_cons_zero, List.set_cons_succ]
      refine wpAnyH_take (i := 12) (oi := ⟨some 30, _, _, _, _, _⟩) (v := ?v12) rfl (by kernel_rfl) (by kernel_rfl) (by kernel_rfl) (fun _ _ _ h => h) (Or.inl ⟨by rfl, ?hy12⟩) (by assumption) ?rest12
      case hy12 => (intro wq hSw; clear hSw; first | (go_simp; done) | (go_simp; with_reducible rfl))
      simp only [Act.put, List.setIfInBounds_toArray, List.set_cons_zero, List.set_cons_succ]
      refine wpAnyH_take (i := 13) (oi := ⟨some 31, _, _, _, _, _⟩) (v := ?v13) rfl (by kernel_rfl) (by kernel_rfl) (by kernel_rfl) (fun _ _ _ h => h) (Or.inl ⟨by rfl, ?hy13⟩) (by assumption) ?rest13
      case hy13 => (intro wq hSw; clear hSw; first | (go_simp; done) | (go_simp; with_reducible rfl))
      simp only [Act.put, List.setIfInBounds_toArray, List.set_cons_zero, List.set_cons_succ]
      refine wpAnyH_take (i := 14) (oi := ⟨some 32, _, _, _, _, _⟩) (v := undef) rfl (by kernel_rfl) (by kernel_rfl) (by kernel_rfl) (fun _ _ _ h => h) (Or.inr ⟨by rfl, rfl⟩) (by assumption) ?_
      simp only [Act.put, List.setIfInBounds_toArray, List.set_cons_zero, List.set_cons_succ]
      refine wpAnyH_take (i := 15) (oi := ⟨some 33, _, _, _, _, _⟩) (v := undef) rfl (by kernel_rfl) (by kernel_rfl) (by kernel_rfl) (fun _ _ _ h => h) (Or.inr ⟨by rfl, rfl⟩) (by assumption) ?_
      simp only [Act.put, List.setIfInBounds_toArray, List.set_cons_zero, List.set_cons_succ]
      refine wpAnyH_take (i := 16) (oi := ⟨some 34, _, _, _, _, _⟩) (v := undef) rfl (by kernel_rfl) (by kernel_rfl) (by kernel_rfl) (fun _ _ _ h => h) (Or.inr ⟨by rfl, rfl⟩) (by assumption) ?_
      simp only [Act.put, List.setIfInBounds_toArray, List.set_cons_zero, List.set_cons_succ]
      refine wpAnyH_take (i := 17) (oi := ⟨some 35, _, _, _, _, _⟩) (v := undef) rfl (by kernel_rfl) (by kernel_rfl) (by kernel_rfl) (fun _ _ _ h => h) (Or.inr ⟨by rfl, rfl⟩) (by assumption) ?_
      simp only [Act.put, List.setIfInBounds_toArray, List.set_cons_zero, List.set_cons_succ]
      refine wpAnyH_take (i := 18) (oi := ⟨some 36, _, _, _, _, _⟩) (v := undef) rfl (by kernel_rfl) (by kernel_rfl) (by kernel_rfl) (fun _ _ _ h => h) (Or.inr ⟨by rfl, rfl⟩) (by assumption) ?_
      simp only [Act.put, List.setIfInBounds_toArray, List.set_cons_zero, List.set_cons_succ]
      refine wpAnyH_take (i := 19) (oi := ⟨some 37, _, _, _, _, _⟩) (v := ?v14) rfl (by kernel_rfl) (by kernel_rfl) (by kernel_rfl) (fun _ _ _ h => h) (Or.inl ⟨by rfl, ?hy14⟩) (by assumption) ?rest14
      case hy14 => (intro wq hSw; clear hSw; first | (go_simp; done) | (go_simp; with_reducible rfl))
      simp only [Act.put, List.setIfInBounds_toArray, List.set_cons_zero, List.set_cons_succ]
      refine wpAnyH_take (i := 20) (oi := ⟨some 4, _, _, _, _, _⟩) (v := ?v15) rfl (by kernel_rfl) (by kernel_rfl) (by kernel_rfl) (fun _ _ _ h => h) (Or.inl ⟨by rfl, ?hy15⟩) (by assumption) ?rest15
      case hy15 => (intro wq hSw; clear hSw; first | (go_simp; done) | (go_simp; with_reducible rfl))
      simp only [Act.put, List.setIfInBounds_toArray, List.set_cons_zero, List.set_cons_succ]
      have HBF : Hid (Below w.heap.size w _) := hHeld.i.b
      refine wpAnyH_done (by kernel_rfl) ?_ _
      clear hHeld sb st H1 H2 H3 H4 HSt hEq hix
      go_wp2
      go_ret
      exact ⟨rfl, HBF.out⟩
    ·
      refine wpAnyH_take (i := 7) (oi := ⟨some 25, _, _, _, _, _⟩) (v := ?v16) rfl (by kernel_rfl) (by kernel_rfl) (by kernel_rfl) (fun _ _ _ h => h) (Or.inl ⟨by rfl, ?hy16⟩) (by assumption) ?rest16
      case hy16 => (intro wq hSw; have s0 := hSw.s0; have s1 := hSw.s1; have s2 := hSw.s2; have c0 := hSw.i.c0; have c1 := hSw.i.c1; have c2 := hSw.i.c2; have c3 := hSw.i.c3; have c4 := hSw.i.c4; dsimp only at c0 c1 c2 c3 c4; clear hSw; first | (go_simp; done) | (go_simp; with_reducible rfl))
      simp only [Act.put, List.setIfInBounds_toArray, List.set_cons_zero, List.set_cons_succ]
      refine wpAnyH_take (i := 8) (oi := ⟨some 26, _, _, _, _, _⟩) (v := ?v17) rfl (by kernel_rfl) (by kernel_rfl) (by kernel_rfl) (fun _ _ _ h => h) (Or.inl ⟨by rfl, ?hy17⟩) (by assumption) ?rest17
      case hy17 => (intro wq hSw; have s0 := hSw.s0; have s1 := hSw.s1; have s2 := hSw.s2; have c0 := hSw.i.c0; have c1 := hSw.i.c1; have c2 := hSw.i.c2; have c3 := hSw.i.c3; have c4 := hSw.i.c4; dsimp only at c0 c1 c2 c3 c4; clear hSw; first | (go_simp; done) | (go_simp; with_reducible rfl))
      simp only [Act.put, List.setIfInBounds_toArray, List.set_cons_zero, List.set_cons_succ]
      refine wpAnyH_take (i := 9) (oi := ⟨some 27, _, _, _, _, _⟩) (v := ?v18) rfl (by kernel_rfl) (by kernel_rfl) (by kernel_rfl) (fun _ _ _ h => h) (Or.inl ⟨by rfl, ?hy18⟩) (by assumption) ?rest18
      case hy18 => (intro wq hSw; have s0 := hSw.s0; have s1 := hSw.s1; have s2 := hSw.s2; have c0 := hSw.i.c0; have c1 := hSw.i.c1; have c2 := hSw.i.c2; have c3 := hSw.i.c3; have c4 := hSw.i.c4; dsimp only at c0 c1 c2 c3 c4; clear hSw; first | (go_simp; done) | (go_simp; with_reducible rfl))
      simp only [Act.put, List.setIfInBounds_toArray, List.set_cons_zero, List.set_cons_succ]
      refine wpAnyH_ready (rs := [10]) (by kernel_rfl) (by simp) ?_
      refine AllReadyH.cons rfl (fun K hK => ?_) AllReadyH.nil
      go_simp
      refine Calls.mono (H2.out _) ?_
      rintro e W5 ⟨ra, rc, rfl, hA5, hb5⟩
      dsimp only
      refine hK.out _ _ (by exact hHeld.below hb5) (fun hHeld => ?_)
      clear hK K
      (try simp only [Act.put, List.setIfInBounds_toArray, List.set_cons_zero, List.set_cons_succ])
      refine wpAnyH_ready (rs := [11]) (by kernel_rfl) (by simp) ?_
      refine AllReadyH.cons rfl (fun K hK => ?_) AllReadyH.nil
      go_simp
      refine Calls.mono (H4.out _ _ _ hA5) ?_
      rintro e W6 ⟨rfl, rfl⟩
      dsimp only
      refine hK.out _ _ (by exact hHeld) (fun hHeld => ?_)
      clear hK K
      (try simp only [Act.put, List.setIfInBounds_toArray, List.set_cons_zero, List.set_cons_succ])
      refine wpAnyH_take (i := 12) (oi := ⟨some 30, _, _, _, _, _⟩) (v := ?v19) rfl (by kernel_rfl) (by kernel_rfl) (by kernel_rfl) (fun _ _ _ h => h) (Or.inl ⟨by rfl, ?hy19⟩) (by assumption) ?rest19
      case hy19 => (intro wq hSw; clear hSw; first | (go_simp; done) | (go_simp; with_reducible rfl))
      simp only [Act.put, List.setIfInBounds_toArray, List.set_cons_zero, List.set_cons_succ]
      refine wpAnyH_take (i := 13) (oi := ⟨some 31, _, _, _, _, _⟩) (v := ?v20) rfl (by kernel_rfl) (by kernel_rfl) (by kernel_rfl) (fun _ _ _ h => h) (Or.inl ⟨by rfl, ?hy20⟩) (by assumption) ?rest20
      case hy20 => (intro wq hSw; clear hSw; first | (go_simp; done) | (go_simp; with_reducible rfl))
      simp only [Act.put, List.setIfInBounds_toArray, List.set_cons_zero, List.set_cons_succ]
      cases d2
      ·
        refine wpAnyH_take (i := 14) (oi := ⟨some 32, _, _, _, _, _⟩) (v := undef) rfl (by kernel_rfl) (by kernel_rfl) (by kernel_rfl) (fun _ _ _ h => h) (Or.inr ⟨by rfl, rfl⟩) (by assumption) ?_
        simp only [Act.put, List.setIfInBounds_toArray, List.set_cons_zero, List.set_cons_succ]
        refine wpAnyH_take (i := 15) (oi := ⟨some 33, _, _, _, _, _⟩) (v := undef) rfl (by kernel_rfl) (by kernel_rfl) (by kernel_rfl) (fun _ _ _ h => h) (Or.inr ⟨by rfl, rfl⟩) (by assumption) ?_
        simp only [Act.put, List.setIfInBounds_toArray, List.set_cons_zero, List.set_cons_succ]
        refine wpAnyH_take (i := 16) (oi := ⟨some 34, _, _, _, _, _⟩) (v := undef) rfl (by kernel_rfl) (by kernel_rfl) (by kernel_rfl) (fun _ _ _ h => h) (Or.inr ⟨by rfl, rfl⟩) (by assumption) ?_
        simp only [Act.put, List.setIfInBounds_toArray, List.set_cons_zero, List.set_cons_succ]
        refine wpAnyH_take (i := 17) (oi := ⟨some 35, _, _, _, _, _⟩) (v := undef) rfl (by kernel_rfl) (by kernel_rfl) (by kernel_rfl) (fun _ _ _ h => h) (Or.inr ⟨by rfl, rfl⟩) (by assumption) ?_
        simp only [Act.put, List.setIfInBounds_toArray, List.set_cons_zero, List.set_cons_succ]
        refine wpAnyH_take (i := 18) (oi := ⟨some 36, _, _, _, _, _⟩) (v := undef) rfl (by kernel_rfl) (by kernel_rfl) (by kernel_rfl) (fun _ _ _ h => h) (Or.inr ⟨by rfl, rfl⟩) (by assumption) ?_
        simp only [Act.put, List.setIfInBounds_toArray, List.set_cons_zero, List.set_cons_succ]
        refine wpAnyH_take (i := 19) (oi := ⟨some 37, _, _, _, _, _⟩) (v := ?v21) rfl (by kernel_rfl) (by kernel_rfl) (by kernel_rfl) (fun _ _ _ h => h) (Or.inl ⟨by rfl, ?hy21⟩) (by assumption) ?rest21
        case hy21 => (intro wq hSw; clear hSw; first | (go_simp; done) | (go_simp; with_reducible rfl))
        simp only [Act.put, List.setIfInBounds_toArray, List.set_cons_zero, List.set_cons_succ]
        refine wpAnyH_take (i := 20) (oi := ⟨some 4, _, _, _, _, _⟩) (v := ?v22) rfl (by kernel_rfl) (by kernel_rfl) (by kernel_rfl) (fun _ _ _ h => h) (Or.inl ⟨by rfl, ?hy22⟩) (by assumption) ?rest22
        case hy22 => (intro wq hSw; clear hSw; first | (go_simp; done) | (go_simp; with_reducible rfl))
        simp only [Act.put, List.setIfInBounds_toArray, List.set_cons_zero, List.set_cons_succ]
        have HBF : Hid (Below w.heap.size w _) := hHeld.i.b
        refine wpAnyH_done (by kernel_rfl) ?_ _
        clear hHeld sb st H1 H2 H3 H4 HSt hEq hix
        go_wp2
        go_ret
        exact ⟨rfl, HBF.out⟩
      ·
        refine wpAnyH_take (i := 14) (oi := ⟨some 32, _, _, _, _, _⟩) (v := ?v23) rfl (by kernel_rfl) (by kernel_rfl) (by kernel_rfl) (fun _ _ _ h => h) (Or.inl ⟨by rfl, ?hy23⟩) (by assumption) ?rest23
        case hy23 => (intro wq hSw; have s0 := hSw.s0; have s1 := hSw.s1; have s2 := hSw.s2; have c0 := hSw.i.c0; have c1 := hSw.i.c1; have c2 := hSw.i.c2; have c3 := hSw.i.c3; have c4 := hSw.i.c4; dsimp only at c0 c1 c2 c3 c4; clear hSw; first | (go_simp; done) | (go_simp; with_reducible rfl))
        simp only [Act.put, List.setIfInBounds_toArray, List.set_cons_zero, List.set_cons_succ]
        refine wpAnyH_take (i := 15) (oi := ⟨some 33, _, _, _, _, _⟩) (v := ?v24) rfl (by kernel_rfl) (by kernel_rfl) (by kernel_rfl) (fun _ _ _ h => h) (Or.inl ⟨by rfl, ?hy24⟩) (by assumption) ?rest24
        case hy24 => (intro wq hSw; have s0 := hSw.s0; have s1 := hSw.s1; have s2 := hSw.s2; have c0 := hSw.i.c0; have c1 := hSw.i.c1; have c2 := hSw.i.c2; have c3 := hSw.i.c3; have c4 := hSw.i.c4; dsimp only at c0 c1 c2 c3 c4; clear hSw; first | (go_simp; done) | (go_simp; with_reducible rfl))
        simp only [Act.put, List.setIfInBounds_toArray, List.set_cons_zero, List.set_cons_succ]
        refine wpAnyH_take (i := 16) (oi := ⟨some 34, _, _, _, _, _⟩) (v := ?v25) rfl (by kernel_rfl) (by kernel_rfl) (by kernel_rfl) (fun _ _ _ h => h) (Or.inl ⟨by rfl, ?hy25⟩) (by assumption) ?rest25
        case hy25 => (intro wq hSw; have s0 := hSw.s0; have s1 := hSw.s1; have s2 := hSw.s2; have c0 := hSw.i.c0; have c1 := hSw.i.c1; have c2 := hSw.i.c2; have c3 := hSw.i.c3; have c4 := hSw.i.c4; dsimp only at c0 c1 c2 c3 c4; clear hSw; first | (go_simp; done) | (go_simp; with_reducible rfl))
        simp only [Act.put, List.setIfInBounds_toArray, List.set_cons_zero, List.set_cons_succ]
        refine wpAnyH_take (i := 17) (oi := ⟨some 35, _, _, _, _, _⟩) (v := ?v26) rfl (by kernel_rfl) (by kernel_rfl) (by kernel_rfl) (fun _ _ _ h => h) (Or.inl ⟨by rfl, ?hy26⟩) (by assumption) ?rest26
        case hy26 => (intro wq hSw; have s0 := hSw.s0; have s1 := hSw.s1; have s2 := hSw.s2; have c0 := hSw.i.c0; have c1 := hSw.i.c1; have c2 := hSw.i.c2; have c3 := hSw.i.c3; have c4 := hSw.i.c4; dsimp only at c0 c1 c2 c3 c4; clear hSw; first | (go_simp; done) | (go_simp; with_reducible rfl))
        simp only [Act.put, List.setIfInBounds_toArray, List.set_cons_zero, List.set_cons_succ]
        refine wpAnyH_ready (rs := [18]) (by kernel_rfl) (by simp) ?_
        refine AllReadyH.cons rfl (fun K hK => ?_) AllReadyH.nil
        go_simp
        refine Calls.mono (H3.out _) ?_
        rintro e W7 ⟨rfl, hb7⟩
        dsimp only
        refine hK.out _ _ (by exact hHeld.below hb7) (fun hHeld => ?_)
        clear hK K
        (try simp only [Act.put, List.setIfInBounds_toArray, List.set_cons_zero, List.set_cons_succ])
        refine wpAnyH_take (i := 19) (oi := ⟨some 37, _, _, _, _, _⟩) (v := ?v27) rfl (by kernel_rfl) (by kernel_rfl) (by kernel_rfl) (fun _ _ _ h => h) (Or.inl ⟨by rfl, ?hy27⟩) (by assumption) ?rest27
        case hy27 => (intro wq hSw; clear hSw; first | (go_simp; done) | (go_simp; with_reducible rfl))
        simp only [Act.put, List.setIfInBounds_toArray, List.set_cons_zero, List.set_cons_succ]
        refine wpAnyH_take (i := 20) (oi := ⟨some 4, _, _, _, _, _⟩) (v := ?v28) rfl (by kernel_rfl) (by kernel_rfl) (by kernel_rfl) (fun _ _ _ h => h) (Or.inl ⟨by rfl, ?hy28⟩) (by assumption) ?rest28
        case hy28 => (intro wq hSw; clear hSw; first | (go_simp; done) | (go_simp; with_reducible rfl))
        simp only [Act.put, List.setIfInBounds_toArray, List.set_cons_zero, List.set_cons_succ]
        have HBF : Hid (Below w.heap.size w _) := hHeld.i.b
        refine wpAnyH_done (by kernel_rfl) ?_ _
        clear hHeld sb st H1 H2 H3 H4 HSt hEq hix
        go_wp2
        go_ret
        exact ⟨rfl, HBF.out⟩
  ·
    have hlN := hHeld.lt
    refine step_of_wp rfl (wp_alloc_st rfl 5 rfl (fun Y2 gs hR2 hB2 hG2 => ?_))
    have hgs : N < gs := Nat.lt_of_lt_of_le hlN hG2
    refine hK.out _ _ (by exact hHeld.below hB2) (fun hHeld => ?_)
    clear hK K
    (try simp only [Act.put, List.setIfInBounds_toArray, List.set_cons_zero, List.set_cons_succ])
    refine wpAnyH_ready (rs := [0]) (by kernel_rfl) (by simp) ?_
    refine AllReadyH.cons rfl (fun K hK => ?_) AllReadyH.nil
    go_simp
    refine Calls.mono (HSt.out _) ?_
    rintro e W1 ⟨rfl, hb1⟩
    dsimp only
    replace hR2 := hR2.below hb1
    refine hK.out _ _ (by exact hHeld.below hb1) (fun hHeld => ?_)
    clear hK K
    (try simp only [Act.put, List.setIfInBounds_toArray, List.set_cons_zero, List.set_cons_succ])
    refine wpAnyH_take (i := 3) (oi := ⟨some 17, _, _, _, _, _⟩) (v := ?v5) rfl (by kernel_rfl) (by kernel_rfl) (by kernel_rfl) (fun _ _ _ h => h) (Or.inl ⟨by rfl, ?hy5⟩) (by assumption) ?rest5
    case hy5 => (intro wq hSw; clear hSw; first | (go_simp; done) | (go_simp; with_reducible rfl))
    simp only [Act.put, List.setIfInBounds_toArray, List.set_cons_zero, List.set_cons_succ]
    refine wpAnyH_ready (rs := [5]) (by kernel_rfl) (by simp) ?_
    refine AllReadyH.cons rfl (fun K hK => ?_) AllReadyH.nil
    refine step_of_wp rfl (wp_store_st _ _ rfl gs f1 f2 f3 rfl rfl hR2 (fun Y3 hR3 hG3 => ?_))
    refine hK.out _ _ (by exact hHeld.keep (hG3.block N hHeld.lt (by simp; omega)) (hHeld.b.grown hG3 hHeld.b.size (fun q e => by injection e with e; have := HN.out; omega))) (fun hHeld => ?_)
    clear hK K
    (try simp only [Act.put])
    have sb : Hid (Sb w Y3 N gs (k, R, A, B, nm) f1 f2 f3) := ⟨hHeld, hR3.cell 0 _ rfl, hR3.cell 1 _ rfl, hR3.cell 2 _ rfl⟩
    refine wpAnyH_done (by kernel_rfl) ?_ _
    clear hHeld hR2 hR3 hG3 hgs hb1 hB2 hG2 hlN
    go_wp2
    refine wp_region_held_drew (S := fun X => Sb w X N gs (k, R, A, B, nm) f1 f2 f3) (by kernel_rfl) sb.out.drew (fun hHeld => ?_)
    refine wpAnyH_take (i := 0) (oi := ⟨some 18, _, _, _, _, _⟩) (v := ?v29) rfl (by kernel_rfl) (by kernel_rfl) (by kernel_rfl) (fun _ _ _ h => h) (Or.inl ⟨by rfl, ?hy29⟩) (by assumption) ?rest29
    case hy29 => (intro wq hSw; have s0 := hSw.s0; have s1 := hSw.s1; have s2 := hSw.s2; have c0 := hSw.i.c0; have c1 := hSw.i.c1; have c2 := hSw.i.c2; have c3 := hSw.i.c3; have c4 := hSw.i.c4; dsimp only at c0 c1 c2 c3 c4; clear hSw; first | (go_simp; done) | (go_simp; with_reducible rfl))
    simp only [Act.put, List.setIfInBounds_toArray, List.set_cons_zero, List.set_cons_succ]
    refine wpAnyH_take (i := 1) (oi := ⟨some 19, _, _, _, _, _⟩) (v := ?v30) rfl (by kernel_rfl) (by kernel_rfl) (by kernel_rfl) (fun _ _ _ h => h) (Or.inl ⟨by rfl, ?hy30⟩) (by assumption) ?rest30
    case hy30 => (intro wq hSw; have s0 := hSw.s0; have s1 := hSw.s1; have s2 := hSw.s2; have c0 := hSw.i.c0; have c1 := hSw.i.c1; have c2 := hSw.i.c2; have c3 := hSw.i.c3; have c4 := hSw.i.c4; dsimp only at c0 c1 c2 c3 c4; clear hSw; first | (go_simp; done) | (go_simp; with_reducible rfl))
    simp only [Act.put, List.setIfInBounds_toArray, List.set_cons_zero, List.set_cons_succ]
    refine wpAnyH_take (i := 2) (oi := ⟨some 20, _, _, _, _, _⟩) (v := ?v31) rfl (by kernel_rfl) (by kernel_rfl) (by kernel_rfl) (fun _ _ _ h => h) (Or.inl ⟨by rfl, ?hy31⟩) (by assumption) ?rest31
    case hy31 => (intro wq hSw; have s0 := hSw.s0; have s1 := hSw.s1; have s2 := hSw.s2; have c0 := hSw.i.c0; have c1 := hSw.i.c1; have c2 := hSw.i.c2; have c3 := hSw.i.c3; have c4 := hSw.i.c4; dsimp only at c0 c1 c2 c3 c4; clear hSw; first | (go_simp; done) | (go_simp; with_reducible rfl))
    simp only [Act.put, List.setIfInBounds_toArray, List.set_cons_zero, List.set_cons_succ]
    refine wpAnyH_take (i := 4) (oi := ⟨some 22, _, _, _, _, _⟩) (v := ?v32) rfl (by kernel_rfl) (by kernel_rfl) (by kernel_rfl) (fun _ _ _ h => h) (Or.inl ⟨by rfl, ?hy32⟩) (by assumption) ?rest32
    case hy32 => (intro wq hSw; have s0 := hSw.s0; have s1 := hSw.s1; have s2 := hSw.s2; have c0 := hSw.i.c0; have c1 := hSw.i.c1; have c2 := hSw.i.c2; have c3 := hSw.i.c3; have c4 := hSw.i.c4; dsimp only at c0 c1 c2 c3 c4; clear hSw; first | (go_simp; done) | (go_simp; with_reducible rfl))
    simp only [Act.put, List.setIfInBounds_toArray, List.set_cons_zero, List.set_cons_succ]
    refine wpAnyH_ready (rs := [3]) (by kernel_rfl) (by simp) ?_
    refine AllReadyH.cons rfl (fun K hK => ?_) AllReadyH.nil
    go_simp
    refine Calls.mono (H1.out _) ?_
    rintro e W4 ⟨rfl, hb4⟩
    dsimp only
    refine hK.out _ _ (by exact hHeld.below hb4) (fun hHeld => ?_)
    clear hK K
    (try simp only [Act.put, List.setIfInBounds_toArray, List.set_cons_zero, List.set_cons_succ])
    refine wpAnyH_take (i := 5) (oi := ⟨some 23, _, _, _, _, _⟩) (v := ?v33) rfl (by kernel_rfl) (by kernel_rfl) (by kernel_rfl) (fun _ _ _ h => h) (Or.inl ⟨by rfl, ?hy33⟩) (by assumption) ?rest33
    case hy33 => (intro wq hSw; clear hSw; first | (go_simp; done) | (go_simp; with_reducible rfl))
    simp only [Act.put, List.setIfInBounds_toArray, List.set_cons_zero, List.set_cons_succ]
    refine wpAnyH_take (i := 6) (oi := ⟨some 24, _, _, _, _, _⟩) (v := ?v34) rfl (by kernel_rfl) (by kernel_rfl) (by kernel_rfl) (fun _ _ _ h => h) (Or.inl ⟨by rfl, ?hy34⟩) (by assumption) ?rest34
    case hy34 => (intro wq hSw; clear hSw; first | (go_simp; done) | (go_simp; with_reducible rfl))
    simp only [Act.put, List.setIfInBounds_toArray, List.set_cons_zero, List.set_cons_succ]
    cases d1
    ·
      refine wpAnyH_take (i := 7) (oi := ⟨some 25, _, _, _, _, _⟩) (v := undef) rfl (by kernel_rfl) (by kernel_rfl) (by kernel_rfl) (fun _ _ _ h => h) (Or.inr ⟨by rfl, rfl⟩) (by assumption) ?_
      simp only [Act.put, List.setIfInBounds_toArray, List.set_cons_zero, List.set_cons_succ]
      refine wpAnyH_take (i := 8) (oi := ⟨some 26, _, _, _, _, _⟩) (v := undef) rfl (by kernel_rfl) (by kernel_rfl) (by kernel_rfl) (fun _ _ _ h => h) (Or.inr ⟨by rfl, rfl⟩) (by assumption) ?_
      simp only [Act.put, List.setIfInBounds_toArray, List.set_cons_zero, List.set_cons_succ]
      refine wpAnyH_take (i := 9) (oi := ⟨some 27, _, _, _, _, _⟩) (v := undef) rfl (by kernel_rfl) (by kernel_rfl) (by kernel_rfl) (fun _ _ _ h => h) (Or.inr ⟨by rfl, rfl⟩) (by assumption) ?_
      simp only [Act.put, List.setIfInBounds_toArray, List.set_cons_zero, List.set_cons_succ]
      refine wpAnyH_take (i := 10) (oi := ⟨some 28, _, _, _, _, _⟩) (v := undef) rfl (by kernel_rfl) (by kernel_rfl) (by kernel_rfl) (fun _ _ _ h => h) (Or.inr ⟨by rfl, rfl⟩) (by assumption) ?_
      simp only [Act.put, List.setIfInBounds_toArray, List.set_cons_zero, List.set_cons_succ]
      refine wpAnyH_take (i := 11) (oi := ⟨some 29, _, _, _, _, _⟩) (v := undef) rfl (by kernel_rfl) (by kernel_rfl) (by kernel_rfl) (fun _ _ _ h => h) (Or.inr ⟨by rfl, rfl⟩) (by assumption) ?_
      simp only [Act.put, List.setIfInBounds_toArray, List.set_cons_zero, List.set_cons_succ]
      refine wpAnyH_take (i := 12) (oi := ⟨some 30, _, _, _, _, _⟩) (v := ?v35) rfl (by kernel_rfl) (by kernel_rfl) (by kernel_rfl) (fun _ _ _ h => h) (Or.inl ⟨by rfl, ?hy35⟩) (by assumption) ?rest35
      case hy35 => (intro wq hSw; clear hSw; first | (go_simp; done) | (go_simp; with_reducible rfl))
      simp only [Act.put, List.setIfInBounds_toArray, List.set_cons_zero, List.set_cons_succ]
      refine wpAnyH_take (i := 13) (oi := ⟨some 31, _, _, _, _, _⟩) (v := ?v36) rfl (by kernel_rfl) (by kernel_rfl) (by kernel_rfl) (fun _ _ _ h => h) (Or.inl ⟨by rfl, ?hy36⟩) (by assumption) ?rest36
      case hy36 => (intro wq hSw; clear hSw; first | (go_simp; done) | (go_simp; with_reducible rfl))
      simp only [Act.put, List.setIfInBounds_toArray, List.set_cons_zero, List.set_cons_succ]
      refine wpAnyH_take (i := 14) (oi := ⟨some 32, _, _, _, _, _⟩) (v := undef) rfl (by kernel_rfl) (by kernel_rfl) (by kernel_rfl) (fun _ _ _ h => h) (Or.inr ⟨by rfl, rfl⟩) (by assumption) ?_
      simp only [Act.put, List.setIfInBounds_toArray, List.set_cons_zero, List.set_cons_succ]
      refine wpAnyH_take (i := 15) (oi := ⟨some 33, _, _, _, _, _⟩) (v := undef) rfl (by kernel_rfl) (by kernel_rfl) (by kernel_rfl) (fun _ _ _ h => h) (Or.inr ⟨by rfl, rfl⟩) (by assumption) ?_
      simp only [Act.put, List.setIfInBounds_toArray, List.set_cons_zero, List.set_cons_succ]
      refine wpAnyH_take (i := 16) (oi := ⟨some 34, _, _, _, _, _⟩) (v := undef) rfl (by kernel_rfl) (by kernel_rfl) (by kernel_rfl) (fun _ _ _ h => h) (Or.inr ⟨by rfl, rfl⟩) (by assumption) ?_
      simp only [Act.put, List.setIfInBounds_toArray, List.set_cons_zero, List.set_cons_succ]
      refine wpAnyH_take (i := 17) (oi := ⟨some 35, _, _, _, _, _⟩) (v := undef) rfl (by kernel_rfl) (by kernel_rfl) (by kernel_rfl) (fun _ _ _ h => h) (Or.inr ⟨by rfl, rfl⟩) (by assumption) ?_
      simp only [Act.put, List.setIfInBounds_toArray, List.set_cons_zero, List.set_cons_succ]
      refine wpAnyH_take (i := 18) (oi := ⟨some 36, _, _, _, _, _⟩) (v := undef) rfl (by kernel_rfl) (by kernel_rfl) (by kernel_rfl) (fun _ _ _ h => h) (Or.inr ⟨by rfl, rfl⟩) (by assumption) ?_
      simp only [Act.put, List.setIfInBounds_toArray, List.set_cons_zero, List.set_cons_succ]
      refine wpAnyH_take (i := 19) (oi := ⟨some 37, _, _, _, _, _⟩) (v := ?v37) rfl (by kernel_rfl) (by kernel_rfl) (by kernel_rfl) (fun _ _ _ h => h) (Or.inl ⟨by rfl, ?hy37⟩) (by assumption) ?rest37
      case hy37 => (intro wq hSw; clear hSw; first | (go_simp; done) | (go_simp; with_reducible rfl))
      simp only [Act.put, List.setIfInBounds_toArray, List.set_cons_zero, List.set_cons_succ]
      refine wpAnyH_take (i := 20) (oi := ⟨some 4, _, _, _, _, _⟩) (v := ?v38) rfl (by kernel_rfl) (by kernel_rfl) (by kernel_rfl) (fun _ _ _ h => h) (Or.inl ⟨by rfl, ?hy38⟩) (by assumption) ?rest38
      case hy38 => (intro wq hSw; clear hSw; first | (go_simp; done) | (go_simp; with_reducible rfl))
      simp only [Act.put, List.setIfInBounds_toArray, List.set_cons_zero, List.set_cons_succ]
      have HBF : Hid (Below w.heap.size w _) := hHeld.i.b
      refine wpAnyH_done (by kernel_rfl) ?_ _
      clear hHeld sb st H1 H2 H3 H4 HSt hEq hix
      go_wp2
      go_ret
      exact ⟨rfl, HBF.out⟩
    ·
      refine wpAnyH_take (i := 7) (oi := ⟨some 25, _, _, _, _, _⟩) (v := ?v39) rfl (by kernel_rfl) (by kernel_rfl) (by kernel_rfl) (fun _ _ _ h => h) (Or.inl ⟨by rfl, ?hy39⟩) (by assumption) ?rest39
      case hy39 => (intro wq hSw; have s0 := hSw.s0; have s1 := hSw.s1; have s2 := hSw.s2; have c0 := hSw.i.c0; have c1 := hSw.i.c1; have c2 := hSw.i.c2; have c3 := hSw.i.c3; have c4 := hSw.i.c4; dsimp only at c0 c1 c2 c3 c4; clear hSw; first | (go_simp; done) | (go_simp; with_reducible rfl))
      simp only [Act.put, List.setIfInBounds_toArray, List.set_cons_zero, List.set_cons_succ]
      refine wpAnyH_take (i := 8) (oi := ⟨some 26, _, _, _, _, _⟩) (v := ?v40) rfl (by kernel_rfl) (by kernel_rfl) (by kernel_rfl) (fun _ _ _ h => h) (Or.inl ⟨by rfl, ?hy40⟩) (by assumption) ?rest40
      case hy40 => (intro wq hSw; have s0 := hSw.s0; have s1 := hSw.s1; have s2 := hSw.s2; have c0 := hSw.i.c0; have c1 := hSw.i.c1; have c2 := hSw.i.c2; have c3 := hSw.i.c3; have c4 := hSw.i.c4; dsimp only at c0 c1 c2 c3 c4; clear hSw; first | (go_simp; done) | (go_simp; with_reducible rfl))
      simp only [Act.put, List.setIfInBounds_toArray, List.set_cons_zero, List.set_cons_succ]
      refine wpAnyH_take (i := 9) (oi := ⟨some 27, _, _, _, _, _⟩) (v := ?v41) rfl (by kernel_rfl) (by kernel_rfl) (by kernel_rfl) (fun _ _ _ h => h) (Or.inl ⟨by rfl, ?hy41⟩) (by assumption) ?rest41
      case hy41 => (intro wq hSw; have s0 := hSw.s0; have s1 := hSw.s1; have s2 := hSw.s2; have c0 := hSw.i.c0; have c1 := hSw.i.c1; have c2 := hSw.i.c2; have c3 := hSw.i.c3; have c4 := hSw.i.c4; dsimp only at c0 c1 c2 c3 c4; clear hSw; first | (go_simp; done) | (go_simp; with_reducible rfl))
      simp only [Act.put, List.setIfInBounds_toArray, List.set_cons_zero, List.set_cons_succ]
      refine wpAnyH_ready (rs := [10]) (by kernel_rfl) (by simp) ?_
      refine AllReadyH.cons rfl (fun K hK => ?_) AllReadyH.nil
      go_simp
      refine Calls.mono (H2.out _) ?_
      rintro e W5 ⟨ra, rc, rfl, hA5, hb5⟩
      dsimp only
      refine hK.out _ _ (by exact hHeld.below hb5) (fun hHeld => ?_)
      clear hK K
      (try simp only [Act.put, List.setIfInBounds_toArray, List.set_cons_zero, List.set_cons_succ])
      refine wpAnyH_ready (rs := [11]) (by kernel_rfl) (by simp) ?_
      refine AllReadyH.cons rfl (fun K hK => ?_) AllReadyH.nil
      go_simp
      refine Calls.mono (H4.out _ _ _ hA5) ?_
      rintro e W6 ⟨rfl, rfl⟩
      dsimp only
      refine hK.out _ _ (by exact hHeld) (fun hHeld => ?_)
      clear hK K
      (try simp only [Act.put, List.setIfInBounds_toArray, List.set_cons_zero, List.set_cons_succ])
      refine wpAnyH_take (i := 12) (oi := ⟨some 30, _, _, _, _, _⟩) (v := ?v42) rfl (by kernel_rfl) (by kernel_rfl) (by kernel_rfl) (fun _ _ _ h => h) (Or.inl ⟨by rfl, ?hy42⟩) (by assumption) ?rest42
      case hy42 => (intro wq hSw; clear hSw; first | (go_simp; done) | (go_simp; with_reducible rfl))
      simp only [Act.put, List.setIfInBounds_toArray, List.set_cons_zero, List.set_cons_succ]
      refine wpAnyH_take (i := 13) (oi := ⟨some 31, _, _, _, _, _⟩) (v := ?v43) rfl (by kernel_rfl) (by kernel_rfl) (by kernel_rfl) (fun _ _ _ h => h) (Or.inl ⟨by rfl, ?hy43⟩) (by assumption) ?rest43
      case hy43 => (intro wq hSw; clear hSw; first | (go_simp; done) | (go_simp; with_reducible rfl))
      simp only [Act.put, List.setIfInBounds_toArray, List.set_cons_zero, List.set_cons_succ]
      cases d2
      ·
        refine wpAnyH_take (i := 14) (oi := ⟨some 32, _, _, _, _, _⟩) (v := undef) rfl (by kernel_rfl) (by kernel_rfl) (by kernel_rfl) (fun _ _ _ h => h) (Or.inr ⟨by rfl, rfl⟩) (by assumption) ?_
        simp only [Act.put, List.setIfInBounds_toArray, List.set_cons_zero, List.set_cons_succ]
        refine wpAnyH_take (i := 15) (oi := ⟨some 33, _, _, _, _, _⟩) (v := undef) rfl (by kernel_rfl) (by kernel_rfl) (by kernel_rfl) (fun _ _ _ h => h) (Or.inr ⟨by rfl, rfl⟩) (by assumption) ?_
        simp only [Act.put, List.setIfInBounds_toArray, List.set_cons_zero, List.set_cons_succ]
        refine wpAnyH_take (i := 16) (oi := ⟨some 34, _, _, _, _, _⟩) (v := undef) rfl (by kernel_rfl) (by kernel_rfl) (by kernel_rfl) (fun _ _ _ h => h) (Or.inr ⟨by rfl, rfl⟩) (by assumption) ?_
        simp only [Act.put, List.setIfInBounds_toArray, List.set_cons_zero, List.set_cons_succ]
        refine wpAnyH_take (i := 17) (oi := ⟨some 35, _, _, _, _, _⟩) (v := undef) rfl (by kernel_rfl) (by kernel_rfl) (by kernel_rfl) (fun _ _ _ h => h) (Or.inr ⟨by rfl, rfl⟩) (by assumption) ?_
        simp only [Act.put, List.setIfInBounds_toArray, List.set_cons_zero, List.set_cons_succ]
        refine wpAnyH_take (i := 18) (oi := ⟨some 36, _, _, _, _, _⟩) (v := undef) rfl (by kernel_rfl) (by kernel_rfl) (by kernel_rfl) (fun _ _ _ h => h) (Or.inr ⟨by rfl, rfl⟩) (by assumption) ?_
        simp only [Act.put, List.setIfInBounds_toArray, List.set_cons_zero, List.set_cons_succ]
        refine wpAnyH_take (i := 19) (oi := ⟨some 37, _, _, _, _, _⟩) (v := ?v44) rfl (by kernel_rfl) (by kernel_rfl) (by kernel_rfl) (fun _ _ _ h => h) (Or.inl ⟨by rfl, ?hy44⟩) (by assumption) ?rest44
        case hy44 => (intro wq hSw; clear hSw; first | (go_simp; done) | (go_simp; with_reducible rfl))
        simp only [Act.put, List.setIfInBounds_toArray, List.set_cons_zero, List.set_cons_succ]
        refine wpAnyH_take (i := 20) (oi := ⟨some 4, _, _, _, _, _⟩) (v := ?v45) rfl (by kernel_rfl) (by kernel_rfl) (by kernel_rfl) (fun _ _ _ h => h) (Or.inl ⟨by rfl, ?hy45⟩) (by assumption) ?rest45
        case hy45 => (intro wq hSw; clear hSw; first | (go_simp; done) | (go_simp; with_reducible rfl))
        simp only [Act.put, List.setIfInBounds_toArray, List.set_cons_zero, List.set_cons_succ]
        have HBF : Hid (Below w.heap.size w _) := hHeld.i.b
        refine wpAnyH_done (by kernel_rfl) ?_ _
        clear hHeld sb st H1 H2 H3 H4 HSt hEq hix
        go_wp2
        go_ret
        exact ⟨rfl, HBF.out⟩
      ·
        refine wpAnyH_take (i := 14) (oi := ⟨some 32, _, _, _, _, _⟩) (v := ?v46) rfl (by kernel_rfl) (by kernel_rfl) (by kernel_rfl) (fun _ _ _ h => h) (Or.inl ⟨by rfl, ?hy46⟩) (by assumption) ?rest46
        case hy46 => (intro wq hSw; have s0 := hSw.s0; have s1 := hSw.s1; have s2 := hSw.s2; have c0 := hSw.i.c0; have c1 := hSw.i.c1; have c2 := hSw.i.c2; have c3 := hSw.i.c3; have c4 := hSw.i.c4; dsimp only at c0 c1 c2 c3 c4; clear hSw; first | (go_simp; done) | (go_simp; with_reducible rfl))
        simp only [Act.put, List.setIfInBounds_toArray, List.set_cons_zero, List.set_cons_succ]
        refine wpAnyH_take (i := 15) (oi := ⟨some 33, _, _, _, _, _⟩) (v := ?v47) rfl (by kernel_rfl) (by kernel_rfl) (by kernel_rfl) (fun _ _ _ h => h) (Or.inl ⟨by rfl, ?hy47⟩) (by assumption) ?rest47
        case hy47 => (intro wq hSw; have s0 := hSw.s0; have s1 := hSw.s1; have s2 := hSw.s2; have c0 := hSw.i.c0; have c1 := hSw.i.c1; have c2 := hSw.i.c2; have c3 := hSw.i.c3; have c4 := hSw.i.c4; dsimp only at c0 c1 c2 c3 c4; clear hSw; first | (go_simp; done) | (go_simp; with_reducible rfl))
        simp only [Act.put, List.setIfInBounds_toArray, List.set_cons_zero, List.set_cons_succ]
        refine wpAnyH_take (i := 16) (oi := ⟨some 34, _, _, _, _, _⟩) (v := ?v48) rfl (by kernel_rfl) (by kernel_rfl) (by kernel_rfl) (fun _ _ _ h => h) (Or.inl ⟨by rfl, ?hy48⟩) (by assumption) ?rest48
        case hy48 => (intro wq hSw; have s0 := hSw.s0; have s1 := hSw.s1; have s2 := hSw.s2; have c0 := hSw.i.c0; have c1 := hSw.i.c1; have c2 := hSw.i.c2; have c3 := hSw.i.c3; have c4 := hSw.i.c4; dsimp only at c0 c1 c2 c3 c4; clear hSw; first | (go_simp; done) | (go_simp; with_reducible rfl))
        simp only [Act.put, List.setIfInBounds_toArray, List.set_cons_zero, List.set_cons_succ]
        refine wpAnyH_take (i := 17) (oi := ⟨some 35, _, _, _, _, _⟩) (v := ?v49) rfl (by kernel_rfl) (by kernel_rfl) (by kernel_rfl) (fun _ _ _ h => h) (Or.inl ⟨by rfl, ?hy49⟩) (by assumption) ?rest49
        case hy49 => (intro wq hSw; have s0 := hSw.s0; have s1 := hSw.s1; have s2 := hSw.s2; have c0 := hSw.i.c0; have c1 := hSw.i.c1; have c2 := hSw.i.c2; have c3 := hSw.i.c3; have c4 := hSw.i.c4; dsimp only at c0 c1 c2 c3 c4; clear hSw; first | (go_simp; done) | (go_simp; with_reducible rfl))
        simp only [Act.put, List.setIfInBounds_toArray, List.set_cons_zero, List.set_cons_succ]
        refine wpAnyH_ready (rs := [18]) (by kernel_rfl) (by simp) ?_
        refine AllReadyH.cons rfl (fun K hK => ?_) AllReadyH.nil
        go_simp
        refine Calls.mono (H3.out _) ?_
        rintro e W7 ⟨rfl, hb7⟩
        dsimp only
        refine hK.out _ _ (by exact hHeld.below hb7) (fun hHeld => ?_)
        clear hK K
        (try simp only [Act.put, List.setIfInBounds_toArray, List.set_cons_zero, List.set_cons_succ])
        refine wpAnyH_take (i := 19) (oi := ⟨some 37, _, _, _, _, _⟩) (v := ?v50) rfl (by kernel_rfl) (by kernel_rfl) (by kernel_rfl) (fun _ _ _ h => h) (Or.inl ⟨by rfl, ?hy50⟩) (by assumption) ?rest50
        case hy50 => (intro wq hSw; clear hSw; first | (go_simp; done) | (go_simp; with_reducible rfl))
        simp only [Act.put, List.setIfInBounds_toArray, List.set_cons_zero, List.set_cons_succ]
        refine wpAnyH_take (i := 20) (oi := ⟨some 4, _, _, _, _, _⟩) (v := ?v51) rfl (by kernel_rfl) (by kernel_rfl) (by kernel_rfl) (fun _ _ _ h => h) (Or.inl ⟨by rfl, ?hy51⟩) (by assumption) ?rest51
        case hy51 => (intro wq hSw; clear hSw; first | (go_simp; done) | (go_simp; with_reducible rfl))
        simp only [Act.put, List.setIfInBounds_toArray, List.set_cons_zero, List.set_cons_succ]
        have HBF : Hid (Below w.heap.size w _) := hHeld.i.b
        refine wpAnyH_done (by kernel_rfl) ?_ _
        clear hHeld sb st H1 H2 H3 H4 HSt hEq hix
        go_wp2
        go_ret
        exact ⟨rfl, HBF.out⟩

end Go.Proofs.YtogobeegibngiaaGreatDoor
