/-
  Parts of one proof, one behind the other: StepC, StepD.
-/
import Derived.Test.YtenaaneckobdpaaGreatP32
import Derived.Test.YtenaaneckobdpaaGreatP1
import Derived.Deep.RegionHeld
import Derived.RegionTactic
import Derived.Test.YtenaaneckobdpaaGreatP10
namespace Go.Proofs.YtenaaneckobdpaaGreat
open Go.RowKit
structure Ib (w X : World) (g : Nat) (i : In13) : Prop where
 c0 : X.cell? ⟨g, 0, none⟩ = some (.int .i64 i.1)
 c1 : X.cell? ⟨g, 1, none⟩ = some (.int .i64 i.2.1)
 c2 : X.cell? ⟨g, 2, none⟩ = some (.int .i64 i.2.2.1)
 c3 : X.cell? ⟨g, 3, none⟩ = some (.int .i64 i.2.2.2.1)
 c4 : X.cell? ⟨g, 4, none⟩ = some (.string ⟨i.2.2.2.2.toArray⟩)
 lo : w.heap.size ≤ g
 b : Below w.heap.size w X
section
variable {w X Y : World} {g : Nat} {i : In13}
theorem Ib.lt (s : Ib w X g i) : g < X.heap.size := World.block_lt_of_cell? X ⟨g, 0, none⟩ s.c0
theorem Ib.keep (s : Ib w X g i) (hb : Y.heap[g]? = X.heap[g]?) (hB : Below w.heap.size w Y) : Ib w Y g i :=
 ⟨(World.cell?_of_block (a := ⟨g, 0, none⟩) hb).trans s.c0, (World.cell?_of_block (a := ⟨g, 1, none⟩) hb).trans s.c1, (World.cell?_of_block (a := ⟨g, 2, none⟩) hb).trans s.c2, (World.cell?_of_block (a := ⟨g, 3, none⟩) hb).trans s.c3, (World.cell?_of_block (a := ⟨g, 4, none⟩) hb).trans s.c4, s.lo, hB⟩
theorem Ib.below (s : Ib w X g i) (hb : Below X.heap.size X Y) : Ib w Y g i := s.keep (hb.block g s.lt) (s.b.trans (hb.mono s.b.size))
theorem Ib.drew (s : Ib w X g i) : Ib w X.drew g i := s.below ⟨rfl, rfl, rfl, Nat.le_refl _, fun _ _ => rfl⟩
theorem Ib.new (w : World) (k R A B : Int) (nm : List UInt8) : Ib w (w.alloc (.cells #[.int .i64 k, .int .i64 R, .int .i64 A, .int .i64 B, .string ⟨nm.toArray⟩] 58)) w.heap.size (k, R, A, B, nm) := by
 have hA := heap_alloc_new w (.cells #[.int .i64 k, .int .i64 R, .int .i64 A, .int .i64 B, .string ⟨nm.toArray⟩] 58)
 have hB : Below w.heap.size w (w.alloc (.cells #[.int .i64 k, .int .i64 R, .int .i64 A, .int .i64 B, .string ⟨nm.toArray⟩] 58)) := (Below.refl _ _).alloc (Nat.le_refl _) _
 generalize w.alloc (.cells #[.int .i64 k, .int .i64 R, .int .i64 A, .int .i64 B, .string ⟨nm.toArray⟩] 58) = W at hA hB ⊢
 exact ⟨by simp [World.cell?, hA], by simp [World.cell?, hA], by simp [World.cell?, hA], by simp [World.cell?, hA], by simp [World.cell?, hA], Nat.le_refl _, hB⟩
end
structure Sb (w X : World) (g s : Nat) (i : In13) (f1 f2 f3 : Nat) : Prop where
 i : Ib w X g i
 s0 : X.cell? ⟨s, 0, none⟩ = some (.func (.func f1) #[] #[])
 s1 : X.cell? ⟨s, 1, none⟩ = some (.func (.func f2) #[] #[])
 s2 : X.cell? ⟨s, 2, none⟩ = some (.func (.func f3) #[] #[])
theorem Sb.below {w X Y : World} {g s : Nat} {i : In13} {f1 f2 f3 : Nat} (h : Sb w X g s i f1 f2 f3) (hb : Below X.heap.size X Y) : Sb w Y g s i f1 f2 f3 := by
 have hl : s < X.heap.size := World.block_lt_of_cell? X ⟨s, 0, none⟩ h.s0
 exact ⟨h.i.below hb, (hb.cell (p := ⟨s, 0, none⟩) hl).trans h.s0, (hb.cell (p := ⟨s, 1, none⟩) hl).trans h.s1, (hb.cell (p := ⟨s, 2, none⟩) hl).trans h.s2⟩
theorem Sb.drew {w X : World} {g s : Nat} {i : In13} {f1 f2 f3 : Nat} (h : Sb w X g s i f1 f2 f3) : Sb w X.drew g s i f1 f2 f3 := h.below ⟨rfl, rfl, rfl, Nat.le_refl _, fun _ _ => rfl⟩
section
variable {op : Oper} {a : Act} {w : World} {Q : Exit → Act → World → Prop} {K : Act → World → Prop}
theorem size84 : (Tryz.prog.info? 165).map (·.size) = some 3 := by kernel_rfl
theorem zef (ho : op.op = .alloc 165) (d : Nat) (hd : op.dst = some d) (h : ∀ Y g, Rb Y g 0 [.nilFunc, .nilFunc, .nilFunc] → Below w.heap.size w Y → w.heap.size ≤ g → K (a.put (some d) (.pointer (some ⟨g, 0, none⟩))) Y) : op.wp Tryz.prog a w K Q := by
 unfold Oper.wp execOp
 simp only [ho, Instr.alloc, Sem.run_bind, Tryz.zeroValue165, Result.andThen_ok, newVar, newRow, run_newObj_alloc, Sem.run_pure, Value.cells]
 have h2 := h _ _ (Rb.new w #[.nilFunc, .nilFunc, .nilFunc] 165) ((Below.refl _ _).alloc (Nat.le_refl _) _) (Nat.le_refl _)
 rw [← hd] at h2
 exact h2
theorem zee (x y : Operand) (ho : op.op = .store 165 x y) (b f1 f2 f3 : Nat) (hx : a.eval x = .pointer (some ⟨b, 0, none⟩)) (hy : a.eval y = .agg #[.func (.func f1) #[] #[], .func (.func f2) #[] #[], .func (.func f3) #[] #[]]) (ht : Rb w b 0 [.nilFunc, .nilFunc, .nilFunc])
 (h : ∀ Y, Rb Y b 0 [.func (.func f1) #[] #[], .func (.func f2) #[] #[], .func (.func f3) #[] #[]] → w.grownBy Y (some b) → K (a.put op.dst undef) Y) : op.wp Tryz.prog a w K Q := by
 refine wp_store_mid _ x y ho b 0 #[.func (.func f1) #[] #[], .func (.func f2) #[] #[], .func (.func f3) #[] #[]] hx hy ht.ok size84 (all_oneCell_toArray (by intro v hv; simp only [List.mem_cons, List.not_mem_nil, or_false] at hv; rcases hv with rfl | rfl | rfl <;> rfl)) ?_
 exact h _ (Rb.store (vs := [.func (.func f1) #[] #[], .func (.func f2) #[] #[], .func (.func f3) #[] #[]]) ht.ok ht.lt) (zcD b _ 0 w)
end
set_option maxHeartbeats 8000000 in
set_option maxRecDepth 100000 in
theorem zda (k R A B : Int) (nm : List UInt8) (f1 f2 f3 : Nat) (t : In13 → In13) (rs : In13 → List Int) (q : In13 → Int → Bool) (n : Int) (w : World) (hk : 1 ≤ k ∧ k ≤ 10)
 (hix : ∀ W, (Instr.index 166 (.agg tb) (.int .i64 k)).run Tryz.prog W = .ok (.agg #[.func (.func f1) #[] #[], .func (.func f2) #[] #[], .func (.func f3) #[] #[]]) W)
 (e1 : ∀ args w, (callFunc f1 args).run Tryz.prog w = .ok (.enter f1 args) w) (e2 : ∀ args w, (callFunc f2 args).run Tryz.prog w = .ok (.enter f2 args) w) (e3 : ∀ args w, (callFunc f3 args).run Tryz.prog w = .ok (.enter f3 args) w)
 (h1 : Tld f1 t) (h2 : Rgs f2 rs) (h3 : Rit f3 q) (hl : nm.length ≤ 1048576) (hr : (rs (k, R, A, B, nm)).length ≤ 1048576) :
 Calls Tryz.prog 132 #[zak (k, R, A, B, nm), .int .i64 n] w fun e w' => e = .returned (.bool (decide (t (k, R, A, B, nm) = (k, R, A, B, nm)) && regB (rs (k, R, A, B, nm)) && q (k, R, A, B, nm) n)) ∧ Below w.heap.size w w' := by
 have st : Hid (_) := Ib.new w k R A B nm
 obtain ⟨W0, hW0⟩ : ∃ W0, w.alloc (.cells #[.int .i64 k, .int .i64 R, .int .i64 A, .int .i64 B, .string ⟨nm.toArray⟩] 58) = W0 := ⟨_, rfl⟩
 rw [hW0] at st
 have H1 : Hid (∀ X, Calls Tryz.prog f1 #[.agg #[.int .i64 k, .int .i64 R, .int .i64 A, .int .i64 B, .string ⟨nm.toArray⟩]] X fun e w' => e = .returned (zak (t (k, R, A, B, nm))) ∧ Below X.heap.size X w') := fun X => h1 (k, R, A, B, nm) X
 have H2 : Hid (∀ X, Calls Tryz.prog f2 #[.agg #[.int .i64 k, .int .i64 R, .int .i64 A, .int .i64 B, .string ⟨nm.toArray⟩]] X fun e w' => ∃ a c, e = .returned (.slice a (rs (k, R, A, B, nm)).length c) ∧ AsIn w' a (rs (k, R, A, B, nm)) ∧ Below X.heap.size X w') := fun X => h2 (k, R, A, B, nm) X
 have H3 : Hid (∀ X, Calls Tryz.prog f3 #[.agg #[.int .i64 k, .int .i64 R, .int .i64 A, .int .i64 B, .string ⟨nm.toArray⟩], .int .i64 n] X fun e w' => e = .returned (.bool (q (k, R, A, B, nm) n)) ∧ Below X.heap.size X w') := fun X => h3 (k, R, A, B, nm) n X hl
 have hEq := ins_eq (t (k, R, A, B, nm)) (k, R, A, B, nm)
 have H4 : Hid (∀ X a c, AsIn X a (rs (k, R, A, B, nm)) → Calls Tryz.prog 138 #[.slice a (rs (k, R, A, B, nm)).length c] X fun e w' => e = .returned (.bool (regB (rs (k, R, A, B, nm)))) ∧ w' = X) := fun X a c h => zeB a _ c _ X rfl h hr
 generalize decide (t (k, R, A, B, nm) = (k, R, A, B, nm)) = d1 at hEq ⊢
 generalize t (k, R, A, B, nm) = ti at H1 hEq
 generalize regB (rs (k, R, A, B, nm)) = d2 at H4 ⊢
 generalize q (k, R, A, B, nm) n = d3 at H3 ⊢
 generalize rs (k, R, A, B, nm) = rl at H2 H4 hr
 obtain ⟨tk, tR, tA, tB, tn⟩ := ti
 unfold zak at H1 hEq
 dsimp only at H1 hEq
 have HSt : Hid (∀ X, Calls Tryz.prog 137 #[] X fun e w' => e = .returned (.agg tb) ∧ Below X.heap.size X w') := fun X => zk2 X
 clear h1 h2 h3 hl t rs q
 obtain ⟨N, hN⟩ : ∃ N, w.heap.size = N := ⟨_, rfl⟩
 have HN : Hid (w.heap.size = N) := hN
 rw [hN] at st
 have hk1 := hk.1
 have hk2 := hk.2
 have c0 := st.out.c0
 dsimp only at c0
 unfold zak
 dsimp only
 clear hk
 generalize tb = TB at hix HSt
 go_enter Tryz.func132, Tryz.ntmps132
 go_wp2
 clear hN c0
 refine wp_region_held_drew (S := fun X => Ib w X N (k, R, A, B, nm)) (by kernel_rfl) st.out.drew (fun hHeld => ?_)
 refine tkO [(1, 15), (2, 16)] ?_
 repeat (refine tkY ?_ rfl (by rfl) ?_ ?_; rotate_left; (focus (intro wq hSw; have c0 := hSw.c0; dsimp only at c0; clear hSw; first | (go_simp; done) | (go_simp; with_reducible rfl))); simp only [zP])
 refine tkZ ?_
 refine wpAnyH_ready (rs := [0, 4]) (by kernel_rfl) (by simp) ?_
 refine AllReadyH.cons rfl (fun K hK => ?_) (AllReadyH.cons rfl (fun K hK => ?_) AllReadyH.nil)
 ·
  go_simp
  refine Calls.mono (HSt.out _) ?_
  rintro e W1 ⟨rfl, hb1⟩
  dsimp only
  refine hK.out _ _ (by exact hHeld.below hb1) (fun hHeld => ?_)
  clear hK K
  (try simp only [zP])
  have hlN := hHeld.lt
  refine tkO [(3, 17)] ?_
  repeat (refine tkY ?_ rfl (by rfl) ?_ ?_; rotate_left; (focus (intro wq hSw; clear hSw; first | (go_simp; done) | (go_simp; with_reducible rfl))); simp only [zP])
  refine tkZ ?_
  refine zR 4 rfl (fun K hK => ?_)
  refine zbh rfl (zef rfl 5 rfl (fun Y2 gs hR2 hB2 hG2 => ?_))
  have hgs : N < gs := Nat.lt_of_lt_of_le hlN hG2
  refine hK.out _ _ (by exact hHeld.below hB2) (fun hHeld => ?_)
  clear hK K
  (try simp only [zP])
  refine zR 5 rfl (fun K hK => ?_)
  refine zbh rfl (zee _ _ rfl gs f1 f2 f3 rfl rfl hR2 (fun Y3 hR3 hG3 => ?_))
  refine hK.out _ _ (by exact hHeld.keep (hG3.block N hHeld.lt (by simp; omega)) (hHeld.b.grown hG3 hHeld.b.size (fun q e => by injection e with e; have := HN.out; omega))) (fun hHeld => ?_)
  clear hK K
  (try simp only [Act.put])
  have sb : Hid (Sb w Y3 N gs (k, R, A, B, nm) f1 f2 f3) := ⟨hHeld, hR3.cell 0 _ rfl, hR3.cell 1 _ rfl, hR3.cell 2 _ rfl⟩
  refine wpAnyH_done (by kernel_rfl) ?_ _
  clear hHeld hR2 hR3 hG3 hgs hb1 hB2 hG2 hlN
  go_wp2
  refine wp_region_held_drew (S := fun X => Sb w X N gs (k, R, A, B, nm) f1 f2 f3) (by kernel_rfl) sb.out.drew (fun hHeld => ?_)
  refine tkO [(0, 18), (1, 19), (2, 20), (4, 22)] ?_
  repeat (refine tkY ?_ rfl (by rfl) ?_ ?_; rotate_left; (focus (intro wq hSw; have s0 := hSw.s0; have s1 := hSw.s1; have s2 := hSw.s2; have c0 := hSw.i.c0; have c1 := hSw.i.c1; have c2 := hSw.i.c2; have c3 := hSw.i.c3; have c4 := hSw.i.c4; dsimp only at c0 c1 c2 c3 c4; clear hSw; first | (go_simp; done) | (go_simp; with_reducible rfl))); simp only [zP])
  refine tkZ ?_
  refine zR 3 rfl (fun K hK => ?_)
  go_simp
  refine Calls.mono (H1.out _) ?_
  rintro e W4 ⟨rfl, hb4⟩
  dsimp only
  refine hK.out _ _ (by exact hHeld.below hb4) (fun hHeld => ?_)
  clear hK K
  (try simp only [zP])
  refine tkO [(5, 23), (6, 24)] ?_
  repeat (refine tkY ?_ rfl (by rfl) ?_ ?_; rotate_left; (focus (intro wq hSw; clear hSw; first | (go_simp; done) | (go_simp; with_reducible rfl))); simp only [zP])
  refine tkZ ?_
  cases d1
  ·
   refine tkO [(7, 25), (8, 26), (9, 27), (10, 28), (11, 29), (12, 30), (13, 31), (14, 32), (15, 33), (16, 34), (17, 35), (18, 36), (19, 37), (20, 4)] ?_
   repeat ((first | (refine tkY ?_ rfl (by rfl) ?_ ?_; rotate_left; (focus (intro wq hSw; clear hSw; first | (go_simp; done) | (go_simp; with_reducible rfl)))) | refine tkN rfl (by rfl) ?_); simp only [zP])
   refine tkZ ?_
   have HBF : Hid (Below w.heap.size w _) := hHeld.i.b
   refine wpAnyH_done (by kernel_rfl) ?_ _
   clear hHeld sb st H1 H2 H3 H4 HSt hEq hix
   go_wp2
   go_ret
   exact ⟨rfl, HBF.out⟩
  ·
   refine tkO [(7, 25), (8, 26), (9, 27)] ?_
   repeat (refine tkY ?_ rfl (by rfl) ?_ ?_; rotate_left; (focus (intro wq hSw; have s0 := hSw.s0; have s1 := hSw.s1; have s2 := hSw.s2; have c0 := hSw.i.c0; have c1 := hSw.i.c1; have c2 := hSw.i.c2; have c3 := hSw.i.c3; have c4 := hSw.i.c4; dsimp only at c0 c1 c2 c3 c4; clear hSw; first | (go_simp; done) | (go_simp; with_reducible rfl))); simp only [zP])
   refine tkZ ?_
   refine zR 10 rfl (fun K hK => ?_)
   go_simp
   refine Calls.mono (H2.out _) ?_
   rintro e W5 ⟨ra, rc, rfl, hA5, hb5⟩
   dsimp only
   refine hK.out _ _ (by exact hHeld.below hb5) (fun hHeld => ?_)
   clear hK K
   (try simp only [zP])
   refine zR 11 rfl (fun K hK => ?_)
   go_simp
   refine Calls.mono (H4.out _ _ _ hA5) ?_
   rintro e W6 ⟨rfl, rfl⟩
   dsimp only
   refine hK.out _ _ (by exact hHeld) (fun hHeld => ?_)
   clear hK K
   (try simp only [zP])
   refine tkO [(12, 30), (13, 31)] ?_
   repeat (refine tkY ?_ rfl (by rfl) ?_ ?_; rotate_left; (focus (intro wq hSw; clear hSw; first | (go_simp; done) | (go_simp; with_reducible rfl))); simp only [zP])
   refine tkZ ?_
   cases d2
   ·
    refine tkO [(14, 32), (15, 33), (16, 34), (17, 35), (18, 36), (19, 37), (20, 4)] ?_
    repeat ((first | (refine tkY ?_ rfl (by rfl) ?_ ?_; rotate_left; (focus (intro wq hSw; clear hSw; first | (go_simp; done) | (go_simp; with_reducible rfl)))) | refine tkN rfl (by rfl) ?_); simp only [zP])
    refine tkZ ?_
    have HBF : Hid (Below w.heap.size w _) := hHeld.i.b
    refine wpAnyH_done (by kernel_rfl) ?_ _
    clear hHeld sb st H1 H2 H3 H4 HSt hEq hix
    go_wp2
    go_ret
    exact ⟨rfl, HBF.out⟩
   ·
    refine tkO [(14, 32), (15, 33), (16, 34), (17, 35)] ?_
    repeat (refine tkY ?_ rfl (by rfl) ?_ ?_; rotate_left; (focus (intro wq hSw; have s0 := hSw.s0; have s1 := hSw.s1; have s2 := hSw.s2; have c0 := hSw.i.c0; have c1 := hSw.i.c1; have c2 := hSw.i.c2; have c3 := hSw.i.c3; have c4 := hSw.i.c4; dsimp only at c0 c1 c2 c3 c4; clear hSw; first | (go_simp; done) | (go_simp; with_reducible rfl))); simp only [zP])
    refine tkZ ?_
    refine zR 18 rfl (fun K hK => ?_)
    go_simp
    refine Calls.mono (H3.out _) ?_
    rintro e W7 ⟨rfl, hb7⟩
    dsimp only
    refine hK.out _ _ (by exact hHeld.below hb7) (fun hHeld => ?_)
    clear hK K
    (try simp only [zP])
    refine tkO [(19, 37), (20, 4)] ?_
    repeat (refine tkY ?_ rfl (by rfl) ?_ ?_; rotate_left; (focus (intro wq hSw; clear hSw; first | (go_simp; done) | (go_simp; with_reducible rfl))); simp only [zP])
    refine tkZ ?_
    have HBF : Hid (Below w.heap.size w _) := hHeld.i.b
    refine wpAnyH_done (by kernel_rfl) ?_ _
    clear hHeld sb st H1 H2 H3 H4 HSt hEq hix
    go_wp2
    go_ret
    exact ⟨rfl, HBF.out⟩
 ·
  have hlN := hHeld.lt
  refine zbh rfl (zef rfl 5 rfl (fun Y2 gs hR2 hB2 hG2 => ?_))
  have hgs : N < gs := Nat.lt_of_lt_of_le hlN hG2
  refine hK.out _ _ (by exact hHeld.below hB2) (fun hHeld => ?_)
  clear hK K
  (try simp only [zP])
  refine zR 0 rfl (fun K hK => ?_)
  go_simp
  refine Calls.mono (HSt.out _) ?_
  rintro e W1 ⟨rfl, hb1⟩
  dsimp only
  replace hR2 := hR2.below hb1
  refine hK.out _ _ (by exact hHeld.below hb1) (fun hHeld => ?_)
  clear hK K
  (try simp only [zP])
  refine tkO [(3, 17)] ?_
  repeat (refine tkY ?_ rfl (by rfl) ?_ ?_; rotate_left; (focus (intro wq hSw; clear hSw; first | (go_simp; done) | (go_simp; with_reducible rfl))); simp only [zP])
  refine tkZ ?_
  refine zR 5 rfl (fun K hK => ?_)
  refine zbh rfl (zee _ _ rfl gs f1 f2 f3 rfl rfl hR2 (fun Y3 hR3 hG3 => ?_))
  refine hK.out _ _ (by exact hHeld.keep (hG3.block N hHeld.lt (by simp; omega)) (hHeld.b.grown hG3 hHeld.b.size (fun q e => by injection e with e; have := HN.out; omega))) (fun hHeld => ?_)
  clear hK K
  (try simp only [Act.put])
  have sb : Hid (Sb w Y3 N gs (k, R, A, B, nm) f1 f2 f3) := ⟨hHeld, hR3.cell 0 _ rfl, hR3.cell 1 _ rfl, hR3.cell 2 _ rfl⟩
  refine wpAnyH_done (by kernel_rfl) ?_ _
  clear hHeld hR2 hR3 hG3 hgs hb1 hB2 hG2 hlN
  go_wp2
  refine wp_region_held_drew (S := fun X => Sb w X N gs (k, R, A, B, nm) f1 f2 f3) (by kernel_rfl) sb.out.drew (fun hHeld => ?_)
  refine tkO [(0, 18), (1, 19), (2, 20), (4, 22)] ?_
  repeat (refine tkY ?_ rfl (by rfl) ?_ ?_; rotate_left; (focus (intro wq hSw; have s0 := hSw.s0; have s1 := hSw.s1; have s2 := hSw.s2; have c0 := hSw.i.c0; have c1 := hSw.i.c1; have c2 := hSw.i.c2; have c3 := hSw.i.c3; have c4 := hSw.i.c4; dsimp only at c0 c1 c2 c3 c4; clear hSw; first | (go_simp; done) | (go_simp; with_reducible rfl))); simp only [zP])
  refine tkZ ?_
  refine zR 3 rfl (fun K hK => ?_)
  go_simp
  refine Calls.mono (H1.out _) ?_
  rintro e W4 ⟨rfl, hb4⟩
  dsimp only
  refine hK.out _ _ (by exact hHeld.below hb4) (fun hHeld => ?_)
  clear hK K
  (try simp only [zP])
  refine tkO [(5, 23), (6, 24)] ?_
  repeat (refine tkY ?_ rfl (by rfl) ?_ ?_; rotate_left; (focus (intro wq hSw; clear hSw; first | (go_simp; done) | (go_simp; with_reducible rfl))); simp only [zP])
  refine tkZ ?_
  cases d1
  ·
   refine tkO [(7, 25), (8, 26), (9, 27), (10, 28), (11, 29), (12, 30), (13, 31), (14, 32), (15, 33), (16, 34), (17, 35), (18, 36), (19, 37), (20, 4)] ?_
   repeat ((first | (refine tkY ?_ rfl (by rfl) ?_ ?_; rotate_left; (focus (intro wq hSw; clear hSw; first | (go_simp; done) | (go_simp; with_reducible rfl)))) | refine tkN rfl (by rfl) ?_); simp only [zP])
   refine tkZ ?_
   have HBF : Hid (Below w.heap.size w _) := hHeld.i.b
   refine wpAnyH_done (by kernel_rfl) ?_ _
   clear hHeld sb st H1 H2 H3 H4 HSt hEq hix
   go_wp2
   go_ret
   exact ⟨rfl, HBF.out⟩
  ·
   refine tkO [(7, 25), (8, 26), (9, 27)] ?_
   repeat (refine tkY ?_ rfl (by rfl) ?_ ?_; rotate_left; (focus (intro wq hSw; have s0 := hSw.s0; have s1 := hSw.s1; have s2 := hSw.s2; have c0 := hSw.i.c0; have c1 := hSw.i.c1; have c2 := hSw.i.c2; have c3 := hSw.i.c3; have c4 := hSw.i.c4; dsimp only at c0 c1 c2 c3 c4; clear hSw; first | (go_simp; done) | (go_simp; with_reducible rfl))); simp only [zP])
   refine tkZ ?_
   refine zR 10 rfl (fun K hK => ?_)
   go_simp
   refine Calls.mono (H2.out _) ?_
   rintro e W5 ⟨ra, rc, rfl, hA5, hb5⟩
   dsimp only
   refine hK.out _ _ (by exact hHeld.below hb5) (fun hHeld => ?_)
   clear hK K
   (try simp only [zP])
   refine zR 11 rfl (fun K hK => ?_)
   go_simp
   refine Calls.mono (H4.out _ _ _ hA5) ?_
   rintro e W6 ⟨rfl, rfl⟩
   dsimp only
   refine hK.out _ _ (by exact hHeld) (fun hHeld => ?_)
   clear hK K
   (try simp only [zP])
   refine tkO [(12, 30), (13, 31)] ?_
   repeat (refine tkY ?_ rfl (by rfl) ?_ ?_; rotate_left; (focus (intro wq hSw; clear hSw; first | (go_simp; done) | (go_simp; with_reducible rfl))); simp only [zP])
   refine tkZ ?_
   cases d2
   ·
    refine tkO [(14, 32), (15, 33), (16, 34), (17, 35), (18, 36), (19, 37), (20, 4)] ?_
    repeat ((first | (refine tkY ?_ rfl (by rfl) ?_ ?_; rotate_left; (focus (intro wq hSw; clear hSw; first | (go_simp; done) | (go_simp; with_reducible rfl)))) | refine tkN rfl (by rfl) ?_); simp only [zP])
    refine tkZ ?_
    have HBF : Hid (Below w.heap.size w _) := hHeld.i.b
    refine wpAnyH_done (by kernel_rfl) ?_ _
    clear hHeld sb st H1 H2 H3 H4 HSt hEq hix
    go_wp2
    go_ret
    exact ⟨rfl, HBF.out⟩
   ·
    refine tkO [(14, 32), (15, 33), (16, 34), (17, 35)] ?_
    repeat (refine tkY ?_ rfl (by rfl) ?_ ?_; rotate_left; (focus (intro wq hSw; have s0 := hSw.s0; have s1 := hSw.s1; have s2 := hSw.s2; have c0 := hSw.i.c0; have c1 := hSw.i.c1; have c2 := hSw.i.c2; have c3 := hSw.i.c3; have c4 := hSw.i.c4; dsimp only at c0 c1 c2 c3 c4; clear hSw; first | (go_simp; done) | (go_simp; with_reducible rfl))); simp only [zP])
    refine tkZ ?_
    refine zR 18 rfl (fun K hK => ?_)
    go_simp
    refine Calls.mono (H3.out _) ?_
    rintro e W7 ⟨rfl, hb7⟩
    dsimp only
    refine hK.out _ _ (by exact hHeld.below hb7) (fun hHeld => ?_)
    clear hK K
    (try simp only [zP])
    refine tkO [(19, 37), (20, 4)] ?_
    repeat (refine tkY ?_ rfl (by rfl) ?_ ?_; rotate_left; (focus (intro wq hSw; clear hSw; first | (go_simp; done) | (go_simp; with_reducible rfl))); simp only [zP])
    refine tkZ ?_
    have HBF : Hid (Below w.heap.size w _) := hHeld.i.b
    refine wpAnyH_done (by kernel_rfl) ?_ _
    clear hHeld sb st H1 H2 H3 H4 HSt hEq hix
    go_wp2
    go_ret
    exact ⟨rfl, HBF.out⟩
theorem ok_eq1 (R A B : Int) (nm : List UInt8) (n : Nat) (_hn : n ≤ 200) : (decide (tlRA (1, R, A, B, nm) = (1, R, A, B, nm)) && regB (rsR (1, R, A, B, nm)) && rqW (1, R, A, B, nm) (n : Int)) = decide (zaS n (1, R, A, B, nm)) := by
 rw [Bool.eq_iff_iff]
 unfold tlRA rsR rqW zaS insP regB inB
 simp only [List.all_cons, List.all_nil, Bool.and_true, Bool.and_eq_true, decide_eq_true_eq, Prod.mk.injEq]
 grind
theorem ok_eq2 (R A B : Int) (nm : List UInt8) (n : Nat) (_hn : n ≤ 200) : (decide (tlRA (2, R, A, B, nm) = (2, R, A, B, nm)) && regB (rsR (2, R, A, B, nm)) && rqA (2, R, A, B, nm) (n : Int)) = decide (zaS n (2, R, A, B, nm)) := by
 rw [Bool.eq_iff_iff]
 unfold tlRA rsR rqA zaS insP regB inB
 simp only [List.all_cons, List.all_nil, Bool.and_true, Bool.and_eq_true, decide_eq_true_eq, Prod.mk.injEq]
 grind
theorem ok_eq3 (R A B : Int) (nm : List UInt8) (n : Nat) (_hn : n ≤ 200) : (decide (zd5 (3, R, A, B, nm) = (3, R, A, B, nm)) && regB (zcA (3, R, A, B, nm)) && rqY (3, R, A, B, nm) (n : Int)) = decide (zaS n (3, R, A, B, nm)) := by
 rw [Bool.eq_iff_iff]
 unfold zd5 zcA rqY zaS insP regB inB
 simp only [List.all_cons, List.all_nil, Bool.and_true, Bool.and_eq_true, decide_eq_true_eq, Prod.mk.injEq]
 grind
theorem ok_eq4 (R A B : Int) (nm : List UInt8) (n : Nat) (_hn : n ≤ 200) : (decide (zd5 (4, R, A, B, nm) = (4, R, A, B, nm)) && regB (zcA (4, R, A, B, nm)) && rqY (4, R, A, B, nm) (n : Int)) = decide (zaS n (4, R, A, B, nm)) := by
 rw [Bool.eq_iff_iff]
 unfold zd5 zcA rqY zaS insP regB inB
 simp only [List.all_cons, List.all_nil, Bool.and_true, Bool.and_eq_true, decide_eq_true_eq, Prod.mk.injEq]
 grind
theorem ok_eq5 (R A B : Int) (nm : List UInt8) (n : Nat) (_hn : n ≤ 200) : (decide (zd5 (5, R, A, B, nm) = (5, R, A, B, nm)) && regB (zcA (5, R, A, B, nm)) && rqY (5, R, A, B, nm) (n : Int)) = decide (zaS n (5, R, A, B, nm)) := by
 rw [Bool.eq_iff_iff]
 unfold zd5 zcA rqY zaS insP regB inB
 simp only [List.all_cons, List.all_nil, Bool.and_true, Bool.and_eq_true, decide_eq_true_eq, Prod.mk.injEq]
 grind
theorem ok_eq6 (R A B : Int) (nm : List UInt8) (n : Nat) (_hn : n ≤ 200) : (decide (zd5 (6, R, A, B, nm) = (6, R, A, B, nm)) && regB (zcA (6, R, A, B, nm)) && rqY (6, R, A, B, nm) (n : Int)) = decide (zaS n (6, R, A, B, nm)) := by
 rw [Bool.eq_iff_iff]
 unfold zd5 zcA rqY zaS insP regB inB
 simp only [List.all_cons, List.all_nil, Bool.and_true, Bool.and_eq_true, decide_eq_true_eq, Prod.mk.injEq]
 grind
theorem ok_eq7 (R A B : Int) (nm : List UInt8) (n : Nat) (_hn : n ≤ 200) : (decide (tlRA (7, R, A, B, nm) = (7, R, A, B, nm)) && regB (rsR (7, R, A, B, nm)) && rqP (7, R, A, B, nm) (n : Int)) = decide (zaS n (7, R, A, B, nm)) := by
 rw [Bool.eq_iff_iff]
 unfold tlRA rsR rqP zaS insP regB inB
 simp only [List.all_cons, List.all_nil, Bool.and_true, Bool.and_eq_true, decide_eq_true_eq, Prod.mk.injEq]
 grind
theorem ok_eq8 (R A B : Int) (nm : List UInt8) (n : Nat) (_hn : n ≤ 200) : (decide (tlA (8, R, A, B, nm) = (8, R, A, B, nm)) && regB (rsN (8, R, A, B, nm)) && rqP (8, R, A, B, nm) (n : Int)) = decide (zaS n (8, R, A, B, nm)) := by
 rw [Bool.eq_iff_iff]
 unfold tlA rsN rqP zaS insP regB
 simp only [List.all_nil, Bool.and_true, Bool.and_eq_true, decide_eq_true_eq, Prod.mk.injEq]
 grind
theorem ok_eq9 (R A B : Int) (nm : List UInt8) (n : Nat) (_hn : n ≤ 200) : (decide (zgN (9, R, A, B, nm) = (9, R, A, B, nm)) && regB (rsC (9, R, A, B, nm)) && rqC (9, R, A, B, nm) (n : Int)) = decide (zaS n (9, R, A, B, nm)) := by
 have hw : (0 ≤ R ∧ R ≤ 63) → (0 ≤ A ∧ A ≤ 3) → wrap64 (wrap64 (R + A) - 1) = R + A - 1 := fun h1 h2 => by
  rw [IntWalk.wrap64_in (R + A) (by omega), IntWalk.wrap64_in _ (by omega)]
 rw [Bool.eq_iff_iff]
 unfold zgN rsC rqC zaS insP regB inB
 simp only [List.all_cons, List.all_nil, Bool.and_true, Bool.and_eq_true, decide_eq_true_eq, Prod.mk.injEq]
 generalize wrap64 (wrap64 (R + A) - 1) = z at hw ⊢
 generalize zb3 nm = bn
 grind
theorem ok_eq10 (R A B : Int) (nm : List UInt8) (n : Nat) (_hn : n ≤ 200) : (decide (tlR (10, R, A, B, nm) = (10, R, A, B, nm)) && regB (rsR (10, R, A, B, nm)) && rqY (10, R, A, B, nm) (n : Int)) = decide (zaS n (10, R, A, B, nm)) := by
 rw [Bool.eq_iff_iff]
 unfold tlR rsR rqY zaS insP regB inB
 simp only [List.all_cons, List.all_nil, Bool.and_true, Bool.and_eq_true, decide_eq_true_eq, Prod.mk.injEq]
 grind
theorem ok_out {k R A B : Int} {nm : List UInt8} {n : Nat} (hk : k < 1 ∨ 10 < k) : decide (zaS n (k, R, A, B, nm)) = false := by
 refine decide_eq_false (fun h => ?_)
 have h2 := h.1.2.2
 simp only at h2
 omega
set_option maxHeartbeats 1000000 in
set_option maxRecDepth 100000 in
theorem zk5 (k R A B : Int) (nm : List UInt8) (n : Int) (w : World) (hk : k < 1) : Calls Tryz.prog 132 #[zak (k, R, A, B, nm), .int .i64 n] w fun e w' => e = .returned (.bool false) ∧ Below w.heap.size w w' := by
 unfold zak
 dsimp only
 go_enter Tryz.func132, Tryz.ntmps132
 go_wp2
 go_ret
 exact ⟨rfl, (Below.refl _ w).alloc (Nat.le_refl _) _⟩
set_option maxHeartbeats 1000000 in
set_option maxRecDepth 100000 in
theorem zk4 (k R A B : Int) (nm : List UInt8) (n : Int) (w : World) (hk : 10 < k) : Calls Tryz.prog 132 #[zak (k, R, A, B, nm), .int .i64 n] w fun e w' => e = .returned (.bool false) ∧ Below w.heap.size w w' := by
 unfold zak
 dsimp only
 have hk1 : ¬ k < 1 := by omega
 go_enter Tryz.func132, Tryz.ntmps132
 go_wp2
 go_ret
 exact ⟨rfl, (Below.refl _ w).alloc (Nat.le_refl _) _⟩
theorem zhg (i : In13) (n : Nat) (w : World) (hn : n ≤ 200) (hl : i.2.2.2.2.length ≤ 1048576) : Calls Tryz.prog 132 #[zak i, .int .i64 (n : Int)] w fun e w' => e = .returned (.bool (decide (zaS n i))) ∧ Below w.heap.size w w' := by
 obtain ⟨k, R, A, B, nm⟩ := i
 dsimp only at hl
 by_cases h1 : k < 1
 ·
  rw [ok_out (Or.inl h1)]
  exact zk5 k R A B nm _ w h1
 by_cases h2 : 10 < k
 ·
  rw [ok_out (Or.inr h2)]
  exact zk4 k R A B nm _ w h2
 have hk : k = 1 ∨ k = 2 ∨ k = 3 ∨ k = 4 ∨ k = 5 ∨ k = 6 ∨ k = 7 ∨ k = 8 ∨ k = 9 ∨ k = 10 := by omega
 clear h1 h2
 rcases hk with rfl | rfl | rfl | rfl | rfl | rfl | rfl | rfl | rfl | rfl
 ·
  rw [← ok_eq1 R A B nm n hn]
  exact zda 1 R A B nm 147 148 149 tlRA rsR rqW (n : Int) w ⟨by omega, by omega⟩ zk1 (enters_of Tryz.func147 (by kernel_rfl) rfl) (enters_of Tryz.func148 (by kernel_rfl) rfl) (enters_of Tryz.func149 (by kernel_rfl) rfl) zdd zbW zgq hl (by simp [rsR])
 ·
  rw [← ok_eq2 R A B nm n hn]
  exact zda 2 R A B nm 147 148 150 tlRA rsR rqA (n : Int) w ⟨by omega, by omega⟩ zk0 (enters_of Tryz.func147 (by kernel_rfl) rfl) (enters_of Tryz.func148 (by kernel_rfl) rfl) (enters_of Tryz.func150 (by kernel_rfl) rfl) zdd zbW zhd hl (by simp [rsR])
 ·
  rw [← ok_eq3 R A B nm n hn]
  exact zda 3 R A B nm 144 145 146 zd5 zcA rqY (n : Int) w ⟨by omega, by omega⟩ zjZ (enters_of Tryz.func144 (by kernel_rfl) rfl) (enters_of Tryz.func145 (by kernel_rfl) rfl) (enters_of Tryz.func146 (by kernel_rfl) rfl) zck zbo zbf hl (by simp [zcA])
 ·
  rw [← ok_eq4 R A B nm n hn]
  exact zda 4 R A B nm 144 145 146 zd5 zcA rqY (n : Int) w ⟨by omega, by omega⟩ zjY (enters_of Tryz.func144 (by kernel_rfl) rfl) (enters_of Tryz.func145 (by kernel_rfl) rfl) (enters_of Tryz.func146 (by kernel_rfl) rfl) zck zbo zbf hl (by simp [zcA])
 ·
  rw [← ok_eq5 R A B nm n hn]
  exact zda 5 R A B nm 144 145 146 zd5 zcA rqY (n : Int) w ⟨by omega, by omega⟩ zjX (enters_of Tryz.func144 (by kernel_rfl) rfl) (enters_of Tryz.func145 (by kernel_rfl) rfl) (enters_of Tryz.func146 (by kernel_rfl) rfl) zck zbo zbf hl (by simp [zcA])
 ·
  rw [← ok_eq6 R A B nm n hn]
  exact zda 6 R A B nm 144 145 146 zd5 zcA rqY (n : Int) w ⟨by omega, by omega⟩ zjW (enters_of Tryz.func144 (by kernel_rfl) rfl) (enters_of Tryz.func145 (by kernel_rfl) rfl) (enters_of Tryz.func146 (by kernel_rfl) rfl) zck zbo zbf hl (by simp [zcA])
 ·
  rw [← ok_eq7 R A B nm n hn]
  exact zda 7 R A B nm 147 148 151 tlRA rsR rqP (n : Int) w ⟨by omega, by omega⟩ zjV (enters_of Tryz.func147 (by kernel_rfl) rfl) (enters_of Tryz.func148 (by kernel_rfl) rfl) (enters_of Tryz.func151 (by kernel_rfl) rfl) zdd zbW zdy hl (by simp [rsR])
 ·
  rw [← ok_eq8 R A B nm n hn]
  exact zda 8 R A B nm 152 153 151 tlA rsN rqP (n : Int) w ⟨by omega, by omega⟩ zjU (enters_of Tryz.func152 (by kernel_rfl) rfl) (enters_of Tryz.func153 (by kernel_rfl) rfl) (enters_of Tryz.func151 (by kernel_rfl) rfl) ziy zeA zdy hl (by simp [rsN])
 ·
  rw [← ok_eq9 R A B nm n hn]
  exact zda 9 R A B nm 154 155 156 zgN rsC rqC (n : Int) w ⟨by omega, by omega⟩ zjT (enters_of Tryz.func154 (by kernel_rfl) rfl) (enters_of Tryz.func155 (by kernel_rfl) rfl) (enters_of Tryz.func156 (by kernel_rfl) rfl) zez zd6 zdQ hl (by simp [rsC])
 ·
  rw [← ok_eq10 R A B nm n hn]
  exact zda 10 R A B nm 157 148 146 tlR rsR rqY (n : Int) w ⟨by omega, by omega⟩ ziv (enters_of Tryz.func157 (by kernel_rfl) rfl) (enters_of Tryz.func148 (by kernel_rfl) rfl) (enters_of Tryz.func146 (by kernel_rfl) rfl) zix zbW zbf hl (by simp [rsR])
set_option maxHeartbeats 4000000 in
set_option maxRecDepth 100000 in
theorem ziC (a : Option Addr) (len cap : Nat) (is : List In13) (w : World) (hin : zb4 w a len is) (_hint : zhx is) (hsh : zcm is) (hlen : len ≤ 1048576) (_hc : len ≤ cap) (_hm : cap ≤ maxLen) :
 Calls Tryz.prog 116 #[.slice a len cap] w fun e w' => e = .returned (.bool (zbP is)) ∧ Below w.heap.size w w' := by
 obtain rfl : is.length = len := hin.1
 have HI : Hid (zb4 w a is.length is) := hin
 have HS : Hid (zcm is) := hsh
 have HL : Hid (is.length < 1 ∨ 200 < is.length → zbP is = false) := zi5
 have HNo : Hid (∀ j, j < is.length → ¬ zaS is.length (is.getD j in0) → zbP is = false) := fun j hj h => zkl hj h
 have HEn : Hid (1 ≤ is.length → is.length ≤ 200 → (∀ j, j < is.length → zaS is.length (is.getD j in0)) → zbP is = (((is.getD (is.length - 1) in0).1 == 10) || ((is.getD (is.length - 1) in0).1 == 8))) := zi6
 obtain ⟨n, hn⟩ : ∃ n, is.length = n := ⟨_, rfl⟩
 rw [hn] at HI HL HNo HEn hlen ⊢
 generalize zbP is = res at HL HNo HEn ⊢
 clear hin hsh hn _hc _hm
 by_cases h1 : (n : Int) < 1
 ·
  have HF2 : Hid (res = false) := HL.out (Or.inl (by omega))
  clear HL HNo HEn
  go_enter Tryz.func116, Tryz.ntmps116
  go_wp2
  go_ret
  exact ⟨by rw [HF2.out]; rfl, Below.refl _ _⟩
 by_cases h2 : 200 < (n : Int)
 ·
  have HF2 : Hid (res = false) := HL.out (Or.inr (by omega))
  clear HL HNo HEn
  go_enter Tryz.func116, Tryz.ntmps116
  go_wp2
  go_ret
  exact ⟨by rw [HF2.out]; rfl, Below.refl _ _⟩
 obtain ⟨m, hm⟩ : ∃ m, n = m + 1 := ⟨n - 1, by omega⟩
 have HM : Hid (n = m + 1) := hm
 have HEn2 : Hid ((∀ j, j < n → zaS n (is.getD j in0)) → res = (((is.getD m in0).1 == 10) || ((is.getD m in0).1 == 8))) := fun h => by
  have := HEn.out (by omega) (by omega) h
  rw [show n - 1 = m by omega] at this
  exact this
 clear hm HL HEn
 go_enter Tryz.func116, Tryz.ntmps116
 go_wp2
 go_loopw [17] (fun iv wr => ∃ i : Nat, iv = .int .i64 (i : Int) ∧ i ≤ n ∧ Hid (∀ j, j < i → zaS n (is.getD j in0)) ∧ Hid (Below w.heap.size w wr)) (fun iv _ => n - (intOf iv).toNat)
 case atStart => exact ⟨0, rfl, Nat.zero_le _, fun j hj => by omega, Below.refl _ _⟩
 case round =>
  obtain ⟨i, rfl, hi, HA, HB⟩ := hrel
  by_cases hlt : (i : Int) < (n : Int)
  ·
   obtain ⟨b, off, rfl, hbl, c0, c1, c2, c3, c4⟩ := (HI.out.below HB.out).2 i (by omega)
   have HC : Hid (_) := fun W : World => zhg (is.getD i in0) n W (by omega) (HS.out i)
   have HNx : Hid (zaS n (is.getD i in0) → ∀ j, j < i + 1 → zaS n (is.getD j in0)) := fun h j hj => by
    by_cases e : j = i
    ·
     rw [e]; exact h
    ·
     exact HA.out j (by omega)
   have HNi : Hid (¬ zaS n (is.getD i in0) → res = false) := HNo.out i (by omega)
   clear HEn2 HNo HA HS
   generalize is.getD i in0 = ii at c0 c1 c2 c3 c4 HC HNx HNi
   have HD1 : Hid (decide (zaS n ii) = true → zaS n ii) := fun h => of_decide_eq_true h
   have HD2 : Hid (decide (zaS n ii) = false → ¬ zaS n ii) := fun h => of_decide_eq_false h
   generalize decide (zaS n ii) = d at HC HD1 HD2
   obtain ⟨kd, R, A, Bq, nm⟩ := ii
   unfold zak at HC
   simp only at c0 c1 c2 c3 c4 HC
   have HB1 : Hid (Below w.heap.size w (wr.alloc (.cells #[.int .i64 kd, .int .i64 R, .int .i64 A, .int .i64 Bq, .string ⟨nm.toArray⟩] 58))) := HB.out.alloc HB.out.size _
   cases d
   ·
    have HF : Hid (res = false) := HNi.out (HD2.out rfl)
    clear HNi HNx HD1 HD2
    go_wp2_with fail
    refine Calls.mono (HC.out _) ?_
    rintro e w1 ⟨rfl, hb1⟩
    have hB1 := HB1.out.trans (hb1.mono HB1.out.size)
    clear c0 c1 c2 c3 c4 hb1 HC HB1 HB
    go_wp2
    go_ret
    exact ⟨by rw [HF.out]; rfl, hB1⟩
   ·
    have HN2 : Hid (_) := HNx.out (HD1.out rfl)
    clear HNi HNx HD1 HD2
    go_wp2_with fail
    refine Calls.mono (HC.out _) ?_
    rintro e w1 ⟨rfl, hb1⟩
    have hB1 := HB1.out.trans (hb1.mono HB1.out.size)
    clear c0 c1 c2 c3 c4 hb1 HC HB1 HB
    go_wp2
    go_roundw
    case rel => exact ⟨i + 1, by go_num, by omega, HN2, hB1⟩
    case measure => simp [intOf]; omega
  ·
   have hin2 : i = n := by omega
   have HF : Hid (_) := HEn2.out (fun j hj => HA.out j (by omega))
   have hmn : m < n := by have := HM.out; omega
   obtain ⟨b, off, rfl, hbl, c0, _⟩ := (HI.out.below HB.out).2 m hmn
   have hq : (n : Int) - 1 = (m : Int) := by have := HM.out; omega
   have hmz : (m : Int) < (n : Int) := by omega
   have HBr := HB.out
   generalize (is.getD m in0).1 = kd at c0 HF
   clear hin2 HEn2 HNo HA HS HM HI HB hmn
   rcases h10 : (kd == 10) with _ | _
   ·
    rw [h10] at HF
    go_wp2
    go_ret
    exact ⟨by rw [HF.out]; rfl, HBr⟩
   ·
    rw [h10] at HF
    go_wp2
    go_ret
    exact ⟨by rw [HF.out]; rfl, HBr⟩
end Go.Proofs.YtenaaneckobdpaaGreat
