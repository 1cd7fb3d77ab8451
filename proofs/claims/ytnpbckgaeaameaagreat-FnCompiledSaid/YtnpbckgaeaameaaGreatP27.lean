/-
  Parts of one proof, one behind the other: WrA, NeedD, NeedM.
-/
import Derived.Test.YtnpbckgaeaameaaGreatP26
import Derived.Test.YtnpbckgaeaameaaGreatP21
import Derived.Test.YtnpbckgaeaameaaGreatP16
import Derived.Test.YtnpbckgaeaameaaGreatP24
import Derived.Test.YtnpbckgaeaameaaGreatP9

/-! Contracts of chapter 13's landed code: the code of a tree as far as it is written; behind, write. -/
namespace Go.Proofs.YtnpbckgaeaameaaGreat
open Go.RowKit

/-- A writing lies in block g; its code v (in X) was grown out of v0 (in w); nothing else of w is changed. -/
structure Wr13 (B w X : World) (g base : Nat) (tv nw v0 v : Value) (xs : List In13) : Prop where
  row : X.ownsRow base 30 5 v xs.length (insV xs)
  blk : X.heap[g]? = some (.cells #[tv, nw, v] 41 (0, 0))
  bB : Below B.heap.size B X
  sz : w.heap.size ≤ X.heap.size
  kp : ∀ k, k < w.heap.size → k ≠ g → v0.ownBlock ≠ some k → X.heap[k]? = w.heap[k]?
  loc : v.ownBlock = v0.ownBlock ∨ ∃ k, v.ownBlock = some k ∧ w.heap.size ≤ k
  lh : base ≤ w.heap.size
  gb : g < base
  Bg : B.heap.size ≤ g
section
variable {B w X Y : World} {g base : Nat} {tv nw v0 v u : Value} {xs ys : List In13}
theorem Wr13.new (row : w.ownsRow base 30 5 v xs.length (insV xs)) (blk : w.heap[g]? = some (.cells #[tv, nw, v] 41 (0, 0))) (bB : Below B.heap.size B w) (lh : base ≤ w.heap.size) (gb : g < base) (Bg : B.heap.size ≤ g) : Wr13 B w w g base tv nw v v xs :=
  ⟨row, blk, bB, Nat.le_refl _, fun _ _ _ _ => rfl, Or.inl rfl, lh, gb, Bg⟩
theorem Wr13.lt (h : Wr13 B w X g base tv nw v0 v xs) : g < X.heap.size := lt_of_block h.blk
theorem Wr13.c0 (h : Wr13 B w X g base tv nw v0 v xs) : X.cell? ⟨g, 0, none⟩ = some tv := by rw [cell_of_row _ _ _ _ _ _ h.blk]; rfl
theorem Wr13.c1 (h : Wr13 B w X g base tv nw v0 v xs) : X.cell? ⟨g, 1, none⟩ = some nw := by rw [cell_of_row _ _ _ _ _ _ h.blk]; rfl
theorem Wr13.c2 (h : Wr13 B w X g base tv nw v0 v xs) : X.cell? ⟨g, 2, none⟩ = some v := by rw [cell_of_row _ _ _ _ _ _ h.blk]; rfl
theorem Wr13.f2 (h : Wr13 B w X g base tv nw v0 v xs) : X.frozen? ⟨g, 2, none⟩ = false := frozen_of_row _ _ _ _ _ h.blk
theorem Wr13.val (h : Wr13 B w X g base tv nw v0 v xs) : ∃ a c, v = .slice a xs.length c := own_any12 h.row
theorem Wr13.here (h : Wr13 B w X g base tv nw v0 v xs) : Wr13 B X X g base tv nw v v xs := Wr13.new h.row h.blk h.bB (Nat.le_trans h.lh h.sz) h.gb h.Bg
theorem Wr13.below (h : Wr13 B w X g base tv nw v0 v xs) (hb : Below X.heap.size X Y) : Wr13 B w Y g base tv nw v0 v xs :=
  ⟨own_below h.row hb, (hb.block g h.lt).trans h.blk, h.bB.trans (hb.mono h.bB.size), Nat.le_trans h.sz hb.size, fun k hk h1 h2 => (hb.block k (Nat.lt_of_lt_of_le hk h.sz)).trans (h.kp k hk h1 h2), h.loc, h.lh, h.gb, h.Bg⟩
theorem Wr13.drew (h : Wr13 B w X g base tv nw v0 v xs) : Wr13 B w X.drew g base tv nw v0 v xs := h.below ⟨rfl, rfl, rfl, Nat.le_refl _, fun _ _ => rfl⟩
/-- A block that is none of these stays, and is none of these. -/
theorem Wr13.keep (h : Wr13 B w X g base tv nw v0 v xs) {k : Nat} (hk : k < w.heap.size) (hg : k ≠ g) (hne : v0.ownBlock ≠ some k) : X.heap[k]? = w.heap[k]? ∧ v.ownBlock ≠ some k := by
  refine ⟨h.kp k hk hg hne, fun e => ?_⟩
  rcases h.loc with hl | ⟨q, hq, hqw⟩
  · exact hne (hl.symm.trans e)
  · rw [hq] at e
    injection e with e
    omega
theorem Wr13.trans (h : Wr13 B w X g base tv nw v0 v xs) (h2 : Wr13 B X Y g base tv nw v u ys) : Wr13 B w Y g base tv nw v0 u ys := by
  refine ⟨h2.row, h2.blk, h2.bB, Nat.le_trans h.sz h2.sz, fun k hk hg hne => ?_, ?_, h.lh, h.gb, h.Bg⟩
  · obtain ⟨e1, e2⟩ := h.keep hk hg hne
    exact (h2.kp k (Nat.lt_of_lt_of_le hk h.sz) hg e2).trans e1
  · rcases h2.loc with e2 | ⟨q, hq, hqw⟩
    · rcases h.loc with e1 | ⟨q, hq, hqw⟩
      · exact Or.inl (e2.trans e1)
      · exact Or.inr ⟨q, e2.trans hq, hqw⟩
    · exact Or.inr ⟨q, hq, Nat.le_trans h.sz hqw⟩
/-- The code grows, and is put where it belongs. -/
theorem Wr13.store (h : Wr13 B w X g base tv nw v0 v xs) (hc : Co13 X Y base v u ys) : Wr13 B w (Y.setCell ⟨g, 2, none⟩ u) g base tv nw v0 u ys := by
  have hvg : v.ownBlock ≠ some g := fun e => by have := (h.row.lt g e).1; have := h.gb; omega
  have hYg : Y.heap[g]? = some (.cells #[tv, nw, v] 41 (0, 0)) := (hc.keep h.lt hvg).1.trans h.blk
  have hg2 := grown_set Y g 2 u
  refine h.trans ⟨own_other hc.row h.gb hg2, ?_, ?_, Nat.le_trans hc.g.size hg2.size, fun k hk hg hne => ?_, hc.loc, Nat.le_trans h.lh h.sz, h.gb, h.Bg⟩
  · rw [heap_setCell_same _ _ _ _ _ _ hYg]; rfl
  · have h1 : Below B.heap.size B Y := h.bB.grown hc.g h.bB.size (fun k e => by have := (h.row.lt k e).1; have := h.gb; have := h.Bg; omega)
    exact h1.grown hg2 h1.size (fun k e => by injection e with e; have := h.Bg; omega)
  · rw [hg2.block k (Nat.lt_of_lt_of_le hk hc.g.size) (by intro e; injection e with e; exact hg e)]
    exact (hc.keep hk hne).1
end

set_option maxHeartbeats 400000 in
set_option maxRecDepth 100000 in
theorem implBehind (g n : Nat) (a : Option Addr) (c : Nat) (X : World) (hc : X.cell? ⟨g, 2, none⟩ = some (.slice a n c)) (_hn : n ≤ 1048576) :
    Calls Tryz.prog 24 #[.pointer (some ⟨g, 0, none⟩)] X fun e w' => e = .returned (.int .i64 (n : Int)) ∧ w' = X := by
  go_enter Tryz.func24, Tryz.ntmps24
  go_wp2
  go_ret
  exact ⟨rfl, rfl⟩
/-- What write's region holds: the code's cell, and the instruction that came in. -/
structure Sw (X : World) (g gi : Nat) (v : Value) (x : In13) : Prop where
  c2 : X.cell? ⟨g, 2, none⟩ = some v
  f2 : X.frozen? ⟨g, 2, none⟩ = false
  i0 : X.cell? ⟨gi, 0, none⟩ = some (.int .i64 x.1)
  i1 : X.cell? ⟨gi, 1, none⟩ = some (.int .i64 x.2.1)
  i2 : X.cell? ⟨gi, 2, none⟩ = some (.int .i64 x.2.2.1)
  i3 : X.cell? ⟨gi, 3, none⟩ = some (.int .i64 x.2.2.2.1)
  i4 : X.cell? ⟨gi, 4, none⟩ = some (.string ⟨x.2.2.2.2.toArray⟩)
theorem Sw.keep {X Y : World} {g gi : Nat} {v : Value} {x : In13} (h : Sw X g gi v x) (h1 : Y.heap[g]? = X.heap[g]?) (h2 : Y.heap[gi]? = X.heap[gi]?) : Sw Y g gi v x :=
  ⟨(World.cell?_of_block (a := ⟨g, 2, none⟩) h1).trans h.c2, (World.frozen?_of_block (a := ⟨g, 2, none⟩) h1).trans h.f2, (World.cell?_of_block (a := ⟨gi, 0, none⟩) h2).trans h.i0, (World.cell?_of_block (a := ⟨gi, 1, none⟩) h2).trans h.i1, (World.cell?_of_block (a := ⟨gi, 2, none⟩) h2).trans h.i2, (World.cell?_of_block (a := ⟨gi, 3, none⟩) h2).trans h.i3, (World.cell?_of_block (a := ⟨gi, 4, none⟩) h2).trans h.i4⟩
theorem Sw.below {X Y : World} {g gi : Nat} {v : Value} {x : In13} (h : Sw X g gi v x) (hb : Below X.heap.size X Y) : Sw Y g gi v x :=
  h.keep (hb.block g (World.block_lt_of_cell? X ⟨g, 2, none⟩ h.c2)) (hb.block gi (World.block_lt_of_cell? X ⟨gi, 0, none⟩ h.i0))
set_option maxHeartbeats 4000000 in
set_option maxRecDepth 100000 in
theorem implWrite (B w : World) (g base : Nat) (tv nw v : Value) (xs : List In13) (x : In13) (h : Wr13 B w w g base tv nw v v xs) (hn : xs.length ≤ 1000000) :
    Calls Tryz.prog 23 #[.pointer (some ⟨g, 0, none⟩), insVal x] w fun e w' => e = .returned (.int .i64 (xs.length : Int)) ∧ ∃ u, Wr13 B w w' g base tv nw v u (xs ++ [x]) := by
  obtain ⟨k, R, A, Bq, nm⟩ := x
  have hb0 : Below w.heap.size w (w.alloc (.cells #[.int .i64 k, .int .i64 R, .int .i64 A, .int .i64 Bq, .string ⟨nm.toArray⟩] 30)) := (Below.refl _ _).alloc (Nat.le_refl _) _
  have hA := heap_alloc_new w (.cells #[.int .i64 k, .int .i64 R, .int .i64 A, .int .i64 Bq, .string ⟨nm.toArray⟩] 30)
  obtain ⟨W0, hW0⟩ : ∃ W0, w.alloc (.cells #[.int .i64 k, .int .i64 R, .int .i64 A, .int .i64 Bq, .string ⟨nm.toArray⟩] 30) = W0 := ⟨_, rfl⟩
  rw [hW0] at hb0 hA
  have h0 := (h.below hb0).drew
  obtain ⟨va, vc, rfl⟩ := h.val
  obtain ⟨gi, hgi⟩ : ∃ gi, w.heap.size = gi := ⟨_, rfl⟩
  rw [hgi] at hA
  have hgil : gi < W0.heap.size := lt_of_block hA
  have hgig : gi ≠ g := fun e => by have := h.lt; omega
  have hvi : (Value.slice va xs.length vc).ownBlock ≠ some gi := fun e => by have := (h.row.lt gi e).2; omega
  have sw : Hid (Sw W0.drew g gi (.slice va xs.length vc) (k, R, A, Bq, nm)) := ⟨h0.c2, h0.f2, (cell_of_row W0.drew _ _ _ _ _ hA).trans rfl, (cell_of_row W0.drew _ _ _ _ _ hA).trans rfl, (cell_of_row W0.drew _ _ _ _ _ hA).trans rfl, (cell_of_row W0.drew _ _ _ _ _ hA).trans rfl, (cell_of_row W0.drew _ _ _ _ _ hA).trans rfl⟩
  obtain ⟨a2, c2, Y2, hrun, hco⟩ := (Co13.new h0.row (Nat.le_trans h0.lh h0.sz)).push (k, R, A, Bq, nm) (by omega)
  have hst := h0.store hco
  have hY2g : Y2.heap[g]? = W0.drew.heap[g]? := (hco.keep h0.lt (fun e => by have := (h0.row.lt g e).1; have := h0.gb; omega)).1
  have hY2i : Y2.heap[gi]? = W0.drew.heap[gi]? := (hco.keep hgil hvi).1
  have HSY : Hid (Sw Y2 g gi (.slice va xs.length vc) (k, R, A, Bq, nm)) := sw.out.keep hY2g hY2i
  have hz := hst.c2
  have Hst : Hid (Wr13 B w (Y2.setCell ⟨g, 2, none⟩ (.slice a2 (xs.length + 1) c2)) g base tv nw (.slice va xs.length vc) (.slice a2 (xs.length + 1) c2) (xs ++ [(k, R, A, Bq, nm)])) := hst
  have y2 := HSY.out.c2
  have yf := HSY.out.f2
  have HBe : Hid (_) := implBehind g (xs.length + 1) a2 c2 (Y2.setCell ⟨g, 2, none⟩ (.slice a2 (xs.length + 1) c2)) hz (by omega)
  obtain ⟨Z, hZ⟩ : ∃ Z, Y2.setCell ⟨g, 2, none⟩ (.slice a2 (xs.length + 1) c2) = Z := ⟨_, rfl⟩
  rw [hZ] at Hst HBe
  obtain ⟨n, hnn⟩ : ∃ n, xs.length = n := ⟨_, rfl⟩
  rw [hnn] at hn hrun sw HSY y2 HBe Hst hZ ⊢
  unfold insVal
  dsimp only
  dsimp only at hrun
  clear h h0 hb0 hA hst hco hY2g hY2i hz hvi hnn hgil
  go_enter Tryz.func23, Tryz.ntmps23
  go_wp2
  refine Till.region (S := fun X => Sw X g gi (.slice va n vc) (k, R, A, Bq, nm)) (E := [10]) (by kernel_rfl) sw.out (fun hHeld hSh => ?_)
  refine Till.take (i := 0) (o := ⟨some 5, _, _, _, _, _⟩) (v := ?v0) (d := 30) rfl (by kernel_rfl) (by kernel_rfl) (by kernel_rfl) (by kernel_rfl) (fun _ _ _ h => h) (Or.inl ⟨by rfl, ?hy0⟩) (by assumption) hSh (fun hSh2 => ?rest0)
  case hy0 => (intro wq hSw; have q2 := hSw.c2; have j0 := hSw.i0; have j1 := hSw.i1; have j2 := hSw.i2; have j3 := hSw.i3; have j4 := hSw.i4; dsimp only at j0 j1 j2 j3 j4; clear hSw; first | (go_simp; done) | (go_simp; with_reducible rfl))
  clear hSh; rename Shut11 _ _ _ => hSh
  simp only [Act.put, List.setIfInBounds_toArray, List.set_cons_zero, List.set_cons_succ]
  refine Till.take (i := 1) (o := ⟨some 6, _, _, _, _, _⟩) (v := ?v1) (d := 30) rfl (by kernel_rfl) (by kernel_rfl) (by kernel_rfl) (by kernel_rfl) (fun _ _ _ h => h) (Or.inl ⟨by rfl, ?hy1⟩) (by assumption) hSh (fun hSh2 => ?rest1)
  case hy1 => (intro wq hSw; have q2 := hSw.c2; have j0 := hSw.i0; have j1 := hSw.i1; have j2 := hSw.i2; have j3 := hSw.i3; have j4 := hSw.i4; dsimp only at j0 j1 j2 j3 j4; clear hSw; first | (go_simp; done) | (go_simp; with_reducible rfl))
  clear hSh; rename Shut11 _ _ _ => hSh
  simp only [Act.put, List.setIfInBounds_toArray, List.set_cons_zero, List.set_cons_succ]
  refine Till.take (i := 2) (o := ⟨some 7, _, _, _, _, _⟩) (v := ?v2) (d := 30) rfl (by kernel_rfl) (by kernel_rfl) (by kernel_rfl) (by kernel_rfl) (fun _ _ _ h => h) (Or.inl ⟨by rfl, ?hy2⟩) (by assumption) hSh (fun hSh2 => ?rest2)
  case hy2 => (intro wq hSw; have q2 := hSw.c2; have j0 := hSw.i0; have j1 := hSw.i1; have j2 := hSw.i2; have j3 := hSw.i3; have j4 := hSw.i4; dsimp only at j0 j1 j2 j3 j4; clear hSw; first | (go_simp; done) | (go_simp; with_reducible rfl))
  clear hSh; rename Shut11 _ _ _ => hSh
  simp only [Act.put, List.setIfInBounds_toArray, List.set_cons_zero, List.set_cons_succ]
  refine Till.take (i := 3) (o := ⟨some 8, _, _, _, _, _⟩) (v := ?v3) (d := 30) rfl (by kernel_rfl) (by kernel_rfl) (by kernel_rfl) (by kernel_rfl) (fun _ _ _ h => h) (Or.inl ⟨by rfl, ?hy3⟩) (by assumption) hSh (fun hSh2 => ?rest3)
  case hy3 => (intro wq hSw; have q2 := hSw.c2; have j0 := hSw.i0; have j1 := hSw.i1; have j2 := hSw.i2; have j3 := hSw.i3; have j4 := hSw.i4; dsimp only at j0 j1 j2 j3 j4; clear hSw; first | (go_simp; done) | (go_simp; with_reducible rfl))
  clear hSh; rename Shut11 _ _ _ => hSh
  simp only [Act.put, List.setIfInBounds_toArray, List.set_cons_zero, List.set_cons_succ]
  refine Till.take (i := 4) (o := ⟨some 9, _, _, _, _, _⟩) (v := ?v4) (d := 30) rfl (by kernel_rfl) (by kernel_rfl) (by kernel_rfl) (by kernel_rfl) (fun _ _ _ h => h) (Or.inl ⟨by rfl, ?hy4⟩) (by assumption) hSh (fun hSh2 => ?rest4)
  case hy4 => (intro wq hSw; have q2 := hSw.c2; have j0 := hSw.i0; have j1 := hSw.i1; have j2 := hSw.i2; have j3 := hSw.i3; have j4 := hSw.i4; dsimp only at j0 j1 j2 j3 j4; clear hSw; first | (go_simp; done) | (go_simp; with_reducible rfl))
  clear hSh; rename Shut11 _ _ _ => hSh
  simp only [Act.put, List.setIfInBounds_toArray, List.set_cons_zero, List.set_cons_succ]
  refine Till.take (i := 5) (o := ⟨some 10, _, _, _, _, _⟩) (v := ?v5) (d := 30) rfl (by kernel_rfl) (by kernel_rfl) (by kernel_rfl) (by kernel_rfl) (fun _ _ _ h => h) (Or.inl ⟨by rfl, ?hy5⟩) (by assumption) hSh (fun hSh2 => ?rest5)
  case hy5 => (intro wq hSw; have q2 := hSw.c2; have j0 := hSw.i0; have j1 := hSw.i1; have j2 := hSw.i2; have j3 := hSw.i3; have j4 := hSw.i4; dsimp only at j0 j1 j2 j3 j4; clear hSw; first | (go_simp; done) | (go_simp; with_reducible rfl))
  clear hSh; rename Shut11 _ _ _ => hSh
  simp only [Act.put, List.setIfInBounds_toArray, List.set_cons_zero, List.set_cons_succ]
  refine Till.one (i := 6) (by kernel_rfl) rfl hSh (fun K hK => ?_)
  clear hSh
  go_simp
  refine hK.out _ _ (by exact hHeld.below ((Below.refl _ _).alloc (Nat.le_refl _) _)) (fun hHeld hSh => ?_)
  clear hK K
  refine Till.one (i := 7) (by kernel_rfl) rfl hSh (fun K hK => ?_)
  clear hSh
  refine step_append_run (by rfl) (.tmp 9) (.tmp 11) 26 (by rfl) _ _ _ (by rfl) (by rfl) hrun ?_
  refine hK.out _ _ (by exact HSY.out) (fun hHeld hSh => ?_)
  clear hK K
  (try simp only [Act.put, List.setIfInBounds_toArray])
  refine Till.take (i := 8) (o := ⟨some 13, _, _, _, _, _⟩) (v := ?v8) (d := 30) rfl (by kernel_rfl) (by kernel_rfl) (by kernel_rfl) (by kernel_rfl) (fun _ _ _ h => h) (Or.inl ⟨by rfl, ?hy8⟩) (by assumption) hSh (fun hSh2 => ?rest8)
  case hy8 => (intro wq hSw; have q2 := hSw.c2; have j0 := hSw.i0; have j1 := hSw.i1; have j2 := hSw.i2; have j3 := hSw.i3; have j4 := hSw.i4; dsimp only at j0 j1 j2 j3 j4; clear hSw; first | (go_simp; done) | (go_simp; with_reducible rfl))
  clear hSh; rename Shut11 _ _ _ => hSh
  simp only [Act.put]
  refine Till.take (i := 9) (o := ⟨some 14, _, _, _, _, _⟩) (v := ?v9) (d := 30) rfl (by kernel_rfl) (by kernel_rfl) (by kernel_rfl) (by kernel_rfl) (fun _ _ _ h => h) (Or.inl ⟨by rfl, ?hy9⟩) (by assumption) hSh (fun hSh2 => ?rest9)
  case hy9 => (intro wq hSw; have q2 := hSw.c2; have j0 := hSw.i0; have j1 := hSw.i1; have j2 := hSw.i2; have j3 := hSw.i3; have j4 := hSw.i4; dsimp only at j0 j1 j2 j3 j4; clear hSw; first | (go_simp; done) | (go_simp; with_reducible rfl))
  clear hSh; rename Shut11 _ _ _ => hSh
  simp only [Act.put]
  refine Till.last (i := 10) (by kernel_rfl) rfl (by decide) (fun K hK => ?_)
  go_simp
  refine hK.out _ _ ?_
  clear hK K
  refine Till.done (by kernel_rfl) ?_ _
  clear hHeld hSh HSY sw hrun y2 yf
  go_wp2_with fail
  refine Calls.mono HBe.out ?_
  rintro e w3 ⟨rfl, rfl⟩
  go_wp2
  go_ret
  exact ⟨rfl, _, Hst.out⟩

end Go.Proofs.YtnpbckgaeaameaaGreat

/-! Contracts of chapter 12's landed code: needOfCall, and the two closures that tell what a pair takes. -/
namespace Go.Proofs.YtnpbckgaeaameaaGreat
open Go.RowKit

def cn (ks : List Nat) : Nat → Nat
  | 0 => 1
  | j + 1 => gr [cn ks j, ks.getD j 0 + j]
/-- What needOfCall holds in a round. -/
structure Cl (w X : World) (g2 g3 g5 m k : Nat) : Prop where
  g : Gr w X g2 g3 m
  p : Nb X g5 0 k
  h : g3 < g5
theorem Cl.below {w X Y : World} {g2 g3 g5 m k : Nat} (s : Cl w X g2 g3 g5 m k) (hb : Below X.heap.size X Y) : Cl w Y g2 g3 g5 m k := ⟨s.g.below hb, s.p.below hb, s.h⟩
theorem Cl.drew {w X : World} {g2 g3 g5 m k : Nat} (s : Cl w X g2 g3 g5 m k) : Cl w X.drew g2 g3 g5 m k := s.below ⟨rfl, rfl, rfl, Nat.le_refl _, fun _ _ => rfl⟩

set_option maxHeartbeats 4000000 in
set_option maxRecDepth 100000 in
theorem implNeedOfCall (a : Option Addr) (n c : Nat) (ks : List Nat) (w : World) (hn : ks.length = n) (hin : NsIn w a ks) (hnl : n ≤ 1000000) :
    Calls Tryz.prog 75 #[.slice a n c] w fun e w' => e = .returned (.agg (nv (cn ks n))) ∧ Below w.heap.size w w' := by
  have HIn : Hid (∀ X, Below w.heap.size w X → NsIn X a ks) := fun X hb => hin.below hb
  have HN : Hid (ks.length = n) := hn
  clear hin hn
  go_enter Tryz.func75, Tryz.ntmps75
  go_wp2_with (guard_target = wpList _ _ _ _ _ _; (refine list_alloc_nv rfl rfl 2 rfl (fun Y2 g2 hN2 hB2 hG2 => ?_)))
  refine (implGreatest none 0 0 [] _ rfl (fun j hj => by simp at hj) (by omega)).mono ?_
  rintro e W1 ⟨rfl, hb1⟩
  go_wp2_with (guard_target = wpList _ _ _ _ _ _; first | (refine list_alloc_nv rfl rfl 3 rfl (fun Y3 g3 hN3 hB3 hG3 => ?_)) | (refine list_store_nv rfl _ _ rfl _ _ (gr []) rfl rfl hN3.ok (fun Y4 hN4 hG4 => ?_)))
  have HS : Hid (Gr w Y4 g2 g3 (cn ks 0)) := by
    have l2 := hN2.lt; have l3 := hN3.lt
    have s1 := hb1.size
    have b2 := hB2.trans (hb1.mono hB2.size)
    have b3 := b2.trans (hB3.mono b2.size)
    exact ⟨((hN2.below hb1).below hB3).kept hG4 (by simp; omega), hN4, by omega, hG2, b3.grown hG4 b3.size (fun q e => by injection e with e; have := hB2.size; omega)⟩
  clear hN2 hB2 hG2 hN3 hB3 hG3 hN4 hG4 hb1
  go_loopw [9] (fun jv wx => ∃ j : Nat, jv = .int .i64 (j : Int) ∧ j ≤ n ∧ Hid (Gr w wx g2 g3 (cn ks j))) (fun jv _ => n - (intOf jv).toNat)
  case atStart => exact ⟨0, rfl, Nat.zero_le _, HS⟩
  case round =>
    obtain ⟨j, rfl, hj, st⟩ := hrel
    clear HS
    by_cases hlt : (j : Int) < (n : Int)
    · obtain ⟨b, off, rfl, hbl, hrg⟩ := HIn.out wr st.out.b j (by rw [HN.out]; omega)
      have HSn : Hid (cn ks (j + 1) = gr [cn ks j, ks.getD j 0 + j]) := by exact (rfl : cn ks (j + 1) = gr [cn ks j, ks.getD j 0 + j])
      obtain ⟨k, hk⟩ : ∃ k, ks.getD j 0 = k := ⟨_, rfl⟩
      obtain ⟨m, hm⟩ : ∃ m, cn ks j = m := ⟨_, rfl⟩
      rw [hk] at hrg HSn
      rw [hm] at st HSn
      clear hk hm
      go_wp2_with (guard_target = wpList _ _ _ _ _ _; first | (refine list_load_nv rfl _ rfl 13 rfl _ _ k rfl (by exact hrg) ?_) | (refine list_alloc_nv rfl rfl 5 rfl (fun Y5 g5 hN5 hB5 hG5 => ?_)) | (refine list_store_nv rfl _ _ rfl _ _ k rfl rfl hN5.ok (fun Y6 hN6 hG6 => ?_)))
      have sc : Hid (Cl w Y6 g2 g3 g5 m k) := ⟨(st.out.below hB5).kept hG6 (by have := st.out.n.lt; omega), hN6, by have := st.out.n.lt; omega⟩
      clear hN5 hB5 hG5 hN6 hG6 hrg st
      refine Till.region (S := fun X => Cl w X g2 g3 g5 m k) (E := [6]) (by kernel_rfl) sc.out.drew (fun hHeld hSh => ?_)
      refine Till.take (i := 0) (o := ⟨some 14, _, _, _, _, _⟩) (v := .agg (nv m)) (d := 30) rfl (by kernel_rfl) (by kernel_rfl) (by kernel_rfl) (by kernel_rfl) (fun _ _ _ h => h) (yields_load_nv (by rfl) _ rfl g3 0 m rfl (fun v h => h.g.n.cs)) (by assumption) hSh (fun hSh2 => ?_)
      clear hSh; rename Shut11 _ _ _ => hSh
      simp only [Act.put, List.setIfInBounds_toArray, List.set_cons_zero, List.set_cons_succ]
      refine Till.take (i := 1) (o := ⟨some 15, _, _, _, _, _⟩) (v := .agg (nv k)) (d := 30) rfl (by kernel_rfl) (by kernel_rfl) (by kernel_rfl) (by kernel_rfl) (fun _ _ _ h => h) (yields_load_nv (by rfl) _ rfl g5 0 k rfl (fun v h => h.p.cs)) (by assumption) hSh (fun hSh2 => ?_)
      clear hSh; rename Shut11 _ _ _ => hSh
      simp only [Act.put, List.setIfInBounds_toArray, List.set_cons_zero, List.set_cons_succ]
      refine Till.take (i := 2) (o := ⟨some 16, _, _, _, _, _⟩) (v := ?v2) (d := 30) rfl (by kernel_rfl) (by kernel_rfl) (by kernel_rfl) (by kernel_rfl) (fun _ _ _ h => h) (Or.inl ⟨by rfl, ?hy2⟩) (by assumption) hSh (fun hSh2 => ?rest2)
      case hy2 => (intro wq hSw; first | (go_simp; done) | (go_simp; with_reducible rfl))
      clear hSh; rename Shut11 _ _ _ => hSh
      simp only [Act.put, List.setIfInBounds_toArray, List.set_cons_zero, List.set_cons_succ]
      refine Till.one (i := 3) (by kernel_rfl) rfl hSh (fun K hK => ?_)
      clear hSh
      go_simp
      refine (implAbove k j _ (by omega)).mono ?_
      rintro e W2 ⟨rfl, hb2⟩
      dsimp only
      refine hK.out _ _ (by exact hHeld.below hb2) (fun hHeld hSh => ?_)
      clear hK K
      (try simp only [Act.put, List.setIfInBounds_toArray, List.set_cons_zero, List.set_cons_succ])
      refine Till.one (i := 4) (by kernel_rfl) rfl hSh (fun K hK => ?_)
      clear hSh
      refine step_of_wp rfl (wp_slice2_nv _ _ rfl m (k + j) rfl rfl (fun W3 g4 hn3 hb3 _ => ?_))
      refine hK.out _ _ (by exact hHeld.below hb3) (fun hHeld hSh => ?_)
      clear hK K
      (try simp only [Act.put, List.setIfInBounds_toArray])
      refine Till.one (i := 5) (by kernel_rfl) rfl hSh (fun K hK => ?_)
      clear hSh
      go_simp
      refine (implGreatest _ 2 2 [m, k + j] _ rfl hn3 (by omega)).mono ?_
      rintro e W4 ⟨rfl, hb4⟩
      dsimp only
      refine hK.out _ _ (by exact hHeld.below hb4) (fun hHeld hSh => ?_)
      clear hK K
      (try simp only [Act.put, List.setIfInBounds_toArray, List.set_cons_zero, List.set_cons_succ])
      refine Till.last (i := 6) (by kernel_rfl) rfl (by decide) (fun K hK => ?_)
      refine step_of_wp rfl (wp_store_nv _ _ rfl g3 0 (gr [m, k + j]) rfl rfl hHeld.g.n.ok (fun W5 hn5 hg5 hE5 => ?_))
      clear hE5
      have HR : Hid (Gr w W5 g2 g3 (cn ks (j + 1))) := by
        rw [HSn.out]
        have := hHeld.g.h0; have := hHeld.g.h2
        exact ⟨hHeld.g.r.kept hg5 (by simp; omega), hn5, hHeld.g.h2, hHeld.g.h0, hHeld.g.b.grown hg5 hHeld.g.b.size (fun q e => by injection e with e; omega)⟩
      refine hK.out _ _ ?_
      clear hK K
      (try simp only [Act.put, List.setIfInBounds_toArray])
      refine Till.done (by kernel_rfl) ?_ _
      clear hHeld hSh sc hn3 hn5 hg5 hb2 hb3 hb4
      go_wp2
      go_roundw
      case rel => exact ⟨j + 1, by go_num, by omega, HR⟩
      case measure => simp [intOf]; omega
    · have HE : Hid (j = n) := by exact (by omega : j = n)
      rw [HE.out] at st
      go_wp2_with (guard_target = wpList _ _ _ _ _ _; first | (refine list_load_nv rfl _ rfl 21 rfl _ _ (cn ks n) rfl (by exact st.out.n.cs) ?_) | (refine list_store_nv rfl _ _ rfl _ _ (cn ks n) rfl rfl st.out.r.ok (fun Y5 hN5 hG5 => ?_)))
      refine bodyPost_ret (v := .agg (nv (cn ks n))) (results_nv Tryz.results75 _ _ g2 (cn ks n) rfl hN5.cs) rfl ⟨rfl, ?_⟩
      exact st.out.b.grown hG5 st.out.b.size (fun q e => by injection e with e; have := st.out.h0; omega)

set_option maxHeartbeats 4000000 in
set_option maxRecDepth 100000 in
theorem implLeast1 (q : Int) (x y : Nat) (w : World) (hx : x ≤ 60) (hy : y ≤ 60) :
    Calls Tryz.prog 41 #[.int .i64 q, .agg (nv x), .agg (nv y)] w fun e w' => e = .returned (.agg (nv (pairN x y))) ∧ Below w.heap.size w w' := by
  go_enter Tryz.func41, Tryz.ntmps41
  go_wp2_with (guard_target = wpList _ _ _ _ _ _; first | (refine list_box_nv rfl _ rfl 4 rfl x rfl (fun Y1 g1 hN1 hB1 hG1 => ?_)) | (refine list_box_nv rfl _ rfl 5 rfl y rfl (fun Y2 g2 hN2 hB2 hG2 => ?_)) | (refine list_alloc_nv rfl rfl 6 rfl (fun Y3 g3 hN3 hB3 hG3 => ?_)) | (refine list_load_nv rfl _ rfl 7 rfl _ _ x rfl (by exact (Tw.start hN1 hB1 hG1 hN2 hB2 hG2 hN3 hB3 hG3).a.cs) ?_) | (refine list_load_nv rfl _ rfl 8 rfl _ _ y rfl (by exact (Tw.start hN1 hB1 hG1 hN2 hB2 hG2 hN3 hB3 hG3).b.cs) ?_))
  refine (implNeedOfPair x y _ hx hy).mono ?_
  rintro e W5 ⟨rfl, hb5⟩
  have st := (Tw.start hN1 hB1 hG1 hN2 hB2 hG2 hN3 hB3 hG3).below hb5
  go_wp2_with (guard_target = wpList _ _ _ _ _ _; (refine list_store_nv rfl _ _ rfl _ _ (pairN x y) rfl rfl st.r (fun Y6 hN6 hG6 => ?_)))
  refine bodyPost_ret (v := .agg (nv (pairN x y))) (results_nv Tryz.results41 _ _ g3 (pairN x y) rfl hN6.cs) rfl ⟨rfl, ?_⟩
  exact (st.kept hG6 hN6).bl


end Go.Proofs.YtnpbckgaeaameaaGreat

/-! Plain facts of chapter 12's landed code: what it makes of a node's parts is what the tree takes there. -/
namespace Go.Proofs.YtnpbckgaeaameaaGreat
open Go.RowKit

theorem need_fuelO {s : List Nd} (h : One s) (os : List Int) : ∀ (d d' : Nat) (t post : List Nd) (a : Nat), s.length ≤ d → s.length ≤ d' → t.drop a = s ++ post → need12 d t os (a : Int) = need12 d' t os (a : Int) := by
  induction h with
  | mk n ks hn hk ho ih =>
    intro d d' t post a hd hd' ht
    rcases d with _ | d
    · simp at hd
    rcases d' with _ | d'
    · simp at hd'
    obtain ⟨e1, e2, e3⟩ := pts_sub ht hk ho
    rw [need12, need12]
    congr 1
    refine List.ext_getElem (by simp) (fun i h1 h2 => ?_)
    rw [List.length_map, e2] at h1
    obtain ⟨post', e4, e5⟩ := e3 i h1
    have hm : ks.getD i [] ∈ ks := getD_mem11 h1
    have hl : (ks.getD i []).length ≤ ks.flatten.length := (List.sublist_flatten_of_mem hm).length_le
    simp only [List.length_cons] at hd hd'
    have h3 := ih _ hm d d' t post' _ (by omega) (by omega) e5
    rw [← e4] at h3
    have hp : i < (pts10 t (a : Int)).length := by rw [e2]; exact h1
    simpa [List.getD, hp] using h3
def nd12 (t : List Nd) (os : List Int) (q : Nat) : Nat := (need12 60 t os (q : Int)).toNat
def stepN (F : Nat → Nat → Nat → Nat) (q : Nat) (n : Nd) (ks : List Nat) : Nat := if pairB n = true then F q (ks.getD 0 0) (ks.getD 1 0) else if n.1 = 8 then cn ks ks.length else gr ks

theorem gr_two (x y : Nat) : gr [x, y] = max (max 1 x) y := rfl
theorem cn_pos (ks : List Nat) : ∀ j, 1 ≤ cn ks j
  | 0 => Nat.le_refl 1
  | j + 1 => by rw [cn, gr_two]; omega
theorem most12_snoc : ∀ (l : List Int) (x i m : Int), most12 (l ++ [x]) i m = max (most12 l i m) (x + (i + l.length))
  | [], x, i, m => by simp [most12]
  | y :: r, x, i, m => by
    rw [List.cons_append, most12, most12, most12_snoc r x (i + 1) _]
    simp only [List.length_cons]
    rw [show x + (i + 1 + (r.length : Int)) = x + (i + ((r.length + 1 : Nat) : Int)) by omega]
theorem cn_most (l : List Int) (ks : List Nat) (hl : l.length = ks.length) (h : ∀ i, i < l.length → l.getD i 0 = (ks.getD i 0 : Int)) : ∀ j, j ≤ l.length → (cn ks j : Int) = most12 (l.take j) 0 1
  | 0, _ => by simp [cn, most12]
  | j + 1, hj => by
    have ih := cn_most l ks hl h j (by omega)
    have hp := cn_pos ks j
    have hx := h j (by omega)
    have hg : l.getD j 0 = l[j] := by simp [List.getD, show j < l.length by omega]
    rw [List.take_succ_eq_append_getElem (by omega), most12_snoc, ← hg, hx, ← ih, cn, gr_two, List.length_take, Nat.min_eq_left (by omega)]
    omega

/-- What the landed code makes of a node is what the tree takes there. -/
theorem nd_step {t : List Nd} {os : List Int} (ht : treeB t = true) {F : Nat → Nat → Nat → Nat} (hF : ∀ q x y : Nat, 1 ≤ x → 1 ≤ y → q < t.length → (F q x y : Int) = pair12 (ord12 os (q : Int)) x y) {q : Nat} (hq : q < t.length) :
    nd12 t os q = stepN F q (t.getD q nd0) ((pts10 t (q : Int)).map (fun p => nd12 t os p.toNat)) := by
  obtain ⟨h60, hone⟩ := treeB_one.1 ht
  have hend := tree_ends hone hq
  obtain ⟨s, post, e, hs⟩ := sub_of hend
  cases hs with
  | mk n ks hn hk ho =>
    obtain ⟨e1, e2, e3⟩ := pts_sub e hk ho
    have hlen : (n :: ks.flatten).length ≤ 60 := by
      have h2 := congrArg List.length e
      simp only [List.length_drop, List.length_append] at h2
      omega
    have hpart : ∀ i, i < ks.length → (nd12 t os ((pts10 t (q : Int)).getD i 0).toNat : Int) = need12 59 t os ((pts10 t (q : Int)).getD i 0) ∧ 1 ≤ need12 59 t os ((pts10 t (q : Int)).getD i 0) := fun i hi => by
      obtain ⟨post', e4, e5⟩ := e3 i hi
      have hm : ks.getD i [] ∈ ks := getD_mem11 hi
      have hl : (ks.getD i []).length ≤ ks.flatten.length := (List.sublist_flatten_of_mem hm).length_le
      simp only [List.length_cons] at hlen
      rw [e4]
      have h1 := need_fuelO (ho _ hm) os 60 59 t post' _ (by omega) (by omega) e5
      have h2 := need_bd (ho _ hm) os 59 t post' _ (by omega) e5
      unfold nd12
      rw [Int.toNat_natCast, h1]
      omega
    have hke : ∀ i, i < ks.length → ((pts10 t (q : Int)).map (fun p => nd12 t os p.toNat)).getD i 0 = nd12 t os ((pts10 t (q : Int)).getD i 0).toNat := fun i hi => by
      have hp : i < (pts10 t (q : Int)).length := by rw [e2]; exact hi
      simp [List.getD, hp]
    have hkn : ∀ i, i < ks.length → ((pts10 t (q : Int)).map (need12 59 t os)).getD i 0 = need12 59 t os ((pts10 t (q : Int)).getD i 0) := fun i hi => by
      rw [map_getD12 (by rw [e2]; exact hi)]
    have hgoal : (nd12 t os q : Int) = mk12 (ord12 os (q : Int)) n ((pts10 t (q : Int)).map (need12 59 t os)) := by
      have hbd := need_bd (One.mk n ks hn hk ho) os 60 t post q hlen e
      have hu : need12 60 t os (q : Int) = mk12 (ord12 os (q : Int)) n ((pts10 t (q : Int)).map (need12 59 t os)) := by rw [need12, Int.toNat_natCast, e1]
      unfold nd12
      rw [← hu]
      omega
    rw [e1]
    refine Int.ofNat.inj ?_
    show (nd12 t os q : Int) = ((stepN F q n _ : Nat) : Int)
    rw [hgoal]
    unfold mk12 stepN pairB
    by_cases h36 : 3 ≤ n.1 ∧ n.1 ≤ 6
    · have hk2 := kids_four h36
      have p0 := hpart 0 (by omega)
      have p1 := hpart 1 (by omega)
      rw [if_pos h36, if_pos (by rw [decide_eq_true h36.1, decide_eq_true h36.2]; rfl), hkn 0 (by omega), hkn 1 (by omega), hke 0 (by omega), hke 1 (by omega), hF q _ _ (by omega) (by omega) hq, p0.1, p1.1]
    · have hpb : ¬ (decide (3 ≤ n.1) && decide (n.1 ≤ 6)) = true := fun h => by
        rw [Bool.and_eq_true, decide_eq_true_iff, decide_eq_true_iff] at h
        exact h36 h
      rw [if_neg h36, if_neg hpb]
      by_cases h7 : n.1 = 7
      · have hk3 := kids_seven h7
        have p0 := hpart 0 (by omega)
        have p1 := hpart 1 (by omega)
        have p2 := hpart 2 (by omega)
        have hl3 : (pts10 t (q : Int)).length = 3 := by omega
        rw [if_pos h7, if_neg (by omega), hkn 0 (by omega), hkn 1 (by omega), hkn 2 (by omega)]
        obtain ⟨a0, a1, a2, ha⟩ : ∃ x y z, pts10 t (q : Int) = [x, y, z] := by
          match pts10 t (q : Int), hl3 with
          | [x, y, z], _ => exact ⟨x, y, z, rfl⟩
        rw [ha] at p0 p1 p2 ⊢
        simp only [show ([a0, a1, a2] : List Int).getD 0 0 = a0 from rfl, show ([a0, a1, a2] : List Int).getD 1 0 = a1 from rfl, show ([a0, a1, a2] : List Int).getD 2 0 = a2 from rfl] at p0 p1 p2 ⊢
        show _ = ((max (max (max 1 (nd12 t os a0.toNat)) (nd12 t os a1.toNat)) (nd12 t os a2.toNat) : Nat) : Int)
        omega
      · rw [if_neg h7]
        by_cases h8 : n.1 = 8
        · rw [if_pos h8]
          have hc := cn_most ((pts10 t (q : Int)).map (need12 59 t os)) ((pts10 t (q : Int)).map (fun p => nd12 t os p.toNat)) (by simp) (fun i hi => by
            rw [List.length_map, e2] at hi
            rw [hkn i hi, hke i hi, (hpart i hi).1]) (pts10 t (q : Int)).length (by simp)
          rw [List.take_of_length_le (by simp)] at hc
          rw [← hc, List.length_map]
        · rw [if_neg h8]
          have hk0 : kidsN n = 0 := by
            unfold kidsN
            rw [if_neg h36, if_neg h7, if_neg h8]
          have hl0 : pts10 t (q : Int) = [] := List.eq_nil_of_length_eq_zero (by omega)
          rw [hl0]
          rfl
theorem nd_range {t : List Nd} {os : List Int} (ht : treeB t = true) {q : Nat} (hq : q < t.length) : 1 ≤ nd12 t os q ∧ nd12 t os q ≤ 60 ∧ (nd12 t os q : Int) = need12 60 t os (q : Int) := by
  obtain ⟨h60, hone⟩ := treeB_one.1 ht
  have := need_at (os := os) (d := 60) (tree_ends hone hq) (by omega) h60
  unfold nd12
  omega
theorem pair_least (t : List Nd) (q x y : Nat) (hx : 1 ≤ x) (_hy : 1 ≤ y) (_ : q < t.length) : (pairN x y : Int) = pair12 (ord12 [] (q : Int)) x y := by
  unfold pairN ord12
  rw [if_pos rfl]
  unfold pair12
  simp only
  by_cases e : x = y
  · subst e; rw [if_pos rfl, if_pos rfl]; omega
  · rw [if_neg e, if_neg (by omega), gr_two]; omega
/-- A part's place. -/
theorem part_at {t : List Nd} (ht : treeB t = true) {q i : Nat} (hq : q < t.length) (hi : i < (pts10 t (q : Int)).length) : ∃ p : Nat, (pts10 t (q : Int)).getD i 0 = (p : Int) ∧ q < p ∧ p < t.length := by
  obtain ⟨_, hone⟩ := treeB_one.1 ht
  have hk : (pts10 t (q : Int)).length = kidsN (t.getD q nd0) := by unfold pts10; rw [partsGo_len, Int.toNat_natCast]
  obtain ⟨p, h1, h2, h3⟩ := need_place (tree_ends hone hq) (by rw [← hk]; exact hi)
  refine ⟨p, h1, h2, ?_⟩
  rcases Nat.lt_or_ge p t.length with h | h
  · exact h
  · rw [endV_out t (p : Int) (Or.inr (by omega))] at h3
    omega
theorem parts_at {t : List Nd} (ht : treeB t = true) {q : Nat} (hq : q < t.length) : partsV t (q : Int) = pts10 t (q : Int) := by
  obtain ⟨_, hone⟩ := treeB_one.1 ht
  have := tree_ends hone hq
  unfold partsV
  rw [if_neg (by omega)]
  rfl

end Go.Proofs.YtnpbckgaeaameaaGreat
