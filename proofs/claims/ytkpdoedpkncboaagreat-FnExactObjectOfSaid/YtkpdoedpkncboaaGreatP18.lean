/-
  Parts of one proof, one behind the other: WrA, NeedD, NeedM, NeedE, NeedI, NeedJ.
-/
import Derived.Test.YtkpdoedpkncboaaGreatP17
import Derived.Test.YtkpdoedpkncboaaGreatP15
import Derived.Test.YtkpdoedpkncboaaGreatP1
import Derived.Test.YtkpdoedpkncboaaGreatP14
import Derived.Test.YtkpdoedpkncboaaGreatP13
import Derived.Laws.EntriesVeiled
namespace Go.Proofs.YtkpdoedpkncboaaGreat
open Go.RowKit
structure Wr13 (B w X : World) (g base : Nat) (tv nw v0 v : Value) (xs : List In13) : Prop where
 row : X.ownsRow base 88 5 v xs.length (insV xs)
 blk : X.heap[g]? = some (.cells #[tv, nw, v] 108 (0, 0))
 bB : Below B.heap.size B X
 sz : w.heap.size ≤ X.heap.size
 kp : ∀ k, k < w.heap.size → k ≠ g → v0.ownBlock ≠ some k → X.heap[k]? = w.heap[k]?
 loc : v.ownBlock = v0.ownBlock ∨ ∃ k, v.ownBlock = some k ∧ w.heap.size ≤ k
 lh : base ≤ w.heap.size
 gb : g < base
 Bg : B.heap.size ≤ g
section
variable {B w X Y : World} {g base : Nat} {tv nw v0 v u : Value} {xs ys : List In13}
theorem Wr13.new (row : w.ownsRow base 88 5 v xs.length (insV xs)) (blk : w.heap[g]? = some (.cells #[tv, nw, v] 108 (0, 0))) (bB : Below B.heap.size B w) (lh : base ≤ w.heap.size) (gb : g < base) (Bg : B.heap.size ≤ g) : Wr13 B w w g base tv nw v v xs :=
 ⟨row, blk, bB, Nat.le_refl _, fun _ _ _ _ => rfl, Or.inl rfl, lh, gb, Bg⟩
theorem Wr13.lt (h : Wr13 B w X g base tv nw v0 v xs) : g < X.heap.size := lt_of_block h.blk
theorem Wr13.c0 (h : Wr13 B w X g base tv nw v0 v xs) : X.cell? ⟨g, 0, none⟩ = some tv := by rw [cell_of_row _ _ _ _ _ _ h.blk]; rfl
theorem Wr13.c1 (h : Wr13 B w X g base tv nw v0 v xs) : X.cell? ⟨g, 1, none⟩ = some nw := by rw [cell_of_row _ _ _ _ _ _ h.blk]; rfl
theorem Wr13.c2 (h : Wr13 B w X g base tv nw v0 v xs) : X.cell? ⟨g, 2, none⟩ = some v := by rw [cell_of_row _ _ _ _ _ _ h.blk]; rfl
theorem Wr13.f2 (h : Wr13 B w X g base tv nw v0 v xs) : X.frozen? ⟨g, 2, none⟩ = false := frozen_of_row _ _ _ _ _ h.blk
theorem Wr13.val (h : Wr13 B w X g base tv nw v0 v xs) : ∃ a c, v = .slice a xs.length c := zaE h.row
theorem Wr13.here (h : Wr13 B w X g base tv nw v0 v xs) : Wr13 B X X g base tv nw v v xs := Wr13.new h.row h.blk h.bB (Nat.le_trans h.lh h.sz) h.gb h.Bg
theorem Wr13.below (h : Wr13 B w X g base tv nw v0 v xs) (hb : Below X.heap.size X Y) : Wr13 B w Y g base tv nw v0 v xs :=
 ⟨za2 h.row hb, (hb.block g h.lt).trans h.blk, h.bB.trans (hb.mono h.bB.size), Nat.le_trans h.sz hb.size, fun k hk h1 h2 => (hb.block k (Nat.lt_of_lt_of_le hk h.sz)).trans (h.kp k hk h1 h2), h.loc, h.lh, h.gb, h.Bg⟩
theorem Wr13.drew (h : Wr13 B w X g base tv nw v0 v xs) : Wr13 B w X.drew g base tv nw v0 v xs := h.below ⟨rfl, rfl, rfl, Nat.le_refl _, fun _ _ => rfl⟩
theorem Wr13.keep (h : Wr13 B w X g base tv nw v0 v xs) {k : Nat} (hk : k < w.heap.size) (hg : k ≠ g) (hne : v0.ownBlock ≠ some k) : X.heap[k]? = w.heap[k]? ∧ v.ownBlock ≠ some k := by
 refine ⟨h.kp k hk hg hne, fun e => ?_⟩
 rcases h.loc with hl | ⟨q, hq, hqw⟩
 ·
  exact hne (hl.symm.trans e)
 ·
  rw [hq] at e
  injection e with e
  omega
theorem Wr13.trans (h : Wr13 B w X g base tv nw v0 v xs) (h2 : Wr13 B X Y g base tv nw v u ys) : Wr13 B w Y g base tv nw v0 u ys := by
 refine ⟨h2.row, h2.blk, h2.bB, Nat.le_trans h.sz h2.sz, fun k hk hg hne => ?_, ?_, h.lh, h.gb, h.Bg⟩
 ·
  obtain ⟨e1, e2⟩ := h.keep hk hg hne
  exact (h2.kp k (Nat.lt_of_lt_of_le hk h.sz) hg e2).trans e1
 ·
  rcases h2.loc with e2 | ⟨q, hq, hqw⟩
  ·
   rcases h.loc with e1 | ⟨q, hq, hqw⟩
   ·
    exact Or.inl (e2.trans e1)
   ·
    exact Or.inr ⟨q, e2.trans hq, hqw⟩
  ·
   exact Or.inr ⟨q, hq, Nat.le_trans h.sz hqw⟩
theorem Wr13.store (h : Wr13 B w X g base tv nw v0 v xs) (hc : Co13 X Y base v u ys) : Wr13 B w (Y.setCell ⟨g, 2, none⟩ u) g base tv nw v0 u ys := by
 have hvg : v.ownBlock ≠ some g := fun e => by have := (h.row.lt g e).1; have := h.gb; omega
 have hYg : Y.heap[g]? = some (.cells #[tv, nw, v] 108 (0, 0)) := (hc.keep h.lt hvg).1.trans h.blk
 have hg2 := zaC Y g 2 u
 refine h.trans ⟨zaz hc.row h.gb hg2, ?_, ?_, Nat.le_trans hc.g.size hg2.size, fun k hk hg hne => ?_, hc.loc, Nat.le_trans h.lh h.sz, h.gb, h.Bg⟩
 ·
  rw [heap_setCell_same _ _ _ _ _ _ hYg]; rfl
 ·
  have h1 : Below B.heap.size B Y := h.bB.grown hc.g h.bB.size (fun k e => by have := (h.row.lt k e).1; have := h.gb; have := h.Bg; omega)
  exact h1.grown hg2 h1.size (fun k e => by injection e with e; have := h.Bg; omega)
 ·
  rw [hg2.block k (Nat.lt_of_lt_of_le hk hc.g.size) (by intro e; injection e with e; exact hg e)]
  exact (hc.keep hk hne).1
end
set_option maxHeartbeats 400000 in
set_option maxRecDepth 100000 in
theorem zdb (g n : Nat) (a : Option Addr) (c : Nat) (X : World) (hc : X.cell? ⟨g, 2, none⟩ = some (.slice a n c)) (_hn : n ≤ 1048576) :
 Calls Tryz.prog 82 #[.pointer (some ⟨g, 0, none⟩)] X fun e w' => e = .returned (.int .i64 (n : Int)) ∧ w' = X := by
 go_enter Tryz.func82, Tryz.ntmps82
 go_wp2
 go_ret
 exact ⟨rfl, rfl⟩
structure Sw (X : World) (g gi : Nat) (v : Value) (x : In13) : Prop where
 c2 : X.cell? ⟨g, 2, none⟩ = some v
 f2 : X.frozen? ⟨g, 2, none⟩ = false
 i0 : X.cell? ⟨gi, 0, none⟩ = some (.int .i64 x.1)
 i1 : X.cell? ⟨gi, 1, none⟩ = some (.int .i64 x.2.1)
 i2 : X.cell? ⟨gi, 2, none⟩ = some (.int .i64 x.2.2.1)
 i3 : X.cell? ⟨gi, 3, none⟩ = some (.int .i64 x.2.2.2.1)
 i4 : X.cell? ⟨gi, 4, none⟩ = some (.string ⟨x.2.2.2.2.toArray⟩)
theorem Sw.keep {X Y : World} {g gi : Nat} {v : Value} {x : In13} (h : Sw X g gi v x) (h1 : Y.heap[g]? = X.heap[g]?) (h2 : Y.heap[gi]? = X.heap[gi]?) : Sw Y g gi v x :=
 ⟨(World.cell?_of_block (a := ⟨g, 2, none⟩) h1).trans h.c2, (World.frozen?_of_block (a := ⟨g, 2, none⟩) h1).trans h.f2, (World.cell?_of_block (a := ⟨gi, 0, none⟩) h2).trans h.i0, (World.cell?_of_block (a := ⟨gi, 1, none⟩) h2).trans h.i1, (World.cell?_of_block (a := ⟨gi, 2, none⟩) h2).trans h.i2, (World.cell?_of_block (a := ⟨gi, 3, none⟩) h2).trans h.i3, (World.cell?_of_block (a := ⟨gi, 4, none⟩) h2).trans h.i4⟩
theorem Sw.below {X Y : World} {g gi : Nat} {v : Value} {x : In13} (h : Sw X g gi v x) (hb : Below X.heap.size X Y) : Sw Y g gi v x :=
 h.keep (hb.block g (World.block_lt_of_cell? X ⟨g, 2, none⟩ h.c2)) (hb.block gi (World.block_lt_of_cell? X ⟨gi, 0, none⟩ h.i0))
set_option maxHeartbeats 4000000 in
set_option maxRecDepth 100000 in
theorem zc0 (B w : World) (g base : Nat) (tv nw v : Value) (xs : List In13) (x : In13) (h : Wr13 B w w g base tv nw v v xs) (hn : xs.length ≤ 1000000) :
 Calls Tryz.prog 81 #[.pointer (some ⟨g, 0, none⟩), zay x] w fun e w' => e = .returned (.int .i64 (xs.length : Int)) ∧ ∃ u, Wr13 B w w' g base tv nw v u (xs ++ [x]) := by
 obtain ⟨k, R, A, Bq, nm⟩ := x
 have hb0 : Below w.heap.size w (w.alloc (.cells #[.int .i64 k, .int .i64 R, .int .i64 A, .int .i64 Bq, .string ⟨nm.toArray⟩] 88)) := (Below.refl _ _).alloc (Nat.le_refl _) _
 have hA := heap_alloc_new w (.cells #[.int .i64 k, .int .i64 R, .int .i64 A, .int .i64 Bq, .string ⟨nm.toArray⟩] 88)
 obtain ⟨W0, hW0⟩ : ∃ W0, w.alloc (.cells #[.int .i64 k, .int .i64 R, .int .i64 A, .int .i64 Bq, .string ⟨nm.toArray⟩] 88) = W0 := ⟨_, rfl⟩
 rw [hW0] at hb0 hA
 have h0 := (h.below hb0).drew
 obtain ⟨va, vc, rfl⟩ := h.val
 obtain ⟨gi, hgi⟩ : ∃ gi, w.heap.size = gi := ⟨_, rfl⟩
 rw [hgi] at hA
 have hgil : gi < W0.heap.size := lt_of_block hA
 have hgig : gi ≠ g := fun e => by have := h.lt; omega
 have hvi : (Value.slice va xs.length vc).ownBlock ≠ some gi := fun e => by have := (h.row.lt gi e).2; omega
 have sw : Hid (Sw W0.drew g gi (.slice va xs.length vc) (k, R, A, Bq, nm)) := ⟨h0.c2, h0.f2, (cell_of_row W0.drew _ _ _ _ _ hA).trans rfl, (cell_of_row W0.drew _ _ _ _ _ hA).trans rfl, (cell_of_row W0.drew _ _ _ _ _ hA).trans rfl, (cell_of_row W0.drew _ _ _ _ _ hA).trans rfl, (cell_of_row W0.drew _ _ _ _ _ hA).trans rfl⟩
 obtain ⟨a2, c2, Y2, hrun, hco⟩ := (Co13.new h0.row (Nat.le_trans h0.lh h0.sz)).push (k, R, A, Bq, nm) (by omega)
 have hst := h0.store hco
 have hY2g : Y2.heap[g]? = W0.drew.heap[g]? := (hco.keep h0.lt (fun e => by have := (h0.row.lt g e).1; have := h0.gb; omega)).1
 have hY2i : Y2.heap[gi]? = W0.drew.heap[gi]? := (hco.keep hgil hvi).1
 have HSY : Hid (Sw Y2 g gi (.slice va xs.length vc) (k, R, A, Bq, nm)) := sw.out.keep hY2g hY2i
 have hz := hst.c2
 have Hst : Hid (Wr13 B w (Y2.setCell ⟨g, 2, none⟩ (.slice a2 (xs.length + 1) c2)) g base tv nw (.slice va xs.length vc) (.slice a2 (xs.length + 1) c2) (xs ++ [(k, R, A, Bq, nm)])) := hst
 have y2 := HSY.out.c2
 have yf := HSY.out.f2
 have HBe : Hid (_) := zdb g (xs.length + 1) a2 c2 (Y2.setCell ⟨g, 2, none⟩ (.slice a2 (xs.length + 1) c2)) hz (by omega)
 obtain ⟨Z, hZ⟩ : ∃ Z, Y2.setCell ⟨g, 2, none⟩ (.slice a2 (xs.length + 1) c2) = Z := ⟨_, rfl⟩
 rw [hZ] at Hst HBe
 obtain ⟨n, hnn⟩ : ∃ n, xs.length = n := ⟨_, rfl⟩
 rw [hnn] at hn hrun sw HSY y2 HBe Hst hZ ⊢
 unfold zay
 dsimp only
 dsimp only at hrun
 clear h h0 hb0 hA hst hco hY2g hY2i hz hvi hnn hgil
 go_enter Tryz.func81, Tryz.ntmps81
 go_wp2
 refine Till.region (S := fun X => Sw X g gi (.slice va n vc) (k, R, A, Bq, nm)) (E := [10]) (by kernel_rfl) sw.out (fun hHeld hSh => ?_)
 refine tkO [(0, 5), (1, 6), (2, 7), (3, 8), (4, 9), (5, 10)] ?_
 repeat (refine tlY ?_ rfl (by rfl) ?_ (fun hSh2 => ?_); rotate_left; (focus (intro wq hSw; have q2 := hSw.c2; have j0 := hSw.i0; have j1 := hSw.i1; have j2 := hSw.i2; have j3 := hSw.i3; have j4 := hSw.i4; dsimp only at j0 j1 j2 j3 j4; clear hSw; first | (go_simp; done) | (go_simp; with_reducible rfl))); clear hSh; rename zaJ _ _ _ => hSh; simp only [zP])
 refine tkZ ?_
 refine Till.one (i := 6) (by kernel_rfl) rfl hSh (fun K hK => ?_)
 clear hSh
 go_simp
 refine hK.out _ _ (by exact hHeld.below ((Below.refl _ _).alloc (Nat.le_refl _) _)) (fun hHeld hSh => ?_)
 clear hK K
 refine Till.one (i := 7) (by kernel_rfl) rfl hSh (fun K hK => ?_)
 clear hSh
 refine za8 (by rfl) (.tmp 9) (.tmp 11) 49 (by rfl) _ _ _ (by rfl) (by rfl) hrun ?_
 refine hK.out _ _ (by exact HSY.out) (fun hHeld hSh => ?_)
 clear hK K
 (try simp only [Act.put, zA])
 refine Till.take (i := 8) (o := ⟨some 13, _, _, _, _, _⟩) (v := ?v8) (d := 30) rfl (by kernel_rfl) (by kernel_rfl) (by kernel_rfl) (by kernel_rfl) (fun _ _ _ h => h) (Or.inl ⟨by rfl, ?hy8⟩) (by assumption) hSh (fun hSh2 => ?rest8)
 case hy8 => (intro wq hSw; have q2 := hSw.c2; have j0 := hSw.i0; have j1 := hSw.i1; have j2 := hSw.i2; have j3 := hSw.i3; have j4 := hSw.i4; dsimp only at j0 j1 j2 j3 j4; clear hSw; first | (go_simp; done) | (go_simp; with_reducible rfl))
 clear hSh; rename zaJ _ _ _ => hSh
 simp only [Act.put]
 refine Till.take (i := 9) (o := ⟨some 14, _, _, _, _, _⟩) (v := ?v9) (d := 30) rfl (by kernel_rfl) (by kernel_rfl) (by kernel_rfl) (by kernel_rfl) (fun _ _ _ h => h) (Or.inl ⟨by rfl, ?hy9⟩) (by assumption) hSh (fun hSh2 => ?rest9)
 case hy9 => (intro wq hSw; have q2 := hSw.c2; have j0 := hSw.i0; have j1 := hSw.i1; have j2 := hSw.i2; have j3 := hSw.i3; have j4 := hSw.i4; dsimp only at j0 j1 j2 j3 j4; clear hSw; first | (go_simp; done) | (go_simp; with_reducible rfl))
 clear hSh; rename zaJ _ _ _ => hSh
 simp only [Act.put]
 refine Till.last (i := 10) (by kernel_rfl) rfl (by decide) (fun K hK => ?_)
 go_simp
 refine hK.out _ _ ?_
 clear hK K
 refine Till.done (by kernel_rfl) ?_ _
 clear hHeld hSh HSY sw hrun y2 yf
 go_wp2_with fail
 refine Calls.mono HBe.out ?_
 rintro e w3 ⟨rfl, rfl⟩
 go_wp2
 go_ret
 exact ⟨rfl, _, Hst.out⟩
def cn (ks : List Nat) : Nat → Nat
 | 0 => 1
 | j + 1 => gr [cn ks j, ks.getD j 0 + j]
structure Cl (w X : World) (g2 g3 g5 m k : Nat) : Prop where
 g : Gr w X g2 g3 m
 p : Nb X g5 0 k
 h : g3 < g5
theorem Cl.below {w X Y : World} {g2 g3 g5 m k : Nat} (s : Cl w X g2 g3 g5 m k) (hb : Below X.heap.size X Y) : Cl w Y g2 g3 g5 m k := ⟨s.g.below hb, s.p.below hb, s.h⟩
theorem Cl.drew {w X : World} {g2 g3 g5 m k : Nat} (s : Cl w X g2 g3 g5 m k) : Cl w X.drew g2 g3 g5 m k := s.below ⟨rfl, rfl, rfl, Nat.le_refl _, fun _ _ => rfl⟩
set_option maxHeartbeats 4000000 in
set_option maxRecDepth 100000 in
theorem zfz (a : Option Addr) (n c : Nat) (ks : List Nat) (w : World) (hn : ks.length = n) (hin : NsIn w a ks) (hnl : n ≤ 1000000) :
 Calls Tryz.prog 145 #[.slice a n c] w fun e w' => e = .returned (.agg (nv (cn ks n))) ∧ Below w.heap.size w w' := by
 have HIn : Hid (∀ X, Below w.heap.size w X → NsIn X a ks) := fun X hb => hin.below hb
 have HN : Hid (ks.length = n) := hn
 clear hin hn
 go_enter Tryz.func145, Tryz.ntmps145
 go_wp2_with (guard_target = wpList _ _ _ _ _ _; (refine zaP rfl rfl 2 rfl (fun Y2 g2 hN2 hB2 hG2 => ?_)))
 refine (zc2 none 0 0 [] _ rfl (fun j hj => by simp at hj) (by omega)).mono ?_
 rintro e W1 ⟨rfl, hb1⟩
 go_wp2_with (guard_target = wpList _ _ _ _ _ _; first | (refine zaP rfl rfl 3 rfl (fun Y3 g3 hN3 hB3 hG3 => ?_)) | (refine zaO rfl _ _ rfl _ _ (gr []) rfl rfl hN3.ok (fun Y4 hN4 hG4 => ?_)))
 have HS : Hid (Gr w Y4 g2 g3 (cn ks 0)) := by
  have l2 := hN2.lt; have l3 := hN3.lt
  have s1 := hb1.size
  have b2 := hB2.trans (hb1.mono hB2.size)
  have b3 := b2.trans (hB3.mono b2.size)
  exact ⟨((hN2.below hb1).below hB3).kept hG4 (by simp; omega), hN4, by omega, hG2, b3.grown hG4 b3.size (fun q e => by injection e with e; have := hB2.size; omega)⟩
 clear hN2 hB2 hG2 hN3 hB3 hG3 hN4 hG4 hb1
 go_loopw [9] (fun jv wx => ∃ j : Nat, jv = .int .i64 (j : Int) ∧ j ≤ n ∧ Hid (Gr w wx g2 g3 (cn ks j))) (fun jv _ => n - (intOf jv).toNat)
 case atStart => exact ⟨0, rfl, Nat.zero_le _, HS⟩
 case round =>
  obtain ⟨j, rfl, hj, st⟩ := hrel
  clear HS
  by_cases hlt : (j : Int) < (n : Int)
  ·
   obtain ⟨b, off, rfl, hbl, hrg⟩ := HIn.out wr st.out.b j (by rw [HN.out]; omega)
   have HSn : Hid (cn ks (j + 1) = gr [cn ks j, ks.getD j 0 + j]) := by exact (rfl : cn ks (j + 1) = gr [cn ks j, ks.getD j 0 + j])
   obtain ⟨k, hk⟩ : ∃ k, ks.getD j 0 = k := ⟨_, rfl⟩
   obtain ⟨m, hm⟩ : ∃ m, cn ks j = m := ⟨_, rfl⟩
   rw [hk] at hrg HSn
   rw [hm] at st HSn
   clear hk hm
   go_wp2_with (guard_target = wpList _ _ _ _ _ _; first | (refine zax rfl _ rfl 13 rfl _ _ k rfl (by exact hrg) ?_) | (refine zaP rfl rfl 5 rfl (fun Y5 g5 hN5 hB5 hG5 => ?_)) | (refine zaO rfl _ _ rfl _ _ k rfl rfl hN5.ok (fun Y6 hN6 hG6 => ?_)))
   have sc : Hid (Cl w Y6 g2 g3 g5 m k) := ⟨(st.out.below hB5).kept hG6 (by have := st.out.n.lt; omega), hN6, by have := st.out.n.lt; omega⟩
   clear hN5 hB5 hG5 hN6 hG6 hrg st
   refine Till.region (S := fun X => Cl w X g2 g3 g5 m k) (E := [6]) (by kernel_rfl) sc.out.drew (fun hHeld hSh => ?_)
   refine Till.take (i := 0) (o := ⟨some 14, _, _, _, _, _⟩) (v := .agg (nv m)) (d := 30) rfl (by kernel_rfl) (by kernel_rfl) (by kernel_rfl) (by kernel_rfl) (fun _ _ _ h => h) (zaH (by rfl) _ rfl g3 0 m rfl (fun v h => h.g.n.cs)) (by assumption) hSh (fun hSh2 => ?_)
   clear hSh; rename zaJ _ _ _ => hSh
   simp only [zP]
   refine Till.take (i := 1) (o := ⟨some 15, _, _, _, _, _⟩) (v := .agg (nv k)) (d := 30) rfl (by kernel_rfl) (by kernel_rfl) (by kernel_rfl) (by kernel_rfl) (fun _ _ _ h => h) (zaH (by rfl) _ rfl g5 0 k rfl (fun v h => h.p.cs)) (by assumption) hSh (fun hSh2 => ?_)
   clear hSh; rename zaJ _ _ _ => hSh
   simp only [zP]
   refine tkO [(2, 16)] ?_
   repeat (refine tlY ?_ rfl (by rfl) ?_ (fun hSh2 => ?_); rotate_left; (focus (intro wq hSw; first | (go_simp; done) | (go_simp; with_reducible rfl))); clear hSh; rename zaJ _ _ _ => hSh; simp only [zP])
   refine tkZ ?_
   refine Till.one (i := 3) (by kernel_rfl) rfl hSh (fun K hK => ?_)
   clear hSh
   go_simp
   refine (zhg k j _ (by omega)).mono ?_
   rintro e W2 ⟨rfl, hb2⟩
   dsimp only
   refine hK.out _ _ (by exact hHeld.below hb2) (fun hHeld hSh => ?_)
   clear hK K
   (try simp only [zP])
   refine Till.one (i := 4) (by kernel_rfl) rfl hSh (fun K hK => ?_)
   clear hSh
   refine zaf rfl (zcT _ _ rfl m (k + j) rfl rfl (fun W3 g4 hn3 hb3 _ => ?_))
   refine hK.out _ _ (by exact hHeld.below hb3) (fun hHeld hSh => ?_)
   clear hK K
   (try simp only [Act.put, zA])
   refine Till.one (i := 5) (by kernel_rfl) rfl hSh (fun K hK => ?_)
   clear hSh
   go_simp
   refine (zc2 _ 2 2 [m, k + j] _ rfl hn3 (by omega)).mono ?_
   rintro e W4 ⟨rfl, hb4⟩
   dsimp only
   refine hK.out _ _ (by exact hHeld.below hb4) (fun hHeld hSh => ?_)
   clear hK K
   (try simp only [zP])
   refine Till.last (i := 6) (by kernel_rfl) rfl (by decide) (fun K hK => ?_)
   refine zaf rfl (zcC _ _ rfl g3 0 (gr [m, k + j]) rfl rfl hHeld.g.n.ok (fun W5 hn5 hg5 hE5 => ?_))
   clear hE5
   have HR : Hid (Gr w W5 g2 g3 (cn ks (j + 1))) := by
    rw [HSn.out]
    have := hHeld.g.h0; have := hHeld.g.h2
    exact ⟨hHeld.g.r.kept hg5 (by simp; omega), hn5, hHeld.g.h2, hHeld.g.h0, hHeld.g.b.grown hg5 hHeld.g.b.size (fun q e => by injection e with e; omega)⟩
   refine hK.out _ _ ?_
   clear hK K
   (try simp only [Act.put, zA])
   refine Till.done (by kernel_rfl) ?_ _
   clear hHeld hSh sc hn3 hn5 hg5 hb2 hb3 hb4
   go_wp2
   go_roundw
   case rel => exact ⟨j + 1, by go_num, by omega, HR⟩
   case measure => simp [intOf]; omega
  ·
   have HE : Hid (j = n) := by exact (by omega : j = n)
   rw [HE.out] at st
   go_wp2_with (guard_target = wpList _ _ _ _ _ _; first | (refine zax rfl _ rfl 21 rfl _ _ (cn ks n) rfl (by exact st.out.n.cs) ?_) | (refine zaO rfl _ _ rfl _ _ (cn ks n) rfl rfl st.out.r.ok (fun Y5 hN5 hG5 => ?_)))
   refine bodyPost_ret (v := .agg (nv (cn ks n))) (zcb Tryz.results145 _ _ g2 (cn ks n) rfl hN5.cs) rfl ⟨rfl, ?_⟩
   exact st.out.b.grown hG5 st.out.b.size (fun q e => by injection e with e; have := st.out.h0; omega)
set_option maxHeartbeats 4000000 in
set_option maxRecDepth 100000 in
theorem zjC (q : Int) (x y : Nat) (w : World) (hx : x ≤ 60) (hy : y ≤ 60) :
 Calls Tryz.prog 111 #[.int .i64 q, .agg (nv x), .agg (nv y)] w fun e w' => e = .returned (.agg (nv (zeb x y))) ∧ Below w.heap.size w w' := by
 go_enter Tryz.func111, Tryz.ntmps111
 go_wp2_with (guard_target = wpList _ _ _ _ _ _; first | (refine zbg rfl _ rfl 4 rfl x rfl (fun Y1 g1 hN1 hB1 hG1 => ?_)) | (refine zbg rfl _ rfl 5 rfl y rfl (fun Y2 g2 hN2 hB2 hG2 => ?_)) | (refine zaP rfl rfl 6 rfl (fun Y3 g3 hN3 hB3 hG3 => ?_)) | (refine zax rfl _ rfl 7 rfl _ _ x rfl (by exact (Tw.start hN1 hB1 hG1 hN2 hB2 hG2 hN3 hB3 hG3).a.cs) ?_) | (refine zax rfl _ rfl 8 rfl _ _ y rfl (by exact (Tw.start hN1 hB1 hG1 hN2 hB2 hG2 hN3 hB3 hG3).b.cs) ?_))
 refine (zfy x y _ hx hy).mono ?_
 rintro e W5 ⟨rfl, hb5⟩
 have st := (Tw.start hN1 hB1 hG1 hN2 hB2 hG2 hN3 hB3 hG3).below hb5
 go_wp2_with (guard_target = wpList _ _ _ _ _ _; (refine zaO rfl _ _ rfl _ _ (zeb x y) rfl rfl st.r (fun Y6 hN6 hG6 => ?_)))
 refine bodyPost_ret (v := .agg (nv (zeb x y))) (zcb Tryz.results111 _ _ g3 (zeb x y) rfl hN6.cs) rfl ⟨rfl, ?_⟩
 exact (st.kept hG6 hN6).bl
theorem zjk {s : List Nd} (h : One s) (os : List Int) : ∀ (d d' : Nat) (t post : List Nd) (a : Nat), s.length ≤ d → s.length ≤ d' → t.drop a = s ++ post → za5 d t os (a : Int) = za5 d' t os (a : Int) := by
 induction h with
 | mk n ks hn hk ho ih =>
  intro d d' t post a hd hd' ht
  rcases d with _ | d
  ·
   simp at hd
  rcases d' with _ | d'
  ·
   simp at hd'
  obtain ⟨e1, e2, e3⟩ := zbG ht hk ho
  rw [za5, za5]
  congr 1
  refine List.ext_getElem (by simp) (fun i h1 h2 => ?_)
  rw [List.length_map, e2] at h1
  obtain ⟨post', e4, e5⟩ := e3 i h1
  have hm : ks.getD i [] ∈ ks := zbo h1
  have hl : (ks.getD i []).length ≤ ks.flatten.length := (List.sublist_flatten_of_mem hm).length_le
  simp only [List.length_cons] at hd hd'
  have h3 := ih _ hm d d' t post' _ (by omega) (by omega) e5
  rw [← e4] at h3
  have hp : i < (za1 t (a : Int)).length := by rw [e2]; exact h1
  simpa [List.getD, hp] using h3
def nd12 (t : List Nd) (os : List Int) (q : Nat) : Nat := (za5 60 t os (q : Int)).toNat
def zk0 (F : Nat → Nat → Nat → Nat) (q : Nat) (n : Nd) (ks : List Nat) : Nat := if zfq n = true then F q (ks.getD 0 0) (ks.getD 1 0) else if n.1 = 8 then cn ks ks.length else gr ks
theorem zhj (x y : Nat) : gr [x, y] = max (max 1 x) y := rfl
theorem cn_pos (ks : List Nat) : ∀ j, 1 ≤ cn ks j
 | 0 => Nat.le_refl 1
 | j + 1 => by rw [cn, zhj]; omega
theorem zeE : ∀ (l : List Int) (x i m : Int), zbb (l ++ [x]) i m = max (zbb l i m) (x + (i + l.length))
 | [], x, i, m => by simp [zbb]
 | y :: r, x, i, m => by
  rw [List.cons_append, zbb, zbb, zeE r x (i + 1) _]
  simp only [List.length_cons]
  rw [show x + (i + 1 + (r.length : Int)) = x + (i + ((r.length + 1 : Nat) : Int)) by omega]
theorem zm3 (l : List Int) (ks : List Nat) (hl : l.length = ks.length) (h : ∀ i, i < l.length → l.getD i 0 = (ks.getD i 0 : Int)) : ∀ j, j ≤ l.length → (cn ks j : Int) = zbb (l.take j) 0 1
 | 0, _ => by simp [cn, zbb]
 | j + 1, hj => by
  have ih := zm3 l ks hl h j (by omega)
  have hp := cn_pos ks j
  have hx := h j (by omega)
  have hg : l.getD j 0 = l[j] := by simp [List.getD, show j < l.length by omega]
  rw [List.take_succ_eq_append_getElem (by omega), zeE, ← hg, hx, ← ih, cn, zhj, List.length_take, Nat.min_eq_left (by omega)]
  omega
theorem nd_step {t : List Nd} {os : List Int} (ht : zaI t = true) {F : Nat → Nat → Nat → Nat} (hF : ∀ q x y : Nat, 1 ≤ x → 1 ≤ y → q < t.length → (F q x y : Int) = zck (zbe os (q : Int)) x y) {q : Nat} (hq : q < t.length) :
 nd12 t os q = zk0 F q (t.getD q nd0) ((za1 t (q : Int)).map (fun p => nd12 t os p.toNat)) := by
 obtain ⟨h60, hone⟩ := zaM.1 ht
 have hend := zbX hone hq
 obtain ⟨s, post, e, hs⟩ := zcM hend
 cases hs with
 | mk n ks hn hk ho =>
  obtain ⟨e1, e2, e3⟩ := zbG e hk ho
  have hlen : (n :: ks.flatten).length ≤ 60 := by
   have h2 := congrArg List.length e
   simp only [List.length_drop, List.length_append] at h2
   omega
  have hpart : ∀ i, i < ks.length → (nd12 t os ((za1 t (q : Int)).getD i 0).toNat : Int) = za5 59 t os ((za1 t (q : Int)).getD i 0) ∧ 1 ≤ za5 59 t os ((za1 t (q : Int)).getD i 0) := fun i hi => by
   obtain ⟨post', e4, e5⟩ := e3 i hi
   have hm : ks.getD i [] ∈ ks := zbo hi
   have hl : (ks.getD i []).length ≤ ks.flatten.length := (List.sublist_flatten_of_mem hm).length_le
   simp only [List.length_cons] at hlen
   rw [e4]
   have h1 := zjk (ho _ hm) os 60 59 t post' _ (by omega) (by omega) e5
   have h2 := zeD (ho _ hm) os 59 t post' _ (by omega) e5
   unfold nd12
   rw [Int.toNat_natCast, h1]
   omega
  have hke : ∀ i, i < ks.length → ((za1 t (q : Int)).map (fun p => nd12 t os p.toNat)).getD i 0 = nd12 t os ((za1 t (q : Int)).getD i 0).toNat := fun i hi => by
   have hp : i < (za1 t (q : Int)).length := by rw [e2]; exact hi
   simp [List.getD, hp]
  have hkn : ∀ i, i < ks.length → ((za1 t (q : Int)).map (za5 59 t os)).getD i 0 = za5 59 t os ((za1 t (q : Int)).getD i 0) := fun i hi => by
   rw [zan (by rw [e2]; exact hi)]
  have hgoal : (nd12 t os q : Int) = mk12 (zbe os (q : Int)) n ((za1 t (q : Int)).map (za5 59 t os)) := by
   have hbd := zeD (One.mk n ks hn hk ho) os 60 t post q hlen e
   have hu : za5 60 t os (q : Int) = mk12 (zbe os (q : Int)) n ((za1 t (q : Int)).map (za5 59 t os)) := by rw [za5, Int.toNat_natCast, e1]
   unfold nd12
   rw [← hu]
   omega
  rw [e1]
  refine Int.ofNat.inj ?_
  show (nd12 t os q : Int) = ((zk0 F q n _ : Nat) : Int)
  rw [hgoal]
  unfold mk12 zk0 zfq
  by_cases h36 : 3 ≤ n.1 ∧ n.1 ≤ 6
  ·
   have hk2 := zaX h36
   have p0 := hpart 0 (by omega)
   have p1 := hpart 1 (by omega)
   rw [if_pos h36, if_pos (by rw [decide_eq_true h36.1, decide_eq_true h36.2]; rfl), hkn 0 (by omega), hkn 1 (by omega), hke 0 (by omega), hke 1 (by omega), hF q _ _ (by omega) (by omega) hq, p0.1, p1.1]
  ·
   have hpb : ¬ (decide (3 ≤ n.1) && decide (n.1 ≤ 6)) = true := fun h => by
    rw [Bool.and_eq_true, decide_eq_true_iff, decide_eq_true_iff] at h
    exact h36 h
   rw [if_neg h36, if_neg hpb]
   by_cases h7 : n.1 = 7
   ·
    have hk3 := zbn h7
    have p0 := hpart 0 (by omega)
    have p1 := hpart 1 (by omega)
    have p2 := hpart 2 (by omega)
    have hl3 : (za1 t (q : Int)).length = 3 := by omega
    rw [if_pos h7, if_neg (by omega), hkn 0 (by omega), hkn 1 (by omega), hkn 2 (by omega)]
    obtain ⟨a0, a1, a2, ha⟩ : ∃ x y z, za1 t (q : Int) = [x, y, z] := by
     match za1 t (q : Int), hl3 with
     | [x, y, z], _ => exact ⟨x, y, z, rfl⟩
    rw [ha] at p0 p1 p2 ⊢
    simp only [show ([a0, a1, a2] : List Int).getD 0 0 = a0 from rfl, show ([a0, a1, a2] : List Int).getD 1 0 = a1 from rfl, show ([a0, a1, a2] : List Int).getD 2 0 = a2 from rfl] at p0 p1 p2 ⊢
    show _ = ((max (max (max 1 (nd12 t os a0.toNat)) (nd12 t os a1.toNat)) (nd12 t os a2.toNat) : Nat) : Int)
    omega
   ·
    rw [if_neg h7]
    by_cases h8 : n.1 = 8
    ·
     rw [if_pos h8]
     have hc := zm3 ((za1 t (q : Int)).map (za5 59 t os)) ((za1 t (q : Int)).map (fun p => nd12 t os p.toNat)) (by simp) (fun i hi => by
      rw [List.length_map, e2] at hi
      rw [hkn i hi, hke i hi, (hpart i hi).1]) (za1 t (q : Int)).length (by simp)
     rw [List.take_of_length_le (by simp)] at hc
     rw [← hc, List.length_map]
    ·
     rw [if_neg h8]
     have hk0 : za7 n = 0 := by
      unfold za7
      rw [if_neg h36, if_neg h7, if_neg h8]
     have hl0 : za1 t (q : Int) = [] := List.eq_nil_of_length_eq_zero (by omega)
     rw [hl0]
     rfl
theorem zcI {t : List Nd} {os : List Int} (ht : zaI t = true) {q : Nat} (hq : q < t.length) : 1 ≤ nd12 t os q ∧ nd12 t os q ≤ 60 ∧ (nd12 t os q : Int) = za5 60 t os (q : Int) := by
 obtain ⟨h60, hone⟩ := zaM.1 ht
 have := zdn (os := os) (d := 60) (zbX hone hq) (by omega) h60
 unfold nd12
 omega
theorem zjf (t : List Nd) (q x y : Nat) (hx : 1 ≤ x) (_hy : 1 ≤ y) (_ : q < t.length) : (zeb x y : Int) = zck (zbe [] (q : Int)) x y := by
 unfold zeb zbe
 rw [if_pos rfl]
 unfold zck
 simp only
 by_cases e : x = y
 ·
  subst e; rw [if_pos rfl, if_pos rfl]; omega
 ·
  rw [if_neg e, if_neg (by omega), zhj]; omega
theorem part_at {t : List Nd} (ht : zaI t = true) {q i : Nat} (hq : q < t.length) (hi : i < (za1 t (q : Int)).length) : ∃ p : Nat, (za1 t (q : Int)).getD i 0 = (p : Int) ∧ q < p ∧ p < t.length := by
 obtain ⟨_, hone⟩ := zaM.1 ht
 have hk : (za1 t (q : Int)).length = za7 (t.getD q nd0) := by unfold za1; rw [zcF, Int.toNat_natCast]
 obtain ⟨p, h1, h2, h3⟩ := zaw (zbX hone hq) (by rw [← hk]; exact hi)
 refine ⟨p, h1, h2, ?_⟩
 rcases Nat.lt_or_ge p t.length with h | h
 ·
  exact h
 ·
  rw [zca t (p : Int) (Or.inr (by omega))] at h3
  omega
theorem zd1 {t : List Nd} (ht : zaI t = true) {q : Nat} (hq : q < t.length) : zcN t (q : Int) = za1 t (q : Int) := by
 obtain ⟨_, hone⟩ := zaM.1 ht
 have := zbX hone hq
 unfold zcN
 rw [if_neg (by omega)]
 rfl
theorem zhI {w : World} {b1 b2 e1 e2 s1 s2 n1 n2 : Nat} {v1 v2 : Value} {xs ys : List Value} (h1 : w.ownsRow b1 e1 s1 v1 n1 xs) (h2 : w.ownsRow b2 e2 s2 v2 n2 ys) (he : e1 ≠ e2) : v1.ownBlock = none ∨ v1.ownBlock ≠ v2.ownBlock := by
 rcases h1.2 with ⟨rfl, _⟩ | ⟨g, c, cur, rfl, _, hg, _⟩
 ·
  exact Or.inl rfl
 ·
  rcases h2.2 with ⟨rfl, _⟩ | ⟨g2, c2, cur2, rfl, _, hg2, _⟩
  ·
   exact Or.inr (by simp [Value.ownBlock])
  ·
   refine Or.inr (fun e => ?_)
   simp only [Value.ownBlock, Option.some.injEq] at e
   subst e
   rw [hg] at hg2
   simp only [Option.some.injEq, Obj.cells.injEq] at hg2
   exact he hg2.2.1
structure Nr (w X : World) (gN n k : Nat) (f : Nat → Nat) : Prop where
 rows : ∀ q, k ≤ q → q < n → X.rangeAt gN (q * 60) (nvL (f q))
 ok : X.there gN 0 (n * 60)
 lt : gN < X.heap.size
 h0 : w.heap.size ≤ gN
 b : Below w.heap.size w X
section
variable {w X Y : World} {gN n k q : Nat} {f : Nat → Nat}
theorem Nr.keep (s : Nr w X gN n k f) (hb : Y.heap[gN]? = X.heap[gN]?) (hl : X.heap.size ≤ Y.heap.size) (hB : Below w.heap.size w Y) : Nr w Y gN n k f :=
 ⟨fun q h1 h2 => zbN (s.rows q h1 h2) hb, zen s.ok hb, Nat.lt_of_lt_of_le s.lt hl, s.h0, hB⟩
theorem Nr.below (s : Nr w X gN n k f) (hb : Below X.heap.size X Y) : Nr w Y gN n k f := s.keep (hb.block gN s.lt) hb.size (s.b.trans (hb.mono s.b.size))
theorem Nr.kept {row : Option Nat} (s : Nr w X gN n k f) (hg : X.grownBy Y row) (hr : ∀ j, row = some j → gN < j) : Nr w Y gN n k f :=
 s.keep (hg.block gN s.lt (fun e => by have := hr gN e.symm; omega)) hg.size (s.b.grown hg s.b.size (fun j e => by have := hr j e; have := s.h0; omega))
theorem Nr.there (s : Nr w X gN n k f) (hq : q < n) : X.there gN (q * 60) 60 := fun j hj => by
 have h := s.ok (q * 60 + j) (by omega)
 rw [Nat.zero_add] at h
 exact h
theorem Nr.store (s : Nr w X gN n (q + 1) f) (hq : q < n) : Nr w (X.setCells gN (q * 60) (nvL (f q))) gN n q f := by
 have hg := zbs gN (nvL (f q)) (q * 60) X
 have h0 := s.h0
 refine ⟨fun p h1 h2 => ?_, World.there_setCells s.ok _ _ _, Nat.lt_of_lt_of_le s.lt hg.size, s.h0, s.b.grown hg s.b.size (fun j e => by injection e with e; omega)⟩
 by_cases e : p = q
 ·
  subst e
  exact World.rangeAt_setCells_same X gN (p * 60) (nvL (f p)) (by rw [zbp]; exact s.there hq)
 ·
  exact World.rangeAt_setCells_apart (s.rows p (by omega) h2) gN (q * 60) _ (Or.inr (by rw [zbp, zbp]; omega))
end
def nsV (f : Nat → Nat) (ps : List Int) : List Value := ps.flatMap (fun p => nvL (f p.toNat))
theorem nsV_snoc (f : Nat → Nat) (ps : List Int) (p : Int) : nsV f (ps ++ [p]) = nsV f ps ++ nvL (f p.toNat) := by simp [nsV]
theorem nsV_at (f : Nat → Nat) : ∀ (ps : List Int) (j q : Nat), j < ps.length → q < 60 → (nsV f ps)[j * 60 + q]? = (nvL (f (ps.getD j 0).toNat))[q]?
 | [], j, _, h, _ => by simp at h
 | p :: r, 0, q, _, hq => by
  unfold nsV
  rw [List.flatMap_cons, Nat.zero_mul, Nat.zero_add, List.getElem?_append_left (by rw [zbp]; exact hq)]
  rfl
 | p :: r, j + 1, q, h, hq => by
  have ih := nsV_at f r j q (by simpa using h) hq
  unfold nsV at ih ⊢
  rw [List.flatMap_cons, List.getElem?_append_right (by rw [zbp]; omega), zbp, show (j + 1) * 60 + q - 60 = j * 60 + q by omega, ih]
  rfl
theorem ns_of {X : World} {B : Nat} {v : Value} {ps : List Int} {f : Nat → Nat} (h : X.ownsRow B 138 60 v ps.length (nsV f ps)) : ∃ a c, v = .slice a ps.length c ∧ NsIn X a (ps.map (fun p => f p.toNat)) ∧ ps.length ≤ c ∧ c ≤ maxLen := by
 obtain ⟨a, c, rfl⟩ := zaE h
 refine ⟨a, c, rfl, fun j hj => ?_, own_capT h, own_capM h⟩
 rw [List.length_map] at hj
 obtain ⟨g, cp, e⟩ := zag h (by omega)
 injection e with e1 _ e3
 subst e1 e3
 refine ⟨g, 0, rfl, (h.lt g rfl).2, fun q v hv => ?_⟩
 have hq : q < 60 := by have := (List.getElem?_eq_some_iff.1 hv).1; rw [zbp] at this; exact this
 have hd : (ps.map (fun p => f p.toNat)).getD j 0 = f (ps.getD j 0).toNat := by simp [List.getD, hj]
 rw [hd] at hv
 rw [Nat.zero_add, h.cellAt (j * 60 + q) (by have : j + 1 ≤ ps.length := hj; have := Nat.mul_le_mul_right 60 this; omega), nsV_at f ps j q hj hq]
 exact hv
structure Pr (w X : World) (gN n k : Nat) (f : Nat → Nat) (pv : Value) (i : Nat) (pl : Value) (ps : List Int) : Prop where
 nr : Nr w X gN n k f
 pv : X.ownsRow (gN + 1) 138 60 pv i (nsV f (ps.take i))
 pl : X.ownsRow (gN + 1) 2 1 pl ps.length (zaF ps)
section
variable {w X Y : World} {gN n k : Nat} {f : Nat → Nat} {pv : Value} {i : Nat} {pl : Value} {ps : List Int}
theorem Pr.below (s : Pr w X gN n k f pv i pl ps) (hb : Below X.heap.size X Y) : Pr w Y gN n k f pv i pl ps := ⟨s.nr.below hb, za2 s.pv hb, za2 s.pl hb⟩
theorem Pr.drew (s : Pr w X gN n k f pv i pl ps) : Pr w X.drew gN n k f pv i pl ps := s.below ⟨rfl, rfl, rfl, Nat.le_refl _, fun _ _ => rfl⟩
theorem Pr.push (s : Pr w X gN n k f pv i pl ps) (hi : i < ps.length) (hl : ps.length ≤ 1000) :
 ∃ v' Y, (Builtin.append_ #[105, 105] 105 #[pv, .slice (some ⟨X.heap.size, 0, none⟩) 1 1]).run Tryz.prog (X.alloc (.cells (nv (f (ps.getD i 0).toNat)) 138)) = .ok v' Y ∧ Pr w Y gN n k f v' (i + 1) pl ps := by
 obtain ⟨i0, hi0, hz0, hz1, hz2⟩ := zgp
 have hbl : Below X.heap.size X (X.alloc (.cells (nv (f (ps.getD i 0).toNat)) 138)) := (Below.refl _ _).alloc (Nat.le_refl _) _
 have s1 := s.below hbl
 obtain ⟨v', Y, hrun, hown, hg, _⟩ := zaS (P := Tryz.prog) (X.alloc (.cells (nv (f (ps.getD i 0).toNat)) 138)) (gN + 1) 105 105 138 i0 _ 60 60 Tryz.underlying105 hi0 hz0 hz1 hz2 (zdN 0) (by omega) pv i _ s1.pv _ 1 (nvL (f (ps.getD i 0).toNat)) (src_new X _ _) (by unfold maxLen; omega) (by omega) (by have := s1.nr.lt; omega)
 refine ⟨v', Y, hrun, s1.nr.kept hg (fun j e => by have := (s1.pv.lt j e).1; omega), ?_, s1.pl.kept hg (zhI s1.pl s1.pv (by decide))⟩
 have hgd : ps.getD i 0 = ps[i] := by simp [List.getD, hi]
 rw [List.take_succ_eq_append_getElem hi, nsV_snoc, ← hgd]
 exact hown
theorem Pr.store {q : Nat} (s : Pr w X gN n (q + 1) f pv i pl ps) (hq : q < n) : Pr w (X.setCells gN (q * 60) (nvL (f q))) gN n (q + 1) f pv i pl ps := by
 have hg := zbs gN (nvL (f q)) (q * 60) X
 have h := s.nr.store hq
 exact ⟨⟨fun p h1 h2 => h.rows p (by omega) h2, h.ok, h.lt, h.h0, h.b⟩, zaz s.pv (Nat.lt_succ_self _) hg, zaz s.pl (Nat.lt_succ_self _) hg⟩
theorem Pr.start (s : Nr w X gN n k f) (hp : X.ownsRow (gN + 1) 138 60 pv 0 []) (hl : X.ownsRow (gN + 1) 2 1 pl ps.length (zaF ps)) : Pr w X gN n k f pv 0 pl ps := ⟨s, by rw [List.take_zero]; exact hp, hl⟩
end
section
variable {ops : Array Oper} {rest : List Oper} {op : Oper} {a : Act} {w : World} {Q : Exit → Act → World → Prop} {K : Act → World → Prop}
theorem zdw (hgd : op.guard = none) (x y : Operand) (ho : op.op = .store 138 x y) (gN q n : Nat) (f : Nat → Nat) (hx : a.eval x = .pointer (some ⟨gN, q * 60, none⟩)) (hy : a.eval y = .agg (nv (f q))) {w0 : World} (s : Nr w0 w gN n (q + 1) f) (hq : q < n)
 (h : ∀ Y, Nr w0 Y gN n q f → wpList Tryz.prog ops Q rest (a.put op.dst undef) Y) : wpList Tryz.prog ops Q (op :: rest) a w :=
 wpList_plain hgd fun _ hK => zcC x y ho gN (q * 60) (f q) hx hy (s.there hq) (fun Y _ _ e => hK _ _ (h Y (by rw [e]; exact s.store hq)))
end
set_option maxRecDepth 100000 in
theorem make55 (w : World) (n : Nat) (hn : n ≤ 60) : ∃ W, (Instr.makeSlice 105 (.int .i64 (n : Int)) (.int .i64 (n : Int))).run Tryz.prog w = .ok (.slice (some ⟨w.heap.size, 0, none⟩) n n) W ∧ ∀ f, Nr w W w.heap.size n n f := by
 obtain ⟨i0, hi0, hz0, hz1, hz2⟩ := zgp
 obtain ⟨W, hr, ho, hg⟩ := run_makeSlice_full (P := Tryz.prog) (w := w) w.heap.size 105 138 i0 _ 60 Tryz.underlying105 hi0 hz0 hz1 .i64 .i64 n (by omega) (by rw [hz2]; omega) (by unfold maxLen; omega) (Nat.le_refl _)
 refine ⟨W, hr, fun f => ⟨fun q h1 h2 => by omega, fun j hj => ?_, (ho.lt _ rfl).2, Nat.le_refl _, ⟨hg.os, hg.tape, hg.output, hg.size, fun k hk => hg.block k hk (by simp)⟩⟩⟩
 rw [Nat.zero_add, ho.cellAt j hj]
 refine ⟨?_, ?_⟩
 ·
  rw [List.getElem?_eq_getElem (by rw [ho.1]; exact hj)]; rfl
 ·
  rcases ho.2 with ⟨h', _⟩ | ⟨g', cap', cur, h', _, hg', _⟩
  ·
   cases h'
  ·
   injection h' with h1 _ _
   injection h1 with h1
   injection h1 with h1 _ _
   subst h1
   exact frozen_of_row _ _ _ _ _ hg'
set_option maxHeartbeats 8000000 in
set_option maxRecDepth 100000 in
theorem zhb (a : Option Addr) (c : Nat) (t : List Nd) (w : World) (hin : za4 w a t.length t) (hint : IntT t) (hsh : zam t) (ht : zaI t = true) :
 Calls Tryz.prog 110 #[.slice a t.length c, .func (.func 111) #[] #[]] w fun e w' => ∃ gN, e = .returned (.slice (some ⟨gN, 0, none⟩) t.length t.length) ∧ Nr w w' gN t.length 0 (nd12 t []) := by
 have h60 := (zaM.1 ht).1
 obtain ⟨W1, hmk, hnr⟩ := make55 w t.length h60
 have HNi : Hid (∀ X, Below w.heap.size w X → za4 X a t.length t) := fun X hb => hin.below hb
 have HPo : Hid (∀ (X : World) (q : Nat), Below w.heap.size w X → q < t.length → Calls Tryz.prog 113 #[.slice a t.length c, .int .i64 (q : Int)] X fun e w' => ∃ v, e = .returned v ∧ w'.ownsRow X.heap.size 2 1 v (za1 t (q : Int)).length (zaF (za1 t (q : Int))) ∧ Below X.heap.size X w') := fun X q hb hq => by
  have h := zbS a t.length c t (q : Int) X (hin.below hb) hint hsh (by omega) (by omega)
  rw [zd1 ht hq] at h
  exact h
 obtain ⟨F, hFd⟩ : ∃ F : Nat → Nat → Nat → Nat, F = (fun _ x y => zeb x y) := ⟨_, rfl⟩
 have HSt : Hid (∀ q, q < t.length → nd12 t [] q = zk0 F q (t.getD q nd0) ((za1 t (q : Int)).map (fun p => nd12 t [] p.toNat))) := fun q hq => by rw [hFd]; exact nd_step ht (fun q x y => zjf t q x y) hq
 have HRg : Hid (∀ q, q < t.length → nd12 t [] q ≤ 60) := fun q hq => (zcI ht hq).2.1
 have HPa : Hid (∀ q i, q < t.length → i < (za1 t (q : Int)).length → ∃ p : Nat, (za1 t (q : Int)).getD i 0 = (p : Int) ∧ q < p ∧ p < t.length) := fun q i hq hi => part_at ht hq hi
 have HKl : Hid (∀ q, q < t.length → (za1 t (q : Int)).length = za7 (t.getD q nd0) ∧ za7 (t.getD q nd0) ≤ 3) := fun q hq => ⟨by unfold za1; rw [zcF, Int.toNat_natCast], by
  obtain ⟨_, hnb, _⟩ := zac (zbX (zaM.1 ht).2 hq)
  exact (zaT hnb).2⟩
 have HCl : Hid (∀ (X : World) (q x y : Nat), Below w.heap.size w X → q < t.length → x ≤ 60 → y ≤ 60 → Calls Tryz.prog 111 #[.int .i64 (q : Int), .agg (nv x), .agg (nv y)] X fun e w' => e = .returned (.agg (nv (F q x y))) ∧ Below X.heap.size X w') := fun X q x y _ _ hx hy => by rw [hFd]; exact zjC (q : Int) x y X hx hy
 have hnr0 : Hid (Nr w W1 w.heap.size t.length t.length (nd12 t [])) := hnr _
 generalize nd12 t [] = f at *
 have hn0 : 1 ≤ t.length := (of_decide_eq_true ht).1.1
 obtain ⟨gN, hgN⟩ : ∃ gN, w.heap.size = gN := ⟨_, rfl⟩
 rw [hgN] at hmk hnr0
 have HgN : Hid (w.heap.size = gN) := hgN
 obtain ⟨n, hn⟩ : ∃ n, t.length = n := ⟨_, rfl⟩
 rw [hn] at h60 hmk HNi HPo HSt HRg HPa HKl HCl hnr0 hn0 ⊢
 clear hgN hin hint hsh ht hnr hn hFd
 go_enter Tryz.func110, Tryz.ntmps110
 go_wp2
 go_loopw [6] (fun av wx => ∃ k : Nat, k ≤ n ∧ av = .int .i64 ((k : Int) - 1) ∧ Hid (Nr w wx gN n k f)) (fun av _ => (intOf av + 1).toNat)
 case atStart => exact ⟨n, Nat.le_refl _, rfl, hnr0⟩
 case round =>
  obtain ⟨k, hk, rfl, st⟩ := hrel
  clear hnr0 hmk
  rcases k with _ | q
  ·
   go_wp2
   go_ret
   exact ⟨gN, rfl, st.out⟩
  ·
   rw [show ((q + 1 : Nat) : Int) - 1 = (q : Int) by omega]
   have hqn : q < n := hk
   have hq1 : (q : Int) < (n : Int) := by omega
   have hB0 : Below wr.heap.size wr (wr.alloc (.cells #[] 138)) := (Below.refl _ _).alloc (Nat.le_refl _) _
   have hP0 : (wr.alloc (.cells #[] 138)).ownsRow (gN + 1) 138 60 (.slice (some ⟨wr.heap.size, 0, none⟩) 0 0) 0 [] := World.ownsRow_lit wr #[] 0 st.out.lt (by decide) rfl
   obtain ⟨W2, hW2⟩ : ∃ W2, wr.alloc (.cells #[] 138) = W2 := ⟨_, rfl⟩
   rw [hW2] at hB0 hP0
   have HN2 : Hid (Nr w W2 gN n (q + 1) f) := st.out.below hB0
   have HP2 : Hid (W2.ownsRow (gN + 1) 138 60 (.slice (some ⟨wr.heap.size, 0, none⟩) 0 0) 0 []) := hP0
   have HF1 : Hid (_) := HSt.out q hqn
   have HK1 : Hid (_) := HKl.out q hqn
   have HP1 : Hid (∀ i, i < (za1 t (q : Int)).length → ∃ p : Nat, (za1 t (q : Int)).getD i 0 = (p : Int) ∧ q < p ∧ p < n) := fun i hi => HPa.out q i hqn hi
   have HC1 : Hid (_) := HPo.out W2 q HN2.out.b hqn
   obtain ⟨ps, hps⟩ : ∃ ps, za1 t (q : Int) = ps := ⟨_, rfl⟩
   rw [hps] at HF1 HK1 HP1 HC1
   obtain ⟨nq, hnq⟩ : ∃ nq, t.getD q nd0 = nq := ⟨_, rfl⟩
   rw [hnq] at HF1 HK1
   obtain ⟨m, hm⟩ : ∃ m, ps.length = m := ⟨_, rfl⟩
   rw [hm] at HK1 HP1 HC1
   have HM : Hid (ps.length = m) := hm
   have HNq : Hid (t.getD q nd0 = nq) := hnq
   have hm3 : m ≤ 3 := by have := HK1.out; omega
   clear hB0 hP0 hps hnq hm
   go_wp2_with fail
   refine Calls.mono HC1.out ?_
   rintro e W3 ⟨pl, rfl, hpl, hb3⟩
   obtain ⟨la, lc, rfl⟩ := zaE hpl
   have HS3 : Hid (Pr w W3 gN n (q + 1) f (.slice (some ⟨wr.heap.size, 0, none⟩) 0 0) 0 (.slice la m lc) ps) := Pr.start (HN2.out.below hb3) (za2 HP2.out hb3) (by rw [HM.out]; exact zaj hpl (by have := HN2.out.lt; omega))
   clear hpl hb3 HC1 HN2 HP2 hW2
   go_wp2
   go_loopw [7, 25] (fun pv iv wx => ∃ i : Nat, iv = .int .i64 (i : Int) ∧ i ≤ m ∧ Hid (Pr w wx gN n (q + 1) f pv i (.slice la m lc) ps)) (fun _ iv _ => m - (intOf iv).toNat)
   case atStart => exact ⟨0, rfl, Nat.zero_le _, HS3⟩
   case round =>
    obtain ⟨i, rfl, hi, sp⟩ := hrel
    clear HS3 st
    rename World => W
    by_cases him : (i : Int) < (m : Int)
    ·
     obtain ⟨p, hp, hqp, hpn⟩ := HP1.out i (by omega)
     have hp1 : (p : Int) < (n : Int) := by omega
     have hrg := sp.out.nr.rows p (by omega) hpn
     obtain ⟨v', Y, hrun, sp'⟩ := sp.out.push (by rw [HM.out]; omega) (by rw [HM.out]; omega)
     rw [hp, Int.toNat_natCast] at hrun
     obtain ⟨la', lc', e, has⟩ := zex sp.out.pl
     injection e with e1 e0 e2
     subst e1 e2
     clear e0
     obtain ⟨b, off, rfl, hbl, hci⟩ := has i (by rw [HM.out]; omega)
     rw [hp] at hci
     have SP : Hid (Pr w Y gN n (q + 1) f v' (i + 1) (.slice (some ⟨b, off, none⟩) m lc) ps) := sp'
     have hpl2 := sp.out.nr.b
     clear sp' has hp hbl
     go_wp2_with (guard_target = wpList _ _ _ _ _ _; first | (refine zax rfl _ rfl 33 rfl _ _ (f p) rfl (by exact hrg) ?_) | (refine zfv rfl _ rfl (f p) rfl ?_) | (at_builtin; refine wpList_append_run rfl (.tmp 29) (.tmp 34) 105 rfl _ _ _ rfl rfl hrun ?_))
     go_roundw
     case rel => exact ⟨i + 1, by go_num, by omega, SP⟩
     case measure => simp [intOf]; omega
    ·
     have him2 : i = m := by omega
     subst him2
     have hpv := sp.out.pv
     rw [List.take_of_length_le (by rw [HM.out]; exact Nat.le_refl _)] at hpv
     have hpv2 : W.ownsRow (gN + 1) 138 60 u7 ps.length (nsV f ps) := by rw [HM.out]; exact hpv
     obtain ⟨pa, pc, e7, -, -⟩ := ns_of hpv2
     rw [HM.out] at e7
     subst e7
     have HNs : Hid (∀ X, Pr w X gN n (q + 1) f (.slice pa i pc) i (.slice la i lc) ps → NsIn X pa (ps.map (fun p => f p.toNat))) := fun X h => by
      have h1 := h.pv
      rw [List.take_of_length_le (by rw [HM.out]; exact Nat.le_refl _)] at h1
      have h2 : X.ownsRow (gN + 1) 138 60 (.slice pa i pc) ps.length (nsV f ps) := by rw [HM.out]; exact h1
      obtain ⟨a', c', e, h3, -⟩ := ns_of h2
      injection e with e1 e0 e2
      subst e1
      exact h3
     clear hpv hpv2
     have hni := (HNi.out W sp.out.nr.b).2 q hqn
     rw [HNq.out] at hni
     obtain ⟨b, off, rfl, hbl, c0, c1, c2, c3⟩ := hni
     obtain ⟨kk, aa, pp, ff⟩ := nq
     simp only at c0 c1 c2 c3
     have HI : Hid (∀ X, Calls Tryz.prog 144 #[.agg #[.int .i64 kk, .int .i64 aa, .string ⟨pp.toArray⟩, .string ⟨ff.toArray⟩]] X fun e w' => e = .returned (.bool (zfq (kk, aa, pp, ff))) ∧ Below X.heap.size X w') := fun X => zjD (kk, aa, pp, ff) X
     go_wp2_with fail
     refine Calls.mono (HI.out W) ?_
     rintro e W5 ⟨rfl, hb5⟩
     have sq : Hid (Pr w W5 gN n (q + 1) f (.slice pa i pc) i (.slice la i lc) ps) := sp.out.below hb5
     have d0 : W5.cell? ⟨b, off + q * 4, none⟩ = some (.int .i64 kk) := (hb5.cell (p := ⟨b, off + q * 4, none⟩) hbl).trans c0
     have hF1 := HF1.out
     unfold zk0 at hF1
     clear hb5 sp c0 c1 c2 c3 HI HF1 hbl
     rcases hpb : zfq (kk, aa, pp, ff) with _ | _
     ·
      rw [hpb, if_neg (by simp)] at hF1
      by_cases h8 : kk = 8
      ·
       rw [if_pos h8, List.length_map, HM.out] at hF1
       have HFq : Hid (f q = cn (ps.map (fun p => f p.toNat)) i) := hF1
       subst h8
       clear hF1 hpb
       go_wp2_with fail
       refine Calls.mono (zfz pa i pc (ps.map (fun p => f p.toNat)) _ (by rw [List.length_map]; exact HM.out) (HNs.out _ sq.out) (by omega)) ?_
       rintro e W6 ⟨rfl, hb6⟩
       rw [← HFq.out]
       have sr : Hid (Pr w W6 gN n (q + 1) f (.slice pa i pc) i (.slice la i lc) ps) := sq.out.below hb6
       clear hb6 sq d0 HFq
       go_wp2_with (guard_target = wpList _ _ _ _ _ _; (refine zdw rfl _ _ rfl gN q n f rfl rfl sr.out.nr hqn (fun Y7 HR0 => ?_)))
       have HR : Hid (Nr w Y7 gN n q f) := HR0
       go_roundw
       case rel => exact ⟨q, by omega, rfl, HR⟩
       case measure => simp [intOf]
      ·
       rw [if_neg h8] at hF1
       have HFq : Hid (f q = gr (ps.map (fun p => f p.toNat))) := hF1
       have h8b : (kk == 8) = false := beq_eq_false_iff_ne.2 h8
       clear hF1 hpb h8
       go_wp2_with fail
       refine Calls.mono (zc2 pa i pc (ps.map (fun p => f p.toNat)) _ (by rw [List.length_map]; exact HM.out) (HNs.out _ sq.out) (by omega)) ?_
       rintro e W6 ⟨rfl, hb6⟩
       rw [← HFq.out]
       have sr : Hid (Pr w W6 gN n (q + 1) f (.slice pa i pc) i (.slice la i lc) ps) := sq.out.below hb6
       clear hb6 sq d0 HFq
       go_wp2_with (guard_target = wpList _ _ _ _ _ _; (refine zdw rfl _ _ rfl gN q n f rfl rfl sr.out.nr hqn (fun Y7 HR0 => ?_)))
       have HR : Hid (Nr w Y7 gN n q f) := HR0
       go_roundw
       case rel => exact ⟨q, by omega, rfl, HR⟩
       case measure => simp [intOf]
     ·
      rw [hpb, if_pos rfl] at hF1
      have hk36 : 3 ≤ kk ∧ kk ≤ 6 := by
       have h := hpb
       unfold zfq at h
       rw [Bool.and_eq_true, decide_eq_true_iff, decide_eq_true_iff] at h
       exact h
      have hi2 : i = 2 := by have h := HK1.out.1; rw [zaX hk36] at h; exact h
      obtain ⟨p0, e0, hq0, hl0⟩ := HP1.out 0 (by omega)
      obtain ⟨p1, e1, hq1', hl1⟩ := HP1.out 1 (by omega)
      have hg0 : (ps.map (fun p => f p.toNat)).getD 0 0 = f p0 := by
       have : 0 < ps.length := by rw [HM.out]; omega
       have h2 : (ps.map (fun p => f p.toNat)).getD 0 0 = f (ps.getD 0 0).toNat := by simp [List.getD, this]
       rw [h2, e0, Int.toNat_natCast]
      have hg1 : (ps.map (fun p => f p.toNat)).getD 1 0 = f p1 := by
       have : 1 < ps.length := by rw [HM.out]; omega
       have h2 : (ps.map (fun p => f p.toNat)).getD 1 0 = f (ps.getD 1 0).toNat := by simp [List.getD, this]
       rw [h2, e1, Int.toNat_natCast]
      rw [hg0, hg1] at hF1
      obtain ⟨gp, go2, rfl, -, -⟩ := HNs.out W5 sq.out 0 (by rw [List.length_map, HM.out]; omega)
      have HR0 : Hid (∀ X, Pr w X gN n (q + 1) f (.slice (some ⟨gp, go2, none⟩) i pc) i (.slice la i lc) ps → X.rangeAt gp go2 (nvL (f p0))) := fun X h => by
       obtain ⟨b', o', e, _, h3⟩ := HNs.out X h 0 (by rw [List.length_map, HM.out]; omega)
       injection e with e
       injection e with e2 e3 _
       subst e2 e3
       rw [hg0] at h3
       simpa using h3
      have HR1 : Hid (∀ X, Pr w X gN n (q + 1) f (.slice (some ⟨gp, go2, none⟩) i pc) i (.slice la i lc) ps → X.rangeAt gp (go2 + 60) (nvL (f p1))) := fun X h => by
       obtain ⟨b', o', e, _, h3⟩ := HNs.out X h 1 (by rw [List.length_map, HM.out]; omega)
       injection e with e
       injection e with e2 e3 _
       subst e2 e3
       rw [hg1] at h3
       simpa using h3
      have HCq : Hid (∀ X, Pr w X gN n (q + 1) f (.slice (some ⟨gp, go2, none⟩) i pc) i (.slice la i lc) ps → Calls Tryz.prog 111 #[.int .i64 (q : Int), .agg (nv (f p0)), .agg (nv (f p1))] X fun e w' => e = .returned (.agg (nv (f q))) ∧ Below X.heap.size X w') := fun X h => by
       rw [hF1]
       exact HCl.out X q (f p0) (f p1) h.nr.b hqn (HRg.out p0 hl0) (HRg.out p1 hl1)
      have h0i : (0 : Int) < (i : Int) := by omega
      have h1i : (1 : Int) < (i : Int) := by omega
      have h0n : 0 < i := by omega
      have h1n : 1 < i := by omega
      clear hF1 hg0 hg1 e0 e1 hpb d0 hi2 hk36
      go_wp2
      refine wp_region_held_drew (S := fun X => Pr w X gN n (q + 1) f (.slice (some ⟨gp, go2, none⟩) i pc) i (.slice la i lc) ps) (by kernel_rfl) sq.out.drew (fun hHeld => ?_)
      refine tkO [(0, 48), (1, 49), (2, 50), (3, 51), (4, 52), (5, 53)] ?_
      repeat (refine tkY ?_ rfl (by rfl) ?_ ?_; rotate_left; (focus (intro wq hSw; clear hSw; first | (go_simp; done) | (go_simp; with_reducible rfl))); simp only [zP])
      refine tkZ ?_
      refine wpAnyH_take (i := 6) (oi := ⟨some 54, _, _, _, _, _⟩) (v := .agg (nv (f p0))) rfl (by kernel_rfl) (by kernel_rfl) (by kernel_rfl) (fun _ _ _ h => h) (zaH (by rfl) _ rfl gp (go2) (f p0) rfl (fun v h => HR0.out v h)) (by assumption) ?_
      simp only [zP]
      refine tkO [(7, 55), (8, 56)] ?_
      repeat (refine tkY ?_ rfl (by rfl) ?_ ?_; rotate_left; (focus (intro wq hSw; clear hSw; first | (go_simp; done) | (go_simp; with_reducible rfl))); simp only [zP])
      refine tkZ ?_
      refine wpAnyH_take (i := 9) (oi := ⟨some 57, _, _, _, _, _⟩) (v := .agg (nv (f p1))) rfl (by kernel_rfl) (by kernel_rfl) (by kernel_rfl) (fun _ _ _ h => h) (zaH (by rfl) _ rfl gp (go2 + 60) (f p1) rfl (fun v h => HR1.out v h)) (by assumption) ?_
      simp only [zP]
      refine zR 10 rfl (fun K hK => ?_)
      go_simp
      refine Calls.mono (HCq.out _ hHeld) ?_
      rintro e W6 ⟨rfl, hb6⟩
      dsimp only
      refine hK.out _ _ (by exact hHeld.below hb6) (fun hHeld => ?_)
      clear hK K
      (try simp only [zP])
      refine tkO [(11, 59)] ?_
      repeat (refine tkY ?_ rfl (by rfl) ?_ ?_; rotate_left; (focus (intro wq hSw; clear hSw; first | (go_simp; done) | (go_simp; with_reducible rfl))); simp only [zP])
      refine tkZ ?_
      refine zR 12 rfl (fun K hK => ?_)
      refine zaf rfl (zcC _ _ rfl gN (q * 60) (f q) rfl rfl (hHeld.nr.there hqn) (fun W7 hn7 hg7 hE7 => ?_))
      have HR : Hid (Nr w W7 gN n q f) := by rw [hE7]; exact hHeld.nr.store hqn
      have HS7 : Pr w W7 gN n (q + 1) f (.slice (some ⟨gp, go2, none⟩) i pc) i (.slice la i lc) ps := by rw [hE7]; exact hHeld.store hqn
      clear hE7
      refine hK.out _ _ (by exact HS7) (fun hHeld => ?_)
      clear hK K
      (try simp only [Act.put, zA])
      refine wpAnyH_done (by kernel_rfl) ?_ _
      clear hHeld hn7 hg7 hb6 sq HCq HR0 HR1 HS7
      go_wp2
      go_roundw
      case rel => exact ⟨q, by omega, rfl, HR⟩
      case measure => simp [intOf]
set_option maxHeartbeats 1000000 in
set_option maxRecDepth 100000 in
theorem zlw (a : Option Addr) (c : Nat) (t : List Nd) (w : World) (hin : za4 w a t.length t) (hint : IntT t) (hsh : zam t) (ht : zaI t = true) :
 Calls Tryz.prog 79 #[.slice a t.length c] w fun e w' => ∃ gN, e = .returned (.slice (some ⟨gN, 0, none⟩) t.length t.length) ∧ Nr w w' gN t.length 0 (nd12 t []) := by
 have HC : Hid (_) := zhb a c t w hin hint hsh ht
 clear hin hint hsh ht
 go_enter Tryz.func79, Tryz.ntmps79
 go_wp2_with fail
 refine Calls.mono HC.out ?_
 rintro e w1 ⟨gN, rfl, hnr⟩
 go_wp2
 go_ret
 exact ⟨gN, rfl, hnr⟩
theorem ziJ {x y : Nat} (hx : 1 ≤ x) : (gr [x, y] = x) ↔ y ≤ x := by rw [zhj]; omega
structure Tv (w X : World) (g1 g2 x y : Nat) : Prop where
 a : Nb X g1 0 x
 b : Nb X g2 0 y
 bl : Below w.heap.size w X
theorem Tv.below {w X Y : World} {g1 g2 x y : Nat} (s : Tv w X g1 g2 x y) (hb : Below X.heap.size X Y) : Tv w Y g1 g2 x y := ⟨s.a.below hb, s.b.below hb, s.bl.trans (hb.mono s.bl.size)⟩
theorem Tv.drew {w X : World} {g1 g2 x y : Nat} (s : Tv w X g1 g2 x y) : Tv w X.drew g1 g2 x y := s.below ⟨rfl, rfl, rfl, Nat.le_refl _, fun _ _ => rfl⟩
def fo13 (x y : Nat) : Int := if decide (gr [x, y] = x) = true then 0 else 1
set_option maxHeartbeats 2000000 in
set_option maxRecDepth 100000 in
theorem zeM (x y : Nat) (w : World) (hx : x ≤ 60) (hy : y ≤ 60) :
 Calls Tryz.prog 148 #[.agg (nv x), .agg (nv y)] w fun e w' => e = .returned (.int .i64 (fo13 x y)) ∧ Below w.heap.size w w' := by
 have heq0 := zfK (gr [x, y]) x (by rw [zhj]; omega) hx
 have HF : Hid (fo13 x y = if decide (gr [x, y] = x) = true then 0 else 1) := by exact (rfl : fo13 x y = _)
 obtain ⟨bd, hbd⟩ : ∃ bd, decide (gr [x, y] = x) = bd := ⟨_, rfl⟩
 rw [hbd] at HF heq0
 generalize fo13 x y = fT at HF ⊢
 clear hbd
 go_enter Tryz.func148, Tryz.ntmps148
 go_wp2_with (guard_target = wpList _ _ _ _ _ _; first | (refine zbg rfl _ rfl 2 rfl x rfl (fun Y1 g7 hN1 hB1 hG1 => ?_)) | (refine zbg rfl _ rfl 3 rfl y rfl (fun Y2 g8 hN2 hB2 hG2 => ?_)))
 have st : Hid (Tv w Y2 g7 g8 x y) := ⟨hN1.below hB2, hN2, hB1.trans (hB2.mono hB1.size)⟩
 clear hN1 hB1 hG1 hN2 hB2 hG2
 refine wp_region_held_drew (S := fun X => Tv w X g7 g8 x y) (by kernel_rfl) st.out.drew (fun hHeld => ?_)
 refine wpAnyH_take (i := 0) (oi := ⟨some 5, _, _, _, _, _⟩) (v := .agg (nv (x))) rfl (by kernel_rfl) (by kernel_rfl) (by kernel_rfl) (fun _ _ _ h => h) (zaH (by rfl) _ rfl g7 (0) (x) rfl (fun v h => h.a.cs)) (by assumption) ?_
 simp only [zP]
 refine wpAnyH_take (i := 1) (oi := ⟨some 6, _, _, _, _, _⟩) (v := .agg (nv (y))) rfl (by kernel_rfl) (by kernel_rfl) (by kernel_rfl) (fun _ _ _ h => h) (zaH (by rfl) _ rfl g8 (0) (y) rfl (fun v h => h.b.cs)) (by assumption) ?_
 simp only [zP]
 refine wpAnyH_take (i := 4) (oi := ⟨some 9, _, _, _, _, _⟩) (v := .agg (nv (x))) rfl (by kernel_rfl) (by kernel_rfl) (by kernel_rfl) (fun _ _ _ h => h) (zaH (by rfl) _ rfl g7 (0) (x) rfl (fun v h => h.a.cs)) (by assumption) ?_
 simp only [zP]
 refine zR 2 rfl (fun K hK => ?_)
 refine zaf rfl (zcT _ _ rfl x y rfl rfl (fun W3 g4 hn3 hb3 _ => ?_))
 refine hK.out _ _ (by exact hHeld.below hb3) (fun hHeld => ?_)
 clear hK K
 (try simp only [Act.put, zA])
 refine zR 3 rfl (fun K hK => ?_)
 go_simp
 refine (zc2 _ 2 2 [x, y] _ rfl hn3 (by omega)).mono ?_
 rintro e W4 ⟨rfl, hb4⟩
 dsimp only
 refine hK.out _ _ (by exact hHeld.below hb4) (fun hHeld => ?_)
 clear hK K
 (try simp only [zP])
 refine tkO [(5, 10)] ?_
 repeat (refine tkY ?_ rfl (by rfl) ?_ ?_; rotate_left; (focus (intro wq hSw; clear hSw; first | (go_simp; done) | (go_simp; with_reducible rfl))); simp only [zP])
 refine tkZ ?_
 have HBF : Hid (Below w.heap.size w W4) := hHeld.bl
 refine wpAnyH_done (by kernel_rfl) ?_ _
 clear hHeld hn3 hb3 hb4 st heq0
 cases bd
 ·
  go_wp2
  go_ret
  exact ⟨by rw [HF.out]; rfl, HBF.out⟩
 ·
  go_wp2
  go_ret
  exact ⟨by rw [HF.out]; rfl, HBF.out⟩
end Go.Proofs.YtkpdoedpkncboaaGreat
