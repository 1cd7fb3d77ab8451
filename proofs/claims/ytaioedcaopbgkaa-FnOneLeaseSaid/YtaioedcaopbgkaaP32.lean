/-
  Parts of one proof, one behind the other: Codes, DrawL18, LikeD, WordI, Jumps, Clone, TextI.
-/
import Derived.Test.YtaioedcaopbgkaaP31
import Derived.Test.YtaioedcaopbgkaaP3
import Derived.Test.YtaioedcaopbgkaaP20
import Derived.Test.YtaioedcaopbgkaaP13
import Derived.Test.YtaioedcaopbgkaaP2
import Derived.Test.YtaioedcaopbgkaaP1
import Derived.Scope
import Derived.WalkMore
import Derived.Lib.Strings
import Derived.Lib.Walk
import Derived.Lib.BufferWrite
import Derived.Lib.UnsafeStr
import Derived.Lib.Hide
import Derived.Laws.MakeOwn
import Derived.Test.YtaioedcaopbgkaaRows
import Derived.WalkKit
import Derived.WalkLawsBesides
import Derived.OpenShut
import Derived.BigQuiet

/-! A code that came in, as the laws' walks take it. -/
namespace Go.Proofs.Ytaioedcaopbgkaa
open Go.RowKit

theorem code_nil (w : World) : Code w w.heap.size none 0 := fun j hj => by omega

theorem code_of (w : World) (x : Addr) (len : Nat) (zs : List Int) (h : ∀ i, i < zs.length → w.cell? (x.add i) = some (.int .u8 (zs.getD i 0))) (hl : len ≤ zs.length) (hw : ∀ n ∈ zs, (Lit.int .u8 n).wf = true) : Code w w.heap.size (some x) len := by
 intro j hj
 obtain ⟨b, off, spot⟩ := x
 have hc := h j (by omega)
 have hspot : spot = none := by simpa [Addr.add] using World.cell?_spot (h 0 (by omega))
 subst hspot
 have e : (⟨b, off, none⟩ : Addr).add j = ⟨b, off + j, none⟩ := by unfold Addr.add; split <;> simp_all
 rw [e] at hc
 have hb := bounds_u8 (hw (zs.getD j 0) (by rw [List.getD_eq_getElem?_getD, List.getElem?_eq_getElem (by omega)]; exact List.getElem_mem _))
 exact ⟨b, off, _, rfl, World.block_lt_of_cell? w ⟨b, off + j, none⟩ hc, hc, hb⟩

theorem Code.later {w w' : World} {a : Option Addr} {len : Nat} (h : Code w w.heap.size a len) (hb : Below w.heap.size w w') : Code w' w'.heap.size a len := by
 intro j hj
 obtain ⟨b, off, x, e1, e2, e3, e0⟩ := h j hj
 exact ⟨b, off, x, e1, Nat.lt_of_lt_of_le e2 hb.size, (hb.cell (p := ⟨b, off + j, none⟩) e2).trans e3, e0⟩

theorem Code.kept {w w' : World} {a : Option Addr} {len : Nat} (h : Code w w.heap.size a len) (hg : w.grownBy w' none) : Code w' w'.heap.size a len :=
 h.later ⟨hg.os, hg.tape, hg.output, hg.size, fun k hk => hg.block k hk (by simp)⟩

set_option maxHeartbeats 400000 in
set_option maxRecDepth 100000 in
theorem bigB (w : World) (a : Option Addr) (len cap : Nat) :
 Calls Try.prog 4 #[.slice a len cap] w fun e w' => e = .returned (.bool (decide (4096 < (len : Int)))) ∧ w' = w := by
 go_enter Try.func4, Try.ntmps4
 go_wp2
 go_ret
 exact ⟨rfl, rfl⟩

theorem code_some {w : World} {B : Nat} {a : Option Addr} {len : Nat} (h : Code w B a len) (hz : len ≠ 0) : ∃ b off, a = some ⟨b, off, none⟩ ∧ ∀ j, j < len → ∃ x : Int, w.cell? ⟨b, off + j, none⟩ = some (.int .u8 x) ∧ 0 ≤ x ∧ x ≤ 255 := by
 obtain ⟨b, off, x, rfl, _, _⟩ := h 0 (by omega)
 refine ⟨b, off, rfl, fun j hj => ?_⟩
 obtain ⟨b', off', x', e1, _, e3, e4⟩ := h j hj
 injection e1 with e1
 injection e1 with e5 e6
 subst e5 e6
 exact ⟨x', e3, e4⟩

set_option maxHeartbeats 1000000 in
set_option maxRecDepth 100000 in
theorem pickSome (w : World) (b off len cap : Nat) (seed n : Int) (hl : len ≤ 4096) (hs0 : 0 ≤ seed) (hs1 : seed ≤ 100) (hn : 0 < n) (hc : ∀ j, j < len → ∃ x : Int, w.cell? ⟨b, off + j, none⟩ = some (.int .u8 x) ∧ 0 ≤ x ∧ x ≤ 255) :
 Calls Try.prog 9 #[.slice (some ⟨b, off, none⟩) len cap, .int .i64 seed, .int .i64 n] w fun e w' => (∃ x : Int, e = .returned (.int .i64 x) ∧ 0 ≤ x ∧ x < n) ∧ w' = w := by
 have HC : Hid (∀ j, j < len → ∃ x : Int, w.cell? ⟨b, off + j, none⟩ = some (.int .u8 x) ∧ 0 ≤ x ∧ x ≤ 255) := hc
 have hz : (n == 0) = false := beq_eq_false_iff_ne.2 (by omega)
 clear hc
 go_enter Try.func9, Try.ntmps9
 go_wp2
 go_loop [7, 8] (fun h i => ∃ k : Nat, ∃ m : Int, k ≤ len ∧ i = .int .i64 k ∧ h = .int .i64 m ∧ 0 ≤ m ∧ m ≤ 2000000) (fun _ i => len - (intOf i).toNat)
 case atStart => exact ⟨0, _, Nat.zero_le _, rfl, rfl, by omega, by omega⟩
 case round =>
  obtain ⟨k, m, hk, rfl, rfl, hm0, hm1⟩ := hrel
  by_cases hlt : k < len
  ·
   obtain ⟨x, cx, hx0, hx1⟩ := HC.out k hlt
   go_wp2
   go_round
   case rel => exact ⟨k + 1, _, by omega, by go_num, rfl, by omega, by omega⟩
   case measure => simp [intOf]; omega
  ·
   go_wp2
   go_ret
   exact ⟨⟨_, rfl, Int.emod_nonneg _ (by omega), Int.emod_lt_of_pos _ hn⟩, rfl⟩

set_option maxHeartbeats 1000000 in
set_option maxRecDepth 100000 in
theorem pickNone (w : World) (a : Option Addr) (cap : Nat) (seed n : Int) (hs0 : 0 ≤ seed) (hs1 : seed ≤ 100) (hn : 0 < n) :
 Calls Try.prog 9 #[.slice a 0 cap, .int .i64 seed, .int .i64 n] w fun e w' => (∃ x : Int, e = .returned (.int .i64 x) ∧ 0 ≤ x ∧ x < n) ∧ w' = w := by
 have hz : (n == 0) = false := beq_eq_false_iff_ne.2 (by omega)
 go_enter Try.func9, Try.ntmps9
 go_wp2
 refine wp_loop_rounds 1 ?_
 rw [rounds_succ]
 go_wp2
 go_ret
 exact ⟨⟨_, rfl, Int.emod_nonneg _ (by omega), Int.emod_lt_of_pos _ hn⟩, rfl⟩

theorem pickB (w : World) (B : Nat) (a : Option Addr) (len cap : Nat) (seed n : Int) (hl : len ≤ 4096) (hs0 : 0 ≤ seed) (hs1 : seed ≤ 100) (hn : 0 < n) (hc : Code w B a len) :
 Calls Try.prog 9 #[.slice a len cap, .int .i64 seed, .int .i64 n] w fun e w' => (∃ x : Int, e = .returned (.int .i64 x) ∧ 0 ≤ x ∧ x < n) ∧ w' = w := by
 by_cases hz : len = 0
 ·
  subst hz; exact pickNone w a cap seed n hs0 hs1 hn
 ·
  obtain ⟨b, off, rfl, hcc⟩ := code_some hc hz
  exact pickSome w b off len cap seed n hl hs0 hs1 hn hcc

end Go.Proofs.Ytaioedcaopbgkaa

/-! Draws of chapter 18: DrawLent. -/
namespace Go.Proofs.Ytaioedcaopbgkaa
open Go.RowKit

set_option maxHeartbeats 4000000 in
set_option maxRecDepth 100000 in
theorem drawLent (w : World) (a : Option Addr) (len cap : Nat) (hl : len ≤ 4096) (hc : Code w w.heap.size a len) :
 Calls Try.prog 5 #[.slice a len cap] w fun e w' => ∃ va vc xs ts ep nw jr k, e = .returned (.tuple #[.agg #[.slice va (ts : List Ta).length vc, .int .i64 ep, .int .i64 nw, .string ⟨(jr : List UInt8).toArray⟩], .int .i64 k]) ∧ TksOwn w' w.heap.size (.slice va ts.length vc) xs ∧ xs.map (·.1) = ts ∧ ts.length ≤ 9 ∧ ShortTa ts ∧ jr.length ≤ 60000 ∧ Below w.heap.size w w' := by
 obtain ⟨D, hD⟩ : ∃ D, w.heap.size = D := ⟨_, rfl⟩
 obtain ⟨W1, hW1⟩ : ∃ W, w.alloc (.cells #[.slice none 0 0, .int .i64 0, .int .i64 0, .string ⟨#[]⟩] 26) = W := ⟨_, rfl⟩
 have hs1 : W1.heap.size = D + 1 := by rw [← hW1, ← hD]; simp
 have hb1 : Below w.heap.size w W1 := by rw [← hW1]; exact (Below.refl _ _).alloc (Nat.le_refl _) _
 have bR := B4.new w (.slice none 0 0) (.int .i64 0) (.int .i64 0) (.string ⟨#[]⟩) 26
 rw [hW1, hD] at bR
 have hcode : Code W1 W1.heap.size a len := Code.later hc hb1
 have HR1 : Hid (B4 W1 D (.slice none 0 0) (.int .i64 0) (.int .i64 0) (.string ⟨#[]⟩)) := bR
 have HW : Hid (Below w.heap.size w W1) := hb1
 clear hc bR hb1
 go_enter Try.func5, Try.ntmps5
 go_wp2_with fail
 refine (drawNew _ a len cap hl hcode).mono ?_
 rintro e w1 ⟨rfl, hc1, hg1⟩
 obtain ⟨B, hB⟩ : ∃ B, W1.heap.size = B := ⟨_, rfl⟩
 rw [hB] at hc1 ⊢
 have HBD : Hid (B = D + 1) := by exact (by rw [← hB, hs1] : B = D + 1)
 have HWs : Hid (D + 1 ≤ w1.heap.size) := by exact (by have := hg1.size; omega : D + 1 ≤ w1.heap.size)
 have HR2 : Hid (B4 w1 D (.slice none 0 0) (.int .i64 0) (.int .i64 0) (.string ⟨#[]⟩)) := HR1.out.grown hg1 (by simp)
 have HG1 : Hid (W1.grownBy w1 none) := hg1
 clear hcode hg1 HR1 hs1 hB
 go_wp2_with fail
 refine (drawAny18 w1 B a len cap hc1).mono ?_
 rintro e w2 ⟨_, rfl, lv, va, vc, xs, ts, ep, nw, jr, rfl, _, ho2, hx2, hn9, hsh, hj, hc2, hg2⟩
 have HR3 : Hid (B4 w2 D (.slice none 0 0) (.int .i64 0) (.int .i64 0) (.string ⟨#[]⟩)) := HR2.out.grown hg2 (by intro e; injection e with e; have := HBD.out; omega)
 have HO2 : Hid (TksOwn w2 w1.heap.size (.slice va ts.length vc) xs ∧ xs.map (·.1) = ts ∧ ts.length ≤ 9 ∧ ShortTa ts ∧ jr.length ≤ 60000 ∧ D + 1 ≤ w1.heap.size) := ⟨ho2, hx2, hn9, hsh, hj, HWs.out⟩
 have HB2 : Hid (Below w.heap.size w w2) := by
  have h1 : Below w.heap.size w w1 := HW.out.grown HG1.out HW.out.size (fun k e => by cases e)
  exact h1.grown hg2 h1.size (fun k e => by injection e with e; have := HBD.out; omega)
 have HC2 : Hid (Cur w2 B a len cap) := hc2
 have HC1L : Hid (B < w1.heap.size) := hc1.lt
 clear ho2 hx2 hn9 hsh hj hc1 hc2 hg2 HR2 HW HG1
 obtain ⟨Q, hQ⟩ : ∃ Q, w2.heap.size = Q := ⟨_, rfl⟩
 obtain ⟨Z0, hZ0⟩ : ∃ Z0, w2.alloc (.cells #[.slice none 0 0, .int .i64 0, .int .i64 0, .string ⟨#[]⟩] 26) = Z0 := ⟨_, rfl⟩
 have bz := B4.new w2 (.slice none 0 0) (.int .i64 0) (.int .i64 0) (.string ⟨#[]⟩) 26
 have hbZ : Below w2.heap.size w2 Z0 := by rw [← hZ0]; exact (Below.refl _ _).alloc (Nat.le_refl _) _
 rw [hZ0] at bz
 rw [hQ] at bz hbZ
 have z0 := bz.c0
 have z1 := bz.c1
 have z2 := bz.c2
 have z3 := bz.c3
 have zf := bz.fr
 have b4 := (((bz.s0 (.slice va ts.length vc)).s1 (.int .i64 ep)).s2 (.int .i64 nw)).s3 (.string ⟨jr.toArray⟩)
 have hbX : Below Q w2 ((((Z0.setCell ⟨Q, 0, none⟩ (.slice va ts.length vc)).setCell ⟨Q, 1, none⟩ (.int .i64 ep)).setCell ⟨Q, 2, none⟩ (.int .i64 nw)).setCell ⟨Q, 3, none⟩ (.string ⟨jr.toArray⟩)) := (((hbZ.setCell (Nat.le_refl _) _).setCell (Nat.le_refl _) _).setCell (Nat.le_refl _) _).setCell (Nat.le_refl _) _
 obtain ⟨w3, hw3⟩ : ∃ W, (((Z0.setCell ⟨Q, 0, none⟩ (.slice va ts.length vc)).setCell ⟨Q, 1, none⟩ (.int .i64 ep)).setCell ⟨Q, 2, none⟩ (.int .i64 nw)).setCell ⟨Q, 3, none⟩ (.string ⟨jr.toArray⟩) = W := ⟨_, rfl⟩
 rw [hw3] at b4 hbX
 rw [← hQ] at hbX
 have HQ3 : Hid (B4 w3 Q (.slice va ts.length vc) (.int .i64 ep) (.int .i64 nw) (.string ⟨jr.toArray⟩)) := b4
 have HX3 : Hid (Below w2.heap.size w2 w3) := hbX
 have HQD : Hid (D < Q ∧ B < Q) := by
  have h1 := HR3.out.lt
  have h2 := HC2.out.lt
  exact (⟨by omega, by omega⟩ : D < Q ∧ B < Q)
 have HC3 : Hid (Cur w3 B a len cap) := HC2.out.below hbX
 have q0 := b4.c0
 have q1 := b4.c1
 have q2 := b4.c2
 have q3 := b4.c3
 clear b4 hbX bz hbZ HC2
 go_wp2
 refine wp_region_held_drew (S := (fun Z => Z.cell? ⟨Q, 0, none⟩ = some (.slice va ts.length vc) ∧ Z.cell? ⟨Q, 1, none⟩ = some (.int .i64 ep) ∧ Z.cell? ⟨Q, 2, none⟩ = some (.int .i64 nw) ∧ Z.cell? ⟨Q, 3, none⟩ = some (.string ⟨jr.toArray⟩))) (by kernel_rfl) ?_ (fun hHeld => ?_)
 ·
  exact ⟨q0, q1, q2, q3⟩
 refine wpAnyH_take (i := 0) (oi := ⟨some 14, _, _, _, _, _⟩) (v := ?vdl0) rfl (by kernel_rfl) (by kernel_rfl) (by kernel_rfl) (fun _ _ _ h => h) (Or.inl ⟨by rfl, ?hydl0⟩) (by assumption) ?restdl0
 case hydl0 => (intro wq hSw; (try dsimp only at hSw); first | (go_simp; done) | (go_simp; with_reducible rfl))
 simp only [Act.put, List.setIfInBounds_toArray, List.set_cons_zero, List.set_cons_succ]
 refine wpAnyH_take (i := 1) (oi := ⟨some 15, _, _, _, _, _⟩) (v := ?vdl1) rfl (by kernel_rfl) (by kernel_rfl) (by kernel_rfl) (fun _ _ _ h => h) (Or.inl ⟨by rfl, ?hydl1⟩) (by assumption) ?restdl1
 case hydl1 => (intro wq hSw; (try dsimp only at hSw); first | (go_simp; done) | (go_simp; with_reducible rfl))
 simp only [Act.put, List.setIfInBounds_toArray, List.set_cons_zero, List.set_cons_succ]
 refine wpAnyH_ready (rs := [2]) (by kernel_rfl) (by simp) ?_
 refine AllReadyH.cons rfl (fun K hK => ?_) AllReadyH.nil
 go_simp
 (go_at_call 13; refine (drawFromG _ B a len cap (-1) 6 (by omega) (by omega) (by omega) HC3.out.drew).mono ?_; rintro e w4 ⟨k, rfl, hk0, hk1, hc4, hg4⟩; have hg34 : w3.grownBy w4 (some B) := (grown_drew w3 (some B)).trans hg4; have HQ4 : Hid (B4 w4 Q (.slice va ts.length vc) (.int .i64 ep) (.int .i64 nw) (.string ⟨jr.toArray⟩)) := HQ3.out.grown hg34 (by intro e; injection e with e; have h1 := HQD.out; omega); have hr4 := (HR3.out.below HX3.out).grown hg34 (by intro e; injection e with e; have := HBD.out; omega); have HO4 : Hid (TksOwn w4 w1.heap.size (.slice va ts.length vc) xs) := (HO2.out.1.below HX3.out).kept hg34 (own_offR (HO2.out.1.below HX3.out).row (by have := HC1L.out; omega)) (fun y hy => own_offR ((HO2.out.1.below HX3.out).trees y hy) (by have := HC1L.out; omega)); have HB4 : Hid (Below w.heap.size w w4) := (HB2.out.trans (HX3.out.mono HB2.out.size)).grown hg34 (Nat.le_trans HB2.out.size HX3.out.size) (fun k e => by injection e with e; have := HBD.out; omega); clear hc4 hg4 hg34 q0 q1 q2 q3; have q0 := HQ4.out.c0; have q1 := HQ4.out.c1; have q2 := HQ4.out.c2; have q3 := HQ4.out.c3; have r0 := hr4.c0; have r1 := hr4.c1; have r2 := hr4.c2; have r3 := hr4.c3; have f0 := hr4.fr 0; have f1 := hr4.fr 1; have f2 := hr4.fr 2; have f3 := hr4.fr 3; obtain ⟨Xe, hXe, y0, y1, y2, y3, hge⟩ := set4 (.slice va ts.length vc) (.int .i64 ep) (.int .i64 nw) (.string ⟨jr.toArray⟩) r0 r1 r2 r3; have bqe := HQ4.out.grown hge (by intro e; injection e with e; have h2 := HQD.out; omega))
 refine hK.out _ _ ?_ (fun hHeld => ?_)
 ·
  exact ⟨q0, q1, q2, q3⟩
 clear hK K
 refine wpAnyH_ready (rs := [3]) (by kernel_rfl) (by simp) ?_
 refine AllReadyH.cons rfl (fun K hK => ?_) AllReadyH.nil
 go_simp
 (try rw [hXe])
 refine hK.out _ _ ?_ (fun hHeld => ?_)
 ·
  exact ⟨bqe.c0, bqe.c1, bqe.c2, bqe.c3⟩
 clear hK K
 refine wpAnyH_take (i := 4) (oi := ⟨some 3, _, _, _, _, _⟩) (v := ?vdl4) rfl (by kernel_rfl) (by kernel_rfl) (by kernel_rfl) (fun _ _ _ h => h) (Or.inl ⟨by rfl, ?hydl4⟩) (by assumption) ?restdl4
 case hydl4 => (intro wq hSw; (try dsimp only at hSw); first | (go_simp; done) | (go_simp; with_reducible rfl))
 simp only [Act.put, List.setIfInBounds_toArray, List.set_cons_zero, List.set_cons_succ]
 refine wpAnyH_done (by kernel_rfl) ?_ _
 go_wp2
 refine bodyPost_ret (v := .tuple #[.agg #[.slice va ts.length vc, .int .i64 ep, .int .i64 nw, .string ⟨jr.toArray⟩], .int .i64 k]) (by simp [results, Try.results5, go_sem, y0, y1, y2, y3]) rfl ?_
 have hk := (HO4.out.kept hge (own_offR HO4.out.row (by have := HO2.out.2.2.2.2.2; omega)) (fun y hy => own_offR (HO4.out.trees y hy) (by have := HO2.out.2.2.2.2.2; omega)))
 exact ⟨va, vc, xs, ts, ep, nw, jr, k, rfl, hk.base (by have := HO2.out.2.2.2.2.2; omega), HO2.out.2.1, HO2.out.2.2.1, HO2.out.2.2.2.1, HO2.out.2.2.2.2.1, HB4.out.grown hge HB4.out.size (fun k e => by injection e with e; omega)⟩

end Go.Proofs.Ytaioedcaopbgkaa

/-! The laws' own helpers over desks that can be read: likeInts, likeDesk. -/
namespace Go.Proofs.Ytaioedcaopbgkaa
open Go.RowKit

set_option maxHeartbeats 1000000 in
set_option maxRecDepth 100000 in
theorem likeIntR (w : World) (aa ab : Option Addr) (ca cb : Nat) (ls : List Int) (hn : ls.length ≤ 1100000) (ha : AsIn w aa ls) (hb : AsIn w ab ls) :
 Calls Try.prog 22 #[.slice aa ls.length ca, .slice ab ls.length cb] w fun e w' => e = .returned (.bool true) ∧ w.grownBy w' none := by
 have hself : ∀ n : Int, (n != n) = false := by simp
 have HA : Hid (AsIn w aa ls) := ha
 have HB : Hid (AsIn w ab ls) := hb
 clear ha hb
 go_enter Try.func22, Try.ntmps22
 go_wp2
 go_loopw [5] (fun i wr => ∃ k : Nat, k ≤ ls.length ∧ i = .int .i64 k ∧ w.grownBy wr none) (fun i _ => ls.length - (intOf i).toNat)
 case atStart => exact ⟨0, Nat.zero_le _, rfl, World.grownBy.refl _ _⟩
 case round =>
  obtain ⟨k, hk, rfl, hg⟩ := hrel
  by_cases hlt : k < ls.length
  ·
   obtain ⟨b1, o1, rfl, _, c1⟩ := HA.out k hlt
   obtain ⟨b2, o2, rfl, _, c2⟩ := HB.out k hlt
   obtain ⟨t, ht⟩ : ∃ t, ls.getD k 0 = t := ⟨_, rfl⟩
   rw [ht] at c1 c2
   have hca : wr.cell? ⟨b1, o1 + k, none⟩ = some (.int .i64 t) := hg.cell c1 (by simp)
   have hcb : wr.cell? ⟨b2, o2 + k, none⟩ = some (.int .i64 t) := hg.cell c2 (by simp)
   clear ht c1 c2
   go_wp2
   go_region
   all_goals (try go_wp2)
   go_roundw
   case rel => exact ⟨k + 1, by omega, by go_num, hg.trans (grown_drew _ _)⟩
   case measure => simp [intOf]; omega
  ·
   go_wp2
   go_ret
   exact ⟨rfl, hg⟩

set_option maxHeartbeats 8000000 in
set_option maxRecDepth 100000 in
theorem likeDeskC (a b : Option Addr) (len ca cb : Nat) (fs : List Ta) (ep nw : Int) (jr : List UInt8) (w : World) (ha : TasksIn w a len fs) (hb : TasksIn w b len fs) (hlen : len ≤ 1048576) (hsh : ShortTa fs) :
 Calls Try.prog 8 #[.agg #[.slice a len ca, .int .i64 ep, .int .i64 nw, .string ⟨jr.toArray⟩], .agg #[.slice b len cb, .int .i64 ep, .int .i64 nw, .string ⟨jr.toArray⟩]] w fun e w' => e = .returned (.bool true) ∧ Below w.heap.size w w' := by
 have h1 : ∀ n : Int, (n != n) = false := by simp
 have h2 : ∀ l : List UInt8, (l != l) = false := by simp
 obtain ⟨D, hD⟩ : ∃ D, w.heap.size = D := ⟨_, rfl⟩
 obtain ⟨W1, hW1⟩ : ∃ W, w.alloc (.cells #[.slice a len ca, .int .i64 ep, .int .i64 nw, .string ⟨jr.toArray⟩] 26) = W := ⟨_, rfl⟩
 obtain ⟨W2, hW2⟩ : ∃ W, W1.alloc (.cells #[.slice b len cb, .int .i64 ep, .int .i64 nw, .string ⟨jr.toArray⟩] 26) = W := ⟨_, rfl⟩
 have hs1 : W1.heap.size = D + 1 := by rw [← hW1, ← hD]; simp
 have bA := B4.new w (.slice a len ca) (.int .i64 ep) (.int .i64 nw) (.string ⟨jr.toArray⟩) 26
 rw [hW1, hD] at bA
 have bB := B4.new W1 (.slice b len cb) (.int .i64 ep) (.int .i64 nw) (.string ⟨jr.toArray⟩) 26
 rw [hW2, hs1] at bB
 have hb12 : Below W1.heap.size W1 W2 := by rw [← hW2]; exact (Below.refl _ _).alloc (Nat.le_refl _) _
 have hb01 : Below w.heap.size w W1 := by rw [← hW1]; exact (Below.refl _ _).alloc (Nat.le_refl _) _
 have hb02 : Below w.heap.size w W2 := hb01.trans (hb12.mono hb01.size)
 have HK : Hid (∀ Z, Below W2.heap.size W2 Z → B4 Z D (.slice a len ca) (.int .i64 ep) (.int .i64 nw) (.string ⟨jr.toArray⟩) ∧ B4 Z (D + 1) (.slice b len cb) (.int .i64 ep) (.int .i64 nw) (.string ⟨jr.toArray⟩) ∧ TasksIn Z a len fs ∧ TasksIn Z b len fs ∧ Below w.heap.size w Z) := fun Z hz =>
  ⟨(bA.below hb12).below hz, bB.below hz, (ha.below hb02).below hz, (hb.below hb02).below hz, hb02.trans (hz.mono hb02.size)⟩
 have HSH : Hid (ShortTa fs) := hsh
 have HB0 : Hid (Below W2.heap.size W2 W2) := Below.refl _ _
 obtain ⟨kA, kB, _⟩ := HK.out W2 (Below.refl _ _)
 have a0 := kA.c0
 have a1 := kA.c1
 have a2 := kA.c2
 have a3 := kA.c3
 have b0 := kB.c0
 have b1 := kB.c1
 have b2 := kB.c2
 have b3 := kB.c3
 clear ha hb hsh bA bB hb12 hb01 hb02 kA kB
 go_enter Try.func8, Try.ntmps8
 go_wp2
 go_loopw [5] (fun iv wr => ∃ k : Nat, k ≤ len ∧ iv = .int .i64 (k : Int) ∧ Hid (Below W2.heap.size W2 wr)) (fun iv _ => len - (intOf iv).toNat)
 case atStart => exact ⟨0, Nat.zero_le _, rfl, HB0⟩
 case round =>
  obtain ⟨k, hk, rfl, HB⟩ := hrel
  clear HB0 a0 a1 a2 a3 b0 b1 b2 b3
  obtain ⟨V, hV⟩ : ∃ V, V = wr := ⟨_, rfl⟩
  subst hV
  obtain ⟨kA, kB, hA, hB2, hw⟩ := HK.out V HB.out
  have a0 := kA.c0
  have b0 := kB.c0
  by_cases hkl : (k : Int) < (len : Int)
  ·
   obtain ⟨ba, oa, rfl, hla, c0, ⟨na, nca, c1, hna⟩, c2, c3, c4, c5⟩ := hA.2 k (by omega)
   obtain ⟨bb, ob, rfl, hlb, d0, ⟨nb, ncb, d1, hnb⟩, d2, d3, d4, d5⟩ := hB2.2 k (by omega)
   have hns := (HSH.out k).2
   obtain ⟨f, hf⟩ : ∃ f, fs.getD k ta0 = f := ⟨_, rfl⟩
   rw [hf] at c0 c1 hna c2 c3 c4 c5 d0 d1 hnb d2 d3 d4 d5 hns
   obtain ⟨nm, ns, st, wk, un, ke⟩ := f
   simp only at c0 c1 hna c2 c3 c4 c5 d0 d1 hnb d2 d3 d4 d5 hns
   obtain ⟨P, hP⟩ : ∃ P, V.heap.size = P := ⟨_, rfl⟩
   obtain ⟨Z1, hZ1⟩ : ∃ Z, V.alloc (.cells #[.string ⟨#[]⟩, .slice none 0 0, .int .i64 0, .int .i64 0, .int .i64 0, .int .i64 0] 46) = Z := ⟨_, rfl⟩
   have bzZ1 := B6.new V (.string ⟨#[]⟩) (.slice none 0 0) (.int .i64 0) (.int .i64 0) (.int .i64 0) (.int .i64 0) 46
   have hbZ1 : Below V.heap.size V Z1 := by rw [← hZ1]; exact (Below.refl _ _).alloc (Nat.le_refl _) _
   rw [hZ1] at bzZ1
   rw [hP] at bzZ1 hbZ1
   have Z1z0 := bzZ1.c0
   have Z1z1 := bzZ1.c1
   have Z1z2 := bzZ1.c2
   have Z1z3 := bzZ1.c3
   have Z1z4 := bzZ1.c4
   have Z1z5 := bzZ1.c5
   have Z1zf := bzZ1.fr
   have b6X1 := (((((bzZ1.s0 (.string ⟨nm.toArray⟩)).s1 (.slice na ns.length nca)).s2 (.int .i64 st)).s3 (.int .i64 wk)).s4 (.int .i64 un)).s5 (.int .i64 ke)
   have hbX1 : Below P V ((((((Z1.setCell ⟨P, 0, none⟩ (.string ⟨nm.toArray⟩)).setCell ⟨P, 1, none⟩ (.slice na ns.length nca)).setCell ⟨P, 2, none⟩ (.int .i64 st)).setCell ⟨P, 3, none⟩ (.int .i64 wk)).setCell ⟨P, 4, none⟩ (.int .i64 un)).setCell ⟨P, 5, none⟩ (.int .i64 ke)) := (((((hbZ1.setCell (Nat.le_refl _) _).setCell (Nat.le_refl _) _).setCell (Nat.le_refl _) _).setCell (Nat.le_refl _) _).setCell (Nat.le_refl _) _).setCell (Nat.le_refl _) _
   obtain ⟨X1, hX1⟩ : ∃ W, (((((Z1.setCell ⟨P, 0, none⟩ (.string ⟨nm.toArray⟩)).setCell ⟨P, 1, none⟩ (.slice na ns.length nca)).setCell ⟨P, 2, none⟩ (.int .i64 st)).setCell ⟨P, 3, none⟩ (.int .i64 wk)).setCell ⟨P, 4, none⟩ (.int .i64 un)).setCell ⟨P, 5, none⟩ (.int .i64 ke) = W := ⟨_, rfl⟩
   rw [hX1] at b6X1 hbX1
   have hbVX : Below V.heap.size V X1 := by rw [hP]; exact hbX1
   obtain ⟨R, hR⟩ : ∃ R, X1.heap.size = R := ⟨_, rfl⟩
   have e0 := (hbVX.cell (p := ⟨bb, ob + k * 6, none⟩) hlb).trans d0
   have e1 := (hbVX.cell (p := ⟨bb, ob + k * 6 + 1, none⟩) hlb).trans d1
   have e2 := (hbVX.cell (p := ⟨bb, ob + k * 6 + 2, none⟩) hlb).trans d2
   have e3 := (hbVX.cell (p := ⟨bb, ob + k * 6 + 3, none⟩) hlb).trans d3
   have e4 := (hbVX.cell (p := ⟨bb, ob + k * 6 + 4, none⟩) hlb).trans d4
   have e5 := (hbVX.cell (p := ⟨bb, ob + k * 6 + 5, none⟩) hlb).trans d5
   have x0 := (kB.below hbVX).c0
   obtain ⟨Z2, hZ2⟩ : ∃ Z, X1.alloc (.cells #[.string ⟨#[]⟩, .slice none 0 0, .int .i64 0, .int .i64 0, .int .i64 0, .int .i64 0] 46) = Z := ⟨_, rfl⟩
   have bzZ2 := B6.new X1 (.string ⟨#[]⟩) (.slice none 0 0) (.int .i64 0) (.int .i64 0) (.int .i64 0) (.int .i64 0) 46
   have hbZ2 : Below X1.heap.size X1 Z2 := by rw [← hZ2]; exact (Below.refl _ _).alloc (Nat.le_refl _) _
   rw [hZ2] at bzZ2
   rw [hR] at bzZ2 hbZ2
   have Z2z0 := bzZ2.c0
   have Z2z1 := bzZ2.c1
   have Z2z2 := bzZ2.c2
   have Z2z3 := bzZ2.c3
   have Z2z4 := bzZ2.c4
   have Z2z5 := bzZ2.c5
   have Z2zf := bzZ2.fr
   have b6X2 := (((((bzZ2.s0 (.string ⟨nm.toArray⟩)).s1 (.slice nb ns.length ncb)).s2 (.int .i64 st)).s3 (.int .i64 wk)).s4 (.int .i64 un)).s5 (.int .i64 ke)
   have hbX2 : Below R X1 ((((((Z2.setCell ⟨R, 0, none⟩ (.string ⟨nm.toArray⟩)).setCell ⟨R, 1, none⟩ (.slice nb ns.length ncb)).setCell ⟨R, 2, none⟩ (.int .i64 st)).setCell ⟨R, 3, none⟩ (.int .i64 wk)).setCell ⟨R, 4, none⟩ (.int .i64 un)).setCell ⟨R, 5, none⟩ (.int .i64 ke)) := (((((hbZ2.setCell (Nat.le_refl _) _).setCell (Nat.le_refl _) _).setCell (Nat.le_refl _) _).setCell (Nat.le_refl _) _).setCell (Nat.le_refl _) _).setCell (Nat.le_refl _) _
   obtain ⟨X2, hX2⟩ : ∃ W, (((((Z2.setCell ⟨R, 0, none⟩ (.string ⟨nm.toArray⟩)).setCell ⟨R, 1, none⟩ (.slice nb ns.length ncb)).setCell ⟨R, 2, none⟩ (.int .i64 st)).setCell ⟨R, 3, none⟩ (.int .i64 wk)).setCell ⟨R, 4, none⟩ (.int .i64 un)).setCell ⟨R, 5, none⟩ (.int .i64 ke) = W := ⟨_, rfl⟩
   rw [hX2] at b6X2 hbX2
   have hbX12 : Below X1.heap.size X1 X2 := by rw [hR]; exact hbX2
   have HB2 : Hid (Below W2.heap.size W2 X2) := (HB.out.trans (hbVX.mono HB.out.size)).trans (hbX12.mono (Nat.le_trans HB.out.size hbVX.size))
   have HP : Hid (∀ Z, Below X2.heap.size X2 Z → B6 Z P (.string ⟨nm.toArray⟩) (.slice na ns.length nca) (.int .i64 st) (.int .i64 wk) (.int .i64 un) (.int .i64 ke) ∧ B6 Z R (.string ⟨nm.toArray⟩) (.slice nb ns.length ncb) (.int .i64 st) (.int .i64 wk) (.int .i64 un) (.int .i64 ke)) := fun Z hz => ⟨(b6X1.below hbX12).below hz, b6X2.below hz⟩
   have HLi : Hid (_) := likeIntR X2 na nb nca ncb ns (by omega) ((hna.below hbVX).below hbX12) ((hnb.below hbVX).below hbX12)
   obtain ⟨pP, pR⟩ := HP.out X2 (Below.refl _ _)
   have p0 := pP.c0
   have p1 := pP.c1
   have p2 := pP.c2
   have p3 := pP.c3
   have p4 := pP.c4
   have p5 := pP.c5
   have r0 := pR.c0
   have r1 := pR.c1
   have r2 := pR.c2
   have r3 := pR.c3
   have r4 := pR.c4
   have r5 := pR.c5
   clear hf hna hnb hA hB2 hw bzZ1 bzZ2 hbZ1 hbZ2 hbX1 hbX2 hbVX hbX12 b6X1 b6X2 kA kB pP pR d0 d1 d2 d3 d4 d5
   go_wp2_with fail
   refine Calls.mono HLi.out ?_
   rintro e w3 ⟨rfl, hg3⟩
   have hb3 : Below X2.heap.size X2 w3 := (Below.refl _ _).grown hg3 (Nat.le_refl _) (by simp)
   have HB3 : Hid (Below W2.heap.size W2 w3) := HB2.out.trans (hb3.mono HB2.out.size)
   obtain ⟨pP, pR⟩ := HP.out w3 hb3
   clear p0 p1 p2 p3 p4 p5 r0 r1 r2 r3 r4 r5
   have p2 := pP.c2
   have p3 := pP.c3
   have p4 := pP.c4
   have p5 := pP.c5
   have r2 := pR.c2
   have r3 := pR.c3
   have r4 := pR.c4
   have r5 := pR.c5
   clear hb3 hg3 pP pR HB HLi
   go_wp2
   go_roundw
   case rel => exact ⟨k + 1, by omega, by go_num, HB3⟩
   case measure => simp [intOf]; omega
  ·
   go_wp2
   go_ret
   exact ⟨rfl, hD ▸ hw⟩

end Go.Proofs.Ytaioedcaopbgkaa

/-! The contracts of chapter 4's landed code: WordOk, Wrap, Done. -/
namespace Go.Proofs.Ytaioedcaopbgkaa
open Go.RowKit




end Go.Proofs.Ytaioedcaopbgkaa

/-! A scope in which the run jumps to several labels: what holds at every jump to each of them, and a measure that every pass from a label lowers. -/
namespace Go.Proofs.Ytaioedcaopbgkaa
open Go.RowKit

/-- As Q; by a goto to label l: J l. -/
def Hops (J : Nat → Act → World → Prop) (Q : Exit → Act → World → Prop) : Exit → Act → World → Prop
 | .goto l, a, w => J l a w
 | e, a, w => Q e a w

end Go.Proofs.Ytaioedcaopbgkaa

/-! The contract of strings.Clone: the same bytes, in memory of their own. -/
namespace Go.Proofs.Ytaioedcaopbgkaa
open Go.RowKit

theorem infoByte : (Try.prog.info? 5).map (fun i => (i.zero, i.size, i.bytes)) = some (some (.int .u8 0), 1, 1) := by kernel_rfl

set_option maxHeartbeats 4000000 in
set_option maxRecDepth 100000 in
theorem liteClone (s : ByteArray) (w : World) (hlim : s.size ≤ 281474976710656) :
 Calls Try.prog 55 #[.string s] w fun e w' => e = .returned (.string s) ∧ Below w.heap.size w w' := by
 by_cases h0 : s.size = 0
 ·
  have hs : s = ⟨#[]⟩ := by
   apply ByteArray.ext
   exact Array.eq_empty_of_size_eq_zero h0
  subst hs
  go_enter Try.func55, Try.ntmps55
  go_wp2
  go_ret
  exact ⟨rfl, Below.refl _ _⟩
 ·
  obtain ⟨i0, hi, hz0, hz1, hz2⟩ := info_parts infoByte
  have hinfo : (Try.prog.info? 5).map (·.size) = some 1 := by rw [hi]; simp [hz1]
  have hco : Try.prog.cellsOf 5 = 1 := by simp [Program.cellsOf, hi, hz1]
  obtain ⟨M, hM⟩ : ∃ M, M = madeCells (Value.int .u8 0).cells (((s.size : Nat) : Int).toNat * i0.size) := ⟨_, rfl⟩
  have hMs : M.size = s.size := by rw [hM, size_madeCells, hz1]; simp
  have hmk : ∀ W : World, (Instr.makeSlice 22 (.int .i64 (s.size : Int)) (.int .i64 (s.size : Int))).run Try.prog W = .ok (.slice (some ⟨W.heap.size, 0, none⟩) s.size s.size) (W.alloc (.cells M 5)) := fun W => by
   have h := run_make (P := Try.prog) W 22 5 i0 (.int .u8 0) Try.underlying22 hi hz0 .i64 .i64 (s.size : Int) (s.size : Int) (by omega) (by omega) (by rw [hz2]; omega) (by omega)
   rw [← hM] at h
   simpa using h
  clear hM
  have hcp := Lib.run_copy_row_string (P := Try.prog) (w.alloc (.cells M 5)) 22 9 3 5 w.heap.size 0 s.size s.size s M 5 Try.underlying22 hinfo (heap_alloc_new w _) (Nat.le_refl _) (by omega)
  obtain ⟨Y, hY⟩ : ∃ Y, Y = (M.toList.take 0 ++ Lib.byteCells s.data.toList ++ M.toList.drop (0 + s.size)).toArray := ⟨_, rfl⟩
  rw [← hY] at hcp
  have hYl : Y.toList = Lib.byteCells s.data.toList := by
   rw [hY, List.toList_toArray, List.take_zero, List.nil_append, List.drop_of_length_le (by rw [Array.length_toList]; omega), List.append_nil]
  have hYs : Y.size = s.size := by rw [← Array.length_toList, hYl, Lib.byteCells_length, ← Lib.size_eq]
  have hgY : ((w.alloc (.cells M 5)).setRow w.heap.size Y).heap[w.heap.size]? = some (.cells Y 5 (0, 0)) := setRow_heap _ _ M _ 5 (0, 0) (heap_alloc_new w _)
  have hne : s.data.toList ≠ [] := fun e => h0 (by rw [Lib.size_eq, e]; rfl)
  have hUS := Lib.run_unsafeString_row (P := Try.prog) ((w.alloc (.cells M 5)).setRow w.heap.size Y) 102 3 9 5 Try.underlying102 hco w.heap.size Y.size (by unfold World.shape?; rw [hgY]) s.data.toList hne (by rw [← Lib.size_eq]; omega) (by rw [← Lib.size_eq]; omega)
   (fun j x hx => Lib.cells_of_row hgY Y.size j _ (by rw [List.take_of_length_le (by rw [Array.length_toList]; exact Nat.le_refl _), hYl]; simp [Lib.byteCells, hx]))
  rw [← Lib.size_eq] at hUS
  clear hY
  go_enter Try.func55, Try.ntmps55
  go_wp2
  go_ret
  have hb1 : Below w.heap.size w (w.alloc (.cells M 5)) := (Below.refl _ w).alloc (Nat.le_refl _) _
  have hb2 : Below w.heap.size (w.alloc (.cells M 5)) ((w.alloc (.cells M 5)).setRow w.heap.size Y) := ⟨rfl, rfl, rfl, by simp, fun k hk => setRow_other _ _ _ _ (by omega)⟩
  exact ⟨rfl, Lib.below_freeze (hb1.trans hb2) (p := ⟨w.heap.size, 0, none⟩) (Nat.le_refl _) _⟩

set_option maxHeartbeats 400000 in
set_option maxRecDepth 100000 in
theorem stringsClone (l : List UInt8) (w : World) (hl : l.length ≤ 1048576) :
 Calls Try.prog 33 #[.string ⟨l.toArray⟩] w fun e w' => e = .returned (.string ⟨l.toArray⟩) ∧ Below w.heap.size w w' := by
 go_enter Try.func33, Try.ntmps33
 go_wp2_with fail
 refine (liteClone ⟨l.toArray⟩ _ (by have : (⟨l.toArray⟩ : ByteArray).size = l.length := List.size_toArray; omega)).mono ?_
 rintro e w1 ⟨rfl, hb⟩
 go_wp2
 go_ret
 exact ⟨rfl, hb⟩

end Go.Proofs.Ytaioedcaopbgkaa

/-! The contracts of chapter 5's landed code: the pieces between marks (labels and gotos), Lines, Words, NameOk, NumberOf. -/
namespace Go.Proofs.Ytaioedcaopbgkaa
open Go.RowKit




set_option maxHeartbeats 1000000 in
set_option maxRecDepth 100000 in
theorem implNameOkS (l : List UInt8) (w : World) (hl : l.length ≤ 1048576) :
 Calls Try.prog 51 #[.string ⟨l.toArray⟩] w fun e w' => e = .returned (.bool (nameB l)) ∧ w' = w := by
 go_enter Try.func51, Try.ntmps51
 go_wp2
 go_loop [6] (fun ix => ∃ k : Nat, k ≤ l.length ∧ ix = .int .i64 k ∧ Hid (∀ j (hj : j < l.length), j < k → 97 ≤ l[j].toNat ∧ l[j].toNat ≤ 122)) (fun ix => l.length - (intOf ix).toNat)
 case atStart => exact ⟨0, Nat.zero_le _, rfl, (fun j _ h => by omega : ∀ j (hj : j < l.length), j < 0 → _)⟩
 case round =>
  obtain ⟨k, hk, rfl, HK⟩ := hrel
  by_cases hkl : (k : Int) < (l.length : Int)
  ·
   have hk2 : k < l.length := by omega
   obtain ⟨x, hx⟩ : ∃ x : UInt8, l[k] = x := ⟨_, rfl⟩
   have hxb : (⟨l.toArray⟩ : ByteArray)[k]'(by show k < l.toArray.size; simpa using hk2) = x := hx
   by_cases h1 : (x.toNat : Int) < 97
   ·
    have HF : Hid (nameB l = false) := name_bad l k hk2 (by rw [hx]; omega)
    clear hx
    go_wp2
    go_ret
    exact ⟨by rw [HF.out]; rfl, rfl⟩
   ·
    by_cases h2 : 122 < (x.toNat : Int)
    ·
     have HF : Hid (nameB l = false) := name_bad l k hk2 (by rw [hx]; omega)
     clear hx
     go_wp2
     go_ret
     exact ⟨by rw [HF.out]; rfl, rfl⟩
    ·
     have HS : Hid (∀ j (hj : j < l.length), j < k + 1 → 97 ≤ l[j].toNat ∧ l[j].toNat ≤ 122) := fun j hj hjk => by
      by_cases e : j = k
      ·
       subst e; rw [hx]; omega
      ·
       exact HK.out j hj (by omega)
     clear hx
     go_wp2
     go_round
     case rel => exact ⟨k + 1, by omega, by go_num, HS⟩
     case measure => simp [intOf]; omega
  ·
   have HF : Hid (nameB l = inB (l.length : Int) 1 8) := name_good l (fun j hj => HK.out j hj (by omega))
   by_cases h1 : 1 ≤ (l.length : Int)
   ·
    by_cases h2 : (l.length : Int) ≤ 8
    ·
     have HB : Hid (inB (l.length : Int) 1 8 = true) := inB_yes _ _ _ h1 h2
     go_wp2
     go_ret
     exact ⟨by rw [HF.out, HB.out]; rfl, rfl⟩
    ·
     have HB : Hid (inB (l.length : Int) 1 8 = false) := inB_no _ _ _ (by omega)
     go_wp2
     go_ret
     exact ⟨by rw [HF.out, HB.out]; rfl, rfl⟩
   ·
    have HB : Hid (inB (l.length : Int) 1 8 = false) := inB_no _ _ _ (by omega)
    go_wp2
    go_ret
    exact ⟨by rw [HF.out, HB.out]; rfl, rfl⟩

end Go.Proofs.Ytaioedcaopbgkaa
