/-
  Parts of one proof, one behind the other: TaskK.
-/
import Derived.Test.YtinojgaekfknkaaP15

/-! The contract of chapter 18's landed code: Ticked. -/
namespace Go.Proofs.Ytinojgaekfknkaa
open Go.RowKit

set_option maxHeartbeats 4000000 in
set_option maxRecDepth 100000 in
theorem implTicked (a : Option Addr) (len cap : Nat) (ts : List Ta) (ep nw : Int) (jr : List UInt8) (n : Int) (w : World) (hin : TasksOk w a len cap ts) (hsh : ShortTa ts) (hlen : len ≤ 1048576) (hj : jr.length ≤ 1048576) (hc : len ≤ cap) (hn0 : -9223372036854775808 ≤ n) (hn1 : n ≤ 9223372036854775807) :
    Calls Try.prog 17 #[.agg #[.slice a len cap, .int .i64 ep, .int .i64 nw, .string ⟨jr.toArray⟩], .int .i64 n] w
      fun e w' => ∃ v, e = .returned (.tuple #[v, .bool (tickedV (ts, ep, nw, jr) n).2]) ∧ DkOut w w' v (tickedV (ts, ep, nw, jr) n).1 := by
  obtain rfl : ts.length = len := hin.1
  obtain ⟨D, hD⟩ : ∃ D, w.heap.size = D := ⟨_, rfl⟩
  obtain ⟨W1, hW1⟩ : ∃ W, w.alloc (.cells #[.slice a ts.length cap, .int .i64 ep, .int .i64 nw, .string ⟨jr.toArray⟩] 29) = W := ⟨_, rfl⟩
  obtain ⟨W2, hW2⟩ : ∃ W, W1.alloc (.cells #[.slice none 0 0, .int .i64 0, .int .i64 0, .string ⟨#[]⟩] 29) = W := ⟨_, rfl⟩
  have hs1 : W1.heap.size = D + 1 := by rw [← hW1, ← hD]; simp
  have hs2 : W2.heap.size = D + 2 := by rw [← hW2]; simp [hs1]
  have hb1 : Below D w W1 := by rw [← hW1, ← hD]; exact (Below.refl _ _).alloc (Nat.le_refl _) _
  have hb12 : Below W1.heap.size W1 W2 := by rw [← hW2]; exact (Below.refl _ _).alloc (Nat.le_refl _) _
  have hb2 : Below D w W2 := hb1.trans (hb12.mono (by omega))
  have bD := B4.new w (.slice a ts.length cap) (.int .i64 ep) (.int .i64 nw) (.string ⟨jr.toArray⟩) 29
  rw [hW1, hD] at bD
  have bR := B4.new W1 (.slice none 0 0) (.int .i64 0) (.int .i64 0) (.string ⟨#[]⟩) 29
  rw [hW2, hs1] at bR
  have HD : Hid (∀ Z, Below W2.heap.size W2 Z → B4 Z D (.slice a ts.length cap) (.int .i64 ep) (.int .i64 nw) (.string ⟨jr.toArray⟩) ∧ B4 Z (D + 1) (.slice none 0 0) (.int .i64 0) (.int .i64 0) (.string ⟨#[]⟩) ∧ TasksOk Z a ts.length cap ts ∧ Below D w Z) := fun Z hz =>
    ⟨(bD.below hb12).below hz, bR.below hz, (hin.below (by rw [hD]; exact hb2)).below hz, hb2.trans (hz.mono (by omega))⟩
  have HK : Hid (_) := implDeskOk a ts.length cap ts ep nw jr W2 (hin.in.below (by rw [hD]; exact hb2)) hc hsh hlen
  have HCp : Hid (∀ Z, TasksOk Z a ts.length cap ts → _) := fun Z hz => implCopyD a ts.length cap ts ep nw jr Z hz hsh hlen hj
  have HV0 : Hid (deskB (ts, ep, nw, jr) = false → tickedV (ts, ep, nw, jr) n = (dk0, false)) := fun h => by unfold tickedV; rw [h]; rfl
  have HV1 : Hid (deskB (ts, ep, nw, jr) = true → inB n 0 (1000000 - nw) = false → tickedV (ts, ep, nw, jr) n = ((ts, ep, nw, jr), false)) := fun h h2 => by unfold tickedV; rw [h, if_pos rfl]; simp only; rw [h2]; rfl
  have HV2 : Hid (deskB (ts, ep, nw, jr) = true → inB n 0 (1000000 - nw) = true → tickedV (ts, ep, nw, jr) n = ((ts, ep, nw + n, jr), true)) := fun h h2 => by unfold tickedV; rw [h, if_pos rfl]; simp only; rw [h2]; rfl
  have HP : Hid (deskB (ts, ep, nw, jr) = true → 0 ≤ nw ∧ nw ≤ 1000000) := fun h => (deskB_iff.1 h).t
  obtain ⟨d0, d1, d2, d3⟩ : W2.cell? ⟨D, 0, none⟩ = some (.slice a ts.length cap) ∧ W2.cell? ⟨D, 1, none⟩ = some (.int .i64 ep) ∧ W2.cell? ⟨D, 2, none⟩ = some (.int .i64 nw) ∧ W2.cell? ⟨D, 3, none⟩ = some (.string ⟨jr.toArray⟩) := by
    have h := (HD.out W2 (Below.refl _ _)).1
    exact ⟨h.c0, h.c1, h.c2, h.c3⟩
  generalize tickedV (ts, ep, nw, jr) n = res at HV0 HV1 HV2 ⊢
  generalize deskB (ts, ep, nw, jr) = b1 at HK HV0 HV1 HV2 HP
  clear hin hsh bD bR hb1 hb12 hb2
  rcases b1 with _ | _
  · have HR : Hid (res = (dk0, false)) := HV0.out rfl
    clear HV0 HV1 HV2 HP HCp
    go_enter Try.func17, Try.ntmps17
    go_wp2_with fail
    refine Calls.mono HK.out ?_
    rintro e w1 ⟨rfl, hb1⟩
    obtain ⟨_, br, _, hbD⟩ := HD.out w1 hb1
    have r0 := br.c0
    have r1 := br.c1
    have r2 := br.c2
    have r3 := br.c3
    have f0 := br.fr 0
    have f1 := br.fr 1
    have f2 := br.fr 2
    have f3 := br.fr 3
    have HBD : Hid (Below D w w1) := hbD
    clear hbD br hb1 d0 d1 d2 d3
    go_wp2
    obtain ⟨X, hX, y0, y1, y2, y3, hg⟩ := set4 (.slice none 0 0) (.int .i64 0) (.int .i64 0) (.string ⟨#[]⟩) r0 r1 r2 r3
    rw [hX]
    refine bodyPost_ret (v := .tuple #[.agg #[.slice none 0 0, .int .i64 0, .int .i64 0, .string ⟨#[]⟩], .bool false]) (by simp [results, Try.results17, go_sem, y0, y1, y2, y3]) rfl ?_
    rw [HR.out]
    exact ⟨_, rfl, DkOut.zero (by rw [hD]; exact HBD.out.grown hg (by have := HBD.out.size; omega) (fun k e => by injection e with e; omega))⟩
  · have HV1b : Hid (_) := HV1.out rfl
    have HV2b : Hid (_) := HV2.out rfl
    obtain ⟨hp0, hp1⟩ := HP.out rfl
    clear HV0 HV1 HV2 HP
    go_enter Try.func17, Try.ntmps17
    go_wp2_with fail
    refine Calls.mono HK.out ?_
    rintro e w1 ⟨rfl, hb1⟩
    have HB1 : Hid (Below W2.heap.size W2 w1) := hb1
    clear d0 d1 d2 d3 hb1 HK
    obtain ⟨bd, _, hok1, _⟩ := HD.out w1 HB1.out
    have d0 := bd.c0
    have d1 := bd.c1
    have d2 := bd.c2
    have d3 := bd.c3
    have HC1 : Hid (_) := HCp.out w1 hok1
    clear bd hok1 HCp
    go_wp2_with fail
    refine Calls.mono HC1.out ?_
    rintro e w2 ⟨va, vc, xs, rfl, hx, ho, hap, hb2⟩
    have hB2 := HB1.out.trans (hb2.mono HB1.out.size)
    obtain ⟨Q, hQ⟩ : ∃ Q, w2.heap.size = Q := ⟨_, rfl⟩
    obtain ⟨w3, hw3⟩ : ∃ W, w2.alloc (.cells #[.slice va ts.length vc, .int .i64 ep, .int .i64 nw, .string ⟨jr.toArray⟩] 29) = W := ⟨_, rfl⟩
    have bQ := B4.new w2 (.slice va ts.length vc) (.int .i64 ep) (.int .i64 nw) (.string ⟨jr.toArray⟩) 29
    have hb3 : Below w2.heap.size w2 w3 := by rw [← hw3]; exact (Below.refl _ _).alloc (Nat.le_refl _) _
    have hs3 : w3.heap.size = Q + 1 := by rw [← hw3, ← hQ]; simp
    rw [hw3, hQ] at bQ
    have hB3 : Below W2.heap.size W2 w3 := hB2.trans (hb3.mono hB2.size)
    have hw1 : D + 2 ≤ w1.heap.size := by have := HB1.out.size; omega
    have hQl : w1.heap.size ≤ Q := by rw [← hQ]; exact hb2.size
    have HO3 : Hid (TksOwn w3 w1.heap.size (.slice va ts.length vc) xs ∧ xs.map (·.1) = ts ∧ ApartR (xs.map tvT)) := ⟨ho.below hb3, hx, hap⟩
    have hO3 : ∀ k, (Value.slice va ts.length vc).ownBlock = some k ∨ (∃ x ∈ xs, (tvT x).ownBlock = some k) → k < Q := by
      intro k hk
      rw [← hQ]
      rcases hk with e | ⟨x, hx, e⟩
      · exact (ho.row.lt k e).2
      · exact ((ho.trees x hx).lt k e).2
    have HO3l : Hid (_) := hO3
    have HBQ : Hid (B4 w3 Q (.slice va ts.length vc) (.int .i64 ep) (.int .i64 nw) (.string ⟨jr.toArray⟩)) := bQ
    have HB3 : Hid (Below W2.heap.size W2 w3) := hB3
    clear d0 d1 d2 d3 hb2 ho hap hx hb3 bQ hB3 hB2 hO3 HC1
    have q0 := HBQ.out.c0
    have q1 := HBQ.out.c1
    have q2 := HBQ.out.c2
    have q3 := HBQ.out.c3
    have qf := HBQ.out.fr 2
    by_cases hn : n < 0
    · have HR : Hid (res = ((ts, ep, nw, jr), false)) := HV1b.out (by unfold inB; simp; omega)
      clear HV1b HV2b
      obtain ⟨_, br, _, hbD⟩ := HD.out w3 HB3.out
      have r0 := br.c0
      have r1 := br.c1
      have r2 := br.c2
      have r3 := br.c3
      have f0 := br.fr 0
      have f1 := br.fr 1
      have f2 := br.fr 2
      have f3 := br.fr 3
      have HBD : Hid (Below D w w3) := hbD
      clear hbD br
      go_wp2
      obtain ⟨X, hX, y0, y1, y2, y3, hg⟩ := set4 (.slice va ts.length vc) (.int .i64 ep) (.int .i64 nw) (.string ⟨jr.toArray⟩) r0 r1 r2 r3
      rw [hX]
      refine bodyPost_ret (v := .tuple #[.agg #[.slice va ts.length vc, .int .i64 ep, .int .i64 nw, .string ⟨jr.toArray⟩], .bool false]) (by simp [results, Try.results17, go_sem, y0, y1, y2, y3]) rfl ?_
      rw [HR.out]
      have hk := HO3.out.1.kept hg (own_offR HO3.out.1.row (by omega)) (fun y hy => own_offR (HO3.out.1.trees y hy) (by omega))
      exact ⟨_, rfl, va, vc, xs, rfl, HO3.out.2.1, hk.base (by omega), HO3.out.2.2, by rw [hD]; exact HBD.out.grown hg (by have := HBD.out.size; omega) (fun k e => by injection e with e; omega)⟩
    by_cases hn2 : 1000000 - nw < n
    · have HR : Hid (res = ((ts, ep, nw, jr), false)) := HV1b.out (by unfold inB; simp; omega)
      clear HV1b HV2b
      obtain ⟨_, br, _, hbD⟩ := HD.out w3 HB3.out
      have r0 := br.c0
      have r1 := br.c1
      have r2 := br.c2
      have r3 := br.c3
      have f0 := br.fr 0
      have f1 := br.fr 1
      have f2 := br.fr 2
      have f3 := br.fr 3
      have HBD : Hid (Below D w w3) := hbD
      clear hbD br
      go_wp2
      obtain ⟨X, hX, y0, y1, y2, y3, hg⟩ := set4 (.slice va ts.length vc) (.int .i64 ep) (.int .i64 nw) (.string ⟨jr.toArray⟩) r0 r1 r2 r3
      rw [hX]
      refine bodyPost_ret (v := .tuple #[.agg #[.slice va ts.length vc, .int .i64 ep, .int .i64 nw, .string ⟨jr.toArray⟩], .bool false]) (by simp [results, Try.results17, go_sem, y0, y1, y2, y3]) rfl ?_
      rw [HR.out]
      have hk := HO3.out.1.kept hg (own_offR HO3.out.1.row (by omega)) (fun y hy => own_offR (HO3.out.1.trees y hy) (by omega))
      exact ⟨_, rfl, va, vc, xs, rfl, HO3.out.2.1, hk.base (by omega), HO3.out.2.2, by rw [hD]; exact HBD.out.grown hg (by have := HBD.out.size; omega) (fun k e => by injection e with e; omega)⟩
    · have HR : Hid (res = ((ts, ep, nw + n, jr), true)) := HV2b.out (by unfold inB; simp; omega)
      clear HV1b HV2b
      obtain ⟨w4, hw4⟩ : ∃ W, w3.setCell ⟨Q, 2, none⟩ (.int .i64 (nw + n)) = W := ⟨_, rfl⟩
      have bQ4 := HBQ.out.s2 (.int .i64 (nw + n))
      have hg4 : w3.grownBy w4 (some Q) := by rw [← hw4]; exact grown_set _ _ _ _
      rw [hw4] at bQ4
      have HB4 : Hid (Below W2.heap.size W2 w4) := HB3.out.grown hg4 HB3.out.size (fun k e => by injection e with e; have := HB1.out.size; omega)
      have HO4 : Hid (TksOwn w4 w1.heap.size (.slice va ts.length vc) xs) := HO3.out.1.kept hg4 (by
        rcases h : (Value.slice va ts.length vc).ownBlock with _ | k
        · exact Or.inl rfl
        · exact Or.inr (fun e => by injection e with e; have := HO3l.out k (Or.inl h); omega)) (fun x hx => by
        rcases h : (tvT x).ownBlock with _ | k
        · exact Or.inl rfl
        · exact Or.inr (fun e => by injection e with e; have := HO3l.out k (Or.inr ⟨x, hx, h⟩); omega))
      obtain ⟨_, br, _, hbD⟩ := HD.out w4 HB4.out
      have p0 := bQ4.c0
      have p1 := bQ4.c1
      have p2 := bQ4.c2
      have p3 := bQ4.c3
      have r0 := br.c0
      have r1 := br.c1
      have r2 := br.c2
      have r3 := br.c3
      have f0 := br.fr 0
      have f1 := br.fr 1
      have f2 := br.fr 2
      have f3 := br.fr 3
      have HBD : Hid (Below D w w4) := hbD
      clear hbD br bQ4 hg4
      go_wp2
      obtain ⟨X, hX, y0, y1, y2, y3, hg⟩ := set4 (.slice va ts.length vc) (.int .i64 ep) (.int .i64 (nw + n)) (.string ⟨jr.toArray⟩) r0 r1 r2 r3
      rw [hX]
      refine bodyPost_ret (v := .tuple #[.agg #[.slice va ts.length vc, .int .i64 ep, .int .i64 (nw + n), .string ⟨jr.toArray⟩], .bool true]) (by simp [results, Try.results17, go_sem, y0, y1, y2, y3]) rfl ?_
      rw [HR.out]
      have hk := HO4.out.kept hg (own_offR HO4.out.row (by omega)) (fun y hy => own_offR (HO4.out.trees y hy) (by omega))
      exact ⟨_, rfl, va, vc, xs, rfl, HO3.out.2.1, hk.base (by omega), HO3.out.2.2, by rw [hD]; exact HBD.out.grown hg (by have := HBD.out.size; omega) (fun k e => by injection e with e; omega)⟩

end Go.Proofs.Ytinojgaekfknkaa
