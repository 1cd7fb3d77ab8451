/-
  Parts of one proof, one behind the other: DkB, LendT, LendJ, RegT.
-/
import Derived.Test.YtinojgaekfknkaaP17
import Derived.Test.YtinojgaekfknkaaP12
import Derived.Test.YtinojgaekfknkaaP16
import Derived.Deep.RegionHeld3
import Derived.Test.YtinojgaekfknkaaP2
import Derived.Deep.RegionHeld
import Derived.RegionTactic

/-! How great the desks are that chapter 18's functions hand out. -/
namespace Go.Proofs.Ytinojgaekfknkaa
open Go.RowKit

theorem tend_few {xs : List TV} {n : Nat} (hl : xs.length = n) (h8 : n ≤ 8) (h : ∀ x ∈ xs, x.1.2.1.length ≤ 1048576) : tend 1 xs ≤ 30000000 := by
  have key : ∀ (l : List TV) (k : Nat), (∀ x ∈ l, x.1.2.1.length ≤ 1048576) → tend k l ≤ k + l.length * 1048581 := by
    intro l
    induction l with
    | nil => intro k _; simp [tend]
    | cons x r ih =>
      intro k hk
      have h1 := hk x (List.mem_cons.2 (Or.inl rfl))
      have h2 := ih (k + 5 + x.1.2.1.length) (fun y hy => hk y (List.mem_cons.2 (Or.inr hy)))
      simp only [tend, List.length_cons]
      omega
  have := key xs 1 h
  omega
theorem ticked_small {d : Dk} {n : Int} (h : ∀ j, (d.1.getD j ta0).2.1.length ≤ 1048576) : (tickedV d n).1.1.length ≤ 8 ∧ ∀ j, ((tickedV d n).1.1.getD j ta0).2.1.length ≤ 1048576 := by
  unfold tickedV
  split
  · rename_i hd
    have h8 := (deskB_iff.1 hd).n.2
    split
    · exact ⟨h8, h⟩
    · exact ⟨h8, h⟩
  · exact ⟨by simp [dk0], fun j => by simp [dk0, ta0]⟩
theorem lent_small {d : Dk} {worker : Int} (h : ∀ j, (d.1.getD j ta0).2.1.length ≤ 1048576) : (lentV d worker).1.1.length ≤ 8 ∧ ∀ j, ((lentV d worker).1.1.getD j ta0).2.1.length ≤ 1048576 := by
  unfold lentV
  split
  · rename_i hd
    have h8 := (deskB_iff.1 hd).n.2
    unfold lend18
    split
    · split
      · rename_i i hi
        obtain ⟨_, h2, _, _⟩ := lendGo_some hi
        refine ⟨by simp only [List.length_set]; exact h8, fun j => ?_⟩
        show ((d.1.set i _).getD j ta0).2.1.length ≤ 1048576
        rw [getD_set18 _ _ _ _ (by omega)]
        split
        · exact h i
        · exact h j
      · exact ⟨h8, h⟩
    · exact ⟨h8, h⟩
  · exact ⟨by simp [dk0], fun j => by simp [dk0, ta0]⟩

end Go.Proofs.Ytinojgaekfknkaa

/-! The contract of chapter 18's specification: Lent. -/
namespace Go.Proofs.Ytinojgaekfknkaa
open Go.RowKit

theorem lend_rest {d : Dk} {worker : Int} : (lend18 d worker).1.2 = d.2 ∧ (lend18 d worker).1.1.length = d.1.length := by
  unfold lend18
  split
  · split
    · exact ⟨rfl, by simp⟩
    · exact ⟨rfl, rfl⟩
  · exact ⟨rfl, rfl⟩

set_option maxHeartbeats 4000000 in
set_option maxRecDepth 100000 in
theorem specLent (a : Option Addr) (len cap : Nat) (ts : List Ta) (ep nw : Int) (jr : List UInt8) (n : Int) (w : World) (hin : TasksOk w a len cap ts) (hsh : ShortTa ts) (hlen : len ≤ 1048576) :
    Calls Try.prog 12 #[.agg #[.slice a len cap, .int .i64 ep, .int .i64 nw, .string ⟨jr.toArray⟩], .int .i64 n] w
      fun e w' => ∃ v, e = .returned (.tuple #[v, .int .i64 (lentV (ts, ep, nw, jr) n).2]) ∧ DkOut w w' v (lentV (ts, ep, nw, jr) n).1 := by
  obtain rfl : ts.length = len := hin.1
  obtain ⟨D, hD⟩ : ∃ D, w.heap.size = D := ⟨_, rfl⟩
  obtain ⟨W1, hW1⟩ : ∃ W, w.alloc (.cells #[.slice a ts.length cap, .int .i64 ep, .int .i64 nw, .string ⟨jr.toArray⟩] 29) = W := ⟨_, rfl⟩
  obtain ⟨W2, hW2⟩ : ∃ W, W1.alloc (.cells #[.slice none 0 0, .int .i64 0, .int .i64 0, .string ⟨#[]⟩] 29) = W := ⟨_, rfl⟩
  have hs1 : W1.heap.size = D + 1 := by rw [← hW1, ← hD]; simp
  have hs2 : W2.heap.size = D + 2 := by rw [← hW2]; simp [hs1]
  have hb1 : Below D w W1 := by rw [← hW1, ← hD]; exact (Below.refl _ _).alloc (Nat.le_refl _) _
  have hb12 : Below W1.heap.size W1 W2 := by rw [← hW2]; exact (Below.refl _ _).alloc (Nat.le_refl _) _
  have hb2 : Below D w W2 := hb1.trans (hb12.mono (by omega))
  have bD := B4.new w (.slice a ts.length cap) (.int .i64 ep) (.int .i64 nw) (.string ⟨jr.toArray⟩) 29
  rw [hW1, hD] at bD
  have bR := B4.new W1 (.slice none 0 0) (.int .i64 0) (.int .i64 0) (.string ⟨#[]⟩) 29
  rw [hW2, hs1] at bR
  have HD : Hid (∀ Z, Below W2.heap.size W2 Z → B4 Z D (.slice a ts.length cap) (.int .i64 ep) (.int .i64 nw) (.string ⟨jr.toArray⟩) ∧ B4 Z (D + 1) (.slice none 0 0) (.int .i64 0) (.int .i64 0) (.string ⟨#[]⟩) ∧ TasksOk Z a ts.length cap ts ∧ Below D w Z) := fun Z hz =>
    ⟨(bD.below hb12).below hz, bR.below hz, (hin.below (by rw [hD]; exact hb2)).below hz, hb2.trans (hz.mono (by omega))⟩
  have HK : Hid (_) := specDeskOk a ts.length cap ts ep nw jr W2 (hin.in.below (by rw [hD]; exact hb2)) hsh hlen
  have HCp : Hid (∀ Z, TasksOk Z a ts.length cap ts → _) := fun Z hz => specCopyD a ts.length cap ts ep nw jr Z hz hsh hlen
  have HV0 : Hid (deskB (ts, ep, nw, jr) = false → lentV (ts, ep, nw, jr) n = (dk0, -1)) := fun h => by unfold lentV; rw [h]; rfl
  have HV1 : Hid (deskB (ts, ep, nw, jr) = true → lentV (ts, ep, nw, jr) n = lend18 (ts, ep, nw, jr) n) := fun h => by unfold lentV; rw [if_pos h]
  have HLe : Hid (_) := fun (B base : Nat) (va : Option Addr) (vc : Nat) (xs : List TV) (Z : World) (h1 : B4 Z B (.slice va ts.length vc) (.int .i64 ep) (.int .i64 nw) (.string ⟨jr.toArray⟩)) (h2 : TksOwn Z base (.slice va ts.length vc) xs) (h3 : xs.map (·.1) = ts) (h4 : ApartR (xs.map tvT)) (h5 : ∀ k, TkBlocks (.slice va ts.length vc) xs k → k ≠ B) (h6 : base ≤ Z.heap.size) (h7 : deskB (ts, ep, nw, jr) = true) => specLend B base va vc xs ts ep nw jr n Z h1 h2 h3 h4 h5 h6 h7 hsh
  have HRs : Hid (_) := lend_rest (d := (ts, ep, nw, jr)) (worker := n)
  obtain ⟨d0, d1, d2, d3⟩ : W2.cell? ⟨D, 0, none⟩ = some (.slice a ts.length cap) ∧ W2.cell? ⟨D, 1, none⟩ = some (.int .i64 ep) ∧ W2.cell? ⟨D, 2, none⟩ = some (.int .i64 nw) ∧ W2.cell? ⟨D, 3, none⟩ = some (.string ⟨jr.toArray⟩) := by
    have h := (HD.out W2 (Below.refl _ _)).1
    exact ⟨h.c0, h.c1, h.c2, h.c3⟩
  generalize lentV (ts, ep, nw, jr) n = res at HV0 HV1 ⊢
  generalize lend18 (ts, ep, nw, jr) n = res2 at HV1 HLe HRs
  generalize deskB (ts, ep, nw, jr) = b1 at HK HV0 HV1 HLe
  clear hin hsh bD bR hb1 hb12 hb2
  rcases b1 with _ | _
  · have HR : Hid (res = (dk0, -1)) := HV0.out rfl
    clear HV0 HV1 HLe HCp HRs
    go_enter Try.func12, Try.ntmps12
    go_wp2_with fail
    refine Calls.mono HK.out ?_
    rintro e w1 ⟨rfl, hb1⟩
    obtain ⟨_, br, _, hbD⟩ := HD.out w1 hb1
    have r0 := br.c0
    have r1 := br.c1
    have r2 := br.c2
    have r3 := br.c3
    have f0 := br.fr 0
    have f1 := br.fr 1
    have f2 := br.fr 2
    have f3 := br.fr 3
    have HBD : Hid (Below D w w1) := hbD
    clear hbD br hb1 d0 d1 d2 d3
    go_wp2
    obtain ⟨X, hX, y0, y1, y2, y3, hg⟩ := set4 (.slice none 0 0) (.int .i64 0) (.int .i64 0) (.string ⟨#[]⟩) r0 r1 r2 r3
    rw [hX]
    refine bodyPost_ret (v := .tuple #[.agg #[.slice none 0 0, .int .i64 0, .int .i64 0, .string ⟨#[]⟩], .int .i64 (-1)]) (by simp [results, Try.results12, go_sem, y0, y1, y2, y3]) rfl ?_
    rw [HR.out]
    exact ⟨_, rfl, DkOut.zero (by rw [hD]; exact HBD.out.grown hg (by have := HBD.out.size; omega) (fun k e => by injection e with e; omega))⟩
  · have HR : Hid (res = res2) := HV1.out rfl
    clear HV0 HV1
    go_enter Try.func12, Try.ntmps12
    go_wp2_with fail
    refine Calls.mono HK.out ?_
    rintro e w1 ⟨rfl, hb1⟩
    have HB1 : Hid (Below W2.heap.size W2 w1) := hb1
    clear d0 d1 d2 d3 hb1 HK
    obtain ⟨bd, _, hok1, _⟩ := HD.out w1 HB1.out
    have d0 := bd.c0
    have d1 := bd.c1
    have d2 := bd.c2
    have d3 := bd.c3
    have HC1 : Hid (_) := HCp.out w1 hok1
    clear bd hok1 HCp
    go_wp2_with fail
    refine Calls.mono HC1.out ?_
    rintro e w2 ⟨va, vc, xs, rfl, hx, ho, hap, hb2⟩
    have hB2 := HB1.out.trans (hb2.mono HB1.out.size)
    obtain ⟨Q, hQ⟩ : ∃ Q, w2.heap.size = Q := ⟨_, rfl⟩
    obtain ⟨w3, hw3⟩ : ∃ W, w2.alloc (.cells #[.slice va ts.length vc, .int .i64 ep, .int .i64 nw, .string ⟨jr.toArray⟩] 29) = W := ⟨_, rfl⟩
    have bQ := B4.new w2 (.slice va ts.length vc) (.int .i64 ep) (.int .i64 nw) (.string ⟨jr.toArray⟩) 29
    have hb3 : Below w2.heap.size w2 w3 := by rw [← hw3]; exact (Below.refl _ _).alloc (Nat.le_refl _) _
    have hs3 : w3.heap.size = Q + 1 := by rw [← hw3, ← hQ]; simp
    rw [hw3, hQ] at bQ
    have hB3 : Below W2.heap.size W2 w3 := hB2.trans (hb3.mono hB2.size)
    have hw1 : D + 2 ≤ w1.heap.size := by have := HB1.out.size; omega
    have hQl : w1.heap.size ≤ Q := by rw [← hQ]; exact hb2.size
    have HO3 : Hid (TksOwn w3 w1.heap.size (.slice va ts.length vc) xs ∧ xs.map (·.1) = ts ∧ ApartR (xs.map tvT)) := ⟨ho.below hb3, hx, hap⟩
    have hO3 : ∀ k, (Value.slice va ts.length vc).ownBlock = some k ∨ (∃ x ∈ xs, (tvT x).ownBlock = some k) → k < Q := by
      intro k hk
      rw [← hQ]
      rcases hk with e | ⟨x, hx, e⟩
      · exact (ho.row.lt k e).2
      · exact ((ho.trees x hx).lt k e).2
    have HO3l : Hid (_) := hO3
    have HT : Hid (_) := HLe.out Q w1.heap.size va vc xs w3 bQ HO3.out.1 HO3.out.2.1 HO3.out.2.2 (fun k hk e => by
      have h := HO3l.out k hk
      omega) (by rw [hs3]; omega) (by first | rfl | trivial)
    have HB3 : Hid (Below W2.heap.size W2 w3) := hB3
    clear d0 d1 d2 d3 hb2 ho hap hx hb3 bQ hB3 hB2 hO3 HC1 HLe
    go_wp2_with fail
    refine Calls.mono HT.out ?_
    rintro e w4 ⟨rfl, xs4, hx4, ho4, hap4, bQ4, hb4, _⟩
    have HB4 : Hid (Below W2.heap.size W2 w4) := HB3.out.trans (hb4.mono HB1.out.size)
    obtain ⟨_, br, _, hbD⟩ := HD.out w4 HB4.out
    have q0 := bQ4.c0
    have q1 := bQ4.c1
    have q2 := bQ4.c2
    have q3 := bQ4.c3
    have r0 := br.c0
    have r1 := br.c1
    have r2 := br.c2
    have r3 := br.c3
    have f0 := br.fr 0
    have f1 := br.fr 1
    have f2 := br.fr 2
    have f3 := br.fr 3
    have HBD : Hid (Below D w w4) := hbD
    have HO4 : Hid (TksOwn w4 w1.heap.size (.slice va ts.length vc) xs4 ∧ xs4.map (·.1) = res2.1.1 ∧ ApartR (xs4.map tvT)) := ⟨ho4, hx4, hap4⟩
    clear hbD br bQ4 ho4 hx4 hap4 hb4 HT
    go_wp2
    obtain ⟨X, hX, y0, y1, y2, y3, hg⟩ := set4 (.slice va ts.length vc) (.int .i64 ep) (.int .i64 nw) (.string ⟨jr.toArray⟩) r0 r1 r2 r3
    rw [hX]
    refine bodyPost_ret (v := .tuple #[.agg #[.slice va ts.length vc, .int .i64 ep, .int .i64 nw, .string ⟨jr.toArray⟩], .int .i64 res2.2]) (by simp [results, Try.results12, go_sem, y0, y1, y2, y3]) rfl ?_
    rw [HR.out]
    have hk := HO4.out.1.kept hg (own_offR HO4.out.1.row (by omega)) (fun y hy => own_offR (HO4.out.1.trees y hy) (by omega))
    obtain ⟨hr1, hr2⟩ := HRs.out
    unfold DkOut
    rw [hr1, hr2]
    exact ⟨_, rfl, va, vc, xs4, rfl, HO4.out.2.1, hk.base (by omega), HO4.out.2.2, by rw [hD]; exact HBD.out.grown hg (by have := HBD.out.size; omega) (fun k e => by injection e with e; omega)⟩

end Go.Proofs.Ytinojgaekfknkaa

/-! The contracts of chapter 18's landed code: needsDone, firstToLend, asLeased, Lent. -/
namespace Go.Proofs.Ytinojgaekfknkaa
open Go.RowKit

set_option maxHeartbeats 2000000 in
set_option maxRecDepth 100000 in
theorem implNeedsDone (a na : Option Addr) (len cap nc : Nat) (ts : List Ta) (ns : List Int) (w : World) (hin : TasksIn w a len ts) (hns : AsIn w na ns) (hnl : ns.length ≤ 1048576) (hlen : len ≤ 1048576) (hnd : ∀ q, q < ns.length → 0 ≤ ns.getD q 0 ∧ ns.getD q 0 < len) :
    Calls Try.prog 55 #[.slice a len cap, .slice na ns.length nc] w fun e w' => e = .returned (.bool (decide (∀ i, i < ns.length → (ts.getD (ns.getD i 0).toNat ta0).2.2.1 = 2))) ∧ w' = w := by
  obtain rfl : ts.length = len := hin.1
  have HI : Hid (TasksIn w a ts.length ts) := hin
  have HM : Hid (AsIn w na ns) := hns
  have HD : Hid (∀ q, q < ns.length → 0 ≤ ns.getD q 0 ∧ ns.getD q 0 < ts.length) := hnd
  have HN : Hid (∀ i, i < ns.length → (ts.getD (ns.getD i 0).toNat ta0).2.2.1 ≠ 2 → decide (∀ i, i < ns.length → (ts.getD (ns.getD i 0).toNat ta0).2.2.1 = 2) = false) := fun i hi h => decide_eq_false (fun e => h (e i hi))
  have HY : Hid ((∀ i, i < ns.length → (ts.getD (ns.getD i 0).toNat ta0).2.2.1 = 2) → decide (∀ i, i < ns.length → (ts.getD (ns.getD i 0).toNat ta0).2.2.1 = 2) = true) := fun h => decide_eq_true h
  generalize decide (∀ i, i < ns.length → (ts.getD (ns.getD i 0).toNat ta0).2.2.1 = 2) = res at HN HY ⊢
  clear hin hns hnd
  go_enter Try.func55, Try.ntmps55
  go_wp2
  go_loopw [9] (fun iv wr => ∃ i : Nat, iv = .int .i64 (i : Int) ∧ i ≤ ns.length ∧ Hid (∀ q, q < i → (ts.getD (ns.getD q 0).toNat ta0).2.2.1 = 2) ∧ wr = w) (fun iv _ => ns.length - (intOf iv).toNat)
  case atStart => exact ⟨0, rfl, Nat.zero_le _, (fun q hq => absurd hq (Nat.not_lt_zero _)), rfl⟩
  case round =>
    obtain ⟨i, rfl, hi, HA, hwr⟩ := hrel
    obtain rfl := hwr.symm
    by_cases hlt : (i : Int) < (ns.length : Int)
    · obtain ⟨nb, no, rfl, _, d0⟩ := HM.out i (by omega)
      obtain ⟨h0, h1⟩ := HD.out i (by omega)
      have HNi : Hid (_) := HN.out i (by omega)
      obtain ⟨y, hy⟩ : ∃ y, ns.getD i 0 = y := ⟨_, rfl⟩
      rw [hy] at d0 h0 h1 HNi
      obtain ⟨m, rfl⟩ : ∃ m : Nat, y = (m : Int) := ⟨y.toNat, by omega⟩
      obtain ⟨b, off, rfl, hbl, _, _, c2, _⟩ := HI.out.2 m (by omega)
      rw [Int.toNat_natCast] at HNi
      obtain ⟨x, hx⟩ : ∃ x, (ts.getD m ta0).2.2.1 = x := ⟨_, rfl⟩
      rw [hx] at c2 HNi
      by_cases h2 : x = 2
      · have HR : Hid (∀ q, q < i + 1 → (ts.getD (ns.getD q 0).toNat ta0).2.2.1 = 2) := fun q hq => by
          rcases Nat.lt_or_ge q i with g | g
          · exact HA.out q g
          · obtain rfl : q = i := by omega
            rw [hy, Int.toNat_natCast, hx]; exact h2
        clear HA hx hy HNi
        subst h2
        go_wp2
        go_roundw
        case rel => exact ⟨i + 1, by go_num, by omega, HR, trivial⟩
        case measure => simp [intOf]; omega
      · have HF : Hid (res = false) := HNi.out h2
        have hxb : (x != 2) = true := by simp [h2]
        clear HA hx hy HN HY HNi
        go_wp2
        go_ret
        exact ⟨by rw [HF.out]; rfl, rfl⟩
    · have HF : Hid (res = true) := HY.out (fun q hq => HA.out q (by omega))
      clear HA HN HY
      go_wp2
      go_ret
      exact ⟨by rw [HF.out]; rfl, rfl⟩

def firstV (d : Dk) : Int := match lendAt d with | some i => (i : Int) | none => -1
set_option maxHeartbeats 4000000 in
set_option maxRecDepth 100000 in
theorem implFirst (a : Option Addr) (len cap : Nat) (ts : List Ta) (ep nw : Int) (jr : List UInt8) (w : World) (hin : TasksIn w a len ts) (hsh : ShortTa ts) (hd : deskB (ts, ep, nw, jr) = true) :
    Calls Try.prog 35 #[.agg #[.slice a len cap, .int .i64 ep, .int .i64 nw, .string ⟨jr.toArray⟩]] w fun e w' => e = .returned (.int .i64 (firstV (ts, ep, nw, jr))) ∧ Below w.heap.size w w' := by
  obtain rfl : ts.length = len := hin.1
  have hP := deskB_iff.1 hd
  have hn8 := hP.n
  simp only at hn8
  have hln : ts.length ≤ 1048576 := by omega
  obtain ⟨W, hW⟩ : ∃ W, w.alloc (.cells #[.slice a ts.length cap, .int .i64 ep, .int .i64 nw, .string ⟨jr.toArray⟩] 29) = W := ⟨_, rfl⟩
  have hbW : Below w.heap.size w W := by rw [← hW]; exact (Below.refl _ _).alloc (Nat.le_refl _) _
  have bD := B4.new w (.slice a ts.length cap) (.int .i64 ep) (.int .i64 nw) (.string ⟨jr.toArray⟩) 29
  rw [hW] at bD
  have HB : Hid (∀ Z, Below W.heap.size W Z → Below w.heap.size w Z) := fun Z hz => hbW.trans (hz.mono hbW.size)
  obtain ⟨D, hD⟩ : ∃ D, w.heap.size = D := ⟨_, rfl⟩
  have hsW : W.heap.size = D + 1 := by rw [← hW, ← hD]; simp
  rw [hD] at bD
  have HK : Hid (∀ Z, Below W.heap.size W Z → B4 Z D (.slice a ts.length cap) (.int .i64 ep) (.int .i64 nw) (.string ⟨jr.toArray⟩) ∧ TasksIn Z a ts.length ts) := fun Z hz => ⟨bD.below hz, (hin.below hbW).below hz⟩
  have HS : Hid (ShortTa ts) := hsh
  have HNe : Hid (∀ p, p < ts.length → _) := fun p hp => needs_of hP (p := p) hp
  have HSts : Hid (∀ p, p < ts.length → (ts.getD p ta0).2.2.1 ≠ 0 → (ts.getD p ta0).2.2.1 ≠ 2 → (ts.getD p ta0).2.2.1 = 1) := fun p hp h0 h2 => by
    obtain ⟨_, h, _⟩ := hP.one p hp
    unfold taskB stateB at h
    rw [Bool.and_eq_true] at h
    have h := h.2
    simp only at h
    rw [if_neg h0] at h
    by_cases h1 : (ts.getD p ta0).2.2.1 = 1
    · exact h1
    · rw [if_neg h1, if_neg h2] at h
      cases h
  have HV : Hid (∀ i, i < ts.length → can18 (ts, ep, nw, jr) i → (∀ q, q < i → ¬ can18 (ts, ep, nw, jr) q) → firstV (ts, ep, nw, jr) = (i : Int)) := fun i hi hc hq => by
    have e : lendAt (ts, ep, nw, jr) = some i := lendGo_to (Nat.zero_le _) (by simpa using hi) hc (fun q _ h2 => hq q h2)
    unfold firstV; rw [e]
  have HVn : Hid ((∀ q, q < ts.length → ¬ can18 (ts, ep, nw, jr) q) → firstV (ts, ep, nw, jr) = -1) := fun hq => by
    have e : lendAt (ts, ep, nw, jr) = none := lendGo_to_none (fun q _ h2 => hq q (by simpa using h2))
    unfold firstV; rw [e]
  generalize firstV (ts, ep, nw, jr) = res at HV HVn ⊢
  have HB0 : Hid (Below W.heap.size W W) := Below.refl _ _
  have d0 := bD.c0
  clear hin hsh hd hP bD hbW
  go_enter Try.func35, Try.ntmps35
  go_wp2
  go_step3
  go_wp2
  go_step3
  go_wp2
  go_loopw [3, 9] (fun rv iv wr => ∃ i : Nat, iv = .int .i64 (i : Int) ∧ rv = .int .i64 (-1) ∧ i ≤ ts.length ∧ Hid (∀ q, q < i → ¬ can18 (ts, ep, nw, jr) q) ∧ Hid (Below W.heap.size W wr)) (fun _ iv _ => ts.length - (intOf iv).toNat)
  case atStart => exact ⟨0, rfl, rfl, Nat.zero_le _, (fun q hq => absurd hq (Nat.not_lt_zero _)), HB0⟩
  case round =>
    obtain ⟨i, rfl, rfl, hi, HA, HBr⟩ := hrel
    clear HB0 d0
    by_cases hlt : (i : Int) < (ts.length : Int)
    rotate_left
    · have HR : Hid (res = -1) := HVn.out (fun q hq => HA.out q (by omega))
      clear HV HVn HA
      go_wp2
      (try rw [Exit.noGoto_ret])
      go_ret
      exact ⟨by rw [HR.out]; rfl, HB.out _ HBr.out⟩
    have hi2 : i < ts.length := by omega
    have hin := (HK.out wr HBr.out).2
    have hsi := (HS.out i).2
    have HCan : Hid (can18 (ts, ep, nw, jr) i ↔ (ts.getD i ta0).2.2.1 ≠ 2 ∧ decide (∀ q, q < (ts.getD i ta0).2.1.length → (ts.getD ((ts.getD i ta0).2.1.getD q 0).toNat ta0).2.2.1 = 2) = true ∧ ¬ ((ts.getD i ta0).2.2.1 = 1 ∧ nw < (ts.getD i ta0).2.2.2.2.1)) := Iff.rfl
    have hnd := HNe.out i hi2
    (try simp only at hnd)
    have hst := (HSts.out i hi2)
    have HNext : Hid (¬ can18 (ts, ep, nw, jr) i → ∀ q, q < i + 1 → ¬ can18 (ts, ep, nw, jr) q) := fun h q hq => by
      rcases Nat.lt_or_ge q i with k | k
      · exact HA.out q k
      · obtain rfl : q = i := by omega
        exact h
    have HSome : Hid (_) := fun h => HV.out i hi2 h HA.out
    obtain ⟨b, off, e, hbl, c0, ⟨na, nc, c1, hn1⟩, c2, c3, c4, c5⟩ := hin.2 i hi2
    obtain ⟨x, hx⟩ : ∃ x, ts.getD i ta0 = x := ⟨_, rfl⟩
    rw [hx] at c0 c1 c2 c3 c4 c5 hn1 hsi HCan hnd hst
    obtain ⟨nm, ns, st, wk, un, ke⟩ := x
    simp only at c0 c1 c2 c3 c4 c5 hn1 hsi HCan hnd
    subst e
    obtain ⟨Y, hY⟩ : ∃ Y, wr.alloc (.cells #[.string ⟨nm.toArray⟩, .slice na ns.length nc, .int .i64 st, .int .i64 wk, .int .i64 un, .int .i64 ke] 45) = Y := ⟨_, rfl⟩
    have hbY : Below wr.heap.size wr Y := by rw [← hY]; exact (Below.refl _ _).alloc (Nat.le_refl _) _
    have bE := B6.new wr (.string ⟨nm.toArray⟩) (.slice na ns.length nc) (.int .i64 st) (.int .i64 wk) (.int .i64 un) (.int .i64 ke) 45
    rw [hY] at bE
    have HBY : Hid (Below W.heap.size W Y) := HBr.out.trans (hbY.mono HBr.out.size)
    have HN : Hid (_) := implNeedsDone (some ⟨b, off, none⟩) na ts.length cap nc ts ns Y (HK.out Y HBY.out).2 (hn1.below hbY) hsi hln hnd
    obtain ⟨E, hE⟩ : ∃ E, wr.heap.size = E := ⟨_, rfl⟩
    rw [hE] at bE
    have y0 := bE.c0
    have y1 := bE.c1
    have y2 := bE.c2
    have y4 := bE.c4
    have bD := (HK.out Y HBY.out).1
    have d0 := bD.c0
    have d2 := bD.c2
    have dr := (HK.out wr HBr.out).1.c0
    generalize decide (∀ q, q < ns.length → (ts.getD (ns.getD q 0).toNat ta0).2.2.1 = 2) = fr at HN HCan
    have HSt : Hid (st ≠ 0 → st ≠ 2 → st = 1) := hst
    clear hin hx hn1 hnd hst bE bD HA HV HVn hbY
    by_cases h2 : st = 2
    · have HNx : Hid (_) := HNext.out (fun h => (HCan.out.1 h).1 h2)
      subst h2
      clear HNext HSome HCan HN
      go_wp2
      go_roundw
      case rel => exact ⟨i + 1, by go_num, rfl, by omega, HNx, HBY⟩
      case measure => simp [intOf]; omega
    have h2b : (st == 2) = false := beq_eq_false_iff_ne.2 h2
    rcases fr with _ | _
    · have HNx : Hid (_) := HNext.out (fun h => by cases (HCan.out.1 h).2.1)
      clear HNext HSome HCan
      go_wp2_with (go_at_call 55; refine Calls.mono HN.out ?_; rintro e wn ⟨rfl, rfl⟩)
      go_roundw
      case rel => exact ⟨i + 1, by go_num, rfl, by omega, HNx, HBY⟩
      case measure => simp [intOf]; omega
    by_cases h0 : st = 0
    · subst h0
      have HR : Hid (_) := HSome.out (HCan.out.2 ⟨h2, rfl, fun h => by omega⟩)
      clear HNext HSome HCan
      go_wp2_with (go_at_call 55; refine Calls.mono HN.out ?_; rintro e wn ⟨rfl, rfl⟩)
      (try rw [Exit.noGoto_ret])
      go_ret
      exact ⟨by rw [HR.out]; rfl, HB.out _ HBY.out⟩
    have h0b : (st == 0) = false := beq_eq_false_iff_ne.2 h0
    obtain rfl : st = 1 := HSt.out h0 h2
    by_cases hu : un ≤ nw
    · have HR : Hid (_) := HSome.out (HCan.out.2 ⟨h2, rfl, fun h => by omega⟩)
      clear HNext HSome HCan
      go_wp2_with (go_at_call 55; refine Calls.mono HN.out ?_; rintro e wn ⟨rfl, rfl⟩)
      (try rw [Exit.noGoto_ret])
      go_ret
      exact ⟨by rw [HR.out]; rfl, HB.out _ HBY.out⟩
    · have HNx : Hid (_) := HNext.out (fun h => (HCan.out.1 h).2.2 ⟨rfl, by omega⟩)
      clear HNext HSome HCan
      go_wp2_with (go_at_call 55; refine Calls.mono HN.out ?_; rintro e wn ⟨rfl, rfl⟩)
      go_roundw
      case rel => exact ⟨i + 1, by go_num, rfl, by omega, HNx, HBY⟩
      case measure => simp [intOf]; omega

set_option maxHeartbeats 1000000 in
set_option maxRecDepth 100000 in
theorem implAsLeased (nm : List UInt8) (na : Option Addr) (nl nc : Nat) (st wk un ke w2 u2 : Int) (w : World) :
    Calls Try.prog 36 #[.agg #[.string ⟨nm.toArray⟩, .slice na nl nc, .int .i64 st, .int .i64 wk, .int .i64 un, .int .i64 ke], .int .i64 w2, .int .i64 u2] w fun e w' => e = .returned (.agg #[.string ⟨nm.toArray⟩, .slice na nl nc, .int .i64 1, .int .i64 w2, .int .i64 u2, .int .i64 0]) ∧ Below w.heap.size w w' := by
  obtain ⟨D, hD⟩ : ∃ D, w.heap.size = D := ⟨_, rfl⟩
  obtain ⟨W1, hW1⟩ : ∃ W, w.alloc (.cells #[.string ⟨nm.toArray⟩, .slice na nl nc, .int .i64 st, .int .i64 wk, .int .i64 un, .int .i64 ke] 45) = W := ⟨_, rfl⟩
  obtain ⟨W2, hW2⟩ : ∃ W, W1.alloc (.cells #[.string ⟨#[]⟩, .slice none 0 0, .int .i64 0, .int .i64 0, .int .i64 0, .int .i64 0] 45) = W := ⟨_, rfl⟩
  have hs1 : W1.heap.size = D + 1 := by rw [← hW1, ← hD]; simp
  have hb1 : Below D w W1 := by rw [← hW1, ← hD]; exact (Below.refl _ _).alloc (Nat.le_refl _) _
  have hb12 : Below W1.heap.size W1 W2 := by rw [← hW2]; exact (Below.refl _ _).alloc (Nat.le_refl _) _
  have HB : Hid (Below D w W2) := hb1.trans (hb12.mono (by omega))
  have bD := B6.new w (.string ⟨nm.toArray⟩) (.slice na nl nc) (.int .i64 st) (.int .i64 wk) (.int .i64 un) (.int .i64 ke) 45
  rw [hW1, hD] at bD
  have bR := B6.new W1 (.string ⟨#[]⟩) (.slice none 0 0) (.int .i64 0) (.int .i64 0) (.int .i64 0) (.int .i64 0) 45
  rw [hW2, hs1] at bR
  have bD2 := bD.below hb12
  have d0 := bD2.c0
  have d1 := bD2.c1
  have r0 := bR.c0
  have r1 := bR.c1
  have r2 := bR.c2
  have r3 := bR.c3
  have r4 := bR.c4
  have r5 := bR.c5
  have f0 := bR.fr 0
  have f1 := bR.fr 1
  have f2 := bR.fr 2
  have f3 := bR.fr 3
  have f4 := bR.fr 4
  have f5 := bR.fr 5
  obtain ⟨X, hX, y0, y1, y2, y3, y4, y5, hg⟩ := set6 (.string ⟨nm.toArray⟩) (.slice na nl nc) (.int .i64 1) (.int .i64 w2) (.int .i64 u2) (.int .i64 0) r0 r1 r2 r3 r4 r5
  have HG : Hid (W2.grownBy X (some (D + 1)) ∧ D + 1 ≤ W2.heap.size) := ⟨hg, by have := bR.lt; omega⟩
  clear bD bR bD2 hb1 hb12 hg
  go_enter Try.func36, Try.ntmps36
  go_wp2
  refine bodyPost_ret (v := .agg #[.string ⟨nm.toArray⟩, .slice na nl nc, .int .i64 1, .int .i64 w2, .int .i64 u2, .int .i64 0]) (by simp [results, Try.results36, go_sem, y0, y1, y2, y3, y4, y5]) rfl ?_
  exact ⟨rfl, by rw [hD]; exact HB.out.grown HG.out.1 (by have := HG.out.2; omega) (fun k e => by injection e with e; omega)⟩


end Go.Proofs.Ytinojgaekfknkaa

/-! A region that draws its order and stores, at its end, into a cell that it has read: what is held of the world is asked for behind every operation but those of E, which wait for all that is taken first. -/
namespace Go.Proofs.Ytinojgaekfknkaa
open Go.RowKit

section
variable {P : Program} {ops : Array Oper} {Q : Exit → Act → World → Prop} {md : Region.Mode} {S : World → Prop} {E : List Nat}

/-- Whatever comes up next, and so on to the end; S holds behind each that is not of E. -/
def Till (P : Program) (md : Region.Mode) (ops : Array Oper) (Q : Exit → Act → World → Prop) (E : List Nat) (S : World → Prop) : Nat → Array Bool → Act → World → Prop
  | 0 => fun listed a w => Region.ready md ops listed = [] ∧ Q .normal a w
  | k + 1 => fun listed a w => (Region.ready md ops listed = [] → Q .normal a w) ∧
      ∀ i, i ∈ Region.ready md ops listed → wpOp P ops Q i (fun b v => (i ∉ E → S v) ∧ Till P md ops Q E S k (listed.setIfInBounds i true) b v) a w

theorem Till.any : ∀ (k : Nat) {listed : Array Bool} {a : Act} {w : World}, Till P md ops Q E S k listed a w → wpAny P md ops Q k listed a w
  | 0, _, _, _, h => h
  | k + 1, _, _, _, h => ⟨h.1, fun i hi => wpOp_mono (fun _ _ x => Till.any k x.2) (h.2 i hi)⟩
theorem Till.done {listed : Array Bool} {a : Act} {w : World} (hr : Region.ready md ops listed = []) (h : Q .normal a w) : ∀ k, Till P md ops Q E S k listed a w
  | 0 => ⟨hr, h⟩
  | _ + 1 => ⟨fun _ => h, fun i hi => by rw [hr] at hi; cases hi⟩

/-- What has come up has come behind all that it waits for. -/
def Shut11 (md : Region.Mode) (ops : Array Oper) (listed : Array Bool) : Prop := ∀ j o, ops[j]? = some o → listed.getD j false = true → ∀ e ∈ o.after, Region.binds md e = true → listed.getD e.on false = true
theorem Shut11.start (n : Nat) : Shut11 md ops (Array.replicate n false) := fun j o _ h => by
  rw [Array.getD_eq_getD_getElem?] at h
  simp only [Array.getElem?_replicate] at h
  split at h <;> cases h
theorem Shut11.set {listed : Array Bool} {i : Nat} (h : Shut11 md ops listed) (hi : i ∈ Region.ready md ops listed) : Shut11 md ops (listed.setIfInBounds i true) := fun j o ho hj e he hb => by
  refine getD_set_true ?_
  rcases Nat.decEq i j with hne | heq
  · rw [getD_set_ne false hne] at hj
    exact h j o ho hj e he hb
  · subst heq
    obtain ⟨_, p, hp, hall⟩ := mem_ready.1 hi
    rw [ho] at hp
    injection hp with hp
    subst hp
    exact hall e he hb
/-- m waits for i, by way of others. -/
def waitsB (md : Region.Mode) (ops : Array Oper) : Nat → Nat → Nat → Bool
  | 0, _, _ => false
  | k + 1, m, i => match ops[m]? with
    | some o => o.after.any (fun e => Region.binds md e && (e.on == i || waitsB md ops k e.on i))
    | none => false
theorem waits_listed {listed : Array Bool} (h : Shut11 md ops listed) {i : Nat} : ∀ (k m : Nat), (∀ o, ops[m]? = some o → ∀ e ∈ o.after, Region.binds md e = true → listed.getD e.on false = true) → waitsB md ops k m i = true → listed.getD i false = true
  | 0, _, _, hw => by cases hw
  | k + 1, m, hd, hw => by
    unfold waitsB at hw
    cases ho : ops[m]? with
    | none => rw [ho] at hw; cases hw
    | some o =>
      rw [ho] at hw
      simp only [Array.any_eq_true'] at hw
      obtain ⟨e, he, h2⟩ := hw
      rw [Bool.and_eq_true, Bool.or_eq_true] at h2
      have hl := hd o ho e he h2.1
      rcases h2.2 with h3 | h3
      · rw [← beq_iff_eq.1 h3]; exact hl
      · exact waits_listed h k e.on (fun p hp f hf hb => h e.on p hp hl f hf hb) h3

/-- One that may come up, and for which all of E wait, is taken first. -/
theorem Till.first {i : Nat} {o : Oper} {v : Value} {d : Nat} (ho : ops[i]? = some o) (hE : E.all (fun m => waitsB md ops d m i) = true) (hsel : ∀ (j : Nat) (p : Oper) cs b, ops[j]? = some p → p.op ≠ .select cs b)
    (hQ : ∀ c a w, Q (.panic c) (a.put o.dst v) w → Q (.panic c) a w) : ∀ (k : Nat) (listed : Array Bool) (a : Act) (w : World), Shut11 md ops listed →
      (∀ j p, ops[j]? = some p → j ≠ i → listed.getD j true = false → (∀ e ∈ p.after, Region.binds md e = true → e.on ≠ i) → o.apart ops p = true) →
      i ∈ Region.ready md ops listed → YieldsIf P ops S o v a → S w →
      Till P md ops Q E S k (listed.setIfInBounds i true) (a.put o.dst v) w → Till P md ops Q E S (k + 1) listed a w := by
  intro k
  induction k with
  | zero =>
    intro listed a w hsh hfree hr hy hS H
    refine ⟨fun h => (by rw [h] at hr; cases hr), fun j hj => ?_⟩
    rcases Nat.decEq j i with hne | heq
    · have hji : j ∈ Region.ready md ops (listed.setIfInBounds i true) := ready_mono hj hne
      rw [H.1] at hji
      cases hji
    · subst heq
      exact hy.wpOp ho hS ⟨fun _ => hS, H⟩
  | succ k ih =>
    intro listed a w hsh hfree hr hy hS H
    refine ⟨fun h => (by rw [h] at hr; cases hr), fun j hj => ?_⟩
    rcases Nat.decEq j i with hne | heq
    · have hji : j ∈ Region.ready md ops (listed.setIfInBounds i true) := ready_mono hj hne
      obtain ⟨hun, p, hp, hall⟩ := mem_ready.1 hj
      have h0 : listed.getD i true = false := (mem_ready.1 hr).1
      have h0f : listed.getD i false = false := by
        rcases Nat.lt_or_ge i listed.size with hl | hl
        · simp [hl] at h0 ⊢; exact h0
        · simp [Array.getElem?_eq_none hl] at h0
      have hnot : ∀ e ∈ p.after, Region.binds md e = true → e.on ≠ i := fun e he hb hei => by
        have h1 := hall e he hb
        rw [hei, h0f] at h1
        cases h1
      have hjE : j ∉ E := fun hjE => by
        have h1 := waits_listed hsh d j (fun q hq e he hb => by rw [hp] at hq; injection hq with hq; subst hq; exact hall e he hb) (List.all_eq_true.1 hE j hjE)
        rw [h0f] at h1
        cases h1
      have h2 := wpOp_putIf hp (hfree j p hp hne hun hnot) (fun cs b => hsel i o cs b ho) (fun cs b => hsel j p cs b hp) hQ hy (H.2 j hji)
      have hfree' : ∀ q r, ops[q]? = some r → q ≠ i → (listed.setIfInBounds j true).getD q true = false → (∀ e ∈ r.after, Region.binds md e = true → e.on ≠ i) → o.apart ops r = true := fun q r hq hqi hqu hqn => by
        refine hfree q r hq hqi ?_ hqn
        rcases Nat.decEq j q with hjq | hjq
        · rw [getD_set_ne true hjq] at hqu; exact hqu
        · subst hjq; exact hun
      refine wpOp_mono (fun b u h3 => ⟨h3.2.1, ih (listed.setIfInBounds j true) b u (hsh.set hj) hfree' (ready_mono hr (Ne.symm hne)) h3.1 (h3.2.1 hjE) ?_⟩) h2
      rw [Array.setIfInBounds_comm _ _ hne]
      exact h3.2.2
    · subst heq
      exact hy.wpOp ho hS ⟨fun _ => hS, H⟩

/-! The moves of a walk. -/
theorem Till.region {id : Nat} {a : Act} {w : World} (hm : P.follows .mixedOrders = true) (hS : S w.drew) (h : S w.drew → Shut11 .any ops (Array.replicate ops.size false) → Till P .any ops Q E S ops.size (Array.replicate ops.size false) a w.drew) : (Code.region id ops true).wp P Q a w :=
  wp_region_any hm (Till.any _ (h hS (Shut11.start _)))
theorem Till.take {i : Nat} {o : Oper} {v : Value} {d k : Nat} {listed : Array Bool} {a : Act} {w : World} (ho : ops[i]? = some o) (hs : Region.noSelect ops = true) (hf : Region.free md ops listed i = true) (hr : (Region.ready md ops listed).contains i = true) (hE : E.all (fun m => waitsB md ops d m i) = true)
    (hQ : ∀ c a w, Q (.panic c) (a.put o.dst v) w → Q (.panic c) a w) (hy : YieldsIf P ops S o v a) (hS : S w) (hsh : Shut11 md ops listed)
    (h : Shut11 md ops (listed.setIfInBounds i true) → Till P md ops Q E S k (listed.setIfInBounds i true) (a.put o.dst v) w) : Till P md ops Q E S (k + 1) listed a w :=
  Till.first ho hE (Region.noSelect_spec hs) hQ k listed a w hsh (Region.free_spec ho hf) (by simpa using hr) hy hS (h (hsh.set (by simpa using hr)))
theorem Till.one {i : Nat} {o : Oper} {k : Nat} {listed : Array Bool} {a : Act} {w : World} (hr : Region.ready md ops listed = [i]) (ho : ops[i]? = some o) (hsh : Shut11 md ops listed)
    (h : ∀ K' : Act → World → Prop, Shut (∀ b v, S v → (S v → Shut11 md ops (listed.setIfInBounds i true) → Till P md ops Q E S k (listed.setIfInBounds i true) b v) → K' b v) → if Region.wanted o (yielded ops a.tmps) = true then Oper.wp P o a w K' Q else K' (a.put o.dst undef) w) : Till P md ops Q E S (k + 1) listed a w := by
  have hi : i ∈ Region.ready md ops listed := by rw [hr]; exact List.mem_singleton_self i
  refine ⟨fun h0 => (by rw [h0] at hi; cases hi), fun j hj => ?_⟩
  rw [hr] at hj
  obtain rfl := List.mem_singleton.1 hj
  exact wpOp_step ho (fun K' hK => h K' (fun b v hS hW => hK b v ⟨fun _ => hS, hW hS (hsh.set hi)⟩))
theorem Till.last {i : Nat} {o : Oper} {k : Nat} {listed : Array Bool} {a : Act} {w : World} (hr : Region.ready md ops listed = [i]) (ho : ops[i]? = some o) (hiE : i ∈ E)
    (h : ∀ K' : Act → World → Prop, Shut (∀ b v, Till P md ops Q E S k (listed.setIfInBounds i true) b v → K' b v) → if Region.wanted o (yielded ops a.tmps) = true then Oper.wp P o a w K' Q else K' (a.put o.dst undef) w) : Till P md ops Q E S (k + 1) listed a w := by
  have hi : i ∈ Region.ready md ops listed := by rw [hr]; exact List.mem_singleton_self i
  refine ⟨fun h0 => (by rw [h0] at hi; cases hi), fun j hj => ?_⟩
  rw [hr] at hj
  obtain rfl := List.mem_singleton.1 hj
  exact wpOp_step ho (fun K' hK => h K' (fun b v hW => hK b v ⟨fun hn => absurd hiE hn, hW⟩))
end

theorem step_of_wp {P : Program} {ops : Array Oper} {o : Oper} {a : Act} {w : World} {K : Act → World → Prop} {Q : Exit → Act → World → Prop} {E : Prop} (hgd : o.guard = none) (h : Oper.wp P o a w K Q) :
    if Region.wanted o (yielded ops a.tmps) = true then Oper.wp P o a w K Q else E := by
  rw [if_pos (by simp [Region.wanted, hgd])]
  exact h

end Go.Proofs.Ytinojgaekfknkaa
