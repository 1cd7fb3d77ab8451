/-
  Parts of one proof, one behind the other: LentJ.
-/
import Derived.Test.YtaioedcaopbgkaaP35
import Derived.Test.YtaioedcaopbgkaaP20
import Derived.Deep.RegionHeld3

/-! The contract of chapter 18's landed code: Lent. -/
namespace Go.Proofs.Ytaioedcaopbgkaa
open Go.RowKit

theorem key_of {d : Dk} (h : DeskP d) {i : Nat} (hi : i < d.1.length) (hc : (d.1.getD i ta0).2.2.1 ≠ 2) : (d.1.getD i ta0).2.2.2.2.2 = 0 := by
  obtain ⟨_, hk, _⟩ := h.one i hi
  unfold taskB at hk
  rw [Bool.and_eq_true] at hk
  have hst := hk.2
  unfold stateB at hst
  split at hst
  · exact (of_decide_eq_true hst).2.2
  · split at hst
    · rw [Bool.and_eq_true] at hst; exact of_decide_eq_true hst.2
    · first
        | (cases hst; done)
        | (split at hst
           · rename_i e; exact absurd e hc
           · cases hst)

set_option maxHeartbeats 4000000 in
set_option maxRecDepth 100000 in
theorem implLent (a : Option Addr) (len cap : Nat) (ts : List Ta) (ep nw : Int) (jr : List UInt8) (n : Int) (w : World) (hin : TasksOk w a len cap ts) (hsh : ShortTa ts) (hlen : len ≤ 1048576) (hj : jr.length ≤ 1048576) (hc : len ≤ cap) :
    Calls Try.prog 6 #[.agg #[.slice a len cap, .int .i64 ep, .int .i64 nw, .string ⟨jr.toArray⟩], .int .i64 n] w
      fun e w' => ∃ v, e = .returned (.tuple #[v, .int .i64 (lentV (ts, ep, nw, jr) n).2]) ∧ DkOut w w' v (lentV (ts, ep, nw, jr) n).1 := by
  obtain rfl : ts.length = len := hin.1
  obtain ⟨D, hD⟩ : ∃ D, w.heap.size = D := ⟨_, rfl⟩
  obtain ⟨W1, hW1⟩ : ∃ W, w.alloc (.cells #[.slice a ts.length cap, .int .i64 ep, .int .i64 nw, .string ⟨jr.toArray⟩] 26) = W := ⟨_, rfl⟩
  obtain ⟨W2, hW2⟩ : ∃ W, W1.alloc (.cells #[.slice none 0 0, .int .i64 0, .int .i64 0, .string ⟨#[]⟩] 26) = W := ⟨_, rfl⟩
  have hs1 : W1.heap.size = D + 1 := by rw [← hW1, ← hD]; simp
  have hs2 : W2.heap.size = D + 2 := by rw [← hW2]; simp [hs1]
  have hb1 : Below D w W1 := by rw [← hW1, ← hD]; exact (Below.refl _ _).alloc (Nat.le_refl _) _
  have hb12 : Below W1.heap.size W1 W2 := by rw [← hW2]; exact (Below.refl _ _).alloc (Nat.le_refl _) _
  have hb2 : Below D w W2 := hb1.trans (hb12.mono (by omega))
  have bD := B4.new w (.slice a ts.length cap) (.int .i64 ep) (.int .i64 nw) (.string ⟨jr.toArray⟩) 26
  rw [hW1, hD] at bD
  have bR := B4.new W1 (.slice none 0 0) (.int .i64 0) (.int .i64 0) (.string ⟨#[]⟩) 26
  rw [hW2, hs1] at bR
  have HD : Hid (∀ Z, Below W2.heap.size W2 Z → B4 Z D (.slice a ts.length cap) (.int .i64 ep) (.int .i64 nw) (.string ⟨jr.toArray⟩) ∧ B4 Z (D + 1) (.slice none 0 0) (.int .i64 0) (.int .i64 0) (.string ⟨#[]⟩) ∧ TasksOk Z a ts.length cap ts ∧ Below D w Z) := fun Z hz =>
    ⟨(bD.below hb12).below hz, bR.below hz, (hin.below (by rw [hD]; exact hb2)).below hz, hb2.trans (hz.mono (by omega))⟩
  have HK : Hid (_) := implDeskOk a ts.length cap ts ep nw jr W2 (hin.in.below (by rw [hD]; exact hb2)) hc hsh hlen
  have HCp : Hid (∀ Z, TasksOk Z a ts.length cap ts → _) := fun Z hz => implCopyD a ts.length cap ts ep nw jr Z hz hsh hlen hj
  have HV0 : Hid (deskB (ts, ep, nw, jr) = false → lentV (ts, ep, nw, jr) n = (dk0, -1)) := fun h => by unfold lentV; rw [h]; rfl
  have HV1 : Hid (deskB (ts, ep, nw, jr) = true → inB n 0 3 = false → lentV (ts, ep, nw, jr) n = ((ts, ep, nw, jr), -1)) := fun h h2 => by unfold lentV lend18; rw [if_pos h, h2]; rfl
  have HVn : Hid (deskB (ts, ep, nw, jr) = true → inB n 0 3 = true → lendAt (ts, ep, nw, jr) = none → lentV (ts, ep, nw, jr) n = ((ts, ep, nw, jr), -1)) := fun h h2 h3 => by unfold lentV lend18; rw [if_pos h, if_pos h2, h3]
  have HVs : Hid (∀ i, deskB (ts, ep, nw, jr) = true → inB n 0 3 = true → lendAt (ts, ep, nw, jr) = some i → lentV (ts, ep, nw, jr) n = ((ts.set i (leased18 (ts, ep, nw, jr) n (ts.getD i ta0)), ep, nw, jr), (i : Int))) := fun i h h2 h3 => by unfold lentV lend18; rw [if_pos h, if_pos h2, h3]
  have HP : Hid (deskB (ts, ep, nw, jr) = true → DeskP (ts, ep, nw, jr)) := fun h => deskB_iff.1 h
  have HFst : Hid (deskB (ts, ep, nw, jr) = true → ∀ (a : Option Addr) (c : Nat) (Z : World), TasksIn Z a ts.length ts → Calls Try.prog 17 #[.agg #[.slice a ts.length c, .int .i64 ep, .int .i64 nw, .string ⟨jr.toArray⟩]] Z fun e w' => e = .returned (.int .i64 (firstV (ts, ep, nw, jr))) ∧ Below Z.heap.size Z w') := fun h a c Z hz => implFirst a ts.length c ts ep nw jr Z hz hsh h
  have HWk : Hid (∀ Z, _) := fun Z => implWorkerOk n Z
  obtain ⟨d0, d1, d2, d3⟩ : W2.cell? ⟨D, 0, none⟩ = some (.slice a ts.length cap) ∧ W2.cell? ⟨D, 1, none⟩ = some (.int .i64 ep) ∧ W2.cell? ⟨D, 2, none⟩ = some (.int .i64 nw) ∧ W2.cell? ⟨D, 3, none⟩ = some (.string ⟨jr.toArray⟩) := by
    have h := (HD.out W2 (Below.refl _ _)).1
    exact ⟨h.c0, h.c1, h.c2, h.c3⟩
  generalize lentV (ts, ep, nw, jr) n = res at HV0 HV1 HVn HVs ⊢
  generalize deskB (ts, ep, nw, jr) = b1 at HK HV0 HV1 HVn HVs HP HFst
  clear hin hsh bD bR hb1 hb12 hb2
  rcases b1 with _ | _
  · have HR : Hid (res = (dk0, -1)) := HV0.out rfl
    clear HV0 HV1 HVn HVs HP HFst HCp HWk
    go_enter Try.func6, Try.ntmps6
    go_wp2_with fail
    refine Calls.mono HK.out ?_
    rintro e w1 ⟨rfl, hb1⟩
    obtain ⟨_, br, _, hbD⟩ := HD.out w1 hb1
    have r0 := br.c0
    have r1 := br.c1
    have r2 := br.c2
    have r3 := br.c3
    have f0 := br.fr 0
    have f1 := br.fr 1
    have f2 := br.fr 2
    have f3 := br.fr 3
    have HBD : Hid (Below D w w1) := hbD
    clear hbD br hb1 d0 d1 d2 d3
    go_wp2
    obtain ⟨X, hX, y0, y1, y2, y3, hg⟩ := set4 (.slice none 0 0) (.int .i64 0) (.int .i64 0) (.string ⟨#[]⟩) r0 r1 r2 r3
    rw [hX]
    refine bodyPost_ret (v := .tuple #[.agg #[.slice none 0 0, .int .i64 0, .int .i64 0, .string ⟨#[]⟩], .int .i64 (-1)]) (by simp [results, Try.results6, go_sem, y0, y1, y2, y3]) rfl ?_
    rw [HR.out]
    exact ⟨_, rfl, DkOut.zero (by rw [hD]; exact HBD.out.grown hg (by have := HBD.out.size; omega) (fun k e => by injection e with e; omega))⟩
  · have HV1b : Hid (_) := HV1.out rfl
    have HVnb : Hid (_) := HVn.out rfl
    have HVsb : Hid (_) := fun i => HVs.out i rfl
    have HPb : Hid (_) := HP.out rfl
    have HFb : Hid (_) := HFst.out rfl
    clear HV0 HV1 HVn HVs HP HFst
    go_enter Try.func6, Try.ntmps6
    go_wp2_with fail
    refine Calls.mono HK.out ?_
    rintro e w1 ⟨rfl, hb1⟩
    have HB1 : Hid (Below W2.heap.size W2 w1) := hb1
    clear d0 d1 d2 d3 hb1 HK
    obtain ⟨bd, _, hok1, _⟩ := HD.out w1 HB1.out
    have d0 := bd.c0
    have d1 := bd.c1
    have d2 := bd.c2
    have d3 := bd.c3
    have HC1 : Hid (_) := HCp.out w1 hok1
    clear bd hok1 HCp
    go_wp2_with fail
    refine Calls.mono HC1.out ?_
    rintro e w2 ⟨va, vc, xs, rfl, hx, ho, hap, hb2⟩
    have hB2 := HB1.out.trans (hb2.mono HB1.out.size)
    obtain ⟨Q, hQ⟩ : ∃ Q, w2.heap.size = Q := ⟨_, rfl⟩
    obtain ⟨w3, hw3⟩ : ∃ W, w2.alloc (.cells #[.slice va ts.length vc, .int .i64 ep, .int .i64 nw, .string ⟨jr.toArray⟩] 26) = W := ⟨_, rfl⟩
    have bQ := B4.new w2 (.slice va ts.length vc) (.int .i64 ep) (.int .i64 nw) (.string ⟨jr.toArray⟩) 26
    have hb3 : Below w2.heap.size w2 w3 := by rw [← hw3]; exact (Below.refl _ _).alloc (Nat.le_refl _) _
    have hs3 : w3.heap.size = Q + 1 := by rw [← hw3, ← hQ]; simp
    rw [hw3, hQ] at bQ
    have hB3 : Below W2.heap.size W2 w3 := hB2.trans (hb3.mono hB2.size)
    have hw1 : D + 2 ≤ w1.heap.size := by have := HB1.out.size; omega
    have hQl : w1.heap.size ≤ Q := by rw [← hQ]; exact hb2.size
    have HO3 : Hid (TksOwn w3 w1.heap.size (.slice va ts.length vc) xs ∧ xs.map (·.1) = ts ∧ ApartR (xs.map tvT)) := ⟨ho.below hb3, hx, hap⟩
    have hO3 : ∀ k, (Value.slice va ts.length vc).ownBlock = some k ∨ (∃ x ∈ xs, (tvT x).ownBlock = some k) → k < Q := by
      intro k hk
      rw [← hQ]
      rcases hk with e | ⟨x, hx, e⟩
      · exact (ho.row.lt k e).2
      · exact ((ho.trees x hx).lt k e).2
    have HO3l : Hid (_) := hO3
    have HBQ : Hid (B4 w3 Q (.slice va ts.length vc) (.int .i64 ep) (.int .i64 nw) (.string ⟨jr.toArray⟩)) := bQ
    have HB3 : Hid (Below W2.heap.size W2 w3) := hB3
    clear d0 d1 d2 d3 hb2 ho hap hx hb3 bQ hB3 hB2 hO3 HC1
    have HIn3 : Hid (∀ Z, Below w3.heap.size w3 Z → TasksIn Z va ts.length ts) := fun Z hz => by
      have hxl : xs.length = ts.length := by rw [← HO3.out.2.1, List.length_map]
      obtain ⟨a7, c7, e7, hok7⟩ := (HO3.out.1.below hz).ok
      rw [HO3.out.2.1, hxl] at hok7
      rw [hxl] at e7
      injection e7 with e7 _ _
      subst e7
      exact hok7.in
    have q0 := HBQ.out.c0
    have q1 := HBQ.out.c1
    have q2 := HBQ.out.c2
    have q3 := HBQ.out.c3
    rcases hbb : inB n 0 3 with _ | _
    · have HR : Hid (res = ((ts, ep, nw, jr), -1)) := HV1b.out hbb
      rw [hbb] at HWk
      clear HV1b HVnb HVsb hbb HPb HFb
      obtain ⟨_, br, _, hbD⟩ := HD.out w3 (HB3.out)
      have r0 := br.c0
      have r1 := br.c1
      have r2 := br.c2
      have r3 := br.c3
      have f0 := br.fr 0
      have f1 := br.fr 1
      have f2 := br.fr 2
      have f3 := br.fr 3
      have HBD : Hid (Below D w w3) := hbD
      clear hbD br
      go_wp2_with (go_at_call 16; refine Calls.mono (HWk.out _) ?_; rintro e w4 ⟨rfl, hw4⟩; obtain rfl := hw4.symm; clear hw4)
      obtain ⟨X, hX, y0, y1, y2, y3, hg⟩ := set4 (.slice va ts.length vc) (.int .i64 ep) (.int .i64 nw) (.string ⟨jr.toArray⟩) r0 r1 r2 r3
      rw [hX]
      refine bodyPost_ret (v := .tuple #[.agg #[.slice va ts.length vc, .int .i64 ep, .int .i64 nw, .string ⟨jr.toArray⟩], .int .i64 (-1)]) (by simp [results, Try.results6, go_sem, y0, y1, y2, y3]) rfl ?_
      rw [HR.out]
      have hk := (HO3.out.1).kept hg (own_offR (HO3.out.1).row (by omega)) (fun y hy => own_offR ((HO3.out.1).trees y hy) (by omega))
      exact ⟨_, rfl, va, vc, xs, rfl, HO3.out.2.1, hk.base (by omega), HO3.out.2.2, by rw [hD]; exact HBD.out.grown hg (by have := HBD.out.size; omega) (fun k e => by injection e with e; omega)⟩
    rw [hbb] at HWk
    have HF3 : Hid (_) := HFb.out va vc w3 (HIn3.out w3 (Below.refl _ _))
    rcases hla : lendAt (ts, ep, nw, jr) with _ | i
    · have HR : Hid (res = ((ts, ep, nw, jr), -1)) := HVnb.out hbb hla
      have hfv : firstV (ts, ep, nw, jr) = -1 := by unfold firstV; rw [hla]
      rw [hfv] at HF3
      clear HV1b HVnb HVsb hbb hla hfv HPb HFb
      go_wp2_with (first | (go_at_call 16; refine Calls.mono (HWk.out _) ?_; rintro e w4 ⟨rfl, hw4⟩; obtain rfl := hw4.symm; clear hw4) | (go_at_call 17; refine Calls.mono HF3.out ?_; rintro e w4 ⟨rfl, hb4⟩; replace q0 := (HBQ.out.below hb4).c0; replace q1 := (HBQ.out.below hb4).c1; replace q2 := (HBQ.out.below hb4).c2; replace q3 := (HBQ.out.below hb4).c3; have hb43 := hb4; clear hb4; obtain ⟨_, br, _, hbD⟩ := HD.out w4 (HB3.out.trans (hb43.mono HB3.out.size)); have r0 := br.c0; have r1 := br.c1; have r2 := br.c2; have r3 := br.c3; have f0 := br.fr 0; have f1 := br.fr 1; have f2 := br.fr 2; have f3 := br.fr 3; have HBD : Hid (Below D w w4) := hbD; clear hbD br))
      obtain ⟨X, hX, y0, y1, y2, y3, hg⟩ := set4 (.slice va ts.length vc) (.int .i64 ep) (.int .i64 nw) (.string ⟨jr.toArray⟩) r0 r1 r2 r3
      rw [hX]
      refine bodyPost_ret (v := .tuple #[.agg #[.slice va ts.length vc, .int .i64 ep, .int .i64 nw, .string ⟨jr.toArray⟩], .int .i64 (-1)]) (by simp [results, Try.results6, go_sem, y0, y1, y2, y3]) rfl ?_
      rw [HR.out]
      have ho4 := HO3.out.1.below hb43
      have hk := ho4.kept hg (own_offR ho4.row (by omega)) (fun y hy => own_offR (ho4.trees y hy) (by omega))
      exact ⟨_, rfl, va, vc, xs, rfl, HO3.out.2.1, hk.base (by omega), HO3.out.2.2, by rw [hD]; exact HBD.out.grown hg (by have := HBD.out.size; omega) (fun k e => by injection e with e; omega)⟩
    have HR : Hid (res = _) := HVsb.out i hbb hla
    have hfv : firstV (ts, ep, nw, jr) = (i : Int) := by unfold firstV; rw [hla]
    rw [hfv] at HF3
    obtain ⟨_, hi2, hcan, _⟩ := lendGo_some hla
    simp only [Nat.zero_add] at hi2
    have HCan : Hid (can18 (ts, ep, nw, jr) i) := hcan
    have hP := HPb.out
    obtain ⟨g, cp, he⟩ := own_some HO3.out.1.row (by have := HO3.out.2.1; rw [← this, List.length_map] at hi2; omega)
    injection he with e1 e2 e3
    subst e1
    have HXL : Hid (xs.length = ts.length) := e2.symm
    have hgQ : g < Q := HO3l.out g (Or.inl rfl)
    have HKey : Hid ((ts.getD i ta0).2.2.2.2.2 = 0) := key_of hP hi2 hcan.1
    have hnow := hP.t
    simp only at hnow
    have HRow : Hid (∀ Z, Below w3.heap.size w3 Z → Z.ownsRow w1.heap.size 46 6 (.slice (some ⟨g, 0, none⟩) ts.length vc) ts.length (tksV xs)) := fun Z hz => by
      have h := (HO3.out.1.below hz).row
      rw [HXL.out] at h
      exact h
    have hix : i < xs.length := by have := HXL.out; omega
    have HT : Hid (_) := tksV_at xs i hix
    have hxi := getD_xs HO3.out.2.1 hix
    have hgx : xs.getD i tv0 = xs[i] := by simp [List.getD, hix]
    have HXI : Hid (∃ h : i < xs.length, xs[i] = (ts.getD i ta0, xs[i].2)) := ⟨hix, by rw [← hxi]⟩
    rw [hgx] at HT
    obtain ⟨tv, htv⟩ : ∃ tv, xs[i] = tv := ⟨_, rfl⟩
    rw [htv] at HT hxi
    have HTV : Hid (∃ h : i < xs.length, xs[i] = tv) := ⟨hix, htv⟩
    obtain ⟨⟨nm, ns, st, wk, un, ke⟩, na, nc⟩ := tv
    simp only [tvT] at HT
    simp only at hxi
    have HXi : Hid ((nm, ns, st, wk, un, ke) = ts.getD i ta0) := hxi
    have HCe : Hid (∀ Z, Below w3.heap.size w3 Z → Z.cell? ⟨g, i * 6, none⟩ = some (.string ⟨nm.toArray⟩) ∧ Z.cell? ⟨g, i * 6 + 1, none⟩ = some (.slice na ns.length nc) ∧ Z.cell? ⟨g, i * 6 + 2, none⟩ = some (.int .i64 st) ∧ Z.cell? ⟨g, i * 6 + 3, none⟩ = some (.int .i64 wk) ∧ Z.cell? ⟨g, i * 6 + 4, none⟩ = some (.int .i64 un) ∧ Z.cell? ⟨g, i * 6 + 5, none⟩ = some (.int .i64 ke)) := fun Z hz => by
      obtain ⟨v0, v1, v2, v3, v4, v5⟩ := HT.out
      have hr := HRow.out Z hz
      exact ⟨(hr.cellAt _ (by omega)).trans v0, (hr.cellAt _ (by omega)).trans v1, (hr.cellAt _ (by omega)).trans v2, (hr.cellAt _ (by omega)).trans v3, (hr.cellAt _ (by omega)).trans v4, (hr.cellAt _ (by omega)).trans v5⟩
    have HQb : Hid (∀ Z, Below w3.heap.size w3 Z → _) := fun Z hz => HBQ.out.below hz
    have HAs : Hid (∀ Z, _) := fun (u2 : Int) Z => implAsLeased nm na ns.length nc st wk un ke n u2 Z
    have hii : ((i : Int) != -1) = true := by simp
    have HMin : Hid (min (IntKind.i64.wrap (nw + 10)) 1000000 = (if nw + 10 ≤ 1000000 then nw + 10 else 1000000 : Int)) := by exact (by rw [IntKind.wrap_i64]; split <;> omega : min (IntKind.i64.wrap (nw + 10)) 1000000 = (if nw + 10 ≤ 1000000 then nw + 10 else 1000000 : Int))
    clear HV1b HVnb HVsb hbb hla hfv HPb HFb hcan hP e2 e3 hxi hgx htv hix HXI
    go_wp2_with (first | (go_at_call 16; refine Calls.mono (HWk.out _) ?_; rintro e w4 ⟨rfl, hw4⟩; obtain rfl := hw4.symm; clear hw4) | (go_at_call 17; refine Calls.mono HF3.out ?_; rintro e w4 ⟨rfl, hb4⟩; have HB4 : Hid (Below w3.heap.size w3 w4) := hb4; have HB4d : Hid (Below w3.heap.size w3 w4.drew) := hb4.trans ⟨rfl, rfl, rfl, Nat.le_refl _, fun _ _ => rfl⟩; replace q0 := (HBQ.out.below hb4).c0; replace q1 := (HBQ.out.below hb4).c1; replace q2 := (HBQ.out.below hb4).c2; replace q3 := (HBQ.out.below hb4).c3; clear hb4; obtain ⟨c0, c1, c2, c3, c4, c5⟩ := HCe.out w4 HB4.out))
    refine Till.region (S := (fun Z => Z.cell? ⟨Q, 0, none⟩ = some (.slice (some ⟨g, 0, none⟩) ts.length vc) ∧ Z.cell? ⟨Q, 1, none⟩ = some (.int .i64 ep) ∧ Z.cell? ⟨Q, 2, none⟩ = some (.int .i64 nw) ∧ Z.cell? ⟨Q, 3, none⟩ = some (.string ⟨jr.toArray⟩) ∧ Z.cell? ⟨g, i * 6, none⟩ = some (.string ⟨nm.toArray⟩) ∧ Z.cell? ⟨g, i * 6 + 1, none⟩ = some (.slice na ns.length nc) ∧ Z.cell? ⟨g, i * 6 + 2, none⟩ = some (.int .i64 st) ∧ Z.cell? ⟨g, i * 6 + 3, none⟩ = some (.int .i64 wk) ∧ Z.cell? ⟨g, i * 6 + 4, none⟩ = some (.int .i64 un) ∧ Z.cell? ⟨g, i * 6 + 5, none⟩ = some (.int .i64 ke))) (E := [15]) (by kernel_rfl) ?_ (fun hHeld hSh => ?_)
    · exact ⟨q0, q1, q2, q3, c0, c1, c2, c3, c4, c5⟩
    refine Till.take (i := 0) (o := ⟨some 22, _, _, _, _, _⟩) (v := ?v0) (d := 30) rfl (by kernel_rfl) (by kernel_rfl) (by kernel_rfl) (by kernel_rfl) (fun _ _ _ h => h) (Or.inl ⟨by rfl, ?hy0⟩) (by assumption) hSh (fun hSh2 => ?rest0)
    case hy0 => (intro wq hSw; (try dsimp only at hSw); first | (go_simp; done) | (go_simp; with_reducible rfl))
    clear hSh; rename Shut11 _ _ _ => hSh
    simp only [Act.put, List.setIfInBounds_toArray, List.set_cons_zero, List.set_cons_succ]
    refine Till.take (i := 1) (o := ⟨some 23, _, _, _, _, _⟩) (v := ?v1) (d := 30) rfl (by kernel_rfl) (by kernel_rfl) (by kernel_rfl) (by kernel_rfl) (fun _ _ _ h => h) (Or.inl ⟨by rfl, ?hy1⟩) (by assumption) hSh (fun hSh2 => ?rest1)
    case hy1 => (intro wq hSw; (try dsimp only at hSw); first | (go_simp; done) | (go_simp; with_reducible rfl))
    clear hSh; rename Shut11 _ _ _ => hSh
    simp only [Act.put, List.setIfInBounds_toArray, List.set_cons_zero, List.set_cons_succ]
    refine Till.take (i := 2) (o := ⟨some 24, _, _, _, _, _⟩) (v := ?v2) (d := 30) rfl (by kernel_rfl) (by kernel_rfl) (by kernel_rfl) (by kernel_rfl) (fun _ _ _ h => h) (Or.inl ⟨by rfl, ?hy2⟩) (by assumption) hSh (fun hSh2 => ?rest2)
    case hy2 => (intro wq hSw; (try dsimp only at hSw); first | (go_simp; done) | (go_simp; with_reducible rfl))
    clear hSh; rename Shut11 _ _ _ => hSh
    simp only [Act.put, List.setIfInBounds_toArray, List.set_cons_zero, List.set_cons_succ]
    refine Till.take (i := 3) (o := ⟨some 25, _, _, _, _, _⟩) (v := ?v3) (d := 30) rfl (by kernel_rfl) (by kernel_rfl) (by kernel_rfl) (by kernel_rfl) (fun _ _ _ h => h) (Or.inl ⟨by rfl, ?hy3⟩) (by assumption) hSh (fun hSh2 => ?rest3)
    case hy3 => (intro wq hSw; (try dsimp only at hSw); first | (go_simp; done) | (go_simp; with_reducible rfl))
    clear hSh; rename Shut11 _ _ _ => hSh
    simp only [Act.put, List.setIfInBounds_toArray, List.set_cons_zero, List.set_cons_succ]
    refine Till.take (i := 4) (o := ⟨some 26, _, _, _, _, _⟩) (v := ?v4) (d := 30) rfl (by kernel_rfl) (by kernel_rfl) (by kernel_rfl) (by kernel_rfl) (fun _ _ _ h => h) (Or.inl ⟨by rfl, ?hy4⟩) (by assumption) hSh (fun hSh2 => ?rest4)
    case hy4 => (intro wq hSw; (try dsimp only at hSw); first | (go_simp; done) | (go_simp; with_reducible rfl))
    clear hSh; rename Shut11 _ _ _ => hSh
    simp only [Act.put, List.setIfInBounds_toArray, List.set_cons_zero, List.set_cons_succ]
    refine Till.take (i := 5) (o := ⟨some 27, _, _, _, _, _⟩) (v := ?v5) (d := 30) rfl (by kernel_rfl) (by kernel_rfl) (by kernel_rfl) (by kernel_rfl) (fun _ _ _ h => h) (Or.inl ⟨by rfl, ?hy5⟩) (by assumption) hSh (fun hSh2 => ?rest5)
    case hy5 => (intro wq hSw; (try dsimp only at hSw); first | (go_simp; done) | (go_simp; with_reducible rfl))
    clear hSh; rename Shut11 _ _ _ => hSh
    simp only [Act.put, List.setIfInBounds_toArray, List.set_cons_zero, List.set_cons_succ]
    refine Till.take (i := 6) (o := ⟨some 28, _, _, _, _, _⟩) (v := ?v6) (d := 30) rfl (by kernel_rfl) (by kernel_rfl) (by kernel_rfl) (by kernel_rfl) (fun _ _ _ h => h) (Or.inl ⟨by rfl, ?hy6⟩) (by assumption) hSh (fun hSh2 => ?rest6)
    case hy6 => (intro wq hSw; (try dsimp only at hSw); first | (go_simp; done) | (go_simp; with_reducible rfl))
    clear hSh; rename Shut11 _ _ _ => hSh
    simp only [Act.put, List.setIfInBounds_toArray, List.set_cons_zero, List.set_cons_succ]
    refine Till.take (i := 7) (o := ⟨some 29, _, _, _, _, _⟩) (v := ?v7) (d := 30) rfl (by kernel_rfl) (by kernel_rfl) (by kernel_rfl) (by kernel_rfl) (fun _ _ _ h => h) (Or.inl ⟨by rfl, ?hy7⟩) (by assumption) hSh (fun hSh2 => ?rest7)
    case hy7 => (intro wq hSw; (try dsimp only at hSw); first | (go_simp; done) | (go_simp; with_reducible rfl))
    clear hSh; rename Shut11 _ _ _ => hSh
    simp only [Act.put, List.setIfInBounds_toArray, List.set_cons_zero, List.set_cons_succ]
    refine Till.take (i := 8) (o := ⟨some 30, _, _, _, _, _⟩) (v := ?v8) (d := 30) rfl (by kernel_rfl) (by kernel_rfl) (by kernel_rfl) (by kernel_rfl) (fun _ _ _ h => h) (Or.inl ⟨by rfl, ?hy8⟩) (by assumption) hSh (fun hSh2 => ?rest8)
    case hy8 => (intro wq hSw; (try dsimp only at hSw); first | (go_simp; done) | (go_simp; with_reducible rfl))
    clear hSh; rename Shut11 _ _ _ => hSh
    simp only [Act.put, List.setIfInBounds_toArray, List.set_cons_zero, List.set_cons_succ]
    refine Till.take (i := 9) (o := ⟨some 31, _, _, _, _, _⟩) (v := ?v9) (d := 30) rfl (by kernel_rfl) (by kernel_rfl) (by kernel_rfl) (by kernel_rfl) (fun _ _ _ h => h) (Or.inl ⟨by rfl, ?hy9⟩) (by assumption) hSh (fun hSh2 => ?rest9)
    case hy9 => (intro wq hSw; (try dsimp only at hSw); first | (go_simp; done) | (go_simp; with_reducible rfl))
    clear hSh; rename Shut11 _ _ _ => hSh
    simp only [Act.put, List.setIfInBounds_toArray, List.set_cons_zero, List.set_cons_succ]
    refine Till.take (i := 10) (o := ⟨some 32, _, _, _, _, _⟩) (v := ?v10) (d := 30) rfl (by kernel_rfl) (by kernel_rfl) (by kernel_rfl) (by kernel_rfl) (fun _ _ _ h => h) (Or.inl ⟨by rfl, ?hy10⟩) (by assumption) hSh (fun hSh2 => ?rest10)
    case hy10 => (intro wq hSw; (try dsimp only at hSw); first | (go_simp; done) | (go_simp; with_reducible rfl))
    clear hSh; rename Shut11 _ _ _ => hSh
    simp only [Act.put, List.setIfInBounds_toArray, List.set_cons_zero, List.set_cons_succ]
    refine Till.take (i := 11) (o := ⟨some 33, _, _, _, _, _⟩) (v := ?v11) (d := 30) rfl (by kernel_rfl) (by kernel_rfl) (by kernel_rfl) (by kernel_rfl) (fun _ _ _ h => h) (Or.inl ⟨by rfl, ?hy11⟩) (by assumption) hSh (fun hSh2 => ?rest11)
    case hy11 => (intro wq hSw; (try dsimp only at hSw); first | (go_simp; done) | (go_simp; with_reducible rfl))
    clear hSh; rename Shut11 _ _ _ => hSh
    simp only [Act.put, List.setIfInBounds_toArray, List.set_cons_zero, List.set_cons_succ]
    refine Till.take (i := 12) (o := ⟨some 34, _, _, _, _, _⟩) (v := ?v12) (d := 30) rfl (by kernel_rfl) (by kernel_rfl) (by kernel_rfl) (by kernel_rfl) (fun _ _ _ h => h) (Or.inl ⟨by rfl, ?hy12⟩) (by assumption) hSh (fun hSh2 => ?rest12)
    case hy12 => (intro wq hSw; (try dsimp only at hSw); first | (go_simp; done) | (go_simp; with_reducible rfl))
    clear hSh; rename Shut11 _ _ _ => hSh
    simp only [Act.put, List.setIfInBounds_toArray, List.set_cons_zero, List.set_cons_succ]
    refine Till.one (i := 13) (by kernel_rfl) rfl hSh (fun K hK => ?_)
    clear hSh
    go_simp
    (go_at_call 18; refine Calls.mono (HAs.out _ _) ?_; rintro e w6 ⟨rfl, hb6⟩; have HB6 : Hid (Below w3.heap.size w3 w6) := HB4d.out.trans (hb6.mono HB4d.out.size); clear hb6; replace q0 := (HQb.out w6 HB6.out).c0; replace q1 := (HQb.out w6 HB6.out).c1; replace q2 := (HQb.out w6 HB6.out).c2; replace q3 := (HQb.out w6 HB6.out).c3; clear c0 c1 c2 c3 c4 c5; obtain ⟨c0, c1, c2, c3, c4, c5⟩ := HCe.out w6 HB6.out)
    refine hK.out _ _ ?_ (fun hHeld hSh => ?_)
    · exact ⟨q0, q1, q2, q3, c0, c1, c2, c3, c4, c5⟩
    clear hK K
    obtain ⟨mm, hmm⟩ : ∃ m : Int, min (IntKind.i64.wrap (nw + 10)) 1000000 = m := ⟨_, rfl⟩
    rw [hmm]
    rw [hmm] at HMin
    clear hmm
    refine Till.take (i := 14) (o := ⟨some 36, _, _, _, _, _⟩) (v := ?v14) (d := 30) rfl (by kernel_rfl) (by kernel_rfl) (by kernel_rfl) (by kernel_rfl) (fun _ _ _ h => h) (Or.inl ⟨by rfl, ?hy14⟩) (by assumption) hSh (fun hSh2 => ?rest14)
    case hy14 => (intro wq hSw; (try dsimp only at hSw); first | (go_simp; done) | (go_simp; with_reducible rfl))
    clear hSh; rename Shut11 _ _ _ => hSh
    simp only [Act.put, List.setIfInBounds_toArray, List.set_cons_zero, List.set_cons_succ]
    have hr0 := HRow.out w6 HB6.out
    have e0 := hr0.frozenAt (i * 6)
    have hs0 := hr0.stored (i * 6) (.string ⟨nm.toArray⟩)
    have e1 := hr0.frozenAt (i * 6 + 1)
    have hs1 := hs0.1.stored (i * 6 + 1) (.slice na ns.length nc)
    have e2 := hr0.frozenAt (i * 6 + 2)
    have hs2 := hs1.1.stored (i * 6 + 2) (.int .i64 1)
    have e3 := hr0.frozenAt (i * 6 + 3)
    have hs3 := hs2.1.stored (i * 6 + 3) (.int .i64 n)
    have e4 := hr0.frozenAt (i * 6 + 4)
    have hs4 := hs3.1.stored (i * 6 + 4) (.int .i64 mm)
    have e5 := hr0.frozenAt (i * 6 + 5)
    have hs5 := hs4.1.stored (i * 6 + 5) (.int .i64 0)
    obtain ⟨V, hV⟩ : ∃ V, ((((((w6.setCell ⟨g, i * 6, none⟩ (.string ⟨nm.toArray⟩)).setCell ⟨g, i * 6 + 1, none⟩ (.slice na ns.length nc)).setCell ⟨g, i * 6 + 2, none⟩ (.int .i64 1)).setCell ⟨g, i * 6 + 3, none⟩ (.int .i64 n)).setCell ⟨g, i * 6 + 4, none⟩ (.int .i64 mm)).setCell ⟨g, i * 6 + 5, none⟩ (.int .i64 0)) = V := ⟨_, rfl⟩
    have hgV : w6.grownBy V (some g) := by rw [← hV]; exact ((((hs0.2.trans hs1.2).trans hs2.2).trans hs3.2).trans hs4.2).trans hs5.2
    have hrV := hs5.1
    have hset := tksV_set xs i ((nm, ns, 1, n, mm, 0), na, nc)
    simp only [tvT] at hset
    rw [hset, hV] at hrV
    have bQV := (HQb.out w6 HB6.out).grown hgV (by intro e; injection e with e; omega)
    have HBV : Hid (Below W2.heap.size W2 V) := (HB3.out.trans (HB6.out.mono HB3.out.size)).grown hgV (Nat.le_trans HB3.out.size HB6.out.size) (fun k e => by injection e with e; have h1 := HB1.out.size; have h2 := (HO3.out.1.row.lt g rfl).1; omega)
    have HOV : Hid (∃ h : i < xs.length, TksOwn V w1.heap.size (.slice (some ⟨g, 0, none⟩) ts.length vc) (xs.set i ((nm, ns, 1, n, mm, 0), na, nc)) ∧ ApartR ((xs.set i ((nm, ns, 1, n, mm, 0), na, nc)).map tvT)) := by
      obtain ⟨h, e⟩ := HTV.out
      exact ⟨h, (HO3.out.1.below HB6.out).put h _ hgV (by rw [HXL.out]; exact hrV) (by rw [e]) (by rw [e]), apart_set h _ (by rw [e]) (by rw [e]) HO3.out.2.2⟩
    obtain ⟨_, br, _, hbD⟩ := HD.out V HBV.out
    have r0 := br.c0
    have r1 := br.c1
    have r2 := br.c2
    have r3 := br.c3
    have f0 := br.fr 0
    have f1 := br.fr 1
    have f2 := br.fr 2
    have f3 := br.fr 3
    have p0 := bQV.c0
    have p1 := bQV.c1
    have p2 := bQV.c2
    have p3 := bQV.c3
    have HBD : Hid (Below D w V) := hbD
    have hsV : D + 2 ≤ V.heap.size := by have := HBV.out.size; omega
    clear hs0 hs1 hs2 hs3 hs4 hs5 hr0 hrV hset hbD br bQV hgV
    refine Till.last (i := 15) (by kernel_rfl) rfl (by decide) (fun K hK => ?_)
    go_simp
    refine hK.out _ _ ?_
    clear hK K
    (try rw [hV])
    refine Till.done (by kernel_rfl) ?_ _
    go_wp2
    obtain ⟨X, hX, y0, y1, y2, y3, hg⟩ := set4 (.slice (some ⟨g, 0, none⟩) ts.length vc) (.int .i64 ep) (.int .i64 nw) (.string ⟨jr.toArray⟩) r0 r1 r2 r3
    rw [hX]
    refine bodyPost_ret (v := .tuple #[.agg #[.slice (some ⟨g, 0, none⟩) ts.length vc, .int .i64 ep, .int .i64 nw, .string ⟨jr.toArray⟩], .int .i64 (i : Int)]) (by simp [results, Try.results6, go_sem, y0, y1, y2, y3]) rfl ?_
    rw [HR.out]
    obtain ⟨hix, hoV, hapV⟩ := HOV.out
    have hk := hoV.kept hg (own_offR hoV.row (by omega)) (fun y hy => own_offR (hoV.trees y hy) (by omega))
    refine ⟨_, rfl, some ⟨g, 0, none⟩, vc, _, by simp only [List.length_set], ?_, by simp only [List.length_set]; exact hk.base (by omega), hapV, by rw [hD]; exact HBD.out.grown hg (by omega) (fun k e => by injection e with e; omega)⟩
    rw [List.map_set, HO3.out.2.1]
    show ts.set i _ = ts.set i _
    congr 1
    unfold leased18
    rw [← HXi.out, HMin.out]
    have hke : ke = 0 := by have h := HKey.out; rw [← HXi.out] at h; exact h
    rw [hke]

end Go.Proofs.Ytaioedcaopbgkaa
