/-
  Parts of one proof, one behind the other: RetK.
-/
import Derived.Test.YtglhbcbilepomaaDoorP21
import Derived.Deep.RegionHeld3
import Derived.Deep.Cut
import Derived.Deep.CutRange
import Derived.Deep.RegionWith

/-! The contract of chapter 18's landed code: Returned. -/
namespace Go.Proofs.YtglhbcbilepomaaDoor
open Go.RowKit

/-- What is there behind 'after, code := copyOfDesk(d), returnCode(..)': the copy lies in a box, in memory of its own. -/
structure Aft18 (base : Nat) (W2 wx : World) (Q : Nat) (va : Option Addr) (vc : Nat) (xs : List TV) (ts : List Ta) (ep nw : Int) (jr : List UInt8) : Prop where
  b : B4 wx Q (.slice va ts.length vc) (.int .i64 ep) (.int .i64 nw) (.string ⟨jr.toArray⟩)
  o : TksOwn wx base (.slice va ts.length vc) xs
  x : xs.map (·.1) = ts
  a : ApartR (xs.map tvT)
  n : ∀ k, TkBlocks (.slice va ts.length vc) xs k → k ≠ Q
  q : base ≤ Q
  h : Below W2.heap.size W2 wx
theorem own_tkb {w : World} {base k : Nat} {v : Value} {xs : List TV} (h : TksOwn w base v xs) (hk : TkBlocks v xs k) : base ≤ k ∧ k < w.heap.size := by
  rcases hk with e1 | ⟨x, hx1, e1⟩
  · exact h.row.lt k e1
  · exact (h.trees x hx1).lt k e1
theorem aft_new {base : Nat} {W2 w3 : World} {va : Option Addr} {vc : Nat} {xs : List TV} {ts : List Ta} {ep nw : Int} {jr : List UInt8} (ho : TksOwn w3 base (.slice va ts.length vc) xs) (hx : xs.map (·.1) = ts) (ha : ApartR (xs.map tvT)) (hb : base ≤ w3.heap.size) (h : Below W2.heap.size W2 w3) :
    Aft18 base W2 (w3.alloc (.cells #[.slice va ts.length vc, .int .i64 ep, .int .i64 nw, .string ⟨jr.toArray⟩] 28)) w3.heap.size va vc xs ts ep nw jr := by
  have hb4 : Below w3.heap.size w3 (w3.alloc (.cells #[.slice va ts.length vc, .int .i64 ep, .int .i64 nw, .string ⟨jr.toArray⟩] 28)) := (Below.refl _ _).alloc (Nat.le_refl _) _
  refine ⟨B4.new _ _ _ _ _ _, ho.below hb4, hx, ha, fun k hk e => ?_, hb, h.trans (hb4.mono h.size)⟩
  rcases hk with e1 | ⟨x, hx1, e1⟩
  · have := (ho.row.lt k e1).2; omega
  · have := ((ho.trees x hx1).lt k e1).2; omega
theorem aft_set {base : Nat} {W2 w3 : World} {Q : Nat} {z0 z1 z2 z3 : Value} {va : Option Addr} {vc : Nat} {xs : List TV} {ts : List Ta} {ep nw : Int} {jr : List UInt8} (hz : B4 w3 Q z0 z1 z2 z3) (ho : TksOwn w3 base (.slice va ts.length vc) xs) (hx : xs.map (·.1) = ts) (ha : ApartR (xs.map tvT)) (hn : ∀ k, TkBlocks (.slice va ts.length vc) xs k → k ≠ Q) (hb : base ≤ Q) (hq : W2.heap.size ≤ Q) (h : Below W2.heap.size W2 w3) :
    Aft18 base W2 ((((w3.setCell ⟨Q, 0, none⟩ (.slice va ts.length vc)).setCell ⟨Q, 1, none⟩ (.int .i64 ep)).setCell ⟨Q, 2, none⟩ (.int .i64 nw)).setCell ⟨Q, 3, none⟩ (.string ⟨jr.toArray⟩)) Q va vc xs ts ep nw jr := by
  have hg := (((grown_set w3 Q 0 (.slice va ts.length vc)).trans (grown_set _ Q 1 (.int .i64 ep))).trans (grown_set _ Q 2 (.int .i64 nw))).trans (grown_set _ Q 3 (.string ⟨jr.toArray⟩))
  refine ⟨(((hz.s0 _).s1 _).s2 _).s3 _, ho.kept hg ?_ (fun x hx1 => ?_), hx, ha, hn, hb, h.grown hg h.size (fun k e => by injection e with e; omega)⟩
  · rcases h1 : (Value.slice va ts.length vc).ownBlock with _ | k
    · exact Or.inl rfl
    · exact Or.inr (fun e => by injection e with e; exact hn k (Or.inl h1) e)
  · rcases h1 : (tvT x).ownBlock with _ | k
    · exact Or.inl rfl
    · exact Or.inr (fun e => by injection e with e; exact hn k (Or.inr ⟨x, hx1, h1⟩) e)

set_option maxHeartbeats 4000000 in
set_option maxRecDepth 100000 in
theorem implReturned (a : Option Addr) (len cap : Nat) (ts : List Ta) (ep nw : Int) (jr : List UInt8) (kk ee key : Int) (w : World) (hin : TasksOk w a len cap ts) (hsh : ShortTa ts) (hlen : len ≤ 1048576) (hj : jr.length ≤ 1048576) (hc : len ≤ cap) (ht : PowIs w) (hk0 : -9223372036854775808 ≤ kk) (hk1 : kk ≤ 9223372036854775807) (hy0 : -9223372036854775808 ≤ key) (hy1 : key ≤ 9223372036854775807) :
    Calls Tryd.prog 7 #[.agg #[.slice a len cap, .int .i64 ep, .int .i64 nw, .string ⟨jr.toArray⟩], .int .i64 kk, .int .i64 ee, .int .i64 key] w
      fun e w' => ∃ v, e = .returned (.tuple #[v, .int .i64 (returnedV (ts, ep, nw, jr) kk ee key).2]) ∧ DkOut w w' v (returnedV (ts, ep, nw, jr) kk ee key).1 := by
  obtain rfl : ts.length = len := hin.1
  obtain ⟨D, hD⟩ : ∃ D, w.heap.size = D := ⟨_, rfl⟩
  obtain ⟨W1, hW1⟩ : ∃ W, w.alloc (.cells #[.slice a ts.length cap, .int .i64 ep, .int .i64 nw, .string ⟨jr.toArray⟩] 28) = W := ⟨_, rfl⟩
  obtain ⟨W2, hW2⟩ : ∃ W, W1.alloc (.cells #[.slice none 0 0, .int .i64 0, .int .i64 0, .string ⟨#[]⟩] 28) = W := ⟨_, rfl⟩
  have hs1 : W1.heap.size = D + 1 := by rw [← hW1, ← hD]; simp
  have hs2 : W2.heap.size = D + 2 := by rw [← hW2]; simp [hs1]
  have hb1 : Below D w W1 := by rw [← hW1, ← hD]; exact (Below.refl _ _).alloc (Nat.le_refl _) _
  have hb12 : Below W1.heap.size W1 W2 := by rw [← hW2]; exact (Below.refl _ _).alloc (Nat.le_refl _) _
  have hb2 : Below D w W2 := hb1.trans (hb12.mono (by omega))
  have bD := B4.new w (.slice a ts.length cap) (.int .i64 ep) (.int .i64 nw) (.string ⟨jr.toArray⟩) 28
  rw [hW1, hD] at bD
  have bR := B4.new W1 (.slice none 0 0) (.int .i64 0) (.int .i64 0) (.string ⟨#[]⟩) 28
  rw [hW2, hs1] at bR
  have HD : Hid (∀ Z, Below W2.heap.size W2 Z → B4 Z D (.slice a ts.length cap) (.int .i64 ep) (.int .i64 nw) (.string ⟨jr.toArray⟩) ∧ B4 Z (D + 1) (.slice none 0 0) (.int .i64 0) (.int .i64 0) (.string ⟨#[]⟩) ∧ TasksOk Z a ts.length cap ts ∧ Below D w Z) := fun Z hz =>
    ⟨(bD.below hb12).below hz, bR.below hz, (hin.below (by rw [hD]; exact hb2)).below hz, hb2.trans (hz.mono (by omega))⟩
  have HK : Hid (_) := implDeskOk a ts.length cap ts ep nw jr W2 (hin.in.below (by rw [hD]; exact hb2)) hc hsh hlen
  have HCp : Hid (∀ Z, TasksOk Z a ts.length cap ts → _) := fun Z hz => implCopyD a ts.length cap ts ep nw jr Z hz hsh hlen hj
  have HV0 : Hid (deskB (ts, ep, nw, jr) = false → returnedV (ts, ep, nw, jr) kk ee key = (dk0, 3)) := fun h => by unfold returnedV; rw [h]; rfl
  have HV1 : Hid (deskB (ts, ep, nw, jr) = true → returnedV (ts, ep, nw, jr) kk ee key = ret18 (ts, ep, nw, jr) kk ee key) := fun h => by unfold returnedV; rw [if_pos h]
  have HVn : Hid (retCode (ts, ep, nw, jr) kk ee key ≠ 0 → ret18 (ts, ep, nw, jr) kk ee key = ((ts, ep, nw, jr), retCode (ts, ep, nw, jr) kk ee key)) := fun h => ret18_no rfl h
  have HVo : Hid (retCode (ts, ep, nw, jr) kk ee key = 0 → (0 ≤ kk ∧ kk < (ts.length : Int)) ∧ ret18 (ts, ep, nw, jr) kk ee key = ((ts.set kk.toNat (done18 (ts.getD kk.toNat ta0) key), ep, nw, jr ++ lineR kk key), 0)) := fun h => by
    refine ⟨?_, ret18_ok h⟩
    have hk : ¬ ((kk < 0 ∨ (ts.length : Int) ≤ kk) ∨ key18 key = false) := fun hb => by
      rw [ret_bad (d := (ts, ep, nw, jr)) hb] at h
      cases h
    omega
  have HP : Hid (deskB (ts, ep, nw, jr) = true → jr.length ≤ 60000) := fun h => (deskB_iff.1 h).j
  have HRc : Hid (deskB (ts, ep, nw, jr) = true → ∀ (Z : World), TasksIn Z a ts.length ts → PowIs Z → Calls Tryd.prog 18 #[.agg #[.slice a ts.length cap, .int .i64 ep, .int .i64 nw, .string ⟨jr.toArray⟩], .int .i64 kk, .int .i64 ee, .int .i64 key] Z fun e w' => e = .returned (.int .i64 (retCode (ts, ep, nw, jr) kk ee key)) ∧ Below Z.heap.size Z w') := fun h Z h1 h2 => implRetCode a ts.length cap ts ep nw jr kk ee key Z h1 hsh h h2 hk0 hk1 hy0 hy1
  have HPw : Hid (∀ Z, Below W2.heap.size W2 Z → PowIs Z) := fun Z hz => ht.below (by rw [hD]; exact hb2.trans (hz.mono (by omega)))
  obtain ⟨d0, d1, d2, d3⟩ : W2.cell? ⟨D, 0, none⟩ = some (.slice a ts.length cap) ∧ W2.cell? ⟨D, 1, none⟩ = some (.int .i64 ep) ∧ W2.cell? ⟨D, 2, none⟩ = some (.int .i64 nw) ∧ W2.cell? ⟨D, 3, none⟩ = some (.string ⟨jr.toArray⟩) := by
    have h := (HD.out W2 (Below.refl _ _)).1
    exact ⟨h.c0, h.c1, h.c2, h.c3⟩
  generalize returnedV (ts, ep, nw, jr) kk ee key = res at HV0 HV1 ⊢
  generalize ret18 (ts, ep, nw, jr) kk ee key = res2 at HV1 HVn HVo
  generalize retCode (ts, ep, nw, jr) kk ee key = cd at HVn HVo HRc
  generalize deskB (ts, ep, nw, jr) = b1 at HK HV0 HV1 HP HRc
  clear ht hin hsh bD bR hb1 hb12 hb2
  rcases b1 with _ | _
  · have HR : Hid (res = (dk0, 3)) := HV0.out rfl
    clear HV0 HV1 HVn HVo HP HRc HCp HPw
    go_enter Tryd.func7, Tryd.ntmps7
    go_wp2_with fail
    refine Calls.mono HK.out ?_
    rintro e w1 ⟨rfl, hb1⟩
    obtain ⟨_, br, _, hbD⟩ := HD.out w1 hb1
    have r0 := br.c0
    have r1 := br.c1
    have r2 := br.c2
    have r3 := br.c3
    have f0 := br.fr 0
    have f1 := br.fr 1
    have f2 := br.fr 2
    have f3 := br.fr 3
    have HBD : Hid (Below D w w1) := hbD
    clear hbD br hb1 d0 d1 d2 d3
    go_wp2
    obtain ⟨X, hX, y0, y1, y2, y3, hg⟩ := set4 (.slice none 0 0) (.int .i64 0) (.int .i64 0) (.string ⟨#[]⟩) r0 r1 r2 r3
    rw [hX]
    refine bodyPost_ret (v := .tuple #[.agg #[.slice none 0 0, .int .i64 0, .int .i64 0, .string ⟨#[]⟩], .int .i64 3]) (by simp [results, Tryd.results7, go_sem, y0, y1, y2, y3]) rfl ?_
    rw [HR.out]
    exact ⟨_, rfl, DkOut.zero (by rw [hD]; exact HBD.out.grown hg (by have := HBD.out.size; omega) (fun k e => by injection e with e; omega))⟩
  · have HR1 : Hid (res = res2) := HV1.out rfl
    have hj6 := HP.out rfl
    have HRc1 : Hid (_) := HRc.out rfl
    clear HV0 HV1 HP HRc
    go_enter Tryd.func7, Tryd.ntmps7
    go_wp2_with fail
    refine Calls.mono HK.out ?_
    rintro e w1 ⟨rfl, hb1⟩
    have HB1 : Hid (Below W2.heap.size W2 w1) := hb1
    clear d0 d1 d2 d3 hb1 HK
    obtain ⟨bd, _, hok1, _⟩ := HD.out w1 HB1.out
    have d0 := bd.c0
    have d1 := bd.c1
    have d2 := bd.c2
    have d3 := bd.c3
    have HOk : Hid (∀ Z, Below W2.heap.size W2 Z → TasksOk Z a ts.length cap ts) := fun Z hz => (HD.out Z hz).2.2.1
    have HB1d : Hid (Below W2.heap.size W2 w1.drew) := HB1.out.trans (by exact ⟨rfl, rfl, rfl, Nat.le_refl _, fun _ _ => rfl⟩)
    obtain ⟨base, hba⟩ : ∃ b, w1.heap.size = b := ⟨_, rfl⟩
    have hbW2 : W2.heap.size ≤ base := by rw [← hba]; exact HB1.out.size
    have HCpG : Hid (∀ Z, Below W2.heap.size W2 Z → _) := fun Z hz => HCp.out Z (HOk.out Z hz)
    have HRcG : Hid (∀ Z, Below W2.heap.size W2 Z → _) := fun Z hz => HRc1.out Z (HOk.out Z hz).in (HPw.out Z hz)
    have HDD : Hid (∀ Z, Below W2.heap.size W2 Z → B4 Z D (.slice a ts.length cap) (.int .i64 ep) (.int .i64 nw) (.string ⟨jr.toArray⟩)) := fun Z hz => (HD.out Z hz).1
    have bz0 := B4.new w1 (.slice none 0 0) (.int .i64 0) (.int .i64 0) (.string ⟨#[]⟩) 28
    obtain ⟨X8, hX8⟩ : ∃ X, w1.alloc (.cells #[.slice none 0 0, .int .i64 0, .int .i64 0, .string ⟨#[]⟩] 28) = X := ⟨_, rfl⟩
    have hb8 : Below w1.heap.size w1 X8 := by rw [← hX8]; exact (Below.refl _ _).alloc (Nat.le_refl _) _
    have hs8 : X8.heap.size = base + 1 := by rw [← hX8, ← hba]; simp
    rw [hX8, hba] at bz0
    have HZ8 : Hid (∀ Y, Below X8.heap.size X8 Y → B4 Y base (.slice none 0 0) (.int .i64 0) (.int .i64 0) (.string ⟨#[]⟩)) := fun Y hy => bz0.below hy
    have HB8 : Hid (Below W2.heap.size W2 X8) := HB1.out.trans (hb8.mono HB1.out.size)
    have HB8d : Hid (Below W2.heap.size W2 X8.drew) := HB8.out.trans (by exact ⟨rfl, rfl, rfl, Nat.le_refl _, fun _ _ => rfl⟩)
    have x80 := (HDD.out X8 HB8.out).c0
    have x81 := (HDD.out X8 HB8.out).c1
    have x82 := (HDD.out X8 HB8.out).c2
    have x83 := (HDD.out X8 HB8.out).c3
    clear bd hok1 HCp bz0 hb8 HRc1
    go_wp2_with fail
    go_cut [10, 11] from 16 to 22 (fun ov cv wx => ∃ (Q : Nat) (va : Option Addr) (vc : Nat) (xs : List TV), ov = .pointer (some ⟨Q, 0, none⟩) ∧ cv = .int .i64 cd ∧ Hid (Aft18 base W2 wx Q va vc xs ts ep nw jr))
    case first =>
      go_region_with (first
        | (go_at_call 17; refine Calls.mono (HCpG.out _ (by first | exact HB1d.out | exact HB8d.out)) ?_; rintro e w2 ⟨va, vc, xs, rfl, hx, ho, hap, hb2⟩; have HB2 : Hid (Below W2.heap.size W2 w2) := (by first | exact HB1d.out.trans (hb2.mono HB1d.out.size) | exact HB8d.out.trans (hb2.mono HB8d.out.size)); have HO2 : Hid (TksOwn w2 base (.slice va ts.length vc) xs ∧ xs.map (·.1) = ts ∧ ApartR (xs.map tvT) ∧ base ≤ w2.heap.size) := (by first | exact ⟨ho.base (Nat.le_of_eq hba.symm), hx, hap, Nat.le_trans (Nat.le_of_eq hba.symm) hb2.size⟩ | exact ⟨ho.base (by show base ≤ X8.heap.size; omega), hx, hap, Nat.le_trans (by show base ≤ X8.heap.size; omega) hb2.size⟩); (try (have bz := HZ8.out w2 (by exact ⟨hb2.os, hb2.tape, hb2.output, hb2.size, hb2.block⟩); have HNq : Hid (∀ k, TkBlocks (.slice va ts.length vc) xs k → k ≠ base) := (fun k hk e => (by have hlt : X8.heap.size ≤ k := (own_tkb ho hk).1; omega)))); have bn := B4.new w2 (.slice none 0 0) (.int .i64 0) (.int .i64 0) (.string ⟨#[]⟩) 28; obtain ⟨X2, hX2⟩ : ∃ X, w2.alloc (.cells #[.slice none 0 0, .int .i64 0, .int .i64 0, .string ⟨#[]⟩] 28) = X := ⟨_, rfl⟩; rw [hX2] at bn; obtain ⟨Q2, hQ2⟩ : ∃ q, w2.heap.size = q := ⟨_, rfl⟩; rw [hQ2] at bn; have hbX2 : Below w2.heap.size w2 X2 := (by rw [← hX2]; exact (Below.refl _ _).alloc (Nat.le_refl _) _); have HB2x : Hid (Below W2.heap.size W2 X2) := HB2.out.trans (hbX2.mono HB2.out.size); have HZ2 : Hid (∀ Y, Below X2.heap.size X2 Y → B4 Y Q2 (.slice none 0 0) (.int .i64 0) (.int .i64 0) (.string ⟨#[]⟩)) := (fun Y hy => bn.below hy); have HO2x : Hid (TksOwn X2 base (.slice va ts.length vc) xs ∧ (∀ k, TkBlocks (.slice va ts.length vc) xs k → k ≠ Q2)) := ⟨HO2.out.1.below hbX2, fun k hk e => (by have hlt := (own_tkb HO2.out.1 hk).2; omega)⟩; clear d0 d1 d2 d3 hb2 ho hx hap bn hbX2; have d0 := (HDD.out w2 HB2.out).c0; have d1 := (HDD.out w2 HB2.out).c1; have d2 := (HDD.out w2 HB2.out).c2; have d3 := (HDD.out w2 HB2.out).c3; have x20 := (HDD.out X2 HB2x.out).c0; have x21 := (HDD.out X2 HB2x.out).c1; have x22 := (HDD.out X2 HB2x.out).c2; have x23 := (HDD.out X2 HB2x.out).c3)
        | (go_at_call 18; refine Calls.mono (HRcG.out _ (by first | exact HB2.out | exact HB2x.out)) ?_; rintro e w3 ⟨rfl, hb3⟩; have HB3 : Hid (Below W2.heap.size W2 w3) := (by first | exact HB2.out.trans (hb3.mono HB2.out.size) | exact HB2x.out.trans (hb3.mono HB2x.out.size)); have HO3 : Hid (TksOwn w3 base (.slice va ts.length vc) xs) := (by first | exact HO2.out.1.below hb3 | exact HO2x.out.1.below hb3); have HS3 : Hid (base ≤ w3.heap.size) := (by first | exact Nat.le_trans HO2.out.2.2.2 hb3.size | exact Nat.le_trans HO2.out.2.2.2 (Nat.le_trans (by rw [← hX2]; simp) hb3.size)); first | (have bq := bz.below hb3; have HA : Hid (_) := aft_set (ep := ep) (nw := nw) (jr := jr) bq HO3.out HO2.out.2.1 HO2.out.2.2.1 HNq.out (Nat.le_refl _) hbW2 HB3.out; have z0 := bq.c0; have z1 := bq.c1; have z2 := bq.c2; have z3 := bq.c3; have zf0 := bq.fr 0; have zf1 := bq.fr 1; have zf2 := bq.fr 2; have zf3 := bq.fr 3; clear hb3 bz bq) | (have bq := HZ2.out w3 hb3; have HA : Hid (_) := aft_set (ep := ep) (nw := nw) (jr := jr) bq HO3.out HO2.out.2.1 HO2.out.2.2.1 HO2x.out.2 (by rw [← hQ2]; exact HO2.out.2.2.2) (by rw [← hQ2]; exact HB2.out.size) HB3.out; have z0 := bq.c0; have z1 := bq.c1; have z2 := bq.c2; have z3 := bq.c3; have zf0 := bq.fr 0; have zf1 := bq.fr 1; have zf2 := bq.fr 2; have zf3 := bq.fr 3; clear hb3 bq) | (have HA : Hid (_) := aft_new (ep := ep) (nw := nw) (jr := jr) HO3.out HO2.out.2.1 HO2.out.2.2.1 HS3.out HB3.out; clear hb3)))
      all_goals
        go_wp2_with fail
        go_meet
        case rel => exact ⟨_, va, vc, xs, rfl, rfl, HA⟩
    case rest =>
      obtain ⟨Q, va, vc, xs, rfl, rfl, HA⟩ := hcut
      clear d0 d1 d2 d3 x80 x81 x82 x83 HCpG HRcG HDD HZ8 HB8 HB8d hX8 hs8
      obtain ⟨w4, hw4⟩ : ∃ W, wc = W := ⟨_, rfl⟩
      rw [hw4] at HA ⊢
      have HBQ : Hid (B4 w4 Q (.slice va ts.length vc) (.int .i64 ep) (.int .i64 nw) (.string ⟨jr.toArray⟩)) := HA.out.b
      have HO3 : Hid (TksOwn w4 base (.slice va ts.length vc) xs ∧ xs.map (·.1) = ts ∧ ApartR (xs.map tvT)) := ⟨HA.out.o, HA.out.x, HA.out.a⟩
      have HB4 : Hid (Below W2.heap.size W2 w4) := HA.out.h
      have hQl : base ≤ Q := HA.out.q
      have hs4 : base ≤ w4.heap.size := Nat.le_trans hQl (Nat.le_of_lt HA.out.b.lt)
      rcases Int.decEq cd 0 with hc0 | hc0
      · have HR : Hid (res2 = _) := HVn.out hc0
        have hcb : (cd == 0) = false := beq_eq_false_iff_ne.2 hc0
        clear HVn HVo
        obtain ⟨_, br, _, hbD⟩ := HD.out w4 HB4.out
        have q0 := HBQ.out.c0
        have q1 := HBQ.out.c1
        have q2 := HBQ.out.c2
        have q3 := HBQ.out.c3
        have r0 := br.c0
        have r1 := br.c1
        have r2 := br.c2
        have r3 := br.c3
        have f0 := br.fr 0
        have f1 := br.fr 1
        have f2 := br.fr 2
        have f3 := br.fr 3
        have HBD : Hid (Below D w w4) := hbD
        clear hbD br
        go_wp2
        obtain ⟨X, hX, y0, y1, y2, y3, hg⟩ := set4 (.slice va ts.length vc) (.int .i64 ep) (.int .i64 nw) (.string ⟨jr.toArray⟩) r0 r1 r2 r3
        rw [hX]
        refine bodyPost_ret (v := .tuple #[.agg #[.slice va ts.length vc, .int .i64 ep, .int .i64 nw, .string ⟨jr.toArray⟩], .int .i64 cd]) (by simp [results, Tryd.results7, go_sem, y0, y1, y2, y3]) rfl ?_
        rw [HR1.out, HR.out]
        have hw2 : W2.heap.size ≤ base := hbW2
        have hk := HO3.out.1.kept hg (own_offR HO3.out.1.row (by omega)) (fun y hy => own_offR (HO3.out.1.trees y hy) (by omega))
        exact ⟨_, rfl, va, vc, xs, rfl, HO3.out.2.1, hk.base (by omega), HO3.out.2.2, by rw [hD]; exact HBD.out.grown hg (by have := HBD.out.size; omega) (fun k e => by injection e with e; omega)⟩
      · subst hc0
        obtain ⟨hkb, hR⟩ := HVo.out rfl
        have HR : Hid (res2 = _) := hR
        obtain ⟨i, rfl⟩ : ∃ i : Nat, kk = (i : Int) := ⟨kk.toNat, by omega⟩
        rw [Int.toNat_natCast] at HR
        have hw2 : W2.heap.size ≤ base := hbW2
        have HWd : Hid (_) := implWriteDown Q base va vc xs ts ep nw jr i key w4 HBQ.out HO3.out.1 HO3.out.2.1 HO3.out.2.2 HA.out.n hs4 hQl (by omega) hlen hj6 (fun Z hz => HPw.out Z (HB4.out.trans (hz.mono hw2))) hy0 hy1
        clear HVn HVo hR
        go_wp2_with fail
        refine Calls.mono HWd.out ?_
        rintro e w5 ⟨rfl, xs5, hx5, ho5, hap5, bQ5, hb5⟩
        have HB5 : Hid (Below W2.heap.size W2 w5) := HB4.out.trans (hb5.mono hw2)
        have q0 := bQ5.c0
        have q1 := bQ5.c1
        have q2 := bQ5.c2
        have q3 := bQ5.c3
        obtain ⟨_, br, _, hbD⟩ := HD.out w5 HB5.out
        have r0 := br.c0
        have r1 := br.c1
        have r2 := br.c2
        have r3 := br.c3
        have f0 := br.fr 0
        have f1 := br.fr 1
        have f2 := br.fr 2
        have f3 := br.fr 3
        have HBD : Hid (Below D w w5) := hbD
        have HO5 : Hid (TksOwn w5 base (.slice va ts.length vc) xs5 ∧ xs5.map (·.1) = ts.set i (done18 (ts.getD i ta0) key) ∧ ApartR (xs5.map tvT)) := ⟨ho5, hx5, hap5⟩
        clear hbD br bQ5 ho5 hx5 hap5 hb5 HWd
        go_wp2
        obtain ⟨X, hX, y0, y1, y2, y3, hg⟩ := set4 (.slice va ts.length vc) (.int .i64 ep) (.int .i64 nw) (.string ⟨(jr ++ lineR (i : Int) key).toArray⟩) r0 r1 r2 r3
        rw [hX]
        refine bodyPost_ret (v := .tuple #[.agg #[.slice va ts.length vc, .int .i64 ep, .int .i64 nw, .string ⟨(jr ++ lineR (i : Int) key).toArray⟩], .int .i64 0]) (by simp [results, Tryd.results7, go_sem, y0, y1, y2, y3]) rfl ?_
        rw [HR1.out, HR.out]
        have hk := HO5.out.1.kept hg (own_offR HO5.out.1.row (by omega)) (fun y hy => own_offR (HO5.out.1.trees y hy) (by omega))
        exact ⟨_, rfl, va, vc, xs5, by simp only [List.length_set], HO5.out.2.1, by simp only [List.length_set]; exact hk.base (by omega), HO5.out.2.2, by rw [hD]; exact HBD.out.grown hg (by have := HBD.out.size; omega) (fun k e => by injection e with e; omega)⟩

end Go.Proofs.YtglhbcbilepomaaDoor
