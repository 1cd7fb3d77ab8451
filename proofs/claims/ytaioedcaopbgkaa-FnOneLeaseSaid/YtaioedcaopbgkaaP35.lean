/-
  Parts of one proof, one behind the other: LendJ.
-/
import Derived.Test.YtaioedcaopbgkaaP34
import Derived.Test.YtaioedcaopbgkaaP20
import Derived.Deep.RegionHeld3

/-! The contracts of chapter 18's landed code: needsDone, firstToLend, asLeased, Lent. -/
namespace Go.Proofs.Ytaioedcaopbgkaa
open Go.RowKit

set_option maxHeartbeats 2000000 in
set_option maxRecDepth 100000 in
theorem implNeedsDone (a na : Option Addr) (len cap nc : Nat) (ts : List Ta) (ns : List Int) (w : World) (hin : TasksIn w a len ts) (hns : AsIn w na ns) (hnl : ns.length ≤ 1048576) (hlen : len ≤ 1048576) (hnd : ∀ q, q < ns.length → 0 ≤ ns.getD q 0 ∧ ns.getD q 0 < len) :
 Calls Try.prog 35 #[.slice a len cap, .slice na ns.length nc] w fun e w' => e = .returned (.bool (decide (∀ i, i < ns.length → (ts.getD (ns.getD i 0).toNat ta0).2.2.1 = 2))) ∧ w' = w := by
 obtain rfl : ts.length = len := hin.1
 have HI : Hid (TasksIn w a ts.length ts) := hin
 have HM : Hid (AsIn w na ns) := hns
 have HD : Hid (∀ q, q < ns.length → 0 ≤ ns.getD q 0 ∧ ns.getD q 0 < ts.length) := hnd
 have HN : Hid (∀ i, i < ns.length → (ts.getD (ns.getD i 0).toNat ta0).2.2.1 ≠ 2 → decide (∀ i, i < ns.length → (ts.getD (ns.getD i 0).toNat ta0).2.2.1 = 2) = false) := fun i hi h => decide_eq_false (fun e => h (e i hi))
 have HY : Hid ((∀ i, i < ns.length → (ts.getD (ns.getD i 0).toNat ta0).2.2.1 = 2) → decide (∀ i, i < ns.length → (ts.getD (ns.getD i 0).toNat ta0).2.2.1 = 2) = true) := fun h => decide_eq_true h
 generalize decide (∀ i, i < ns.length → (ts.getD (ns.getD i 0).toNat ta0).2.2.1 = 2) = res at HN HY ⊢
 clear hin hns hnd
 go_enter Try.func35, Try.ntmps35
 go_wp2
 go_loopw [9] (fun iv wr => ∃ i : Nat, iv = .int .i64 (i : Int) ∧ i ≤ ns.length ∧ Hid (∀ q, q < i → (ts.getD (ns.getD q 0).toNat ta0).2.2.1 = 2) ∧ wr = w) (fun iv _ => ns.length - (intOf iv).toNat)
 case atStart => exact ⟨0, rfl, Nat.zero_le _, (fun q hq => absurd hq (Nat.not_lt_zero _)), rfl⟩
 case round =>
  obtain ⟨i, rfl, hi, HA, hwr⟩ := hrel
  obtain rfl := hwr.symm
  by_cases hlt : (i : Int) < (ns.length : Int)
  ·
   obtain ⟨nb, no, rfl, _, d0⟩ := HM.out i (by omega)
   obtain ⟨h0, h1⟩ := HD.out i (by omega)
   have HNi : Hid (_) := HN.out i (by omega)
   obtain ⟨y, hy⟩ : ∃ y, ns.getD i 0 = y := ⟨_, rfl⟩
   rw [hy] at d0 h0 h1 HNi
   obtain ⟨m, rfl⟩ : ∃ m : Nat, y = (m : Int) := ⟨y.toNat, by omega⟩
   obtain ⟨b, off, rfl, hbl, _, _, c2, _⟩ := HI.out.2 m (by omega)
   rw [Int.toNat_natCast] at HNi
   obtain ⟨x, hx⟩ : ∃ x, (ts.getD m ta0).2.2.1 = x := ⟨_, rfl⟩
   rw [hx] at c2 HNi
   by_cases h2 : x = 2
   ·
    have HR : Hid (∀ q, q < i + 1 → (ts.getD (ns.getD q 0).toNat ta0).2.2.1 = 2) := fun q hq => by
     rcases Nat.lt_or_ge q i with g | g
     ·
      exact HA.out q g
     ·
      obtain rfl : q = i := by omega
      rw [hy, Int.toNat_natCast, hx]; exact h2
    clear HA hx hy HNi
    subst h2
    go_wp2
    go_roundw
    case rel => exact ⟨i + 1, by go_num, by omega, HR, trivial⟩
    case measure => simp [intOf]; omega
   ·
    have HF : Hid (res = false) := HNi.out h2
    have hxb : (x != 2) = true := by simp [h2]
    clear HA hx hy HN HY HNi
    go_wp2
    go_ret
    exact ⟨by rw [HF.out]; rfl, rfl⟩
  ·
   have HF : Hid (res = true) := HY.out (fun q hq => HA.out q (by omega))
   clear HA HN HY
   go_wp2
   go_ret
   exact ⟨by rw [HF.out]; rfl, rfl⟩

def firstV (d : Dk) : Int := match lendAt d with | some i => (i : Int) | none => -1
set_option maxHeartbeats 4000000 in
set_option maxRecDepth 100000 in
theorem implFirst (a : Option Addr) (len cap : Nat) (ts : List Ta) (ep nw : Int) (jr : List UInt8) (w : World) (hin : TasksIn w a len ts) (hsh : ShortTa ts) (hd : deskB (ts, ep, nw, jr) = true) :
 Calls Try.prog 17 #[.agg #[.slice a len cap, .int .i64 ep, .int .i64 nw, .string ⟨jr.toArray⟩]] w fun e w' => e = .returned (.int .i64 (firstV (ts, ep, nw, jr))) ∧ Below w.heap.size w w' := by
 obtain rfl : ts.length = len := hin.1
 have hP := deskB_iff.1 hd
 have hn8 := hP.n
 simp only at hn8
 have hln : ts.length ≤ 1048576 := by omega
 obtain ⟨W, hW⟩ : ∃ W, w.alloc (.cells #[.slice a ts.length cap, .int .i64 ep, .int .i64 nw, .string ⟨jr.toArray⟩] 26) = W := ⟨_, rfl⟩
 have hbW : Below w.heap.size w W := by rw [← hW]; exact (Below.refl _ _).alloc (Nat.le_refl _) _
 have bD := B4.new w (.slice a ts.length cap) (.int .i64 ep) (.int .i64 nw) (.string ⟨jr.toArray⟩) 26
 rw [hW] at bD
 have HB : Hid (∀ Z, Below W.heap.size W Z → Below w.heap.size w Z) := fun Z hz => hbW.trans (hz.mono hbW.size)
 obtain ⟨D, hD⟩ : ∃ D, w.heap.size = D := ⟨_, rfl⟩
 have hsW : W.heap.size = D + 1 := by rw [← hW, ← hD]; simp
 rw [hD] at bD
 have HK : Hid (∀ Z, Below W.heap.size W Z → B4 Z D (.slice a ts.length cap) (.int .i64 ep) (.int .i64 nw) (.string ⟨jr.toArray⟩) ∧ TasksIn Z a ts.length ts) := fun Z hz => ⟨bD.below hz, (hin.below hbW).below hz⟩
 have HS : Hid (ShortTa ts) := hsh
 have HNe : Hid (∀ p, p < ts.length → _) := fun p hp => needs_of hP (p := p) hp
 have HSts : Hid (∀ p, p < ts.length → (ts.getD p ta0).2.2.1 ≠ 0 → (ts.getD p ta0).2.2.1 ≠ 2 → (ts.getD p ta0).2.2.1 = 1) := fun p hp h0 h2 => by
  obtain ⟨_, h, _⟩ := hP.one p hp
  unfold taskB stateB at h
  rw [Bool.and_eq_true] at h
  have h := h.2
  simp only at h
  rw [if_neg h0] at h
  by_cases h1 : (ts.getD p ta0).2.2.1 = 1
  ·
   exact h1
  ·
   rw [if_neg h1, if_neg h2] at h
   cases h
 have HV : Hid (∀ i, i < ts.length → can18 (ts, ep, nw, jr) i → (∀ q, q < i → ¬ can18 (ts, ep, nw, jr) q) → firstV (ts, ep, nw, jr) = (i : Int)) := fun i hi hc hq => by
  have e : lendAt (ts, ep, nw, jr) = some i := lendGo_to (Nat.zero_le _) (by simpa using hi) hc (fun q _ h2 => hq q h2)
  unfold firstV; rw [e]
 have HVn : Hid ((∀ q, q < ts.length → ¬ can18 (ts, ep, nw, jr) q) → firstV (ts, ep, nw, jr) = -1) := fun hq => by
  have e : lendAt (ts, ep, nw, jr) = none := lendGo_to_none (fun q _ h2 => hq q (by simpa using h2))
  unfold firstV; rw [e]
 generalize firstV (ts, ep, nw, jr) = res at HV HVn ⊢
 have HB0 : Hid (Below W.heap.size W W) := Below.refl _ _
 have d0 := bD.c0
 clear hin hsh hd hP bD hbW
 go_enter Try.func17, Try.ntmps17
 go_wp2
 go_step3
 go_wp2
 go_step3
 go_wp2
 go_loopw [3, 9] (fun rv iv wr => ∃ i : Nat, iv = .int .i64 (i : Int) ∧ rv = .int .i64 (-1) ∧ i ≤ ts.length ∧ Hid (∀ q, q < i → ¬ can18 (ts, ep, nw, jr) q) ∧ Hid (Below W.heap.size W wr)) (fun _ iv _ => ts.length - (intOf iv).toNat)
 case atStart => exact ⟨0, rfl, rfl, Nat.zero_le _, (fun q hq => absurd hq (Nat.not_lt_zero _)), HB0⟩
 case round =>
  obtain ⟨i, rfl, rfl, hi, HA, HBr⟩ := hrel
  clear HB0 d0
  by_cases hlt : (i : Int) < (ts.length : Int)
  rotate_left
  ·
   have HR : Hid (res = -1) := HVn.out (fun q hq => HA.out q (by omega))
   clear HV HVn HA
   go_wp2
   (try rw [Exit.noGoto_ret])
   go_ret
   exact ⟨by rw [HR.out]; rfl, HB.out _ HBr.out⟩
  have hi2 : i < ts.length := by omega
  have hin := (HK.out wr HBr.out).2
  have hsi := (HS.out i).2
  have HCan : Hid (can18 (ts, ep, nw, jr) i ↔ (ts.getD i ta0).2.2.1 ≠ 2 ∧ decide (∀ q, q < (ts.getD i ta0).2.1.length → (ts.getD ((ts.getD i ta0).2.1.getD q 0).toNat ta0).2.2.1 = 2) = true ∧ ¬ ((ts.getD i ta0).2.2.1 = 1 ∧ nw < (ts.getD i ta0).2.2.2.2.1)) := Iff.rfl
  have hnd := HNe.out i hi2
  (try simp only at hnd)
  have hst := (HSts.out i hi2)
  have HNext : Hid (¬ can18 (ts, ep, nw, jr) i → ∀ q, q < i + 1 → ¬ can18 (ts, ep, nw, jr) q) := fun h q hq => by
   rcases Nat.lt_or_ge q i with k | k
   ·
    exact HA.out q k
   ·
    obtain rfl : q = i := by omega
    exact h
  have HSome : Hid (_) := fun h => HV.out i hi2 h HA.out
  obtain ⟨b, off, e, hbl, c0, ⟨na, nc, c1, hn1⟩, c2, c3, c4, c5⟩ := hin.2 i hi2
  obtain ⟨x, hx⟩ : ∃ x, ts.getD i ta0 = x := ⟨_, rfl⟩
  rw [hx] at c0 c1 c2 c3 c4 c5 hn1 hsi HCan hnd hst
  obtain ⟨nm, ns, st, wk, un, ke⟩ := x
  simp only at c0 c1 c2 c3 c4 c5 hn1 hsi HCan hnd
  subst e
  obtain ⟨Y, hY⟩ : ∃ Y, wr.alloc (.cells #[.string ⟨nm.toArray⟩, .slice na ns.length nc, .int .i64 st, .int .i64 wk, .int .i64 un, .int .i64 ke] 46) = Y := ⟨_, rfl⟩
  have hbY : Below wr.heap.size wr Y := by rw [← hY]; exact (Below.refl _ _).alloc (Nat.le_refl _) _
  have bE := B6.new wr (.string ⟨nm.toArray⟩) (.slice na ns.length nc) (.int .i64 st) (.int .i64 wk) (.int .i64 un) (.int .i64 ke) 46
  rw [hY] at bE
  have HBY : Hid (Below W.heap.size W Y) := HBr.out.trans (hbY.mono HBr.out.size)
  have HN : Hid (_) := implNeedsDone (some ⟨b, off, none⟩) na ts.length cap nc ts ns Y (HK.out Y HBY.out).2 (hn1.below hbY) hsi hln hnd
  obtain ⟨E, hE⟩ : ∃ E, wr.heap.size = E := ⟨_, rfl⟩
  rw [hE] at bE
  have y0 := bE.c0
  have y1 := bE.c1
  have y2 := bE.c2
  have y4 := bE.c4
  have bD := (HK.out Y HBY.out).1
  have d0 := bD.c0
  have d2 := bD.c2
  have dr := (HK.out wr HBr.out).1.c0
  generalize decide (∀ q, q < ns.length → (ts.getD (ns.getD q 0).toNat ta0).2.2.1 = 2) = fr at HN HCan
  have HSt : Hid (st ≠ 0 → st ≠ 2 → st = 1) := hst
  clear hin hx hn1 hnd hst bE bD HA HV HVn hbY
  by_cases h2 : st = 2
  ·
   have HNx : Hid (_) := HNext.out (fun h => (HCan.out.1 h).1 h2)
   subst h2
   clear HNext HSome HCan HN
   go_wp2
   go_roundw
   case rel => exact ⟨i + 1, by go_num, rfl, by omega, HNx, HBY⟩
   case measure => simp [intOf]; omega
  have h2b : (st == 2) = false := beq_eq_false_iff_ne.2 h2
  rcases fr with _ | _
  ·
   have HNx : Hid (_) := HNext.out (fun h => by cases (HCan.out.1 h).2.1)
   clear HNext HSome HCan
   go_wp2_with (go_at_call 35; refine Calls.mono HN.out ?_; rintro e wn ⟨rfl, rfl⟩)
   go_roundw
   case rel => exact ⟨i + 1, by go_num, rfl, by omega, HNx, HBY⟩
   case measure => simp [intOf]; omega
  by_cases h0 : st = 0
  ·
   subst h0
   have HR : Hid (_) := HSome.out (HCan.out.2 ⟨h2, rfl, fun h => by omega⟩)
   clear HNext HSome HCan
   go_wp2_with (go_at_call 35; refine Calls.mono HN.out ?_; rintro e wn ⟨rfl, rfl⟩)
   (try rw [Exit.noGoto_ret])
   go_ret
   exact ⟨by rw [HR.out]; rfl, HB.out _ HBY.out⟩
  have h0b : (st == 0) = false := beq_eq_false_iff_ne.2 h0
  obtain rfl : st = 1 := HSt.out h0 h2
  by_cases hu : un ≤ nw
  ·
   have HR : Hid (_) := HSome.out (HCan.out.2 ⟨h2, rfl, fun h => by omega⟩)
   clear HNext HSome HCan
   go_wp2_with (go_at_call 35; refine Calls.mono HN.out ?_; rintro e wn ⟨rfl, rfl⟩)
   (try rw [Exit.noGoto_ret])
   go_ret
   exact ⟨by rw [HR.out]; rfl, HB.out _ HBY.out⟩
  ·
   have HNx : Hid (_) := HNext.out (fun h => (HCan.out.1 h).2.2 ⟨rfl, by omega⟩)
   clear HNext HSome HCan
   go_wp2_with (go_at_call 35; refine Calls.mono HN.out ?_; rintro e wn ⟨rfl, rfl⟩)
   go_roundw
   case rel => exact ⟨i + 1, by go_num, rfl, by omega, HNx, HBY⟩
   case measure => simp [intOf]; omega

set_option maxHeartbeats 1000000 in
set_option maxRecDepth 100000 in
theorem implAsLeased (nm : List UInt8) (na : Option Addr) (nl nc : Nat) (st wk un ke w2 u2 : Int) (w : World) :
 Calls Try.prog 18 #[.agg #[.string ⟨nm.toArray⟩, .slice na nl nc, .int .i64 st, .int .i64 wk, .int .i64 un, .int .i64 ke], .int .i64 w2, .int .i64 u2] w fun e w' => e = .returned (.agg #[.string ⟨nm.toArray⟩, .slice na nl nc, .int .i64 1, .int .i64 w2, .int .i64 u2, .int .i64 0]) ∧ Below w.heap.size w w' := by
 obtain ⟨D, hD⟩ : ∃ D, w.heap.size = D := ⟨_, rfl⟩
 obtain ⟨W1, hW1⟩ : ∃ W, w.alloc (.cells #[.string ⟨nm.toArray⟩, .slice na nl nc, .int .i64 st, .int .i64 wk, .int .i64 un, .int .i64 ke] 46) = W := ⟨_, rfl⟩
 obtain ⟨W2, hW2⟩ : ∃ W, W1.alloc (.cells #[.string ⟨#[]⟩, .slice none 0 0, .int .i64 0, .int .i64 0, .int .i64 0, .int .i64 0] 46) = W := ⟨_, rfl⟩
 have hs1 : W1.heap.size = D + 1 := by rw [← hW1, ← hD]; simp
 have hb1 : Below D w W1 := by rw [← hW1, ← hD]; exact (Below.refl _ _).alloc (Nat.le_refl _) _
 have hb12 : Below W1.heap.size W1 W2 := by rw [← hW2]; exact (Below.refl _ _).alloc (Nat.le_refl _) _
 have HB : Hid (Below D w W2) := hb1.trans (hb12.mono (by omega))
 have bD := B6.new w (.string ⟨nm.toArray⟩) (.slice na nl nc) (.int .i64 st) (.int .i64 wk) (.int .i64 un) (.int .i64 ke) 46
 rw [hW1, hD] at bD
 have bR := B6.new W1 (.string ⟨#[]⟩) (.slice none 0 0) (.int .i64 0) (.int .i64 0) (.int .i64 0) (.int .i64 0) 46
 rw [hW2, hs1] at bR
 have bD2 := bD.below hb12
 have d0 := bD2.c0
 have d1 := bD2.c1
 have r0 := bR.c0
 have r1 := bR.c1
 have r2 := bR.c2
 have r3 := bR.c3
 have r4 := bR.c4
 have r5 := bR.c5
 have f0 := bR.fr 0
 have f1 := bR.fr 1
 have f2 := bR.fr 2
 have f3 := bR.fr 3
 have f4 := bR.fr 4
 have f5 := bR.fr 5
 obtain ⟨X, hX, y0, y1, y2, y3, y4, y5, hg⟩ := set6 (.string ⟨nm.toArray⟩) (.slice na nl nc) (.int .i64 1) (.int .i64 w2) (.int .i64 u2) (.int .i64 0) r0 r1 r2 r3 r4 r5
 have HG : Hid (W2.grownBy X (some (D + 1)) ∧ D + 1 ≤ W2.heap.size) := ⟨hg, by have := bR.lt; omega⟩
 clear bD bR bD2 hb1 hb12 hg
 go_enter Try.func18, Try.ntmps18
 go_wp2
 refine bodyPost_ret (v := .agg #[.string ⟨nm.toArray⟩, .slice na nl nc, .int .i64 1, .int .i64 w2, .int .i64 u2, .int .i64 0]) (by simp [results, Try.results18, go_sem, y0, y1, y2, y3, y4, y5]) rfl ?_
 exact ⟨rfl, by rw [hD]; exact HB.out.grown HG.out.1 (by have := HG.out.2; omega) (fun k e => by injection e with e; omega)⟩


end Go.Proofs.Ytaioedcaopbgkaa
