/-
  Parts of one proof, one behind the other: NewK, TkE, TkIn, TkM.
-/
import Derived.Test.YtaidhjjpdkkmcaaGreatDoorP36
import Derived.Test.YtaidhjjpdkkmcaaGreatDoorP34
import Derived.Test.YtaidhjjpdkkmcaaGreatDoorP35
import Derived.Test.YtaidhjjpdkkmcaaGreatDoorP31
import Derived.Deep.RegionHeld3
import Derived.Test.YtaidhjjpdkkmcaaGreatDoorP29
import Derived.SliceStrings
import Derived.WalkKit
import Derived.ProofKit
import Derived.OpenShut
import Derived.ShutString
import Derived.ChangeOld
import Derived.Below
import Derived.Lib.SmallJoins
import Derived.Deep.SlicePairs
import Derived.Test.YtaidhjjpdkkmcaaGreatDoorP11
import Derived.Deep.RegionWith

/-! The contracts of chapter 18's landed code: Reborn of the empty journal, NewDesk. -/
namespace Go.Proofs.YtaidhjjpdkkmcaaGreatDoor
open Go.RowKit

theorem own_cap18 {w : World} {base e size n c : Nat} {a : Option Addr} {xs : List Value} (h : w.ownsRow base e size (.slice a n c) n xs) : n ≤ c := by
 rcases h.2 with ⟨h', h0, _⟩ | ⟨g, cp, cur, h', _, _, hnc, _⟩
 ·
  omega
 ·
  injection h' with _ _ h3
  omega
theorem new18_short (ps : List Pk) : ShortTa (newV ps).1.1 := by
 by_cases h0 : (faultV ps).1 = 0
 ·
  rw [show newV ps = ((tasks18 ps, 1, 0, startL 1), true) from if_pos h0]
  have hd := deskB_iff.1 (new18_ok h0)
  intro j
  show ((tasks18 ps).getD j ta0).1.length ≤ 1048576 ∧ ((tasks18 ps).getD j ta0).2.1.length ≤ 1048576
  by_cases hj : j < (tasks18 ps).length
  ·
   have h1 := (name_letters (hd.one j hj).1).1.2
   have hl : (tasks18 ps).length = (parts18 ps).length := by unfold tasks18; simp
   have h8 := (parts18_len (clean18_of h0)).2
   refine ⟨Nat.le_trans h1 (by decide), ?_⟩
   rw [tasks18_at (by omega)]
   exact Nat.le_trans (nums18_len _ _ _) (by omega)
  ·
   rw [List.getD_eq_getElem?_getD, List.getElem?_eq_none (by omega)]
   simp [ta0]
 ·
  rw [show newV ps = (dk0, false) from if_neg h0]
  intro j
  simp [dk0, ta0]
theorem new18_desk (ps : List Pk) : deskB ((newV ps).1.1, 1, 0, startL 1) = (newV ps).2 := by
 by_cases h0 : (faultV ps).1 = 0
 ·
  rw [show newV ps = ((tasks18 ps, 1, 0, startL 1), true) from if_pos h0]
  exact new18_ok h0
 ·
  rw [show newV ps = (dk0, false) from if_neg h0]
  rcases hb : deskB (dk0.1, 1, 0, startL 1) with _ | _
  ·
   rfl
  ·
   have := (deskB_iff.1 hb).n.1
   simp [dk0] at this
theorem new18_yes {ps : List Pk} (h : (newV ps).2 = true) : (newV ps).1 = ((newV ps).1.1, 1, 0, startL 1) := by
 by_cases h0 : (faultV ps).1 = 0
 ·
  rw [show newV ps = ((tasks18 ps, 1, 0, startL 1), true) from if_pos h0]
 ·
  rw [show newV ps = (dk0, false) from if_neg h0] at h
  cases h
theorem new18_no {ps : List Pk} (h : (newV ps).2 = false) : (newV ps).1 = dk0 := by
 by_cases h0 : (faultV ps).1 = 0
 ·
  rw [show newV ps = ((tasks18 ps, 1, 0, startL 1), true) from if_pos h0] at h
  cases h
 ·
  rw [show newV ps = (dk0, false) from if_neg h0]

end Go.Proofs.YtaidhjjpdkkmcaaGreatDoor

/-! The laws' own helpers over tasks: eqInt64S at numbers that can be read, eqTask, eqTaskS, eqDesk. -/
namespace Go.Proofs.YtaidhjjpdkkmcaaGreatDoor
open Go.RowKit

set_option maxHeartbeats 1000000 in
set_option maxRecDepth 100000 in
theorem eqAsC (a b : Option Addr) (ca cb : Nat) (ls : List Int) (w : World) (hn : ls.length ≤ 4194304) (ha : AsIn w a ls) (hb : AsIn w b ls) :
 Calls Tryz.prog 98 #[.slice a ls.length ca, .slice b ls.length cb] w fun e w' => e = .returned (.bool true) ∧ Below w.heap.size w w' := by
 have hself : ∀ n : Int, (n != n) = false := by simp
 have HA : Hid (AsIn w a ls) := ha
 have HB : Hid (AsIn w b ls) := hb
 clear ha hb
 go_enter Tryz.func98, Tryz.ntmps98
 go_wp2
 go_loopw [5] (fun i wr => ∃ k : Nat, k ≤ ls.length ∧ i = .int .i64 k ∧ Below w.heap.size w wr) (fun i _ => ls.length - (intOf i).toNat)
 case atStart => exact ⟨0, Nat.zero_le _, rfl, Below.refl _ _⟩
 case round =>
  obtain ⟨k, hk, rfl, hg⟩ := hrel
  by_cases hlt : (k : Int) < (ls.length : Int)
  ·
   obtain ⟨b1, o1, rfl, hb1, hca⟩ := (HA.out.below hg) k (by omega)
   obtain ⟨b2, o2, rfl, hb2, hcb⟩ := (HB.out.below hg) k (by omega)
   obtain ⟨t, ht⟩ : ∃ t, ls.getD k 0 = t := ⟨_, rfl⟩
   rw [ht] at hca hcb
   clear ht
   go_wp2
   go_region
   all_goals (try go_wp2)
   go_roundw
   case rel => exact ⟨k + 1, by omega, by go_num, hg.trans ⟨rfl, rfl, rfl, Nat.le_refl _, fun _ _ => rfl⟩⟩
   case measure => simp [intOf]; omega
  ·
   go_wp2
   go_ret
   exact ⟨rfl, hg⟩

set_option maxHeartbeats 1000000 in
set_option maxRecDepth 100000 in
theorem eqTaskC (s : List UInt8) (ns : List Int) (na nb : Option Addr) (ca cb : Nat) (st wk un ke : Int) (w : World) (ha : AsIn w na ns) (hb : AsIn w nb ns) (hlen : ns.length ≤ 4194304) :
 Calls Tryz.prog 65 #[.agg #[.string ⟨s.toArray⟩, .slice na ns.length ca, .int .i64 st, .int .i64 wk, .int .i64 un, .int .i64 ke], .agg #[.string ⟨s.toArray⟩, .slice nb ns.length cb, .int .i64 st, .int .i64 wk, .int .i64 un, .int .i64 ke]] w fun e w' => e = .returned (.bool true) ∧ Below w.heap.size w w' := by
 have h1 : ∀ n : Int, (n != n) = false := by simp
 have h2 : ∀ l : List UInt8, (l != l) = false := by simp
 obtain ⟨D, hD⟩ : ∃ D, w.heap.size = D := ⟨_, rfl⟩
 obtain ⟨W1, hW1⟩ : ∃ W, w.alloc (.cells #[.string ⟨s.toArray⟩, .slice na ns.length ca, .int .i64 st, .int .i64 wk, .int .i64 un, .int .i64 ke] 72) = W := ⟨_, rfl⟩
 have hs1 : W1.heap.size = D + 1 := by rw [← hW1, ← hD]; simp
 have hb1 : Below w.heap.size w W1 := by rw [← hW1]; exact (Below.refl _ _).alloc (Nat.le_refl _) _
 have hA1 : W1.heap[D]? = some (.cells #[.string ⟨s.toArray⟩, .slice na ns.length ca, .int .i64 st, .int .i64 wk, .int .i64 un, .int .i64 ke] 72) := by rw [← hW1, ← hD]; exact heap_alloc_new w _
 obtain ⟨W, hW⟩ : ∃ W, W1.alloc (.cells #[.string ⟨s.toArray⟩, .slice nb ns.length cb, .int .i64 st, .int .i64 wk, .int .i64 un, .int .i64 ke] 72) = W := ⟨_, rfl⟩
 have hb2 : Below W1.heap.size W1 W := by rw [← hW]; exact (Below.refl _ _).alloc (Nat.le_refl _) _
 have hB2 : W.heap[D + 1]? = some (.cells #[.string ⟨s.toArray⟩, .slice nb ns.length cb, .int .i64 st, .int .i64 wk, .int .i64 un, .int .i64 ke] 72) := by rw [← hs1, ← hW]; exact heap_alloc_new W1 _
 have hA2 : W.heap[D]? = some (.cells #[.string ⟨s.toArray⟩, .slice na ns.length ca, .int .i64 st, .int .i64 wk, .int .i64 un, .int .i64 ke] 72) := (hb2.block _ (by omega)).trans hA1
 have hbW : Below w.heap.size w W := hb1.trans (hb2.mono hb1.size)
 have hsW : W.heap.size = D + 2 := by rw [← hW]; simp [hs1]
 have HX : Hid (∀ Z, Below W.heap.size W Z → Z.cell? ⟨D, 2, none⟩ = some (.int .i64 st) ∧ Z.cell? ⟨D, 3, none⟩ = some (.int .i64 wk) ∧ Z.cell? ⟨D, 4, none⟩ = some (.int .i64 un) ∧ Z.cell? ⟨D, 5, none⟩ = some (.int .i64 ke) ∧ Z.cell? ⟨D + 1, 2, none⟩ = some (.int .i64 st) ∧ Z.cell? ⟨D + 1, 3, none⟩ = some (.int .i64 wk) ∧ Z.cell? ⟨D + 1, 4, none⟩ = some (.int .i64 un) ∧ Z.cell? ⟨D + 1, 5, none⟩ = some (.int .i64 ke)) := fun Z hz => by
  have e1 := (hz.block D (by omega)).trans hA2
  have e2 := (hz.block (D + 1) (by omega)).trans hB2
  simp [World.cell?, e1, e2]
 have k0 : W.cell? ⟨D, 0, none⟩ = some (.string ⟨s.toArray⟩) := by simp [World.cell?, hA2]
 have k1 : W.cell? ⟨D, 1, none⟩ = some (.slice na ns.length ca) := by simp [World.cell?, hA2]
 have l0 : W.cell? ⟨D + 1, 0, none⟩ = some (.string ⟨s.toArray⟩) := by simp [World.cell?, hB2]
 have l1 : W.cell? ⟨D + 1, 1, none⟩ = some (.slice nb ns.length cb) := by simp [World.cell?, hB2]
 have HC : Hid (_) := eqAsC na nb ca cb ns W hlen (ha.below hbW) (hb.below hbW)
 have HB : Hid (Below w.heap.size w W) := hbW
 clear ha hb hb1 hA1 hb2 hB2 hA2 hbW
 go_enter Tryz.func65, Tryz.ntmps65
 go_wp2_with fail
 refine Calls.mono HC.out ?_
 rintro e w1 ⟨rfl, hb1⟩
 obtain ⟨x2, x3, x4, x5, y2, y3, y4, y5⟩ := HX.out w1 hb1
 have HBd : Hid (Below w.heap.size w w1) := HB.out.trans (hb1.mono HB.out.size)
 clear HC hb1 HX
 go_wp2
 go_ret
 exact ⟨rfl, HBd.out⟩

set_option maxHeartbeats 2000000 in
set_option maxRecDepth 100000 in
theorem eqTaskSC (a b : Option Addr) (len ca cb : Nat) (fs : List Ta) (w : World) (ha : TasksIn w a len fs) (hb : TasksIn w b len fs) (hlen : len ≤ 4194304) (hsh : ∀ j, (fs.getD j ta0).2.1.length ≤ 4194304) :
 Calls Tryz.prog 25 #[.slice a len ca, .slice b len cb] w fun e w' => e = .returned (.bool true) ∧ Below w.heap.size w w' := by
 have HA : Hid (TasksIn w a len fs) := ha
 have HB : Hid (TasksIn w b len fs) := hb
 have HSH : Hid (∀ j, (fs.getD j ta0).2.1.length ≤ 4194304) := hsh
 clear ha hb hsh
 have h1 : ((len : Int) != (len : Int)) = false := by simp
 go_enter Tryz.func25, Tryz.ntmps25
 go_wp2
 go_loopw [5] (fun i wr => ∃ k : Nat, k ≤ len ∧ i = .int .i64 k ∧ Below w.heap.size w wr) (fun i _ => len - (intOf i).toNat)
 case atStart => exact ⟨0, Nat.zero_le _, rfl, Below.refl _ _⟩
 case round =>
  obtain ⟨k, hk, rfl, hB⟩ := hrel
  by_cases hkl : (k : Int) < (len : Int)
  ·
   obtain ⟨b1, o1, rfl, hb1, x0, ⟨na, nc, x1, hn1⟩, x2, x3, x4, x5⟩ := (HA.out.below hB).2 k (by omega)
   obtain ⟨b2, o2, rfl, hb2, y0, ⟨nb, nd, y1, hn2⟩, y2, y3, y4, y5⟩ := (HB.out.below hB).2 k (by omega)
   have hts := HSH.out k
   obtain ⟨f, hf⟩ : ∃ f, fs.getD k ta0 = f := ⟨_, rfl⟩
   rw [hf] at x0 x1 x2 x3 x4 x5 y0 y1 y2 y3 y4 y5 hn1 hn2 hts
   obtain ⟨s, ns, st, wk, un, ke⟩ := f
   simp only at x0 x1 x2 x3 x4 x5 y0 y1 y2 y3 y4 y5 hn1 hn2 hts
   have HC : Hid (∀ Z, Below wr.heap.size wr Z → _) := fun Z hz => eqTaskC s ns na nb nc nd st wk un ke Z (hn1.below hz) (hn2.below hz) hts
   have hdr : Below wr.heap.size wr wr.drew := ⟨rfl, rfl, rfl, Nat.le_refl _, fun _ _ => rfl⟩
   clear hf hn1 hn2 hts
   go_wp2
   go_region_held3 (fun w' => w'.cell? ⟨b1, o1 + k * 6, none⟩ = some (.string ⟨s.toArray⟩) ∧ w'.cell? ⟨b1, o1 + k * 6 + 1, none⟩ = some (.slice na ns.length nc) ∧ w'.cell? ⟨b1, o1 + k * 6 + 2, none⟩ = some (.int .i64 st) ∧ w'.cell? ⟨b1, o1 + k * 6 + 3, none⟩ = some (.int .i64 wk) ∧ w'.cell? ⟨b1, o1 + k * 6 + 4, none⟩ = some (.int .i64 un) ∧ w'.cell? ⟨b1, o1 + k * 6 + 5, none⟩ = some (.int .i64 ke) ∧ w'.cell? ⟨b2, o2 + k * 6, none⟩ = some (.string ⟨s.toArray⟩) ∧ w'.cell? ⟨b2, o2 + k * 6 + 1, none⟩ = some (.slice nb ns.length nd) ∧ w'.cell? ⟨b2, o2 + k * 6 + 2, none⟩ = some (.int .i64 st) ∧ w'.cell? ⟨b2, o2 + k * 6 + 3, none⟩ = some (.int .i64 wk) ∧ w'.cell? ⟨b2, o2 + k * 6 + 4, none⟩ = some (.int .i64 un) ∧ w'.cell? ⟨b2, o2 + k * 6 + 5, none⟩ = some (.int .i64 ke)) (go_keep) (first | (go_at_call 65; refine Calls.mono (HC.out _ hdr) ?_; rintro e w1 ⟨rfl, hw1⟩; have d0 := (hw1.cell (p := ⟨b1, o1 + k * 6, none⟩) hb1).trans x0; have d1 := (hw1.cell (p := ⟨b1, o1 + k * 6 + 1, none⟩) hb1).trans x1; have d2 := (hw1.cell (p := ⟨b1, o1 + k * 6 + 2, none⟩) hb1).trans x2; have d3 := (hw1.cell (p := ⟨b1, o1 + k * 6 + 3, none⟩) hb1).trans x3; have d4 := (hw1.cell (p := ⟨b1, o1 + k * 6 + 4, none⟩) hb1).trans x4; have d5 := (hw1.cell (p := ⟨b1, o1 + k * 6 + 5, none⟩) hb1).trans x5; have e0 := (hw1.cell (p := ⟨b2, o2 + k * 6, none⟩) hb2).trans y0; have e1 := (hw1.cell (p := ⟨b2, o2 + k * 6 + 1, none⟩) hb2).trans y1; have e2 := (hw1.cell (p := ⟨b2, o2 + k * 6 + 2, none⟩) hb2).trans y2; have e3 := (hw1.cell (p := ⟨b2, o2 + k * 6 + 3, none⟩) hb2).trans y3; have e4 := (hw1.cell (p := ⟨b2, o2 + k * 6 + 4, none⟩) hb2).trans y4; have e5 := (hw1.cell (p := ⟨b2, o2 + k * 6 + 5, none⟩) hb2).trans y5))
   all_goals go_wp2
   go_roundw
   case rel => exact ⟨k + 1, by omega, by go_num, hB.trans ⟨hw1.os, hw1.tape, hw1.output, hw1.size, fun q hq => hw1.block q (by have := hB.size; show q < wr.heap.size; omega)⟩⟩
   case measure => simp [intOf]; omega
  ·
   go_wp2
   go_ret
   exact ⟨rfl, hB⟩

set_option maxHeartbeats 1000000 in
set_option maxRecDepth 100000 in
theorem eqDeskC (a b : Option Addr) (len ca cb : Nat) (fs : List Ta) (ep nw : Int) (jr : List UInt8) (w : World) (ha : TasksIn w a len fs) (hb : TasksIn w b len fs) (hlen : len ≤ 4194304) (hsh : ∀ j, (fs.getD j ta0).2.1.length ≤ 4194304) :
 Calls Tryz.prog 8 #[.agg #[.slice a len ca, .int .i64 ep, .int .i64 nw, .string ⟨jr.toArray⟩], .agg #[.slice b len cb, .int .i64 ep, .int .i64 nw, .string ⟨jr.toArray⟩]] w fun e w' => e = .returned (.bool true) ∧ Below w.heap.size w w' := by
 have h1 : ∀ n : Int, (n != n) = false := by simp
 have h2 : ∀ l : List UInt8, (l != l) = false := by simp
 obtain ⟨D, hD⟩ : ∃ D, w.heap.size = D := ⟨_, rfl⟩
 obtain ⟨W1, hW1⟩ : ∃ W, w.alloc (.cells #[.slice a len ca, .int .i64 ep, .int .i64 nw, .string ⟨jr.toArray⟩] 26) = W := ⟨_, rfl⟩
 have hs1 : W1.heap.size = D + 1 := by rw [← hW1, ← hD]; simp
 have hb1 : Below w.heap.size w W1 := by rw [← hW1]; exact (Below.refl _ _).alloc (Nat.le_refl _) _
 have hA1 : W1.heap[D]? = some (.cells #[.slice a len ca, .int .i64 ep, .int .i64 nw, .string ⟨jr.toArray⟩] 26) := by rw [← hW1, ← hD]; exact heap_alloc_new w _
 obtain ⟨W, hW⟩ : ∃ W, W1.alloc (.cells #[.slice b len cb, .int .i64 ep, .int .i64 nw, .string ⟨jr.toArray⟩] 26) = W := ⟨_, rfl⟩
 have hb2 : Below W1.heap.size W1 W := by rw [← hW]; exact (Below.refl _ _).alloc (Nat.le_refl _) _
 have hB2 : W.heap[D + 1]? = some (.cells #[.slice b len cb, .int .i64 ep, .int .i64 nw, .string ⟨jr.toArray⟩] 26) := by rw [← hs1, ← hW]; exact heap_alloc_new W1 _
 have hA2 : W.heap[D]? = some (.cells #[.slice a len ca, .int .i64 ep, .int .i64 nw, .string ⟨jr.toArray⟩] 26) := (hb2.block _ (by omega)).trans hA1
 have hbW : Below w.heap.size w W := hb1.trans (hb2.mono hb1.size)
 have hsW : W.heap.size = D + 2 := by rw [← hW]; simp [hs1]
 have HX : Hid (∀ Z, Below W.heap.size W Z → Z.cell? ⟨D, 1, none⟩ = some (.int .i64 ep) ∧ Z.cell? ⟨D, 2, none⟩ = some (.int .i64 nw) ∧ Z.cell? ⟨D, 3, none⟩ = some (.string ⟨jr.toArray⟩) ∧ Z.cell? ⟨D + 1, 1, none⟩ = some (.int .i64 ep) ∧ Z.cell? ⟨D + 1, 2, none⟩ = some (.int .i64 nw) ∧ Z.cell? ⟨D + 1, 3, none⟩ = some (.string ⟨jr.toArray⟩)) := fun Z hz => by
  have e1 := (hz.block D (by omega)).trans hA2
  have e2 := (hz.block (D + 1) (by omega)).trans hB2
  simp [World.cell?, e1, e2]
 have k0 : W.cell? ⟨D, 0, none⟩ = some (.slice a len ca) := by simp [World.cell?, hA2]
 have l0 : W.cell? ⟨D + 1, 0, none⟩ = some (.slice b len cb) := by simp [World.cell?, hB2]
 have HC : Hid (_) := eqTaskSC a b len ca cb fs W (ha.below hbW) (hb.below hbW) hlen hsh
 have HB : Hid (Below w.heap.size w W) := hbW
 clear ha hb hb1 hA1 hb2 hB2 hA2 hbW hsh
 go_enter Tryz.func8, Tryz.ntmps8
 go_wp2_with fail
 refine Calls.mono HC.out ?_
 rintro e w1 ⟨rfl, hb1⟩
 obtain ⟨x1, x2, x3, y1, y2, y3⟩ := HX.out w1 hb1
 have HBd : Hid (Below w.heap.size w w1) := HB.out.trans (hb1.mono HB.out.size)
 clear HC hb1 HX
 go_wp2
 go_ret
 exact ⟨rfl, HBd.out⟩

end Go.Proofs.YtaidhjjpdkkmcaaGreatDoor

/-! A desk that came in, as the walks take it. -/
namespace Go.Proofs.YtaidhjjpdkkmcaaGreatDoor
open Go.ChangeShapes Go.WideShapes Go.ChangeAt Go.RowKit Go.Joins Go.Deep

def IntTa (t : Ta) : Prop := (∀ x ∈ t.2.1, (Lit.int .i64 x).wf = true) ∧ (-9223372036854775808 ≤ t.2.2.1 ∧ t.2.2.1 ≤ 9223372036854775807) ∧ (-9223372036854775808 ≤ t.2.2.2.1 ∧ t.2.2.2.1 ≤ 9223372036854775807) ∧ (-9223372036854775808 ≤ t.2.2.2.2.1 ∧ t.2.2.2.2.1 ≤ 9223372036854775807) ∧ (-9223372036854775808 ≤ t.2.2.2.2.2 ∧ t.2.2.2.2.2 ≤ 9223372036854775807)
def IntTas (ts : List Ta) : Prop := ∀ j, IntTa (ts.getD j ta0)
section
variable {H : Type} {enc : TypeId × Value → H} {W : World} {base : Nat} {spare : Nat → Bool} {held : Bool} {fuel : Nat} {v : Value} {x : DataW H × List MemPlace}
end

end Go.Proofs.YtaidhjjpdkkmcaaGreatDoor

/-! The laws' own helpers over tasks: markTaskS, heldTaskS, markDesk, heldDesk. -/
namespace Go.Proofs.YtaidhjjpdkkmcaaGreatDoor
open Go.RowKit

/-- What a task holds when it is marked from k on, and the next mark. -/
def tmk (k : Nat) (x : TV) : TV := ((markL k, marksI (k + 1) x.1.2.1.length, ((k + 1 + x.1.2.1.length : Nat) : Int), ((k + 2 + x.1.2.1.length : Nat) : Int), ((k + 3 + x.1.2.1.length : Nat) : Int), ((k + 4 + x.1.2.1.length : Nat) : Int)), x.2)
def tmark (k : Nat) : List TV → List TV
 | [] => []
 | x :: r => tmk k x :: tmark (k + 5 + x.1.2.1.length) r
def tend (k : Nat) : List TV → Nat
 | [] => k
 | x :: r => tend (k + 5 + x.1.2.1.length) r
theorem tmk_T (k : Nat) (x : TV) : tvT (tmk k x) = tvT x := by unfold tvT tmk; rw [marksI_len]
theorem tmark_len (k : Nat) (xs : List TV) : (tmark k xs).length = xs.length := by
 induction xs generalizing k with
 | nil => rfl
 | cons x r ih => simp [tmark, ih]
theorem tmark_snoc (k : Nat) (xs : List TV) (x : TV) : tmark k (xs ++ [x]) = tmark k xs ++ [tmk (tend k xs) x] ∧ tend k (xs ++ [x]) = tend k xs + 5 + x.1.2.1.length := by
 induction xs generalizing k with
 | nil => exact ⟨rfl, rfl⟩
 | cons y r ih =>
  have := ih (k + 5 + y.1.2.1.length)
  exact ⟨by rw [List.cons_append, tmark, this.1]; rfl, by rw [List.cons_append, tend, this.2]; rfl⟩
theorem tend_ge (k : Nat) (xs : List TV) : k ≤ tend k xs := by
 induction xs generalizing k with
 | nil => exact Nat.le_refl _
 | cons x r ih => have := ih (k + 5 + x.1.2.1.length); unfold tend; omega
theorem tend_app (k : Nat) (xs ys : List TV) : tend k (xs ++ ys) = tend (tend k xs) ys := by
 induction xs generalizing k with
 | nil => rfl
 | cons x r ih => rw [List.cons_append, tend, ih]; rfl
theorem tend_take (k : Nat) (xs : List TV) (m : Nat) : tend k (xs.take m) ≤ tend k xs := by
 conv => rhs; rw [← List.take_append_drop m xs, tend_app]
 exact tend_ge _ _
/-- Half way: m tasks are marked. -/
def thalf (k : Nat) (xs : List TV) (m : Nat) : List TV := tmark k (xs.take m) ++ xs.drop m
theorem thalf_len (k : Nat) (xs : List TV) (m : Nat) : (thalf k xs m).length = xs.length := by
 unfold thalf; rw [List.length_append, tmark_len, ← List.length_append, List.take_append_drop]
theorem thalf_at (k : Nat) (xs : List TV) (m : Nat) (hm : m < xs.length) : (thalf k xs m).getD m tv0 = xs[m] := by
 unfold thalf
 have hl : (tmark k (xs.take m)).length = m := by rw [tmark_len, List.length_take]; omega
 rw [List.getD_eq_getElem?_getD, List.getElem?_append_right (by omega), hl, Nat.sub_self, List.getElem?_drop, Nat.add_zero, List.getElem?_eq_getElem hm]
 rfl
theorem thalf_step (k : Nat) (xs : List TV) (m : Nat) (hm : m < xs.length) : (thalf k xs m).set m (tmk (tend k (xs.take m)) xs[m]) = thalf k xs (m + 1) ∧ tend k (xs.take (m + 1)) = tend k (xs.take m) + 5 + xs[m].1.2.1.length := by
 have h1 := tmark_snoc k (xs.take m) xs[m]
 rw [← List.take_succ_eq_append_getElem hm] at h1
 refine ⟨?_, h1.2⟩
 have hl : (tmark k (xs.take m)).length = m := by rw [tmark_len, List.length_take]; omega
 unfold thalf
 rw [h1.1, List.set_append_right _ _ (by omega), hl, Nat.sub_self, List.drop_eq_getElem_cons hm, zB, List.append_assoc]
 rfl
theorem thalf_T (k : Nat) (xs : List TV) (m : Nat) : (thalf k xs m).map tvT = xs.map tvT := by
 have key : ∀ (k : Nat) (l : List TV), (tmark k l).map tvT = l.map tvT := by
  intro k l
  induction l generalizing k with
  | nil => rfl
  | cons x r ih => rw [tmark, List.map_cons, List.map_cons, tmk_T, ih]
 unfold thalf
 rw [List.map_append, key, ← List.map_append, List.take_append_drop]
theorem set_sameT {α : Type} {l : List α} {i : Nat} {a : α} (h : l[i]? = some a) : l.set i a = l := by
 apply List.ext_getElem?
 intro j
 rw [List.getElem?_set]
 split
 ·
  rename_i e
  subst e
  split
  ·
   exact h.symm
  ·
   rename_i hl; rw [List.getElem?_eq_none (by omega)]
 ·
  rfl
def TkBlocks (v : Value) (xs : List TV) (k : Nat) : Prop := v.ownBlock = some k ∨ ∃ x ∈ xs, (tvT x).ownBlock = some k

set_option maxHeartbeats 4000000 in
set_option maxRecDepth 100000 in
theorem markTaskSC (w : World) (base g cp k0 : Nat) (xs : List TV) (hn : xs.length ≤ 1100000) (hk0 : 0 < k0) (hk1 : tend k0 xs ≤ 30000000) (hls : ∀ x ∈ xs, x.1.2.1.length ≤ 1100000) (hap : ApartR (xs.map tvT))
 (h : TksOwn w base (.slice (some ⟨g, 0, none⟩) xs.length cp) xs) :
 Calls Tryz.prog 30 #[.slice (some ⟨g, 0, none⟩) xs.length cp, .int .i64 k0] w fun e w' => e = .returned (.int .i64 ((tend k0 xs : Nat) : Int)) ∧ TksOwn w' base (.slice (some ⟨g, 0, none⟩) xs.length cp) (tmark k0 xs) ∧ WroteR w w' (TkBlocks (.slice (some ⟨g, 0, none⟩) xs.length cp) xs) := by
 have HAP : Hid (ApartR (xs.map tvT)) := hap
 have HLS : Hid (∀ x ∈ xs, x.1.2.1.length ≤ 1100000) := hls
 have hst0 : thalf k0 xs 0 = xs := rfl
 have H0 : Hid (TksOwn w base (.slice (some ⟨g, 0, none⟩) xs.length cp) (thalf k0 xs 0)) := h
 clear hap hls h hst0
 go_enter Tryz.func30, Tryz.ntmps30
 go_wp2
 go_loopw [1, 5] (fun k i wr => ∃ m : Nat, m ≤ xs.length ∧ i = .int .i64 m ∧ k = .int .i64 ((tend k0 (xs.take m) : Nat) : Int) ∧ Hid (TksOwn wr base (.slice (some ⟨g, 0, none⟩) xs.length cp) (thalf k0 xs m)) ∧ Hid (WroteR w wr (TkBlocks (.slice (some ⟨g, 0, none⟩) xs.length cp) xs))) (fun _ i _ => xs.length - (intOf i).toNat)
 case atStart => exact ⟨0, Nat.zero_le _, rfl, rfl, H0, WroteR.refl _ _⟩
 case round =>
  obtain ⟨m, hm, rfl, rfl, HO, HW⟩ := hrel
  clear H0
  by_cases hlt : (m : Int) < (xs.length : Int)
  ·
   have hm2 : m < xs.length := by omega
   obtain ⟨hset, hend⟩ := thalf_step k0 xs m hm2
   have hat := thalf_at k0 xs m hm2
   have hfl := thalf_len k0 xs m
   have hT := thalf_T k0 xs m
   have hend2 := tend_take k0 xs (m + 1)
   have hxl := HLS.out xs[m] (List.getElem_mem hm2)
   obtain ⟨ys, hys⟩ : ∃ ys, thalf k0 xs m = ys := ⟨_, rfl⟩
   rw [hys] at hset hat hfl hT HO
   obtain ⟨x, hx⟩ : ∃ x, xs[m] = x := ⟨_, rfl⟩
   rw [hx] at hset hat hend hxl
   obtain ⟨q, hq⟩ : ∃ q, tend k0 (xs.take m) = q := ⟨_, rfl⟩
   have hq0 : 0 < q := by rw [← hq]; have := tend_ge k0 (xs.take m); omega
   rw [hq] at hset hend ⊢
   have hq3 : q + 5 + x.1.2.1.length ≤ 30000000 := by omega
   have HSET : Hid (ys.set m (tmk q x) = thalf k0 xs (m + 1)) := hset
   have HEND : Hid (tend k0 (xs.take (m + 1)) = q + 5 + x.1.2.1.length) := hend
   have HT : Hid (ys.map tvT = xs.map tvT) := hT
   have HX : Hid (∃ h : m < ys.length, ys[m] = x) := ⟨by omega, by rw [List.getD_eq_getElem?_getD, List.getElem?_eq_getElem (by omega)] at hat; exact hat⟩
   have HFL : Hid (ys.length = xs.length) := hfl
   have HXM : Hid (x ∈ xs) := by rw [← hx]; exact List.getElem_mem hm2
   obtain ⟨v0, v1, v2, v3, v4, v5⟩ := tksV_at ys m (by omega)
   rw [hat] at v0 v1 v2 v3 v4 v5
   have hrow := HO.out.row
   rw [hfl] at hrow
   clear hset hend hend2 hys hx hq hT hat hfl
   obtain ⟨zs, hzs⟩ : ∃ zs, tksV ys = zs := ⟨_, rfl⟩
   have hzset := tksV_set ys m (tmk q x)
   rw [hzs] at hrow v0 v1 v2 v3 v4 v5 hzset
   obtain ⟨n, hnn⟩ : ∃ n, x.1.2.1.length = n := ⟨_, rfl⟩
   have HNN : Hid (x.1.2.1.length = n) := hnn
   obtain ⟨r, hr⟩ : ∃ r, q + 1 + n = r := ⟨_, rfl⟩
   have HZ : Hid ((((((zs.set (m * 6) (.string ⟨(markL q).toArray⟩)).set (m * 6 + 1) (tvT x)).set (m * 6 + 2) (.int .i64 (r : Int))).set (m * 6 + 3) (.int .i64 ((r : Int) + 1))).set (m * 6 + 4) (.int .i64 ((r : Int) + 1 + 1))).set (m * 6 + 5) (.int .i64 ((r : Int) + 1 + 1 + 1)) = tksV (ys.set m (tmk q x))) := by
    rw [← tmk_T q x, show (r : Int) + 1 + 1 + 1 = (tmk q x).1.2.2.2.2.2 by show (r : Int) + 1 + 1 + 1 = ((q + 4 + x.1.2.1.length : Nat) : Int); omega, show (r : Int) + 1 + 1 = (tmk q x).1.2.2.2.2.1 by show (r : Int) + 1 + 1 = ((q + 3 + x.1.2.1.length : Nat) : Int); omega, show (r : Int) + 1 = (tmk q x).1.2.2.2.1 by show (r : Int) + 1 = ((q + 2 + x.1.2.1.length : Nat) : Int); omega, show (r : Int) = (tmk q x).1.2.2.1 by show (r : Int) = ((q + 1 + x.1.2.1.length : Nat) : Int); omega]
    exact hzset
   clear hzset
   have htree : wr.ownsRow base 2 1 (tvT x) n (intsV x.1.2.1) := by
    obtain ⟨hl, he⟩ := HX.out
    rw [← hnn, ← he]; exact HO.out.trees _ (List.getElem_mem hl)
   have HTV : Hid (tvT x = .slice x.2.1 n x.2.2) := by exact (by unfold tvT; rw [hnn] : tvT x = .slice x.2.1 n x.2.2)
   generalize x.2.1 = ta at HTV
   generalize x.2.2 = tc at HTV
   rw [HTV.out] at v1
   have hr1 : r ≤ 30000000 := by omega
   have HEND2 : Hid (tend k0 (xs.take (m + 1)) = r + 4) := by exact (by rw [HEND.out]; omega : tend k0 (xs.take (m + 1)) = r + 4)
   have HRQ : Hid (q + 1 + n = r) := hr
   have HQ1 : Hid (q + 1 + n ≤ 30000000) := by exact (by omega : q + 1 + n ≤ 30000000)
   have hnl : n ≤ 1100000 := by omega
   have hqq : q ≤ 30000000 := by omega
   clear hzs hnn HEND hq3 hxl hr
   go_wp2_with fail
   refine (markTextC q _ (by omega) (by have := HQ1.out; omega)).mono ?_
   rintro e w2 ⟨rfl, hg2⟩
   have hrow2 := own_none hrow hg2
   obtain ⟨u0, d0⟩ : ∃ u, w2.cell? ⟨g, m * 6, none⟩ = some u := by rw [hrow2.cellAt (m * 6) (by omega), v0]; exact ⟨_, rfl⟩
   have e0 := hrow2.frozenAt (m * 6)
   have hs1 := hrow2.stored (m * 6) (.string ⟨(markL q).toArray⟩)
   have hW3 : WroteR w (w2.setCell ⟨g, m * 6, none⟩ (.string ⟨(markL q).toArray⟩)) (TkBlocks (.slice (some ⟨g, 0, none⟩) xs.length cp) xs) :=
    (HW.out.trans (WroteR.of_grown hg2 (fun _ e => by cases e))).trans (WroteR.of_grown hs1.2 (fun _ e => Or.inl e))
   have htrees : ∀ z ∈ ys, (w2.setCell ⟨g, m * 6, none⟩ (.string ⟨(markL q).toArray⟩)).ownsRow base 2 1 (tvT z) z.1.2.1.length (intsV z.1.2.1) := by
    intro z hz
    have t1 := own_none (HO.out.trees z hz) hg2
    exact t1.kept hs1.2 (own_typesR t1 hrow2 (by decide))
   have d1b : (w2.setCell ⟨g, m * 6, none⟩ (.string ⟨(markL q).toArray⟩)).cell? ⟨g, m * 6 + 1, none⟩ = some (.slice ta n tc) := by
    rw [hs1.1.cellAt (m * 6 + 1) (by omega), List.getElem?_set_ne (by omega), v1]
   obtain ⟨W3, hW3e⟩ : ∃ W3, w2.setCell ⟨g, m * 6, none⟩ (.string ⟨(markL q).toArray⟩) = W3 := ⟨_, rfl⟩
   have hrow3 := hs1.1
   rw [hW3e] at hrow3 hW3 htrees d1b
   have HR3 : Hid (W3.ownsRow base 72 6 (.slice (some ⟨g, 0, none⟩) xs.length cp) xs.length (zs.set (m * 6) (.string ⟨(markL q).toArray⟩))) := hrow3
   have HW3 : Hid (WroteR w W3 (TkBlocks (.slice (some ⟨g, 0, none⟩) xs.length cp) xs)) := hW3
   have HTR : Hid (∀ z ∈ ys, W3.ownsRow base 2 1 (tvT z) z.1.2.1.length (intsV z.1.2.1)) := htrees
   have htree3 : W3.ownsRow base 2 1 (.slice ta n tc) n (intsV x.1.2.1) := by
    obtain ⟨hl, he⟩ := HX.out
    have h3 := htrees _ (List.getElem_mem hl)
    rw [he, HTV.out, HNN.out] at h3
    exact h3
   have HM : Hid (_) := markIntV W3 base n (q + 1) (.slice ta n tc) (intsV x.1.2.1) hnl (by have := HQ1.out; omega) htree3
   rw [show ((q + 1 : Nat) : Int) = (q : Int) + 1 by omega, HRQ.out] at HM
   have HT3 : Hid (W3.ownsRow base 2 1 (.slice ta n tc) n (intsV x.1.2.1)) := htree3
   have HV1 : Hid (zs[m * 6 + 1]? = some (.slice ta n tc)) := v1
   have HV : Hid (zs.length = xs.length * 6) := hrow.1
   clear hs1 hW3 htrees hrow3 hrow2 hrow hg2 htree htree3 HW v0 v1 v2 v3 v4 v5
   go_wp2_with fail
   refine Calls.mono HM.out ?_
   rintro e w4 ⟨rfl, hown4, hg4⟩
   have hrow4 := HR3.out.kept hg4 (own_typesR HR3.out HT3.out (by decide))
   obtain ⟨ls, hls⟩ : ∃ ls, zs.set (m * 6) (.string ⟨(markL q).toArray⟩) = ls := ⟨_, rfl⟩
   have hll : ls.length = xs.length * 6 := by rw [← hls, List.length_set]; exact HV.out
   rw [hls] at hrow4
   have hex : ∀ j, j < 6 → ∃ u, w4.cell? ⟨g, m * 6 + j, none⟩ = some u := fun j hj => by
    rw [hrow4.cellAt (m * 6 + j) (by omega)]
    exact ⟨_, List.getElem?_eq_getElem (by omega)⟩
   obtain ⟨u2, d2⟩ := hex 2 (by omega)
   obtain ⟨u3, d3⟩ := hex 3 (by omega)
   obtain ⟨u4, d4⟩ := hex 4 (by omega)
   obtain ⟨u5, d5⟩ := hex 5 (by omega)
   have e2 := hrow4.frozenAt (m * 6 + 2)
   have e3 := hrow4.frozenAt (m * 6 + 3)
   have e4 := hrow4.frozenAt (m * 6 + 4)
   have e5 := hrow4.frozenAt (m * 6 + 5)
   have hs2 := hrow4.stored (m * 6 + 2) (.int .i64 (r : Int))
   have hs3 := hs2.1.stored (m * 6 + 3) (.int .i64 ((r : Int) + 1))
   have hs4 := hs3.1.stored (m * 6 + 4) (.int .i64 ((r : Int) + 1 + 1))
   have hs5 := hs4.1.stored (m * 6 + 5) (.int .i64 ((r : Int) + 1 + 1 + 1))
   have hg5 := ((hs2.2.trans hs3.2).trans hs4.2).trans hs5.2
   have hrow5 := hs5.1
   obtain ⟨W5, hW5⟩ : ∃ W5, ((((w4.setCell ⟨g, m * 6 + 2, none⟩ (.int .i64 (r : Int))).setCell ⟨g, m * 6 + 3, none⟩ (.int .i64 ((r : Int) + 1))).setCell ⟨g, m * 6 + 4, none⟩ (.int .i64 ((r : Int) + 1 + 1))).setCell ⟨g, m * 6 + 5, none⟩ (.int .i64 ((r : Int) + 1 + 1 + 1))) = W5 := ⟨_, rfl⟩
   rw [hW5] at hrow5 hg5
   have HO4 : Hid (TksOwn W5 base (.slice (some ⟨g, 0, none⟩) xs.length cp) (thalf k0 xs (m + 1))) := by
    have hz3 : ((((ls.set (m * 6 + 2) (.int .i64 (r : Int))).set (m * 6 + 3) (.int .i64 ((r : Int) + 1))).set (m * 6 + 4) (.int .i64 ((r : Int) + 1 + 1))).set (m * 6 + 5) (.int .i64 ((r : Int) + 1 + 1 + 1))) = tksV (ys.set m (tmk q x)) := by
     rw [← HZ.out, HTV.out, ← hls, set_sameT (l := zs.set (m * 6) (.string ⟨(markL q).toArray⟩)) (i := m * 6 + 1) (by rw [List.getElem?_set_ne (by omega)]; exact HV1.out)]
    rw [hz3] at hrow5
    have keep : ∀ {v : Value} {j : Nat} {l : List Value}, w4.ownsRow base 2 1 v j l → W5.ownsRow base 2 1 v j l := fun h => h.kept hg5 (own_typesR h hrow4 (by decide))
    rw [← HSET.out]
    refine ⟨by rw [List.length_set, HFL.out]; exact hrow5, fun z hz => ?_⟩
    obtain ⟨j, hj, rfl⟩ := List.mem_iff_getElem.1 hz
    rw [List.length_set] at hj
    rw [List.getElem_set]
    by_cases hjm : m = j
    ·
     subst hjm
     rw [if_pos rfl, tmk_T, HTV.out]
     show W5.ownsRow base 2 1 _ (marksI (q + 1) x.1.2.1.length).length (intsV (marksI (q + 1) x.1.2.1.length))
     rw [marksI_len, HNN.out]
     exact keep hown4
    ·
     rw [if_neg hjm]
     refine keep ((HTR.out _ (List.getElem_mem hj)).kept hg4 ?_)
     obtain ⟨hl, he⟩ := HX.out
     have hap : ApartR (ys.map tvT) := by rw [HT.out]; exact HAP.out
     have hne := hap.ne (i := j) (j := m) (by simpa using hj) (by simpa using hl) (fun e => hjm e.symm)
     rw [List.getElem_map, List.getElem_map, he, HTV.out] at hne
     exact hne
   have HW4 : Hid (WroteR w W5 (TkBlocks (.slice (some ⟨g, 0, none⟩) xs.length cp) xs)) := (HW3.out.trans (WroteR.of_grown hg4 (fun k e => Or.inr ⟨x, HXM.out, by rw [HTV.out]; exact e⟩))).trans (WroteR.of_grown hg5 (fun k e => Or.inl e))
   clear hown4 hg4 HR3 HT3 HTR HW3 HM HZ HSET HT HX HV1 HTV HXM HFL d0 d1b e0 HO hs2 hs3 hs4 hs5 hg5 hrow5 hrow4 hls hll hex HV HRQ HNN
   go_wp2
   go_roundw
   case rel => exact ⟨m + 1, by omega, by go_num, by rw [HEND2.out]; go_num, HO4, HW4⟩
   case measure => simp [intOf]; omega
  ·
   obtain rfl : m = xs.length := by omega
   have hO := HO.out
   have HK : Hid (tend k0 (xs.take xs.length) = tend k0 xs) := by exact (by rw [List.take_length] : tend k0 (xs.take xs.length) = tend k0 xs)
   have HH : Hid (thalf k0 xs xs.length = tmark k0 xs) := by exact (by unfold thalf; rw [List.take_length, List.drop_length, List.append_nil] : thalf k0 xs xs.length = tmark k0 xs)
   rw [HH.out] at hO
   go_wp2
   go_ret
   exact ⟨by rw [← HK.out]; rfl, hO, HW.out⟩

theorem tmark_at (k : Nat) (xs : List TV) (m : Nat) (hm : m < xs.length) : (tmark k xs).getD m tv0 = tmk (tend k (xs.take m)) xs[m] := by
 induction xs generalizing k m with
 | nil => simp at hm
 | cons x r ih =>
  cases m with
  | zero => rfl
  | succ m =>
   have := ih (k + 5 + x.1.2.1.length) m (by simpa using hm)
   rw [List.take_succ_cons, tend, List.getElem_cons_succ, ← this]
   rfl

set_option maxHeartbeats 4000000 in
set_option maxRecDepth 100000 in
theorem heldTaskSC (w : World) (base g cp k0 : Nat) (xs : List TV) (hn : xs.length ≤ 1100000) (hk0 : 0 < k0) (hk1 : tend k0 xs ≤ 30000000) (hls : ∀ x ∈ xs, x.1.2.1.length ≤ 1100000)
 (h : TksOwn w base (.slice (some ⟨g, 0, none⟩) xs.length cp) (tmark k0 xs)) :
 Calls Tryz.prog 31 #[.slice (some ⟨g, 0, none⟩) xs.length cp, .int .i64 k0] w fun e w' => e = .returned (.int .i64 ((tend k0 xs : Nat) : Int)) ∧ w.grownBy w' none := by
 have hself : ∀ l : List UInt8, (l != l) = false := by simp
 have hne : ∀ n : Int, (n != n) = false := by simp
 have HLS : Hid (∀ x ∈ xs, x.1.2.1.length ≤ 1100000) := hls
 have HF : Hid (TksOwn w base (.slice (some ⟨g, 0, none⟩) xs.length cp) (tmark k0 xs)) := h
 clear hls h
 go_enter Tryz.func31, Tryz.ntmps31
 go_wp2
 go_loopw [1, 5] (fun k i wr => ∃ m : Nat, m ≤ xs.length ∧ i = .int .i64 m ∧ k = .int .i64 ((tend k0 (xs.take m) : Nat) : Int) ∧ w.grownBy wr none) (fun _ i _ => xs.length - (intOf i).toNat)
 case atStart => exact ⟨0, Nat.zero_le _, rfl, rfl, World.grownBy.refl _ _⟩
 case round =>
  obtain ⟨m, hm, rfl, rfl, hg⟩ := hrel
  by_cases hlt : (m : Int) < (xs.length : Int)
  ·
   have hm2 : m < xs.length := by omega
   have hend := (thalf_step k0 xs m hm2).2
   have hend2 := tend_take k0 xs (m + 1)
   have hat := tmark_at k0 xs m hm2
   have hxl := HLS.out xs[m] (List.getElem_mem hm2)
   have hfl := tmark_len k0 xs
   have hrow := HF.out.row
   rw [hfl] at hrow
   obtain ⟨v0, v1, v2, v3, v4, v5⟩ := tksV_at (tmark k0 xs) m (by omega)
   have hmem : (tmark k0 xs).getD m tv0 ∈ tmark k0 xs := by rw [List.getD_eq_getElem?_getD, List.getElem?_eq_getElem (by omega)]; exact List.getElem_mem (by omega)
   have htr := HF.out.trees _ hmem
   rw [hat] at v0 v1 v2 v3 v4 v5 htr
   obtain ⟨x, hx⟩ : ∃ x, xs[m] = x := ⟨_, rfl⟩
   obtain ⟨q, hq⟩ : ∃ q, tend k0 (xs.take m) = q := ⟨_, rfl⟩
   rw [hx, hq] at v0 v1 v2 v3 v4 v5 htr
   rw [hx, hq] at hend
   rw [hx] at hxl
   have hq0 : 0 < q := by rw [← hq]; have := tend_ge k0 (xs.take m); omega
   rw [hq]
   obtain ⟨n, hnn⟩ : ∃ n, x.1.2.1.length = n := ⟨_, rfl⟩
   rw [hnn] at hend hxl
   obtain ⟨r, hr⟩ : ∃ r, q + 1 + n = r := ⟨_, rfl⟩
   have HEND : Hid (tend k0 (xs.take (m + 1)) = r + 4) := by exact (by rw [hend]; omega : tend k0 (xs.take (m + 1)) = r + 4)
   have hr1 : r ≤ 30000000 := by omega
   have c0 : wr.cell? ⟨g, m * 6, none⟩ = some (.string ⟨(markL q).toArray⟩) := hg.cell (a := ⟨g, m * 6, none⟩) ((hrow.cellAt (m * 6) (by omega)).trans v0) (by simp)
   have c1 : wr.cell? ⟨g, m * 6 + 1, none⟩ = some (.slice x.2.1 n x.2.2) := hg.cell (a := ⟨g, m * 6 + 1, none⟩) ((hrow.cellAt (m * 6 + 1) (by omega)).trans (v1.trans (by rw [tmk_T]; unfold tvT; rw [hnn]))) (by simp)
   have c2 : wr.cell? ⟨g, m * 6 + 2, none⟩ = some (.int .i64 (r : Int)) := hg.cell (a := ⟨g, m * 6 + 2, none⟩) ((hrow.cellAt (m * 6 + 2) (by omega)).trans (v2.trans (by show some (Value.int .i64 ((q + 1 + x.1.2.1.length : Nat) : Int)) = _; rw [hnn, hr]))) (by simp)
   have c3 : wr.cell? ⟨g, m * 6 + 3, none⟩ = some (.int .i64 ((r : Int) + 1)) := hg.cell (a := ⟨g, m * 6 + 3, none⟩) ((hrow.cellAt (m * 6 + 3) (by omega)).trans (v3.trans (by show some (Value.int .i64 ((q + 2 + x.1.2.1.length : Nat) : Int)) = _; rw [hnn, show ((q + 2 + n : Nat) : Int) = (r : Int) + 1 by omega]))) (by simp)
   have c4 : wr.cell? ⟨g, m * 6 + 4, none⟩ = some (.int .i64 ((r : Int) + 1 + 1)) := hg.cell (a := ⟨g, m * 6 + 4, none⟩) ((hrow.cellAt (m * 6 + 4) (by omega)).trans (v4.trans (by show some (Value.int .i64 ((q + 3 + x.1.2.1.length : Nat) : Int)) = _; rw [hnn, show ((q + 3 + n : Nat) : Int) = (r : Int) + 1 + 1 by omega]))) (by simp)
   have c5 : wr.cell? ⟨g, m * 6 + 5, none⟩ = some (.int .i64 ((r : Int) + 1 + 1 + 1)) := hg.cell (a := ⟨g, m * 6 + 5, none⟩) ((hrow.cellAt (m * 6 + 5) (by omega)).trans (v5.trans (by show some (Value.int .i64 ((q + 4 + x.1.2.1.length : Nat) : Int)) = _; rw [hnn, show ((q + 4 + n : Nat) : Int) = (r : Int) + 1 + 1 + 1 by omega]))) (by simp)
   have HT3 : Hid (wr.ownsRow base 2 1 (.slice x.2.1 n x.2.2) n (intsV (marksI (q + 1) n))) := by
    have t := own_none htr hg
    rw [tmk_T] at t
    have e1 : (tmk q x).1.2.1 = marksI (q + 1) n := by unfold tmk; rw [hnn]
    rw [e1, marksI_len] at t
    unfold tvT at t
    rw [hnn] at t
    exact t
   have HC : Hid (∀ Z, wr.grownBy Z none → Z.cell? ⟨g, m * 6, none⟩ = some (.string ⟨(markL q).toArray⟩) ∧ Z.cell? ⟨g, m * 6 + 1, none⟩ = some (.slice x.2.1 n x.2.2) ∧ Z.cell? ⟨g, m * 6 + 2, none⟩ = some (.int .i64 (r : Int)) ∧ Z.cell? ⟨g, m * 6 + 3, none⟩ = some (.int .i64 ((r : Int) + 1)) ∧ Z.cell? ⟨g, m * 6 + 4, none⟩ = some (.int .i64 ((r : Int) + 1 + 1)) ∧ Z.cell? ⟨g, m * 6 + 5, none⟩ = some (.int .i64 ((r : Int) + 1 + 1 + 1))) := fun Z hz =>
    ⟨hz.cell c0 (by simp), hz.cell c1 (by simp), hz.cell c2 (by simp), hz.cell c3 (by simp), hz.cell c4 (by simp), hz.cell c5 (by simp)⟩
   have HRQ : Hid (q + 1 + n = r) := hr
   have HNL : Hid (n ≤ 1100000 ∧ q + 1 ≤ 30000000) := ⟨by omega, by omega⟩
   generalize x.2.1 = ta at *
   generalize x.2.2 = tc at *
   have hge : ¬ (r : Int) < 0 := by omega
   have hqq : q ≤ 30000000 := by omega
   clear v0 v1 v2 v3 v4 v5 hrow htr hmem hat hfl hend hend2 hx hq hnn hr hxl
   go_wp2
   go_region_with (go_at_call 27; refine (markTextC q _ (by omega) (by omega)).mono ?_; rintro e w1 ⟨rfl, hg1⟩; obtain ⟨x0, x1, x2, x3, x4, x5⟩ := HC.out w1 (by first | exact hg1 | exact (grown_drew _ _).trans hg1))
   all_goals
    have hG1 : wr.grownBy w1 none := by first | exact hg1 | exact (grown_drew _ _).trans hg1
    have HM := heldIntV w1 base n (q + 1) (.slice ta n tc) HNL.out.1 HNL.out.2 (own_none HT3.out hG1)
    rw [show ((q + 1 : Nat) : Int) = (q : Int) + 1 by omega, HRQ.out] at HM
    have HM2 : Hid (_) := HM
    have HG1 : Hid (wr.grownBy w1 none) := hG1
    clear HM hg1 hG1 c0 c1 c2 c3 c4 c5
    go_wp2_with fail
    refine Calls.mono HM2.out ?_
    rintro e w2 ⟨rfl, hg2⟩
    have HG2 : Hid (wr.grownBy w2 none) := HG1.out.trans hg2
    clear x0 x1 x2 x3 x4 x5 HM2 hg2
    obtain ⟨x0, x1, x2, x3, x4, x5⟩ := HC.out w2 HG2.out
    have HG3 : Hid (w.grownBy w2 none) := hg.trans HG2.out
    go_wp2
    go_roundw
    case rel => exact ⟨m + 1, by omega, by go_num, by rw [HEND.out]; go_num, HG3.out⟩
    case measure => simp [intOf]; omega
  ·
   obtain rfl : m = xs.length := by omega
   have HK : Hid (tend k0 (xs.take xs.length) = tend k0 xs) := by exact (by rw [List.take_length] : tend k0 (xs.take xs.length) = tend k0 xs)
   go_wp2
   go_ret
   exact ⟨by rw [← HK.out]; rfl, hg⟩

end Go.Proofs.YtaidhjjpdkkmcaaGreatDoor
