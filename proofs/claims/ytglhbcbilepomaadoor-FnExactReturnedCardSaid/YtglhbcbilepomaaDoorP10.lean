/-
  Parts of one proof, one behind the other: TkE, TkIn.
-/
import Derived.Test.YtglhbcbilepomaaDoorP9
import Derived.Deep.RegionHeld3
import Derived.Test.YtglhbcbilepomaaDoorP7
import Derived.SliceStrings
import Derived.WalkKit
import Derived.ProofKit
import Derived.OpenShut
import Derived.ShutString
import Derived.ChangeOld
import Derived.Below
import Derived.Lib.SmallJoins
import Derived.Deep.SlicePairs

/-! The laws' own helpers over tasks: eqInt64S at numbers that can be read, eqTask, eqTaskS, eqDesk. -/
namespace Go.Proofs.YtglhbcbilepomaaDoor
open Go.RowKit

set_option maxHeartbeats 1000000 in
set_option maxRecDepth 100000 in
theorem eqAsC (a b : Option Addr) (ca cb : Nat) (ls : List Int) (w : World) (hn : ls.length ≤ 4194304) (ha : AsIn w a ls) (hb : AsIn w b ls) :
    Calls Tryd.prog 64 #[.slice a ls.length ca, .slice b ls.length cb] w fun e w' => e = .returned (.bool true) ∧ Below w.heap.size w w' := by
  have hself : ∀ n : Int, (n != n) = false := by simp
  have HA : Hid (AsIn w a ls) := ha
  have HB : Hid (AsIn w b ls) := hb
  clear ha hb
  go_enter Tryd.func64, Tryd.ntmps64
  go_wp2
  go_loopw [5] (fun i wr => ∃ k : Nat, k ≤ ls.length ∧ i = .int .i64 k ∧ Below w.heap.size w wr) (fun i _ => ls.length - (intOf i).toNat)
  case atStart => exact ⟨0, Nat.zero_le _, rfl, Below.refl _ _⟩
  case round =>
    obtain ⟨k, hk, rfl, hg⟩ := hrel
    by_cases hlt : (k : Int) < (ls.length : Int)
    · obtain ⟨b1, o1, rfl, hb1, hca⟩ := (HA.out.below hg) k (by omega)
      obtain ⟨b2, o2, rfl, hb2, hcb⟩ := (HB.out.below hg) k (by omega)
      obtain ⟨t, ht⟩ : ∃ t, ls.getD k 0 = t := ⟨_, rfl⟩
      rw [ht] at hca hcb
      clear ht
      go_wp2
      go_region
      all_goals (try go_wp2)
      go_roundw
      case rel => exact ⟨k + 1, by omega, by go_num, hg.trans ⟨rfl, rfl, rfl, Nat.le_refl _, fun _ _ => rfl⟩⟩
      case measure => simp [intOf]; omega
    · go_wp2
      go_ret
      exact ⟨rfl, hg⟩

set_option maxHeartbeats 1000000 in
set_option maxRecDepth 100000 in
theorem eqTaskC (s : List UInt8) (ns : List Int) (na nb : Option Addr) (ca cb : Nat) (st wk un ke : Int) (w : World) (ha : AsIn w na ns) (hb : AsIn w nb ns) (hlen : ns.length ≤ 4194304) :
    Calls Tryd.prog 47 #[.agg #[.string ⟨s.toArray⟩, .slice na ns.length ca, .int .i64 st, .int .i64 wk, .int .i64 un, .int .i64 ke], .agg #[.string ⟨s.toArray⟩, .slice nb ns.length cb, .int .i64 st, .int .i64 wk, .int .i64 un, .int .i64 ke]] w fun e w' => e = .returned (.bool true) ∧ Below w.heap.size w w' := by
  have h1 : ∀ n : Int, (n != n) = false := by simp
  have h2 : ∀ l : List UInt8, (l != l) = false := by simp
  obtain ⟨D, hD⟩ : ∃ D, w.heap.size = D := ⟨_, rfl⟩
  obtain ⟨W1, hW1⟩ : ∃ W, w.alloc (.cells #[.string ⟨s.toArray⟩, .slice na ns.length ca, .int .i64 st, .int .i64 wk, .int .i64 un, .int .i64 ke] 52) = W := ⟨_, rfl⟩
  have hs1 : W1.heap.size = D + 1 := by rw [← hW1, ← hD]; simp
  have hb1 : Below w.heap.size w W1 := by rw [← hW1]; exact (Below.refl _ _).alloc (Nat.le_refl _) _
  have hA1 : W1.heap[D]? = some (.cells #[.string ⟨s.toArray⟩, .slice na ns.length ca, .int .i64 st, .int .i64 wk, .int .i64 un, .int .i64 ke] 52) := by rw [← hW1, ← hD]; exact heap_alloc_new w _
  obtain ⟨W, hW⟩ : ∃ W, W1.alloc (.cells #[.string ⟨s.toArray⟩, .slice nb ns.length cb, .int .i64 st, .int .i64 wk, .int .i64 un, .int .i64 ke] 52) = W := ⟨_, rfl⟩
  have hb2 : Below W1.heap.size W1 W := by rw [← hW]; exact (Below.refl _ _).alloc (Nat.le_refl _) _
  have hB2 : W.heap[D + 1]? = some (.cells #[.string ⟨s.toArray⟩, .slice nb ns.length cb, .int .i64 st, .int .i64 wk, .int .i64 un, .int .i64 ke] 52) := by rw [← hs1, ← hW]; exact heap_alloc_new W1 _
  have hA2 : W.heap[D]? = some (.cells #[.string ⟨s.toArray⟩, .slice na ns.length ca, .int .i64 st, .int .i64 wk, .int .i64 un, .int .i64 ke] 52) := (hb2.block _ (by omega)).trans hA1
  have hbW : Below w.heap.size w W := hb1.trans (hb2.mono hb1.size)
  have hsW : W.heap.size = D + 2 := by rw [← hW]; simp [hs1]
  have HX : Hid (∀ Z, Below W.heap.size W Z → Z.cell? ⟨D, 2, none⟩ = some (.int .i64 st) ∧ Z.cell? ⟨D, 3, none⟩ = some (.int .i64 wk) ∧ Z.cell? ⟨D, 4, none⟩ = some (.int .i64 un) ∧ Z.cell? ⟨D, 5, none⟩ = some (.int .i64 ke) ∧ Z.cell? ⟨D + 1, 2, none⟩ = some (.int .i64 st) ∧ Z.cell? ⟨D + 1, 3, none⟩ = some (.int .i64 wk) ∧ Z.cell? ⟨D + 1, 4, none⟩ = some (.int .i64 un) ∧ Z.cell? ⟨D + 1, 5, none⟩ = some (.int .i64 ke)) := fun Z hz => by
    have e1 := (hz.block D (by omega)).trans hA2
    have e2 := (hz.block (D + 1) (by omega)).trans hB2
    simp [World.cell?, e1, e2]
  have k0 : W.cell? ⟨D, 0, none⟩ = some (.string ⟨s.toArray⟩) := by simp [World.cell?, hA2]
  have k1 : W.cell? ⟨D, 1, none⟩ = some (.slice na ns.length ca) := by simp [World.cell?, hA2]
  have l0 : W.cell? ⟨D + 1, 0, none⟩ = some (.string ⟨s.toArray⟩) := by simp [World.cell?, hB2]
  have l1 : W.cell? ⟨D + 1, 1, none⟩ = some (.slice nb ns.length cb) := by simp [World.cell?, hB2]
  have HC : Hid (_) := eqAsC na nb ca cb ns W hlen (ha.below hbW) (hb.below hbW)
  have HB : Hid (Below w.heap.size w W) := hbW
  clear ha hb hb1 hA1 hb2 hB2 hA2 hbW
  go_enter Tryd.func47, Tryd.ntmps47
  go_wp2_with fail
  refine Calls.mono HC.out ?_
  rintro e w1 ⟨rfl, hb1⟩
  obtain ⟨x2, x3, x4, x5, y2, y3, y4, y5⟩ := HX.out w1 hb1
  have HBd : Hid (Below w.heap.size w w1) := HB.out.trans (hb1.mono HB.out.size)
  clear HC hb1 HX
  go_wp2
  go_ret
  exact ⟨rfl, HBd.out⟩

set_option maxHeartbeats 2000000 in
set_option maxRecDepth 100000 in
theorem eqTaskSC (a b : Option Addr) (len ca cb : Nat) (fs : List Ta) (w : World) (ha : TasksIn w a len fs) (hb : TasksIn w b len fs) (hlen : len ≤ 4194304) (hsh : ∀ j, (fs.getD j ta0).2.1.length ≤ 4194304) :
    Calls Tryd.prog 20 #[.slice a len ca, .slice b len cb] w fun e w' => e = .returned (.bool true) ∧ Below w.heap.size w w' := by
  have HA : Hid (TasksIn w a len fs) := ha
  have HB : Hid (TasksIn w b len fs) := hb
  have HSH : Hid (∀ j, (fs.getD j ta0).2.1.length ≤ 4194304) := hsh
  clear ha hb hsh
  have h1 : ((len : Int) != (len : Int)) = false := by simp
  go_enter Tryd.func20, Tryd.ntmps20
  go_wp2
  go_loopw [5] (fun i wr => ∃ k : Nat, k ≤ len ∧ i = .int .i64 k ∧ Below w.heap.size w wr) (fun i _ => len - (intOf i).toNat)
  case atStart => exact ⟨0, Nat.zero_le _, rfl, Below.refl _ _⟩
  case round =>
    obtain ⟨k, hk, rfl, hB⟩ := hrel
    by_cases hkl : (k : Int) < (len : Int)
    · obtain ⟨b1, o1, rfl, hb1, x0, ⟨na, nc, x1, hn1⟩, x2, x3, x4, x5⟩ := (HA.out.below hB).2 k (by omega)
      obtain ⟨b2, o2, rfl, hb2, y0, ⟨nb, nd, y1, hn2⟩, y2, y3, y4, y5⟩ := (HB.out.below hB).2 k (by omega)
      have hts := HSH.out k
      obtain ⟨f, hf⟩ : ∃ f, fs.getD k ta0 = f := ⟨_, rfl⟩
      rw [hf] at x0 x1 x2 x3 x4 x5 y0 y1 y2 y3 y4 y5 hn1 hn2 hts
      obtain ⟨s, ns, st, wk, un, ke⟩ := f
      simp only at x0 x1 x2 x3 x4 x5 y0 y1 y2 y3 y4 y5 hn1 hn2 hts
      have HC : Hid (∀ Z, Below wr.heap.size wr Z → _) := fun Z hz => eqTaskC s ns na nb nc nd st wk un ke Z (hn1.below hz) (hn2.below hz) hts
      have hdr : Below wr.heap.size wr wr.drew := ⟨rfl, rfl, rfl, Nat.le_refl _, fun _ _ => rfl⟩
      clear hf hn1 hn2 hts
      go_wp2
      go_region_held3 (fun w' => w'.cell? ⟨b1, o1 + k * 6, none⟩ = some (.string ⟨s.toArray⟩) ∧ w'.cell? ⟨b1, o1 + k * 6 + 1, none⟩ = some (.slice na ns.length nc) ∧ w'.cell? ⟨b1, o1 + k * 6 + 2, none⟩ = some (.int .i64 st) ∧ w'.cell? ⟨b1, o1 + k * 6 + 3, none⟩ = some (.int .i64 wk) ∧ w'.cell? ⟨b1, o1 + k * 6 + 4, none⟩ = some (.int .i64 un) ∧ w'.cell? ⟨b1, o1 + k * 6 + 5, none⟩ = some (.int .i64 ke) ∧ w'.cell? ⟨b2, o2 + k * 6, none⟩ = some (.string ⟨s.toArray⟩) ∧ w'.cell? ⟨b2, o2 + k * 6 + 1, none⟩ = some (.slice nb ns.length nd) ∧ w'.cell? ⟨b2, o2 + k * 6 + 2, none⟩ = some (.int .i64 st) ∧ w'.cell? ⟨b2, o2 + k * 6 + 3, none⟩ = some (.int .i64 wk) ∧ w'.cell? ⟨b2, o2 + k * 6 + 4, none⟩ = some (.int .i64 un) ∧ w'.cell? ⟨b2, o2 + k * 6 + 5, none⟩ = some (.int .i64 ke)) (go_keep) (first | (go_at_call 47; refine Calls.mono (HC.out _ hdr) ?_; rintro e w1 ⟨rfl, hw1⟩; have d0 := (hw1.cell (p := ⟨b1, o1 + k * 6, none⟩) hb1).trans x0; have d1 := (hw1.cell (p := ⟨b1, o1 + k * 6 + 1, none⟩) hb1).trans x1; have d2 := (hw1.cell (p := ⟨b1, o1 + k * 6 + 2, none⟩) hb1).trans x2; have d3 := (hw1.cell (p := ⟨b1, o1 + k * 6 + 3, none⟩) hb1).trans x3; have d4 := (hw1.cell (p := ⟨b1, o1 + k * 6 + 4, none⟩) hb1).trans x4; have d5 := (hw1.cell (p := ⟨b1, o1 + k * 6 + 5, none⟩) hb1).trans x5; have e0 := (hw1.cell (p := ⟨b2, o2 + k * 6, none⟩) hb2).trans y0; have e1 := (hw1.cell (p := ⟨b2, o2 + k * 6 + 1, none⟩) hb2).trans y1; have e2 := (hw1.cell (p := ⟨b2, o2 + k * 6 + 2, none⟩) hb2).trans y2; have e3 := (hw1.cell (p := ⟨b2, o2 + k * 6 + 3, none⟩) hb2).trans y3; have e4 := (hw1.cell (p := ⟨b2, o2 + k * 6 + 4, none⟩) hb2).trans y4; have e5 := (hw1.cell (p := ⟨b2, o2 + k * 6 + 5, none⟩) hb2).trans y5))
      all_goals go_wp2
      go_roundw
      case rel => exact ⟨k + 1, by omega, by go_num, hB.trans ⟨hw1.os, hw1.tape, hw1.output, hw1.size, fun q hq => hw1.block q (by have := hB.size; show q < wr.heap.size; omega)⟩⟩
      case measure => simp [intOf]; omega
    · go_wp2
      go_ret
      exact ⟨rfl, hB⟩

set_option maxHeartbeats 1000000 in
set_option maxRecDepth 100000 in
theorem eqDeskC (a b : Option Addr) (len ca cb : Nat) (fs : List Ta) (ep nw : Int) (jr : List UInt8) (w : World) (ha : TasksIn w a len fs) (hb : TasksIn w b len fs) (hlen : len ≤ 4194304) (hsh : ∀ j, (fs.getD j ta0).2.1.length ≤ 4194304) :
    Calls Tryd.prog 8 #[.agg #[.slice a len ca, .int .i64 ep, .int .i64 nw, .string ⟨jr.toArray⟩], .agg #[.slice b len cb, .int .i64 ep, .int .i64 nw, .string ⟨jr.toArray⟩]] w fun e w' => e = .returned (.bool true) ∧ Below w.heap.size w w' := by
  have h1 : ∀ n : Int, (n != n) = false := by simp
  have h2 : ∀ l : List UInt8, (l != l) = false := by simp
  obtain ⟨D, hD⟩ : ∃ D, w.heap.size = D := ⟨_, rfl⟩
  obtain ⟨W1, hW1⟩ : ∃ W, w.alloc (.cells #[.slice a len ca, .int .i64 ep, .int .i64 nw, .string ⟨jr.toArray⟩] 28) = W := ⟨_, rfl⟩
  have hs1 : W1.heap.size = D + 1 := by rw [← hW1, ← hD]; simp
  have hb1 : Below w.heap.size w W1 := by rw [← hW1]; exact (Below.refl _ _).alloc (Nat.le_refl _) _
  have hA1 : W1.heap[D]? = some (.cells #[.slice a len ca, .int .i64 ep, .int .i64 nw, .string ⟨jr.toArray⟩] 28) := by rw [← hW1, ← hD]; exact heap_alloc_new w _
  obtain ⟨W, hW⟩ : ∃ W, W1.alloc (.cells #[.slice b len cb, .int .i64 ep, .int .i64 nw, .string ⟨jr.toArray⟩] 28) = W := ⟨_, rfl⟩
  have hb2 : Below W1.heap.size W1 W := by rw [← hW]; exact (Below.refl _ _).alloc (Nat.le_refl _) _
  have hB2 : W.heap[D + 1]? = some (.cells #[.slice b len cb, .int .i64 ep, .int .i64 nw, .string ⟨jr.toArray⟩] 28) := by rw [← hs1, ← hW]; exact heap_alloc_new W1 _
  have hA2 : W.heap[D]? = some (.cells #[.slice a len ca, .int .i64 ep, .int .i64 nw, .string ⟨jr.toArray⟩] 28) := (hb2.block _ (by omega)).trans hA1
  have hbW : Below w.heap.size w W := hb1.trans (hb2.mono hb1.size)
  have hsW : W.heap.size = D + 2 := by rw [← hW]; simp [hs1]
  have HX : Hid (∀ Z, Below W.heap.size W Z → Z.cell? ⟨D, 1, none⟩ = some (.int .i64 ep) ∧ Z.cell? ⟨D, 2, none⟩ = some (.int .i64 nw) ∧ Z.cell? ⟨D, 3, none⟩ = some (.string ⟨jr.toArray⟩) ∧ Z.cell? ⟨D + 1, 1, none⟩ = some (.int .i64 ep) ∧ Z.cell? ⟨D + 1, 2, none⟩ = some (.int .i64 nw) ∧ Z.cell? ⟨D + 1, 3, none⟩ = some (.string ⟨jr.toArray⟩)) := fun Z hz => by
    have e1 := (hz.block D (by omega)).trans hA2
    have e2 := (hz.block (D + 1) (by omega)).trans hB2
    simp [World.cell?, e1, e2]
  have k0 : W.cell? ⟨D, 0, none⟩ = some (.slice a len ca) := by simp [World.cell?, hA2]
  have l0 : W.cell? ⟨D + 1, 0, none⟩ = some (.slice b len cb) := by simp [World.cell?, hB2]
  have HC : Hid (_) := eqTaskSC a b len ca cb fs W (ha.below hbW) (hb.below hbW) hlen hsh
  have HB : Hid (Below w.heap.size w W) := hbW
  clear ha hb hb1 hA1 hb2 hB2 hA2 hbW hsh
  go_enter Tryd.func8, Tryd.ntmps8
  go_wp2_with fail
  refine Calls.mono HC.out ?_
  rintro e w1 ⟨rfl, hb1⟩
  obtain ⟨x1, x2, x3, y1, y2, y3⟩ := HX.out w1 hb1
  have HBd : Hid (Below w.heap.size w w1) := HB.out.trans (hb1.mono HB.out.size)
  clear HC hb1 HX
  go_wp2
  go_ret
  exact ⟨rfl, HBd.out⟩

end Go.Proofs.YtglhbcbilepomaaDoor

/-! A desk that came in, as the walks take it. -/
namespace Go.Proofs.YtglhbcbilepomaaDoor
open Go.ChangeShapes Go.WideShapes Go.ChangeAt Go.RowKit Go.Joins Go.Deep

def IntTa (t : Ta) : Prop := (∀ x ∈ t.2.1, (Lit.int .i64 x).wf = true) ∧ (-9223372036854775808 ≤ t.2.2.1 ∧ t.2.2.1 ≤ 9223372036854775807) ∧ (-9223372036854775808 ≤ t.2.2.2.1 ∧ t.2.2.2.1 ≤ 9223372036854775807) ∧ (-9223372036854775808 ≤ t.2.2.2.2.1 ∧ t.2.2.2.2.1 ≤ 9223372036854775807) ∧ (-9223372036854775808 ≤ t.2.2.2.2.2 ∧ t.2.2.2.2.2 ≤ 9223372036854775807)
theorem intTa_0 : IntTa ta0 := by unfold IntTa ta0; exact ⟨fun x hx => (by cases hx), by decide, by decide, by decide, by decide⟩
def IntTas (ts : List Ta) : Prop := ∀ j, IntTa (ts.getD j ta0)
section
variable {H : Type} {enc : TypeId × Value → H} {W : World} {base : Nat} {spare : Nat → Bool} {held : Bool} {fuel : Nat} {v : Value} {x : DataW H × List MemPlace}
set_option maxRecDepth 100000 in
theorem trod_nums (hf : DataW.trod enc Tryd.prog W base spare held fuel 46 [v] = some x) :
    ∃ a cap xs, v = .slice a (List.length xs) cap ∧ AsIn W a xs ∧ xs.length ≤ maxLen ∧ ∀ x ∈ xs, (Lit.int .i64 x).wf = true := by
  rcases open_ints Tryd.underlying46 Tryd.underlying2 (by kernel_rfl) hf with ⟨hcs, _⟩ | ⟨a, l, c, zs, hcs, _, hl, hm, hlen, _, hcell, hwf⟩
  · simp at hcs
    subst hcs
    exact ⟨none, 0, [], rfl, fun j hj => absurd hj (by simp), by simp, fun x hx => by cases hx⟩
  · simp at hcs
    subst hcs
    have hls : l ≤ zs.length := by rw [hlen]; split <;> omega
    have hlt : (zs.take l).length = l := by rw [List.length_take]; omega
    refine ⟨some a, c, zs.take l, by rw [hlt], fun j hj => ?_, by omega, fun x hx => hwf x (List.mem_of_mem_take hx)⟩
    rw [hlt] at hj
    have hc := hcell j (by omega)
    have hsp : a.spot = none := by
      have h0 := hcell 0 (by omega)
      simpa [Addr.add] using World.cell?_spot h0
    obtain ⟨b, off, spot⟩ := a
    simp at hsp
    subst hsp
    have e : ∀ i, (⟨b, off, none⟩ : Addr).add i = ⟨b, off + i, none⟩ := fun i => by unfold Addr.add; split <;> simp_all
    rw [e] at hc
    refine ⟨b, off, rfl, World.block_lt_of_cell? W ⟨b, off + j, none⟩ hc, ?_⟩
    rw [hc]
    congr 2
    have hj2 : j < zs.length := by omega
    simp [List.getD, hj, hj2]
theorem cellsTask : Tryd.prog.cellsOf 48 = 6 := by kernel_rfl
set_option maxRecDepth 100000 in
theorem trod_tasks (hf : DataW.trod enc Tryd.prog W base spare held fuel 22 [v] = some x) :
    ∃ a len cap fs, v = .slice a len cap ∧ TasksIn W a len fs ∧ len ≤ maxLen ∧ LongTa fs ∧ IntTas fs := by
  rcases open_slice Tryd.underlying22 hf with ⟨hcs, _⟩ | ⟨a, len, cap, q, n, D, Pl, hcs, _, hl, hm, hq, _, hx⟩
  · simp at hcs
    subst hcs
    exact ⟨none, 0, 0, [], rfl, ⟨rfl, fun j hj => by omega⟩, by decide, (fun j => by simp [ta0]), (fun j => by rw [show ([] : List Ta).getD j ta0 = ta0 by simp]; exact intTa_0)⟩
  · simp at hcs
    subst hcs
    have hlq : len ≤ q := by rw [hq]; split <;> omega
    have each : ∀ i, i < len → ∃ y : Ta, W.cell? (a.add (i * 6)) = some (.string ⟨y.1.toArray⟩) ∧
        (∃ na nc, W.cell? (a.add (i * 6 + 1)) = some (.slice na y.2.1.length nc) ∧ AsIn W na y.2.1) ∧ W.cell? (a.add (i * 6 + 2)) = some (.int .i64 y.2.2.1) ∧ W.cell? (a.add (i * 6 + 3)) = some (.int .i64 y.2.2.2.1) ∧ W.cell? (a.add (i * 6 + 4)) = some (.int .i64 y.2.2.2.2.1) ∧ W.cell? (a.add (i * 6 + 5)) = some (.int .i64 y.2.2.2.2.2) ∧ (y.1.length ≤ maxLen ∧ y.2.1.length ≤ maxLen) ∧ IntTa y := by
      intro i hi
      obtain ⟨cs', h1, h2⟩ := hx i (by omega)
      rw [cellsTask] at h1
      obtain ⟨_, hlen, hcell⟩ := World.cells?_some h1
      match cs', hlen with
      | [v0, v1, v2, v3, v4, v5], _ =>
        obtain ⟨xs, k, _, _, _, hxl, hxx⟩ := DataW.trod_struct Tryd.underlying48 h2
        match xs, hxl with
        | [y0, y1, y2, y3, y4, y5], _ =>
          have t0 := hxx 0 _ rfl
          have t1 := hxx 1 _ rfl
          have t2 := hxx 2 _ rfl
          have t3 := hxx 3 _ rfl
          have t4 := hxx 4 _ rfl
          have t5 := hxx 5 _ rfl
          have k2 : Tryd.prog.cellsOf 2 = 1 := by kernel_rfl
          have k9 : Tryd.prog.cellsOf 9 = 1 := by kernel_rfl
          have kn : Tryd.prog.cellsOf 46 = 1 := by kernel_rfl
          simp [k2, k9, kn] at t0 t1 t2 t3 t4 t5
          obtain ⟨s0, e0, _, z0⟩ := DataW.trod_string Tryd.underlying9 t0
          obtain ⟨na, nc, ns, e1, hns, hnl, hnw⟩ := trod_nums t1
          obtain ⟨a2, e2, _, w2⟩ := DataW.trod_int Tryd.underlying2 t2
          obtain ⟨a3, e3, _, w3⟩ := DataW.trod_int Tryd.underlying2 t3
          obtain ⟨a4, e4, _, w4⟩ := DataW.trod_int Tryd.underlying2 t4
          obtain ⟨a5, e5, _, w5⟩ := DataW.trod_int Tryd.underlying2 t5
          simp at e0 e1 e2 e3 e4 e5
          subst e0 e1 e2 e3 e4 e5
          have g0 := hcell 0 (by omega)
          have g1 := hcell 1 (by omega)
          have g2 := hcell 2 (by omega)
          have g3 := hcell 3 (by omega)
          have g4 := hcell 4 (by omega)
          have g5 := hcell 5 (by omega)
          rw [add_add] at g0 g1 g2 g3 g4 g5
          exact ⟨(s0.data.toList, ns, a2, a3, a4, a5), by simpa using g0, ⟨na, nc, by simpa using g1, hns⟩, by simpa using g2, by simpa using g3, by simpa using g4, by simpa using g5, ⟨z0, hnl⟩, ⟨hnw, bounds_i64 w2, bounds_i64 w3, bounds_i64 w4, bounds_i64 w5⟩⟩
    obtain ⟨f, hf2⟩ := choose_lt each
    refine ⟨some a, len, cap, (List.range len).map f, rfl, ⟨by simp, fun j hj => ?_⟩, by omega, (fun j => ?_), (fun j => ?_)⟩
    rotate_left
    · by_cases hj : j < len
      · have hg : ((List.range len).map f).getD j ta0 = f j := by simp [List.getD, hj]
        rw [hg]; exact (hf2 j hj).2.2.2.2.2.2.1
      · have hg : ((List.range len).map f).getD j ta0 = ta0 := by simp [List.getD, hj]
        rw [hg]; simp [ta0]
    · by_cases hj : j < len
      · have hg : ((List.range len).map f).getD j ta0 = f j := by simp [List.getD, hj]
        rw [hg]; exact (hf2 j hj).2.2.2.2.2.2.2
      · have hg : ((List.range len).map f).getD j ta0 = ta0 := by simp [List.getD, hj]
        rw [hg]; exact intTa_0
    obtain ⟨c0, ⟨na, nc, c1, hns⟩, c2, c3, c4, c5, _, _⟩ := hf2 j hj
    have hsp : a.spot = none := by
      have h0 := (hf2 0 (by omega)).1
      simpa [Addr.add] using World.cell?_spot h0
    obtain ⟨b, off, spot⟩ := a
    simp at hsp
    subst hsp
    have e : ∀ i, (⟨b, off, none⟩ : Addr).add i = ⟨b, off + i, none⟩ := fun i => by unfold Addr.add; split <;> simp_all
    rw [e] at c0 c1 c2 c3 c4 c5
    have hg : ((List.range len).map f).getD j ta0 = f j := by simp [List.getD, hj]
    rw [hg]
    exact ⟨b, off, rfl, World.block_lt_of_cell? W ⟨b, off + j * 6, none⟩ c0, c0, ⟨na, nc, by rw [Nat.add_assoc]; exact c1, hns⟩, by rw [Nat.add_assoc]; exact c2, by rw [Nat.add_assoc]; exact c3, by rw [Nat.add_assoc]; exact c4, by rw [Nat.add_assoc]; exact c5⟩
end
theorem cellsDesk : Tryd.prog.cellsOf 24 = 4 := by kernel_rfl
set_option maxRecDepth 100000 in
theorem open_desk {H : Type} {enc : TypeId × Value → H} {W : World} {base b0 : Nat} {spare : Nat → Bool} {held : Bool} {v : Value} {d : DataW H} {p : List MemPlace}
    (hv : Value.okWide Tryd.prog W .any b0 24 v) (h : DataW.Trod enc Tryd.prog W base spare held 24 v d p) :
    ∃ a len cap ts ep nw jr, v = .agg #[.slice a len cap, .int .i64 ep, .int .i64 nw, .string ⟨List.toArray jr⟩] ∧ TasksIn W a len ts ∧ len ≤ maxLen ∧ LongTa ts ∧ IntTas ts ∧ (-9223372036854775808 ≤ ep ∧ ep ≤ 9223372036854775807) ∧ (-9223372036854775808 ≤ nw ∧ nw ≤ 9223372036854775807) ∧ jr.length ≤ maxLen := by
  obtain ⟨cs, rfl, hsz⟩ := okWide_struct Tryd.underlying24 hv
  obtain ⟨c0, c1, c2, c3, rfl⟩ : ∃ a b c d, cs = #[a, b, c, d] := by
    have h1 := hsz.trans cellsDesk
    obtain ⟨l⟩ := cs
    match l, h1 with
    | [a, b, c, d], _ => exact ⟨a, b, c, d, rfl⟩
  obtain ⟨fuel, hf⟩ := h
  obtain ⟨xs, n, _, _, hl, hlen, hx⟩ := DataW.trod_struct Tryd.underlying24 hf
  match xs, hlen with
  | [y0, y1, y2, y3], _ =>
    have t0 := hx 0 _ rfl
    have t1 := hx 1 _ rfl
    have t2 := hx 2 _ rfl
    have t3 := hx 3 _ rfl
    simp only [Value.cells] at t0 t1 t2 t3
    have kn : Tryd.prog.cellsOf 22 = 1 := by kernel_rfl
    have k2 : Tryd.prog.cellsOf 2 = 1 := by kernel_rfl
    have k9 : Tryd.prog.cellsOf 9 = 1 := by kernel_rfl
    have u0 : DataW.trod enc Tryd.prog W base spare held n 22 [c0] = some y0 := by simpa [kn] using t0
    have u1 : DataW.trod enc Tryd.prog W base spare held n 2 [c1] = some y1 := by simpa [kn, k2] using t1
    have u2 : DataW.trod enc Tryd.prog W base spare held n 2 [c2] = some y2 := by simpa [kn, k2] using t2
    have u3 : DataW.trod enc Tryd.prog W base spare held n 9 [c3] = some y3 := by simpa [kn, k2, k9] using t3
    obtain ⟨a, len, cap, ts, rfl, h1, h2, h3, h4⟩ := trod_tasks u0
    obtain ⟨ep, e1, _, w1⟩ := DataW.trod_int Tryd.underlying2 u1
    obtain ⟨nw, e2, _, w2⟩ := DataW.trod_int Tryd.underlying2 u2
    obtain ⟨s3, e3, _, z3⟩ := DataW.trod_string Tryd.underlying9 u3
    simp at e1 e2 e3
    subst e1 e2 e3
    exact ⟨a, len, cap, ts, ep, nw, s3.data.toList, by simp, h1, h2, h3, h4, bounds_i64 w1, bounds_i64 w2, z3⟩

end Go.Proofs.YtglhbcbilepomaaDoor
