/-
  Parts of one proof, one behind the other: FnK, PackM, PackM2, Math7T.
-/
import Derived.Test.YtibppdepgoiojaaGreatDoorP16
import Derived.Test.YtibppdepgoiojaaGreatDoorP10
import Derived.Test.YtibppdepgoiojaaGreatDoorP13

/-! The laws' own helpers over functions and packages: likeTexts over texts that can be read, likeFunc, likePackage. -/
namespace Go.Proofs.YtibppdepgoiojaaGreatDoor
open Go.RowKit

set_option maxHeartbeats 1000000 in
set_option maxRecDepth 100000 in
theorem likeTextsC (a b : Option Addr) (len ca cb : Nat) (ts : List (List UInt8)) (w : World) (ha : TextsIn w a len ts) (hb : TextsIn w b len ts) (hlen : len ≤ 4194304) :
    Calls Tryz.prog 38 #[.slice a len ca, .slice b len cb] w fun e w' => e = .returned (.bool true) ∧ Below w.heap.size w w' := by
  have hne : ((len : Int) != (len : Int)) = false := by simp
  have hself : ∀ l : List UInt8, (l != l) = false := by simp
  have HA : Hid (TextsIn w a len ts) := ha
  have HB : Hid (TextsIn w b len ts) := hb
  clear ha hb
  go_enter Tryz.func38, Tryz.ntmps38
  go_wp2
  go_loopw [5] (fun i wr => ∃ k : Nat, k ≤ len ∧ i = .int .i64 k ∧ Below w.heap.size w wr) (fun i _ => len - (intOf i).toNat)
  case atStart => exact ⟨0, Nat.zero_le _, rfl, Below.refl _ _⟩
  case round =>
    obtain ⟨k, hk, rfl, hB⟩ := hrel
    by_cases hkl : (k : Int) < (len : Int)
    · obtain ⟨b1, o1, rfl, hb1, hca⟩ := (HA.out.below hB).2 k (by omega)
      obtain ⟨b2, o2, rfl, hb2, hcb⟩ := (HB.out.below hB).2 k (by omega)
      obtain ⟨t, ht⟩ : ∃ t, ts.getD k [] = t := ⟨_, rfl⟩
      rw [ht] at hca hcb
      clear ht
      go_wp2
      go_region
      all_goals (try go_wp2)
      go_roundw
      case rel => exact ⟨k + 1, by omega, by go_num, hB.drew⟩
      case measure => simp [intOf]; omega
    · go_wp2
      go_ret
      exact ⟨rfl, hB⟩

set_option maxHeartbeats 1000000 in
set_option maxRecDepth 100000 in
theorem likeFuncC (s : List UInt8) (n : Int) (t : List Nd) (ta tb : Option Addr) (tl ca cb : Nat) (w : World) (ha : NodesIn w ta tl t) (hb : NodesIn w tb tl t) (hlen : tl ≤ 4194304) :
    Calls Tryz.prog 17 #[.agg #[.string ⟨s.toArray⟩, .int .i64 n, .slice ta tl ca], .agg #[.string ⟨s.toArray⟩, .int .i64 n, .slice tb tl cb]] w fun e w' => e = .returned (.bool true) ∧ Below w.heap.size w w' := by
  have h1 : ∀ n : Int, (n == n) = true := by simp
  have h2 : ∀ l : List UInt8, (l == l) = true := by simp
  have hbW : Below w.heap.size w ((w.alloc (.cells #[.string ⟨s.toArray⟩, .int .i64 n, .slice ta tl ca] 37)).alloc (.cells #[.string ⟨s.toArray⟩, .int .i64 n, .slice tb tl cb] 37)) := ((Below.refl _ _).alloc (Nat.le_refl _) _).alloc (by simp) _
  have HC := likeTreeC ta tb tl ca cb t _ (ha.below hbW) (hb.below hbW) hlen
  clear ha hb
  go_enter Tryz.func17, Tryz.ntmps17
  go_wp2_with fail
  refine HC.mono ?_
  rintro e w1 ⟨rfl, hb1⟩
  have hbd : Below w.heap.size w w1 := hbW.trans (hb1.mono hbW.size)
  clear HC hb1 hbW
  go_wp2
  go_ret
  exact ⟨rfl, hbd⟩

set_option maxHeartbeats 4000000 in
set_option maxRecDepth 100000 in
theorem likePackageC (nm : List UInt8) (ia ib fa fb : Option Addr) (il ica icb fl fca fcb : Nat) (ims : List (List UInt8)) (fs : List Fn) (w : World) (hia : TextsIn w ia il ims) (hib : TextsIn w ib il ims) (hfa : FuncsIn w fa fl fs) (hfb : FuncsIn w fb fl fs) (hil : il ≤ 4194304) (hfl : fl ≤ 4194304) (hsh : ∀ j, (fs.getD j fn0).2.2.length ≤ 4194304) :
    Calls Tryz.prog 12 #[.agg #[.string ⟨nm.toArray⟩, .slice ia il ica, .slice fa fl fca], .agg #[.string ⟨nm.toArray⟩, .slice ib il icb, .slice fb fl fcb]] w fun e w' => e = .returned (.bool true) ∧ Below w.heap.size w w' := by
  have h2 : ∀ l : List UInt8, (l != l) = false := by simp
  have h1 : ((fl : Int) != (fl : Int)) = false := by simp
  obtain ⟨sa, hBa⟩ := PkIn.new (w := w) (nm := nm) (ic := ica) (fc := fca) hia hfa
  obtain ⟨W1, hW1⟩ : ∃ W, w.alloc (.cells #[.string ⟨nm.toArray⟩, .slice ia il ica, .slice fa fl fca] 27) = W := ⟨_, rfl⟩
  rw [hW1] at sa hBa
  obtain ⟨sb, hBb⟩ := PkIn.new (w := W1) (nm := nm) (ic := icb) (fc := fcb) (hib.below hBa) (hfb.below hBa)
  obtain ⟨W, hW⟩ : ∃ W, W1.alloc (.cells #[.string ⟨nm.toArray⟩, .slice ib il icb, .slice fb fl fcb] 27) = W := ⟨_, rfl⟩
  rw [hW] at sb hBb
  obtain ⟨D, hD⟩ : ∃ D, w.heap.size = D := ⟨_, rfl⟩
  have hs1 : W1.heap.size = D + 1 := by rw [← hW1, ← hD]; simp
  have sa2 := sa.below hBb
  have hB : Below w.heap.size w W := hBa.trans (hBb.mono hBa.size)
  rw [hs1] at sb
  rw [hD] at sa2 hB
  have HC := likeTextsC ia ib il ica icb ims W sa2.i sb.i hil
  have k0 := sa2.k0
  have k1 := sa2.k1
  have k2 := sa2.k2
  have j0 := sb.k0
  have j1 := sb.k1
  have j2 := sb.k2
  have HSH : Hid (∀ j, (fs.getD j fn0).2.2.length ≤ 4194304) := hsh
  clear hia hib hfa hfb sa hBa hBb hsh
  go_enter Tryz.func12, Tryz.ntmps12
  go_wp2_with fail
  refine HC.mono ?_
  rintro e w1 ⟨rfl, hb1⟩
  have HA : Hid (PkIn w1 D nm ia il ica fa fl fca ims fs) := sa2.below hb1
  have HB : Hid (PkIn w1 (D + 1) nm ib il icb fb fl fcb ims fs) := sb.below hb1
  have hB1 : Below D w w1 := hB.trans (hb1.mono (by have := hB.size; omega))
  have hs1b : D ≤ w1.heap.size := by have := hB1.size; omega
  replace k0 := HA.out.k0
  replace k1 := HA.out.k1
  replace k2 := HA.out.k2
  replace j0 := HB.out.k0
  replace j1 := HB.out.k1
  replace j2 := HB.out.k2
  clear HC hb1 sa2 sb hB
  go_wp2
  go_loopw [5] (fun i wr => ∃ k : Nat, k ≤ fl ∧ i = .int .i64 k ∧ Below w1.heap.size w1 wr) (fun i _ => fl - (intOf i).toNat)
  case atStart => exact ⟨0, Nat.zero_le _, rfl, Below.refl _ _⟩
  case round =>
    obtain ⟨k, hk, rfl, hBr⟩ := hrel
    have ra := HA.out.below hBr
    have rb := HB.out.below hBr
    replace k2 := ra.k2
    replace j2 := rb.k2
    by_cases hkl : (k : Int) < (fl : Int)
    · obtain ⟨b1, o1, rfl, hb1, x0, x1, ta, tl, tc, x2, _, hn1⟩ := ra.f.2 k (by omega)
      obtain ⟨b2, o2, rfl, hb2, y0, y1, tb, tl2, tc2, y2, _, hn2⟩ := rb.f.2 k (by omega)
      have hts := HSH.out k
      obtain ⟨f, hf⟩ : ∃ f, fs.getD k fn0 = f := ⟨_, rfl⟩
      rw [hf] at x0 x1 y0 y1 hn1 hn2 hts
      obtain ⟨s, n, t⟩ := f
      simp only at x0 x1 y0 y1 hn1 hn2 hts
      obtain rfl : t.length = tl := hn1.1
      obtain rfl : t.length = tl2 := hn2.1
      have hn1' : NodesIn wr.drew ta t.length t := hn1.below ⟨rfl, rfl, rfl, Nat.le_refl _, fun _ _ => rfl⟩
      have hn2' : NodesIn wr.drew tb t.length t := hn2.below ⟨rfl, rfl, rfl, Nat.le_refl _, fun _ _ => rfl⟩
      have hDa : D < wr.heap.size := World.block_lt_of_cell? wr ⟨D, 2, none⟩ k2
      have hDb : D + 1 < wr.heap.size := World.block_lt_of_cell? wr ⟨D + 1, 2, none⟩ j2
      clear hf hn1 hn2 ra rb k0 k1 j0 j1
      go_wp2
      go_region_held3 (fun w' => w'.cell? ⟨D, 2, none⟩ = some (.slice (some ⟨b1, o1, none⟩) fl fca) ∧ w'.cell? ⟨D + 1, 2, none⟩ = some (.slice (some ⟨b2, o2, none⟩) fl fcb) ∧ w'.cell? ⟨b1, o1 + k * 3, none⟩ = some (.string ⟨s.toArray⟩) ∧ w'.cell? ⟨b1, o1 + k * 3 + 1, none⟩ = some (.int .i64 n) ∧ w'.cell? ⟨b1, o1 + k * 3 + 2, none⟩ = some (.slice ta t.length tc) ∧ w'.cell? ⟨b2, o2 + k * 3, none⟩ = some (.string ⟨s.toArray⟩) ∧ w'.cell? ⟨b2, o2 + k * 3 + 1, none⟩ = some (.int .i64 n) ∧ w'.cell? ⟨b2, o2 + k * 3 + 2, none⟩ = some (.slice tb t.length tc2)) (go_keep) (first | (go_at_call 17; refine (likeFuncC s n t ta tb t.length tc tc2 _ hn1' hn2' hts).mono ?_; rintro e w2 ⟨rfl, hw1⟩; have c2 := (hw1.cell (p := ⟨D, 2, none⟩) hDa).trans k2; have c3 := (hw1.cell (p := ⟨D + 1, 2, none⟩) hDb).trans j2; have d0 : w2.cell? ⟨b1, o1 + k * 3, none⟩ = some (.string ⟨s.toArray⟩) := (hw1.cell (p := ⟨b1, o1 + k * 3, none⟩) hb1).trans x0; have d1 : w2.cell? ⟨b1, o1 + k * 3 + 1, none⟩ = some (.int .i64 n) := (hw1.cell (p := ⟨b1, o1 + k * 3 + 1, none⟩) hb1).trans x1; have d2 : w2.cell? ⟨b1, o1 + k * 3 + 2, none⟩ = some (.slice ta t.length tc) := (hw1.cell (p := ⟨b1, o1 + k * 3 + 2, none⟩) hb1).trans x2; have e0 : w2.cell? ⟨b2, o2 + k * 3, none⟩ = some (.string ⟨s.toArray⟩) := (hw1.cell (p := ⟨b2, o2 + k * 3, none⟩) hb2).trans y0; have e1 : w2.cell? ⟨b2, o2 + k * 3 + 1, none⟩ = some (.int .i64 n) := (hw1.cell (p := ⟨b2, o2 + k * 3 + 1, none⟩) hb2).trans y1; have e2 : w2.cell? ⟨b2, o2 + k * 3 + 2, none⟩ = some (.slice tb t.length tc2) := (hw1.cell (p := ⟨b2, o2 + k * 3 + 2, none⟩) hb2).trans y2))
      all_goals go_wp2
      go_roundw
      case rel => exact ⟨k + 1, by omega, by go_num, hBr.trans ⟨hw1.os, hw1.tape, hw1.output, hw1.size, fun q hq => hw1.block q (by have := hBr.size; show q < wr.heap.size; omega)⟩⟩
      case measure => simp [intOf]; omega
    · go_wp2
      go_ret
      exact ⟨rfl, by first | exact hB1.trans (hBr.mono hs1b) | (rw [hD]; exact hB1.trans (hBr.mono hs1b))⟩

end Go.Proofs.YtibppdepgoiojaaGreatDoor

/-! What FnPackages holds: packages and functions in boxes. -/
namespace Go.Proofs.YtibppdepgoiojaaGreatDoor
open Go.RowKit

/-- A package as it is held: where its lists lie, and what it reads as. -/
structure PkR where
  nm : List UInt8
  ia : Option Addr
  ic : Nat
  fa : Option Addr
  fc : Nat
  ims : List (List UInt8)
  fs : List Fn
/-- A function, so. -/
structure FnR where
  nm : List UInt8
  args : Int
  ta : Option Addr
  tc : Nat
  t : List Nd

def PkR.ok (W : World) (r : PkR) : Prop := PkOk W r.nm r.ia r.ims.length r.ic r.fa r.fs.length r.fc r.ims r.fs
def PkAt (W : World) (D : Nat) (r : PkR) : Prop := Box3 W D (.string ⟨r.nm.toArray⟩) (.slice r.ia r.ims.length r.ic) (.slice r.fa r.fs.length r.fc) ∧ r.ok W
def FnAt (W : World) (D : Nat) (r : FnR) : Prop := Box3 W D (.string ⟨r.nm.toArray⟩) (.int .i64 r.args) (.slice r.ta r.t.length r.tc) ∧ NodesIn W r.ta r.t.length r.t

theorem PkR.ok.below {W W' : World} {r : PkR} (h : r.ok W) (hb : Below W.heap.size W W') : r.ok W' := PkOk.below h hb
theorem PkAt.below {W W' : World} {D : Nat} {r : PkR} (h : PkAt W D r) (hb : Below W.heap.size W W') : PkAt W' D r := ⟨h.1.below hb, h.2.below hb⟩
theorem FnAt.below {W W' : World} {D : Nat} {r : FnR} (h : FnAt W D r) (hb : Below W.heap.size W W') : FnAt W' D r := ⟨h.1.below hb, h.2.below hb⟩
theorem PkAt.new {W : World} {r : PkR} (h : r.ok W) : PkAt (W.alloc (.cells #[.string ⟨r.nm.toArray⟩, .slice r.ia r.ims.length r.ic, .slice r.fa r.fs.length r.fc] 27)) W.heap.size r ∧ Below W.heap.size W (W.alloc (.cells #[.string ⟨r.nm.toArray⟩, .slice r.ia r.ims.length r.ic, .slice r.fa r.fs.length r.fc] 27)) :=
  have hb := Box3.new W (.string ⟨r.nm.toArray⟩) (.slice r.ia r.ims.length r.ic) (.slice r.fa r.fs.length r.fc) 27
  ⟨⟨hb.1, h.below hb.2⟩, hb.2⟩
theorem FnAt.new {W : World} {r : FnR} (h : NodesIn W r.ta r.t.length r.t) : FnAt (W.alloc (.cells #[.string ⟨r.nm.toArray⟩, .int .i64 r.args, .slice r.ta r.t.length r.tc] 37)) W.heap.size r ∧ Below W.heap.size W (W.alloc (.cells #[.string ⟨r.nm.toArray⟩, .int .i64 r.args, .slice r.ta r.t.length r.tc] 37)) :=
  have hb := Box3.new W (.string ⟨r.nm.toArray⟩) (.int .i64 r.args) (.slice r.ta r.t.length r.tc) 37
  ⟨⟨hb.1, h.below hb.2⟩, hb.2⟩

/-- A drawn package; a package that was read. -/
theorem Drawn7.rec {w wx : World} {v : Value} {nm : List UInt8} {ims : List (List UInt8)} {xs : List FV} (h : Drawn7 w wx v nm ims xs) :
    ∃ r : PkR, v = .agg #[.string ⟨r.nm.toArray⟩, .slice r.ia r.ims.length r.ic, .slice r.fa r.fs.length r.fc] ∧ r.ok wx := by
  obtain ⟨ia, ic, fa, fc, rfl, ho⟩ := h.ok
  exact ⟨⟨nm, ia, ic, fa, fc, ims, xs.map (fun x : FV => x.1)⟩, rfl, ho⟩
theorem read_rec {w : World} {base : Nat} {l : List UInt8} {vi vf : Value} {xs : List FV} (hx : xs.map (·.1) = (readPV l).2.2) (hoi : w.ownsRow base 9 1 vi (readPV l).2.1.length (strV (readPV l).2.1)) (hof : FnsOwn w base vf xs) :
    ∃ r : PkR, Value.agg #[.string ⟨(readPV l).1.toArray⟩, vi, vf] = .agg #[.string ⟨r.nm.toArray⟩, .slice r.ia r.ims.length r.ic, .slice r.fa r.fs.length r.fc] ∧ r.ok w ∧ (r.nm, r.ims, r.fs) = readPV l := by
  obtain ⟨ai, ci, af, cf, rfl, rfl, hi, hc, hti, hfi⟩ := own_pk hoi hof hx
  obtain ⟨h1, h2, h3, h4, h5, h6⟩ := read_ok l
  exact ⟨⟨(readPV l).1, ai, ci, af, cf, (readPV l).2.1, (readPV l).2.2⟩, rfl, ⟨hti, hfi, hi, hc, h1, by show (readPV l).2.1.length ≤ _; omega, by show (readPV l).2.2.length ≤ _; omega, by show (readPV l).1.length ≤ _; omega, ims_short h6, h2⟩, rfl⟩

theorem read_rec2 {w : World} {base : Nat} {l : List UInt8} {vi vf : Value} {xs : List FV} {x : PkR} (he : (x.nm, x.ims, x.fs) = readPV l) (hx : xs.map (·.1) = (readPV l).2.2) (hoi : w.ownsRow base 9 1 vi (readPV l).2.1.length (strV (readPV l).2.1)) (hof : FnsOwn w base vf xs) :
    ∃ ia ic fa fc, Value.agg #[.string ⟨(readPV l).1.toArray⟩, vi, vf] = .agg #[.string ⟨x.nm.toArray⟩, .slice ia x.ims.length ic, .slice fa x.fs.length fc] ∧ (⟨x.nm, ia, ic, fa, fc, x.ims, x.fs⟩ : PkR).ok w := by
  obtain ⟨r, e1, h1, e2⟩ := read_rec hx hoi hof
  rw [← he] at e2
  injection e2 with a1 a2
  injection a2 with a2 a3
  obtain ⟨nm, ia, ic, fa, fc, ims, fs⟩ := r
  simp only at a1 a2 a3 e1
  subst a1 a2 a3
  exact ⟨ia, ic, fa, fc, e1, h1⟩
theorem fn_rec {w : World} {base : Nat} {fv : Fn} {v : Value} (ho : w.ownsRow base 76 4 v fv.2.2.length (nodesV fv.2.2)) :
    ∃ f : FnR, Value.agg #[.string ⟨fv.1.toArray⟩, .int .i64 fv.2.1, v] = .agg #[.string ⟨f.nm.toArray⟩, .int .i64 f.args, .slice f.ta f.t.length f.tc] ∧ NodesIn w f.ta f.t.length f.t ∧ (f.nm, f.args, f.t) = fv := by
  obtain ⟨_, ta, tc, rfl, hin⟩ := own_nodes ho
  exact ⟨⟨fv.1, fv.2.1, ta, tc, fv.2.2⟩, rfl, hin, rfl⟩

theorem fn_rec2 {w : World} {base : Nat} {fv : Fn} {v : Value} {f : FnR} (he : (f.nm, f.args, f.t) = fv) (ho : w.ownsRow base 76 4 v fv.2.2.length (nodesV fv.2.2)) :
    ∃ ta tc, Value.agg #[.string ⟨fv.1.toArray⟩, .int .i64 fv.2.1, v] = .agg #[.string ⟨f.nm.toArray⟩, .int .i64 f.args, .slice ta f.t.length tc] ∧ NodesIn w ta f.t.length f.t := by
  subst he
  obtain ⟨_, ta, tc, rfl, hin⟩ := own_nodes ho
  exact ⟨ta, tc, rfl, hin⟩

structure Hold7 (W : World) (D3 : Nat) (p : PkR) (D6 : Nat) (x : PkR) (D8 : Nat) (q : PkR) (D10 : Nat) (f : FnR) (D12 : Nat) (y : PkR) : Prop where
  p : PkAt W D3 p
  x : PkAt W D6 x
  q : PkAt W D8 q
  f : FnAt W D10 f
  y : PkAt W D12 y
theorem Hold7.below {W W' : World} {D3 : Nat} {p : PkR} {D6 : Nat} {x : PkR} {D8 : Nat} {q : PkR} {D10 : Nat} {f : FnR} {D12 : Nat} {y : PkR} (h : Hold7 W D3 p D6 x D8 q D10 f D12 y) (hb : Below W.heap.size W W') : Hold7 W' D3 p D6 x D8 q D10 f D12 y := ⟨h.p.below hb, h.x.below hb, h.q.below hb, h.f.below hb, h.y.below hb⟩
theorem Hold7.drew {W : World} {D3 : Nat} {p : PkR} {D6 : Nat} {x : PkR} {D8 : Nat} {q : PkR} {D10 : Nat} {f : FnR} {D12 : Nat} {y : PkR} (h : Hold7 W D3 p D6 x D8 q D10 f D12 y) : Hold7 W.drew D3 p D6 x D8 q D10 f D12 y :=
  h.below ((Below.refl _ _).grown (grown_drew W none) (Nat.le_refl _) (fun k e => by cases e))

end Go.Proofs.YtibppdepgoiojaaGreatDoor

/-! What the last loop of FnPackages holds. -/
namespace Go.Proofs.YtibppdepgoiojaaGreatDoor
open Go.RowKit

/-- The package (at D3), what was read of what it is shown as (at Dy), and one of its functions. -/
structure Hold7L (w1 W : World) (D3 : Nat) (p : PkR) (Dy : Nat) (y : PkR) (b o : Nat) (x : List UInt8) (n : Int) (ta : Option Addr) (tl tc : Nat) (t : List Nd) : Prop where
  p : PkAt W D3 p
  y : PkAt W Dy y
  c0 : W.cell? ⟨b, o, none⟩ = some (.string ⟨x.toArray⟩)
  c1 : W.cell? ⟨b, o + 1, none⟩ = some (.int .i64 n)
  c2 : W.cell? ⟨b, o + 2, none⟩ = some (.slice ta tl tc)
  bl : b < W.heap.size
  t : NodesIn W ta tl t
  h : Below w1.heap.size w1 W

section
variable {w1 W W' : World} {D3 : Nat} {p : PkR} {Dy : Nat} {y : PkR} {b o : Nat} {x : List UInt8} {n : Int} {ta : Option Addr} {tl tc : Nat} {t : List Nd}
theorem Hold7L.below (g : Hold7L w1 W D3 p Dy y b o x n ta tl tc t) (hb : Below W.heap.size W W') : Hold7L w1 W' D3 p Dy y b o x n ta tl tc t :=
  ⟨g.p.below hb, g.y.below hb, (hb.cell (p := ⟨b, o, none⟩) g.bl).trans g.c0, (hb.cell (p := ⟨b, o + 1, none⟩) g.bl).trans g.c1, (hb.cell (p := ⟨b, o + 2, none⟩) g.bl).trans g.c2, Nat.lt_of_lt_of_le g.bl hb.size, g.t.below hb, g.h.trans (hb.mono g.h.size)⟩
theorem Hold7L.alloc (g : Hold7L w1 W D3 p Dy y b o x n ta tl tc t) (ob : Obj) : Hold7L w1 (W.alloc ob) D3 p Dy y b o x n ta tl tc t := g.below ((Below.refl _ _).alloc (Nat.le_refl _) _)
theorem Hold7L.drew (g : Hold7L w1 W D3 p Dy y b o x n ta tl tc t) : Hold7L w1 W.drew D3 p Dy y b o x n ta tl tc t :=
  g.below ((Below.refl _ _).grown (grown_drew W none) (Nat.le_refl _) (fun k e => by cases e))
/-- A block made behind all that is held is written. -/
theorem Hold7L.wrote (g : Hold7L w1 W D3 p Dy y b o x n ta tl tc t) {E : Nat} {V : World} (hb : Below E W V) (hE : W.heap.size ≤ E) : Hold7L w1 V D3 p Dy y b o x n ta tl tc t := g.below (hb.mono hE)
end

/-- A block of zero cells that was made ahead of a call. -/
theorem zero_at {W V : World} (hb : Below (W.alloc (.cells #[.string ⟨#[]⟩, .int .i64 0, .slice none 0 0] 37)).drew.heap.size (W.alloc (.cells #[.string ⟨#[]⟩, .int .i64 0, .slice none 0 0] 37)).drew V) :
    Box3 V W.heap.size (.string ⟨#[]⟩) (.int .i64 0) (.slice none 0 0) ∧ (∀ j, V.frozen? ⟨W.heap.size, j, none⟩ = false) ∧ Below W.heap.size W V := by
  obtain ⟨b1, hb1⟩ := Box3.new W (.string ⟨#[]⟩) (.int .i64 0) (.slice none 0 0) 37
  have hA := heap_alloc_new W (.cells #[.string ⟨#[]⟩, .int .i64 0, .slice none 0 0] 37)
  have hsz : (W.alloc (.cells #[.string ⟨#[]⟩, .int .i64 0, .slice none 0 0] 37)).heap.size = W.heap.size + 1 := by simp
  generalize W.alloc (.cells #[.string ⟨#[]⟩, .int .i64 0, .slice none 0 0] 37) = X at b1 hb1 hA hb hsz
  have hX : Below X.heap.size X V := ((Below.refl _ _).grown (grown_drew X none) (Nat.le_refl _) (fun k e => by cases e)).trans hb
  refine ⟨b1.below hX, fun j => (hX.frozen (p := ⟨W.heap.size, j, none⟩) (by show W.heap.size < _; omega)).trans (by simp [World.frozen?, hA]), hb1.trans (hX.mono (by omega))⟩

/-- What was found, put into such a block. -/
theorem zero_fn {W V Y : World} {base : Nat} {x : List UInt8} {n : Int} {za : Option Addr} {zc : Nat} {t : List Nd} (_hbz : Below W.heap.size W V) (ho : V.ownsRow base 76 4 (.slice za t.length zc) t.length (nodesV t)) (hbase : W.heap.size < base) (hg : V.grownBy Y (some W.heap.size))
    (y0 : Y.cell? ⟨W.heap.size, 0, none⟩ = some (.string ⟨x.toArray⟩)) (y1 : Y.cell? ⟨W.heap.size, 1, none⟩ = some (.int .i64 n)) (y2 : Y.cell? ⟨W.heap.size, 2, none⟩ = some (.slice za t.length zc)) : FnAt Y W.heap.size ⟨x, n, za, zc, t⟩ := by
  have hoY := ho.kept hg (own_off ho hbase)
  obtain ⟨_, a, c, e, hin⟩ := own_nodes hoY
  injection e with e1
  subst e1
  exact ⟨⟨y0, y1, y2⟩, hin⟩

end Go.Proofs.YtibppdepgoiojaaGreatDoor

/-! Plain facts for ReadPackage: line by line, and how long its parts are. -/
namespace Go.Proofs.YtibppdepgoiojaaGreatDoor
open Go.RowKit

theorem readLs_step (p : Pk) (ls : List (List UInt8)) (k : Nat) (hk : k < ls.length) : readLs p (ls.drop k) = match readLn p (ls.getD k []) with | none => none | some q => readLs q (ls.drop (k + 1)) := by
  have e : ls.getD k [] = ls[k] := by rw [List.getD_eq_getElem?_getD, List.getElem?_eq_getElem hk]; rfl
  rw [List.drop_eq_getElem_cons hk, e, readLs]
  cases readLn p ls[k] <;> rfl

theorem readLs_none {p : Pk} {ls : List (List UInt8)} {k : Nat} (hk : k < ls.length) (h : readLn p (ls.getD k []) = none) : readLs p (ls.drop k) = none := by rw [readLs_step p ls k hk, h]
theorem readLs_some {p q : Pk} {ls : List (List UInt8)} {k : Nat} (hk : k < ls.length) (h : readLn p (ls.getD k []) = some q) : readLs p (ls.drop k) = readLs q (ls.drop (k + 1)) := by rw [readLs_step p ls k hk, h]

theorem rp_no {l : List UInt8} (h : readPB l = false) : readPB l = false ∧ readPV l = pk0 := ⟨h, by unfold readPV; rw [if_neg (by rw [h]; simp)]⟩
theorem rp_long {l : List UInt8} (h : ¬ l.length ≤ 20000) : readPB l = false ∧ readPV l = pk0 := rp_no (by unfold readPB; rw [decide_eq_false h]; rfl)
theorem rp_none {l : List UInt8} (h : readLs pk0 (linesL l) = none) : readPB l = false ∧ readPV l = pk0 := rp_no (by unfold readPB; rw [h]; simp)
theorem rp_bad {l : List UInt8} {p : Pk} (h : readLs pk0 (linesL l) = some p) (hp : pkgB p = false ∨ showP p ≠ l) : readPB l = false ∧ readPV l = pk0 := rp_no (by
  unfold readPB
  rw [h]
  rcases hp with hp | hp
  · simp [hp]
  · simp [hp])
theorem rp_yes {l : List UInt8} {p : Pk} (hl : l.length ≤ 20000) (h : readLs pk0 (linesL l) = some p) (hp : pkgB p = true) (hs : showP p = l) : readPB l = true ∧ readPV l = p := by
  have : readPB l = true := by unfold readPB; rw [h]; simp [hp, hs, hl]
  exact ⟨this, by unfold readPV; rw [if_pos this, h]; rfl⟩

theorem mem_flat {x : List UInt8} : ∀ {ls : List (List UInt8)}, x ∈ ls → x.length ≤ ls.flatten.length
  | y :: r, h => by
    rw [List.flatten_cons, List.length_append]
    rcases List.mem_cons.1 h with rfl | h
    · omega
    · have := mem_flat h; omega

theorem getD_mem {α : Type} (ls : List α) (j : Nat) (d : α) (hj : j < ls.length) : ls.getD j d ∈ ls := by
  rw [List.getD_eq_getElem?_getD, List.getElem?_eq_getElem hj]; exact List.getElem_mem hj

theorem word_len (b : UInt8) (x : List UInt8) (j : Nat) : ((splitL b x).getD j []).length ≤ x.length := by
  by_cases hj : j < (splitL b x).length
  · have h1 := mem_flat (getD_mem (splitL b x) j [] hj)
    have h2 := splitGo_flat b x []
    unfold splitL at h1 ⊢
    simp at h2
    simp only [List.length_flatten] at h1
    omega
  · rw [List.getD_eq_getElem?_getD, List.getElem?_eq_none (by omega)]; simp

theorem line_len (l : List UInt8) (j : Nat) : ((linesL l).getD j []).length ≤ l.length := by
  by_cases hj : j < (linesL l).length
  · have h0 := getD_mem (linesL l) j [] hj
    have hm : (linesL l).getD j [] ∈ splitL 10 l := by
      unfold linesL at h0 ⊢
      split
      · rename_i h; rw [if_pos h] at h0; exact (List.dropLast_sublist _).subset h0
      · rename_i h; rw [if_neg h] at h0; exact h0
    have h1 := mem_flat hm
    have h2 := splitGo_flat 10 l []
    unfold splitL at h1
    simp at h2
    simp only [List.length_flatten] at h1
    omega
  · rw [List.getD_eq_getElem?_getD, List.getElem?_eq_none (by omega)]; simp

/-- A line of more than three words goes past the two blanks behind them. -/
theorem func_line {x : List UInt8} (h0 : (splitL 32 x).getD 0 [] = kwFunc) (h3 : 3 < (splitL 32 x).length) : ((splitL 32 x).getD 1 []).length + ((splitL 32 x).getD 2 []).length + 7 ≤ x.length := by
  have hj := joinBy_split 32 x []
  rw [List.nil_append] at hj
  change joinBy 32 (splitL 32 x) = x at hj
  rcases hs : splitL 32 x with _ | ⟨a, _ | ⟨b, _ | ⟨c, _ | ⟨d, r⟩⟩⟩⟩
  · rw [hs] at h3; simp at h3
  · rw [hs] at h3; simp at h3
  · rw [hs] at h3; simp at h3
  · rw [hs] at h3; simp at h3
  · rw [hs] at hj h0
    rw [joinBy_front 32 a b c (d :: r) (by simp)] at hj
    simp at h0
    have hl := congrArg List.length hj
    subst h0
    simp [kwFunc] at hl
    simp
    omega

/-- How long the parts of a package are. -/
structure ShortP (nm : List UInt8) (ims : List (List UInt8)) (fs : List Fn) : Prop where
  n : nm.length ≤ 1048576
  i : ∀ j, (ims.getD j []).length ≤ 1048576
  f : ShortF fs

theorem shortP0 : ShortP [] [] [] := ⟨by simp, fun j => by simp, fun j => by simp [fn0, ShortT, nd0]⟩

theorem ShortP.imp {nm : List UInt8} {ims : List (List UInt8)} {fs : List Fn} (h : ShortP nm ims fs) {x : List UInt8} (hx : x.length ≤ 1048576) : ShortP nm (ims ++ [x]) fs := by
  refine ⟨h.n, fun j => ?_, h.f⟩
  by_cases hj : j < ims.length
  · rw [List.getD_eq_getElem?_getD, List.getElem?_append_left hj, ← List.getD_eq_getElem?_getD]; exact h.i j
  · rw [List.getD_eq_getElem?_getD, List.getElem?_append_right (by omega)]
    cases h' : j - ims.length with
    | zero => simpa using hx
    | succ m => simp

theorem ShortP.fn {nm : List UInt8} {ims : List (List UInt8)} {fs : List Fn} (h : ShortP nm ims fs) {f : Fn} (hf : f.1.length ≤ 1048576 ∧ f.2.2.length ≤ 1048576 ∧ ShortT f.2.2) : ShortP nm ims (fs ++ [f]) := by
  refine ⟨h.n, h.i, fun j => ?_⟩
  by_cases hj : j < fs.length
  · rw [List.getD_eq_getElem?_getD, List.getElem?_append_left hj, ← List.getD_eq_getElem?_getD]; exact h.f j
  · rw [List.getD_eq_getElem?_getD, List.getElem?_append_right (by omega)]
    cases h' : j - fs.length with
    | zero => simpa using hf
    | succ m => simp [fn0, ShortT, nd0]

theorem short_nodes {t : List Nd} (h : ∀ n ∈ t, nodeB n = true) : ShortT t := fun j => by
  by_cases hj : j < t.length
  · have hn := h _ (getD_mem t j nd0 hj)
    generalize t.getD j nd0 = n at hn
    obtain ⟨k, a, p, f⟩ := n
    have hp := nodeB_iff.1 hn
    unfold nodeP at hp
    simp only at hp ⊢
    rcases hp with ⟨rfl, _, rfl, rfl⟩ | ⟨rfl, _, rfl, rfl⟩ | ⟨hk, rfl, rfl, rfl⟩ | ⟨rfl, _, hpn, hfn⟩
    · simp
    · simp
    · simp
    · have h1 := (name_letters hpn).1
      have h2 := (name_letters hfn).1
      omega
  · rw [List.getD_eq_getElem?_getD, List.getElem?_eq_none (by omega)]; simp [nd0]

theorem readTV_short (s : List UInt8) : (readTV s).length ≤ 1048576 ∧ ShortT (readTV s) := by
  unfold readTV
  split
  · rename_i h
    unfold readOk at h
    simp only [Bool.and_eq_true] at h
    have ht := h.2.1
    exact ⟨by have := (tree_end ht).1.2; omega, short_nodes (tree_nodes ht)⟩
  · exact ⟨by simp, fun j => by simp [nd0]⟩

end Go.Proofs.YtibppdepgoiojaaGreatDoor
