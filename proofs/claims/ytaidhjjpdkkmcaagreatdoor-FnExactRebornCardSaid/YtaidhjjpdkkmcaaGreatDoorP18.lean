/-
  Parts of one proof, one behind the other: HeapI, EqT, FnE, ProjL, CellA.
-/
import Derived.Test.YtaidhjjpdkkmcaaGreatDoorP17
import Derived.Test.YtaidhjjpdkkmcaaGreatDoorP5
import Derived.Test.YtaidhjjpdkkmcaaGreatDoorP11
import Derived.Deep.RegionHeld3
import Derived.Lib.Hide
import Derived.Test.YtaidhjjpdkkmcaaGreatDoorP4
import Derived.Test.YtaidhjjpdkkmcaaGreatDoorP10
import Derived.Test.YtaidhjjpdkkmcaaGreatDoorP9

/-! The contracts of the landed heap of places: its methods. -/
namespace Go.Proofs.YtaidhjjpdkkmcaaGreatDoor
open Go.RowKit

def natV (l : List Nat) : List Value := l.map (fun x : Nat => Value.int .i64 (x : Int))
theorem natV_at (l : List Nat) (j : Nat) (h : j < l.length) : (natV l)[j]? = some (.int .i64 ((l.getD j 0 : Nat) : Int)) := by
 simp [natV, List.getD, List.getElem?_eq_getElem h]
theorem natV_snoc (l : List Nat) (x : Nat) : natV l ++ [.int .i64 (x : Int)] = natV (l ++ [x]) := by simp [natV]
theorem natV_set (l : List Nat) (i x : Nat) : (natV l).set i (.int .i64 (x : Int)) = natV (l.set i x) := by simp [natV, List.map_set]
theorem natV_take (l : List Nat) (m : Nat) : (natV l).take m = natV (l.take m) := by simp [natV, List.map_take]
theorem nat_cell {w : World} {B g cp n : Nat} {l : List Nat} (h : w.ownsRow B 3 1 (.slice (some ⟨g, 0, none⟩) n cp) n (natV l)) (hn : l.length = n) (j : Nat) (hj : j < n) : w.cell? ⟨g, j, none⟩ = some (.int .i64 ((l.getD j 0 : Nat) : Int)) := by
 rw [h.cellAt j (by omega), natV_at l j (by omega)]

theorem upLen (a : Option Addr) (n c : Nat) (w : World) : Calls Tryz.prog 145 #[.slice a n c] w fun e w' => e = .returned (.int .i64 (n : Int)) ∧ w' = w := by
 go_enter Tryz.func145, Tryz.ntmps145
 go_wp2
 go_ret
 exact ⟨rfl, rfl⟩
set_option maxHeartbeats 1000000 in
set_option maxRecDepth 100000 in
theorem upLess (B g cp n : Nat) (l : List Nat) (i j : Nat) (w : World) (h : w.ownsRow B 3 1 (.slice (some ⟨g, 0, none⟩) n cp) n (natV l)) (hn : l.length = n) (hi : i < n) (hj : j < n) :
 Calls Tryz.prog 226 #[.slice (some ⟨g, 0, none⟩) n cp, .int .i64 (i : Int), .int .i64 (j : Int)] w fun e w' => e = .returned (.bool (decide (l.getD i 0 < l.getD j 0))) ∧ Below w.heap.size w w' := by
 have c1 := nat_cell h hn i hi
 have c2 := nat_cell h hn j hj
 obtain ⟨x, hx⟩ : ∃ x, l.getD i 0 = x := ⟨_, rfl⟩
 obtain ⟨y, hy⟩ : ∃ y, l.getD j 0 = y := ⟨_, rfl⟩
 rw [hx] at c1 ⊢
 rw [hy] at c2 ⊢
 have hi2 : (i : Int) < (n : Int) := by omega
 have hj2 : (j : Int) < (n : Int) := by omega
 clear h hn hi hj hx hy
 go_enter Tryz.func226, Tryz.ntmps226
 go_wp2_with fail
 go_quiet (fail)
 go_wp2
 go_ret
 exact ⟨rfl, ⟨rfl, rfl, rfl, Nat.le_refl _, fun _ _ => rfl⟩⟩
set_option maxHeartbeats 2000000 in
set_option maxRecDepth 100000 in
theorem upSwap (B g cp n : Nat) (l : List Nat) (i j : Nat) (w : World) (h : w.ownsRow B 3 1 (.slice (some ⟨g, 0, none⟩) n cp) n (natV l)) (hn : l.length = n) (hi : i < n) (hj : j < n) :
 Calls Tryz.prog 229 #[.slice (some ⟨g, 0, none⟩) n cp, .int .i64 (i : Int), .int .i64 (j : Int)] w fun e w' => e = .returned (.tuple #[]) ∧ w'.ownsRow B 3 1 (.slice (some ⟨g, 0, none⟩) n cp) n (natV (sw l i j)) ∧ w.grownBy w' (some g) := by
 have c1 := nat_cell h hn i hi
 have c2 := nat_cell h hn j hj
 obtain ⟨s1, g1⟩ := h.stored i (.int .i64 ((l.getD j 0 : Nat) : Int))
 obtain ⟨s2, g2⟩ := s1.stored j (.int .i64 ((l.getD i 0 : Nat) : Int))
 have hg := g1.trans g2
 rw [natV_set, natV_set] at s2
 have HS : Hid (((w.setCell ⟨g, i, none⟩ (.int .i64 ((l.getD j 0 : Nat) : Int))).setCell ⟨g, j, none⟩ (.int .i64 ((l.getD i 0 : Nat) : Int))).ownsRow B 3 1 (.slice (some ⟨g, 0, none⟩) n cp) n (natV (sw l i j))) := s2
 have HG : Hid (w.grownBy ((w.setCell ⟨g, i, none⟩ (.int .i64 ((l.getD j 0 : Nat) : Int))).setCell ⟨g, j, none⟩ (.int .i64 ((l.getD i 0 : Nat) : Int))) (some g)) := hg
 obtain ⟨x, hx⟩ : ∃ x, l.getD i 0 = x := ⟨_, rfl⟩
 obtain ⟨y, hy⟩ : ∃ y, l.getD j 0 = y := ⟨_, rfl⟩
 rw [hx] at c1 HS HG
 rw [hy] at c2 HS HG
 have hi2 : (i : Int) < (n : Int) := by omega
 have hj2 : (j : Int) < (n : Int) := by omega
 have f1 := h.frozenAt i
 have f2 := s1.frozenAt j
 have d2 : (w.setCell ⟨g, i, none⟩ (.int .i64 ((l.getD j 0 : Nat) : Int))).cell? ⟨g, j, none⟩ = some (.int .i64 ((l.getD j 0 : Nat) : Int)) := by
  have s1' := s1
  rw [natV_set] at s1'
  rw [nat_cell s1' (by rw [List.length_set]; exact hn) j hj, getD_set (by omega)]
  split <;> rfl
 rw [hy] at f2 d2
 clear h hn hi hj hx hy s1 g1 s2 g2 hg
 go_enter Tryz.func229, Tryz.ntmps229
 go_wp2_with fail
 go_region
 go_wp2
 go_end0
 exact ⟨rfl, own_none HS.out ⟨rfl, rfl, rfl, Nat.le_refl _, fun _ _ _ => rfl⟩, HG.out.trans ⟨rfl, rfl, rfl, Nat.le_refl _, fun _ _ _ => rfl⟩⟩

theorem info3 : (Tryz.prog.info? 3).map (fun i => (i.zero, i.size, i.bytes)) = some (some (.int .i64 0), 1, 8) := by kernel_rfl
theorem push_nat {X : World} {B : Nat} {v : Value} {n : Nat} {l : List Nat} (T : TypeId) (hT : Tryz.prog.underlying T = some (.slice 3)) (x : Nat) (hv : X.ownsRow B 3 1 v n (natV l)) (hb : B ≤ X.heap.size) (hn : n ≤ 1048576) :
 ∃ v' Y, (Builtin.append_ #[T, T] T #[v, .slice (some ⟨X.heap.size, 0, none⟩) 1 1]).run Tryz.prog (X.alloc (.cells #[.int .i64 (x : Int)] 3)) = .ok v' Y ∧ Y.ownsRow B 3 1 v' (n + 1) (natV (l ++ [x])) ∧ X.grownBy Y v.ownBlock ∧ (v'.ownBlock = v.ownBlock ∨ v'.ownBlock = some (X.heap.size + 1)) := by
 obtain ⟨i0, hi, hz0, hz1, hz2⟩ := info_parts info3
 obtain ⟨v', Y, hrun, hown, hg, _, hat⟩ := run_append_own_at (P := Tryz.prog) (X.alloc (.cells #[.int .i64 (x : Int)] 3)) B T T 3 i0 _ 1 8 hT hi hz0 hz1 hz2 rfl (by decide) _ _ _ (hv.alloc _) ⟨X.heap.size, 0, none⟩ 1 1 (natV [x]) rfl (fun j u hu => cell_one_new X _ 3 j u hu) (fun u hu => by simp [natV] at hu; subst hu; rfl) (by unfold maxLen; omega) (by omega) (by simp; omega)
 exact ⟨v', Y, hrun, by rw [← natV_snoc]; exact hown, (World.grownBy_alloc X _ _).trans hg, by simpa using hat⟩

/-- A heap of places: the pointer's block, and the row. -/
structure HpIn (w : World) (B nb : Nat) (v : Value) (l : List Nat) : Prop where
 box : w.ownsRow B 176 1 (.slice (some ⟨nb, 0, none⟩) 1 1) 1 [v]
 row : w.ownsRow B 3 1 v l.length (natV l)
theorem HpIn.cell {w : World} {B nb : Nat} {v : Value} {l : List Nat} (h : HpIn w B nb v l) : w.cell? ⟨nb, 0, none⟩ = some v := by rw [h.box.cellAt 0 (by decide)]; rfl
theorem HpIn.ne {w : World} {B nb : Nat} {v : Value} {l : List Nat} (h : HpIn w B nb v l) : v.ownBlock ≠ some nb := by
 rcases own_types h.box h.row (by decide) with e | e
 ·
  cases e
 ·
  exact fun e2 => e e2.symm
theorem HpIn.lt {w : World} {B nb : Nat} {v : Value} {l : List Nat} (h : HpIn w B nb v l) : B ≤ nb ∧ nb < w.heap.size := h.box.lt nb rfl
theorem HpIn.idle {w w' : World} {B nb : Nat} {v : Value} {l : List Nat} (h : HpIn w B nb v l) (hg : w.grownBy w' none) : HpIn w' B nb v l := ⟨own_none h.box hg, own_none h.row hg⟩
theorem HpIn.below {w w' : World} {B nb : Nat} {v : Value} {l : List Nat} (h : HpIn w B nb v l) (hg : Below w.heap.size w w') : HpIn w' B nb v l := ⟨own_below h.box hg, own_below h.row hg⟩
theorem HpIn.wrote {w w' : World} {B nb : Nat} {v : Value} {l : List Nat} {S : Nat → Prop} (h : HpIn w B nb v l) (hg : Wrote w w' S) (hb : ¬ S nb) (hv : ∀ k, v.ownBlock = some k → ¬ S k) : HpIn w' B nb v l :=
 ⟨own_wrote h.box hg (fun k e => by injection e with e; rw [← e]; exact hb), own_wrote h.row hg hv⟩
/-- The row is written. -/
theorem HpIn.swapped {w w' : World} {B nb g n cp : Nat} {l l' : List Nat} (h : HpIn w B nb (.slice (some ⟨g, 0, none⟩) n cp) l) (hr : w'.ownsRow B 3 1 (.slice (some ⟨g, 0, none⟩) n cp) n (natV l')) (hl : l'.length = n) (hg : w.grownBy w' (some g)) : HpIn w' B nb (.slice (some ⟨g, 0, none⟩) n cp) l' :=
 ⟨h.box.kept hg (Or.inr (fun e => h.ne e.symm)), by rw [hl]; exact hr⟩
/-- Where a row that has grown lies. -/
def NewAt (w : World) (v v' : Value) : Prop := ∀ k, v'.ownBlock = some k → v.ownBlock = some k ∨ w.heap.size ≤ k

theorem asInt (x : Nat) (W : World) : (Instr.typeAssert (.iface 3 (.int .i64 (x : Int))) 20 3 false).run Tryz.prog W = .ok (.int .i64 (x : Int)) W := by kernel_rfl
set_option maxHeartbeats 2000000 in
set_option maxRecDepth 100000 in
theorem upPush (B nb : Nat) (v : Value) (l : List Nat) (x : Nat) (w : World) (h : HpIn w B nb v l) (hl : l.length ≤ 1000) :
 Calls Tryz.prog 228 #[.pointer (some ⟨nb, 0, none⟩), .iface 3 (.int .i64 (x : Int))] w fun e w' => e = .returned (.tuple #[]) ∧ ∃ v', HpIn w' B nb v' (l ++ [x]) ∧ Wrote w w' (fun k => k = nb ∨ v.ownBlock = some k) ∧ NewAt w v v' := by
 have hlt := h.lt
 obtain ⟨v', Y, hrun, hown, hg, hat⟩ := push_nat 176 Tryz.underlying176 x (h.idle (grown_drew w none)).row (by simp; omega) (by omega)
 have hne : some nb ≠ v.ownBlock := fun e => h.ne e.symm
 obtain ⟨g', c', rfl⟩ := own_some hown (by omega)
 have hboxY : Y.ownsRow B 176 1 (.slice (some ⟨nb, 0, none⟩) 1 1) 1 [v] := (h.idle (grown_drew w none)).box.kept hg (Or.inr hne)
 obtain ⟨hst, hgs⟩ := hboxY.stored 0 (.slice (some ⟨g', 0, none⟩) (l.length + 1) c')
 have HE : Hid (HpIn (Y.setCell ⟨nb, 0, none⟩ (.slice (some ⟨g', 0, none⟩) (l.length + 1) c')) B nb (.slice (some ⟨g', 0, none⟩) (l.length + 1) c') (l ++ [x])) := ⟨hst, by
  have := hown.kept hgs (own_types hown hboxY (by decide))
  rw [List.length_append, List.length_singleton]; exact this⟩
 have HW : Hid (Wrote w (Y.setCell ⟨nb, 0, none⟩ (.slice (some ⟨g', 0, none⟩) (l.length + 1) c')) (fun k => k = nb ∨ v.ownBlock = some k)) := ((Wrote.of_grown (grown_drew w none) (fun k e => by cases e)).trans (Wrote.of_grown hg (fun k e => Or.inr e))).trans (Wrote.of_grown hgs (fun k e => by injection e with e; exact Or.inl e.symm))
 have HN : Hid (NewAt w v (.slice (some ⟨g', 0, none⟩) (l.length + 1) c')) := fun k e => by
  rcases hat with h1 | h1
  ·
   exact Or.inl (by rw [← h1]; exact e)
  ·
   rw [h1] at e; injection e with e; right; rw [← e]; simp
 have c0 := h.cell
 have c1 : (w.alloc (.cells #[.int .i64 (x : Int)] 3)).cell? ⟨nb, 0, none⟩ = some v := by rw [(h.box.alloc _).cellAt 0 (by decide)]; rfl
 have cY : Y.cell? ⟨nb, 0, none⟩ = some v := by rw [hboxY.cellAt 0 (by decide)]; rfl
 have fY := hboxY.frozenAt 0
 have hta : ∀ W : World, (Instr.typeAssert (.iface 3 (.int .i64 (x : Int))) 20 3 false).run Tryz.prog W = .ok (.int .i64 (x : Int)) W := asInt x
 change (Builtin.append_ _ _ _).run Tryz.prog (w.alloc (.cells #[.int .i64 (x : Int)] 3)).drew = _ at hrun
 clear h hlt hown hg hat hne hboxY hst hgs
 go_enter Tryz.func228, Tryz.ntmps228
 go_wp2_with fail
 go_region_law (first | (refine step_append_run (by rfl) (.tmp 7) (.tmp 10) 176 (by rfl) _ _ _ (by rfl) (by rfl) hrun ?_))
 all_goals
  go_wp2
  go_end0
  exact ⟨rfl, _, HE.out, HW.out, HN.out⟩

end Go.Proofs.YtaidhjjpdkkmcaaGreatDoor

/-! The laws' own helper eqStringS over texts that can be read. -/
namespace Go.Proofs.YtaidhjjpdkkmcaaGreatDoor
open Go.RowKit

set_option maxHeartbeats 1000000 in
set_option maxRecDepth 100000 in
theorem eqTextsC (a b : Option Addr) (len ca cb : Nat) (ts : List (List UInt8)) (w : World) (ha : TextsIn w a len ts) (hb : TextsIn w b len ts) (hlen : len ≤ 4194304) :
 Calls Tryz.prog 66 #[.slice a len ca, .slice b len cb] w fun e w' => e = .returned (.bool true) ∧ Below w.heap.size w w' := by
 have hne : ((len : Int) != (len : Int)) = false := by simp
 have hself : ∀ l : List UInt8, (l != l) = false := by simp
 have HA : Hid (TextsIn w a len ts) := ha
 have HB : Hid (TextsIn w b len ts) := hb
 clear ha hb
 go_enter Tryz.func66, Tryz.ntmps66
 go_wp2
 go_loopw [5] (fun i wr => ∃ k : Nat, k ≤ len ∧ i = .int .i64 k ∧ Below w.heap.size w wr) (fun i _ => len - (intOf i).toNat)
 case atStart => exact ⟨0, Nat.zero_le _, rfl, Below.refl _ _⟩
 case round =>
  obtain ⟨k, hk, rfl, hB⟩ := hrel
  by_cases hkl : (k : Int) < (len : Int)
  ·
   obtain ⟨b1, o1, rfl, hb1, hca⟩ := (HA.out.below hB).2 k (by omega)
   obtain ⟨b2, o2, rfl, hb2, hcb⟩ := (HB.out.below hB).2 k (by omega)
   obtain ⟨t, ht⟩ : ∃ t, ts.getD k [] = t := ⟨_, rfl⟩
   rw [ht] at hca hcb
   clear ht
   go_wp2
   go_region
   all_goals (try go_wp2)
   go_roundw
   case rel => exact ⟨k + 1, by omega, by go_num, hB.drew⟩
   case measure => simp [intOf]; omega
  ·
   go_wp2
   go_ret
   exact ⟨rfl, hB⟩

end Go.Proofs.YtaidhjjpdkkmcaaGreatDoor

/-! The laws' own helpers over functions and packages: eqFunc, eqFuncS, eqStringS over texts that can be read, eqPackage. -/
namespace Go.Proofs.YtaidhjjpdkkmcaaGreatDoor
open Go.RowKit

set_option maxHeartbeats 1000000 in
set_option maxRecDepth 100000 in
theorem eqFuncC (s : List UInt8) (n : Int) (t : List Nd) (ta tb : Option Addr) (tl ca cb : Nat) (w : World) (ha : NodesIn w ta tl t) (hb : NodesIn w tb tl t) (hlen : tl ≤ 4194304) :
 Calls Tryz.prog 99 #[.agg #[.string ⟨s.toArray⟩, .int .i64 n, .slice ta tl ca], .agg #[.string ⟨s.toArray⟩, .int .i64 n, .slice tb tl cb]] w fun e w' => e = .returned (.bool true) ∧ Below w.heap.size w w' := by
 have h1 : ∀ n : Int, (n != n) = false := by simp
 have h2 : ∀ l : List UInt8, (l != l) = false := by simp
 have hbW : Below w.heap.size w ((w.alloc (.cells #[.string ⟨s.toArray⟩, .int .i64 n, .slice ta tl ca] 98)).alloc (.cells #[.string ⟨s.toArray⟩, .int .i64 n, .slice tb tl cb] 98)) := ((Below.refl _ _).alloc (Nat.le_refl _) _).alloc (by simp) _
 have HC := eqNodeSC ta tb tl ca cb t _ (ha.below hbW) (hb.below hbW) hlen
 clear ha hb
 go_enter Tryz.func99, Tryz.ntmps99
 go_wp2_with fail
 refine HC.mono ?_
 rintro e w1 ⟨rfl, hb1⟩
 have hbd : Below w.heap.size w w1 := hbW.trans (hb1.mono hbW.size)
 clear HC hb1 hbW
 go_wp2
 go_ret
 exact ⟨rfl, hbd⟩

set_option maxHeartbeats 2000000 in
set_option maxRecDepth 100000 in
theorem eqFuncSC (a b : Option Addr) (len ca cb : Nat) (fs : List Fn) (w : World) (ha : FuncsIn w a len fs) (hb : FuncsIn w b len fs) (hlen : len ≤ 4194304) (hsh : ∀ j, (fs.getD j fn0).2.2.length ≤ 4194304) :
 Calls Tryz.prog 67 #[.slice a len ca, .slice b len cb] w fun e w' => e = .returned (.bool true) ∧ Below w.heap.size w w' := by
 have HA : Hid (FuncsIn w a len fs) := ha
 have HB : Hid (FuncsIn w b len fs) := hb
 have HSH : Hid (∀ j, (fs.getD j fn0).2.2.length ≤ 4194304) := hsh
 clear ha hb hsh
 have h1 : ((len : Int) != (len : Int)) = false := by simp
 go_enter Tryz.func67, Tryz.ntmps67
 go_wp2
 go_loopw [5] (fun i wr => ∃ k : Nat, k ≤ len ∧ i = .int .i64 k ∧ Below w.heap.size w wr) (fun i _ => len - (intOf i).toNat)
 case atStart => exact ⟨0, Nat.zero_le _, rfl, Below.refl _ _⟩
 case round =>
  obtain ⟨k, hk, rfl, hB⟩ := hrel
  by_cases hkl : (k : Int) < (len : Int)
  ·
   obtain ⟨b1, o1, rfl, hb1, x0, x1, ta, tl, tc, x2, _, hn1⟩ := (HA.out.below hB).2 k (by omega)
   obtain ⟨b2, o2, rfl, hb2, y0, y1, tb, tl2, tc2, y2, _, hn2⟩ := (HB.out.below hB).2 k (by omega)
   have hts := HSH.out k
   obtain ⟨f, hf⟩ : ∃ f, fs.getD k fn0 = f := ⟨_, rfl⟩
   rw [hf] at x0 x1 y0 y1 hn1 hn2 hts
   obtain ⟨s, n, t⟩ := f
   simp only at x0 x1 y0 y1 hn1 hn2 hts
   obtain rfl : t.length = tl := hn1.1
   obtain rfl : t.length = tl2 := hn2.1
   have hn1' : NodesIn wr.drew ta t.length t := hn1.below ⟨rfl, rfl, rfl, Nat.le_refl _, fun _ _ => rfl⟩
   have hn2' : NodesIn wr.drew tb t.length t := hn2.below ⟨rfl, rfl, rfl, Nat.le_refl _, fun _ _ => rfl⟩
   clear hf hn1 hn2
   go_wp2
   go_region_held3 (fun w' => w'.cell? ⟨b1, o1 + k * 3, none⟩ = some (.string ⟨s.toArray⟩) ∧ w'.cell? ⟨b1, o1 + k * 3 + 1, none⟩ = some (.int .i64 n) ∧ w'.cell? ⟨b1, o1 + k * 3 + 2, none⟩ = some (.slice ta t.length tc) ∧ w'.cell? ⟨b2, o2 + k * 3, none⟩ = some (.string ⟨s.toArray⟩) ∧ w'.cell? ⟨b2, o2 + k * 3 + 1, none⟩ = some (.int .i64 n) ∧ w'.cell? ⟨b2, o2 + k * 3 + 2, none⟩ = some (.slice tb t.length tc2)) (go_keep) (first | (go_at_call 99; refine (eqFuncC s n t ta tb t.length tc tc2 _ hn1' hn2' hts).mono ?_; rintro e w1 ⟨rfl, hw1⟩; have d0 : w1.cell? ⟨b1, o1 + k * 3, none⟩ = some (.string ⟨s.toArray⟩) := (hw1.cell (p := ⟨b1, o1 + k * 3, none⟩) hb1).trans x0; have d1 : w1.cell? ⟨b1, o1 + k * 3 + 1, none⟩ = some (.int .i64 n) := (hw1.cell (p := ⟨b1, o1 + k * 3 + 1, none⟩) hb1).trans x1; have d2 : w1.cell? ⟨b1, o1 + k * 3 + 2, none⟩ = some (.slice ta t.length tc) := (hw1.cell (p := ⟨b1, o1 + k * 3 + 2, none⟩) hb1).trans x2; have e0 : w1.cell? ⟨b2, o2 + k * 3, none⟩ = some (.string ⟨s.toArray⟩) := (hw1.cell (p := ⟨b2, o2 + k * 3, none⟩) hb2).trans y0; have e1 : w1.cell? ⟨b2, o2 + k * 3 + 1, none⟩ = some (.int .i64 n) := (hw1.cell (p := ⟨b2, o2 + k * 3 + 1, none⟩) hb2).trans y1; have e2 : w1.cell? ⟨b2, o2 + k * 3 + 2, none⟩ = some (.slice tb t.length tc2) := (hw1.cell (p := ⟨b2, o2 + k * 3 + 2, none⟩) hb2).trans y2))
   all_goals go_wp2
   go_roundw
   case rel => exact ⟨k + 1, by omega, by go_num, hB.trans ⟨hw1.os, hw1.tape, hw1.output, hw1.size, fun q hq => hw1.block q (by have := hB.size; show q < wr.heap.size; omega)⟩⟩
   case measure => simp [intOf]; omega
  ·
   go_wp2
   go_ret
   exact ⟨rfl, hB⟩

set_option maxHeartbeats 2000000 in
set_option maxRecDepth 100000 in
theorem eqPackageC (nm : List UInt8) (ia ib fa fb : Option Addr) (il ica icb fl fca fcb : Nat) (ims : List (List UInt8)) (fs : List Fn) (w : World) (hia : TextsIn w ia il ims) (hib : TextsIn w ib il ims) (hfa : FuncsIn w fa fl fs) (hfb : FuncsIn w fb fl fs) (hil : il ≤ 4194304) (hfl : fl ≤ 4194304) (hsh : ∀ j, (fs.getD j fn0).2.2.length ≤ 4194304) :
 Calls Tryz.prog 26 #[.agg #[.string ⟨nm.toArray⟩, .slice ia il ica, .slice fa fl fca], .agg #[.string ⟨nm.toArray⟩, .slice ib il icb, .slice fb fl fcb]] w fun e w' => e = .returned (.bool true) ∧ Below w.heap.size w w' := by
 have h2 : ∀ l : List UInt8, (l != l) = false := by simp
 obtain ⟨sa, hBa⟩ := PkIn.new (w := w) (nm := nm) (ic := ica) (fc := fca) hia hfa
 obtain ⟨W1, hW1⟩ : ∃ W, w.alloc (.cells #[.string ⟨nm.toArray⟩, .slice ia il ica, .slice fa fl fca] 51) = W := ⟨_, rfl⟩
 rw [hW1] at sa hBa
 obtain ⟨sb, hBb⟩ := PkIn.new (w := W1) (nm := nm) (ic := icb) (fc := fcb) (hib.below hBa) (hfb.below hBa)
 obtain ⟨W, hW⟩ : ∃ W, W1.alloc (.cells #[.string ⟨nm.toArray⟩, .slice ib il icb, .slice fb fl fcb] 51) = W := ⟨_, rfl⟩
 rw [hW] at sb hBb
 have hs1 : W1.heap.size = w.heap.size + 1 := by rw [← hW1]; simp
 have sa2 := sa.below hBb
 have hB : Below w.heap.size w W := hBa.trans (hBb.mono hBa.size)
 rw [hs1] at sb
 have HC := eqTextsC ia ib il ica icb ims W sa2.i sb.i hil
 have k0 := sa2.k0
 have k1 := sa2.k1
 have k2 := sa2.k2
 have j0 := sb.k0
 have j1 := sb.k1
 have j2 := sb.k2
 clear hia hib hfa hfb sa hBa hBb
 go_enter Tryz.func26, Tryz.ntmps26
 go_wp2_with fail
 refine HC.mono ?_
 rintro e w1 ⟨rfl, hb1⟩
 have ta := sa2.below hb1
 have tb := sb.below hb1
 have HC2 := eqFuncSC fa fb fl fca fcb fs w1 ta.f tb.f hfl hsh
 have hB1 : Below w.heap.size w w1 := hB.trans (hb1.mono hB.size)
 replace k0 := ta.k0
 replace k1 := ta.k1
 replace k2 := ta.k2
 replace j0 := tb.k0
 replace j1 := tb.k1
 replace j2 := tb.k2
 clear HC hb1 sa2 sb hB
 go_wp2_with fail
 refine HC2.mono ?_
 rintro e w2 ⟨rfl, hb2⟩
 have hB2 : Below w.heap.size w w2 := hB1.trans (hb2.mono hB1.size)
 clear HC2 hb2 ta tb hB1 k0 k1 k2 j0 j1 j2
 go_wp2
 go_ret
 exact ⟨rfl, hB2⟩

end Go.Proofs.YtaidhjjpdkkmcaaGreatDoor

/-! The laws' own helpers over projects: szPackageS, eqPackageS. -/
namespace Go.Proofs.YtaidhjjpdkkmcaaGreatDoor
open Go.RowKit

def pkZ (p : Pk) : Nat := pkSz p.1 p.2.1 p.2.2
def psSz : List Pk → Nat
 | [] => 0
 | p :: r => pkZ p + psSz r
theorem psSz_append (x y : List Pk) : psSz (x ++ y) = psSz x + psSz y := by
 induction x with
 | nil => simp [psSz]
 | cons n r ih => simp only [List.cons_append, psSz, ih]; omega
theorem psSz_snoc (ps : List Pk) (k : Nat) (hk : k < ps.length) : psSz (ps.take (k + 1)) = psSz (ps.take k) + pkZ (ps.getD k pk0) := by
 have hg : ps.getD k pk0 = ps[k] := by simp [List.getD, hk]
 rw [hg, List.take_succ_eq_append_getElem hk, psSz_append]
 simp [psSz]
theorem psSz_take (ps : List Pk) (k : Nat) : psSz (ps.take k) ≤ psSz ps := by
 have := psSz_append (ps.take k) (ps.drop k)
 rw [List.take_append_drop] at this
 omega
theorem psSz_at (ps : List Pk) (j : Nat) : pkZ (ps.getD j pk0) ≤ psSz ps := by
 by_cases hj : j < ps.length
 ·
  have h1 := psSz_snoc ps j hj
  have h2 := psSz_take ps (j + 1)
  omega
 ·
  have : ps.getD j pk0 = pk0 := by rw [List.getD, List.getElem?_eq_none (by omega)]; rfl
  rw [this]; simp [pk0, pkZ, pkSz, joinN, fnsSz]
def LongPs (ps : List Pk) : Prop := ∀ j, (ps.getD j pk0).1.length ≤ maxLen ∧ (ps.getD j pk0).2.1.length ≤ maxLen ∧ (∀ i, ((ps.getD j pk0).2.1.getD i []).length ≤ maxLen) ∧ (ps.getD j pk0).2.2.length ≤ maxLen ∧ LongF (ps.getD j pk0).2.2
def IntPs (ps : List Pk) : Prop := ∀ j, IntF (ps.getD j pk0).2.2
theorem shortPs_of {ps : List Pk} (h : psSz ps ≤ 1048576) : ShortPs ps := fun j => by
 have h1 := psSz_at ps j
 obtain ⟨a, b, c, d, e⟩ := pk_small (nm := (ps.getD j pk0).1) (ims := (ps.getD j pk0).2.1) (fs := (ps.getD j pk0).2.2) (by unfold pkZ at h1; omega)
 exact ⟨c, a, d, b, e⟩

set_option maxHeartbeats 2000000 in
set_option maxRecDepth 100000 in
theorem szPackageSC (a : Option Addr) (len cap : Nat) (ps : List Pk) (left : Int) (w : World) (hin : PkgsIn w a len ps) (h0 : 0 ≤ left) (h1 : left ≤ 1048576) (hl : len ≤ maxLen) (hm : LongPs ps) :
 Calls Tryz.prog 4 #[.slice a len cap, .int .i64 left] w fun e w' => e = .returned (.int .i64 (szM (len + psSz ps) left)) ∧ Below w.heap.size w w' := by
 unfold maxLen at hl
 have hl2 : (len : Int) ≤ 9223372036854775807 := by omega
 have hlb := hin.1
 by_cases h : (len : Int) ≤ left
 ·
  have hlen : len ≤ 1048576 := by omega
  have HI : Hid (PkgsIn w a len ps) := hin
  have HM : Hid (LongPs ps) := hm
  clear hin hm
  go_enter Tryz.func4, Tryz.ntmps4
  go_wp2
  go_loopw [1, 5] (fun l i wr => ∃ k : Nat, k ≤ len ∧ i = .int .i64 k ∧ l = .int .i64 (left - (len : Int) - (psSz (ps.take k) : Int)) ∧ (psSz (ps.take k) : Int) ≤ left - (len : Int) ∧ Below w.heap.size w wr) (fun _ i _ => len - (intOf i).toNat)
  case atStart => exact ⟨0, Nat.zero_le _, rfl, by simp [psSz], by simp [psSz]; omega, Below.refl _ _⟩
  case round =>
   obtain ⟨k, hk, rfl, rfl, hle, hB⟩ := hrel
   by_cases hkl : (k : Int) < (len : Int)
   ·
    obtain ⟨b, off, rfl, hbl, c0, ia, il, ic, fa, fl, fc, c1, c2, hii, hff⟩ := (HI.out.below hB).2 k (by omega)
    have hmk := HM.out k
    have hst := psSz_snoc ps k (by omega)
    have htt := psSz_take ps (k + 1)
    obtain ⟨p, hp⟩ : ∃ p, ps.getD k pk0 = p := ⟨_, rfl⟩
    rw [hp] at c0 hmk hst hii hff
    obtain ⟨nm, ims, fs⟩ := p
    simp only at c0 hmk hii hff
    obtain ⟨m, hmm⟩ : ∃ m, psSz (ps.take k) = m := ⟨_, rfl⟩
    rw [hmm] at hle hst ⊢
    obtain ⟨z, hz⟩ : ∃ z, pkZ (nm, ims, fs) = z := ⟨_, rfl⟩
    have HC := szPackageC nm ia il ic fa fl fc ims fs (left - (len : Int) - (m : Int)) wr hii hff (by omega) (by omega) hmk.1 (by rw [← hii.1]; exact hmk.2.1) hmk.2.2.1 (by rw [← hff.1]; exact hmk.2.2.2.1) hmk.2.2.2.2
    rw [show pkSz nm ims fs = z from hz] at HC
    rw [hz] at hst
    have HS : Hid (psSz (ps.take (k + 1)) = m + z) := hst
    clear hst hp hmm hz hii hff
    by_cases hfit : (z : Int) ≤ left - (len : Int) - (m : Int)
    ·
     have HZ : Hid (szM z (left - (len : Int) - (m : Int)) = left - (len : Int) - (psSz (ps.take (k + 1)) : Int)) := by
      exact (by rw [HS.out, szM_yes (by omega)]; omega : szM z (left - (len : Int) - (m : Int)) = left - (len : Int) - (psSz (ps.take (k + 1)) : Int))
     rw [HZ.out] at HC
     go_wp2_with fail
     refine HC.mono ?_
     rintro e w1 ⟨rfl, hb1⟩
     have hle2 : (psSz (ps.take (k + 1)) : Int) ≤ left - (len : Int) := by rw [HS.out]; omega
     have hge : (0 : Int) ≤ left - (len : Int) - (psSz (ps.take (k + 1)) : Int) := by omega
     clear HC
     go_wp2
     go_roundw
     case rel => exact ⟨k + 1, by omega, by go_num, rfl, hle2, hB.trans (hb1.mono hB.size)⟩
     case measure => simp [intOf]; omega
    ·
     have HZ : Hid (szM z (left - (len : Int) - (m : Int)) = -1) := szM_no (by omega)
     have HR : Hid (szM (len + psSz ps) left = -1) := szM_no (by have := HS.out; omega)
     rw [HZ.out] at HC
     go_wp2_with fail
     refine HC.mono ?_
     rintro e w1 ⟨rfl, hb1⟩
     clear HC
     go_wp2
     go_ret
     exact ⟨by rw [HR.out]; rfl, hB.trans (hb1.mono hB.size)⟩
   ·
    have HT : Hid (ps.take k = ps) := List.take_of_length_le (by omega)
    have HR : Hid (szM (len + psSz ps) left = left - (len : Int) - (psSz (ps.take k) : Int)) := by exact (by rw [HT.out] at hle ⊢; rw [szM_yes (by omega)]; omega : szM (len + psSz ps) left = left - (len : Int) - (psSz (ps.take k) : Int))
    go_wp2
    go_ret
    exact ⟨by rw [HR.out]; rfl, hB⟩
 ·
  have HR : Hid (szM (len + psSz ps) left = -1) := szM_no (by omega)
  clear hin hm
  go_enter Tryz.func4, Tryz.ntmps4
  go_wp2
  go_ret
  exact ⟨by rw [HR.out]; rfl, Below.refl _ _⟩

set_option maxHeartbeats 2000000 in
set_option maxRecDepth 100000 in
theorem eqPackageSC (a b : Option Addr) (len ca cb : Nat) (ps : List Pk) (w : World) (ha : PkgsIn w a len ps) (hb : PkgsIn w b len ps) (hlen : len ≤ 4194304) (hsh : ShortPs ps) :
 Calls Tryz.prog 9 #[.slice a len ca, .slice b len cb] w fun e w' => e = .returned (.bool true) ∧ Below w.heap.size w w' := by
 have HA : Hid (PkgsIn w a len ps) := ha
 have HB : Hid (PkgsIn w b len ps) := hb
 have HSH : Hid (ShortPs ps) := hsh
 clear ha hb hsh
 have h1 : ((len : Int) != (len : Int)) = false := by simp
 go_enter Tryz.func9, Tryz.ntmps9
 go_wp2
 go_loopw [5] (fun i wr => ∃ k : Nat, k ≤ len ∧ i = .int .i64 k ∧ Hid (Below w.heap.size w wr)) (fun i _ => len - (intOf i).toNat)
 case atStart => exact ⟨0, Nat.zero_le _, rfl, Below.refl _ _⟩
 case round =>
  obtain ⟨k, hk, rfl, HBl⟩ := hrel
  have hB := HBl.out
  clear HBl
  by_cases hkl : (k : Int) < (len : Int)
  ·
   obtain ⟨b1, o1, rfl, hb1, x0, ia, il, ic, fa, fl, fc, x1, x2, hi1, hf1⟩ := (HA.out.below hB).2 k (by omega)
   obtain ⟨b2, o2, rfl, hb2, y0, ja, jl, jc, ga, gl, gc, y1, y2, hi2, hf2⟩ := (HB.out.below hB).2 k (by omega)
   have hts := HSH.out k
   obtain ⟨p, hp⟩ : ∃ p, ps.getD k pk0 = p := ⟨_, rfl⟩
   rw [hp] at x0 y0 hi1 hi2 hf1 hf2 hts
   obtain ⟨nm, ims, fs⟩ := p
   simp only at x0 y0 hi1 hi2 hf1 hf2 hts
   obtain rfl : ims.length = il := hi1.1
   obtain rfl : ims.length = jl := hi2.1
   obtain rfl : fs.length = fl := hf1.1
   obtain rfl : fs.length = gl := hf2.1
   have hdr : Below wr.heap.size wr wr.drew := ⟨rfl, rfl, rfl, Nat.le_refl _, fun _ _ => rfl⟩
   have HC : Hid (_) := eqPackageC nm ia ja fa ga ims.length ic jc fs.length fc gc ims fs wr.drew (hi1.below hdr) (hi2.below hdr) (hf1.below hdr) (hf2.below hdr) (Nat.le_trans hts.2.1 (by omega)) (Nat.le_trans hts.2.2.2.1 (by omega)) (fun j => Nat.le_trans (hts.2.2.2.2 j).2.1 (by omega))
   clear hp hi1 hi2 hf1 hf2 hts hdr
   go_wp2
   go_region_held3 (fun w' => w'.cell? ⟨b1, o1 + k * 3, none⟩ = some (.string ⟨nm.toArray⟩) ∧ w'.cell? ⟨b1, o1 + k * 3 + 1, none⟩ = some (.slice ia ims.length ic) ∧ w'.cell? ⟨b1, o1 + k * 3 + 2, none⟩ = some (.slice fa fs.length fc) ∧ w'.cell? ⟨b2, o2 + k * 3, none⟩ = some (.string ⟨nm.toArray⟩) ∧ w'.cell? ⟨b2, o2 + k * 3 + 1, none⟩ = some (.slice ja ims.length jc) ∧ w'.cell? ⟨b2, o2 + k * 3 + 2, none⟩ = some (.slice ga fs.length gc)) (go_keep) (first | (go_at_call 26; refine Calls.mono HC.out ?_; rintro e w2 ⟨rfl, hw1⟩; replace x0 := (hw1.cell (p := ⟨b1, o1 + k * 3, none⟩) hb1).trans x0; replace x1 := (hw1.cell (p := ⟨b1, o1 + k * 3 + 1, none⟩) hb1).trans x1; replace x2 := (hw1.cell (p := ⟨b1, o1 + k * 3 + 2, none⟩) hb1).trans x2; replace y0 := (hw1.cell (p := ⟨b2, o2 + k * 3, none⟩) hb2).trans y0; replace y1 := (hw1.cell (p := ⟨b2, o2 + k * 3 + 1, none⟩) hb2).trans y1; replace y2 := (hw1.cell (p := ⟨b2, o2 + k * 3 + 2, none⟩) hb2).trans y2))
   all_goals
    have HB2 : Hid (Below w.heap.size w w2) := hB.trans ⟨hw1.os, hw1.tape, hw1.output, hw1.size, fun q hq => hw1.block q (by have := hB.size; show q < wr.heap.size; omega)⟩
    go_wp2
    go_roundw
    case rel => exact ⟨k + 1, by omega, by go_num, HB2⟩
    case measure => simp [intOf]; omega
  ·
   go_wp2
   go_ret
   exact ⟨rfl, hB⟩

end Go.Proofs.YtaidhjjpdkkmcaaGreatDoor

/-! A cell of an elder block. -/
namespace Go.Proofs.YtaidhjjpdkkmcaaGreatDoor
open Go.RowKit

theorem cell_alw {w : World} {a : Addr} {v : Value} (o : Obj) (h : w.cell? a = some v) : (w.alloc o).cell? a = some v :=
 (World.cell?_of_block (Below.heap_alloc _ _ _ (World.block_lt_of_cell? w a h))).trans h

end Go.Proofs.YtaidhjjpdkkmcaaGreatDoor
