/-
  Parts of one proof, one behind the other: HeapI, HeapJ, HeapK.
-/
import Derived.Test.YtfeklbnggicefaaGreatP19
import Derived.Test.YtfeklbnggicefaaGreatP12
import Derived.Deep.RegionHeld3
import Derived.Lib.Hide

/-! The contracts of the landed heap of places: its methods. -/
namespace Go.Proofs.YtfeklbnggicefaaGreat
open Go.RowKit

def natV (l : List Nat) : List Value := l.map (fun x : Nat => Value.int .i64 (x : Int))
theorem natV_len (l : List Nat) : (natV l).length = l.length := by simp [natV]
theorem natV_at (l : List Nat) (j : Nat) (h : j < l.length) : (natV l)[j]? = some (.int .i64 ((l.getD j 0 : Nat) : Int)) := by
  simp [natV, List.getD, List.getElem?_eq_getElem h]
theorem natV_snoc (l : List Nat) (x : Nat) : natV l ++ [.int .i64 (x : Int)] = natV (l ++ [x]) := by simp [natV]
theorem natV_set (l : List Nat) (i x : Nat) : (natV l).set i (.int .i64 (x : Int)) = natV (l.set i x) := by simp [natV, List.map_set]
theorem natV_take (l : List Nat) (m : Nat) : (natV l).take m = natV (l.take m) := by simp [natV, List.map_take]
theorem nat_cell {w : World} {B g cp n : Nat} {l : List Nat} (h : w.ownsRow B 3 1 (.slice (some ⟨g, 0, none⟩) n cp) n (natV l)) (hn : l.length = n) (j : Nat) (hj : j < n) : w.cell? ⟨g, j, none⟩ = some (.int .i64 ((l.getD j 0 : Nat) : Int)) := by
  rw [h.cellAt j (by omega), natV_at l j (by omega)]

theorem upLen (a : Option Addr) (n c : Nat) (w : World) : Calls Tryz.prog 41 #[.slice a n c] w fun e w' => e = .returned (.int .i64 (n : Int)) ∧ w' = w := by
  go_enter Tryz.func41, Tryz.ntmps41
  go_wp2
  go_ret
  exact ⟨rfl, rfl⟩
set_option maxHeartbeats 1000000 in
set_option maxRecDepth 100000 in
theorem upLess (B g cp n : Nat) (l : List Nat) (i j : Nat) (w : World) (h : w.ownsRow B 3 1 (.slice (some ⟨g, 0, none⟩) n cp) n (natV l)) (hn : l.length = n) (hi : i < n) (hj : j < n) :
    Calls Tryz.prog 118 #[.slice (some ⟨g, 0, none⟩) n cp, .int .i64 (i : Int), .int .i64 (j : Int)] w fun e w' => e = .returned (.bool (decide (l.getD i 0 < l.getD j 0))) ∧ Below w.heap.size w w' := by
  have c1 := nat_cell h hn i hi
  have c2 := nat_cell h hn j hj
  obtain ⟨x, hx⟩ : ∃ x, l.getD i 0 = x := ⟨_, rfl⟩
  obtain ⟨y, hy⟩ : ∃ y, l.getD j 0 = y := ⟨_, rfl⟩
  rw [hx] at c1 ⊢
  rw [hy] at c2 ⊢
  have hi2 : (i : Int) < (n : Int) := by omega
  have hj2 : (j : Int) < (n : Int) := by omega
  clear h hn hi hj hx hy
  go_enter Tryz.func118, Tryz.ntmps118
  go_wp2_with fail
  go_quiet (fail)
  go_wp2
  go_ret
  exact ⟨rfl, ⟨rfl, rfl, rfl, Nat.le_refl _, fun _ _ => rfl⟩⟩
set_option maxHeartbeats 2000000 in
set_option maxRecDepth 100000 in
theorem upSwap (B g cp n : Nat) (l : List Nat) (i j : Nat) (w : World) (h : w.ownsRow B 3 1 (.slice (some ⟨g, 0, none⟩) n cp) n (natV l)) (hn : l.length = n) (hi : i < n) (hj : j < n) :
    Calls Tryz.prog 121 #[.slice (some ⟨g, 0, none⟩) n cp, .int .i64 (i : Int), .int .i64 (j : Int)] w fun e w' => e = .returned (.tuple #[]) ∧ w'.ownsRow B 3 1 (.slice (some ⟨g, 0, none⟩) n cp) n (natV (sw l i j)) ∧ w.grownBy w' (some g) := by
  have c1 := nat_cell h hn i hi
  have c2 := nat_cell h hn j hj
  obtain ⟨s1, g1⟩ := h.stored i (.int .i64 ((l.getD j 0 : Nat) : Int))
  obtain ⟨s2, g2⟩ := s1.stored j (.int .i64 ((l.getD i 0 : Nat) : Int))
  have hg := g1.trans g2
  rw [natV_set, natV_set] at s2
  have HS : Hid (((w.setCell ⟨g, i, none⟩ (.int .i64 ((l.getD j 0 : Nat) : Int))).setCell ⟨g, j, none⟩ (.int .i64 ((l.getD i 0 : Nat) : Int))).ownsRow B 3 1 (.slice (some ⟨g, 0, none⟩) n cp) n (natV (sw l i j))) := s2
  have HG : Hid (w.grownBy ((w.setCell ⟨g, i, none⟩ (.int .i64 ((l.getD j 0 : Nat) : Int))).setCell ⟨g, j, none⟩ (.int .i64 ((l.getD i 0 : Nat) : Int))) (some g)) := hg
  obtain ⟨x, hx⟩ : ∃ x, l.getD i 0 = x := ⟨_, rfl⟩
  obtain ⟨y, hy⟩ : ∃ y, l.getD j 0 = y := ⟨_, rfl⟩
  rw [hx] at c1 HS HG
  rw [hy] at c2 HS HG
  have hi2 : (i : Int) < (n : Int) := by omega
  have hj2 : (j : Int) < (n : Int) := by omega
  have f1 := h.frozenAt i
  have f2 := s1.frozenAt j
  have d2 : (w.setCell ⟨g, i, none⟩ (.int .i64 ((l.getD j 0 : Nat) : Int))).cell? ⟨g, j, none⟩ = some (.int .i64 ((l.getD j 0 : Nat) : Int)) := by
    have s1' := s1
    rw [natV_set] at s1'
    rw [nat_cell s1' (by rw [List.length_set]; exact hn) j hj, getD_set (by omega)]
    split <;> rfl
  rw [hy] at f2 d2
  clear h hn hi hj hx hy s1 g1 s2 g2 hg
  go_enter Tryz.func121, Tryz.ntmps121
  go_wp2_with fail
  go_region
  go_wp2
  go_end0
  exact ⟨rfl, own_none HS.out ⟨rfl, rfl, rfl, Nat.le_refl _, fun _ _ _ => rfl⟩, HG.out.trans ⟨rfl, rfl, rfl, Nat.le_refl _, fun _ _ _ => rfl⟩⟩

theorem info3 : (Tryz.prog.info? 3).map (fun i => (i.zero, i.size, i.bytes)) = some (some (.int .i64 0), 1, 8) := by kernel_rfl
theorem push_nat {X : World} {B : Nat} {v : Value} {n : Nat} {l : List Nat} (T : TypeId) (hT : Tryz.prog.underlying T = some (.slice 3)) (x : Nat) (hv : X.ownsRow B 3 1 v n (natV l)) (hb : B ≤ X.heap.size) (hn : n ≤ 1048576) :
    ∃ v' Y, (Builtin.append_ #[T, T] T #[v, .slice (some ⟨X.heap.size, 0, none⟩) 1 1]).run Tryz.prog (X.alloc (.cells #[.int .i64 (x : Int)] 3)) = .ok v' Y ∧ Y.ownsRow B 3 1 v' (n + 1) (natV (l ++ [x])) ∧ X.grownBy Y v.ownBlock ∧ (v'.ownBlock = v.ownBlock ∨ v'.ownBlock = some (X.heap.size + 1)) := by
  obtain ⟨i0, hi, hz0, hz1, hz2⟩ := info_parts info3
  obtain ⟨v', Y, hrun, hown, hg, _, hat⟩ := run_append_own_at (P := Tryz.prog) (X.alloc (.cells #[.int .i64 (x : Int)] 3)) B T T 3 i0 _ 1 8 hT hi hz0 hz1 hz2 rfl (by decide) _ _ _ (hv.alloc _) ⟨X.heap.size, 0, none⟩ 1 1 (natV [x]) rfl (fun j u hu => cell_one_new X _ 3 j u hu) (fun u hu => by simp [natV] at hu; subst hu; rfl) (by unfold maxLen; omega) (by omega) (by simp; omega)
  exact ⟨v', Y, hrun, by rw [← natV_snoc]; exact hown, (World.grownBy_alloc X _ _).trans hg, by simpa using hat⟩

/-- A heap of places: the pointer's block, and the row. -/
structure HpIn (w : World) (B nb : Nat) (v : Value) (l : List Nat) : Prop where
  box : w.ownsRow B 64 1 (.slice (some ⟨nb, 0, none⟩) 1 1) 1 [v]
  row : w.ownsRow B 3 1 v l.length (natV l)
theorem HpIn.cell {w : World} {B nb : Nat} {v : Value} {l : List Nat} (h : HpIn w B nb v l) : w.cell? ⟨nb, 0, none⟩ = some v := by rw [h.box.cellAt 0 (by decide)]; rfl
theorem HpIn.ne {w : World} {B nb : Nat} {v : Value} {l : List Nat} (h : HpIn w B nb v l) : v.ownBlock ≠ some nb := by
  rcases own_types h.box h.row (by decide) with e | e
  · cases e
  · exact fun e2 => e e2.symm
theorem HpIn.lt {w : World} {B nb : Nat} {v : Value} {l : List Nat} (h : HpIn w B nb v l) : B ≤ nb ∧ nb < w.heap.size := h.box.lt nb rfl
theorem HpIn.idle {w w' : World} {B nb : Nat} {v : Value} {l : List Nat} (h : HpIn w B nb v l) (hg : w.grownBy w' none) : HpIn w' B nb v l := ⟨own_none h.box hg, own_none h.row hg⟩
theorem HpIn.below {w w' : World} {B nb : Nat} {v : Value} {l : List Nat} (h : HpIn w B nb v l) (hg : Below w.heap.size w w') : HpIn w' B nb v l := ⟨own_below h.box hg, own_below h.row hg⟩
theorem HpIn.wrote {w w' : World} {B nb : Nat} {v : Value} {l : List Nat} {S : Nat → Prop} (h : HpIn w B nb v l) (hg : Wrote w w' S) (hb : ¬ S nb) (hv : ∀ k, v.ownBlock = some k → ¬ S k) : HpIn w' B nb v l :=
  ⟨own_wrote h.box hg (fun k e => by injection e with e; rw [← e]; exact hb), own_wrote h.row hg hv⟩
/-- The row is written. -/
theorem HpIn.swapped {w w' : World} {B nb g n cp : Nat} {l l' : List Nat} (h : HpIn w B nb (.slice (some ⟨g, 0, none⟩) n cp) l) (hr : w'.ownsRow B 3 1 (.slice (some ⟨g, 0, none⟩) n cp) n (natV l')) (hl : l'.length = n) (hg : w.grownBy w' (some g)) : HpIn w' B nb (.slice (some ⟨g, 0, none⟩) n cp) l' :=
  ⟨h.box.kept hg (Or.inr (fun e => h.ne e.symm)), by rw [hl]; exact hr⟩
/-- Where a row that has grown lies. -/
def NewAt (w : World) (v v' : Value) : Prop := ∀ k, v'.ownBlock = some k → v.ownBlock = some k ∨ w.heap.size ≤ k

theorem asInt (x : Nat) (W : World) : (Instr.typeAssert (.iface 3 (.int .i64 (x : Int))) 20 3 false).run Tryz.prog W = .ok (.int .i64 (x : Int)) W := by kernel_rfl
set_option maxHeartbeats 2000000 in
set_option maxRecDepth 100000 in
theorem upPush (B nb : Nat) (v : Value) (l : List Nat) (x : Nat) (w : World) (h : HpIn w B nb v l) (hl : l.length ≤ 1000) :
    Calls Tryz.prog 120 #[.pointer (some ⟨nb, 0, none⟩), .iface 3 (.int .i64 (x : Int))] w fun e w' => e = .returned (.tuple #[]) ∧ ∃ v', HpIn w' B nb v' (l ++ [x]) ∧ Wrote w w' (fun k => k = nb ∨ v.ownBlock = some k) ∧ NewAt w v v' := by
  have hlt := h.lt
  obtain ⟨v', Y, hrun, hown, hg, hat⟩ := push_nat 64 Tryz.underlying64 x (h.idle (grown_drew w none)).row (by simp; omega) (by omega)
  have hne : some nb ≠ v.ownBlock := fun e => h.ne e.symm
  obtain ⟨g', c', rfl⟩ := own_some hown (by omega)
  have hboxY : Y.ownsRow B 64 1 (.slice (some ⟨nb, 0, none⟩) 1 1) 1 [v] := (h.idle (grown_drew w none)).box.kept hg (Or.inr hne)
  obtain ⟨hst, hgs⟩ := hboxY.stored 0 (.slice (some ⟨g', 0, none⟩) (l.length + 1) c')
  have HE : Hid (HpIn (Y.setCell ⟨nb, 0, none⟩ (.slice (some ⟨g', 0, none⟩) (l.length + 1) c')) B nb (.slice (some ⟨g', 0, none⟩) (l.length + 1) c') (l ++ [x])) := ⟨hst, by
    have := hown.kept hgs (own_types hown hboxY (by decide))
    rw [List.length_append, List.length_singleton]; exact this⟩
  have HW : Hid (Wrote w (Y.setCell ⟨nb, 0, none⟩ (.slice (some ⟨g', 0, none⟩) (l.length + 1) c')) (fun k => k = nb ∨ v.ownBlock = some k)) := ((Wrote.of_grown (grown_drew w none) (fun k e => by cases e)).trans (Wrote.of_grown hg (fun k e => Or.inr e))).trans (Wrote.of_grown hgs (fun k e => by injection e with e; exact Or.inl e.symm))
  have HN : Hid (NewAt w v (.slice (some ⟨g', 0, none⟩) (l.length + 1) c')) := fun k e => by
    rcases hat with h1 | h1
    · exact Or.inl (by rw [← h1]; exact e)
    · rw [h1] at e; injection e with e; right; rw [← e]; simp
  have c0 := h.cell
  have c1 : (w.alloc (.cells #[.int .i64 (x : Int)] 3)).cell? ⟨nb, 0, none⟩ = some v := by rw [(h.box.alloc _).cellAt 0 (by decide)]; rfl
  have cY : Y.cell? ⟨nb, 0, none⟩ = some v := by rw [hboxY.cellAt 0 (by decide)]; rfl
  have fY := hboxY.frozenAt 0
  have hta : ∀ W : World, (Instr.typeAssert (.iface 3 (.int .i64 (x : Int))) 20 3 false).run Tryz.prog W = .ok (.int .i64 (x : Int)) W := asInt x
  change (Builtin.append_ _ _ _).run Tryz.prog (w.alloc (.cells #[.int .i64 (x : Int)] 3)).drew = _ at hrun
  clear h hlt hown hg hat hne hboxY hst hgs
  go_enter Tryz.func120, Tryz.ntmps120
  go_wp2_with fail
  go_region_law (first | (refine step_append_run (by rfl) (.tmp 7) (.tmp 10) 64 (by rfl) _ _ _ (by rfl) (by rfl) hrun ?_))
  all_goals
    go_wp2
    go_end0
    exact ⟨rfl, _, HE.out, HW.out, HN.out⟩

end Go.Proofs.YtfeklbnggicefaaGreat

/-! The contracts of container/heap over the landed heap of places. -/
namespace Go.Proofs.YtfeklbnggicefaaGreat
open Go.RowKit

theorem wrapPtr (A : Array TypeId) (T : TypeId) (p : Addr) (a b : ByteArray) : Builtin.ssaWrapNilChk_ A T #[.pointer (some p), .string a, .string b] = pure (.pointer (some p)) := rfl
/-! How a method of the heap behind the interface is found: the row is loaded through the pointer, or the pointer handed on. -/
theorem findLen {w : World} {nb : Nat} {a : Option Addr} {n c : Nat} (hc : w.cell? ⟨nb, 0, none⟩ = some (.slice a n c)) : Sem.run Tryz.prog (method 252 63 (.pointer (some ⟨nb, 0, none⟩)) "Len") w = .ok (41, .slice a n c) w := by
  have hm : (Array.find? (fun x => x.name == "Len") Tryz.t63.methods).map (fun m => (m.path, m.func)) = some (#[], some (41, false)) := by kernel_rfl
  obtain ⟨m, hm, he⟩ := Option.map_eq_some_iff.1 hm
  obtain ⟨h1, h2⟩ := Prod.mk.injEq .. ▸ he
  obtain ⟨k, hk⟩ : ∃ k, 252 = k + 1 := ⟨_, rfl⟩
  rw [hk, method]
  simp [go_sem, hm, h1, h2, follow, receiverAt, wrapPtr, Place.get, strVal, loadVar, hc]
theorem findLess {w : World} {nb : Nat} {a : Option Addr} {n c : Nat} (hc : w.cell? ⟨nb, 0, none⟩ = some (.slice a n c)) : Sem.run Tryz.prog (method 252 63 (.pointer (some ⟨nb, 0, none⟩)) "Less") w = .ok (118, .slice a n c) w := by
  have hm : (Array.find? (fun x => x.name == "Less") Tryz.t63.methods).map (fun m => (m.path, m.func)) = some (#[], some (118, false)) := by kernel_rfl
  obtain ⟨m, hm, he⟩ := Option.map_eq_some_iff.1 hm
  obtain ⟨h1, h2⟩ := Prod.mk.injEq .. ▸ he
  obtain ⟨k, hk⟩ : ∃ k, 252 = k + 1 := ⟨_, rfl⟩
  rw [hk, method]
  simp [go_sem, hm, h1, h2, follow, receiverAt, wrapPtr, Place.get, strVal, loadVar, hc]
theorem findSwap {w : World} {nb : Nat} {a : Option Addr} {n c : Nat} (hc : w.cell? ⟨nb, 0, none⟩ = some (.slice a n c)) : Sem.run Tryz.prog (method 252 63 (.pointer (some ⟨nb, 0, none⟩)) "Swap") w = .ok (121, .slice a n c) w := by
  have hm : (Array.find? (fun x => x.name == "Swap") Tryz.t63.methods).map (fun m => (m.path, m.func)) = some (#[], some (121, false)) := by kernel_rfl
  obtain ⟨m, hm, he⟩ := Option.map_eq_some_iff.1 hm
  obtain ⟨h1, h2⟩ := Prod.mk.injEq .. ▸ he
  obtain ⟨k, hk⟩ : ∃ k, 252 = k + 1 := ⟨_, rfl⟩
  rw [hk, method]
  simp [go_sem, hm, h1, h2, follow, receiverAt, wrapPtr, Place.get, strVal, loadVar, hc]
theorem findPush {w : World} {nb : Nat} : Sem.run Tryz.prog (method 252 63 (.pointer (some ⟨nb, 0, none⟩)) "Push") w = .ok (120, .pointer (some ⟨nb, 0, none⟩)) w := by
  have hm : (Array.find? (fun x => x.name == "Push") Tryz.t63.methods).map (fun m => (m.path, m.func)) = some (#[], some (120, true)) := by kernel_rfl
  obtain ⟨m, hm, he⟩ := Option.map_eq_some_iff.1 hm
  obtain ⟨h1, h2⟩ := Prod.mk.injEq .. ▸ he
  obtain ⟨k, hk⟩ : ∃ k, 252 = k + 1 := ⟨_, rfl⟩
  rw [hk, method]
  simp [go_sem, hm, h1, h2, follow, receiverAt, Place.get, strVal]
theorem findPop {w : World} {nb : Nat} : Sem.run Tryz.prog (method 252 63 (.pointer (some ⟨nb, 0, none⟩)) "Pop") w = .ok (119, .pointer (some ⟨nb, 0, none⟩)) w := by
  have hm : (Array.find? (fun x => x.name == "Pop") Tryz.t63.methods).map (fun m => (m.path, m.func)) = some (#[], some (119, true)) := by kernel_rfl
  obtain ⟨m, hm, he⟩ := Option.map_eq_some_iff.1 hm
  obtain ⟨h1, h2⟩ := Prod.mk.injEq .. ▸ he
  obtain ⟨k, hk⟩ : ∃ k, 252 = k + 1 := ⟨_, rfl⟩
  rw [hk, method]
  simp [go_sem, hm, h1, h2, follow, receiverAt, Place.get, strVal]

theorem HpIn.rown {w : World} {B nb n : Nat} {v : Value} {l : List Nat} (h : HpIn w B nb v l) (hn : l.length = n) : w.ownsRow B 3 1 v n (natV l) := by rw [← hn]; exact h.row

set_option maxHeartbeats 2000000 in
set_option maxRecDepth 100000 in
theorem heapUp (B nb g n cp : Nat) (l : List Nat) (j : Nat) (w : World) (h : HpIn w B nb (.slice (some ⟨g, 0, none⟩) n cp) l) (hn : l.length = n) (hj : j < n) (hup : HpUp l j) (hbig : n ≤ 1000) :
    Calls Tryz.prog 65 #[.iface 63 (.pointer (some ⟨nb, 0, none⟩)), .int .i64 (j : Int)] w fun e w' => e = .returned (.tuple #[]) ∧ ∃ l', HpIn w' B nb (.slice (some ⟨g, 0, none⟩) n cp) l' ∧ l'.length = n ∧ l'.Perm l ∧ HpN l' n ∧ w.grownBy w' (some g) := by
  have HH : Hid (HpIn w B nb (.slice (some ⟨g, 0, none⟩) n cp) l) := h
  have HL : Hid (l.length = n) := hn
  have HU : Hid (HpUp l j) := hup
  clear h hn hup
  go_enter Tryz.func65, Tryz.ntmps65
  go_wp2
  go_loopw [1, 4] (fun jv _ wr => ∃ (k : Nat) (lk : List Nat), jv = .int .i64 (k : Int) ∧ k < n ∧ Hid (HpIn wr B nb (.slice (some ⟨g, 0, none⟩) n cp) lk) ∧ Hid (lk.length = n) ∧ Hid (HpUp lk k) ∧ Hid (lk.Perm l) ∧ Hid (w.grownBy wr (some g))) (fun jv _ _ => (intOf jv).toNat)
  case atStart => exact ⟨j, l, rfl, hj, HH, HL, HU, List.Perm.refl _, World.grownBy.refl _ _⟩
  case round =>
    obtain ⟨k, lk, rfl, hk, HHk, HLk, HUk, HPk, HGk⟩ := hrel
    have c0 := HHk.out.cell
    rcases Nat.eq_zero_or_pos k with h0 | h0
    · subst h0
      go_wp2
      go_end0
      exact ⟨rfl, lk, HHk.out, HLk.out, HPk.out, by rw [← HLk.out]; exact up_end HUk.out (Or.inl rfl), HGk.out⟩
    · obtain ⟨m, rfl⟩ : ∃ m, k = m + 1 := ⟨k - 1, by omega⟩
      have hne : ¬ m / 2 = m + 1 := by omega
      have mL := findLess c0
      have HL1 : Hid (Calls Tryz.prog 118 #[.slice (some ⟨g, 0, none⟩) n cp, .int .i64 ((m : Int) + 1), .int .i64 ((m : Int) / 2)] wr fun e w' => e = .returned (.bool (decide (lk.getD (m + 1) 0 < lk.getD (m / 2) 0))) ∧ Below wr.heap.size wr w') := by
        have hL := upLess B g cp n lk (m + 1) (m / 2) wr (HHk.out.rown HLk.out) HLk.out hk (by omega)
        rw [show ((m + 1 : Nat) : Int) = (m : Int) + 1 by omega, show ((m / 2 : Nat) : Int) = (m : Int) / 2 by omega] at hL
        exact hL
      by_cases hlt : lk.getD (m + 1) 0 < lk.getD (m / 2) 0
      · rw [decide_eq_true hlt] at HL1
        have HSt : Hid (HpUp (sw lk (m / 2) (m + 1)) (m / 2)) := up_step HUk.out (by rw [HLk.out]; exact hk) h0 hlt
        clear hlt
        go_wp2_with (go_at_call 118; refine HL1.out.mono ?_; rintro e w2 ⟨rfl, hb2⟩; have HH2 : Hid (HpIn w2 B nb (.slice (some ⟨g, 0, none⟩) n cp) lk) := HHk.out.below hb2; have mS := findSwap HH2.out.cell; have HG2 : Hid (w.grownBy w2 (some g)) := HGk.out.trans ⟨hb2.os, hb2.tape, hb2.output, hb2.size, fun k hk _ => hb2.block k hk⟩; clear hb2 mL)
        have HS1 : Hid (Calls Tryz.prog 121 #[.slice (some ⟨g, 0, none⟩) n cp, .int .i64 ((m : Int) / 2), .int .i64 ((m : Int) + 1)] w2 fun e w' => e = .returned (.tuple #[]) ∧ w'.ownsRow B 3 1 (.slice (some ⟨g, 0, none⟩) n cp) n (natV (sw lk (m / 2) (m + 1))) ∧ w2.grownBy w' (some g)) := by
          have hS := upSwap B g cp n lk (m / 2) (m + 1) w2 (HH2.out.rown HLk.out) HLk.out (by omega) hk
          rw [show ((m + 1 : Nat) : Int) = (m : Int) + 1 by omega, show ((m / 2 : Nat) : Int) = (m : Int) / 2 by omega] at hS
          exact hS
        refine HS1.out.mono ?_
        rintro e w3 ⟨rfl, ho3, hg3⟩
        have HH3 : Hid (HpIn w3 B nb (.slice (some ⟨g, 0, none⟩) n cp) (sw lk (m / 2) (m + 1))) := HH2.out.swapped ho3 (by rw [sw_len]; exact HLk.out) hg3
        have HG3 : Hid (w.grownBy w3 (some g)) := HG2.out.trans hg3
        clear ho3 hg3 HS1 HL1
        go_wp2
        go_roundw
        case rel => exact ⟨m / 2, sw lk (m / 2) (m + 1), by simp, by omega, HH3, by exact (by rw [sw_len]; exact HLk.out : (sw lk (m / 2) (m + 1)).length = n), HSt, (sw_perm lk (by rw [HLk.out]; omega) (by rw [HLk.out]; omega)).trans HPk.out, HG3⟩
        case measure => simp [intOf]; omega
      · rw [decide_eq_false hlt] at HL1
        have HSt : Hid (HpN lk n) := by exact (by rw [← HLk.out]; exact up_end HUk.out (Or.inr (by simpa using hlt)) : HpN lk n)
        clear hlt
        go_wp2_with (go_at_call 118; refine HL1.out.mono ?_; rintro e w2 ⟨rfl, hb2⟩; have HH2 : Hid (HpIn w2 B nb (.slice (some ⟨g, 0, none⟩) n cp) lk) := HHk.out.below hb2; have HG2 : Hid (w.grownBy w2 (some g)) := HGk.out.trans ⟨hb2.os, hb2.tape, hb2.output, hb2.size, fun k hk _ => hb2.block k hk⟩; clear hb2 mL)
        go_end0
        exact ⟨rfl, lk, HH2.out, HLk.out, HPk.out, HSt.out, HG2.out⟩

end Go.Proofs.YtfeklbnggicefaaGreat

/-! The contracts of container/heap over the landed heap of places: down, Push, Pop; the first is taken. -/
namespace Go.Proofs.YtfeklbnggicefaaGreat
open Go.RowKit

set_option maxHeartbeats 4000000 in
set_option maxRecDepth 100000 in
theorem heapDown (B nb g N n cp : Nat) (l : List Nat) (w : World) (h : HpIn w B nb (.slice (some ⟨g, 0, none⟩) N cp) l) (hN : l.length = N) (hn : n + 1 = N) (hdn : HpDn l 0 n) (hbig : N ≤ 1000) :
    Calls Tryz.prog 83 #[.iface 63 (.pointer (some ⟨nb, 0, none⟩)), .int .i64 0, .int .i64 (n : Int)] w fun e w' => ∃ bb : Bool, e = .returned (.bool bb) ∧ ∃ l', HpIn w' B nb (.slice (some ⟨g, 0, none⟩) N cp) l' ∧ l'.length = N ∧ l'.Perm l ∧ HpN l' n ∧ (∀ q, n ≤ q → l'.getD q 0 = l.getD q 0) ∧ w.grownBy w' (some g) := by
  have HH : Hid (HpIn w B nb (.slice (some ⟨g, 0, none⟩) N cp) l) := h
  have HL : Hid (l.length = N) := hN
  have HD : Hid (HpDn l 0 n) := hdn
  clear h hN hdn
  go_enter Tryz.func83, Tryz.ntmps83
  go_wp2
  go_loopw [7, 8, 9, 10] (fun iv _ _ _ wr => ∃ (i : Nat) (lk : List Nat), iv = .int .i64 (i : Int) ∧ i < N ∧ Hid (HpIn wr B nb (.slice (some ⟨g, 0, none⟩) N cp) lk) ∧ Hid (lk.length = N) ∧ Hid (HpDn lk i n) ∧ Hid (lk.Perm l) ∧ Hid (∀ q, n ≤ q → lk.getD q 0 = l.getD q 0) ∧ Hid (w.grownBy wr (some g))) (fun iv _ _ _ _ => N - (intOf iv).toNat)
  case atStart => exact ⟨0, l, rfl, by omega, HH, HL, HD, List.Perm.refl _, (fun _ _ => rfl), World.grownBy.refl _ _⟩
  case round =>
    obtain ⟨i, lk, rfl, hi, HHk, HLk, HDk, HPk, HKk, HGk⟩ := hrel
    by_cases h1 : n ≤ 2 * i + 1
    · have h1z : (n : Int) ≤ 2 * (i : Int) + 1 := by omega
      have HSt : Hid (HpN lk n) := dn_end HDk.out (fun q h1 h2 h3 => by omega)
      clear h1
      go_wp2
      go_ret
      exact ⟨_, rfl, lk, HHk.out, HLk.out, HPk.out, HSt.out, HKk.out, HGk.out⟩
    · have h1z : ¬ (n : Int) ≤ 2 * (i : Int) + 1 := by omega
      have h0z : ¬ 2 * (i : Int) + 1 < 0 := by omega
      by_cases h2 : 2 * i + 2 < n
      · have h2z : 2 * (i : Int) + 1 + 1 < (n : Int) := by omega
        have mL := findLess HHk.out.cell
        have HL0 : Hid (Calls Tryz.prog 118 #[.slice (some ⟨g, 0, none⟩) N cp, .int .i64 (2 * (i : Int) + 1 + 1), .int .i64 (2 * (i : Int) + 1)] wr fun e w' => e = .returned (.bool (decide (lk.getD (2 * i + 2) 0 < lk.getD (2 * i + 1) 0))) ∧ Below wr.heap.size wr w') := by
          have hL := upLess B g cp N lk (2 * i + 2) (2 * i + 1) wr (HHk.out.rown HLk.out) HLk.out (by omega) (by omega)
          rw [show ((2 * i + 2 : Nat) : Int) = 2 * (i : Int) + 1 + 1 by omega, show ((2 * i + 1 : Nat) : Int) = 2 * (i : Int) + 1 by omega] at hL
          exact hL
        by_cases h3 : lk.getD (2 * i + 2) 0 < lk.getD (2 * i + 1) 0
        · rw [decide_eq_true h3] at HL0
          have HMin : Hid (∀ q, 0 < q → q < n → (q - 1) / 2 = i → lk.getD (2 * i + 2) 0 ≤ lk.getD q 0) := fun q q0 qn qp => by
            rcases (show q = 2 * i + 1 ∨ q = 2 * i + 2 by omega) with e | e <;> rw [e] <;> omega
          clear h3
          go_wp2_with fail
          refine HL0.out.mono ?_
          rintro e w1 ⟨rfl, hb1⟩
          have HH1 : Hid (HpIn w1 B nb (.slice (some ⟨g, 0, none⟩) N cp) lk) := HHk.out.below hb1
          have HG1 : Hid (w.grownBy w1 (some g)) := HGk.out.trans ⟨hb1.os, hb1.tape, hb1.output, hb1.size, fun k hk _ => hb1.block k hk⟩
          clear hb1 mL HL0
          have mL2 := findLess HH1.out.cell
          have HL2 : Hid (Calls Tryz.prog 118 #[.slice (some ⟨g, 0, none⟩) N cp, .int .i64 (2 * (i : Int) + 1 + 1), .int .i64 (i : Int)] w1 fun e w' => e = .returned (.bool (decide (lk.getD (2 * i + 2) 0 < lk.getD i 0))) ∧ Below w1.heap.size w1 w') := by
            have hL := upLess B g cp N lk (2 * i + 2) i w1 (HH1.out.rown HLk.out) HLk.out (by omega) (by omega)
            rw [show ((2 * i + 2 : Nat) : Int) = 2 * (i : Int) + 1 + 1 by omega] at hL
            exact hL
          by_cases hlt : lk.getD (2 * i + 2) 0 < lk.getD i 0
          · rw [decide_eq_true hlt] at HL2
            have HSt : Hid (HpDn (sw lk i (2 * i + 2)) (2 * i + 2) n) := dn_step HDk.out (by rw [HLk.out]; omega) (by omega) (by omega) (by omega) HMin.out hlt
            clear hlt HMin
            go_wp2_with fail
            refine HL2.out.mono ?_
            rintro e w2 ⟨rfl, hb2⟩
            have HH2 : Hid (HpIn w2 B nb (.slice (some ⟨g, 0, none⟩) N cp) lk) := HH1.out.below hb2
            have mS := findSwap HH2.out.cell
            have HG2 : Hid (w.grownBy w2 (some g)) := HG1.out.trans ⟨hb2.os, hb2.tape, hb2.output, hb2.size, fun k hk _ => hb2.block k hk⟩
            clear hb2 mL2 HL2
            go_wp2_with fail
            have HS1 : Hid (Calls Tryz.prog 121 #[.slice (some ⟨g, 0, none⟩) N cp, .int .i64 (i : Int), .int .i64 (2 * (i : Int) + 1 + 1)] w2 fun e w' => e = .returned (.tuple #[]) ∧ w'.ownsRow B 3 1 (.slice (some ⟨g, 0, none⟩) N cp) N (natV (sw lk i (2 * i + 2))) ∧ w2.grownBy w' (some g)) := by
              have hS := upSwap B g cp N lk i (2 * i + 2) w2 (HH2.out.rown HLk.out) HLk.out (by omega) (by omega)
              rw [show ((2 * i + 2 : Nat) : Int) = 2 * (i : Int) + 1 + 1 by omega] at hS
              exact hS
            refine HS1.out.mono ?_
            rintro e w3 ⟨rfl, ho3, hg3⟩
            have HH3 : Hid (HpIn w3 B nb (.slice (some ⟨g, 0, none⟩) N cp) (sw lk i (2 * i + 2))) := HH2.out.swapped ho3 (by rw [sw_len]; exact HLk.out) hg3
            have HG3 : Hid (w.grownBy w3 (some g)) := HG2.out.trans hg3
            have HK3 : Hid (∀ q, n ≤ q → (sw lk i (2 * i + 2)).getD q 0 = l.getD q 0) := fun q hq => by rw [sw_at lk (by rw [HLk.out]; omega) (by rw [HLk.out]; omega), if_neg (by omega), if_neg (by omega)]; exact HKk.out q hq
            clear ho3 hg3 HS1 mS
            go_wp2
            go_roundw
            case rel => exact ⟨2 * i + 2, sw lk i (2 * i + 2), by go_num, by omega, HH3, by exact (by rw [sw_len]; exact HLk.out : (sw lk i (2 * i + 2)).length = N), HSt, (sw_perm lk (by rw [HLk.out]; omega) (by rw [HLk.out]; omega)).trans HPk.out, HK3, HG3⟩
            case measure => simp [intOf]; omega
          · rw [decide_eq_false hlt] at HL2
            have HSt : Hid (HpN lk n) := dn_end HDk.out (fun q h1 h2 h3 => by have := HMin.out q h1 h2 h3; omega)
            clear hlt HMin
            go_wp2_with fail
            refine HL2.out.mono ?_
            rintro e w2 ⟨rfl, hb2⟩
            have HH2 : Hid (HpIn w2 B nb (.slice (some ⟨g, 0, none⟩) N cp) lk) := HH1.out.below hb2
            have HG2 : Hid (w.grownBy w2 (some g)) := HG1.out.trans ⟨hb2.os, hb2.tape, hb2.output, hb2.size, fun k hk _ => hb2.block k hk⟩
            clear hb2 mL2 HL2
            go_wp2
            go_ret
            exact ⟨_, rfl, lk, HH2.out, HLk.out, HPk.out, HSt.out, HKk.out, HG2.out⟩
        · rw [decide_eq_false h3] at HL0
          have HMin : Hid (∀ q, 0 < q → q < n → (q - 1) / 2 = i → lk.getD (2 * i + 1) 0 ≤ lk.getD q 0) := fun q q0 qn qp => by
            rcases (show q = 2 * i + 1 ∨ q = 2 * i + 2 by omega) with e | e <;> rw [e] <;> omega
          clear h3
          go_wp2_with fail
          refine HL0.out.mono ?_
          rintro e w1 ⟨rfl, hb1⟩
          have HH1 : Hid (HpIn w1 B nb (.slice (some ⟨g, 0, none⟩) N cp) lk) := HHk.out.below hb1
          have HG1 : Hid (w.grownBy w1 (some g)) := HGk.out.trans ⟨hb1.os, hb1.tape, hb1.output, hb1.size, fun k hk _ => hb1.block k hk⟩
          clear hb1 mL HL0
          have mL2 := findLess HH1.out.cell
          have HL2 : Hid (Calls Tryz.prog 118 #[.slice (some ⟨g, 0, none⟩) N cp, .int .i64 (2 * (i : Int) + 1), .int .i64 (i : Int)] w1 fun e w' => e = .returned (.bool (decide (lk.getD (2 * i + 1) 0 < lk.getD i 0))) ∧ Below w1.heap.size w1 w') := by
            have hL := upLess B g cp N lk (2 * i + 1) i w1 (HH1.out.rown HLk.out) HLk.out (by omega) (by omega)
            rw [show ((2 * i + 1 : Nat) : Int) = 2 * (i : Int) + 1 by omega] at hL
            exact hL
          by_cases hlt : lk.getD (2 * i + 1) 0 < lk.getD i 0
          · rw [decide_eq_true hlt] at HL2
            have HSt : Hid (HpDn (sw lk i (2 * i + 1)) (2 * i + 1) n) := dn_step HDk.out (by rw [HLk.out]; omega) (by omega) (by omega) (by omega) HMin.out hlt
            clear hlt HMin
            go_wp2_with fail
            refine HL2.out.mono ?_
            rintro e w2 ⟨rfl, hb2⟩
            have HH2 : Hid (HpIn w2 B nb (.slice (some ⟨g, 0, none⟩) N cp) lk) := HH1.out.below hb2
            have mS := findSwap HH2.out.cell
            have HG2 : Hid (w.grownBy w2 (some g)) := HG1.out.trans ⟨hb2.os, hb2.tape, hb2.output, hb2.size, fun k hk _ => hb2.block k hk⟩
            clear hb2 mL2 HL2
            go_wp2_with fail
            have HS1 : Hid (Calls Tryz.prog 121 #[.slice (some ⟨g, 0, none⟩) N cp, .int .i64 (i : Int), .int .i64 (2 * (i : Int) + 1)] w2 fun e w' => e = .returned (.tuple #[]) ∧ w'.ownsRow B 3 1 (.slice (some ⟨g, 0, none⟩) N cp) N (natV (sw lk i (2 * i + 1))) ∧ w2.grownBy w' (some g)) := by
              have hS := upSwap B g cp N lk i (2 * i + 1) w2 (HH2.out.rown HLk.out) HLk.out (by omega) (by omega)
              rw [show ((2 * i + 1 : Nat) : Int) = 2 * (i : Int) + 1 by omega] at hS
              exact hS
            refine HS1.out.mono ?_
            rintro e w3 ⟨rfl, ho3, hg3⟩
            have HH3 : Hid (HpIn w3 B nb (.slice (some ⟨g, 0, none⟩) N cp) (sw lk i (2 * i + 1))) := HH2.out.swapped ho3 (by rw [sw_len]; exact HLk.out) hg3
            have HG3 : Hid (w.grownBy w3 (some g)) := HG2.out.trans hg3
            have HK3 : Hid (∀ q, n ≤ q → (sw lk i (2 * i + 1)).getD q 0 = l.getD q 0) := fun q hq => by rw [sw_at lk (by rw [HLk.out]; omega) (by rw [HLk.out]; omega), if_neg (by omega), if_neg (by omega)]; exact HKk.out q hq
            clear ho3 hg3 HS1 mS
            go_wp2
            go_roundw
            case rel => exact ⟨2 * i + 1, sw lk i (2 * i + 1), by go_num, by omega, HH3, by exact (by rw [sw_len]; exact HLk.out : (sw lk i (2 * i + 1)).length = N), HSt, (sw_perm lk (by rw [HLk.out]; omega) (by rw [HLk.out]; omega)).trans HPk.out, HK3, HG3⟩
            case measure => simp [intOf]; omega
          · rw [decide_eq_false hlt] at HL2
            have HSt : Hid (HpN lk n) := dn_end HDk.out (fun q h1 h2 h3 => by have := HMin.out q h1 h2 h3; omega)
            clear hlt HMin
            go_wp2_with fail
            refine HL2.out.mono ?_
            rintro e w2 ⟨rfl, hb2⟩
            have HH2 : Hid (HpIn w2 B nb (.slice (some ⟨g, 0, none⟩) N cp) lk) := HH1.out.below hb2
            have HG2 : Hid (w.grownBy w2 (some g)) := HG1.out.trans ⟨hb2.os, hb2.tape, hb2.output, hb2.size, fun k hk _ => hb2.block k hk⟩
            clear hb2 mL2 HL2
            go_wp2
            go_ret
            exact ⟨_, rfl, lk, HH2.out, HLk.out, HPk.out, HSt.out, HKk.out, HG2.out⟩
      · have h2z : ¬ 2 * (i : Int) + 1 + 1 < (n : Int) := by omega
        have HMin : Hid (∀ q, 0 < q → q < n → (q - 1) / 2 = i → lk.getD (2 * i + 1) 0 ≤ lk.getD q 0) := fun q q0 qn qp => by
          have e : q = 2 * i + 1 := by omega
          rw [e]; omega
        have mL2 := findLess HHk.out.cell
        have HL2 : Hid (Calls Tryz.prog 118 #[.slice (some ⟨g, 0, none⟩) N cp, .int .i64 (2 * (i : Int) + 1), .int .i64 (i : Int)] wr fun e w' => e = .returned (.bool (decide (lk.getD (2 * i + 1) 0 < lk.getD i 0))) ∧ Below wr.heap.size wr w') := by
          have hL := upLess B g cp N lk (2 * i + 1) i wr (HHk.out.rown HLk.out) HLk.out (by omega) (by omega)
          rw [show ((2 * i + 1 : Nat) : Int) = 2 * (i : Int) + 1 by omega] at hL
          exact hL
        by_cases hlt : lk.getD (2 * i + 1) 0 < lk.getD i 0
        · rw [decide_eq_true hlt] at HL2
          have HSt : Hid (HpDn (sw lk i (2 * i + 1)) (2 * i + 1) n) := dn_step HDk.out (by rw [HLk.out]; omega) (by omega) (by omega) (by omega) HMin.out hlt
          clear hlt HMin
          go_wp2_with fail
          refine HL2.out.mono ?_
          rintro e w2 ⟨rfl, hb2⟩
          have HH2 : Hid (HpIn w2 B nb (.slice (some ⟨g, 0, none⟩) N cp) lk) := HHk.out.below hb2
          have mS := findSwap HH2.out.cell
          have HG2 : Hid (w.grownBy w2 (some g)) := HGk.out.trans ⟨hb2.os, hb2.tape, hb2.output, hb2.size, fun k hk _ => hb2.block k hk⟩
          clear hb2 mL2 HL2
          go_wp2_with fail
          have HS1 : Hid (Calls Tryz.prog 121 #[.slice (some ⟨g, 0, none⟩) N cp, .int .i64 (i : Int), .int .i64 (2 * (i : Int) + 1)] w2 fun e w' => e = .returned (.tuple #[]) ∧ w'.ownsRow B 3 1 (.slice (some ⟨g, 0, none⟩) N cp) N (natV (sw lk i (2 * i + 1))) ∧ w2.grownBy w' (some g)) := by
            have hS := upSwap B g cp N lk i (2 * i + 1) w2 (HH2.out.rown HLk.out) HLk.out (by omega) (by omega)
            rw [show ((2 * i + 1 : Nat) : Int) = 2 * (i : Int) + 1 by omega] at hS
            exact hS
          refine HS1.out.mono ?_
          rintro e w3 ⟨rfl, ho3, hg3⟩
          have HH3 : Hid (HpIn w3 B nb (.slice (some ⟨g, 0, none⟩) N cp) (sw lk i (2 * i + 1))) := HH2.out.swapped ho3 (by rw [sw_len]; exact HLk.out) hg3
          have HG3 : Hid (w.grownBy w3 (some g)) := HG2.out.trans hg3
          have HK3 : Hid (∀ q, n ≤ q → (sw lk i (2 * i + 1)).getD q 0 = l.getD q 0) := fun q hq => by rw [sw_at lk (by rw [HLk.out]; omega) (by rw [HLk.out]; omega), if_neg (by omega), if_neg (by omega)]; exact HKk.out q hq
          clear ho3 hg3 HS1 mS
          go_wp2
          go_roundw
          case rel => exact ⟨2 * i + 1, sw lk i (2 * i + 1), by go_num, by omega, HH3, by exact (by rw [sw_len]; exact HLk.out : (sw lk i (2 * i + 1)).length = N), HSt, (sw_perm lk (by rw [HLk.out]; omega) (by rw [HLk.out]; omega)).trans HPk.out, HK3, HG3⟩
          case measure => simp [intOf]; omega
        · rw [decide_eq_false hlt] at HL2
          have HSt : Hid (HpN lk n) := dn_end HDk.out (fun q h1 h2 h3 => by have := HMin.out q h1 h2 h3; omega)
          clear hlt HMin
          go_wp2_with fail
          refine HL2.out.mono ?_
          rintro e w2 ⟨rfl, hb2⟩
          have HH2 : Hid (HpIn w2 B nb (.slice (some ⟨g, 0, none⟩) N cp) lk) := HHk.out.below hb2
          have HG2 : Hid (w.grownBy w2 (some g)) := HGk.out.trans ⟨hb2.os, hb2.tape, hb2.output, hb2.size, fun k hk _ => hb2.block k hk⟩
          clear hb2 mL2 HL2
          go_wp2
          go_ret
          exact ⟨_, rfl, lk, HH2.out, HLk.out, HPk.out, HSt.out, HKk.out, HG2.out⟩

end Go.Proofs.YtfeklbnggicefaaGreat
