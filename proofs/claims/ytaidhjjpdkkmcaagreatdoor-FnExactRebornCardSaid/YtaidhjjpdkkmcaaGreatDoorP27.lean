/-
  Parts of one proof, one behind the other: FltN, LaidE, LaidE8, ReaI.
-/
import Derived.Test.YtaidhjjpdkkmcaaGreatDoorP26
import Derived.Laws.CopyOwn
import Derived.Test.YtaidhjjpdkkmcaaGreatDoorP13
import Derived.LaidLaws
import Derived.Stop.LaidErr
import Derived.Test.YtaidhjjpdkkmcaaGreatDoorP22
import Derived.LaidHandle
import Derived.Sort.OwnSortedInts

/-! The contract of chapter 9's landed FaultOf. -/
namespace Go.Proofs.YtaidhjjpdkkmcaaGreatDoor
open Go.RowKit

/-- What a fault tells is short. -/
def SmallF (F : Flt) : Prop := F.2.1.length ≤ 1048576 ∧ F.2.2.length ≤ 1048576
theorem fnsGo_small {ps : List Pk} {p : Pk} (hp : p.1.length ≤ 1048576) : ∀ (fs : List Fn) (k : Nat), (∀ f ∈ fs, f.1.length ≤ 1048576) → ∀ F, fnsGo ps p fs k = some F → SmallF F
 | [], _, _, F, h => by simp [fnsGo] at h
 | f :: r, k, hf, F, h => by
  rw [fnsGo] at h
  split at h
  ·
   injection h with h
   subst h
   exact ⟨hp, hf f List.mem_cons_self⟩
  ·
   exact fnsGo_small hp r (k + 1) (fun q hq => hf q (List.mem_cons_of_mem _ hq)) F h
theorem pk9_small {ps : List Pk} (hs : ShortPs ps) {dn i j : Nat} {F : Flt} (h : pk9 ps dn i (ps.getD j pk0) = some F) : SmallF F := by
 have hj := hs j
 unfold pk9 at h
 split at h
 ·
  injection h with h; subst h; exact ⟨hj.1, by simp⟩
 ·
  split at h
  ·
   injection h with h; subst h; exact ⟨hj.1, by simp⟩
  ·
   have hfs := hj.2.2.2.2
   refine fnsGo_small hj.1 _ 0 (fun f hf => ?_) F h
   generalize (ps.getD j pk0).2.2 = fs at hf hfs
   obtain ⟨q, hq, e⟩ := List.mem_iff_getElem.1 hf
   have h1 := (hfs q).1
   have e1 : fs.getD q fn0 = fs[q] := by simp [List.getD, hq]
   rw [e1, e] at h1
   exact h1
theorem fltGo_small {ps : List Pk} (hs : ShortPs ps) {dn : Nat} : ∀ (l : List (List UInt8)) (i : Nat) (F : Flt), fltGo ps dn l i = some F → SmallF F
 | [], _, F, h => by simp [fltGo] at h
 | x :: r, i, F, h => by
  rw [fltGo] at h
  cases hp : pk9 ps dn i (pkOf ps x) with
  | none => rw [hp] at h; exact fltGo_small hs r (i + 1) F h
  | some G =>
   rw [hp] at h
   injection h with h
   subst h
   exact pk9_small (j := (at8 ps x).toNat) hs hp
theorem fault_small {ps : List Pk} (hs : ShortPs ps) : SmallF (faultV ps) := by
 unfold faultV
 split
 ·
  unfold fault9
  split
  ·
   rename_i f hf
   exact fltGo_small hs _ _ f hf
  ·
   unfold main9
   split
   ·
    exact ⟨by simp, by simp⟩
   ·
    exact ⟨by simp [mainT], by simp [mainT]⟩
 ·
  exact ⟨by simp, by simp⟩

/-- A block of three cells that can be written. -/
structure Bx (Z : World) (k : Nat) (a b c : Value) : Prop where
 box : Box3 Z k a b c
 fr : ∀ j, Z.frozen? ⟨k, j, none⟩ = false
theorem Bx.new (w : World) (a b c : Value) (t : TypeId) : Bx (w.alloc (.cells #[a, b, c] t)) w.heap.size a b c ∧ Below w.heap.size w (w.alloc (.cells #[a, b, c] t)) := by
 obtain ⟨h1, h2⟩ := Box3.new w a b c t
 exact ⟨⟨h1, fun j => World.frozen?_alloc_at _ _ _ _ rfl⟩, h2⟩
theorem Bx.below {Z Y : World} {k : Nat} {a b c : Value} (h : Bx Z k a b c) (hb : Below Z.heap.size Z Y) : Bx Y k a b c := ⟨h.box.below hb, fun j => (hb.frozen (p := ⟨k, j, none⟩) h.box.lt).trans (h.fr j)⟩
theorem Bx.keep {Z Y : World} {k : Nat} {a b c : Value} (h : Bx Z k a b c) (e : Y.heap[k]? = Z.heap[k]?) : Bx Y k a b c := ⟨h.box.keep e, fun j => by have := h.fr j; simp only [World.frozen?] at this ⊢; rw [e]; exact this⟩
theorem Bx.row {Z : World} {k T : Nat} {a b c : Value} (h : Bx Z k a b c) (hk : k ≠ T) (cs : Array Value) : Bx (Z.setRow T cs) k a b c := h.keep (setRow_other Z T k cs hk)
theorem Bx.far {Z : World} {k g o : Nat} {a b c : Value} (h : Bx Z k a b c) (hk : g ≠ k) (v : Value) : Bx (Z.setCell ⟨g, o, none⟩ v) k a b c :=
 ⟨⟨(World.cell?_setCell_far Z ⟨g, o, none⟩ ⟨k, 0, none⟩ v hk).trans h.box.c0, (World.cell?_setCell_far Z ⟨g, o, none⟩ ⟨k, 1, none⟩ v hk).trans h.box.c1, (World.cell?_setCell_far Z ⟨g, o, none⟩ ⟨k, 2, none⟩ v hk).trans h.box.c2⟩, fun j => by simpa using h.fr j⟩
theorem Bx.s1 {Z : World} {k : Nat} {a b c : Value} (h : Bx Z k a b c) (v : Value) : Bx (Z.setCell ⟨k, 1, none⟩ v) k a v c :=
 ⟨⟨(World.cell?_setCell_other _ _ _ _ (by simp)).trans h.box.c0, World.cell?_setCell_same _ _ _ h.box.c1, (World.cell?_setCell_other _ _ _ _ (by simp)).trans h.box.c2⟩, fun j => by simpa using h.fr j⟩
theorem Bx.s2 {Z : World} {k : Nat} {a b c : Value} (h : Bx Z k a b c) (v : Value) : Bx (Z.setCell ⟨k, 2, none⟩ v) k a b v :=
 ⟨⟨(World.cell?_setCell_other _ _ _ _ (by simp)).trans h.box.c0, (World.cell?_setCell_other _ _ _ _ (by simp)).trans h.box.c1, World.cell?_setCell_same _ _ _ h.box.c2⟩, fun j => by simpa using h.fr j⟩
theorem Bx.f {Z : World} {k : Nat} (h : Bx Z k (.int .i64 0) (.string ⟨#[]⟩) (.string ⟨#[]⟩)) : FBox Z k := ⟨h.box, h.fr⟩

set_option maxHeartbeats 8000000 in
set_option maxRecDepth 100000 in
theorem implFaultOf (a : Option Addr) (len cap : Nat) (ps : List Pk) (er : Nat → Addr) (w : World) (hE : Err8 w er) (h : PkgsOk w a len cap ps) :
 Calls Tryz.prog 80 #[.slice a len cap] w fun e w' => e = .returned (fltVal (faultV ps)) ∧ Below w.heap.size w w' := by
 obtain ⟨hs1, hs2⟩ := fault_small h.short
 obtain ⟨bD, hb0⟩ := Bx.new w (.int .i64 0) (.string ⟨#[]⟩) (.string ⟨#[]⟩) 106
 obtain ⟨W0, hW0⟩ : ∃ W0, w.alloc (.cells #[.int .i64 0, .string ⟨#[]⟩, .string ⟨#[]⟩] 106) = W0 := ⟨_, rfl⟩
 obtain ⟨D, hD⟩ : ∃ D, w.heap.size = D := ⟨_, rfl⟩
 rw [hW0] at bD hb0
 rw [hD] at bD hb0
 have hDw : w.heap.size ≤ D := Nat.le_of_eq hD
 have HPr : Hid (_) := implProjectWrong a len cap ps er W0 (hE.below (by rw [hD]; exact hb0)) (h.below (by rw [hD]; exact hb0))
 have HEr : Hid (Err8 W0 er) := hE.below (by rw [hD]; exact hb0)
 have hsz : D < W0.heap.size := bD.box.lt
 have HB0 : Hid (Below D w W0) := hb0
 have HD : Hid (Bx W0 D (.int .i64 0) (.string ⟨#[]⟩) (.string ⟨#[]⟩)) := bD
 obtain ⟨F, hF⟩ : ∃ F, faultV ps = F := ⟨_, rfl⟩
 rw [hF] at HPr hs1 hs2 ⊢
 clear bD hb0 hE h hF
 go_enter Tryz.func80, Tryz.ntmps80
 go_wp2_with fail
 refine Calls.mono HPr.out ?_
 rintro e w1 ⟨v, rfl, hv, hb1⟩
 have bD := HD.out.below hb1
 have HE1 : Hid (Err8 w1 er) := HEr.out.below hb1
 have hB1 : Below D w w1 := HB0.out.trans (hb1.mono (Nat.le_of_lt hsz))
 have hs1w : D < w1.heap.size := bD.box.lt
 clear HPr HEr HB0 HD hb1
 rcases hv with ⟨rfl, rfl⟩ | ⟨rfl, rfl⟩ | ⟨c, p, g, k, rfl, hk, rfl⟩
 ·
  obtain ⟨Y, hY, y0, y1, y2, hbY⟩ := bD.f.put (w := w) (by rw [hD]; exact hB1) hDw (0, [], [])
  simp only at hY y0 y1 y2
  have f0 := bD.fr 0
  have f1 := bD.fr 1
  have f2 := bD.fr 2
  have d0 := bD.box.c0
  have d1 := bD.box.c1
  have d2 := bD.box.c2
  clear bD hB1
  go_wp2
  refine bodyPost_ret (v := fltVal (0, [], [])) (by unfold fltVal; simp [results, Tryz.results80, go_sem, y0, y1, y2]) rfl ?_
  exact ⟨rfl, hbY⟩
 ·
  go_wp2_with fail
  refine Calls.mono (codeOfFaultE er _ HE1.out) ?_
  rintro e w2 ⟨rfl, hb2⟩
  have bD2 := bD.below hb2
  have hB2 : Below D w w2 := hB1.trans (hb2.mono (Nat.le_of_lt hs1w))
  obtain ⟨E, hEe⟩ : ∃ E, w2.heap.size = E := ⟨_, rfl⟩
  have hDE : D < E := by rw [← hEe]; exact bD2.box.lt
  obtain ⟨bE, hbE⟩ := Bx.new w2 (.int .i64 6) (.string ⟨#[]⟩) (.string ⟨#[]⟩) 106
  obtain ⟨bT, hbT⟩ := Bx.new (w2.alloc (.cells #[.int .i64 6, .string ⟨#[]⟩, .string ⟨#[]⟩] 106)) (.string ⟨#[]⟩) (.string ⟨#[]⟩) .nilIface 134
  have hT := heap_alloc_new (w2.alloc (.cells #[.int .i64 6, .string ⟨#[]⟩, .string ⟨#[]⟩] 106)) (.cells #[.string ⟨#[]⟩, .string ⟨#[]⟩, .nilIface] 134)
  have hsz1 : (w2.alloc (.cells #[.int .i64 6, .string ⟨#[]⟩, .string ⟨#[]⟩] 106)).heap.size = E + 1 := by rw [← hEe]; simp
  rw [hEe] at bE
  rw [hsz1] at bT hT
  have bE2 := bE.below hbT
  have bD4 := (bD2.below hbE).below hbT
  have HE4 : Hid (Err8 ((w2.alloc (.cells #[.int .i64 6, .string ⟨#[]⟩, .string ⟨#[]⟩] 106)).alloc (.cells #[.string ⟨#[]⟩, .string ⟨#[]⟩, .nilIface] 134)) er) := ((HE1.out.below hb2).below hbE).below hbT
  have hB4 : Below D w ((w2.alloc (.cells #[.int .i64 6, .string ⟨#[]⟩, .string ⟨#[]⟩] 106)).alloc (.cells #[.string ⟨#[]⟩, .string ⟨#[]⟩, .nilIface] 134)) := (hB2.trans (hbE.mono (by omega))).trans (hbT.mono (by rw [hsz1]; omega))
  have hsz4 : D < ((w2.alloc (.cells #[.int .i64 6, .string ⟨#[]⟩, .string ⟨#[]⟩] 106)).alloc (.cells #[.string ⟨#[]⟩, .string ⟨#[]⟩, .nilIface] 134)).heap.size := bD4.box.lt
  have gE := HE4.out.ety
  have HAs : Hid (_) := as_miss (er 0) ⟨E + 1, 0, none⟩ _ gE
  clear bD bD2 bE bT hT hbE hbT hB1 hB2 hb2 HE1
  go_wp2_with fail
  refine Calls.mono HAs.out ?_
  rintro e w3 ⟨rfl, hb3⟩
  have bE3 := bE2.below hb3
  have bD3 := bD4.below hb3
  have hB3 : Below D w w3 := hB4.trans (hb3.mono (Nat.le_of_lt hsz4))
  obtain ⟨Y, hY, y0, y1, y2, hbY⟩ := bD3.f.put (w := w) (by rw [hD]; exact hB3) hDw (6, [], [])
  simp only at hY y0 y1 y2
  have f0 := bD3.fr 0
  have f1 := bD3.fr 1
  have f2 := bD3.fr 2
  have d0 := bD3.box.c0
  have d1 := bD3.box.c1
  have d2 := bD3.box.c2
  have e0 := bE3.box.c0
  have e1 := bE3.box.c1
  have e2 := bE3.box.c2
  clear bE2 bE3 bD4 bD3 hB3 hB4 hb3 gE HE4 HAs
  go_wp2
  refine bodyPost_ret (v := fltVal (6, [], [])) (by unfold fltVal; simp [results, Tryz.results80, go_sem, y0, y1, y2]) rfl ?_
  exact ⟨rfl, hbY⟩
 ·
  have HC : Hid (_) := implCodeOfFault c k hk p g er w1 HE1.out
  clear hk
  go_wp2_with fail
  refine Calls.mono HC.out ?_
  rintro e w2 ⟨rfl, hb2⟩
  have bD2 := bD.below hb2
  have hB2 : Below D w w2 := hB1.trans (hb2.mono (Nat.le_of_lt hs1w))
  obtain ⟨E, hEe⟩ : ∃ E, w2.heap.size = E := ⟨_, rfl⟩
  have hDE : D < E := by rw [← hEe]; exact bD2.box.lt
  obtain ⟨bE, hbE⟩ := Bx.new w2 (.int .i64 c) (.string ⟨#[]⟩) (.string ⟨#[]⟩) 106
  obtain ⟨bT, hbT⟩ := Bx.new (w2.alloc (.cells #[.int .i64 c, .string ⟨#[]⟩, .string ⟨#[]⟩] 106)) (.string ⟨#[]⟩) (.string ⟨#[]⟩) .nilIface 134
  have hT := heap_alloc_new (w2.alloc (.cells #[.int .i64 c, .string ⟨#[]⟩, .string ⟨#[]⟩] 106)) (.cells #[.string ⟨#[]⟩, .string ⟨#[]⟩, .nilIface] 134)
  have hsz1 : (w2.alloc (.cells #[.int .i64 c, .string ⟨#[]⟩, .string ⟨#[]⟩] 106)).heap.size = E + 1 := by rw [← hEe]; simp
  rw [hEe] at bE
  rw [hsz1] at bT hT
  have bE2 := bE.below hbT
  have bD4 := (bD2.below hbE).below hbT
  have HE4 : Hid (Err8 ((w2.alloc (.cells #[.int .i64 c, .string ⟨#[]⟩, .string ⟨#[]⟩] 106)).alloc (.cells #[.string ⟨#[]⟩, .string ⟨#[]⟩, .nilIface] 134)) er) := ((HE1.out.below hb2).below hbE).below hbT
  have hB4 : Below D w ((w2.alloc (.cells #[.int .i64 c, .string ⟨#[]⟩, .string ⟨#[]⟩] 106)).alloc (.cells #[.string ⟨#[]⟩, .string ⟨#[]⟩, .nilIface] 134)) := (hB2.trans (hbE.mono (by omega))).trans (hbT.mono (by rw [hsz1]; omega))
  have hsz4 : D < ((w2.alloc (.cells #[.int .i64 c, .string ⟨#[]⟩, .string ⟨#[]⟩] 106)).alloc (.cells #[.string ⟨#[]⟩, .string ⟨#[]⟩, .nilIface] 134)).heap.size := bD4.box.lt
  have gE := HE4.out.ety
  have HAs : Hid (_) := as_hit p g (er k) (E + 1) 134 _ _ hT rfl gE
  clear bD bD2 bE bT hT hbE hbT hB1 hB2 hb2 HE1 HC
  go_wp2_with fail
  refine Calls.mono HAs.out ?_
  rintro e w3 ⟨rfl, w0, hb3, ho0, hw3⟩
  have bE3 := (bE2.below hb3).row (T := E + 1) (by omega) #[.string ⟨p.toArray⟩, .string ⟨g.toArray⟩, .iface 258 (.pointer (some (er k)))]
  have bD3 := (bD4.below hb3).row (T := E + 1) (by omega) #[.string ⟨p.toArray⟩, .string ⟨g.toArray⟩, .iface 258 (.pointer (some (er k)))]
  have hT3 := setRow_heap w0 (E + 1) _ #[.string ⟨p.toArray⟩, .string ⟨g.toArray⟩, .iface 258 (.pointer (some (er k)))] _ _ ho0
  have hB3 : Below D w (w0.setRow (E + 1) #[.string ⟨p.toArray⟩, .string ⟨g.toArray⟩, .iface 258 (.pointer (some (er k)))]) := below_setRow (hB4.trans (hb3.mono (Nat.le_of_lt hsz4))) (by omega) _
  rw [← hw3] at bE3 bD3 hT3 hB3
  have t0 : w3.cell? ⟨E + 1, 0, none⟩ = some (.string ⟨p.toArray⟩) := by simp [World.cell?, hT3]
  have t1 : w3.cell? ⟨E + 1, 1, none⟩ = some (.string ⟨g.toArray⟩) := by simp [World.cell?, hT3]
  have hs3 : D < w3.heap.size := bD3.box.lt
  have hTl : E + 1 < w3.heap.size := World.block_lt_of_cell? w3 ⟨E + 1, 0, none⟩ t0
  clear hw3 ho0 hT3 bE2 bD4 hB4 gE HE4 HAs hb3 hsz4
  clear w0
  go_wp2_with fail
  refine Calls.mono (stringsClone p _ hs1) ?_
  rintro e w4 ⟨rfl, hb4⟩
  have bE4 := bE3.below hb4
  have bD5 := (bD3.below hb4).far (g := E) (o := 1) (by omega) (.string ⟨p.toArray⟩)
  have t14 := (World.cell?_setCell_far w4 ⟨E, 1, none⟩ ⟨E + 1, 1, none⟩ (.string ⟨p.toArray⟩) (by simp)).trans ((hb4.cell (p := ⟨E + 1, 1, none⟩) hTl).trans t1)
  have hB4 : Below D w w4 := hB3.trans (hb4.mono (Nat.le_of_lt hs3))
  have bE5 := bE4.s1 (.string ⟨p.toArray⟩)
  have hB5 : Below D w (w4.setCell ⟨E, 1, none⟩ (.string ⟨p.toArray⟩)) := hB4.grown (grown_set w4 E 1 _) (by rw [← hD]; exact hB4.size) (fun q e => by injection e with e; have e2 : E = q := e; omega)
  have fE1 := bE4.fr 1
  have e14 := bE4.box.c1
  obtain ⟨Y1, hY1⟩ : ∃ Y1, w4.setCell ⟨E, 1, none⟩ (.string ⟨p.toArray⟩) = Y1 := ⟨_, rfl⟩
  rw [hY1] at bD5 t14 bE5 hB5
  have hs5 : D < Y1.heap.size := bD5.box.lt
  clear bE4 bE3 bD3 hB3 hB4 t0 t1 hb4
  go_wp2_with fail
  refine Calls.mono (stringsClone g _ hs2) ?_
  rintro e w5 ⟨rfl, hb5⟩
  have bE6 := bE5.below hb5
  have bD7 := (bD5.below hb5).far (g := E) (o := 2) (by omega) (.string ⟨g.toArray⟩)
  have hB6 : Below D w w5 := hB5.trans (hb5.mono (Nat.le_of_lt hs5))
  have bE7 := bE6.s2 (.string ⟨g.toArray⟩)
  have hB7 : Below D w (w5.setCell ⟨E, 2, none⟩ (.string ⟨g.toArray⟩)) := hB6.grown (grown_set w5 E 2 _) (by rw [← hD]; exact hB6.size) (fun q e => by injection e with e; have e2 : E = q := e; omega)
  have fE2 := bE6.fr 2
  have e26 := bE6.box.c2
  obtain ⟨Y2, hY2⟩ : ∃ Y2, w5.setCell ⟨E, 2, none⟩ (.string ⟨g.toArray⟩) = Y2 := ⟨_, rfl⟩
  rw [hY2] at bD7 bE7 hB7
  obtain ⟨Y, hY, y0, y1, y2, hbY⟩ := bD7.f.put (w := w) (by rw [hD]; exact hB7) hDw (c, p, g)
  simp only at hY y0 y1 y2
  have f0 := bD7.fr 0
  have f1 := bD7.fr 1
  have f2 := bD7.fr 2
  have d0 := bD7.box.c0
  have d1 := bD7.box.c1
  have d2 := bD7.box.c2
  have e0 := bE7.box.c0
  have e1 := bE7.box.c1
  have e2 := bE7.box.c2
  clear bE5 bE6 bE7 bD5 bD7 hB5 hB6 hB7 hb5 t14 fE1 e14
  go_wp2
  refine bodyPost_ret (v := fltVal (c, p, g)) (by unfold fltVal; simp [results, Tryz.results80, go_sem, y0, y1, y2]) rfl ?_
  exact ⟨rfl, hbY⟩

end Go.Proofs.YtaidhjjpdkkmcaaGreatDoor

/-! What listed errors of errors.New's make give a walk: each variable's cell, and that no two are one. -/
namespace Go.Proofs.YtaidhjjpdkkmcaaGreatDoor
open Go.RowKit

def sentD (text : List UInt8) : DataW Unit := .iface "*errors.errorString" (.ptr (.agg [.lit (.string text)]))
noncomputable def errTy (n : String) : Bool := ((Tryz.prog.globalNamed n).bind fun g => (Tryz.prog.globals[g]?).map (·.type)) == some 130
theorem errStar : "*errors.errorString" = "*" ++ "errors.errorString" := by decide
theorem errRow (u : TypeId) (h : Tryz.prog.typeName? 3 u = some "*errors.errorString") : u = 258 :=
 typeName_ptr_named (nm := "errors.errorString") (by rw [← errStar]; kernel_rfl) (by kernel_rfl) (by decide) u (by rw [← errStar]; exact h)
set_option maxRecDepth 100000 in
theorem sents_of {W : World} : ∀ (l : List (String × List UInt8)) (ps : List MemPlace), (l.all fun x => errTy x.1) = true → DataW.LaidVars Tryz.prog W (l.map fun x => (x.1, sentD x.2)) ps → ps.Nodup →
 (∀ b off, MemPlace.cell b off ∈ ps → (∃ c t, W.heap[b]? = some (.cells c t (0, 0))) ∧ ∀ u v, W.cell? ⟨b, off, none⟩ = some (.iface u v) → Value.okWide Tryz.prog W .any 0 u v) →
 ∃ al : List Addr, al.length = l.length ∧ al.Nodup ∧ (∀ a ∈ al, MemPlace.cell a.block a.off ∈ ps) ∧ ∀ i, i < l.length → W.var? Tryz.prog (l.getD i ("", [])).1 = some #[sentV (al.getD i ⟨0, 0, none⟩)] ∧ SentAt W (al.getD i ⟨0, 0, none⟩)
 | [], ps, _, _, _, _ => ⟨[], rfl, List.nodup_nil, (fun a ha => by cases ha), (fun i hi => absurd hi (Nat.not_lt_zero _))⟩
 | x :: r, ps, hty, h, hnd, hrows => by
  obtain ⟨g, t, cs, fuel, p, q, hg, ht, hv, hd, hr, e⟩ := h
  rw [List.all_cons, Bool.and_eq_true] at hty
  have h1 := hty.1
  unfold errTy at h1
  rw [hg, Option.bind_some, ht] at h1
  obtain rfl : t = 130 := by simpa using h1
  subst e
  obtain ⟨l0⟩ := cs
  have ok : ∀ u v, l0 = [.iface u v] → Value.okWide Tryz.prog W .any 0 u v := fun u v e => by
   subst e
   exact (hrows g 0 (by simp [MemPlace.row])).2 u v (by simpa using World.var?_cell hg hv 0)
  obtain ⟨a, s, rfl, hc, hs, hz, rfl⟩ := errorString_of_trod Tryz.underlying130 errRow Tryz.underlying258 Tryz.underlying277 rfl rfl Tryz.underlying9 (by kernel_rfl) (by kernel_rfl) hd ok
  obtain ⟨al, hl, has, hin, hall⟩ := sents_of r q hty.2 hr (List.Nodup.sublist (List.sublist_append_right _ _) hnd) (fun b off hm => hrows b off (List.mem_append_right _ hm))
  have hca : MemPlace.cell a.block a.off ∈ MemPlace.row a 1 := by simp [MemPlace.row]
  refine ⟨a :: al, by simp [hl], List.nodup_cons.2 ⟨fun ha => ?_, has⟩, fun b hb => ?_, fun i hi => ?_⟩
  ·
   have h2 := hin a ha
   rw [List.append_assoc] at hnd
   have h3 := (List.nodup_append.1 hnd).2.1
   exact (List.nodup_append.1 h3).2.2 _ hca _ h2 rfl
  ·
   rcases List.mem_cons.1 hb with rfl | hb
   ·
    exact List.mem_append_left _ (List.mem_append_right _ hca)
   ·
    exact List.mem_append_right _ (hin b hb)
  ·
   rcases i with _ | i
   ·
    exact ⟨hv, (hrows a.block a.off (List.mem_append_left _ (List.mem_append_right _ hca))).1⟩
   ·
    have := hall i (by simpa using hi)
    simpa using this

theorem nodup_at {al : List Addr} (h : al.Nodup) {i j : Nat} (hi : i < al.length) (hj : j < al.length) (hne : i ≠ j) : al.getD i ⟨0, 0, none⟩ ≠ al.getD j ⟨0, 0, none⟩ := by
 intro e
 have e1 : al.getD i ⟨0, 0, none⟩ = al[i] := by simp [List.getD, hi]
 have e2 : al.getD j ⟨0, 0, none⟩ = al[j] := by simp [List.getD, hj]
 rw [e1, e2] at e
 exact hne ((List.getElem_inj h).1 e)

/-- The four that CallCode asks, in the order of the list: not told, far, func, count. -/
theorem err4_of {W : World} {t0 t1 t2 t3 : List UInt8} {l : List (String × List UInt8)} (h : laidMet Tryz.prog ((("loop.example/g00346/impl.errNotTold", t0) :: ("loop.example/g00346/impl.errFar", t1) :: ("loop.example/g00346/impl.errFunc", t2) :: ("loop.example/g00346/impl.errCount", t3) :: l).map fun x => (x.1, sentD x.2)) W)
 (hty : (l.all fun x => errTy x.1) = true) :
 ∃ al : List Addr, al.length = l.length + 4 ∧ al.Nodup ∧ Err4 W (fun i => al.getD i ⟨0, 0, none⟩) ∧ ∀ i, i < l.length → W.var? Tryz.prog (l.getD i ("", [])).1 = some #[sentV (al.getD (i + 4) ⟨0, 0, none⟩)] ∧ SentAt W (al.getD (i + 4) ⟨0, 0, none⟩) := by
 obtain ⟨ps, hv, hnd, hrows⟩ := h
 have ht4 : errTy "loop.example/g00346/impl.errNotTold" = true ∧ errTy "loop.example/g00346/impl.errFar" = true ∧ errTy "loop.example/g00346/impl.errFunc" = true ∧ errTy "loop.example/g00346/impl.errCount" = true := ⟨by kernel_rfl, by kernel_rfl, by kernel_rfl, by kernel_rfl⟩
 obtain ⟨al, hl, has, _, hall⟩ := sents_of _ ps (by simp only [List.all_cons, ht4, Bool.true_and, hty]) hv hnd hrows
 have hl4 : al.length = l.length + 4 := by simpa using hl
 have c : ∀ i g n, i < 4 → (([("loop.example/g00346/impl.errNotTold", t0), ("loop.example/g00346/impl.errFar", t1), ("loop.example/g00346/impl.errFunc", t2), ("loop.example/g00346/impl.errCount", t3)] ++ l).getD i ("", [])).1 = n → Tryz.prog.globalNamed n = some g → W.cell? ⟨g, 0, none⟩ = some (sentV (al.getD i ⟨0, 0, none⟩)) := fun i g n hi hn hg => by
  have h1 := (hall i (by simp; omega)).1
  have h2 : (([("loop.example/g00346/impl.errNotTold", t0), ("loop.example/g00346/impl.errFar", t1), ("loop.example/g00346/impl.errFunc", t2), ("loop.example/g00346/impl.errCount", t3)] ++ l).getD i ("", [])).1 = n := hn
  simp only [List.cons_append, List.nil_append] at h2
  rw [h2] at h1
  simpa using World.var?_cell hg h1 0
 have at_ : ∀ i, i < 4 → SentAt W (al.getD i ⟨0, 0, none⟩) := fun i hi => (hall i (by simp; omega)).2
 have ne : ∀ i j, i < 4 → j < 4 → i ≠ j → al.getD i ⟨0, 0, none⟩ ≠ al.getD j ⟨0, 0, none⟩ := fun i j hi hj hne => nodup_at has (by omega) (by omega) hne
 refine ⟨al, hl4, has, ⟨c 0 0 _ (by decide) rfl (by kernel_rfl), c 1 6 _ (by decide) rfl (by kernel_rfl), c 2 7 _ (by decide) rfl (by kernel_rfl), c 3 8 _ (by decide) rfl (by kernel_rfl), at_ 0 (by decide), at_ 1 (by decide), at_ 2 (by decide), at_ 3 (by decide), ⟨ne 0 1 (by decide) (by decide) (by decide), ne 0 2 (by decide) (by decide) (by decide), ne 0 3 (by decide) (by decide) (by decide), ne 1 2 (by decide) (by decide) (by decide), ne 1 3 (by decide) (by decide) (by decide), ne 2 3 (by decide) (by decide) (by decide)⟩⟩, fun i hi => ?_⟩
 have h1 := hall (i + 4) (by simp; omega)
 simpa using h1

end Go.Proofs.YtaidhjjpdkkmcaaGreatDoor

/-! What the eight listed errors and errors.errorType give a walk. -/
namespace Go.Proofs.YtaidhjjpdkkmcaaGreatDoor
open Go.RowKit

theorem etyAt : Tryz.prog.globalNamed "errors.errorType" = some 5 := by kernel_rfl
theorem etyRt : (Tryz.prog.cutTypes.find? (·.1 == "internal/reflectlite.rtype")).map (·.2) = some 199 := by kernel_rfl
theorem etyRow : ((List.range 289).filter fun t => Tryz.prog.rowNamed t [101, 114, 114, 111, 114]) = [130] := by kernel_rfl
theorem etySize : Tryz.prog.types.size = 289 := by kernel_rfl
/-- The variable that holds the type error's handle. -/
theorem handle_of {W : World} (h : handlesMet Tryz.prog [("errors.errorType", .iface "internal/reflectlite.rtype" (.agg [.ptr (.lit (.string [101, 114, 114, 111, 114]))]))] W) : W.cell? ⟨5, 0, none⟩ = some (.iface 199 (.agg #[.pointer (some ⟨13, 130, none⟩)])) := by
 obtain ⟨name, u, ty, e1, e2, e3, e4, e5⟩ := h _ (List.mem_singleton.2 rfl)
 have en : name = [101, 114, 114, 111, 114] := (Option.some.inj e1).symm
 subst en
 obtain rfl := Option.some.inj (etyRt.symm.trans e2)
 have hm : ty ∈ (List.range 289).filter fun t => Tryz.prog.rowNamed t [101, 114, 114, 111, 114] := List.mem_filter.2 ⟨List.mem_range.2 (by rw [← etySize]; exact e3), e4⟩
 rw [etyRow] at hm
 obtain rfl := List.mem_singleton.1 hm
 have hh : typeHandle Tryz.prog 130 = .pointer (some ⟨13, 130, none⟩) := by kernel_rfl
 rw [hh] at e5
 simpa using World.var?_cell etyAt e5 0

theorem err8_of {W : World} {t0 t1 t2 t3 t4 t5 t6 t7 : List UInt8} (h : laidMet Tryz.prog ([("loop.example/g00346/impl.errNotTold", t0), ("loop.example/g00346/impl.errFar", t1), ("loop.example/g00346/impl.errFunc", t2), ("loop.example/g00346/impl.errCount", t3), ("loop.example/g00346/impl.errImport", t4), ("loop.example/g00346/impl.errRing", t5), ("loop.example/g00346/impl.errArg", t6), ("loop.example/g00346/impl.errMain", t7)].map fun x => (x.1, sentD x.2)) W)
 (hg : W.cell? ⟨5, 0, none⟩ = some (.iface 199 (.agg #[.pointer (some ⟨13, 130, none⟩)]))) : ∃ er, Err8 W er := by
 have ht4 : errTy "loop.example/g00346/impl.errImport" = true ∧ errTy "loop.example/g00346/impl.errRing" = true ∧ errTy "loop.example/g00346/impl.errArg" = true ∧ errTy "loop.example/g00346/impl.errMain" = true := ⟨by kernel_rfl, by kernel_rfl, by kernel_rfl, by kernel_rfl⟩
 obtain ⟨al, hl, hnd, hE, hr⟩ := err4_of (l := [("loop.example/g00346/impl.errImport", t4), ("loop.example/g00346/impl.errRing", t5), ("loop.example/g00346/impl.errArg", t6), ("loop.example/g00346/impl.errMain", t7)]) h (by simp only [List.all_cons, List.all_nil, ht4, Bool.and_true])
 have hl8 : al.length = 8 := hl
 have c : ∀ i g n, i < 4 → ([("loop.example/g00346/impl.errImport", t4), ("loop.example/g00346/impl.errRing", t5), ("loop.example/g00346/impl.errArg", t6), ("loop.example/g00346/impl.errMain", t7)].getD i ("", [])).1 = n → Tryz.prog.globalNamed n = some g → W.cell? ⟨g, 0, none⟩ = some (sentV (al.getD (i + 4) ⟨0, 0, none⟩)) := fun i g n hi hn hg => by
  have h1 := (hr i hi).1
  rw [hn] at h1
  simpa using World.var?_cell hg h1 0
 refine ⟨_, hE, c 0 2 _ (by decide) rfl (by kernel_rfl), c 1 3 _ (by decide) rfl (by kernel_rfl), c 2 4 _ (by decide) rfl (by kernel_rfl), c 3 1 _ (by decide) rfl (by kernel_rfl), fun i hi => ?_, fun i j hi hj hne => nodup_at hnd (by omega) (by omega) hne, hg⟩
 rcases (show i = 0 ∨ i = 1 ∨ i = 2 ∨ i = 3 ∨ 4 ≤ i by omega) with rfl | rfl | rfl | rfl | h4
 ·
  exact hE.at0
 ·
  exact hE.at1
 ·
  exact hE.at2
 ·
  exact hE.at3
 ·
  obtain ⟨q, rfl⟩ : ∃ q, i = q + 4 := ⟨i - 4, by omega⟩
  exact (hr q (by simp; omega)).2

end Go.Proofs.YtaidhjjpdkkmcaaGreatDoor

/-! The contracts of the landed placesReached and of slices.Sort at a row that the call owns. -/
namespace Go.Proofs.YtaidhjjpdkkmcaaGreatDoor
open Go.RowKit Go.Sort

/-- A row that is written, beside two that stay. -/
structure Ro3 (X : World) (B : Nat) (v u t : Value) (l lu lt : List Nat) : Prop where
 rv : X.ownsRow B 3 1 v l.length (natV l)
 ru : X.ownsRow B 3 1 u lu.length (natV lu)
 rt : X.ownsRow B 3 1 t lt.length (natV lt)
 au : ∀ k, v.ownBlock = some k → u.ownBlock ≠ some k
 at_ : ∀ k, v.ownBlock = some k → t.ownBlock ≠ some k
theorem Ro3.below {X Y : World} {B : Nat} {v u t : Value} {l lu lt : List Nat} (h : Ro3 X B v u t l lu lt) (hb : Below X.heap.size X Y) : Ro3 Y B v u t l lu lt := ⟨own_below h.rv hb, own_below h.ru hb, own_below h.rt hb, h.au, h.at_⟩
theorem Ro3.app {X : World} {B : Nat} {v u t : Value} {l lu lt : List Nat} (h : Ro3 X B v u t l lu lt) (hB : B ≤ X.heap.size) (hl : l.length ≤ 1000) (x : Nat) :
 ∃ g' c' Y, (Builtin.append_ #[137, 137] 137 #[v, .slice (some ⟨X.heap.size, 0, none⟩) 1 1]).run Tryz.prog (X.alloc (.cells #[.int .i64 (x : Int)] 3)) = .ok (.slice (some ⟨g', 0, none⟩) (l.length + 1) c') Y ∧
  Ro3 Y B (.slice (some ⟨g', 0, none⟩) (l.length + 1) c') u t (l ++ [x]) lu lt ∧ Below B X Y := by
 obtain ⟨v', Y, hr, ho, hg, hat⟩ := push_nat 137 Tryz.underlying137 x h.rv hB (by omega)
 obtain ⟨g', c', rfl⟩ := own_some ho (by omega)
 have hw : Wrote X Y (fun k => v.ownBlock = some k) := Wrote.of_grown hg (fun k e => e)
 refine ⟨g', c', Y, hr, ⟨by rw [List.length_append, List.length_singleton]; exact ho, own_wrote h.ru hw (fun k e e2 => h.au k e2 e), own_wrote h.rt hw (fun k e e2 => h.at_ k e2 e), fun k e e2 => ?_, fun k e e2 => ?_⟩, hw.below hB (fun k e => (h.rv.lt k e).1)⟩
 ·
  rcases hat with h1 | h1
  ·
   exact h.au k (by rw [← h1]; exact e) e2
  ·
   rw [h1] at e; injection e with e
   have := (h.ru.lt k e2).2
   omega
 ·
  rcases hat with h1 | h1
  ·
   exact h.at_ k (by rw [← h1]; exact e) e2
  ·
   rw [h1] at e; injection e with e
   have := (h.rt.lt k e2).2
   omega


theorem rp_take {P re : List Nat} {k : Nat} (h : ∀ z ∈ P.take k, z ∈ re) (hk : k < P.length) (hz : P.getD k 0 ∈ re) : ∀ z ∈ P.take (k + 1), z ∈ re := fun z hz2 => by
 rw [List.take_succ_eq_append_getElem hk, List.mem_append, List.mem_singleton] at hz2
 rcases hz2 with e | e
 ·
  exact h z e
 ·
  rw [e]
  have : P.getD k 0 = P[k] := by simp [List.getD, hk]
  rw [← this]; exact hz
set_option maxHeartbeats 4000000 in
set_option maxRecDepth 100000 in
theorem implPlacesReached (a : Option Addr) (len cap : Nat) (ps : List Pk) (f : Nat) (w : World) (h : PkgsOk w a len cap ps) (hpj : projB ps = true) (hf : f < len) :
 Calls Tryz.prog 109 #[.slice a len cap, .int .i64 (f : Int)] w fun e w' => ∃ v, e = .returned v ∧ ∃ re, w'.ownsRow w.heap.size 3 1 v re.length (natV re) ∧ Rp8 ps f re ∧ RpTo ps re re.length ∧ Below w.heap.size w w' := by
 obtain rfl : ps.length = len := h.hlen
 have hn8 : ps.length ≤ 8 := (projB_parts hpj).2.1.2
 have HI : Hid (PkgsOk w a ps.length cap ps) := h
 have HPJ : Hid (projB ps = true) := hpj
 have HS0 : Hid (Ro3 (w.alloc (.cells #[.int .i64 (f : Int)] 3)) w.heap.size (.slice (some ⟨w.heap.size, 0, none⟩) 1 1) (.slice none 0 0) (.slice none 0 0) [f] [] []) := ⟨World.ownsRow_lit (base := w.heap.size) (e := 3) (size := 1) w #[.int .i64 (f : Int)] 1 (Nat.le_refl _) (by decide) rfl, World.ownsRow_nil _ _ _ _, World.ownsRow_nil _ _ _ _, (fun k _ e => by cases e), (fun k _ e => by cases e)⟩
 have HB0 : Hid (Below w.heap.size w (w.alloc (.cells #[.int .i64 (f : Int)] 3))) := (Below.refl _ _).alloc (Nat.le_refl _) _
 have HR0 : Hid (Rp8 ps f [f]) := Rp8.one hpj hf
 clear h hpj
 go_enter Tryz.func109, Tryz.ntmps109
 go_wp2
 go_loopw [5, 6] (fun rv iv wr => ∃ (i m : Nat) (ra : Option Addr) (rc : Nat) (re : List Nat), rv = .slice ra m rc ∧ iv = .int .i64 (i : Int) ∧ i ≤ m ∧ m ≤ 8 ∧ Hid (re.length = m) ∧ Hid (Ro3 wr w.heap.size (.slice ra m rc) (.slice none 0 0) (.slice none 0 0) re [] []) ∧ Hid (Rp8 ps f re) ∧ Hid (RpTo ps re i) ∧ Hid (Below w.heap.size w wr)) (fun _ iv _ => 100 - (intOf iv).toNat)
 case atStart => exact ⟨0, 1, _, 1, [f], rfl, rfl, by omega, by omega, rfl, HS0, HR0, (fun j hj => by omega), HB0⟩
 case round =>
  obtain ⟨i, m, ra, rc, re, rfl, rfl, him, hm8, HL, HS, HR, HT, HB⟩ := hrel
  clear HS0 HB0 HR0
  obtain ⟨Z, hZ⟩ : ∃ Z, Z = wr := ⟨_, rfl⟩
  subst hZ
  by_cases hlt : (i : Int) < (m : Int)
  ·
   have hi2 : i < m := by omega
   have hrv := HS.out.rv
   rw [HL.out] at hrv
   obtain ⟨g, cc, hge⟩ := own_some hrv (by omega)
   injection hge with e1 _ e3
   subst e1
   subst e3
   have c0 := nat_cell hrv HL.out i hi2
   have hym := getD_mem_n (l := re) (k := i) (by rw [HL.out]; exact hi2)
   have hyl := HR.out.lt _ hym
   obtain ⟨y, hy⟩ : ∃ y, re.getD i 0 = y := ⟨_, rfl⟩
   rw [hy] at c0 hym hyl
   have HPo : Hid (_) := implPlacesOf a ps.length cap ps y Z (HI.out.below HB.out) hyl
   obtain ⟨P, hP⟩ : ∃ P, plc ps (imsAt ps y) = P := ⟨_, rfl⟩
   rw [hP] at HPo
   have HP : Hid (plc ps (imsAt ps y) = P) := hP
   have HY0 : Hid (re.getD i 0 = y) := hy
   have hPl : P.length ≤ 6 := by rw [← hP]; exact Nat.le_trans (plc_le _ _) (ims_nodup HPJ.out hyl).2
   clear hrv hP hy
   go_wp2_with fail
   refine Calls.mono HPo.out ?_
   rintro e w1 ⟨v1, rfl, ho1, hb1⟩
   obtain ⟨pa, pc, rfl, _⟩ := own_nats ho1 rfl
   have s1 := HS.out.below hb1
   have HB1 : Hid (Below w.heap.size w w1) := HB.out.trans (hb1.mono HB.out.size)
   have HS1 : Hid (Ro3 w1 w.heap.size (.slice (some ⟨g, 0, none⟩) m rc) (.slice pa P.length pc) (.slice none 0 0) re P []) := ⟨s1.rv, own_base ho1 HB.out.size, s1.rt, (fun k e e2 => by
    have l1 := (HS.out.rv.lt k e).2
    have l2 := (ho1.lt k e2).1
    omega), s1.at_⟩
   clear HPo ho1 hb1 s1 HS HB c0
   go_wp2
   go_loopw [5, 24] (fun rv kv wx => ∃ (k m : Nat) (ra : Option Addr) (rc : Nat) (re : List Nat), rv = .slice ra m rc ∧ kv = .int .i64 (k : Int) ∧ k ≤ P.length ∧ i < m ∧ m ≤ 8 ∧ Hid (re.length = m) ∧ Hid (Ro3 wx w.heap.size (.slice ra m rc) (.slice pa P.length pc) (.slice none 0 0) re P []) ∧ Hid (Rp8 ps f re) ∧ Hid (RpTo ps re i) ∧ Hid (re.getD i 0 = y) ∧ Hid (∀ z ∈ P.take k, z ∈ re) ∧ Hid (Below w.heap.size w wx)) (fun _ kv _ => P.length - (intOf kv).toNat)
   case atStart => exact ⟨0, m, _, rc, re, rfl, rfl, by omega, hi2, hm8, HL, HS1, HR, HT, HY0, (fun z hz => by simp at hz), HB1⟩
   case round =>
    obtain ⟨k, m, ra, rc, re, rfl, rfl, hk, him2, hm8', HL, HS, HR, HT, HY, HA, HB⟩ := hrel
    clear HS1 HB1 HY0
    by_cases hkl : (k : Int) < (P.length : Int)
    ·
     have hk2 : k < P.length := by omega
     obtain ⟨pa', pc', he, hpin⟩ := own_nats HS.out.ru rfl
     injection he with e1 _ e3
     subst e1
     subst e3
     have hrv := HS.out.rv
     rw [HL.out] at hrv
     obtain ⟨ra', rc', he, hrin⟩ := own_nats hrv HL.out
     injection he with e1 _ e3
     subst e1
     subst e3
     obtain ⟨b, off, rfl, _, d0⟩ := hpin.2 k hk2
     have hzm := getD_mem_n hk2
     have HStep : Hid (∀ re' : List Nat, (∀ z ∈ P.take k, z ∈ re') → P.getD k 0 ∈ re' → ∀ z ∈ P.take (k + 1), z ∈ re') := fun re' h1 h2 => rp_take h1 hk2 h2
     obtain ⟨z, hz⟩ : ∃ z, P.getD k 0 = z := ⟨_, rfl⟩
     rw [hz] at d0 hzm HStep
     have HZp : Hid (z ∈ plc ps (imsAt ps y)) := by exact (by rw [HP.out]; exact hzm : z ∈ plc ps (imsAt ps y))
     have HC : Hid (_) := containsNat ra m rc re z wr hrin (by omega)
     clear hpin hrv hrin hz hzm
     by_cases hin : z ∈ re
     ·
      rw [decide_eq_true hin] at HC
      have HA2 : Hid (∀ z ∈ P.take (k + 1), z ∈ re) := HStep.out re HA.out hin
      clear hin
      go_wp2_with (go_at_call 111; refine Calls.mono HC.out ?_; rintro e w2 ⟨rfl, hw2⟩; obtain rfl := hw2.symm)
      go_roundw
      case rel => exact ⟨k + 1, m, ra, rc, re, rfl, by go_num, by omega, him2, hm8', HL, HS, HR, HT, HY, HA2, HB⟩
      case measure => simp [intOf]; omega
     ·
      rw [decide_eq_false hin] at HC
      have hre : re.getD i 0 ∈ re := getD_mem_n (by rw [HL.out]; exact him2)
      rw [HY.out] at hre
      have HR2 : Hid (Rp8 ps f (re ++ [z])) := HR.out.add hre HZp.out hin
      have HT2 : Hid (RpTo ps (re ++ [z]) i) := HT.out.add (by rw [HL.out]; omega)
      have HY2 : Hid ((re ++ [z]).getD i 0 = y) := by exact (by rw [← HY.out]; simp [List.getD, List.getElem?_append_left (show i < re.length by rw [HL.out]; exact him2)] : (re ++ [z]).getD i 0 = y)
      have HA2 : Hid (∀ z' ∈ P.take (k + 1), z' ∈ re ++ [z]) := HStep.out (re ++ [z]) (fun q hq => List.mem_append_left _ (HA.out q hq)) (by simp)
      have HL2 : Hid ((re ++ [z]).length = m + 1) := by exact (by rw [List.length_append, List.length_singleton, HL.out] : (re ++ [z]).length = m + 1)
      have hm9 : m + 1 ≤ 8 := by have := HR2.out.len; rw [HL2.out] at this; omega
      obtain ⟨g', c', Y, hr, s2, hB2⟩ := HS.out.app HB.out.size (by rw [HL.out]; omega) z
      rw [HL.out] at hr s2
      have HSY : Hid (Ro3 Y w.heap.size (.slice (some ⟨g', 0, none⟩) (m + 1) c') (.slice (some ⟨b, off, none⟩) P.length pc) (.slice none 0 0) (re ++ [z]) P []) := s2
      have HBY : Hid (Below w.heap.size w Y) := HB.out.trans hB2
      clear hin hre s2 hB2
      go_wp2_with (first | (go_at_call 111; refine Calls.mono HC.out ?_; rintro e w2 ⟨rfl, hw2⟩; obtain rfl := hw2.symm) | (at_builtin; refine wpList_append_run rfl (.tmp 32) (.tmp 34) 137 rfl _ _ _ rfl rfl hr ?_; clear hr))
      go_roundw
      case rel => exact ⟨k + 1, m + 1, _, c', re ++ [z], rfl, by go_num, by omega, by omega, hm9, HL2, HSY, HR2, HT2, HY2, HA2, HBY⟩
      case measure => simp [intOf]; omega
    ·
     have HT2 : Hid (RpTo ps re (i + 1)) := HT.out.next (fun z hz => HA.out z (by rw [List.take_of_length_le (by omega), ← HP.out]; rw [HY.out] at hz; exact hz))
     have HS2 : Hid (Ro3 wr w.heap.size (.slice ra m rc) (.slice none 0 0) (.slice none 0 0) re [] []) := ⟨HS.out.rv, World.ownsRow_nil _ _ _ _, HS.out.rt, (fun k _ e => by cases e), HS.out.at_⟩
     go_wp2
     go_roundw
     case rel => exact ⟨i + 1, m, ra, rc, re, rfl, by go_num, by omega, by omega, HL, HS2, HR, HT2, HB⟩
     case measure => simp [intOf]; omega
  ·
   obtain rfl : i = m := by omega
   go_wp2
   go_ret
   exact ⟨_, rfl, re, HS.out.rv, HR.out, by rw [HL.out]; exact HT.out, HB.out⟩

end Go.Proofs.YtaidhjjpdkkmcaaGreatDoor
