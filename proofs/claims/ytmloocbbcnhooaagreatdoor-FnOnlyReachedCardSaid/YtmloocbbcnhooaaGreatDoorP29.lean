/-
  Parts of one proof, one behind the other: FltN, MeanS3, MeanS4.
-/
import Derived.Test.YtmloocbbcnhooaaGreatDoorP28
import Derived.Laws.CopyOwn
import Derived.Test.YtmloocbbcnhooaaGreatDoorP12

/-! The contract of chapter 9's landed FaultOf. -/
namespace Go.Proofs.YtmloocbbcnhooaaGreatDoor
open Go.RowKit

/-- What a fault tells is short. -/
def SmallF (F : Flt) : Prop := F.2.1.length ≤ 1048576 ∧ F.2.2.length ≤ 1048576
theorem fnsGo_small {ps : List Pk} {p : Pk} (hp : p.1.length ≤ 1048576) : ∀ (fs : List Fn) (k : Nat), (∀ f ∈ fs, f.1.length ≤ 1048576) → ∀ F, fnsGo ps p fs k = some F → SmallF F
  | [], _, _, F, h => by simp [fnsGo] at h
  | f :: r, k, hf, F, h => by
    rw [fnsGo] at h
    split at h
    · injection h with h
      subst h
      exact ⟨hp, hf f List.mem_cons_self⟩
    · exact fnsGo_small hp r (k + 1) (fun q hq => hf q (List.mem_cons_of_mem _ hq)) F h
theorem pk9_small {ps : List Pk} (hs : ShortPs ps) {dn i j : Nat} {F : Flt} (h : pk9 ps dn i (ps.getD j pk0) = some F) : SmallF F := by
  have hj := hs j
  unfold pk9 at h
  split at h
  · injection h with h; subst h; exact ⟨hj.1, by simp⟩
  · split at h
    · injection h with h; subst h; exact ⟨hj.1, by simp⟩
    · have hfs := hj.2.2.2.2
      refine fnsGo_small hj.1 _ 0 (fun f hf => ?_) F h
      generalize (ps.getD j pk0).2.2 = fs at hf hfs
      obtain ⟨q, hq, e⟩ := List.mem_iff_getElem.1 hf
      have h1 := (hfs q).1
      have e1 : fs.getD q fn0 = fs[q] := by simp [List.getD, hq]
      rw [e1, e] at h1
      exact h1
theorem fltGo_small {ps : List Pk} (hs : ShortPs ps) {dn : Nat} : ∀ (l : List (List UInt8)) (i : Nat) (F : Flt), fltGo ps dn l i = some F → SmallF F
  | [], _, F, h => by simp [fltGo] at h
  | x :: r, i, F, h => by
    rw [fltGo] at h
    cases hp : pk9 ps dn i (pkOf ps x) with
    | none => rw [hp] at h; exact fltGo_small hs r (i + 1) F h
    | some G =>
      rw [hp] at h
      injection h with h
      subst h
      exact pk9_small (j := (at8 ps x).toNat) hs hp
theorem fault_small {ps : List Pk} (hs : ShortPs ps) : SmallF (faultV ps) := by
  unfold faultV
  split
  · unfold fault9
    split
    · rename_i f hf
      exact fltGo_small hs _ _ f hf
    · unfold main9
      split
      · exact ⟨by simp, by simp⟩
      · exact ⟨by simp [mainT], by simp [mainT]⟩
  · exact ⟨by simp, by simp⟩

/-- A block of three cells that can be written. -/
structure Bx (Z : World) (k : Nat) (a b c : Value) : Prop where
  box : Box3 Z k a b c
  fr : ∀ j, Z.frozen? ⟨k, j, none⟩ = false
theorem Bx.new (w : World) (a b c : Value) (t : TypeId) : Bx (w.alloc (.cells #[a, b, c] t)) w.heap.size a b c ∧ Below w.heap.size w (w.alloc (.cells #[a, b, c] t)) := by
  obtain ⟨h1, h2⟩ := Box3.new w a b c t
  exact ⟨⟨h1, fun j => World.frozen?_alloc_at _ _ _ _ rfl⟩, h2⟩
theorem Bx.below {Z Y : World} {k : Nat} {a b c : Value} (h : Bx Z k a b c) (hb : Below Z.heap.size Z Y) : Bx Y k a b c := ⟨h.box.below hb, fun j => (hb.frozen (p := ⟨k, j, none⟩) h.box.lt).trans (h.fr j)⟩
theorem Bx.keep {Z Y : World} {k : Nat} {a b c : Value} (h : Bx Z k a b c) (e : Y.heap[k]? = Z.heap[k]?) : Bx Y k a b c := ⟨h.box.keep e, fun j => by have := h.fr j; simp only [World.frozen?] at this ⊢; rw [e]; exact this⟩
theorem Bx.row {Z : World} {k T : Nat} {a b c : Value} (h : Bx Z k a b c) (hk : k ≠ T) (cs : Array Value) : Bx (Z.setRow T cs) k a b c := h.keep (setRow_other Z T k cs hk)
theorem Bx.far {Z : World} {k g o : Nat} {a b c : Value} (h : Bx Z k a b c) (hk : g ≠ k) (v : Value) : Bx (Z.setCell ⟨g, o, none⟩ v) k a b c :=
  ⟨⟨(World.cell?_setCell_far Z ⟨g, o, none⟩ ⟨k, 0, none⟩ v hk).trans h.box.c0, (World.cell?_setCell_far Z ⟨g, o, none⟩ ⟨k, 1, none⟩ v hk).trans h.box.c1, (World.cell?_setCell_far Z ⟨g, o, none⟩ ⟨k, 2, none⟩ v hk).trans h.box.c2⟩, fun j => by simpa using h.fr j⟩
theorem Bx.s1 {Z : World} {k : Nat} {a b c : Value} (h : Bx Z k a b c) (v : Value) : Bx (Z.setCell ⟨k, 1, none⟩ v) k a v c :=
  ⟨⟨(World.cell?_setCell_other _ _ _ _ (by simp)).trans h.box.c0, World.cell?_setCell_same _ _ _ h.box.c1, (World.cell?_setCell_other _ _ _ _ (by simp)).trans h.box.c2⟩, fun j => by simpa using h.fr j⟩
theorem Bx.s2 {Z : World} {k : Nat} {a b c : Value} (h : Bx Z k a b c) (v : Value) : Bx (Z.setCell ⟨k, 2, none⟩ v) k a b v :=
  ⟨⟨(World.cell?_setCell_other _ _ _ _ (by simp)).trans h.box.c0, (World.cell?_setCell_other _ _ _ _ (by simp)).trans h.box.c1, World.cell?_setCell_same _ _ _ h.box.c2⟩, fun j => by simpa using h.fr j⟩
theorem Bx.f {Z : World} {k : Nat} (h : Bx Z k (.int .i64 0) (.string ⟨#[]⟩) (.string ⟨#[]⟩)) : FBox Z k := ⟨h.box, h.fr⟩

set_option maxHeartbeats 8000000 in
set_option maxRecDepth 100000 in
theorem implFaultOf (a : Option Addr) (len cap : Nat) (ps : List Pk) (er : Nat → Addr) (w : World) (hE : Err8 w er) (h : PkgsOk w a len cap ps) :
    Calls Tryz.prog 61 #[.slice a len cap] w fun e w' => e = .returned (fltVal (faultV ps)) ∧ Below w.heap.size w w' := by
  obtain ⟨hs1, hs2⟩ := fault_small h.short
  obtain ⟨bD, hb0⟩ := Bx.new w (.int .i64 0) (.string ⟨#[]⟩) (.string ⟨#[]⟩) 87
  obtain ⟨W0, hW0⟩ : ∃ W0, w.alloc (.cells #[.int .i64 0, .string ⟨#[]⟩, .string ⟨#[]⟩] 87) = W0 := ⟨_, rfl⟩
  obtain ⟨D, hD⟩ : ∃ D, w.heap.size = D := ⟨_, rfl⟩
  rw [hW0] at bD hb0
  rw [hD] at bD hb0
  have hDw : w.heap.size ≤ D := Nat.le_of_eq hD
  have HPr : Hid (_) := implProjectWrong a len cap ps er W0 (hE.below (by rw [hD]; exact hb0)) (h.below (by rw [hD]; exact hb0))
  have HEr : Hid (Err8 W0 er) := hE.below (by rw [hD]; exact hb0)
  have hsz : D < W0.heap.size := bD.box.lt
  have HB0 : Hid (Below D w W0) := hb0
  have HD : Hid (Bx W0 D (.int .i64 0) (.string ⟨#[]⟩) (.string ⟨#[]⟩)) := bD
  obtain ⟨F, hF⟩ : ∃ F, faultV ps = F := ⟨_, rfl⟩
  rw [hF] at HPr hs1 hs2 ⊢
  clear bD hb0 hE h hF
  go_enter Tryz.func61, Tryz.ntmps61
  go_wp2_with fail
  refine Calls.mono HPr.out ?_
  rintro e w1 ⟨v, rfl, hv, hb1⟩
  have bD := HD.out.below hb1
  have HE1 : Hid (Err8 w1 er) := HEr.out.below hb1
  have hB1 : Below D w w1 := HB0.out.trans (hb1.mono (Nat.le_of_lt hsz))
  have hs1w : D < w1.heap.size := bD.box.lt
  clear HPr HEr HB0 HD hb1
  rcases hv with ⟨rfl, rfl⟩ | ⟨rfl, rfl⟩ | ⟨c, p, g, k, rfl, hk, rfl⟩
  · obtain ⟨Y, hY, y0, y1, y2, hbY⟩ := bD.f.put (w := w) (by rw [hD]; exact hB1) hDw (0, [], [])
    simp only at hY y0 y1 y2
    have f0 := bD.fr 0
    have f1 := bD.fr 1
    have f2 := bD.fr 2
    have d0 := bD.box.c0
    have d1 := bD.box.c1
    have d2 := bD.box.c2
    clear bD hB1
    go_wp2
    refine bodyPost_ret (v := fltVal (0, [], [])) (by unfold fltVal; simp [results, Tryz.results61, go_sem, y0, y1, y2]) rfl ?_
    exact ⟨rfl, hbY⟩
  · go_wp2_with fail
    refine Calls.mono (codeOfFaultE er _ HE1.out) ?_
    rintro e w2 ⟨rfl, hb2⟩
    have bD2 := bD.below hb2
    have hB2 : Below D w w2 := hB1.trans (hb2.mono (Nat.le_of_lt hs1w))
    obtain ⟨E, hEe⟩ : ∃ E, w2.heap.size = E := ⟨_, rfl⟩
    have hDE : D < E := by rw [← hEe]; exact bD2.box.lt
    obtain ⟨bE, hbE⟩ := Bx.new w2 (.int .i64 6) (.string ⟨#[]⟩) (.string ⟨#[]⟩) 87
    obtain ⟨bT, hbT⟩ := Bx.new (w2.alloc (.cells #[.int .i64 6, .string ⟨#[]⟩, .string ⟨#[]⟩] 87)) (.string ⟨#[]⟩) (.string ⟨#[]⟩) .nilIface 131
    have hT := heap_alloc_new (w2.alloc (.cells #[.int .i64 6, .string ⟨#[]⟩, .string ⟨#[]⟩] 87)) (.cells #[.string ⟨#[]⟩, .string ⟨#[]⟩, .nilIface] 131)
    have hsz1 : (w2.alloc (.cells #[.int .i64 6, .string ⟨#[]⟩, .string ⟨#[]⟩] 87)).heap.size = E + 1 := by rw [← hEe]; simp
    rw [hEe] at bE
    rw [hsz1] at bT hT
    have bE2 := bE.below hbT
    have bD4 := (bD2.below hbE).below hbT
    have HE4 : Hid (Err8 ((w2.alloc (.cells #[.int .i64 6, .string ⟨#[]⟩, .string ⟨#[]⟩] 87)).alloc (.cells #[.string ⟨#[]⟩, .string ⟨#[]⟩, .nilIface] 131)) er) := ((HE1.out.below hb2).below hbE).below hbT
    have hB4 : Below D w ((w2.alloc (.cells #[.int .i64 6, .string ⟨#[]⟩, .string ⟨#[]⟩] 87)).alloc (.cells #[.string ⟨#[]⟩, .string ⟨#[]⟩, .nilIface] 131)) := (hB2.trans (hbE.mono (by omega))).trans (hbT.mono (by rw [hsz1]; omega))
    have hsz4 : D < ((w2.alloc (.cells #[.int .i64 6, .string ⟨#[]⟩, .string ⟨#[]⟩] 87)).alloc (.cells #[.string ⟨#[]⟩, .string ⟨#[]⟩, .nilIface] 131)).heap.size := bD4.box.lt
    have gE := HE4.out.ety
    have HAs : Hid (_) := as_miss (er 0) ⟨E + 1, 0, none⟩ _ gE
    clear bD bD2 bE bT hT hbE hbT hB1 hB2 hb2 HE1
    go_wp2_with fail
    refine Calls.mono HAs.out ?_
    rintro e w3 ⟨rfl, hb3⟩
    have bE3 := bE2.below hb3
    have bD3 := bD4.below hb3
    have hB3 : Below D w w3 := hB4.trans (hb3.mono (Nat.le_of_lt hsz4))
    obtain ⟨Y, hY, y0, y1, y2, hbY⟩ := bD3.f.put (w := w) (by rw [hD]; exact hB3) hDw (6, [], [])
    simp only at hY y0 y1 y2
    have f0 := bD3.fr 0
    have f1 := bD3.fr 1
    have f2 := bD3.fr 2
    have d0 := bD3.box.c0
    have d1 := bD3.box.c1
    have d2 := bD3.box.c2
    have e0 := bE3.box.c0
    have e1 := bE3.box.c1
    have e2 := bE3.box.c2
    clear bE2 bE3 bD4 bD3 hB3 hB4 hb3 gE HE4 HAs
    go_wp2
    refine bodyPost_ret (v := fltVal (6, [], [])) (by unfold fltVal; simp [results, Tryz.results61, go_sem, y0, y1, y2]) rfl ?_
    exact ⟨rfl, hbY⟩
  · have HC : Hid (_) := implCodeOfFault c k hk p g er w1 HE1.out
    clear hk
    go_wp2_with fail
    refine Calls.mono HC.out ?_
    rintro e w2 ⟨rfl, hb2⟩
    have bD2 := bD.below hb2
    have hB2 : Below D w w2 := hB1.trans (hb2.mono (Nat.le_of_lt hs1w))
    obtain ⟨E, hEe⟩ : ∃ E, w2.heap.size = E := ⟨_, rfl⟩
    have hDE : D < E := by rw [← hEe]; exact bD2.box.lt
    obtain ⟨bE, hbE⟩ := Bx.new w2 (.int .i64 c) (.string ⟨#[]⟩) (.string ⟨#[]⟩) 87
    obtain ⟨bT, hbT⟩ := Bx.new (w2.alloc (.cells #[.int .i64 c, .string ⟨#[]⟩, .string ⟨#[]⟩] 87)) (.string ⟨#[]⟩) (.string ⟨#[]⟩) .nilIface 131
    have hT := heap_alloc_new (w2.alloc (.cells #[.int .i64 c, .string ⟨#[]⟩, .string ⟨#[]⟩] 87)) (.cells #[.string ⟨#[]⟩, .string ⟨#[]⟩, .nilIface] 131)
    have hsz1 : (w2.alloc (.cells #[.int .i64 c, .string ⟨#[]⟩, .string ⟨#[]⟩] 87)).heap.size = E + 1 := by rw [← hEe]; simp
    rw [hEe] at bE
    rw [hsz1] at bT hT
    have bE2 := bE.below hbT
    have bD4 := (bD2.below hbE).below hbT
    have HE4 : Hid (Err8 ((w2.alloc (.cells #[.int .i64 c, .string ⟨#[]⟩, .string ⟨#[]⟩] 87)).alloc (.cells #[.string ⟨#[]⟩, .string ⟨#[]⟩, .nilIface] 131)) er) := ((HE1.out.below hb2).below hbE).below hbT
    have hB4 : Below D w ((w2.alloc (.cells #[.int .i64 c, .string ⟨#[]⟩, .string ⟨#[]⟩] 87)).alloc (.cells #[.string ⟨#[]⟩, .string ⟨#[]⟩, .nilIface] 131)) := (hB2.trans (hbE.mono (by omega))).trans (hbT.mono (by rw [hsz1]; omega))
    have hsz4 : D < ((w2.alloc (.cells #[.int .i64 c, .string ⟨#[]⟩, .string ⟨#[]⟩] 87)).alloc (.cells #[.string ⟨#[]⟩, .string ⟨#[]⟩, .nilIface] 131)).heap.size := bD4.box.lt
    have gE := HE4.out.ety
    have HAs : Hid (_) := as_hit p g (er k) (E + 1) 131 _ _ hT rfl gE
    clear bD bD2 bE bT hT hbE hbT hB1 hB2 hb2 HE1 HC
    go_wp2_with fail
    refine Calls.mono HAs.out ?_
    rintro e w3 ⟨rfl, w0, hb3, ho0, hw3⟩
    have bE3 := (bE2.below hb3).row (T := E + 1) (by omega) #[.string ⟨p.toArray⟩, .string ⟨g.toArray⟩, .iface 227 (.pointer (some (er k)))]
    have bD3 := (bD4.below hb3).row (T := E + 1) (by omega) #[.string ⟨p.toArray⟩, .string ⟨g.toArray⟩, .iface 227 (.pointer (some (er k)))]
    have hT3 := setRow_heap w0 (E + 1) _ #[.string ⟨p.toArray⟩, .string ⟨g.toArray⟩, .iface 227 (.pointer (some (er k)))] _ _ ho0
    have hB3 : Below D w (w0.setRow (E + 1) #[.string ⟨p.toArray⟩, .string ⟨g.toArray⟩, .iface 227 (.pointer (some (er k)))]) := below_setRow (hB4.trans (hb3.mono (Nat.le_of_lt hsz4))) (by omega) _
    rw [← hw3] at bE3 bD3 hT3 hB3
    have t0 : w3.cell? ⟨E + 1, 0, none⟩ = some (.string ⟨p.toArray⟩) := by simp [World.cell?, hT3]
    have t1 : w3.cell? ⟨E + 1, 1, none⟩ = some (.string ⟨g.toArray⟩) := by simp [World.cell?, hT3]
    have hs3 : D < w3.heap.size := bD3.box.lt
    have hTl : E + 1 < w3.heap.size := World.block_lt_of_cell? w3 ⟨E + 1, 0, none⟩ t0
    clear hw3 ho0 hT3 bE2 bD4 hB4 gE HE4 HAs hb3 hsz4
    clear w0
    go_wp2_with fail
    refine Calls.mono (stringsClone p _ hs1) ?_
    rintro e w4 ⟨rfl, hb4⟩
    have bE4 := bE3.below hb4
    have bD5 := (bD3.below hb4).far (g := E) (o := 1) (by omega) (.string ⟨p.toArray⟩)
    have t14 := (World.cell?_setCell_far w4 ⟨E, 1, none⟩ ⟨E + 1, 1, none⟩ (.string ⟨p.toArray⟩) (by simp)).trans ((hb4.cell (p := ⟨E + 1, 1, none⟩) hTl).trans t1)
    have hB4 : Below D w w4 := hB3.trans (hb4.mono (Nat.le_of_lt hs3))
    have bE5 := bE4.s1 (.string ⟨p.toArray⟩)
    have hB5 : Below D w (w4.setCell ⟨E, 1, none⟩ (.string ⟨p.toArray⟩)) := hB4.grown (grown_set w4 E 1 _) (by rw [← hD]; exact hB4.size) (fun q e => by injection e with e; have e2 : E = q := e; omega)
    have fE1 := bE4.fr 1
    have e14 := bE4.box.c1
    obtain ⟨Y1, hY1⟩ : ∃ Y1, w4.setCell ⟨E, 1, none⟩ (.string ⟨p.toArray⟩) = Y1 := ⟨_, rfl⟩
    rw [hY1] at bD5 t14 bE5 hB5
    have hs5 : D < Y1.heap.size := bD5.box.lt
    clear bE4 bE3 bD3 hB3 hB4 t0 t1 hb4
    go_wp2_with fail
    refine Calls.mono (stringsClone g _ hs2) ?_
    rintro e w5 ⟨rfl, hb5⟩
    have bE6 := bE5.below hb5
    have bD7 := (bD5.below hb5).far (g := E) (o := 2) (by omega) (.string ⟨g.toArray⟩)
    have hB6 : Below D w w5 := hB5.trans (hb5.mono (Nat.le_of_lt hs5))
    have bE7 := bE6.s2 (.string ⟨g.toArray⟩)
    have hB7 : Below D w (w5.setCell ⟨E, 2, none⟩ (.string ⟨g.toArray⟩)) := hB6.grown (grown_set w5 E 2 _) (by rw [← hD]; exact hB6.size) (fun q e => by injection e with e; have e2 : E = q := e; omega)
    have fE2 := bE6.fr 2
    have e26 := bE6.box.c2
    obtain ⟨Y2, hY2⟩ : ∃ Y2, w5.setCell ⟨E, 2, none⟩ (.string ⟨g.toArray⟩) = Y2 := ⟨_, rfl⟩
    rw [hY2] at bD7 bE7 hB7
    obtain ⟨Y, hY, y0, y1, y2, hbY⟩ := bD7.f.put (w := w) (by rw [hD]; exact hB7) hDw (c, p, g)
    simp only at hY y0 y1 y2
    have f0 := bD7.fr 0
    have f1 := bD7.fr 1
    have f2 := bD7.fr 2
    have d0 := bD7.box.c0
    have d1 := bD7.box.c1
    have d2 := bD7.box.c2
    have e0 := bE7.box.c0
    have e1 := bE7.box.c1
    have e2 := bE7.box.c2
    clear bE5 bE6 bE7 bD5 bD7 hB5 hB6 hB7 hb5 t14 fE1 e14
    go_wp2
    refine bodyPost_ret (v := fltVal (c, p, g)) (by unfold fltVal; simp [results, Tryz.results61, go_sem, y0, y1, y2]) rfl ?_
    exact ⟨rfl, hbY⟩

end Go.Proofs.YtmloocbbcnhooaaGreatDoor

/-! The contract of chapter 10's specification: the value of a tree (a test). -/
namespace Go.Proofs.YtmloocbbcnhooaaGreatDoor
open Go.RowKit

set_option maxHeartbeats 8000000 in
set_option maxRecDepth 100000 in
theorem specVal7 (B : World) (la : Option Addr) (lc : Nat) (ps : List Pk) (W : Nat) (_hP : PkgsIn B la ps.length ps) (_hlp : ps.length ≤ 1048576) (_hshp : ShortPs ps) (hflt : faultV ps = (0, [], [])) (hW : B.heap.size ≤ W) (d : Nat) (hd : d + 1 ≤ 20001) (ih : Val10 B la lc ps W d)
    (Z : World) (f : Nat) (ta : Option Addr) (tc : Nat) (t : List Nd) (m : Int) (a : Nat) (aa : Option Addr) (ac : Nat) (xs : List Int) (hB : Below B.heap.size B Z) (hf : f + 1 < d + 1) (hw : Wk Z W (.slice la ps.length lc) (f + 1) 0) (hin : NodesIn B ta t.length t) (htr : Tr10 ps t m) (hsh : ShortT t) (hlen : t.length ≤ 1048576) (hp : 0 ≤ endV t (a : Int)) (ha : As Z W aa xs) (hm : (xs.length : Int) = m) (hx : ∀ x ∈ xs, Word10 x) (hkd : (t.getD a nd0).1 = 7) :
    Calls Tryz.prog 48 #[.pointer (some ⟨W, 0, none⟩), .slice ta t.length tc, .int .i64 (a : Int), .slice aa xs.length ac] Z fun e Z' =>
      e = .returned (.int .i64 (val10 ps (d + 1) t (a : Int) xs (f + 1, 0)).1) ∧ Wk Z' W (.slice la ps.length lc) (val10 ps (d + 1) t (a : Int) xs (f + 1, 0)).2.1 (val10 ps (d + 1) t (a : Int) xs (f + 1, 0)).2.2 ∧ Wr Z Z' W := by
      have k0 := hw.c0
      have k1 := hw.c1
      have k2 := hw.c2
      have k3 := hw.fr 1
      have k4 := hw.fr 2
      have IH : Hid (Val10 B la lc ps W d) := ih
      clear ih
      rw [val_node]
      obtain ⟨hal, hnb, _, _, _⟩ := end_parts hp
      obtain ⟨n, hn⟩ : ∃ n, t.getD a nd0 = n := ⟨_, rfl⟩
      rw [hn] at hkd
      have hmem : n ∈ t := by rw [← hn]; simp [List.getD, hal]
      obtain ⟨bt, ot, rfl, hbt, q0, q1, q2, q3⟩ := (hin.below hB).2 a hal
      rw [hn] at q0 q1 q2 q3
      have hf1 : ((f + 1 : Nat) : Int) - 1 = (f : Int) := by omega
      have hfz : (((f + 1 : Nat) : Int) == 0) = false := beq_eq_false_iff_ne.2 (by omega)
      have hw1 := hw.fuel f
      have hr1 := wr_set Z W 1 (.int .i64 (f : Int))
      have hal2 : (a : Int) < (t.length : Int) := by omega
      have hbW : bt ≠ W := by
        obtain ⟨b', o', e, hb', _⟩ := hin.2 a hal
        simp only [Option.some.injEq, Addr.mk.injEq, and_true] at e
        omega
      replace q0 := wr_cell hr1 hbt hbW q0
      replace q1 := wr_cell hr1 hbt hbW q1
      replace q2 := wr_cell hr1 hbt hbW q2
      replace q3 := wr_cell hr1 hbt hbW q3
      obtain ⟨Z1, hZ1⟩ : ∃ Z1, Z.setCell ⟨W, 1, none⟩ (.int .i64 (f : Int)) = Z1 := ⟨_, rfl⟩
      rw [hZ1] at hw1 hr1 q0 q1 q2 q3
      have hnd := nodeB_iff.1 (htr.good n hmem)
      have harg := htr.arg n hmem
      have hcall := htr.call n hmem
      have HPl : Hid (∀ i, i < kidsN n → ∃ q : Nat, (pts10 t (a : Int)).getD i 0 = (q : Int) ∧ q < t.length ∧ 0 ≤ endV t (q : Int)) := fun i hi => part_place hp (by rw [hn]; exact hi)
      have hpl : (pts10 t (a : Int)).length = kidsN n := by rw [pts_len, hn]
      obtain ⟨kd, nA, np, nf⟩ := n
      unfold nodeP at hnd
      simp only at q0 q1 q2 q3 hnd harg hcall hkd
      have HKD : Hid (_) := hkd
      clear hkd
      obtain ⟨⟨n0, n1, n2, n3⟩, hbg⟩ := node_new Z1 (.int .i64 kd) (.int .i64 nA) (.string ⟨np.toArray⟩) (.string ⟨nf.toArray⟩) 39
      obtain ⟨X, hX⟩ : ∃ X, Z1.alloc (.cells #[.int .i64 kd, .int .i64 nA, .string ⟨np.toArray⟩, .string ⟨nf.toArray⟩] 39) = X := ⟨_, rfl⟩
      obtain ⟨G, hG⟩ : ∃ G, Z1.heap.size = G := ⟨_, rfl⟩
      rw [hX] at n0 n1 n2 n3 hbg
      rw [hG] at n0 n1 n2 n3
      have hGW : G ≠ W := by have := hw1.lt; omega
      have hGl : G < X.heap.size := World.block_lt_of_cell? X ⟨G, 0, none⟩ n0
      have hrX : Wr Z X W := hr1.trans (Wrote.of_below hbg)
      have hBX := wr_base hB hW hrX
      have hwX := hw1.below hbg
      have HPt : Hid (_) := specParts (some ⟨bt, ot, none⟩) tc t a X (hin.below hBX) hsh hlen hal (by rw [hn]; exact htr.good _ hmem)
      rw [hn] at HPt
      have HK : Hid (kidsN (kd, nA, np, nf) = (pts10 t (a : Int)).length) := hpl.symm
      have HPe : Hid (partsGo t (kidsN (kd, nA, np, nf)) ((a : Int) + 1) = pts10 t (a : Int)) := by
        exact (by unfold pts10; rw [Int.toNat_natCast, hn] : partsGo t (kidsN (kd, nA, np, nf)) ((a : Int) + 1) = pts10 t (a : Int))
      rw [HPe.out, HK.out] at HPt
      rw [HK.out] at HPl
      have hkl : (pts10 t (a : Int)).length = kidsN (kd, nA, np, nf) := HK.out.symm
      have hsX : W < X.heap.size := hwX.lt
      have haX := ha.wr hrX
      have HIN : Hid (NodesIn B (some ⟨bt, ot, none⟩) t.length t) := hin
      have HTR : Hid (Tr10 ps t m) := htr
      have HSH : Hid (ShortT t) := hsh
      have HX : Hid (∀ x ∈ xs, Word10 x) := hx
      have HLess : Hid (∀ (q : Int) (s : St10), (val10 ps d t q xs s).2.1 ≤ s.1) := fun q s => (Sk10.val ps d t q xs).less s
      have HWd : Hid (∀ (q : Int) (s : St10), Word10 (val10 ps d t q xs s).1) := fun q s => val_word (fun n => good_of (faultV_zero (by rw [hflt])).2.1 _ _) d t q xs htr.good hx s
      generalize hpts : pts10 t (a : Int) = pts at HPt HPl hkl
      have HPS : Hid (pts10 t (a : Int) = pts) := hpts
      obtain ⟨r, hr⟩ : ∃ r, node10 ps (val10 ps d) t (a : Int) xs (kd, nA, np, nf) (f, 0) = r := ⟨_, rfl⟩
      have HRr : Hid (r = _) := hr.symm
      rw [hn, hr]
      unfold node10 at HRr
      rw [HPS.out] at HRr
      simp only at HRr
      clear hr
      clear hw hin htr hsh hx hp ha hbt hn hmem hw1 hr1 hnb HPe HK hpts hpl
      go_enter Tryz.func48, Tryz.ntmps48
      go_wp2_with fail
      refine Calls.mono HPt.out ?_
      rintro e V ⟨v, rfl, ho, hb2⟩
      obtain ⟨pa, pc, rfl, hpV⟩ := as_own ho hsX
      have HV : Hid (∀ Y, Wr V Y W → (Y.cell? ⟨G, 0, none⟩ = some (.int .i64 kd) ∧ Y.cell? ⟨G, 1, none⟩ = some (.int .i64 nA) ∧ Y.cell? ⟨G, 2, none⟩ = some (.string ⟨np.toArray⟩) ∧ Y.cell? ⟨G, 3, none⟩ = some (.string ⟨nf.toArray⟩)) ∧ As Y W aa xs ∧ As Y W pa pts ∧ Below B.heap.size B Y ∧ Wr Z Y W) := fun Y hy =>
        have hxy : Wr X Y W := (Wrote.of_below hb2).trans hy
        ⟨⟨wr_cell hxy hGl hGW n0, wr_cell hxy hGl hGW n1, wr_cell hxy hGl hGW n2, wr_cell hxy hGl hGW n3⟩, haX.wr hxy, hpV.wr hy, wr_base hBX hW hxy, hrX.trans hxy⟩
      have hwV := hwX.below hb2
      have HC : Hid (∀ (Y : World) (g : Nat) (c : Int) (i : Nat), i < pts.length → Wr V Y W → g < d → Wk Y W (.slice la ps.length lc) g c → Calls Tryz.prog 48 #[.pointer (some ⟨W, 0, none⟩), .slice (some ⟨bt, ot, none⟩) t.length tc, .int .i64 (pts.getD i 0), .slice aa xs.length ac] Y fun e Y' =>
          e = .returned (.int .i64 (val10 ps d t (pts.getD i 0) xs (g, c)).1) ∧ Wk Y' W (.slice la ps.length lc) (val10 ps d t (pts.getD i 0) xs (g, c)).2.1 (val10 ps d t (pts.getD i 0) xs (g, c)).2.2 ∧ Wr Y Y' W) := fun Y g c i hi hy hg hwk => by
        obtain ⟨q, hq, _, hqe⟩ := HPl.out i hi
        have hv := HV.out Y hy
        exact IH.out.at hv.2.2.2.1 hg hwk HIN.out HTR.out HSH.out hlen hq hqe hv.2.1 hm HX.out tc ac
      obtain ⟨⟨g0, g1, g2, g3⟩, haV, hpV2, hBV, hrV⟩ := HV.out V (Wrote.refl _ _)
      have HWV : Hid (Wk V W (.slice la ps.length lc) f 0) := hwV
      have HRV : Hid (Wr Z V W) := hrV
      clear k0 k1 k2 k3 k4 q0 q1 q2 q3 ho hb2 n0 n1 n2 n3 hpV hwV hwX hBX haX HPt hBV hrV hrX hbg hGl
      have hkd := HKD.out
      clear HKD
      rcases hnd with ⟨rfl, hA, rfl, rfl⟩ | ⟨rfl, hA, rfl, rfl⟩ | ⟨hk, rfl, rfl, rfl⟩ | ⟨rfl, hA, hnp, hnf⟩
      · exact absurd hkd (by omega)
      · exact absurd hkd (by omega)
      · rw [if_neg (by omega), if_neg (by omega)] at HRr
        have hkk : kidsN (kd, 0, [], []) = if kd = 7 then 3 else 2 := by
          unfold kidsN
          simp only
          by_cases h7 : kd = 7
          · rw [if_neg (by omega), if_pos h7, if_pos h7]
          · rw [if_pos (by omega), if_neg h7]
        rw [hkk] at hkl
        have h1b : (kd == 1) = false := beq_eq_false_iff_ne.2 (by omega)
        have h2b : (kd == 2) = false := beq_eq_false_iff_ne.2 (by omega)
        have h7 : kd = 7 := hkd
        clear hkd
        · subst h7
          rw [if_pos rfl] at HRr hkl
          obtain ⟨bp, op, rfl, _, _, p0⟩ := hpV2 0 (by omega)
          have HC0 := HC.out V f 0 0 (by omega) (Wrote.refl _ _) (by omega) HWV.out
          have HL0 := HLess.out (pts.getD 0 0) (f, 0)
          unfold bind10 at HRr
          dsimp only at HRr HL0
          obtain ⟨r0, hr0⟩ : ∃ r0, val10 ps d t (pts.getD 0 0) xs (f, 0) = r0 := ⟨_, rfl⟩
          rw [hr0] at HC0 HRr HL0
          have HC1 : Hid (_) := HC0
          have hk0 : (0 : Int) < (pts.length : Int) := by omega
          have hk1 : (1 : Int) < (pts.length : Int) := by omega
          have hk2 : (2 : Int) < (pts.length : Int) := by omega
          rw [Nat.add_zero] at p0
          generalize hp0 : pts.getD 0 0 = P0 at HC1 p0
          clear hr0 HC0 hp0
          go_wp2_with fail
          refine Calls.mono HC1.out ?_
          rintro e Y0 ⟨rfl, hw0, hy0⟩
          obtain ⟨v0, f0, c0⟩ := r0
          simp only at hw0 HL0
          dsimp only at HRr
          obtain ⟨-, -, hpY, -, -⟩ := HV.out Y0 hy0
          clear HC1 p0
          by_cases hv0 : v0 = 0
          · have hvb : (v0 != 0) = false := by rw [hv0]; rfl
            have HR2 : Hid (r = _) := HRr.out.trans (congrFun (if_neg (fun e => e hv0)) _)
            obtain ⟨b', o', e', _, _, p2⟩ := hpY 2 (by omega)
            simp only [Option.some.injEq, Addr.mk.injEq, and_true] at e'
            obtain ⟨rfl, rfl⟩ := e'
            have HC2 : Hid (_) := HC.out Y0 f0 c0 2 (by omega) hy0 (by omega) hw0
            generalize pts.getD 2 0 = P2 at HC2 p2 HR2
            obtain ⟨r1, hr1⟩ : ∃ r1, val10 ps d t P2 xs (f0, c0) = r1 := ⟨_, rfl⟩
            rw [hr1] at HC2 HR2
            obtain rfl : r = r1 := HR2.out
            have HY0 : Hid (Wr V Y0 W) := hy0
            clear HR2 HRr hr1 hpY hw0 hy0
            go_wp2_with fail
            refine Calls.mono HC2.out ?_
            rintro e Y1 ⟨rfl, hw1, hy1⟩
            have HW1 : Hid (_) := hw1
            have HY1 : Hid (Wr Z Y1 W) := HRV.out.trans (HY0.out.trans hy1)
            clear hw1 hy1
            go_wp2
            go_ret
            exact ⟨rfl, HW1.out, HY1.out⟩
          · have hvb : (v0 != 0) = true := by rw [bne_iff_ne]; exact hv0
            have HR2 : Hid (r = _) := HRr.out.trans (congrFun (if_pos hv0) _)
            obtain ⟨b', o', e', _, _, p2⟩ := hpY 1 (by omega)
            simp only [Option.some.injEq, Addr.mk.injEq, and_true] at e'
            obtain ⟨rfl, rfl⟩ := e'
            have HC2 : Hid (_) := HC.out Y0 f0 c0 1 (by omega) hy0 (by omega) hw0
            generalize pts.getD 1 0 = P2 at HC2 p2 HR2
            obtain ⟨r1, hr1⟩ : ∃ r1, val10 ps d t P2 xs (f0, c0) = r1 := ⟨_, rfl⟩
            rw [hr1] at HC2 HR2
            obtain rfl : r = r1 := HR2.out
            have HY0 : Hid (Wr V Y0 W) := hy0
            clear HR2 HRr hr1 hpY hw0 hy0
            go_wp2_with fail
            refine Calls.mono HC2.out ?_
            rintro e Y1 ⟨rfl, hw1, hy1⟩
            have HW1 : Hid (_) := hw1
            have HY1 : Hid (Wr Z Y1 W) := HRV.out.trans (HY0.out.trans hy1)
            clear hw1 hy1
            go_wp2
            go_ret
            exact ⟨rfl, HW1.out, HY1.out⟩
      · exact absurd hkd (by omega)


end Go.Proofs.YtmloocbbcnhooaaGreatDoor

/-! The contract of chapter 10's specification: the value of a tree (two words). -/
namespace Go.Proofs.YtmloocbbcnhooaaGreatDoor
open Go.RowKit

set_option maxHeartbeats 8000000 in
set_option maxRecDepth 100000 in
theorem specVal3 (B : World) (la : Option Addr) (lc : Nat) (ps : List Pk) (W : Nat) (_hP : PkgsIn B la ps.length ps) (_hlp : ps.length ≤ 1048576) (_hshp : ShortPs ps) (hflt : faultV ps = (0, [], [])) (hW : B.heap.size ≤ W) (d : Nat) (hd : d + 1 ≤ 20001) (ih : Val10 B la lc ps W d)
    (Z : World) (f : Nat) (ta : Option Addr) (tc : Nat) (t : List Nd) (m : Int) (a : Nat) (aa : Option Addr) (ac : Nat) (xs : List Int) (hB : Below B.heap.size B Z) (hf : f + 1 < d + 1) (hw : Wk Z W (.slice la ps.length lc) (f + 1) 0) (hin : NodesIn B ta t.length t) (htr : Tr10 ps t m) (hsh : ShortT t) (hlen : t.length ≤ 1048576) (hp : 0 ≤ endV t (a : Int)) (ha : As Z W aa xs) (hm : (xs.length : Int) = m) (hx : ∀ x ∈ xs, Word10 x) (hkd : 3 ≤ (t.getD a nd0).1 ∧ (t.getD a nd0).1 ≤ 6) :
    Calls Tryz.prog 48 #[.pointer (some ⟨W, 0, none⟩), .slice ta t.length tc, .int .i64 (a : Int), .slice aa xs.length ac] Z fun e Z' =>
      e = .returned (.int .i64 (val10 ps (d + 1) t (a : Int) xs (f + 1, 0)).1) ∧ Wk Z' W (.slice la ps.length lc) (val10 ps (d + 1) t (a : Int) xs (f + 1, 0)).2.1 (val10 ps (d + 1) t (a : Int) xs (f + 1, 0)).2.2 ∧ Wr Z Z' W := by
      have k0 := hw.c0
      have k1 := hw.c1
      have k2 := hw.c2
      have k3 := hw.fr 1
      have k4 := hw.fr 2
      have IH : Hid (Val10 B la lc ps W d) := ih
      clear ih
      rw [val_node]
      obtain ⟨hal, hnb, _, _, _⟩ := end_parts hp
      obtain ⟨n, hn⟩ : ∃ n, t.getD a nd0 = n := ⟨_, rfl⟩
      rw [hn] at hkd
      have hmem : n ∈ t := by rw [← hn]; simp [List.getD, hal]
      obtain ⟨bt, ot, rfl, hbt, q0, q1, q2, q3⟩ := (hin.below hB).2 a hal
      rw [hn] at q0 q1 q2 q3
      have hf1 : ((f + 1 : Nat) : Int) - 1 = (f : Int) := by omega
      have hfz : (((f + 1 : Nat) : Int) == 0) = false := beq_eq_false_iff_ne.2 (by omega)
      have hw1 := hw.fuel f
      have hr1 := wr_set Z W 1 (.int .i64 (f : Int))
      have hal2 : (a : Int) < (t.length : Int) := by omega
      have hbW : bt ≠ W := by
        obtain ⟨b', o', e, hb', _⟩ := hin.2 a hal
        simp only [Option.some.injEq, Addr.mk.injEq, and_true] at e
        omega
      replace q0 := wr_cell hr1 hbt hbW q0
      replace q1 := wr_cell hr1 hbt hbW q1
      replace q2 := wr_cell hr1 hbt hbW q2
      replace q3 := wr_cell hr1 hbt hbW q3
      obtain ⟨Z1, hZ1⟩ : ∃ Z1, Z.setCell ⟨W, 1, none⟩ (.int .i64 (f : Int)) = Z1 := ⟨_, rfl⟩
      rw [hZ1] at hw1 hr1 q0 q1 q2 q3
      have hnd := nodeB_iff.1 (htr.good n hmem)
      have harg := htr.arg n hmem
      have hcall := htr.call n hmem
      have HPl : Hid (∀ i, i < kidsN n → ∃ q : Nat, (pts10 t (a : Int)).getD i 0 = (q : Int) ∧ q < t.length ∧ 0 ≤ endV t (q : Int)) := fun i hi => part_place hp (by rw [hn]; exact hi)
      have hpl : (pts10 t (a : Int)).length = kidsN n := by rw [pts_len, hn]
      obtain ⟨kd, nA, np, nf⟩ := n
      unfold nodeP at hnd
      simp only at q0 q1 q2 q3 hnd harg hcall hkd
      obtain ⟨⟨n0, n1, n2, n3⟩, hbg⟩ := node_new Z1 (.int .i64 kd) (.int .i64 nA) (.string ⟨np.toArray⟩) (.string ⟨nf.toArray⟩) 39
      obtain ⟨X, hX⟩ : ∃ X, Z1.alloc (.cells #[.int .i64 kd, .int .i64 nA, .string ⟨np.toArray⟩, .string ⟨nf.toArray⟩] 39) = X := ⟨_, rfl⟩
      obtain ⟨G, hG⟩ : ∃ G, Z1.heap.size = G := ⟨_, rfl⟩
      rw [hX] at n0 n1 n2 n3 hbg
      rw [hG] at n0 n1 n2 n3
      have hGW : G ≠ W := by have := hw1.lt; omega
      have hGl : G < X.heap.size := World.block_lt_of_cell? X ⟨G, 0, none⟩ n0
      have hrX : Wr Z X W := hr1.trans (Wrote.of_below hbg)
      have hBX := wr_base hB hW hrX
      have hwX := hw1.below hbg
      have HPt : Hid (_) := specParts (some ⟨bt, ot, none⟩) tc t a X (hin.below hBX) hsh hlen hal (by rw [hn]; exact htr.good _ hmem)
      rw [hn] at HPt
      have HK : Hid (kidsN (kd, nA, np, nf) = (pts10 t (a : Int)).length) := hpl.symm
      have HPe : Hid (partsGo t (kidsN (kd, nA, np, nf)) ((a : Int) + 1) = pts10 t (a : Int)) := by
        exact (by unfold pts10; rw [Int.toNat_natCast, hn] : partsGo t (kidsN (kd, nA, np, nf)) ((a : Int) + 1) = pts10 t (a : Int))
      rw [HPe.out, HK.out] at HPt
      rw [HK.out] at HPl
      have hkl : (pts10 t (a : Int)).length = kidsN (kd, nA, np, nf) := HK.out.symm
      have hsX : W < X.heap.size := hwX.lt
      have haX := ha.wr hrX
      have HIN : Hid (NodesIn B (some ⟨bt, ot, none⟩) t.length t) := hin
      have HTR : Hid (Tr10 ps t m) := htr
      have HSH : Hid (ShortT t) := hsh
      have HX : Hid (∀ x ∈ xs, Word10 x) := hx
      have HLess : Hid (∀ (q : Int) (s : St10), (val10 ps d t q xs s).2.1 ≤ s.1) := fun q s => (Sk10.val ps d t q xs).less s
      have HWd : Hid (∀ (q : Int) (s : St10), Word10 (val10 ps d t q xs s).1) := fun q s => val_word (fun n => good_of (faultV_zero (by rw [hflt])).2.1 _ _) d t q xs htr.good hx s
      generalize hpts : pts10 t (a : Int) = pts at HPt HPl hkl
      have HPS : Hid (pts10 t (a : Int) = pts) := hpts
      obtain ⟨r, hr⟩ : ∃ r, node10 ps (val10 ps d) t (a : Int) xs (kd, nA, np, nf) (f, 0) = r := ⟨_, rfl⟩
      have HRr : Hid (r = _) := hr.symm
      rw [hn, hr]
      unfold node10 at HRr
      rw [HPS.out] at HRr
      simp only at HRr
      clear hr
      clear hw hin htr hsh hx hp ha hbt hn hmem hw1 hr1 hnb HPe HK hpts hpl
      go_enter Tryz.func48, Tryz.ntmps48
      go_wp2_with fail
      refine Calls.mono HPt.out ?_
      rintro e V ⟨v, rfl, ho, hb2⟩
      obtain ⟨pa, pc, rfl, hpV⟩ := as_own ho hsX
      have HV : Hid (∀ Y, Wr V Y W → (Y.cell? ⟨G, 0, none⟩ = some (.int .i64 kd) ∧ Y.cell? ⟨G, 1, none⟩ = some (.int .i64 nA) ∧ Y.cell? ⟨G, 2, none⟩ = some (.string ⟨np.toArray⟩) ∧ Y.cell? ⟨G, 3, none⟩ = some (.string ⟨nf.toArray⟩)) ∧ As Y W aa xs ∧ As Y W pa pts ∧ Below B.heap.size B Y ∧ Wr Z Y W) := fun Y hy =>
        have hxy : Wr X Y W := (Wrote.of_below hb2).trans hy
        ⟨⟨wr_cell hxy hGl hGW n0, wr_cell hxy hGl hGW n1, wr_cell hxy hGl hGW n2, wr_cell hxy hGl hGW n3⟩, haX.wr hxy, hpV.wr hy, wr_base hBX hW hxy, hrX.trans hxy⟩
      have hwV := hwX.below hb2
      have HC : Hid (∀ (Y : World) (g : Nat) (c : Int) (i : Nat), i < pts.length → Wr V Y W → g < d → Wk Y W (.slice la ps.length lc) g c → Calls Tryz.prog 48 #[.pointer (some ⟨W, 0, none⟩), .slice (some ⟨bt, ot, none⟩) t.length tc, .int .i64 (pts.getD i 0), .slice aa xs.length ac] Y fun e Y' =>
          e = .returned (.int .i64 (val10 ps d t (pts.getD i 0) xs (g, c)).1) ∧ Wk Y' W (.slice la ps.length lc) (val10 ps d t (pts.getD i 0) xs (g, c)).2.1 (val10 ps d t (pts.getD i 0) xs (g, c)).2.2 ∧ Wr Y Y' W) := fun Y g c i hi hy hg hwk => by
        obtain ⟨q, hq, _, hqe⟩ := HPl.out i hi
        have hv := HV.out Y hy
        exact IH.out.at hv.2.2.2.1 hg hwk HIN.out HTR.out HSH.out hlen hq hqe hv.2.1 hm HX.out tc ac
      obtain ⟨⟨g0, g1, g2, g3⟩, haV, hpV2, hBV, hrV⟩ := HV.out V (Wrote.refl _ _)
      have HWV : Hid (Wk V W (.slice la ps.length lc) f 0) := hwV
      have HRV : Hid (Wr Z V W) := hrV
      clear k0 k1 k2 k3 k4 q0 q1 q2 q3 ho hb2 n0 n1 n2 n3 hpV hwV hwX hBX haX HPt hBV hrV hrX hbg hGl
      rcases hnd with ⟨rfl, hA, rfl, rfl⟩ | ⟨rfl, hA, rfl, rfl⟩ | ⟨hk, rfl, rfl, rfl⟩ | ⟨rfl, hA, hnp, hnf⟩
      · exact absurd hkd (by omega)
      · exact absurd hkd (by omega)
      · rw [if_neg (by omega), if_neg (by omega)] at HRr
        have hkk : kidsN (kd, 0, [], []) = if kd = 7 then 3 else 2 := by
          unfold kidsN
          simp only
          by_cases h7 : kd = 7
          · rw [if_neg (by omega), if_pos h7, if_pos h7]
          · rw [if_pos (by omega), if_neg h7]
        rw [hkk] at hkl
        have h1b : (kd == 1) = false := beq_eq_false_iff_ne.2 (by omega)
        have h2b : (kd == 2) = false := beq_eq_false_iff_ne.2 (by omega)
        have h7 : ¬ kd = 7 := by omega
        · have h7b : (kd == 7) = false := beq_eq_false_iff_ne.2 h7
          have h8b : (kd == 8) = false := beq_eq_false_iff_ne.2 (by omega)
          rw [if_neg h7] at hkl
          rw [if_neg h7, if_neg (by omega)] at HRr
          obtain ⟨bp, op, rfl, _, _, p0⟩ := hpV2 0 (by omega)
          have HC0 := HC.out V f 0 0 (by omega) (Wrote.refl _ _) (by omega) HWV.out
          have HL0 := HLess.out (pts.getD 0 0) (f, 0)
          have HW0 := HWd.out (pts.getD 0 0) (f, 0)
          unfold bind10 at HRr
          dsimp only at HRr HL0
          obtain ⟨r0, hr0⟩ : ∃ r0, val10 ps d t (pts.getD 0 0) xs (f, 0) = r0 := ⟨_, rfl⟩
          rw [hr0] at HC0 HRr HL0 HW0
          have HC1 : Hid (_) := HC0
          rw [Nat.add_zero] at p0
          generalize hp0 : pts.getD 0 0 = P0 at HC1 p0
          clear hr0 HC0 hp0
          go_wp2_with fail
          refine Calls.mono HC1.out ?_
          rintro e Y0 ⟨rfl, hw0, hy0⟩
          obtain ⟨v0, f0, c0⟩ := r0
          simp only at hw0 HL0 HW0
          dsimp only at HRr
          obtain ⟨-, -, hpY, -, -⟩ := HV.out Y0 hy0
          clear HC1 p0
          obtain ⟨b', o', e', _, _, p2⟩ := hpY 1 (by omega)
          simp only [Option.some.injEq, Addr.mk.injEq, and_true] at e'
          obtain ⟨rfl, rfl⟩ := e'
          have HC2 : Hid (_) := HC.out Y0 f0 c0 1 (by omega) hy0 (by omega) hw0
          have HW1 := HWd.out (pts.getD 1 0) (f0, c0)
          generalize pts.getD 1 0 = P2 at HC2 p2 HRr HW1
          obtain ⟨r1, hr1⟩ : ∃ r1, val10 ps d t P2 xs (f0, c0) = r1 := ⟨_, rfl⟩
          rw [hr1] at HC2 HRr HW1
          have HY0 : Hid (Wr V Y0 W) := hy0
          clear hr1 hpY hw0 hy0
          go_wp2_with fail
          refine Calls.mono HC2.out ?_
          rintro e Y1 ⟨rfl, hw1, hy1⟩
          obtain ⟨v1, f1, c1⟩ := r1
          simp only at hw1 HW1
          dsimp only at HRr
          have HY1 : Hid (Wr V Y1 W) := HY0.out.trans hy1
          have g0 := (HV.out Y1 HY1.out).1.1
          have s2 := hw1.c2
          have s4 := hw1.fr 2
          have HWk : Hid (_) := hw1
          clear hw1 hy1 HY0 HC2 p2
          by_cases hc1 : c1 = 0
          · subst hc1
            have hD : Hid (_) := specL4Done kd v0 v1 Y1 HW0 HW1
            unfold fin10 at HRr
            dsimp only at HRr
            rw [if_neg (fun e => e rfl)] at HRr
            obtain ⟨dv, hdv⟩ : ∃ dv, doneV kd v0 v1 = dv := ⟨_, rfl⟩
            obtain ⟨db, hdb⟩ : ∃ db, doneB kd v0 v1 = db := ⟨_, rfl⟩
            have hz : db = false → dv = 0 := fun e => by rw [← hdv]; exact done_zero (by rw [hdb]; exact e)
            rw [hdv, hdb] at hD HRr
            clear hdv hdb
            go_wp2_with fail
            refine Calls.mono hD.out ?_
            rintro e Y2 ⟨rfl, hy2⟩
            obtain rfl := hy2.symm
            rcases db with _ | _
            · obtain rfl := hz rfl
              obtain rfl : r = (0, (f1, 1)) := HRr.out.trans (if_neg (by decide))
              have HWk2 : Hid (_) := HWk.out.code 1
              have HY2 : Hid (_) := HRV.out.trans (HY1.out.trans (wr_set Y1 W 2 (.int .i64 1)))
              clear HRr hz
              go_wp2
              go_ret
              exact ⟨rfl, HWk2.out, HY2.out⟩
            · obtain rfl : r = (dv, (f1, 0)) := HRr.out.trans (if_pos rfl)
              have HY2 : Hid (_) := HRV.out.trans HY1.out
              clear HRr hz
              go_wp2
              go_ret
              exact ⟨rfl, HWk.out, HY2.out⟩
          · obtain rfl : r = (0, (f1, c1)) := HRr.out.trans (if_pos hc1)
            have hcb : (c1 != 0) = true := by rw [bne_iff_ne]; exact hc1
            have HY2 : Hid (_) := HRV.out.trans HY1.out
            clear HRr
            go_wp2
            go_ret
            exact ⟨rfl, HWk.out, HY2.out⟩
      · exact absurd hkd (by omega)


end Go.Proofs.YtmloocbbcnhooaaGreatDoor
