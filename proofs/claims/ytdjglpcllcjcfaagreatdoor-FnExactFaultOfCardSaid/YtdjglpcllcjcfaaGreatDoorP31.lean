/-
  Parts of one proof, one behind the other: FltN, LaidE, LaidE8.
-/
import Derived.Test.YtdjglpcllcjcfaaGreatDoorP30
import Derived.Laws.CopyOwn
import Derived.Test.YtdjglpcllcjcfaaGreatDoorP16
import Derived.LaidLaws
import Derived.Stop.LaidErr
import Derived.Test.YtdjglpcllcjcfaaGreatDoorP25
import Derived.LaidHandle

/-! The contract of chapter 9's landed FaultOf. -/
namespace Go.Proofs.YtdjglpcllcjcfaaGreatDoor
open Go.RowKit

/-- What a fault tells is short. -/
def SmallF (F : Flt) : Prop := F.2.1.length ≤ 1048576 ∧ F.2.2.length ≤ 1048576
theorem fnsGo_small {ps : List Pk} {p : Pk} (hp : p.1.length ≤ 1048576) : ∀ (fs : List Fn) (k : Nat), (∀ f ∈ fs, f.1.length ≤ 1048576) → ∀ F, fnsGo ps p fs k = some F → SmallF F
  | [], _, _, F, h => by simp [fnsGo] at h
  | f :: r, k, hf, F, h => by
    rw [fnsGo] at h
    split at h
    · injection h with h
      subst h
      exact ⟨hp, hf f List.mem_cons_self⟩
    · exact fnsGo_small hp r (k + 1) (fun q hq => hf q (List.mem_cons_of_mem _ hq)) F h
theorem pk9_small {ps : List Pk} (hs : ShortPs ps) {dn i j : Nat} {F : Flt} (h : pk9 ps dn i (ps.getD j pk0) = some F) : SmallF F := by
  have hj := hs j
  unfold pk9 at h
  split at h
  · injection h with h; subst h; exact ⟨hj.1, by simp⟩
  · split at h
    · injection h with h; subst h; exact ⟨hj.1, by simp⟩
    · have hfs := hj.2.2.2.2
      refine fnsGo_small hj.1 _ 0 (fun f hf => ?_) F h
      generalize (ps.getD j pk0).2.2 = fs at hf hfs
      obtain ⟨q, hq, e⟩ := List.mem_iff_getElem.1 hf
      have h1 := (hfs q).1
      have e1 : fs.getD q fn0 = fs[q] := by simp [List.getD, hq]
      rw [e1, e] at h1
      exact h1
theorem fltGo_small {ps : List Pk} (hs : ShortPs ps) {dn : Nat} : ∀ (l : List (List UInt8)) (i : Nat) (F : Flt), fltGo ps dn l i = some F → SmallF F
  | [], _, F, h => by simp [fltGo] at h
  | x :: r, i, F, h => by
    rw [fltGo] at h
    cases hp : pk9 ps dn i (pkOf ps x) with
    | none => rw [hp] at h; exact fltGo_small hs r (i + 1) F h
    | some G =>
      rw [hp] at h
      injection h with h
      subst h
      exact pk9_small (j := (at8 ps x).toNat) hs hp
theorem fault_small {ps : List Pk} (hs : ShortPs ps) : SmallF (faultV ps) := by
  unfold faultV
  split
  · unfold fault9
    split
    · rename_i f hf
      exact fltGo_small hs _ _ f hf
    · unfold main9
      split
      · exact ⟨by simp, by simp⟩
      · exact ⟨by simp [mainT], by simp [mainT]⟩
  · exact ⟨by simp, by simp⟩

/-- A block of three cells that can be written. -/
structure Bx (Z : World) (k : Nat) (a b c : Value) : Prop where
  box : Box3 Z k a b c
  fr : ∀ j, Z.frozen? ⟨k, j, none⟩ = false
theorem Bx.new (w : World) (a b c : Value) (t : TypeId) : Bx (w.alloc (.cells #[a, b, c] t)) w.heap.size a b c ∧ Below w.heap.size w (w.alloc (.cells #[a, b, c] t)) := by
  obtain ⟨h1, h2⟩ := Box3.new w a b c t
  exact ⟨⟨h1, fun j => World.frozen?_alloc_at _ _ _ _ rfl⟩, h2⟩
theorem Bx.below {Z Y : World} {k : Nat} {a b c : Value} (h : Bx Z k a b c) (hb : Below Z.heap.size Z Y) : Bx Y k a b c := ⟨h.box.below hb, fun j => (hb.frozen (p := ⟨k, j, none⟩) h.box.lt).trans (h.fr j)⟩
theorem Bx.keep {Z Y : World} {k : Nat} {a b c : Value} (h : Bx Z k a b c) (e : Y.heap[k]? = Z.heap[k]?) : Bx Y k a b c := ⟨h.box.keep e, fun j => by have := h.fr j; simp only [World.frozen?] at this ⊢; rw [e]; exact this⟩
theorem Bx.row {Z : World} {k T : Nat} {a b c : Value} (h : Bx Z k a b c) (hk : k ≠ T) (cs : Array Value) : Bx (Z.setRow T cs) k a b c := h.keep (setRow_other Z T k cs hk)
theorem Bx.far {Z : World} {k g o : Nat} {a b c : Value} (h : Bx Z k a b c) (hk : g ≠ k) (v : Value) : Bx (Z.setCell ⟨g, o, none⟩ v) k a b c :=
  ⟨⟨(World.cell?_setCell_far Z ⟨g, o, none⟩ ⟨k, 0, none⟩ v hk).trans h.box.c0, (World.cell?_setCell_far Z ⟨g, o, none⟩ ⟨k, 1, none⟩ v hk).trans h.box.c1, (World.cell?_setCell_far Z ⟨g, o, none⟩ ⟨k, 2, none⟩ v hk).trans h.box.c2⟩, fun j => by simpa using h.fr j⟩
theorem Bx.s1 {Z : World} {k : Nat} {a b c : Value} (h : Bx Z k a b c) (v : Value) : Bx (Z.setCell ⟨k, 1, none⟩ v) k a v c :=
  ⟨⟨(World.cell?_setCell_other _ _ _ _ (by simp)).trans h.box.c0, World.cell?_setCell_same _ _ _ h.box.c1, (World.cell?_setCell_other _ _ _ _ (by simp)).trans h.box.c2⟩, fun j => by simpa using h.fr j⟩
theorem Bx.s2 {Z : World} {k : Nat} {a b c : Value} (h : Bx Z k a b c) (v : Value) : Bx (Z.setCell ⟨k, 2, none⟩ v) k a b v :=
  ⟨⟨(World.cell?_setCell_other _ _ _ _ (by simp)).trans h.box.c0, (World.cell?_setCell_other _ _ _ _ (by simp)).trans h.box.c1, World.cell?_setCell_same _ _ _ h.box.c2⟩, fun j => by simpa using h.fr j⟩
theorem Bx.f {Z : World} {k : Nat} (h : Bx Z k (.int .i64 0) (.string ⟨#[]⟩) (.string ⟨#[]⟩)) : FBox Z k := ⟨h.box, h.fr⟩

set_option maxHeartbeats 8000000 in
set_option maxRecDepth 100000 in
theorem implFaultOf (a : Option Addr) (len cap : Nat) (ps : List Pk) (er : Nat → Addr) (w : World) (hE : Err8 w er) (h : PkgsOk w a len cap ps) :
    Calls Tryz.prog 7 #[.slice a len cap] w fun e w' => e = .returned (fltVal (faultV ps)) ∧ Below w.heap.size w w' := by
  obtain ⟨hs1, hs2⟩ := fault_small h.short
  obtain ⟨bD, hb0⟩ := Bx.new w (.int .i64 0) (.string ⟨#[]⟩) (.string ⟨#[]⟩) 27
  obtain ⟨W0, hW0⟩ : ∃ W0, w.alloc (.cells #[.int .i64 0, .string ⟨#[]⟩, .string ⟨#[]⟩] 27) = W0 := ⟨_, rfl⟩
  obtain ⟨D, hD⟩ : ∃ D, w.heap.size = D := ⟨_, rfl⟩
  rw [hW0] at bD hb0
  rw [hD] at bD hb0
  have hDw : w.heap.size ≤ D := Nat.le_of_eq hD
  have HPr : Hid (_) := implProjectWrong a len cap ps er W0 (hE.below (by rw [hD]; exact hb0)) (h.below (by rw [hD]; exact hb0))
  have HEr : Hid (Err8 W0 er) := hE.below (by rw [hD]; exact hb0)
  have hsz : D < W0.heap.size := bD.box.lt
  have HB0 : Hid (Below D w W0) := hb0
  have HD : Hid (Bx W0 D (.int .i64 0) (.string ⟨#[]⟩) (.string ⟨#[]⟩)) := bD
  obtain ⟨F, hF⟩ : ∃ F, faultV ps = F := ⟨_, rfl⟩
  rw [hF] at HPr hs1 hs2 ⊢
  clear bD hb0 hE h hF
  go_enter Tryz.func7, Tryz.ntmps7
  go_wp2_with fail
  refine Calls.mono HPr.out ?_
  rintro e w1 ⟨v, rfl, hv, hb1⟩
  have bD := HD.out.below hb1
  have HE1 : Hid (Err8 w1 er) := HEr.out.below hb1
  have hB1 : Below D w w1 := HB0.out.trans (hb1.mono (Nat.le_of_lt hsz))
  have hs1w : D < w1.heap.size := bD.box.lt
  clear HPr HEr HB0 HD hb1
  rcases hv with ⟨rfl, rfl⟩ | ⟨rfl, rfl⟩ | ⟨c, p, g, k, rfl, hk, rfl⟩
  · obtain ⟨Y, hY, y0, y1, y2, hbY⟩ := bD.f.put (w := w) (by rw [hD]; exact hB1) hDw (0, [], [])
    simp only at hY y0 y1 y2
    have f0 := bD.fr 0
    have f1 := bD.fr 1
    have f2 := bD.fr 2
    have d0 := bD.box.c0
    have d1 := bD.box.c1
    have d2 := bD.box.c2
    clear bD hB1
    go_wp2
    refine bodyPost_ret (v := fltVal (0, [], [])) (by unfold fltVal; simp [results, Tryz.results7, go_sem, y0, y1, y2]) rfl ?_
    exact ⟨rfl, hbY⟩
  · go_wp2_with fail
    refine Calls.mono (codeOfFaultE er _ HE1.out) ?_
    rintro e w2 ⟨rfl, hb2⟩
    have bD2 := bD.below hb2
    have hB2 : Below D w w2 := hB1.trans (hb2.mono (Nat.le_of_lt hs1w))
    obtain ⟨E, hEe⟩ : ∃ E, w2.heap.size = E := ⟨_, rfl⟩
    have hDE : D < E := by rw [← hEe]; exact bD2.box.lt
    obtain ⟨bE, hbE⟩ := Bx.new w2 (.int .i64 6) (.string ⟨#[]⟩) (.string ⟨#[]⟩) 27
    obtain ⟨bT, hbT⟩ := Bx.new (w2.alloc (.cells #[.int .i64 6, .string ⟨#[]⟩, .string ⟨#[]⟩] 27)) (.string ⟨#[]⟩) (.string ⟨#[]⟩) .nilIface 57
    have hT := heap_alloc_new (w2.alloc (.cells #[.int .i64 6, .string ⟨#[]⟩, .string ⟨#[]⟩] 27)) (.cells #[.string ⟨#[]⟩, .string ⟨#[]⟩, .nilIface] 57)
    have hsz1 : (w2.alloc (.cells #[.int .i64 6, .string ⟨#[]⟩, .string ⟨#[]⟩] 27)).heap.size = E + 1 := by rw [← hEe]; simp
    rw [hEe] at bE
    rw [hsz1] at bT hT
    have bE2 := bE.below hbT
    have bD4 := (bD2.below hbE).below hbT
    have HE4 : Hid (Err8 ((w2.alloc (.cells #[.int .i64 6, .string ⟨#[]⟩, .string ⟨#[]⟩] 27)).alloc (.cells #[.string ⟨#[]⟩, .string ⟨#[]⟩, .nilIface] 57)) er) := ((HE1.out.below hb2).below hbE).below hbT
    have hB4 : Below D w ((w2.alloc (.cells #[.int .i64 6, .string ⟨#[]⟩, .string ⟨#[]⟩] 27)).alloc (.cells #[.string ⟨#[]⟩, .string ⟨#[]⟩, .nilIface] 57)) := (hB2.trans (hbE.mono (by omega))).trans (hbT.mono (by rw [hsz1]; omega))
    have hsz4 : D < ((w2.alloc (.cells #[.int .i64 6, .string ⟨#[]⟩, .string ⟨#[]⟩] 27)).alloc (.cells #[.string ⟨#[]⟩, .string ⟨#[]⟩, .nilIface] 57)).heap.size := bD4.box.lt
    have gE := HE4.out.ety
    have HAs : Hid (_) := as_miss (er 0) ⟨E + 1, 0, none⟩ _ gE
    clear bD bD2 bE bT hT hbE hbT hB1 hB2 hb2 HE1
    go_wp2_with fail
    refine Calls.mono HAs.out ?_
    rintro e w3 ⟨rfl, hb3⟩
    have bE3 := bE2.below hb3
    have bD3 := bD4.below hb3
    have hB3 : Below D w w3 := hB4.trans (hb3.mono (Nat.le_of_lt hsz4))
    obtain ⟨Y, hY, y0, y1, y2, hbY⟩ := bD3.f.put (w := w) (by rw [hD]; exact hB3) hDw (6, [], [])
    simp only at hY y0 y1 y2
    have f0 := bD3.fr 0
    have f1 := bD3.fr 1
    have f2 := bD3.fr 2
    have d0 := bD3.box.c0
    have d1 := bD3.box.c1
    have d2 := bD3.box.c2
    have e0 := bE3.box.c0
    have e1 := bE3.box.c1
    have e2 := bE3.box.c2
    clear bE2 bE3 bD4 bD3 hB3 hB4 hb3 gE HE4 HAs
    go_wp2
    refine bodyPost_ret (v := fltVal (6, [], [])) (by unfold fltVal; simp [results, Tryz.results7, go_sem, y0, y1, y2]) rfl ?_
    exact ⟨rfl, hbY⟩
  · have HC : Hid (_) := implCodeOfFault c k hk p g er w1 HE1.out
    clear hk
    go_wp2_with fail
    refine Calls.mono HC.out ?_
    rintro e w2 ⟨rfl, hb2⟩
    have bD2 := bD.below hb2
    have hB2 : Below D w w2 := hB1.trans (hb2.mono (Nat.le_of_lt hs1w))
    obtain ⟨E, hEe⟩ : ∃ E, w2.heap.size = E := ⟨_, rfl⟩
    have hDE : D < E := by rw [← hEe]; exact bD2.box.lt
    obtain ⟨bE, hbE⟩ := Bx.new w2 (.int .i64 c) (.string ⟨#[]⟩) (.string ⟨#[]⟩) 27
    obtain ⟨bT, hbT⟩ := Bx.new (w2.alloc (.cells #[.int .i64 c, .string ⟨#[]⟩, .string ⟨#[]⟩] 27)) (.string ⟨#[]⟩) (.string ⟨#[]⟩) .nilIface 57
    have hT := heap_alloc_new (w2.alloc (.cells #[.int .i64 c, .string ⟨#[]⟩, .string ⟨#[]⟩] 27)) (.cells #[.string ⟨#[]⟩, .string ⟨#[]⟩, .nilIface] 57)
    have hsz1 : (w2.alloc (.cells #[.int .i64 c, .string ⟨#[]⟩, .string ⟨#[]⟩] 27)).heap.size = E + 1 := by rw [← hEe]; simp
    rw [hEe] at bE
    rw [hsz1] at bT hT
    have bE2 := bE.below hbT
    have bD4 := (bD2.below hbE).below hbT
    have HE4 : Hid (Err8 ((w2.alloc (.cells #[.int .i64 c, .string ⟨#[]⟩, .string ⟨#[]⟩] 27)).alloc (.cells #[.string ⟨#[]⟩, .string ⟨#[]⟩, .nilIface] 57)) er) := ((HE1.out.below hb2).below hbE).below hbT
    have hB4 : Below D w ((w2.alloc (.cells #[.int .i64 c, .string ⟨#[]⟩, .string ⟨#[]⟩] 27)).alloc (.cells #[.string ⟨#[]⟩, .string ⟨#[]⟩, .nilIface] 57)) := (hB2.trans (hbE.mono (by omega))).trans (hbT.mono (by rw [hsz1]; omega))
    have hsz4 : D < ((w2.alloc (.cells #[.int .i64 c, .string ⟨#[]⟩, .string ⟨#[]⟩] 27)).alloc (.cells #[.string ⟨#[]⟩, .string ⟨#[]⟩, .nilIface] 57)).heap.size := bD4.box.lt
    have gE := HE4.out.ety
    have HAs : Hid (_) := as_hit p g (er k) (E + 1) 57 _ _ hT rfl gE
    clear bD bD2 bE bT hT hbE hbT hB1 hB2 hb2 HE1 HC
    go_wp2_with fail
    refine Calls.mono HAs.out ?_
    rintro e w3 ⟨rfl, w0, hb3, ho0, hw3⟩
    have bE3 := (bE2.below hb3).row (T := E + 1) (by omega) #[.string ⟨p.toArray⟩, .string ⟨g.toArray⟩, .iface 215 (.pointer (some (er k)))]
    have bD3 := (bD4.below hb3).row (T := E + 1) (by omega) #[.string ⟨p.toArray⟩, .string ⟨g.toArray⟩, .iface 215 (.pointer (some (er k)))]
    have hT3 := setRow_heap w0 (E + 1) _ #[.string ⟨p.toArray⟩, .string ⟨g.toArray⟩, .iface 215 (.pointer (some (er k)))] _ _ ho0
    have hB3 : Below D w (w0.setRow (E + 1) #[.string ⟨p.toArray⟩, .string ⟨g.toArray⟩, .iface 215 (.pointer (some (er k)))]) := below_setRow (hB4.trans (hb3.mono (Nat.le_of_lt hsz4))) (by omega) _
    rw [← hw3] at bE3 bD3 hT3 hB3
    have t0 : w3.cell? ⟨E + 1, 0, none⟩ = some (.string ⟨p.toArray⟩) := by simp [World.cell?, hT3]
    have t1 : w3.cell? ⟨E + 1, 1, none⟩ = some (.string ⟨g.toArray⟩) := by simp [World.cell?, hT3]
    have hs3 : D < w3.heap.size := bD3.box.lt
    have hTl : E + 1 < w3.heap.size := World.block_lt_of_cell? w3 ⟨E + 1, 0, none⟩ t0
    clear hw3 ho0 hT3 bE2 bD4 hB4 gE HE4 HAs hb3 hsz4
    clear w0
    go_wp2_with fail
    refine Calls.mono (stringsClone p _ hs1) ?_
    rintro e w4 ⟨rfl, hb4⟩
    have bE4 := bE3.below hb4
    have bD5 := (bD3.below hb4).far (g := E) (o := 1) (by omega) (.string ⟨p.toArray⟩)
    have t14 := (World.cell?_setCell_far w4 ⟨E, 1, none⟩ ⟨E + 1, 1, none⟩ (.string ⟨p.toArray⟩) (by simp)).trans ((hb4.cell (p := ⟨E + 1, 1, none⟩) hTl).trans t1)
    have hB4 : Below D w w4 := hB3.trans (hb4.mono (Nat.le_of_lt hs3))
    have bE5 := bE4.s1 (.string ⟨p.toArray⟩)
    have hB5 : Below D w (w4.setCell ⟨E, 1, none⟩ (.string ⟨p.toArray⟩)) := hB4.grown (grown_set w4 E 1 _) (by rw [← hD]; exact hB4.size) (fun q e => by injection e with e; have e2 : E = q := e; omega)
    have fE1 := bE4.fr 1
    have e14 := bE4.box.c1
    obtain ⟨Y1, hY1⟩ : ∃ Y1, w4.setCell ⟨E, 1, none⟩ (.string ⟨p.toArray⟩) = Y1 := ⟨_, rfl⟩
    rw [hY1] at bD5 t14 bE5 hB5
    have hs5 : D < Y1.heap.size := bD5.box.lt
    clear bE4 bE3 bD3 hB3 hB4 t0 t1 hb4
    go_wp2_with fail
    refine Calls.mono (stringsClone g _ hs2) ?_
    rintro e w5 ⟨rfl, hb5⟩
    have bE6 := bE5.below hb5
    have bD7 := (bD5.below hb5).far (g := E) (o := 2) (by omega) (.string ⟨g.toArray⟩)
    have hB6 : Below D w w5 := hB5.trans (hb5.mono (Nat.le_of_lt hs5))
    have bE7 := bE6.s2 (.string ⟨g.toArray⟩)
    have hB7 : Below D w (w5.setCell ⟨E, 2, none⟩ (.string ⟨g.toArray⟩)) := hB6.grown (grown_set w5 E 2 _) (by rw [← hD]; exact hB6.size) (fun q e => by injection e with e; have e2 : E = q := e; omega)
    have fE2 := bE6.fr 2
    have e26 := bE6.box.c2
    obtain ⟨Y2, hY2⟩ : ∃ Y2, w5.setCell ⟨E, 2, none⟩ (.string ⟨g.toArray⟩) = Y2 := ⟨_, rfl⟩
    rw [hY2] at bD7 bE7 hB7
    obtain ⟨Y, hY, y0, y1, y2, hbY⟩ := bD7.f.put (w := w) (by rw [hD]; exact hB7) hDw (c, p, g)
    simp only at hY y0 y1 y2
    have f0 := bD7.fr 0
    have f1 := bD7.fr 1
    have f2 := bD7.fr 2
    have d0 := bD7.box.c0
    have d1 := bD7.box.c1
    have d2 := bD7.box.c2
    have e0 := bE7.box.c0
    have e1 := bE7.box.c1
    have e2 := bE7.box.c2
    clear bE5 bE6 bE7 bD5 bD7 hB5 hB6 hB7 hb5 t14 fE1 e14
    go_wp2
    refine bodyPost_ret (v := fltVal (c, p, g)) (by unfold fltVal; simp [results, Tryz.results7, go_sem, y0, y1, y2]) rfl ?_
    exact ⟨rfl, hbY⟩

end Go.Proofs.YtdjglpcllcjcfaaGreatDoor

/-! What listed errors of errors.New's make give a walk: each variable's cell, and that no two are one. -/
namespace Go.Proofs.YtdjglpcllcjcfaaGreatDoor
open Go.RowKit

def sentD (text : List UInt8) : DataW Unit := .iface "*errors.errorString" (.ptr (.agg [.lit (.string text)]))
noncomputable def errTy (n : String) : Bool := ((Tryz.prog.globalNamed n).bind fun g => (Tryz.prog.globals[g]?).map (·.type)) == some 53
theorem errStar : "*errors.errorString" = "*" ++ "errors.errorString" := by decide
theorem errRow (u : TypeId) (h : Tryz.prog.typeName? 3 u = some "*errors.errorString") : u = 215 :=
  typeName_ptr_named (nm := "errors.errorString") (by rw [← errStar]; kernel_rfl) (by kernel_rfl) (by decide) u (by rw [← errStar]; exact h)
set_option maxRecDepth 100000 in
theorem sents_of {W : World} : ∀ (l : List (String × List UInt8)) (ps : List MemPlace), (l.all fun x => errTy x.1) = true → DataW.LaidVars Tryz.prog W (l.map fun x => (x.1, sentD x.2)) ps → ps.Nodup →
    (∀ b off, MemPlace.cell b off ∈ ps → (∃ c t, W.heap[b]? = some (.cells c t (0, 0))) ∧ ∀ u v, W.cell? ⟨b, off, none⟩ = some (.iface u v) → Value.okWide Tryz.prog W .any 0 u v) →
    ∃ al : List Addr, al.length = l.length ∧ al.Nodup ∧ (∀ a ∈ al, MemPlace.cell a.block a.off ∈ ps) ∧ ∀ i, i < l.length → W.var? Tryz.prog (l.getD i ("", [])).1 = some #[sentV (al.getD i ⟨0, 0, none⟩)] ∧ SentAt W (al.getD i ⟨0, 0, none⟩)
  | [], ps, _, _, _, _ => ⟨[], rfl, List.nodup_nil, (fun a ha => by cases ha), (fun i hi => absurd hi (Nat.not_lt_zero _))⟩
  | x :: r, ps, hty, h, hnd, hrows => by
    obtain ⟨g, t, cs, fuel, p, q, hg, ht, hv, hd, hr, e⟩ := h
    rw [List.all_cons, Bool.and_eq_true] at hty
    have h1 := hty.1
    unfold errTy at h1
    rw [hg, Option.bind_some, ht] at h1
    obtain rfl : t = 53 := by simpa using h1
    subst e
    obtain ⟨l0⟩ := cs
    have ok : ∀ u v, l0 = [.iface u v] → Value.okWide Tryz.prog W .any 0 u v := fun u v e => by
      subst e
      exact (hrows g 0 (by simp [MemPlace.row])).2 u v (by simpa using World.var?_cell hg hv 0)
    obtain ⟨a, s, rfl, hc, hs, hz, rfl⟩ := errorString_of_trod Tryz.underlying53 errRow Tryz.underlying215 Tryz.underlying234 rfl rfl Tryz.underlying9 (by kernel_rfl) (by kernel_rfl) hd ok
    obtain ⟨al, hl, has, hin, hall⟩ := sents_of r q hty.2 hr (List.Nodup.sublist (List.sublist_append_right _ _) hnd) (fun b off hm => hrows b off (List.mem_append_right _ hm))
    have hca : MemPlace.cell a.block a.off ∈ MemPlace.row a 1 := by simp [MemPlace.row]
    refine ⟨a :: al, by simp [hl], List.nodup_cons.2 ⟨fun ha => ?_, has⟩, fun b hb => ?_, fun i hi => ?_⟩
    · have h2 := hin a ha
      rw [List.append_assoc] at hnd
      have h3 := (List.nodup_append.1 hnd).2.1
      exact (List.nodup_append.1 h3).2.2 _ hca _ h2 rfl
    · rcases List.mem_cons.1 hb with rfl | hb
      · exact List.mem_append_left _ (List.mem_append_right _ hca)
      · exact List.mem_append_right _ (hin b hb)
    · rcases i with _ | i
      · exact ⟨hv, (hrows a.block a.off (List.mem_append_left _ (List.mem_append_right _ hca))).1⟩
      · have := hall i (by simpa using hi)
        simpa using this

theorem nodup_at {al : List Addr} (h : al.Nodup) {i j : Nat} (hi : i < al.length) (hj : j < al.length) (hne : i ≠ j) : al.getD i ⟨0, 0, none⟩ ≠ al.getD j ⟨0, 0, none⟩ := by
  intro e
  have e1 : al.getD i ⟨0, 0, none⟩ = al[i] := by simp [List.getD, hi]
  have e2 : al.getD j ⟨0, 0, none⟩ = al[j] := by simp [List.getD, hj]
  rw [e1, e2] at e
  exact hne ((List.getElem_inj h).1 e)

/-- The four that CallCode asks, in the order of the list: not told, far, func, count. -/
theorem err4_of {W : World} {t0 t1 t2 t3 : List UInt8} {l : List (String × List UInt8)} (h : laidMet Tryz.prog ((("loop.example/g00346/impl.errNotTold", t0) :: ("loop.example/g00346/impl.errFar", t1) :: ("loop.example/g00346/impl.errFunc", t2) :: ("loop.example/g00346/impl.errCount", t3) :: l).map fun x => (x.1, sentD x.2)) W)
    (hty : (l.all fun x => errTy x.1) = true) :
    ∃ al : List Addr, al.length = l.length + 4 ∧ al.Nodup ∧ Err4 W (fun i => al.getD i ⟨0, 0, none⟩) ∧ ∀ i, i < l.length → W.var? Tryz.prog (l.getD i ("", [])).1 = some #[sentV (al.getD (i + 4) ⟨0, 0, none⟩)] ∧ SentAt W (al.getD (i + 4) ⟨0, 0, none⟩) := by
  obtain ⟨ps, hv, hnd, hrows⟩ := h
  have ht4 : errTy "loop.example/g00346/impl.errNotTold" = true ∧ errTy "loop.example/g00346/impl.errFar" = true ∧ errTy "loop.example/g00346/impl.errFunc" = true ∧ errTy "loop.example/g00346/impl.errCount" = true := ⟨by kernel_rfl, by kernel_rfl, by kernel_rfl, by kernel_rfl⟩
  obtain ⟨al, hl, has, _, hall⟩ := sents_of _ ps (by simp only [List.all_cons, ht4, Bool.true_and, hty]) hv hnd hrows
  have hl4 : al.length = l.length + 4 := by simpa using hl
  have c : ∀ i g n, i < 4 → (([("loop.example/g00346/impl.errNotTold", t0), ("loop.example/g00346/impl.errFar", t1), ("loop.example/g00346/impl.errFunc", t2), ("loop.example/g00346/impl.errCount", t3)] ++ l).getD i ("", [])).1 = n → Tryz.prog.globalNamed n = some g → W.cell? ⟨g, 0, none⟩ = some (sentV (al.getD i ⟨0, 0, none⟩)) := fun i g n hi hn hg => by
    have h1 := (hall i (by simp; omega)).1
    have h2 : (([("loop.example/g00346/impl.errNotTold", t0), ("loop.example/g00346/impl.errFar", t1), ("loop.example/g00346/impl.errFunc", t2), ("loop.example/g00346/impl.errCount", t3)] ++ l).getD i ("", [])).1 = n := hn
    simp only [List.cons_append, List.nil_append] at h2
    rw [h2] at h1
    simpa using World.var?_cell hg h1 0
  have at_ : ∀ i, i < 4 → SentAt W (al.getD i ⟨0, 0, none⟩) := fun i hi => (hall i (by simp; omega)).2
  have ne : ∀ i j, i < 4 → j < 4 → i ≠ j → al.getD i ⟨0, 0, none⟩ ≠ al.getD j ⟨0, 0, none⟩ := fun i j hi hj hne => nodup_at has (by omega) (by omega) hne
  refine ⟨al, hl4, has, ⟨c 0 0 _ (by decide) rfl (by kernel_rfl), c 1 6 _ (by decide) rfl (by kernel_rfl), c 2 7 _ (by decide) rfl (by kernel_rfl), c 3 8 _ (by decide) rfl (by kernel_rfl), at_ 0 (by decide), at_ 1 (by decide), at_ 2 (by decide), at_ 3 (by decide), ⟨ne 0 1 (by decide) (by decide) (by decide), ne 0 2 (by decide) (by decide) (by decide), ne 0 3 (by decide) (by decide) (by decide), ne 1 2 (by decide) (by decide) (by decide), ne 1 3 (by decide) (by decide) (by decide), ne 2 3 (by decide) (by decide) (by decide)⟩⟩, fun i hi => ?_⟩
  have h1 := hall (i + 4) (by simp; omega)
  simpa using h1

end Go.Proofs.YtdjglpcllcjcfaaGreatDoor

/-! What the eight listed errors and errors.errorType give a walk. -/
namespace Go.Proofs.YtdjglpcllcjcfaaGreatDoor
open Go.RowKit

theorem etyAt : Tryz.prog.globalNamed "errors.errorType" = some 5 := by kernel_rfl
theorem etyRt : (Tryz.prog.cutTypes.find? (·.1 == "internal/reflectlite.rtype")).map (·.2) = some 128 := by kernel_rfl
theorem etyRow : ((List.range 246).filter fun t => Tryz.prog.rowNamed t [101, 114, 114, 111, 114]) = [53] := by kernel_rfl
theorem etySize : Tryz.prog.types.size = 246 := by kernel_rfl
/-- The variable that holds the type error's handle. -/
theorem handle_of {W : World} (h : handlesMet Tryz.prog [("errors.errorType", .iface "internal/reflectlite.rtype" (.agg [.ptr (.lit (.string [101, 114, 114, 111, 114]))]))] W) : W.cell? ⟨5, 0, none⟩ = some (.iface 128 (.agg #[.pointer (some ⟨12, 53, none⟩)])) := by
  obtain ⟨name, u, ty, e1, e2, e3, e4, e5⟩ := h _ (List.mem_singleton.2 rfl)
  have en : name = [101, 114, 114, 111, 114] := (Option.some.inj e1).symm
  subst en
  obtain rfl := Option.some.inj (etyRt.symm.trans e2)
  have hm : ty ∈ (List.range 246).filter fun t => Tryz.prog.rowNamed t [101, 114, 114, 111, 114] := List.mem_filter.2 ⟨List.mem_range.2 (by rw [← etySize]; exact e3), e4⟩
  rw [etyRow] at hm
  obtain rfl := List.mem_singleton.1 hm
  have hh : typeHandle Tryz.prog 53 = .pointer (some ⟨12, 53, none⟩) := by kernel_rfl
  rw [hh] at e5
  simpa using World.var?_cell etyAt e5 0

theorem err8_of {W : World} {t0 t1 t2 t3 t4 t5 t6 t7 : List UInt8} (h : laidMet Tryz.prog ([("loop.example/g00346/impl.errNotTold", t0), ("loop.example/g00346/impl.errFar", t1), ("loop.example/g00346/impl.errFunc", t2), ("loop.example/g00346/impl.errCount", t3), ("loop.example/g00346/impl.errImport", t4), ("loop.example/g00346/impl.errRing", t5), ("loop.example/g00346/impl.errArg", t6), ("loop.example/g00346/impl.errMain", t7)].map fun x => (x.1, sentD x.2)) W)
    (hg : W.cell? ⟨5, 0, none⟩ = some (.iface 128 (.agg #[.pointer (some ⟨12, 53, none⟩)]))) : ∃ er, Err8 W er := by
  have ht4 : errTy "loop.example/g00346/impl.errImport" = true ∧ errTy "loop.example/g00346/impl.errRing" = true ∧ errTy "loop.example/g00346/impl.errArg" = true ∧ errTy "loop.example/g00346/impl.errMain" = true := ⟨by kernel_rfl, by kernel_rfl, by kernel_rfl, by kernel_rfl⟩
  obtain ⟨al, hl, hnd, hE, hr⟩ := err4_of (l := [("loop.example/g00346/impl.errImport", t4), ("loop.example/g00346/impl.errRing", t5), ("loop.example/g00346/impl.errArg", t6), ("loop.example/g00346/impl.errMain", t7)]) h (by simp only [List.all_cons, List.all_nil, ht4, Bool.and_true])
  have hl8 : al.length = 8 := hl
  have c : ∀ i g n, i < 4 → ([("loop.example/g00346/impl.errImport", t4), ("loop.example/g00346/impl.errRing", t5), ("loop.example/g00346/impl.errArg", t6), ("loop.example/g00346/impl.errMain", t7)].getD i ("", [])).1 = n → Tryz.prog.globalNamed n = some g → W.cell? ⟨g, 0, none⟩ = some (sentV (al.getD (i + 4) ⟨0, 0, none⟩)) := fun i g n hi hn hg => by
    have h1 := (hr i hi).1
    rw [hn] at h1
    simpa using World.var?_cell hg h1 0
  refine ⟨_, hE, c 0 2 _ (by decide) rfl (by kernel_rfl), c 1 3 _ (by decide) rfl (by kernel_rfl), c 2 4 _ (by decide) rfl (by kernel_rfl), c 3 1 _ (by decide) rfl (by kernel_rfl), fun i hi => ?_, fun i j hi hj hne => nodup_at hnd (by omega) (by omega) hne, hg⟩
  rcases (show i = 0 ∨ i = 1 ∨ i = 2 ∨ i = 3 ∨ 4 ≤ i by omega) with rfl | rfl | rfl | rfl | h4
  · exact hE.at0
  · exact hE.at1
  · exact hE.at2
  · exact hE.at3
  · obtain ⟨q, rfl⟩ : ∃ q, i = q + 4 := ⟨i - 4, by omega⟩
    exact (hr q (by simp; omega)).2

end Go.Proofs.YtdjglpcllcjcfaaGreatDoor
