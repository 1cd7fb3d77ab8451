/-
  Parts of one proof, one behind the other: PackC2, PackS5.
-/
import Derived.Test.YtibppdepgoiojaaGreatDoorP11
import Derived.Test.YtibppdepgoiojaaGreatDoorP6

/-! A function is copied: l7CopyFunc. -/
namespace Go.Proofs.YtibppdepgoiojaaGreatDoor
open Go.RowKit

set_option maxHeartbeats 2000000 in
set_option maxRecDepth 100000 in
theorem specCopyFunc (f : Fn) (ta : Option Addr) (tl tc : Nat) (w : World) (hin : NodesIn w ta tl f.2.2) (hc : ta = none → tc = 0) (hlen : tl ≤ 1048576) :
    Calls Tryz.prog 47 #[.agg #[.string ⟨f.1.toArray⟩, .int .i64 f.2.1, .slice ta tl tc]] w fun e w' => ∃ v, e = .returned (.agg #[.string ⟨f.1.toArray⟩, .int .i64 f.2.1, v]) ∧ w'.ownsRow w.heap.size 76 4 v f.2.2.length (nodesV f.2.2) ∧ Below w.heap.size w w' := by
  obtain ⟨s, n, t⟩ := f
  simp only at hin ⊢
  obtain rfl : t.length = tl := hin.1
  obtain ⟨i0, hi, hz0, hz1, hz2⟩ := info_parts infoNode
  obtain ⟨W1, hW1⟩ : ∃ W, w.alloc (.cells #[.string ⟨s.toArray⟩, .int .i64 n, .slice ta t.length tc] 37) = W := ⟨_, rfl⟩
  obtain ⟨W2, hW2⟩ : ∃ W, W1.alloc (.cells #[.string ⟨#[]⟩, .int .i64 0, .slice none 0 0] 37) = W := ⟨_, rfl⟩
  have hs1 : W1.heap.size = w.heap.size + 1 := by rw [← hW1]; simp
  have hs2 : W2.heap.size = w.heap.size + 2 := by rw [← hW2]; simp [hs1]
  have hb1 : Below w.heap.size w W1 := by rw [← hW1]; exact (Below.refl _ _).alloc (Nat.le_refl _) _
  have hb2 : Below w.heap.size w W2 := by rw [← hW2]; exact hb1.alloc hb1.size _
  have hA1 : W1.heap[w.heap.size]? = some (.cells #[.string ⟨s.toArray⟩, .int .i64 n, .slice ta t.length tc] 37) := by rw [← hW1]; exact heap_alloc_new w _
  have hA1' : W2.heap[w.heap.size]? = some (.cells #[.string ⟨s.toArray⟩, .int .i64 n, .slice ta t.length tc] 37) := by rw [← hW2, Below.heap_alloc _ _ _ (by omega)]; exact hA1
  have hA2 : W2.heap[w.heap.size + 1]? = some (.cells #[.string ⟨#[]⟩, .int .i64 0, .slice none 0 0] 37) := by rw [← hs1, ← hW2]; exact heap_alloc_new W1 _
  have hbA : Below W2.heap.size W2 (W2.alloc (.cells #[] 76)) := (Below.refl _ _).alloc (Nat.le_refl _) _
  have hown0 := (World.ownsRow_lit (base := W2.heap.size) (e := 76) (size := 4) W2 #[] 0 (Nat.le_refl _) (by decide) rfl)
  obtain ⟨v', w4, hrun, hown', hg, _⟩ := run_append_src (P := Tryz.prog) (W2.alloc (.cells #[] 76)) W2.heap.size 35 35 76 i0 _ 4 48 Tryz.underlying35 hi hz0 hz1 hz2 rfl (by decide) _ _ _ hown0 (.slice ta t.length tc) t.length (nodesV t) (((hin.below hb2).below hbA).src hc) (by unfold maxLen; omega) (by omega) (by simp)
  have hown4 : w4.ownsRow W2.heap.size 76 4 v' t.length (nodesV t) := by
    simp only [Nat.zero_add] at hown'
    simpa using hown'
  have hb4 : Below W2.heap.size W2 w4 := hbA.grown hg hbA.size (fun q e => by simp [Value.ownBlock] at e; omega)
  have hk1 : w4.heap[w.heap.size]? = some (.cells #[.string ⟨s.toArray⟩, .int .i64 n, .slice ta t.length tc] 37) := (hb4.block _ (by omega)).trans hA1'
  have hk2 : w4.heap[w.heap.size + 1]? = some (.cells #[.string ⟨#[]⟩, .int .i64 0, .slice none 0 0] 37) := (hb4.block _ (by omega)).trans hA2
  obtain ⟨_, a', c', rfl, _⟩ := own_nodes hown4
  have c2 : W2.cell? ⟨w.heap.size, 2, none⟩ = some (.slice ta t.length tc) := by simp [World.cell?, hA1']
  have c2a : (W2.alloc (.cells #[] 76)).cell? ⟨w.heap.size, 2, none⟩ = some (.slice ta t.length tc) := (hbA.cell (p := ⟨w.heap.size, 2, none⟩) (by show w.heap.size < _; omega)).trans c2
  have k0 : w4.cell? ⟨w.heap.size, 0, none⟩ = some (.string ⟨s.toArray⟩) := by simp [World.cell?, hk1]
  have k1 : w4.cell? ⟨w.heap.size, 1, none⟩ = some (.int .i64 n) := by simp [World.cell?, hk1]
  have k2 : w4.cell? ⟨w.heap.size, 2, none⟩ = some (.slice ta t.length tc) := by simp [World.cell?, hk1]
  have f2 : w4.frozen? ⟨w.heap.size, 2, none⟩ = false := by simp [World.frozen?, hk1]
  have r0 : w4.cell? ⟨w.heap.size + 1, 0, none⟩ = some (.string ⟨#[]⟩) := by simp [World.cell?, hk2]
  have r1 : w4.cell? ⟨w.heap.size + 1, 1, none⟩ = some (.int .i64 0) := by simp [World.cell?, hk2]
  have r2 : w4.cell? ⟨w.heap.size + 1, 2, none⟩ = some (.slice none 0 0) := by simp [World.cell?, hk2]
  have g : ∀ j, w4.frozen? ⟨w.heap.size + 1, j, none⟩ = false := fun j => by simp [World.frozen?, hk2]
  obtain ⟨V, hV⟩ : ∃ V, w4.setCell ⟨w.heap.size, 2, none⟩ (.slice a' t.length c') = V := ⟨_, rfl⟩
  have k0V : V.cell? ⟨w.heap.size, 0, none⟩ = some (.string ⟨s.toArray⟩) := by rw [← hV]; exact (World.cell?_setCell_other _ _ _ _ (by simp)).trans k0
  have k1V : V.cell? ⟨w.heap.size, 1, none⟩ = some (.int .i64 n) := by rw [← hV]; exact (World.cell?_setCell_other _ _ _ _ (by simp)).trans k1
  have k2V : V.cell? ⟨w.heap.size, 2, none⟩ = some (.slice a' t.length c') := by rw [← hV]; exact World.cell?_setCell_same _ _ _ k2
  have r0V : V.cell? ⟨w.heap.size + 1, 0, none⟩ = some (.string ⟨#[]⟩) := by rw [← hV]; exact (World.cell?_setCell_other _ _ _ _ (by simp)).trans r0
  have r1V : V.cell? ⟨w.heap.size + 1, 1, none⟩ = some (.int .i64 0) := by rw [← hV]; exact (World.cell?_setCell_other _ _ _ _ (by simp)).trans r1
  have r2V : V.cell? ⟨w.heap.size + 1, 2, none⟩ = some (.slice none 0 0) := by rw [← hV]; exact (World.cell?_setCell_other _ _ _ _ (by simp)).trans r2
  have gV : ∀ j, V.frozen? ⟨w.heap.size + 1, j, none⟩ = false := fun j => by rw [← hV]; simpa using g j
  have gV0 := gV 0
  have gV1 := gV 1
  have gV2 := gV 2
  have hgV : w4.grownBy V (some w.heap.size) := by rw [← hV]; exact grown_setCell _ _ _ _
  have hownV : V.ownsRow W2.heap.size 76 4 (.slice a' t.length c') t.length (nodesV t) := hown4.kept hgV (by
    rcases hv : (Value.slice a' t.length c').ownBlock with _ | q
    · exact Or.inl rfl
    · refine Or.inr (fun e => ?_)
      have := (hown4.lt q hv).1
      injection e with e
      omega)
  have hbV : Below w.heap.size w V := (hb2.trans (hb4.mono hb2.size)).grown hgV (by have := hb4.size; omega) (by simp)
  have HOV : Hid (V.ownsRow W2.heap.size 76 4 (.slice a' t.length c') t.length (nodesV t)) := hownV
  have HB : Hid (Below w.heap.size w V) := hbV
  clear hown' hown4 hg hown0 hbA hin hA1 hA1' hA2 hk1 hk2 hb1 hb2 hb4 k0 k1 r0 r1 r2 g gV hgV hownV hbV
  go_enter Tryz.func47, Tryz.ntmps47
  rw [hs2] at hrun
  go_wp2_with (at_builtin; refine wpList_append_run rfl (.tmp 3) (.tmp 5) 35 rfl _ _ _ rfl rfl hrun ?_; clear hrun)
  obtain ⟨Y, hY⟩ : ∃ Y, ((V.setCell ⟨w.heap.size + 1, 0, none⟩ (.string ⟨s.toArray⟩)).setCell ⟨w.heap.size + 1, 1, none⟩ (.int .i64 n)).setCell ⟨w.heap.size + 1, 2, none⟩ (.slice a' t.length c') = Y := ⟨_, rfl⟩
  have hgY : V.grownBy Y (some (w.heap.size + 1)) := by rw [← hY]; exact ((grown_setCell _ _ _ _).trans (grown_setCell _ _ _ _)).trans (grown_setCell _ _ _ _)
  have y0 : Y.cell? ⟨w.heap.size + 1, 0, none⟩ = some (.string ⟨s.toArray⟩) := by rw [← hY]; exact (World.cell?_setCell_other _ _ _ _ (by simp)).trans ((World.cell?_setCell_other _ _ _ _ (by simp)).trans (World.cell?_setCell_same _ _ _ r0V))
  have y1 : Y.cell? ⟨w.heap.size + 1, 1, none⟩ = some (.int .i64 n) := by rw [← hY]; exact (World.cell?_setCell_other _ _ _ _ (by simp)).trans (World.cell?_setCell_same _ _ _ ((World.cell?_setCell_other _ _ _ _ (by simp)).trans r1V))
  have y2 : Y.cell? ⟨w.heap.size + 1, 2, none⟩ = some (.slice a' t.length c') := by rw [← hY]; exact World.cell?_setCell_same _ _ _ ((World.cell?_setCell_other _ _ _ _ (by simp)).trans ((World.cell?_setCell_other _ _ _ _ (by simp)).trans r2V))
  have hownY : Y.ownsRow W2.heap.size 76 4 (.slice a' t.length c') t.length (nodesV t) := HOV.out.kept hgY (by
    rcases hv : (Value.slice a' t.length c').ownBlock with _ | q
    · exact Or.inl rfl
    · refine Or.inr (fun e => ?_)
      have := (HOV.out.lt q hv).1
      injection e with e
      omega)
  rw [hY]
  refine bodyPost_ret (v := .agg #[.string ⟨s.toArray⟩, .int .i64 n, .slice a' t.length c']) (by simp [results, Tryz.results47, go_sem, y0, y1, y2]) rfl ?_
  exact ⟨_, rfl, own_base hownY (by omega), HB.out.grown hgY HB.out.size (by simp)⟩

end Go.Proofs.YtibppdepgoiojaaGreatDoor

/-! The contract of chapter 7's specification: FuncOf. -/
namespace Go.Proofs.YtibppdepgoiojaaGreatDoor
open Go.RowKit

def foundB (p : Pk) (s : List UInt8) : Bool := pkgB p && decide (0 ≤ atV p.2.2 s)
def foundV (p : Pk) (s : List UInt8) : Fn := if foundB p s = true then p.2.2.getD (atV p.2.2 s).toNat fn0 else fn0

theorem found_short {nm : List UInt8} {ims : List (List UInt8)} {fs : List Fn} {q : List UInt8} (h : ShortF fs) : (foundV (nm, ims, fs) q).2.2.length ≤ 1048576 := by
  unfold foundV
  split
  · exact (h _).2.1
  · simp [fn0]

theorem found_no1 {p : Pk} (s : List UInt8) (h : pkgB p = false) : foundB p s = false ∧ foundV p s = fn0 := by
  have : foundB p s = false := by unfold foundB; rw [h]; rfl
  exact ⟨this, by unfold foundV; rw [if_neg (by rw [this]; simp)]⟩

theorem found_no2 {p : Pk} {s : List UInt8} (h : atV p.2.2 s < 0) : foundB p s = false ∧ foundV p s = fn0 := by
  have : foundB p s = false := by unfold foundB; rw [decide_eq_false (by omega), Bool.and_false]
  exact ⟨this, by unfold foundV; rw [if_neg (by rw [this]; simp)]⟩

theorem found_yes {p : Pk} {s : List UInt8} (h : pkgB p = true) (h0 : 0 ≤ atV p.2.2 s) : foundB p s = true ∧ foundV p s = p.2.2.getD (atV p.2.2 s).toNat fn0 := by
  have : foundB p s = true := by unfold foundB; rw [h, decide_eq_true h0]; rfl
  exact ⟨this, by unfold foundV; rw [if_pos this]⟩

theorem atGo_lt (s : List UInt8) : ∀ (fs : List Fn) (k : Nat), atGo s fs k < (k : Int) + fs.length ∧ (0 ≤ atGo s fs k → (k : Int) ≤ atGo s fs k ∧ (fs.getD (atGo s fs k - k).toNat fn0).1 = s)
  | [], k => by simp [atGo]; omega
  | f :: r, k => by
    rw [atGo]
    split
    · rename_i h
      refine ⟨by simp; omega, fun _ => ⟨by omega, ?_⟩⟩
      simpa using h
    · obtain ⟨h1, h2⟩ := atGo_lt s r (k + 1)
      refine ⟨by simp at h1 ⊢; omega, fun h0 => ?_⟩
      obtain ⟨h3, h4⟩ := h2 h0
      refine ⟨by omega, ?_⟩
      have e : (atGo s r (k + 1) - (k : Int)).toNat = (atGo s r (k + 1) - ((k + 1 : Nat) : Int)).toNat + 1 := by omega
      rw [e, List.getD_cons_succ]
      exact h4

theorem atV_lt {fs : List Fn} {s : List UInt8} (h : 0 ≤ atV fs s) : (atV fs s).toNat < fs.length ∧ (fs.getD (atV fs s).toNat fn0).1 = s := by
  obtain ⟨h1, h2⟩ := atGo_lt s fs 0
  have h3 := (h2 h).2
  unfold atV at h ⊢
  exact ⟨by omega, by simpa using h3⟩

/-- What FuncOf holds while it finds one. -/
structure FoSt (X w : World) (D : Nat) (nm : List UInt8) (ia : Option Addr) (il ic : Nat) (b off fl fc : Nat) (ims : List (List UInt8)) (fs : List Fn) (j : Nat) (s : List UInt8) (n : Int) (t : List Nd) (ta : Option Addr) (tl tc : Nat) : Prop where
  p : PkIn X D nm ia il ic (some ⟨b, off, none⟩) fl fc ims fs
  c0 : X.cell? ⟨b, off + j * 3, none⟩ = some (.string ⟨s.toArray⟩)
  c1 : X.cell? ⟨b, off + j * 3 + 1, none⟩ = some (.int .i64 n)
  c2 : X.cell? ⟨b, off + j * 3 + 2, none⟩ = some (.slice ta tl tc)
  nodes : NodesIn X ta tl t
  r0 : X.cell? ⟨D + 1, 0, none⟩ = some (.string ⟨#[]⟩)
  r1 : X.cell? ⟨D + 1, 1, none⟩ = some (.int .i64 0)
  r2 : X.cell? ⟨D + 1, 2, none⟩ = some (.slice none 0 0)
  fr : ∀ j, X.frozen? ⟨D + 1, j, none⟩ = false
  b : Below D w X
  bs : D ≤ X.heap.size

theorem FoSt.below {X Y w : World} {D : Nat} {nm : List UInt8} {ia : Option Addr} {il ic : Nat} {b off fl fc : Nat} {ims : List (List UInt8)} {fs : List Fn} {j : Nat} {s : List UInt8} {n : Int} {t : List Nd} {ta : Option Addr} {tl tc : Nat}
    (h : FoSt X w D nm ia il ic b off fl fc ims fs j s n t ta tl tc) (hb : Below X.heap.size X Y) : FoSt Y w D nm ia il ic b off fl fc ims fs j s n t ta tl tc :=
  have hl : b < X.heap.size := World.block_lt_of_cell? X ⟨b, off + j * 3, none⟩ h.c0
  have hr : D + 1 < X.heap.size := World.block_lt_of_cell? X ⟨D + 1, 0, none⟩ h.r0
  ⟨h.p.below hb, (hb.cell (p := ⟨b, off + j * 3, none⟩) hl).trans h.c0, (hb.cell (p := ⟨b, off + j * 3 + 1, none⟩) hl).trans h.c1, (hb.cell (p := ⟨b, off + j * 3 + 2, none⟩) hl).trans h.c2, h.nodes.below hb,
    (hb.cell (p := ⟨D + 1, 0, none⟩) hr).trans h.r0, (hb.cell (p := ⟨D + 1, 1, none⟩) hr).trans h.r1, (hb.cell (p := ⟨D + 1, 2, none⟩) hr).trans h.r2, fun i => (hb.frozen (p := ⟨D + 1, i, none⟩) hr).trans (h.fr i), h.b.trans (hb.mono h.bs), Nat.le_trans h.bs hb.size⟩

theorem FoSt.drew {X w : World} {D : Nat} {nm : List UInt8} {ia : Option Addr} {il ic : Nat} {b off fl fc : Nat} {ims : List (List UInt8)} {fs : List Fn} {j : Nat} {s : List UInt8} {n : Int} {t : List Nd} {ta : Option Addr} {tl tc : Nat}
    (h : FoSt X w D nm ia il ic b off fl fc ims fs j s n t ta tl tc) : FoSt X.drew w D nm ia il ic b off fl fc ims fs j s n t ta tl tc := h.below ⟨rfl, rfl, rfl, Nat.le_refl _, fun _ _ => rfl⟩

/-- Three cells of a block are written. -/
theorem set3 {X : World} {R : Nat} {a0 a1 a2 : Value} (u0 u1 u2 : Value) (r0 : X.cell? ⟨R, 0, none⟩ = some a0) (r1 : X.cell? ⟨R, 1, none⟩ = some a1) (r2 : X.cell? ⟨R, 2, none⟩ = some a2) :
    ∃ Y, ((X.setCell ⟨R, 0, none⟩ u0).setCell ⟨R, 1, none⟩ u1).setCell ⟨R, 2, none⟩ u2 = Y ∧ Y.cell? ⟨R, 0, none⟩ = some u0 ∧ Y.cell? ⟨R, 1, none⟩ = some u1 ∧ Y.cell? ⟨R, 2, none⟩ = some u2 ∧ X.grownBy Y (some R) := by
  refine ⟨_, rfl, ?_, ?_, ?_, ?_⟩
  · exact (World.cell?_setCell_other _ _ _ _ (by simp)).trans ((World.cell?_setCell_other _ _ _ _ (by simp)).trans (World.cell?_setCell_same _ _ _ r0))
  · exact (World.cell?_setCell_other _ _ _ _ (by simp)).trans (World.cell?_setCell_same _ _ _ ((World.cell?_setCell_other _ _ _ _ (by simp)).trans r1))
  · exact World.cell?_setCell_same _ _ _ ((World.cell?_setCell_other _ _ _ _ (by simp)).trans ((World.cell?_setCell_other _ _ _ _ (by simp)).trans r2))
  · exact ((grown_setCell _ _ _ _).trans (grown_setCell _ _ _ _)).trans (grown_setCell _ _ _ _)

/-- The cells of a block of three that lies as it was made. -/
theorem three {X W : World} {R : Nat} {u0 u1 u2 : Value} {T : TypeId} (hX : Below W.heap.size W X) (hlt : R < W.heap.size) (hR : W.heap[R]? = some (.cells #[u0, u1, u2] T)) :
    X.cell? ⟨R, 0, none⟩ = some u0 ∧ X.cell? ⟨R, 1, none⟩ = some u1 ∧ X.cell? ⟨R, 2, none⟩ = some u2 ∧ ∀ j, X.frozen? ⟨R, j, none⟩ = false := by
  have e := (hX.block R hlt).trans hR
  clear hX hR
  exact ⟨by simp [World.cell?, e], by simp [World.cell?, e], by simp [World.cell?, e], fun j => by simp [World.frozen?, e]⟩

/-- A row that is owned above a block does not lie in it. -/
theorem own_off {w : World} {base e size n R : Nat} {v : Value} {xs : List Value} (h : w.ownsRow base e size v n xs) (hR : R < base) : v.ownBlock = none ∨ v.ownBlock ≠ some R := by
  rcases hv : v.ownBlock with _ | k
  · exact Or.inl rfl
  · refine Or.inr (fun e => ?_)
    have := (h.lt k hv).1
    injection e with e
    omega

theorem foZero {w Y : World} {p : Pk} {q : List UInt8} (hz : foundB p q = false ∧ foundV p q = fn0) (hb : Below w.heap.size w Y) :
    ∃ v, Ending.returned (.tuple #[.agg #[.string ⟨#[]⟩, .int .i64 0, .slice none 0 0], .bool false]) = .returned (.tuple #[.agg #[.string ⟨(foundV p q).1.toArray⟩, .int .i64 (foundV p q).2.1, v], .bool (foundB p q)]) ∧ Y.ownsRow w.heap.size 76 4 v (foundV p q).2.2.length (nodesV (foundV p q).2.2) ∧ Below w.heap.size w Y :=
  ⟨.slice none 0 0, by rw [hz.1, hz.2]; rfl, by rw [hz.2]; exact World.ownsRow_nil Y _ _ _, hb⟩

set_option maxHeartbeats 4000000 in
set_option maxRecDepth 100000 in
theorem specFuncOf (nm : List UInt8) (ia : Option Addr) (il ic : Nat) (fa : Option Addr) (fl fc : Nat) (ims : List (List UInt8)) (fs : List Fn) (q : List UInt8) (w : World) (hi : TextsIn w ia il ims) (hf : FuncsIn w fa fl fs) (hil : il ≤ 1048576) (hfl : fl ≤ 1048576) (hnl : nm.length ≤ 1048576) (his : ∀ i, (ims.getD i []).length ≤ 1048576) (hfs : ShortF fs) :
    Calls Tryz.prog 16 #[.agg #[.string ⟨nm.toArray⟩, .slice ia il ic, .slice fa fl fc], .string ⟨q.toArray⟩] w fun e w' => ∃ v, e = .returned (.tuple #[.agg #[.string ⟨(foundV (nm, ims, fs) q).1.toArray⟩, .int .i64 (foundV (nm, ims, fs) q).2.1, v], .bool (foundB (nm, ims, fs) q)]) ∧ w'.ownsRow w.heap.size 76 4 v (foundV (nm, ims, fs) q).2.2.length (nodesV (foundV (nm, ims, fs) q).2.2) ∧ Below w.heap.size w w' := by
  obtain ⟨st1, hB1⟩ := PkIn.new (w := w) (nm := nm) (ic := ic) (fc := fc) hi hf
  obtain ⟨W1, hW1⟩ : ∃ W, w.alloc (.cells #[.string ⟨nm.toArray⟩, .slice ia il ic, .slice fa fl fc] 27) = W := ⟨_, rfl⟩
  obtain ⟨W, hW⟩ : ∃ W, W1.alloc (.cells #[.string ⟨#[]⟩, .int .i64 0, .slice none 0 0] 37) = W := ⟨_, rfl⟩
  rw [hW1] at st1 hB1
  have hs1 : W1.heap.size = w.heap.size + 1 := by rw [← hW1]; simp
  have hs2 : W.heap.size = w.heap.size + 2 := by rw [← hW]; simp [hs1]
  have hbW : Below W1.heap.size W1 W := by rw [← hW]; exact (Below.refl _ _).alloc (Nat.le_refl _) _
  have hB : Below w.heap.size w W := hB1.trans (hbW.mono hB1.size)
  have st := st1.below hbW
  have hR : W.heap[w.heap.size + 1]? = some (.cells #[.string ⟨#[]⟩, .int .i64 0, .slice none 0 0] 37) := by rw [← hs1, ← hW]; exact heap_alloc_new W1 _
  have hfw := hf
  have HC := specPackageOk nm ia il ic fa fl fc ims fs W st.i st.f hil hfl hnl his hfs
  obtain ⟨D, hD⟩ : ∃ D, w.heap.size = D := ⟨_, rfl⟩
  rw [hD] at st hB hs1 hs2 hR
  have k0 := st.k0
  have k1 := st.k1
  have k2 := st.k2
  clear hi hf st1 hB1 hbW
  rcases hp : pkgB (nm, ims, fs) with _ | _
  · have HP : Hid (pkgB (nm, ims, fs) = false) := hp
    have HZ : Hid (foundB (nm, ims, fs) q = false ∧ foundV (nm, ims, fs) q = fn0) := found_no1 q hp
    clear hp
    go_enter Tryz.func16, Tryz.ntmps16
    go_wp2_with fail
    refine HC.mono ?_
    rintro e w1 ⟨rfl, hb1⟩
    rw [HP.out]
    obtain ⟨r0, r1, r2, fr⟩ := three hb1 (by omega) hR
    have f0 := fr 0
    have f1 := fr 1
    have f2 := fr 2
    have HBd : Hid (Below D w w1) := hB.trans (hb1.mono (by omega))
    have hsd : D ≤ w1.heap.size := by have := hb1.size; omega
    clear hb1
    clear HC k0 k1 k2 st fr
    go_wp2
    obtain ⟨Y, hY, y0, y1, y2, hg⟩ := set3 (.string ⟨#[]⟩) (.int .i64 0) (.slice none 0 0) r0 r1 r2
    rw [hY]
    refine bodyPost_ret (v := .tuple #[.agg #[.string ⟨#[]⟩, .int .i64 0, .slice none 0 0], .bool false]) (by simp [results, Tryz.results16, go_sem, y0, y1, y2]) rfl ?_
    exact foZero HZ.out (by rw [hD]; exact (HBd.out).grown hg (by omega) (fun k e => by injection e with e; omega))

  · have HP : Hid (pkgB (nm, ims, fs) = true) := hp
    by_cases h0 : atV fs q < 0
    · have HZ : Hid (foundB (nm, ims, fs) q = false ∧ foundV (nm, ims, fs) q = fn0) := found_no2 h0
      clear hp
      go_enter Tryz.func16, Tryz.ntmps16
      go_wp2_with fail
      refine HC.mono ?_
      rintro e w0 ⟨rfl, hb0⟩
      rw [HP.out]
      have st0 := st.below hb0
      have HC2 := specAt nm q ia il ic fa fl fc fs w0 st0.f hfl
      replace k0 := st0.k0
      replace k1 := st0.k1
      replace k2 := st0.k2
      go_wp2_with fail
      refine HC2.mono ?_
      rintro e w1 ⟨rfl, hb1'⟩
      have hb1 : Below W.heap.size W w1 := hb0.trans (hb1'.mono hb0.size)
      obtain ⟨r0, r1, r2, fr⟩ := three hb1 (by omega) hR
      have f0 := fr 0
      have f1 := fr 1
      have f2 := fr 2
      have HBd : Hid (Below D w w1) := hB.trans (hb1.mono (by omega))
      have hsd : D ≤ w1.heap.size := by have := hb1.size; omega
      generalize atV fs q = z at h0 ⊢
      clear hb1 hb0 hb1' st0
      clear HC HC2 k0 k1 k2 st fr
      go_wp2
      obtain ⟨Y, hY, y0, y1, y2, hg⟩ := set3 (.string ⟨#[]⟩) (.int .i64 0) (.slice none 0 0) r0 r1 r2
      rw [hY]
      refine bodyPost_ret (v := .tuple #[.agg #[.string ⟨#[]⟩, .int .i64 0, .slice none 0 0], .bool false]) (by simp [results, Tryz.results16, go_sem, y0, y1, y2]) rfl ?_
      exact foZero HZ.out (by rw [hD]; exact (HBd.out).grown hg (by omega) (fun k e => by injection e with e; omega))

    · have hz := found_yes (p := (nm, ims, fs)) (s := q) hp (Int.not_lt.1 h0)
      obtain ⟨hj, hjn⟩ := atV_lt (fs := fs) (s := q) (by omega)
      simp only at hz
      obtain ⟨j, hjz⟩ : ∃ j : Nat, (atV fs q).toNat = j := ⟨_, rfl⟩
      have hav : atV fs q = (j : Int) := by omega
      rw [hjz] at hz hj hjn
      have hjl : j < fl := by rw [← st.f.1]; exact hj
      obtain ⟨b, off, rfl, hbl, c0, c1, ta, tl, tc, c2, hnc, hin⟩ := st.f.2 j hjl
      have hbw : b < D := by
        obtain ⟨b', off', e, hbl', _⟩ := hfw.2 j hjl
        injection e with e
        injection e with e
        omega
      have hsh := hfs j
      obtain ⟨f, hfe⟩ : ∃ f, fs.getD j fn0 = f := ⟨_, rfl⟩
      rw [hfe] at c0 c1 hin hz hsh
      obtain ⟨s, n, t⟩ := f
      simp only at c0 c1 hin hsh
      have htl : tl ≤ 1048576 := by rw [← hin.1]; exact hsh.2.1
      have HZ : Hid (foundB (nm, ims, fs) q = true ∧ foundV (nm, ims, fs) q = (s, n, t)) := hz
      obtain ⟨r0, r1, r2, fr⟩ := three (Below.refl _ W) (by omega) hR
      have sv : FoSt W w D nm ia il ic b off fl fc ims fs j s n t ta tl tc := ⟨st, c0, c1, c2, hin, r0, r1, r2, fr, hB, by omega⟩
      have HAV : Hid (atV fs q = (j : Int)) := hav
      have hjl1 : (j : Int) < (fl : Int) := by omega
      have hj0 : ¬ (j : Int) < 0 := by omega
      have hbn1 : ¬ b = D + 1 := by omega
      have hbn2 : ¬ D + 1 = b := by omega
      have HHS : Hid (W.heap.size = D + 2) := hs2
      clear hp h0 hz hjn hj hjz hav hfe hsh st hB hR hin fr r0 r1 r2 hbl hfw
      go_enter Tryz.func16, Tryz.ntmps16
      go_wp2_with fail
      refine HC.mono ?_
      rintro e w0 ⟨rfl, hbn⟩
      rw [HP.out]
      clear HC
      have r0 := sv.r0
      have r1 := sv.r1
      have r2 := sv.r2
      have f0 := sv.fr 0
      have f1 := sv.fr 1
      have f2 := sv.fr 2
      replace sv := sv.below hbn
      clear hbn
      replace k0 := sv.p.k0
      replace k1 := sv.p.k1
      replace k2 := sv.p.k2
      replace c0 := sv.c0
      replace c1 := sv.c1
      replace c2 := sv.c2
      replace r0 := sv.r0
      replace r1 := sv.r1
      replace r2 := sv.r2
      replace f0 := sv.fr 0
      replace f1 := sv.fr 1
      replace f2 := sv.fr 2
      go_wp2_with fail
      refine (specAt nm q ia il ic (some ⟨b, off, none⟩) fl fc fs _ sv.p.f hfl).mono ?_
      rintro e w1 ⟨rfl, hbn⟩
      rw [HAV.out]
      replace sv := sv.below hbn
      clear hbn
      replace k0 := sv.p.k0
      replace k1 := sv.p.k1
      replace k2 := sv.p.k2
      replace c0 := sv.c0
      replace c1 := sv.c1
      replace c2 := sv.c2
      replace r0 := sv.r0
      replace r1 := sv.r1
      replace r2 := sv.r2
      replace f0 := sv.fr 0
      replace f1 := sv.fr 1
      replace f2 := sv.fr 2
      go_wp2_with fail
      replace sv := sv.drew
      (go_region_held3 (fun w' => w'.cell? ⟨D, 0, none⟩ = some (.string ⟨nm.toArray⟩) ∧ w'.cell? ⟨D, 1, none⟩ = some (.slice ia il ic) ∧ w'.cell? ⟨D, 2, none⟩ = some (.slice (some ⟨b, off, none⟩) fl fc) ∧ w'.cell? ⟨b, off + j * 3, none⟩ = some (.string ⟨s.toArray⟩) ∧ w'.cell? ⟨b, off + j * 3 + 1, none⟩ = some (.int .i64 n) ∧ w'.cell? ⟨b, off + j * 3 + 2, none⟩ = some (.slice ta tl tc)) (go_keep) (first | (go_at_call 46; refine (specAt nm q ia il ic (some ⟨b, off, none⟩) fl fc fs _ sv.p.f hfl).mono ?_; rintro e wn ⟨rfl, hbn⟩; rw [HAV.out]; replace sv := sv.below hbn; clear hbn; replace k0 := sv.p.k0; replace k1 := sv.p.k1; replace k2 := sv.p.k2; replace c0 := sv.c0; replace c1 := sv.c1; replace c2 := sv.c2; replace r0 := sv.r0; replace r1 := sv.r1; replace r2 := sv.r2; replace f0 := sv.fr 0; replace f1 := sv.fr 1; replace f2 := sv.fr 2) | (go_at_call 47; refine (specCopyFunc (s, n, t) ta tl tc _ sv.nodes hnc htl).mono ?_; rintro e wn ⟨v, rfl, hown, hbn⟩; (try dsimp only at hown); obtain ⟨_, av, cv, rfl, _⟩ := own_nodes hown; have hbase := World.block_lt_of_cell? _ ⟨D + 1, 0, none⟩ sv.r0; replace sv := sv.below hbn; clear hbn; replace k0 := sv.p.k0; replace k1 := sv.p.k1; replace k2 := sv.p.k2; replace c0 := sv.c0; replace c1 := sv.c1; replace c2 := sv.c2; replace r0 := sv.r0; replace r1 := sv.r1; replace r2 := sv.r2; replace f0 := sv.fr 0; replace f1 := sv.fr 1; replace f2 := sv.fr 2)))
      all_goals
        have HOwn : Hid (wn.ownsRow (D + 2) 76 4 (.slice av t.length cv) t.length (nodesV t)) := own_base hown (by (try dsimp only at hbase); omega)
        have HBd : Hid (Below D w wn) := sv.b
        have hsd : D ≤ wn.heap.size := sv.bs
        clear hown hbase
        go_wp2
        obtain ⟨Y, hY, y0, y1, y2, hg⟩ := set3 (.string ⟨s.toArray⟩) (.int .i64 n) (.slice av t.length cv) r0 r1 r2
        rw [hY]
        refine bodyPost_ret (v := .tuple #[.agg #[.string ⟨s.toArray⟩, .int .i64 n, .slice av t.length cv], .bool true]) (by simp [results, Tryz.results16, go_sem, y0, y1, y2]) rfl ?_
        exact ⟨_, by rw [HZ.out.1, HZ.out.2], by rw [HZ.out.2, hD]; exact own_base (HOwn.out.kept hg (own_off HOwn.out (by omega))) (by omega), by rw [hD]; exact (HBd.out).grown hg (by omega) (fun k e => by injection e with e; omega)⟩

end Go.Proofs.YtibppdepgoiojaaGreatDoor
