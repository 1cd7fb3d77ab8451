/-
  Parts of one proof, one behind the other: PackC2, PackS5, PackO, PackW, Marks, Marks2, Marks3, TextsL, FnL.
-/
import Derived.Test.YtkjojhkpoooimaaGreatP5
import Derived.Test.YtkjojhkpoooimaaGreatP2
import Derived.Test.YtkjojhkpoooimaaGreatP1
import Derived.Deep.RegionWith
import Derived.SliceStrings
import Derived.ProofKit
import Derived.OpenShut
import Derived.ShutString
import Derived.ChangeOld
import Derived.Below

/-! A function is copied: l7CopyFunc. -/
namespace Go.Proofs.YtkjojhkpoooimaaGreat
open Go.RowKit

set_option maxHeartbeats 2000000 in
set_option maxRecDepth 100000 in
theorem specCopyFunc (f : Fn) (ta : Option Addr) (tl tc : Nat) (w : World) (hin : NodesIn w ta tl f.2.2) (hc : ta = none → tc = 0) (hlen : tl ≤ 1048576) :
    Calls Tryz.prog 88 #[.agg #[.string ⟨f.1.toArray⟩, .int .i64 f.2.1, .slice ta tl tc]] w fun e w' => ∃ v, e = .returned (.agg #[.string ⟨f.1.toArray⟩, .int .i64 f.2.1, v]) ∧ w'.ownsRow w.heap.size 46 4 v f.2.2.length (nodesV f.2.2) ∧ Below w.heap.size w w' := by
  obtain ⟨s, n, t⟩ := f
  simp only at hin ⊢
  obtain rfl : t.length = tl := hin.1
  obtain ⟨i0, hi, hz0, hz1, hz2⟩ := info_parts infoNode
  obtain ⟨W1, hW1⟩ : ∃ W, w.alloc (.cells #[.string ⟨s.toArray⟩, .int .i64 n, .slice ta t.length tc] 52) = W := ⟨_, rfl⟩
  obtain ⟨W2, hW2⟩ : ∃ W, W1.alloc (.cells #[.string ⟨#[]⟩, .int .i64 0, .slice none 0 0] 52) = W := ⟨_, rfl⟩
  have hs1 : W1.heap.size = w.heap.size + 1 := by rw [← hW1]; simp
  have hs2 : W2.heap.size = w.heap.size + 2 := by rw [← hW2]; simp [hs1]
  have hb1 : Below w.heap.size w W1 := by rw [← hW1]; exact (Below.refl _ _).alloc (Nat.le_refl _) _
  have hb2 : Below w.heap.size w W2 := by rw [← hW2]; exact hb1.alloc hb1.size _
  have hA1 : W1.heap[w.heap.size]? = some (.cells #[.string ⟨s.toArray⟩, .int .i64 n, .slice ta t.length tc] 52) := by rw [← hW1]; exact heap_alloc_new w _
  have hA1' : W2.heap[w.heap.size]? = some (.cells #[.string ⟨s.toArray⟩, .int .i64 n, .slice ta t.length tc] 52) := by rw [← hW2, Below.heap_alloc _ _ _ (by omega)]; exact hA1
  have hA2 : W2.heap[w.heap.size + 1]? = some (.cells #[.string ⟨#[]⟩, .int .i64 0, .slice none 0 0] 52) := by rw [← hs1, ← hW2]; exact heap_alloc_new W1 _
  have hbA : Below W2.heap.size W2 (W2.alloc (.cells #[] 46)) := (Below.refl _ _).alloc (Nat.le_refl _) _
  have hown0 := (World.ownsRow_lit (base := W2.heap.size) (e := 46) (size := 4) W2 #[] 0 (Nat.le_refl _) (by decide) rfl)
  obtain ⟨v', w4, hrun, hown', hg, _⟩ := run_append_src (P := Tryz.prog) (W2.alloc (.cells #[] 46)) W2.heap.size 24 24 46 i0 _ 4 48 Tryz.underlying24 hi hz0 hz1 hz2 rfl (by decide) _ _ _ hown0 (.slice ta t.length tc) t.length (nodesV t) (((hin.below hb2).below hbA).src hc) (by unfold maxLen; omega) (by omega) (by simp)
  have hown4 : w4.ownsRow W2.heap.size 46 4 v' t.length (nodesV t) := by
    simp only [Nat.zero_add] at hown'
    simpa using hown'
  have hb4 : Below W2.heap.size W2 w4 := hbA.grown hg hbA.size (fun q e => by simp [Value.ownBlock] at e; omega)
  have hk1 : w4.heap[w.heap.size]? = some (.cells #[.string ⟨s.toArray⟩, .int .i64 n, .slice ta t.length tc] 52) := (hb4.block _ (by omega)).trans hA1'
  have hk2 : w4.heap[w.heap.size + 1]? = some (.cells #[.string ⟨#[]⟩, .int .i64 0, .slice none 0 0] 52) := (hb4.block _ (by omega)).trans hA2
  obtain ⟨_, a', c', rfl, _⟩ := own_nodes hown4
  have c2 : W2.cell? ⟨w.heap.size, 2, none⟩ = some (.slice ta t.length tc) := by simp [World.cell?, hA1']
  have c2a : (W2.alloc (.cells #[] 46)).cell? ⟨w.heap.size, 2, none⟩ = some (.slice ta t.length tc) := (hbA.cell (p := ⟨w.heap.size, 2, none⟩) (by show w.heap.size < _; omega)).trans c2
  have k0 : w4.cell? ⟨w.heap.size, 0, none⟩ = some (.string ⟨s.toArray⟩) := by simp [World.cell?, hk1]
  have k1 : w4.cell? ⟨w.heap.size, 1, none⟩ = some (.int .i64 n) := by simp [World.cell?, hk1]
  have k2 : w4.cell? ⟨w.heap.size, 2, none⟩ = some (.slice ta t.length tc) := by simp [World.cell?, hk1]
  have f2 : w4.frozen? ⟨w.heap.size, 2, none⟩ = false := by simp [World.frozen?, hk1]
  have r0 : w4.cell? ⟨w.heap.size + 1, 0, none⟩ = some (.string ⟨#[]⟩) := by simp [World.cell?, hk2]
  have r1 : w4.cell? ⟨w.heap.size + 1, 1, none⟩ = some (.int .i64 0) := by simp [World.cell?, hk2]
  have r2 : w4.cell? ⟨w.heap.size + 1, 2, none⟩ = some (.slice none 0 0) := by simp [World.cell?, hk2]
  have g : ∀ j, w4.frozen? ⟨w.heap.size + 1, j, none⟩ = false := fun j => by simp [World.frozen?, hk2]
  obtain ⟨V, hV⟩ : ∃ V, w4.setCell ⟨w.heap.size, 2, none⟩ (.slice a' t.length c') = V := ⟨_, rfl⟩
  have k0V : V.cell? ⟨w.heap.size, 0, none⟩ = some (.string ⟨s.toArray⟩) := by rw [← hV]; exact (World.cell?_setCell_other _ _ _ _ (by simp)).trans k0
  have k1V : V.cell? ⟨w.heap.size, 1, none⟩ = some (.int .i64 n) := by rw [← hV]; exact (World.cell?_setCell_other _ _ _ _ (by simp)).trans k1
  have k2V : V.cell? ⟨w.heap.size, 2, none⟩ = some (.slice a' t.length c') := by rw [← hV]; exact World.cell?_setCell_same _ _ _ k2
  have r0V : V.cell? ⟨w.heap.size + 1, 0, none⟩ = some (.string ⟨#[]⟩) := by rw [← hV]; exact (World.cell?_setCell_other _ _ _ _ (by simp)).trans r0
  have r1V : V.cell? ⟨w.heap.size + 1, 1, none⟩ = some (.int .i64 0) := by rw [← hV]; exact (World.cell?_setCell_other _ _ _ _ (by simp)).trans r1
  have r2V : V.cell? ⟨w.heap.size + 1, 2, none⟩ = some (.slice none 0 0) := by rw [← hV]; exact (World.cell?_setCell_other _ _ _ _ (by simp)).trans r2
  have gV : ∀ j, V.frozen? ⟨w.heap.size + 1, j, none⟩ = false := fun j => by rw [← hV]; simpa using g j
  have gV0 := gV 0
  have gV1 := gV 1
  have gV2 := gV 2
  have hgV : w4.grownBy V (some w.heap.size) := by rw [← hV]; exact grown_setCell _ _ _ _
  have hownV : V.ownsRow W2.heap.size 46 4 (.slice a' t.length c') t.length (nodesV t) := hown4.kept hgV (by
    rcases hv : (Value.slice a' t.length c').ownBlock with _ | q
    · exact Or.inl rfl
    · refine Or.inr (fun e => ?_)
      have := (hown4.lt q hv).1
      injection e with e
      omega)
  have hbV : Below w.heap.size w V := (hb2.trans (hb4.mono hb2.size)).grown hgV (by have := hb4.size; omega) (by simp)
  have HOV : Hid (V.ownsRow W2.heap.size 46 4 (.slice a' t.length c') t.length (nodesV t)) := hownV
  have HB : Hid (Below w.heap.size w V) := hbV
  clear hown' hown4 hg hown0 hbA hin hA1 hA1' hA2 hk1 hk2 hb1 hb2 hb4 k0 k1 r0 r1 r2 g gV hgV hownV hbV
  go_enter Tryz.func88, Tryz.ntmps88
  rw [hs2] at hrun
  go_wp2_with (at_builtin; refine wpList_append_run rfl (.tmp 3) (.tmp 5) 24 rfl _ _ _ rfl rfl hrun ?_; clear hrun)
  obtain ⟨Y, hY⟩ : ∃ Y, ((V.setCell ⟨w.heap.size + 1, 0, none⟩ (.string ⟨s.toArray⟩)).setCell ⟨w.heap.size + 1, 1, none⟩ (.int .i64 n)).setCell ⟨w.heap.size + 1, 2, none⟩ (.slice a' t.length c') = Y := ⟨_, rfl⟩
  have hgY : V.grownBy Y (some (w.heap.size + 1)) := by rw [← hY]; exact ((grown_setCell _ _ _ _).trans (grown_setCell _ _ _ _)).trans (grown_setCell _ _ _ _)
  have y0 : Y.cell? ⟨w.heap.size + 1, 0, none⟩ = some (.string ⟨s.toArray⟩) := by rw [← hY]; exact (World.cell?_setCell_other _ _ _ _ (by simp)).trans ((World.cell?_setCell_other _ _ _ _ (by simp)).trans (World.cell?_setCell_same _ _ _ r0V))
  have y1 : Y.cell? ⟨w.heap.size + 1, 1, none⟩ = some (.int .i64 n) := by rw [← hY]; exact (World.cell?_setCell_other _ _ _ _ (by simp)).trans (World.cell?_setCell_same _ _ _ ((World.cell?_setCell_other _ _ _ _ (by simp)).trans r1V))
  have y2 : Y.cell? ⟨w.heap.size + 1, 2, none⟩ = some (.slice a' t.length c') := by rw [← hY]; exact World.cell?_setCell_same _ _ _ ((World.cell?_setCell_other _ _ _ _ (by simp)).trans ((World.cell?_setCell_other _ _ _ _ (by simp)).trans r2V))
  have hownY : Y.ownsRow W2.heap.size 46 4 (.slice a' t.length c') t.length (nodesV t) := HOV.out.kept hgY (by
    rcases hv : (Value.slice a' t.length c').ownBlock with _ | q
    · exact Or.inl rfl
    · refine Or.inr (fun e => ?_)
      have := (HOV.out.lt q hv).1
      injection e with e
      omega)
  rw [hY]
  refine bodyPost_ret (v := .agg #[.string ⟨s.toArray⟩, .int .i64 n, .slice a' t.length c']) (by simp [results, Tryz.results88, go_sem, y0, y1, y2]) rfl ?_
  exact ⟨_, rfl, own_base hownY (by omega), HB.out.grown hgY HB.out.size (by simp)⟩

end Go.Proofs.YtkjojhkpoooimaaGreat

/-! The contract of chapter 7's specification: FuncOf. -/
namespace Go.Proofs.YtkjojhkpoooimaaGreat
open Go.RowKit

def foundB (p : Pk) (s : List UInt8) : Bool := pkgB p && decide (0 ≤ atV p.2.2 s)
def foundV (p : Pk) (s : List UInt8) : Fn := if foundB p s = true then p.2.2.getD (atV p.2.2 s).toNat fn0 else fn0

/-- What FuncOf holds while it finds one. -/
structure FoSt (X w : World) (D : Nat) (nm : List UInt8) (ia : Option Addr) (il ic : Nat) (b off fl fc : Nat) (ims : List (List UInt8)) (fs : List Fn) (j : Nat) (s : List UInt8) (n : Int) (t : List Nd) (ta : Option Addr) (tl tc : Nat) : Prop where
  p : PkIn X D nm ia il ic (some ⟨b, off, none⟩) fl fc ims fs
  c0 : X.cell? ⟨b, off + j * 3, none⟩ = some (.string ⟨s.toArray⟩)
  c1 : X.cell? ⟨b, off + j * 3 + 1, none⟩ = some (.int .i64 n)
  c2 : X.cell? ⟨b, off + j * 3 + 2, none⟩ = some (.slice ta tl tc)
  nodes : NodesIn X ta tl t
  r0 : X.cell? ⟨D + 1, 0, none⟩ = some (.string ⟨#[]⟩)
  r1 : X.cell? ⟨D + 1, 1, none⟩ = some (.int .i64 0)
  r2 : X.cell? ⟨D + 1, 2, none⟩ = some (.slice none 0 0)
  fr : ∀ j, X.frozen? ⟨D + 1, j, none⟩ = false
  b : Below D w X
  bs : D ≤ X.heap.size

theorem FoSt.below {X Y w : World} {D : Nat} {nm : List UInt8} {ia : Option Addr} {il ic : Nat} {b off fl fc : Nat} {ims : List (List UInt8)} {fs : List Fn} {j : Nat} {s : List UInt8} {n : Int} {t : List Nd} {ta : Option Addr} {tl tc : Nat}
    (h : FoSt X w D nm ia il ic b off fl fc ims fs j s n t ta tl tc) (hb : Below X.heap.size X Y) : FoSt Y w D nm ia il ic b off fl fc ims fs j s n t ta tl tc :=
  have hl : b < X.heap.size := World.block_lt_of_cell? X ⟨b, off + j * 3, none⟩ h.c0
  have hr : D + 1 < X.heap.size := World.block_lt_of_cell? X ⟨D + 1, 0, none⟩ h.r0
  ⟨h.p.below hb, (hb.cell (p := ⟨b, off + j * 3, none⟩) hl).trans h.c0, (hb.cell (p := ⟨b, off + j * 3 + 1, none⟩) hl).trans h.c1, (hb.cell (p := ⟨b, off + j * 3 + 2, none⟩) hl).trans h.c2, h.nodes.below hb,
    (hb.cell (p := ⟨D + 1, 0, none⟩) hr).trans h.r0, (hb.cell (p := ⟨D + 1, 1, none⟩) hr).trans h.r1, (hb.cell (p := ⟨D + 1, 2, none⟩) hr).trans h.r2, fun i => (hb.frozen (p := ⟨D + 1, i, none⟩) hr).trans (h.fr i), h.b.trans (hb.mono h.bs), Nat.le_trans h.bs hb.size⟩

theorem FoSt.drew {X w : World} {D : Nat} {nm : List UInt8} {ia : Option Addr} {il ic : Nat} {b off fl fc : Nat} {ims : List (List UInt8)} {fs : List Fn} {j : Nat} {s : List UInt8} {n : Int} {t : List Nd} {ta : Option Addr} {tl tc : Nat}
    (h : FoSt X w D nm ia il ic b off fl fc ims fs j s n t ta tl tc) : FoSt X.drew w D nm ia il ic b off fl fc ims fs j s n t ta tl tc := h.below ⟨rfl, rfl, rfl, Nat.le_refl _, fun _ _ => rfl⟩

/-- Three cells of a block are written. -/
theorem set3 {X : World} {R : Nat} {a0 a1 a2 : Value} (u0 u1 u2 : Value) (r0 : X.cell? ⟨R, 0, none⟩ = some a0) (r1 : X.cell? ⟨R, 1, none⟩ = some a1) (r2 : X.cell? ⟨R, 2, none⟩ = some a2) :
    ∃ Y, ((X.setCell ⟨R, 0, none⟩ u0).setCell ⟨R, 1, none⟩ u1).setCell ⟨R, 2, none⟩ u2 = Y ∧ Y.cell? ⟨R, 0, none⟩ = some u0 ∧ Y.cell? ⟨R, 1, none⟩ = some u1 ∧ Y.cell? ⟨R, 2, none⟩ = some u2 ∧ X.grownBy Y (some R) := by
  refine ⟨_, rfl, ?_, ?_, ?_, ?_⟩
  · exact (World.cell?_setCell_other _ _ _ _ (by simp)).trans ((World.cell?_setCell_other _ _ _ _ (by simp)).trans (World.cell?_setCell_same _ _ _ r0))
  · exact (World.cell?_setCell_other _ _ _ _ (by simp)).trans (World.cell?_setCell_same _ _ _ ((World.cell?_setCell_other _ _ _ _ (by simp)).trans r1))
  · exact World.cell?_setCell_same _ _ _ ((World.cell?_setCell_other _ _ _ _ (by simp)).trans ((World.cell?_setCell_other _ _ _ _ (by simp)).trans r2))
  · exact ((grown_setCell _ _ _ _).trans (grown_setCell _ _ _ _)).trans (grown_setCell _ _ _ _)

/-- A row that is owned above a block does not lie in it. -/
theorem own_off {w : World} {base e size n R : Nat} {v : Value} {xs : List Value} (h : w.ownsRow base e size v n xs) (hR : R < base) : v.ownBlock = none ∨ v.ownBlock ≠ some R := by
  rcases hv : v.ownBlock with _ | k
  · exact Or.inl rfl
  · refine Or.inr (fun e => ?_)
    have := (h.lt k hv).1
    injection e with e
    omega

end Go.Proofs.YtkjojhkpoooimaaGreat

/-! A package that a call has made: its imports, its functions, their trees, each in a row of its own. -/
namespace Go.Proofs.YtkjojhkpoooimaaGreat
open Go.RowKit

/-- A function, and where its tree lies. -/
abbrev FV := Fn × Option Addr × Nat
def fvT (x : FV) : Value := .slice x.2.1 x.1.2.2.length x.2.2
def fnsV : List FV → List Value
  | [] => []
  | x :: r => .string ⟨x.1.1.toArray⟩ :: .int .i64 x.1.2.1 :: fvT x :: fnsV r

def fv0 : FV := (fn0, none, 0)

theorem fnsV_len (xs : List FV) : (fnsV xs).length = xs.length * 3 := by
  induction xs with
  | nil => rfl
  | cons n r ih => simp only [fnsV, List.length_cons, ih]; omega

theorem fnsV_append (x y : List FV) : fnsV (x ++ y) = fnsV x ++ fnsV y := by
  induction x with
  | nil => rfl
  | cons n r ih => simp [fnsV, ih]

theorem fnsV_one (xs : List FV) : ∀ u ∈ fnsV xs, u.oneCell' = true := by
  induction xs with
  | nil => intro u hu; cases hu
  | cons n r ih =>
    intro u hu
    simp only [fnsV, List.mem_cons] at hu
    rcases hu with rfl | rfl | rfl | h
    · rfl
    · rfl
    · rfl
    · exact ih u h

theorem fnsV_at (xs : List FV) (j : Nat) (hj : j < xs.length) : (fnsV xs)[j * 3]? = some (.string ⟨(xs.getD j fv0).1.1.toArray⟩) ∧ (fnsV xs)[j * 3 + 1]? = some (.int .i64 (xs.getD j fv0).1.2.1) ∧ (fnsV xs)[j * 3 + 2]? = some (fvT (xs.getD j fv0)) := by
  induction xs generalizing j with
  | nil => simp at hj
  | cons n r ih =>
    cases j with
    | zero => simp [fnsV]
    | succ j =>
      obtain ⟨h0, h1, h2⟩ := ih j (by simpa using hj)
      refine ⟨?_, ?_, ?_⟩
      · rw [show (j + 1) * 3 = j * 3 + 1 + 1 + 1 by omega]; simpa [fnsV] using h0
      · rw [show (j + 1) * 3 + 1 = j * 3 + 1 + 1 + 1 + 1 by omega]; simpa [fnsV] using h1
      · rw [show (j + 1) * 3 + 2 = j * 3 + 2 + 1 + 1 + 1 by omega]; simpa [fnsV] using h2

/-- Rows of elements of two types lie in two blocks. -/
theorem own_types {w : World} {b1 b2 e1 e2 s1 s2 n1 n2 : Nat} {v1 v2 : Value} {xs ys : List Value} (h1 : w.ownsRow b1 e1 s1 v1 n1 xs) (h2 : w.ownsRow b2 e2 s2 v2 n2 ys) (he : e1 ≠ e2) : v1.ownBlock = none ∨ v1.ownBlock ≠ v2.ownBlock := by
  rcases h1.2 with ⟨rfl, _⟩ | ⟨g, c, cur, rfl, _, hg, _⟩
  · exact Or.inl rfl
  · rcases h2.2 with ⟨rfl, _⟩ | ⟨g2, c2, cur2, rfl, _, hg2, _⟩
    · exact Or.inr (by simp [Value.ownBlock])
    · refine Or.inr (fun e => ?_)
      simp only [Value.ownBlock, Option.some.injEq] at e
      subst e
      rw [hg] at hg2
      simp only [Option.some.injEq, Obj.cells.injEq] at hg2
      exact he hg2.2.1

structure FnsOwn (w : World) (base : Nat) (v : Value) (xs : List FV) : Prop where
  row : w.ownsRow base 52 3 v xs.length (fnsV xs)
  trees : ∀ x ∈ xs, w.ownsRow base 46 4 (fvT x) x.1.2.2.length (nodesV x.1.2.2)

theorem FnsOwn.below {w w' : World} {base : Nat} {v : Value} {xs : List FV} (h : FnsOwn w base v xs) (hb : Below w.heap.size w w') : FnsOwn w' base v xs := ⟨own_below h.row hb, fun x hx => own_below (h.trees x hx) hb⟩

theorem FnsOwn.kept {w w' : World} {base : Nat} {v : Value} {xs : List FV} {row : Option Nat} (h : FnsOwn w base v xs) (hg : w.grownBy w' row) (h1 : v.ownBlock = none ∨ v.ownBlock ≠ row) (h2 : ∀ x ∈ xs, (fvT x).ownBlock = none ∨ (fvT x).ownBlock ≠ row) : FnsOwn w' base v xs :=
  ⟨h.row.kept hg h1, fun x hx => (h.trees x hx).kept hg (h2 x hx)⟩

theorem FnsOwn.base {w : World} {base b2 : Nat} {v : Value} {xs : List FV} (h : FnsOwn w base v xs) (hb : b2 ≤ base) : FnsOwn w b2 v xs := ⟨own_base h.row hb, fun x hx => own_base (h.trees x hx) hb⟩

theorem FnsOwn.nil (w : World) (base : Nat) : FnsOwn w base (.slice none 0 0) [] := ⟨World.ownsRow_nil w _ _ _, fun x hx => by cases hx⟩

theorem getD_map_fn (xs : List FV) (j : Nat) : (xs.map (·.1)).getD j fn0 = (xs.getD j fv0).1 := by
  rw [List.getD_eq_getElem?_getD, List.getD_eq_getElem?_getD, List.getElem?_map]
  cases xs[j]? <;> rfl

/-- What is owned can be read. -/
theorem FnsOwn.in {w : World} {base : Nat} {v : Value} {xs : List FV} (h : FnsOwn w base v xs) : ∃ a cap, v = .slice a xs.length cap ∧ (a = none → cap = 0) ∧ FuncsIn w a xs.length (xs.map (·.1)) := by
  rcases own_forms h.row with ⟨rfl, h0, _⟩ | ⟨g, cp, rfl⟩
  · exact ⟨none, 0, by rw [h0], fun _ => rfl, by simp, fun j hj => by omega⟩
  · refine ⟨some ⟨g, 0, none⟩, cp, rfl, fun e => (by cases e), by simp, fun j hj => ?_⟩
    obtain ⟨v0, v1, v2⟩ := fnsV_at xs j hj
    have hc := fun k (hk : k < xs.length * 3) => World.ownsRow.cellAt h.row k hk
    have hmem : xs.getD j fv0 ∈ xs := by rw [List.getD_eq_getElem?_getD, List.getElem?_eq_getElem hj]; exact List.getElem_mem hj
    obtain ⟨hl, a, cap, e, hn⟩ := own_nodes (h.trees _ hmem)
    refine ⟨g, 0, rfl, (h.row.lt g rfl).2, ?_, ?_, (xs.getD j fv0).2.1, (xs.getD j fv0).1.2.2.length, (xs.getD j fv0).2.2, ?_, ?_, ?_⟩
    · rw [Nat.zero_add, hc _ (by omega), v0, getD_map_fn]
    · rw [Nat.zero_add, hc _ (by omega), v1, getD_map_fn]
    · rw [Nat.zero_add, hc _ (by omega), v2]; rfl
    · intro e2
      rcases own_forms (h.trees _ hmem) with ⟨e3, _⟩ | ⟨g3, cp3, e3⟩
      · unfold fvT at e3; injection e3
      · unfold fvT at e3; rw [e2] at e3; injection e3 with e4; cases e4
    · rw [getD_map_fn]
      unfold fvT at e
      injection e with e1 e2 e3
      rw [e1]; exact hn

theorem infoFunc : (Tryz.prog.info? 52).map (fun i => (i.zero, i.size, i.bytes)) = some (some (.agg #[.string ⟨#[]⟩, .int .i64 0, .slice none 0 0]), 3, 48) := by kernel_rfl

/-- A new block of one function, as 'append' reads it. -/
theorem new_fn (w : World) (x : FV) (c : Nat) : Src (w.alloc (.cells #[.string ⟨x.1.1.toArray⟩, .int .i64 x.1.2.1, fvT x] 52)) (.slice (some ⟨w.heap.size, 0, none⟩) 1 c) 1 3 (fnsV [x]) := by
  refine ⟨rfl, fnsV_one _, Or.inr ⟨_, c, rfl, fun j u hu => ?_⟩⟩
  rw [add_plain, Nat.zero_add]
  match j, hu with
  | 0, hu => simp [fnsV] at hu; subst hu; simp
  | 1, hu => simp [fnsV] at hu; subst hu; simp
  | 2, hu => simp [fnsV] at hu; subst hu; simp
  | j + 3, hu => simp [fnsV] at hu

theorem new_str (w : World) (x : List UInt8) (c : Nat) : Src (w.alloc (.cells #[.string ⟨x.toArray⟩] 9)) (.slice (some ⟨w.heap.size, 0, none⟩) 1 c) 1 1 (strV [x]) := by
  refine ⟨rfl, fun u hu => ?_, Or.inr ⟨_, c, rfl, fun j u hu => ?_⟩⟩
  · simp [strV] at hu; subst hu; rfl
  rw [add_plain, Nat.zero_add]
  match j, hu with
  | 0, hu => simp [strV] at hu; subst hu; simp
  | j + 1, hu => simp [strV] at hu

/-- What ReadPackage holds: the package so far (at P), the answer's zero cells (at D), the lines (at gL). All that was made since lies from B on. -/
structure RdSt (X w : World) (D P B gL : Nat) (ls : List (List UInt8)) (nm : List UInt8) (ims : List (List UInt8)) (xs : List FV) (ia : Option Addr) (ic : Nat) (fa : Option Addr) (fc : Nat) : Prop where
  p0 : X.cell? ⟨P, 0, none⟩ = some (.string ⟨nm.toArray⟩)
  p1 : X.cell? ⟨P, 1, none⟩ = some (.slice ia ims.length ic)
  p2 : X.cell? ⟨P, 2, none⟩ = some (.slice fa xs.length fc)
  pf : ∀ j, X.frozen? ⟨P, j, none⟩ = false
  r0 : X.cell? ⟨D, 0, none⟩ = some (.string ⟨#[]⟩)
  r1 : X.cell? ⟨D, 1, none⟩ = some (.slice none 0 0)
  r2 : X.cell? ⟨D, 2, none⟩ = some (.slice none 0 0)
  rf : ∀ j, X.frozen? ⟨D, j, none⟩ = false
  lines : ∀ j, j < ls.length → X.cell? ⟨gL, j, none⟩ = some (.string ⟨(ls.getD j []).toArray⟩)
  oi : X.ownsRow B 9 1 (.slice ia ims.length ic) ims.length (strV ims)
  fo : FnsOwn X B (.slice fa xs.length fc) xs
  dp : D < P
  gd : gL ≠ D
  gp : gL ≠ P
  db : D < B
  pb : P < B
  gb : gL < B
  b : Below D w X
  bs : B ≤ X.heap.size

section
variable {X Y w : World} {D P B gL : Nat} {ls : List (List UInt8)} {nm : List UInt8} {ims : List (List UInt8)} {xs : List FV} {ia : Option Addr} {ic : Nat} {fa : Option Addr} {fc : Nat}

/-- Whatever leaves the blocks below B and the rows alone. -/
theorem RdSt.grown {row : Option Nat} (h : RdSt X w D P B gL ls nm ims xs ia ic fa fc) (hg : X.grownBy Y row) (hrow : ∀ k, row = some k → B ≤ k):
    (∀ k, k < B → Y.heap[k]? = X.heap[k]?) ∧ Below D w Y ∧ B ≤ Y.heap.size := by
  have hk : ∀ k, k < B → Y.heap[k]? = X.heap[k]? := fun k hk => hg.block k (Nat.lt_of_lt_of_le hk h.bs) (fun e => by have := hrow k e.symm; omega)
  exact ⟨hk, h.b.grown hg (Nat.le_trans (Nat.le_of_lt h.db) h.bs) (fun k e => Nat.le_trans (Nat.le_of_lt h.db) (hrow k e)), Nat.le_trans h.bs hg.size⟩

theorem RdSt.below (h : RdSt X w D P B gL ls nm ims xs ia ic fa fc) (hb : Below X.heap.size X Y) : RdSt Y w D P B gL ls nm ims xs ia ic fa fc :=
  have hp : P < X.heap.size := Nat.lt_of_lt_of_le h.pb h.bs
  have hd : D < X.heap.size := Nat.lt_of_lt_of_le h.db h.bs
  have hg : gL < X.heap.size := Nat.lt_of_lt_of_le h.gb h.bs
  ⟨(hb.cell (p := ⟨P, 0, none⟩) hp).trans h.p0, (hb.cell (p := ⟨P, 1, none⟩) hp).trans h.p1, (hb.cell (p := ⟨P, 2, none⟩) hp).trans h.p2, fun j => (hb.frozen (p := ⟨P, j, none⟩) hp).trans (h.pf j),
   (hb.cell (p := ⟨D, 0, none⟩) hd).trans h.r0, (hb.cell (p := ⟨D, 1, none⟩) hd).trans h.r1, (hb.cell (p := ⟨D, 2, none⟩) hd).trans h.r2, fun j => (hb.frozen (p := ⟨D, j, none⟩) hd).trans (h.rf j),
   fun j hj => (hb.cell (p := ⟨gL, j, none⟩) hg).trans (h.lines j hj), own_below h.oi hb, h.fo.below hb, h.dp, h.gd, h.gp, h.db, h.pb, h.gb, h.b.trans (hb.mono (Nat.le_of_lt hd)), Nat.le_trans h.bs hb.size⟩

theorem RdSt.drew (h : RdSt X w D P B gL ls nm ims xs ia ic fa fc) : RdSt X.drew w D P B gL ls nm ims xs ia ic fa fc := h.below ⟨rfl, rfl, rfl, Nat.le_refl _, fun _ _ => rfl⟩

/-- The package's name is written. -/
theorem RdSt.name0 (h : RdSt X w D P B gL ls nm ims xs ia ic fa fc) (hk : ∀ k, k < B → Y.heap[k]? = X.heap[k]?) (hb : Below D w Y) (hbs : B ≤ Y.heap.size) (x : List UInt8) (oi : Y.ownsRow B 9 1 (.slice ia ims.length ic) ims.length (strV ims)) (fo : FnsOwn Y B (.slice fa xs.length fc) xs) : RdSt (Y.setCell ⟨P, 0, none⟩ (.string ⟨x.toArray⟩)) w D P B gL ls x ims xs ia ic fa fc := by
  have hg := grown_set Y P 0 (.string ⟨x.toArray⟩)
  have off : ∀ {e size n : Nat} {v : Value} {ys : List Value}, Y.ownsRow B e size v n ys → v.ownBlock = none ∨ v.ownBlock ≠ some P := fun ho => own_off ho h.pb
  have hoth : ∀ (q : Addr), q.block ≠ P → q.block < B → (Y.setCell ⟨P, 0, none⟩ (.string ⟨x.toArray⟩)).cell? q = X.cell? q := fun q hq hqb => (World.cell?_setCell_other _ _ _ _ (fun e => hq (by rw [← e]))).trans (World.cell?_of_block (hk _ hqb))
  have hdp : D ≠ P := Nat.ne_of_lt h.dp
  have hfz : ∀ (q : Addr), q.block < B → (Y.setCell ⟨P, 0, none⟩ (.string ⟨x.toArray⟩)).frozen? q = X.frozen? q := fun q hqb => (World.frozen?_setCell ..).trans (World.frozen?_of_block (hk _ hqb))
  have hp : ∀ j, Y.cell? ⟨P, j, none⟩ = X.cell? ⟨P, j, none⟩ := fun j => World.cell?_of_block (hk _ h.pb)
  exact ⟨World.cell?_setCell_same _ _ _ ((hp 0).trans h.p0), (World.cell?_setCell_other _ _ _ _ (by simp)).trans ((hp 1).trans h.p1), (World.cell?_setCell_other _ _ _ _ (by simp)).trans ((hp 2).trans h.p2), fun j => (hfz ⟨P, j, none⟩ h.pb).trans (h.pf j), (hoth _ hdp h.db).trans h.r0, (hoth _ hdp h.db).trans h.r1, (hoth _ hdp h.db).trans h.r2, fun j => (hfz ⟨D, j, none⟩ h.db).trans (h.rf j),
    fun j hj => (hoth ⟨gL, j, none⟩ h.gp h.gb).trans (h.lines j hj), oi.kept hg (off oi), fo.kept hg (off fo.row) (fun y hy => off (fo.trees y hy)), h.dp, h.gd, h.gp, h.db, h.pb, h.gb, hb.grown hg (Nat.le_trans (Nat.le_of_lt h.db) hbs) (fun k e => by injection e with e; have := h.dp; omega), by simpa using hbs⟩

theorem RdSt.name (h : RdSt X w D P B gL ls nm ims xs ia ic fa fc) (x : List UInt8) : RdSt (X.setCell ⟨P, 0, none⟩ (.string ⟨x.toArray⟩)) w D P B gL ls x ims xs ia ic fa fc := h.name0 (fun _ _ => rfl) h.b h.bs x h.oi h.fo

/-- Its imports. -/
theorem RdSt.imp0 (h : RdSt X w D P B gL ls nm ims xs ia ic fa fc) (hk : ∀ k, k < B → Y.heap[k]? = X.heap[k]?) (hb : Below D w Y) (hbs : B ≤ Y.heap.size) {ims' : List (List UInt8)} {ia' : Option Addr} {ic' : Nat} (oi : Y.ownsRow B 9 1 (.slice ia' ims'.length ic') ims'.length (strV ims')) (fo : FnsOwn Y B (.slice fa xs.length fc) xs) : RdSt (Y.setCell ⟨P, 1, none⟩ (.slice ia' ims'.length ic')) w D P B gL ls nm ims' xs ia' ic' fa fc := by
  have hg := grown_set Y P 1 (.slice ia' ims'.length ic')
  have off : ∀ {e size n : Nat} {v : Value} {ys : List Value}, Y.ownsRow B e size v n ys → v.ownBlock = none ∨ v.ownBlock ≠ some P := fun ho => own_off ho h.pb
  have hoth : ∀ (q : Addr), q.block ≠ P → q.block < B → (Y.setCell ⟨P, 1, none⟩ (.slice ia' ims'.length ic')).cell? q = X.cell? q := fun q hq hqb => (World.cell?_setCell_other _ _ _ _ (fun e => hq (by rw [← e]))).trans (World.cell?_of_block (hk _ hqb))
  have hdp : D ≠ P := Nat.ne_of_lt h.dp
  have hfz : ∀ (q : Addr), q.block < B → (Y.setCell ⟨P, 1, none⟩ (.slice ia' ims'.length ic')).frozen? q = X.frozen? q := fun q hqb => (World.frozen?_setCell ..).trans (World.frozen?_of_block (hk _ hqb))
  have hp : ∀ j, Y.cell? ⟨P, j, none⟩ = X.cell? ⟨P, j, none⟩ := fun j => World.cell?_of_block (hk _ h.pb)
  exact ⟨(World.cell?_setCell_other _ _ _ _ (by simp)).trans ((hp 0).trans h.p0), World.cell?_setCell_same _ _ _ ((hp 1).trans h.p1), (World.cell?_setCell_other _ _ _ _ (by simp)).trans ((hp 2).trans h.p2), fun j => (hfz ⟨P, j, none⟩ h.pb).trans (h.pf j), (hoth _ hdp h.db).trans h.r0, (hoth _ hdp h.db).trans h.r1, (hoth _ hdp h.db).trans h.r2, fun j => (hfz ⟨D, j, none⟩ h.db).trans (h.rf j),
    fun j hj => (hoth ⟨gL, j, none⟩ h.gp h.gb).trans (h.lines j hj), oi.kept hg (off oi), fo.kept hg (off fo.row) (fun y hy => off (fo.trees y hy)), h.dp, h.gd, h.gp, h.db, h.pb, h.gb, hb.grown hg (Nat.le_trans (Nat.le_of_lt h.db) hbs) (fun k e => by injection e with e; have := h.dp; omega), by simpa using hbs⟩

/-- Its functions. -/
theorem RdSt.fn1 (h : RdSt X w D P B gL ls nm ims xs ia ic fa fc) (hk : ∀ k, k < B → Y.heap[k]? = X.heap[k]?) (hb : Below D w Y) (hbs : B ≤ Y.heap.size) {xs' : List FV} {fa' : Option Addr} {fc' : Nat} (oi : Y.ownsRow B 9 1 (.slice ia ims.length ic) ims.length (strV ims)) (fo : FnsOwn Y B (.slice fa' xs'.length fc') xs') : RdSt (Y.setCell ⟨P, 2, none⟩ (.slice fa' xs'.length fc')) w D P B gL ls nm ims xs' ia ic fa' fc' := by
  have hg := grown_set Y P 2 (.slice fa' xs'.length fc')
  have off : ∀ {e size n : Nat} {v : Value} {ys : List Value}, Y.ownsRow B e size v n ys → v.ownBlock = none ∨ v.ownBlock ≠ some P := fun ho => own_off ho h.pb
  have hoth : ∀ (q : Addr), q.block ≠ P → q.block < B → (Y.setCell ⟨P, 2, none⟩ (.slice fa' xs'.length fc')).cell? q = X.cell? q := fun q hq hqb => (World.cell?_setCell_other _ _ _ _ (fun e => hq (by rw [← e]))).trans (World.cell?_of_block (hk _ hqb))
  have hdp : D ≠ P := Nat.ne_of_lt h.dp
  have hfz : ∀ (q : Addr), q.block < B → (Y.setCell ⟨P, 2, none⟩ (.slice fa' xs'.length fc')).frozen? q = X.frozen? q := fun q hqb => (World.frozen?_setCell ..).trans (World.frozen?_of_block (hk _ hqb))
  have hp : ∀ j, Y.cell? ⟨P, j, none⟩ = X.cell? ⟨P, j, none⟩ := fun j => World.cell?_of_block (hk _ h.pb)
  exact ⟨(World.cell?_setCell_other _ _ _ _ (by simp)).trans ((hp 0).trans h.p0), (World.cell?_setCell_other _ _ _ _ (by simp)).trans ((hp 1).trans h.p1), World.cell?_setCell_same _ _ _ ((hp 2).trans h.p2), fun j => (hfz ⟨P, j, none⟩ h.pb).trans (h.pf j), (hoth _ hdp h.db).trans h.r0, (hoth _ hdp h.db).trans h.r1, (hoth _ hdp h.db).trans h.r2, fun j => (hfz ⟨D, j, none⟩ h.db).trans (h.rf j),
    fun j hj => (hoth ⟨gL, j, none⟩ h.gp h.gb).trans (h.lines j hj), oi.kept hg (off oi), fo.kept hg (off fo.row) (fun y hy => off (fo.trees y hy)), h.dp, h.gd, h.gp, h.db, h.pb, h.gb, hb.grown hg (Nat.le_trans (Nat.le_of_lt h.db) hbs) (fun k e => by injection e with e; have := h.dp; omega), by simpa using hbs⟩

theorem RdSt.import (h : RdSt X w D P B gL ls nm ims xs ia ic fa fc) (x : List UInt8) (hn : ims.length ≤ 1048576) :
    ∃ g' c' Y, (Builtin.append_ #[27, 27] 27 #[.slice ia ims.length ic, .slice (some ⟨X.heap.size, 0, none⟩) 1 1]).run Tryz.prog (X.alloc (.cells #[.string ⟨x.toArray⟩] 9)) = .ok (.slice (some ⟨g', 0, none⟩) (ims.length + 1) c') Y ∧
      Y.cell? ⟨P, 1, none⟩ = some (.slice ia ims.length ic) ∧ (∀ j, Y.frozen? ⟨P, j, none⟩ = false) ∧ RdSt (Y.setCell ⟨P, 1, none⟩ (.slice (some ⟨g', 0, none⟩) (ims.length + 1) c')) w D P B gL ls nm (ims ++ [x]) xs (some ⟨g', 0, none⟩) c' fa fc := by
  obtain ⟨i0, hi, hz0, hz1, hz2⟩ := info_parts info9
  have hX1 : Below X.heap.size X (X.alloc (.cells #[.string ⟨x.toArray⟩] 9)) := (Below.refl _ _).alloc (Nat.le_refl _) _
  have h1 := h.below hX1
  obtain ⟨v', Y, hrun, hown, hg, _⟩ := run_append_src (P := Tryz.prog) (X.alloc (.cells #[.string ⟨x.toArray⟩] 9)) B 27 27 9 i0 _ 1 16 Tryz.underlying27 hi hz0 hz1 hz2 rfl (by decide) _ _ _ h1.oi _ 1 (strV [x]) (new_str X x 1) (by unfold maxLen; omega) (by omega) h1.bs
  obtain ⟨g', c', rfl⟩ := own_some hown (by omega)
  obtain ⟨hk, hb, hbs⟩ := h1.grown hg (fun k e => (h1.oi.lt k e).1)
  have hown2 : Y.ownsRow B 9 1 (.slice (some ⟨g', 0, none⟩) (ims ++ [x]).length c') (ims ++ [x]).length (strV (ims ++ [x])) := by
    have e1 : (ims ++ [x]).length = ims.length + 1 := by simp
    have e2 : strV (ims ++ [x]) = strV ims ++ strV [x] := by simp [strV]
    rw [e1, e2]; exact hown
  have hfo : FnsOwn Y B (.slice fa xs.length fc) xs := h1.fo.kept hg (own_types h1.fo.row h1.oi (by decide)) (fun y hy => own_types (h1.fo.trees y hy) h1.oi (by decide))
  have hz := h1.imp0 hk hb hbs hown2 hfo
  refine ⟨g', c', Y, hrun, (World.cell?_of_block (a := ⟨P, 1, none⟩) (hk _ h1.pb)).trans h1.p1, fun j => (World.frozen?_of_block (a := ⟨P, j, none⟩) (hk _ h1.pb)).trans (h1.pf j), ?_⟩
  have e1 : (ims ++ [x]).length = ims.length + 1 := by simp
  rw [e1] at hz
  exact hz

theorem RdSt.func (h : RdSt X w D P B gL ls nm ims xs ia ic fa fc) (y : FV) (hy : X.ownsRow B 46 4 (fvT y) y.1.2.2.length (nodesV y.1.2.2)) (hn : xs.length ≤ 1048576) :
    ∃ g' c' Y, (Builtin.append_ #[28, 28] 28 #[.slice fa xs.length fc, .slice (some ⟨X.heap.size, 0, none⟩) 1 1]).run Tryz.prog (X.alloc (.cells #[.string ⟨y.1.1.toArray⟩, .int .i64 y.1.2.1, fvT y] 52)) = .ok (.slice (some ⟨g', 0, none⟩) (xs.length + 1) c') Y ∧
      Y.cell? ⟨P, 2, none⟩ = some (.slice fa xs.length fc) ∧ (∀ j, Y.frozen? ⟨P, j, none⟩ = false) ∧ RdSt (Y.setCell ⟨P, 2, none⟩ (.slice (some ⟨g', 0, none⟩) (xs.length + 1) c')) w D P B gL ls nm ims (xs ++ [y]) ia ic (some ⟨g', 0, none⟩) c' := by
  obtain ⟨i0, hi, hz0, hz1, hz2⟩ := info_parts infoFunc
  have hX1 : Below X.heap.size X (X.alloc (.cells #[.string ⟨y.1.1.toArray⟩, .int .i64 y.1.2.1, fvT y] 52)) := (Below.refl _ _).alloc (Nat.le_refl _) _
  have h1 := h.below hX1
  have hy1 := own_below hy hX1
  obtain ⟨v', Y, hrun, hown, hg, _⟩ := run_append_src (P := Tryz.prog) (X.alloc (.cells #[.string ⟨y.1.1.toArray⟩, .int .i64 y.1.2.1, fvT y] 52)) B 28 28 52 i0 _ 3 48 Tryz.underlying28 hi hz0 hz1 hz2 rfl (by decide) _ _ _ h1.fo.row _ 1 (fnsV [y]) (new_fn X y 1) (by unfold maxLen; omega) (by omega) h1.bs
  obtain ⟨g', c', rfl⟩ := own_some hown (by omega)
  obtain ⟨hk, hb, hbs⟩ := h1.grown hg (fun k e => (h1.fo.row.lt k e).1)
  have e1 : (xs ++ [y]).length = xs.length + 1 := by simp
  have hown2 : Y.ownsRow B 52 3 (.slice (some ⟨g', 0, none⟩) (xs ++ [y]).length c') (xs ++ [y]).length (fnsV (xs ++ [y])) := by
    rw [e1, fnsV_append]; exact hown
  have htr : ∀ z ∈ xs ++ [y], Y.ownsRow B 46 4 (fvT z) z.1.2.2.length (nodesV z.1.2.2) := fun z hz => by
    rw [List.mem_append, List.mem_singleton] at hz
    rcases hz with hz | rfl
    · exact (h1.fo.trees z hz).kept hg (own_types (h1.fo.trees z hz) h1.fo.row (by decide))
    · exact hy1.kept hg (own_types hy1 h1.fo.row (by decide))
  have hoi := h1.oi.kept hg (own_types h1.oi h1.fo.row (by decide))
  have hz := h1.fn1 hk hb hbs hoi (⟨hown2, htr⟩ : FnsOwn Y B _ (xs ++ [y]))
  refine ⟨g', c', Y, hrun, (World.cell?_of_block (a := ⟨P, 2, none⟩) (hk _ h1.pb)).trans h1.p2, fun j => (World.frozen?_of_block (a := ⟨P, j, none⟩) (hk _ h1.pb)).trans (h1.pf j), ?_⟩
  rw [e1] at hz
  exact hz
end

end Go.Proofs.YtkjojhkpoooimaaGreat

/-! What the writing of several blocks leaves; rows that lie apart. -/
namespace Go.Proofs.YtkjojhkpoooimaaGreat
open Go.RowKit

/-- Of what was there nothing but the blocks of S was written. -/
structure Wrote (w w' : World) (S : Nat → Prop) : Prop where
  os : w'.os = w.os
  tape : w'.tape = w.tape
  output : w'.output = w.output
  size : w.heap.size ≤ w'.heap.size
  block : ∀ k, k < w.heap.size → ¬ S k → w'.heap[k]? = w.heap[k]?

theorem Wrote.refl (w : World) (S : Nat → Prop) : Wrote w w S := ⟨rfl, rfl, rfl, Nat.le_refl _, fun _ _ _ => rfl⟩
theorem Wrote.trans {a b c : World} {S : Nat → Prop} (h : Wrote a b S) (k : Wrote b c S) : Wrote a c S :=
  ⟨k.os.trans h.os, k.tape.trans h.tape, k.output.trans h.output, Nat.le_trans h.size k.size, fun i hi hs => (k.block i (Nat.lt_of_lt_of_le hi h.size) hs).trans (h.block i hi hs)⟩
theorem Wrote.mono {w w' : World} {S T : Nat → Prop} (h : Wrote w w' S) (hs : ∀ k, S k → T k) : Wrote w w' T := ⟨h.os, h.tape, h.output, h.size, fun k hk hn => h.block k hk (fun e => hn (hs k e))⟩
theorem Wrote.of_grown {w w' : World} {row : Option Nat} {S : Nat → Prop} (h : w.grownBy w' row) (hs : ∀ k, row = some k → S k) : Wrote w w' S :=
  ⟨h.os, h.tape, h.output, h.size, fun k hk hn => h.block k hk (fun e => hn (hs k e.symm))⟩
theorem Wrote.of_below {w w' : World} {S : Nat → Prop} (h : Below w.heap.size w w') : Wrote w w' S := ⟨h.os, h.tape, h.output, h.size, fun k hk _ => h.block k hk⟩
theorem Wrote.below {w w' : World} {S : Nat → Prop} {B : Nat} (h : Wrote w w' S) (hB : B ≤ w.heap.size) (hs : ∀ k, S k → B ≤ k) : Below B w w' :=
  ⟨h.os, h.tape, h.output, h.size, fun k hk => h.block k (Nat.lt_of_lt_of_le hk hB) (fun e => by have := hs k e; omega)⟩
theorem own_wrote {w w' : World} {base e size n : Nat} {v : Value} {xs : List Value} {S : Nat → Prop} (h : w.ownsRow base e size v n xs) (hw : Wrote w w' S) (hv : ∀ k, v.ownBlock = some k → ¬ S k) : w'.ownsRow base e size v n xs := by
  refine ⟨h.1, ?_⟩
  rcases h.2 with hn | ⟨g, cap, cur, rfl, hb, hgg, rest⟩
  · exact .inl hn
  · refine .inr ⟨g, cap, cur, rfl, hb, ?_, rest⟩
    rw [hw.block g (Array.getElem?_eq_some_iff.1 hgg).1 (hv g rfl)]
    exact hgg

/-- The trees lie apart, one by one. -/
def Apart (vs : List Value) : Prop := vs.Pairwise (fun a b => a.ownBlock = none ∨ a.ownBlock ≠ b.ownBlock)
theorem Apart.nil : Apart [] := List.Pairwise.nil
theorem Apart.snoc {vs : List Value} {u : Value} (h : Apart vs) (hu : ∀ v ∈ vs, v.ownBlock = none ∨ v.ownBlock ≠ u.ownBlock) : Apart (vs ++ [u]) :=
  List.pairwise_append.2 ⟨h, List.pairwise_singleton _ _, fun a ha b hb => by rw [List.mem_singleton] at hb; subst hb; exact hu a ha⟩
/-- A row that lies ahead of a place, and one that lies behind it. -/
theorem own_ahead {w w' : World} {b1 b2 e1 e2 s1 s2 n1 n2 : Nat} {v1 v2 : Value} {xs ys : List Value} (h1 : w.ownsRow b1 e1 s1 v1 n1 xs) (h2 : w'.ownsRow b2 e2 s2 v2 n2 ys) (hb : w.heap.size ≤ b2) : v1.ownBlock = none ∨ v1.ownBlock ≠ v2.ownBlock := by
  cases hv : v1.ownBlock with
  | none => exact Or.inl rfl
  | some k =>
    refine Or.inr (fun e => ?_)
    have l1 := (h1.lt k hv).2
    have l2 := (h2.lt k e.symm).1
    omega

end Go.Proofs.YtkjojhkpoooimaaGreat

/-! The contracts of the exact laws' own helpers over lists of texts: eqStringS, markStringS, heldStringS, markText. -/
namespace Go.Proofs.YtkjojhkpoooimaaGreat
open Go.RowKit

/-- The digits of k ahead of acc. -/
def markGo : Nat → Nat → List UInt8 → List UInt8
  | 0, _, acc => acc
  | f + 1, k, acc => if k = 0 then acc else markGo f (k / 10) ((48 + UInt8.ofNat (k % 10)) :: acc)
def markL (k : Nat) : List UInt8 := 109 :: markGo k k []

end Go.Proofs.YtkjojhkpoooimaaGreat

/-! The contracts of the exact laws' own helpers over lists of texts: eqStringS, markStringS, heldStringS. -/
namespace Go.Proofs.YtkjojhkpoooimaaGreat
open Go.RowKit


/-- The marks from k on. -/
def marksV (k : Nat) : Nat → List Value
  | 0 => []
  | n + 1 => marksV k n ++ [.string ⟨(markL (k + n)).toArray⟩]

end Go.Proofs.YtkjojhkpoooimaaGreat

/-! The helpers over lists of texts, whatever the list's value: nil, empty or not. -/
namespace Go.Proofs.YtkjojhkpoooimaaGreat
open Go.RowKit




end Go.Proofs.YtkjojhkpoooimaaGreat

/-! A list of texts that came in, as the walks take it; the exact laws' helpers over such lists: szStringS, toStringS. -/
namespace Go.Proofs.YtkjojhkpoooimaaGreat
open Go.ChangeShapes Go.WideShapes Go.ChangeAt Go.RowKit

def szT (m n : Nat) (left : Int) : Int := if (m : Int) + (n : Int) ≤ left then left - (m : Int) - (n : Int) else -1
/-- How many bytes in all. -/
def joinN (ts : List (List UInt8)) : Nat := ts.flatten.length

end Go.Proofs.YtkjojhkpoooimaaGreat

/-! The laws' own helpers over functions and packages: szFunc, szFuncS, szPackage, eqFunc, eqFuncS, eqStringS, eqPackage. -/
namespace Go.Proofs.YtkjojhkpoooimaaGreat
open Go.RowKit

def szM (m : Nat) (left : Int) : Int := if (m : Int) ≤ left then left - (m : Int) else -1
def fnSz (f : Fn) : Nat := f.1.length + (f.2.2.length + textsN f.2.2)
def fnsSz : List Fn → Nat
  | [] => 0
  | f :: r => fnSz f + fnsSz r
/-- How much a package has in all. -/
def pkSz (nm : List UInt8) (ims : List (List UInt8)) (fs : List Fn) : Nat := nm.length + (ims.length + joinN ims) + (fs.length + fnsSz fs)

def LongF (fs : List Fn) : Prop := ∀ j, (fs.getD j fn0).1.length ≤ maxLen ∧ (fs.getD j fn0).2.2.length ≤ maxLen ∧ LongT (fs.getD j fn0).2.2

end Go.Proofs.YtkjojhkpoooimaaGreat
