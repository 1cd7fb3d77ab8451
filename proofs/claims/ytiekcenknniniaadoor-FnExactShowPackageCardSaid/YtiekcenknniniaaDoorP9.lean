/-
  Parts of one proof, one behind the other: PackO, Marks, Marks2, Marks3, TextsL, EqT.
-/
import Derived.Test.YtiekcenknniniaaDoorP8
import Derived.Test.YtiekcenknniniaaDoorP2
import Derived.Test.YtiekcenknniniaaDoorP4
import Derived.Test.YtiekcenknniniaaDoorP3
import Derived.Deep.RegionWith
import Derived.SliceStrings
import Derived.ProofKit
import Derived.OpenShut
import Derived.ShutString
import Derived.ChangeOld
import Derived.Below

/-! A package that a call has made: its imports, its functions, their trees, each in a row of its own. -/
namespace Go.Proofs.YtiekcenknniniaaDoor
open Go.RowKit

/-- A function, and where its tree lies. -/
abbrev FV := Fn × Option Addr × Nat
def fvT (x : FV) : Value := .slice x.2.1 x.1.2.2.length x.2.2
def fnsV : List FV → List Value
  | [] => []
  | x :: r => .string ⟨x.1.1.toArray⟩ :: .int .i64 x.1.2.1 :: fvT x :: fnsV r

def fv0 : FV := (fn0, none, 0)

theorem fnsV_len (xs : List FV) : (fnsV xs).length = xs.length * 3 := by
  induction xs with
  | nil => rfl
  | cons n r ih => simp only [fnsV, List.length_cons, ih]; omega

theorem fnsV_append (x y : List FV) : fnsV (x ++ y) = fnsV x ++ fnsV y := by
  induction x with
  | nil => rfl
  | cons n r ih => simp [fnsV, ih]

theorem fnsV_one (xs : List FV) : ∀ u ∈ fnsV xs, u.oneCell' = true := by
  induction xs with
  | nil => intro u hu; cases hu
  | cons n r ih =>
    intro u hu
    simp only [fnsV, List.mem_cons] at hu
    rcases hu with rfl | rfl | rfl | h
    · rfl
    · rfl
    · rfl
    · exact ih u h

theorem fnsV_at (xs : List FV) (j : Nat) (hj : j < xs.length) : (fnsV xs)[j * 3]? = some (.string ⟨(xs.getD j fv0).1.1.toArray⟩) ∧ (fnsV xs)[j * 3 + 1]? = some (.int .i64 (xs.getD j fv0).1.2.1) ∧ (fnsV xs)[j * 3 + 2]? = some (fvT (xs.getD j fv0)) := by
  induction xs generalizing j with
  | nil => simp at hj
  | cons n r ih =>
    cases j with
    | zero => simp [fnsV]
    | succ j =>
      obtain ⟨h0, h1, h2⟩ := ih j (by simpa using hj)
      refine ⟨?_, ?_, ?_⟩
      · rw [show (j + 1) * 3 = j * 3 + 1 + 1 + 1 by omega]; simpa [fnsV] using h0
      · rw [show (j + 1) * 3 + 1 = j * 3 + 1 + 1 + 1 + 1 by omega]; simpa [fnsV] using h1
      · rw [show (j + 1) * 3 + 2 = j * 3 + 2 + 1 + 1 + 1 by omega]; simpa [fnsV] using h2

/-- Rows of elements of two types lie in two blocks. -/
theorem own_types {w : World} {b1 b2 e1 e2 s1 s2 n1 n2 : Nat} {v1 v2 : Value} {xs ys : List Value} (h1 : w.ownsRow b1 e1 s1 v1 n1 xs) (h2 : w.ownsRow b2 e2 s2 v2 n2 ys) (he : e1 ≠ e2) : v1.ownBlock = none ∨ v1.ownBlock ≠ v2.ownBlock := by
  rcases h1.2 with ⟨rfl, _⟩ | ⟨g, c, cur, rfl, _, hg, _⟩
  · exact Or.inl rfl
  · rcases h2.2 with ⟨rfl, _⟩ | ⟨g2, c2, cur2, rfl, _, hg2, _⟩
    · exact Or.inr (by simp [Value.ownBlock])
    · refine Or.inr (fun e => ?_)
      simp only [Value.ownBlock, Option.some.injEq] at e
      subst e
      rw [hg] at hg2
      simp only [Option.some.injEq, Obj.cells.injEq] at hg2
      exact he hg2.2.1

structure FnsOwn (w : World) (base : Nat) (v : Value) (xs : List FV) : Prop where
  row : w.ownsRow base 42 3 v xs.length (fnsV xs)
  trees : ∀ x ∈ xs, w.ownsRow base 65 4 (fvT x) x.1.2.2.length (nodesV x.1.2.2)

theorem FnsOwn.below {w w' : World} {base : Nat} {v : Value} {xs : List FV} (h : FnsOwn w base v xs) (hb : Below w.heap.size w w') : FnsOwn w' base v xs := ⟨own_below h.row hb, fun x hx => own_below (h.trees x hx) hb⟩

theorem FnsOwn.kept {w w' : World} {base : Nat} {v : Value} {xs : List FV} {row : Option Nat} (h : FnsOwn w base v xs) (hg : w.grownBy w' row) (h1 : v.ownBlock = none ∨ v.ownBlock ≠ row) (h2 : ∀ x ∈ xs, (fvT x).ownBlock = none ∨ (fvT x).ownBlock ≠ row) : FnsOwn w' base v xs :=
  ⟨h.row.kept hg h1, fun x hx => (h.trees x hx).kept hg (h2 x hx)⟩

theorem FnsOwn.base {w : World} {base b2 : Nat} {v : Value} {xs : List FV} (h : FnsOwn w base v xs) (hb : b2 ≤ base) : FnsOwn w b2 v xs := ⟨own_base h.row hb, fun x hx => own_base (h.trees x hx) hb⟩

theorem FnsOwn.nil (w : World) (base : Nat) : FnsOwn w base (.slice none 0 0) [] := ⟨World.ownsRow_nil w _ _ _, fun x hx => by cases hx⟩

theorem getD_map_fn (xs : List FV) (j : Nat) : (xs.map (·.1)).getD j fn0 = (xs.getD j fv0).1 := by
  rw [List.getD_eq_getElem?_getD, List.getD_eq_getElem?_getD, List.getElem?_map]
  cases xs[j]? <;> rfl

/-- What is owned can be read. -/
theorem FnsOwn.in {w : World} {base : Nat} {v : Value} {xs : List FV} (h : FnsOwn w base v xs) : ∃ a cap, v = .slice a xs.length cap ∧ (a = none → cap = 0) ∧ FuncsIn w a xs.length (xs.map (·.1)) := by
  rcases own_forms h.row with ⟨rfl, h0, _⟩ | ⟨g, cp, rfl⟩
  · exact ⟨none, 0, by rw [h0], fun _ => rfl, by simp, fun j hj => by omega⟩
  · refine ⟨some ⟨g, 0, none⟩, cp, rfl, fun e => (by cases e), by simp, fun j hj => ?_⟩
    obtain ⟨v0, v1, v2⟩ := fnsV_at xs j hj
    have hc := fun k (hk : k < xs.length * 3) => World.ownsRow.cellAt h.row k hk
    have hmem : xs.getD j fv0 ∈ xs := by rw [List.getD_eq_getElem?_getD, List.getElem?_eq_getElem hj]; exact List.getElem_mem hj
    obtain ⟨hl, a, cap, e, hn⟩ := own_nodes (h.trees _ hmem)
    refine ⟨g, 0, rfl, (h.row.lt g rfl).2, ?_, ?_, (xs.getD j fv0).2.1, (xs.getD j fv0).1.2.2.length, (xs.getD j fv0).2.2, ?_, ?_, ?_⟩
    · rw [Nat.zero_add, hc _ (by omega), v0, getD_map_fn]
    · rw [Nat.zero_add, hc _ (by omega), v1, getD_map_fn]
    · rw [Nat.zero_add, hc _ (by omega), v2]; rfl
    · intro e2
      rcases own_forms (h.trees _ hmem) with ⟨e3, _⟩ | ⟨g3, cp3, e3⟩
      · unfold fvT at e3; injection e3
      · unfold fvT at e3; rw [e2] at e3; injection e3 with e4; cases e4
    · rw [getD_map_fn]
      unfold fvT at e
      injection e with e1 e2 e3
      rw [e1]; exact hn

theorem infoFunc : (Tryd.prog.info? 42).map (fun i => (i.zero, i.size, i.bytes)) = some (some (.agg #[.string ⟨#[]⟩, .int .i64 0, .slice none 0 0]), 3, 48) := by kernel_rfl

/-- A new block of one function, as 'append' reads it. -/
theorem new_fn (w : World) (x : FV) (c : Nat) : Src (w.alloc (.cells #[.string ⟨x.1.1.toArray⟩, .int .i64 x.1.2.1, fvT x] 42)) (.slice (some ⟨w.heap.size, 0, none⟩) 1 c) 1 3 (fnsV [x]) := by
  refine ⟨rfl, fnsV_one _, Or.inr ⟨_, c, rfl, fun j u hu => ?_⟩⟩
  rw [add_plain, Nat.zero_add]
  match j, hu with
  | 0, hu => simp [fnsV] at hu; subst hu; simp
  | 1, hu => simp [fnsV] at hu; subst hu; simp
  | 2, hu => simp [fnsV] at hu; subst hu; simp
  | j + 3, hu => simp [fnsV] at hu

theorem new_str (w : World) (x : List UInt8) (c : Nat) : Src (w.alloc (.cells #[.string ⟨x.toArray⟩] 9)) (.slice (some ⟨w.heap.size, 0, none⟩) 1 c) 1 1 (strV [x]) := by
  refine ⟨rfl, fun u hu => ?_, Or.inr ⟨_, c, rfl, fun j u hu => ?_⟩⟩
  · simp [strV] at hu; subst hu; rfl
  rw [add_plain, Nat.zero_add]
  match j, hu with
  | 0, hu => simp [strV] at hu; subst hu; simp
  | j + 1, hu => simp [strV] at hu

/-- What ReadPackage holds: the package so far (at P), the answer's zero cells (at D), the lines (at gL). All that was made since lies from B on. -/
structure RdSt (X w : World) (D P B gL : Nat) (ls : List (List UInt8)) (nm : List UInt8) (ims : List (List UInt8)) (xs : List FV) (ia : Option Addr) (ic : Nat) (fa : Option Addr) (fc : Nat) : Prop where
  p0 : X.cell? ⟨P, 0, none⟩ = some (.string ⟨nm.toArray⟩)
  p1 : X.cell? ⟨P, 1, none⟩ = some (.slice ia ims.length ic)
  p2 : X.cell? ⟨P, 2, none⟩ = some (.slice fa xs.length fc)
  pf : ∀ j, X.frozen? ⟨P, j, none⟩ = false
  r0 : X.cell? ⟨D, 0, none⟩ = some (.string ⟨#[]⟩)
  r1 : X.cell? ⟨D, 1, none⟩ = some (.slice none 0 0)
  r2 : X.cell? ⟨D, 2, none⟩ = some (.slice none 0 0)
  rf : ∀ j, X.frozen? ⟨D, j, none⟩ = false
  lines : ∀ j, j < ls.length → X.cell? ⟨gL, j, none⟩ = some (.string ⟨(ls.getD j []).toArray⟩)
  oi : X.ownsRow B 9 1 (.slice ia ims.length ic) ims.length (strV ims)
  fo : FnsOwn X B (.slice fa xs.length fc) xs
  dp : D < P
  gd : gL ≠ D
  gp : gL ≠ P
  db : D < B
  pb : P < B
  gb : gL < B
  b : Below D w X
  bs : B ≤ X.heap.size

section
variable {X Y w : World} {D P B gL : Nat} {ls : List (List UInt8)} {nm : List UInt8} {ims : List (List UInt8)} {xs : List FV} {ia : Option Addr} {ic : Nat} {fa : Option Addr} {fc : Nat}

/-- Whatever leaves the blocks below B and the rows alone. -/
theorem RdSt.grown {row : Option Nat} (h : RdSt X w D P B gL ls nm ims xs ia ic fa fc) (hg : X.grownBy Y row) (hrow : ∀ k, row = some k → B ≤ k):
    (∀ k, k < B → Y.heap[k]? = X.heap[k]?) ∧ Below D w Y ∧ B ≤ Y.heap.size := by
  have hk : ∀ k, k < B → Y.heap[k]? = X.heap[k]? := fun k hk => hg.block k (Nat.lt_of_lt_of_le hk h.bs) (fun e => by have := hrow k e.symm; omega)
  exact ⟨hk, h.b.grown hg (Nat.le_trans (Nat.le_of_lt h.db) h.bs) (fun k e => Nat.le_trans (Nat.le_of_lt h.db) (hrow k e)), Nat.le_trans h.bs hg.size⟩

theorem RdSt.below (h : RdSt X w D P B gL ls nm ims xs ia ic fa fc) (hb : Below X.heap.size X Y) : RdSt Y w D P B gL ls nm ims xs ia ic fa fc :=
  have hp : P < X.heap.size := Nat.lt_of_lt_of_le h.pb h.bs
  have hd : D < X.heap.size := Nat.lt_of_lt_of_le h.db h.bs
  have hg : gL < X.heap.size := Nat.lt_of_lt_of_le h.gb h.bs
  ⟨(hb.cell (p := ⟨P, 0, none⟩) hp).trans h.p0, (hb.cell (p := ⟨P, 1, none⟩) hp).trans h.p1, (hb.cell (p := ⟨P, 2, none⟩) hp).trans h.p2, fun j => (hb.frozen (p := ⟨P, j, none⟩) hp).trans (h.pf j),
   (hb.cell (p := ⟨D, 0, none⟩) hd).trans h.r0, (hb.cell (p := ⟨D, 1, none⟩) hd).trans h.r1, (hb.cell (p := ⟨D, 2, none⟩) hd).trans h.r2, fun j => (hb.frozen (p := ⟨D, j, none⟩) hd).trans (h.rf j),
   fun j hj => (hb.cell (p := ⟨gL, j, none⟩) hg).trans (h.lines j hj), own_below h.oi hb, h.fo.below hb, h.dp, h.gd, h.gp, h.db, h.pb, h.gb, h.b.trans (hb.mono (Nat.le_of_lt hd)), Nat.le_trans h.bs hb.size⟩

theorem RdSt.drew (h : RdSt X w D P B gL ls nm ims xs ia ic fa fc) : RdSt X.drew w D P B gL ls nm ims xs ia ic fa fc := h.below ⟨rfl, rfl, rfl, Nat.le_refl _, fun _ _ => rfl⟩

/-- The package's name is written. -/
theorem RdSt.name0 (h : RdSt X w D P B gL ls nm ims xs ia ic fa fc) (hk : ∀ k, k < B → Y.heap[k]? = X.heap[k]?) (hb : Below D w Y) (hbs : B ≤ Y.heap.size) (x : List UInt8) (oi : Y.ownsRow B 9 1 (.slice ia ims.length ic) ims.length (strV ims)) (fo : FnsOwn Y B (.slice fa xs.length fc) xs) : RdSt (Y.setCell ⟨P, 0, none⟩ (.string ⟨x.toArray⟩)) w D P B gL ls x ims xs ia ic fa fc := by
  have hg := grown_set Y P 0 (.string ⟨x.toArray⟩)
  have off : ∀ {e size n : Nat} {v : Value} {ys : List Value}, Y.ownsRow B e size v n ys → v.ownBlock = none ∨ v.ownBlock ≠ some P := fun ho => own_off ho h.pb
  have hoth : ∀ (q : Addr), q.block ≠ P → q.block < B → (Y.setCell ⟨P, 0, none⟩ (.string ⟨x.toArray⟩)).cell? q = X.cell? q := fun q hq hqb => (World.cell?_setCell_other _ _ _ _ (fun e => hq (by rw [← e]))).trans (World.cell?_of_block (hk _ hqb))
  have hdp : D ≠ P := Nat.ne_of_lt h.dp
  have hfz : ∀ (q : Addr), q.block < B → (Y.setCell ⟨P, 0, none⟩ (.string ⟨x.toArray⟩)).frozen? q = X.frozen? q := fun q hqb => (World.frozen?_setCell ..).trans (World.frozen?_of_block (hk _ hqb))
  have hp : ∀ j, Y.cell? ⟨P, j, none⟩ = X.cell? ⟨P, j, none⟩ := fun j => World.cell?_of_block (hk _ h.pb)
  exact ⟨World.cell?_setCell_same _ _ _ ((hp 0).trans h.p0), (World.cell?_setCell_other _ _ _ _ (by simp)).trans ((hp 1).trans h.p1), (World.cell?_setCell_other _ _ _ _ (by simp)).trans ((hp 2).trans h.p2), fun j => (hfz ⟨P, j, none⟩ h.pb).trans (h.pf j), (hoth _ hdp h.db).trans h.r0, (hoth _ hdp h.db).trans h.r1, (hoth _ hdp h.db).trans h.r2, fun j => (hfz ⟨D, j, none⟩ h.db).trans (h.rf j),
    fun j hj => (hoth ⟨gL, j, none⟩ h.gp h.gb).trans (h.lines j hj), oi.kept hg (off oi), fo.kept hg (off fo.row) (fun y hy => off (fo.trees y hy)), h.dp, h.gd, h.gp, h.db, h.pb, h.gb, hb.grown hg (Nat.le_trans (Nat.le_of_lt h.db) hbs) (fun k e => by injection e with e; have := h.dp; omega), by simpa using hbs⟩

theorem RdSt.name (h : RdSt X w D P B gL ls nm ims xs ia ic fa fc) (x : List UInt8) : RdSt (X.setCell ⟨P, 0, none⟩ (.string ⟨x.toArray⟩)) w D P B gL ls x ims xs ia ic fa fc := h.name0 (fun _ _ => rfl) h.b h.bs x h.oi h.fo

/-- Its imports. -/
theorem RdSt.imp0 (h : RdSt X w D P B gL ls nm ims xs ia ic fa fc) (hk : ∀ k, k < B → Y.heap[k]? = X.heap[k]?) (hb : Below D w Y) (hbs : B ≤ Y.heap.size) {ims' : List (List UInt8)} {ia' : Option Addr} {ic' : Nat} (oi : Y.ownsRow B 9 1 (.slice ia' ims'.length ic') ims'.length (strV ims')) (fo : FnsOwn Y B (.slice fa xs.length fc) xs) : RdSt (Y.setCell ⟨P, 1, none⟩ (.slice ia' ims'.length ic')) w D P B gL ls nm ims' xs ia' ic' fa fc := by
  have hg := grown_set Y P 1 (.slice ia' ims'.length ic')
  have off : ∀ {e size n : Nat} {v : Value} {ys : List Value}, Y.ownsRow B e size v n ys → v.ownBlock = none ∨ v.ownBlock ≠ some P := fun ho => own_off ho h.pb
  have hoth : ∀ (q : Addr), q.block ≠ P → q.block < B → (Y.setCell ⟨P, 1, none⟩ (.slice ia' ims'.length ic')).cell? q = X.cell? q := fun q hq hqb => (World.cell?_setCell_other _ _ _ _ (fun e => hq (by rw [← e]))).trans (World.cell?_of_block (hk _ hqb))
  have hdp : D ≠ P := Nat.ne_of_lt h.dp
  have hfz : ∀ (q : Addr), q.block < B → (Y.setCell ⟨P, 1, none⟩ (.slice ia' ims'.length ic')).frozen? q = X.frozen? q := fun q hqb => (World.frozen?_setCell ..).trans (World.frozen?_of_block (hk _ hqb))
  have hp : ∀ j, Y.cell? ⟨P, j, none⟩ = X.cell? ⟨P, j, none⟩ := fun j => World.cell?_of_block (hk _ h.pb)
  exact ⟨(World.cell?_setCell_other _ _ _ _ (by simp)).trans ((hp 0).trans h.p0), World.cell?_setCell_same _ _ _ ((hp 1).trans h.p1), (World.cell?_setCell_other _ _ _ _ (by simp)).trans ((hp 2).trans h.p2), fun j => (hfz ⟨P, j, none⟩ h.pb).trans (h.pf j), (hoth _ hdp h.db).trans h.r0, (hoth _ hdp h.db).trans h.r1, (hoth _ hdp h.db).trans h.r2, fun j => (hfz ⟨D, j, none⟩ h.db).trans (h.rf j),
    fun j hj => (hoth ⟨gL, j, none⟩ h.gp h.gb).trans (h.lines j hj), oi.kept hg (off oi), fo.kept hg (off fo.row) (fun y hy => off (fo.trees y hy)), h.dp, h.gd, h.gp, h.db, h.pb, h.gb, hb.grown hg (Nat.le_trans (Nat.le_of_lt h.db) hbs) (fun k e => by injection e with e; have := h.dp; omega), by simpa using hbs⟩

/-- Its functions. -/
theorem RdSt.fn1 (h : RdSt X w D P B gL ls nm ims xs ia ic fa fc) (hk : ∀ k, k < B → Y.heap[k]? = X.heap[k]?) (hb : Below D w Y) (hbs : B ≤ Y.heap.size) {xs' : List FV} {fa' : Option Addr} {fc' : Nat} (oi : Y.ownsRow B 9 1 (.slice ia ims.length ic) ims.length (strV ims)) (fo : FnsOwn Y B (.slice fa' xs'.length fc') xs') : RdSt (Y.setCell ⟨P, 2, none⟩ (.slice fa' xs'.length fc')) w D P B gL ls nm ims xs' ia ic fa' fc' := by
  have hg := grown_set Y P 2 (.slice fa' xs'.length fc')
  have off : ∀ {e size n : Nat} {v : Value} {ys : List Value}, Y.ownsRow B e size v n ys → v.ownBlock = none ∨ v.ownBlock ≠ some P := fun ho => own_off ho h.pb
  have hoth : ∀ (q : Addr), q.block ≠ P → q.block < B → (Y.setCell ⟨P, 2, none⟩ (.slice fa' xs'.length fc')).cell? q = X.cell? q := fun q hq hqb => (World.cell?_setCell_other _ _ _ _ (fun e => hq (by rw [← e]))).trans (World.cell?_of_block (hk _ hqb))
  have hdp : D ≠ P := Nat.ne_of_lt h.dp
  have hfz : ∀ (q : Addr), q.block < B → (Y.setCell ⟨P, 2, none⟩ (.slice fa' xs'.length fc')).frozen? q = X.frozen? q := fun q hqb => (World.frozen?_setCell ..).trans (World.frozen?_of_block (hk _ hqb))
  have hp : ∀ j, Y.cell? ⟨P, j, none⟩ = X.cell? ⟨P, j, none⟩ := fun j => World.cell?_of_block (hk _ h.pb)
  exact ⟨(World.cell?_setCell_other _ _ _ _ (by simp)).trans ((hp 0).trans h.p0), (World.cell?_setCell_other _ _ _ _ (by simp)).trans ((hp 1).trans h.p1), World.cell?_setCell_same _ _ _ ((hp 2).trans h.p2), fun j => (hfz ⟨P, j, none⟩ h.pb).trans (h.pf j), (hoth _ hdp h.db).trans h.r0, (hoth _ hdp h.db).trans h.r1, (hoth _ hdp h.db).trans h.r2, fun j => (hfz ⟨D, j, none⟩ h.db).trans (h.rf j),
    fun j hj => (hoth ⟨gL, j, none⟩ h.gp h.gb).trans (h.lines j hj), oi.kept hg (off oi), fo.kept hg (off fo.row) (fun y hy => off (fo.trees y hy)), h.dp, h.gd, h.gp, h.db, h.pb, h.gb, hb.grown hg (Nat.le_trans (Nat.le_of_lt h.db) hbs) (fun k e => by injection e with e; have := h.dp; omega), by simpa using hbs⟩

theorem RdSt.import (h : RdSt X w D P B gL ls nm ims xs ia ic fa fc) (x : List UInt8) (hn : ims.length ≤ 1048576) :
    ∃ g' c' Y, (Builtin.append_ #[22, 22] 22 #[.slice ia ims.length ic, .slice (some ⟨X.heap.size, 0, none⟩) 1 1]).run Tryd.prog (X.alloc (.cells #[.string ⟨x.toArray⟩] 9)) = .ok (.slice (some ⟨g', 0, none⟩) (ims.length + 1) c') Y ∧
      Y.cell? ⟨P, 1, none⟩ = some (.slice ia ims.length ic) ∧ (∀ j, Y.frozen? ⟨P, j, none⟩ = false) ∧ RdSt (Y.setCell ⟨P, 1, none⟩ (.slice (some ⟨g', 0, none⟩) (ims.length + 1) c')) w D P B gL ls nm (ims ++ [x]) xs (some ⟨g', 0, none⟩) c' fa fc := by
  obtain ⟨i0, hi, hz0, hz1, hz2⟩ := info_parts info9
  have hX1 : Below X.heap.size X (X.alloc (.cells #[.string ⟨x.toArray⟩] 9)) := (Below.refl _ _).alloc (Nat.le_refl _) _
  have h1 := h.below hX1
  obtain ⟨v', Y, hrun, hown, hg, _⟩ := run_append_src (P := Tryd.prog) (X.alloc (.cells #[.string ⟨x.toArray⟩] 9)) B 22 22 9 i0 _ 1 16 Tryd.underlying22 hi hz0 hz1 hz2 rfl (by decide) _ _ _ h1.oi _ 1 (strV [x]) (new_str X x 1) (by unfold maxLen; omega) (by omega) h1.bs
  obtain ⟨g', c', rfl⟩ := own_some hown (by omega)
  obtain ⟨hk, hb, hbs⟩ := h1.grown hg (fun k e => (h1.oi.lt k e).1)
  have hown2 : Y.ownsRow B 9 1 (.slice (some ⟨g', 0, none⟩) (ims ++ [x]).length c') (ims ++ [x]).length (strV (ims ++ [x])) := by
    have e1 : (ims ++ [x]).length = ims.length + 1 := by simp
    have e2 : strV (ims ++ [x]) = strV ims ++ strV [x] := by simp [strV]
    rw [e1, e2]; exact hown
  have hfo : FnsOwn Y B (.slice fa xs.length fc) xs := h1.fo.kept hg (own_types h1.fo.row h1.oi (by decide)) (fun y hy => own_types (h1.fo.trees y hy) h1.oi (by decide))
  have hz := h1.imp0 hk hb hbs hown2 hfo
  refine ⟨g', c', Y, hrun, (World.cell?_of_block (a := ⟨P, 1, none⟩) (hk _ h1.pb)).trans h1.p1, fun j => (World.frozen?_of_block (a := ⟨P, j, none⟩) (hk _ h1.pb)).trans (h1.pf j), ?_⟩
  have e1 : (ims ++ [x]).length = ims.length + 1 := by simp
  rw [e1] at hz
  exact hz

theorem RdSt.func (h : RdSt X w D P B gL ls nm ims xs ia ic fa fc) (y : FV) (hy : X.ownsRow B 65 4 (fvT y) y.1.2.2.length (nodesV y.1.2.2)) (hn : xs.length ≤ 1048576) :
    ∃ g' c' Y, (Builtin.append_ #[28, 28] 28 #[.slice fa xs.length fc, .slice (some ⟨X.heap.size, 0, none⟩) 1 1]).run Tryd.prog (X.alloc (.cells #[.string ⟨y.1.1.toArray⟩, .int .i64 y.1.2.1, fvT y] 42)) = .ok (.slice (some ⟨g', 0, none⟩) (xs.length + 1) c') Y ∧
      Y.cell? ⟨P, 2, none⟩ = some (.slice fa xs.length fc) ∧ (∀ j, Y.frozen? ⟨P, j, none⟩ = false) ∧ RdSt (Y.setCell ⟨P, 2, none⟩ (.slice (some ⟨g', 0, none⟩) (xs.length + 1) c')) w D P B gL ls nm ims (xs ++ [y]) ia ic (some ⟨g', 0, none⟩) c' := by
  obtain ⟨i0, hi, hz0, hz1, hz2⟩ := info_parts infoFunc
  have hX1 : Below X.heap.size X (X.alloc (.cells #[.string ⟨y.1.1.toArray⟩, .int .i64 y.1.2.1, fvT y] 42)) := (Below.refl _ _).alloc (Nat.le_refl _) _
  have h1 := h.below hX1
  have hy1 := own_below hy hX1
  obtain ⟨v', Y, hrun, hown, hg, _⟩ := run_append_src (P := Tryd.prog) (X.alloc (.cells #[.string ⟨y.1.1.toArray⟩, .int .i64 y.1.2.1, fvT y] 42)) B 28 28 42 i0 _ 3 48 Tryd.underlying28 hi hz0 hz1 hz2 rfl (by decide) _ _ _ h1.fo.row _ 1 (fnsV [y]) (new_fn X y 1) (by unfold maxLen; omega) (by omega) h1.bs
  obtain ⟨g', c', rfl⟩ := own_some hown (by omega)
  obtain ⟨hk, hb, hbs⟩ := h1.grown hg (fun k e => (h1.fo.row.lt k e).1)
  have e1 : (xs ++ [y]).length = xs.length + 1 := by simp
  have hown2 : Y.ownsRow B 42 3 (.slice (some ⟨g', 0, none⟩) (xs ++ [y]).length c') (xs ++ [y]).length (fnsV (xs ++ [y])) := by
    rw [e1, fnsV_append]; exact hown
  have htr : ∀ z ∈ xs ++ [y], Y.ownsRow B 65 4 (fvT z) z.1.2.2.length (nodesV z.1.2.2) := fun z hz => by
    rw [List.mem_append, List.mem_singleton] at hz
    rcases hz with hz | rfl
    · exact (h1.fo.trees z hz).kept hg (own_types (h1.fo.trees z hz) h1.fo.row (by decide))
    · exact hy1.kept hg (own_types hy1 h1.fo.row (by decide))
  have hoi := h1.oi.kept hg (own_types h1.oi h1.fo.row (by decide))
  have hz := h1.fn1 hk hb hbs hoi (⟨hown2, htr⟩ : FnsOwn Y B _ (xs ++ [y]))
  refine ⟨g', c', Y, hrun, (World.cell?_of_block (a := ⟨P, 2, none⟩) (hk _ h1.pb)).trans h1.p2, fun j => (World.frozen?_of_block (a := ⟨P, j, none⟩) (hk _ h1.pb)).trans (h1.pf j), ?_⟩
  rw [e1] at hz
  exact hz
end

end Go.Proofs.YtiekcenknniniaaDoor

/-! The contracts of the exact laws' own helpers over lists of texts: eqStringS, markStringS, heldStringS, markText. -/
namespace Go.Proofs.YtiekcenknniniaaDoor
open Go.RowKit

/-- The digits of k ahead of acc. -/
def markGo : Nat → Nat → List UInt8 → List UInt8
  | 0, _, acc => acc
  | f + 1, k, acc => if k = 0 then acc else markGo f (k / 10) ((48 + UInt8.ofNat (k % 10)) :: acc)
def markL (k : Nat) : List UInt8 := 109 :: markGo k k []

theorem markGo_zero (f : Nat) (acc : List UInt8) : markGo f 0 acc = acc := by
  cases f with
  | zero => rfl
  | succ f => simp [markGo]

theorem markGo_step (f k : Nat) (acc : List UInt8) (h : k ≤ f) (hk : 0 < k) : ∃ f', k / 10 ≤ f' ∧ markGo f k acc = markGo f' (k / 10) ((48 + UInt8.ofNat (k % 10)) :: acc) := by
  obtain ⟨f', rfl⟩ : ∃ f', f = f' + 1 := ⟨f - 1, by omega⟩
  refine ⟨f', by omega, ?_⟩
  conv => lhs; unfold markGo
  rw [if_neg (by omega)]


end Go.Proofs.YtiekcenknniniaaDoor

/-! The contracts of the exact laws' own helpers over lists of texts: eqStringS, markStringS, heldStringS. -/
namespace Go.Proofs.YtiekcenknniniaaDoor
open Go.RowKit

set_option maxHeartbeats 1000000 in
set_option maxRecDepth 100000 in
theorem eqStrC (w : World) (ba bb ga gb ca cb : Nat) (ls : List (List UInt8)) (hn : ls.length ≤ 1100000)
    (ha : w.ownsRow ba 9 1 (.slice (some ⟨ga, 0, none⟩) ls.length ca) ls.length (strV ls)) (hb : w.ownsRow bb 9 1 (.slice (some ⟨gb, 0, none⟩) ls.length cb) ls.length (strV ls)) :
    Calls Tryd.prog 21 #[.slice (some ⟨ga, 0, none⟩) ls.length ca, .slice (some ⟨gb, 0, none⟩) ls.length cb] w fun e w' => e = .returned (.bool true) ∧ w.grownBy w' none := by
  have hne : ((ls.length : Int) != (ls.length : Int)) = false := by simp
  have hself : ∀ l : List UInt8, (l != l) = false := by simp
  have HA : Hid (∀ j (hj : j < ls.length), w.cell? ⟨ga, j, none⟩ = some (.string ⟨ls[j].toArray⟩)) := fun j hj => str_cells ha j hj
  have HB : Hid (∀ j (hj : j < ls.length), w.cell? ⟨gb, j, none⟩ = some (.string ⟨ls[j].toArray⟩)) := fun j hj => str_cells hb j hj
  clear ha hb
  go_enter Tryd.func21, Tryd.ntmps21
  go_wp2
  go_loopw [5] (fun i wr => ∃ k : Nat, k ≤ ls.length ∧ i = .int .i64 k ∧ w.grownBy wr none) (fun i _ => ls.length - (intOf i).toNat)
  case atStart => exact ⟨0, Nat.zero_le _, rfl, World.grownBy.refl _ _⟩
  case round =>
    obtain ⟨k, hk, rfl, hg⟩ := hrel
    by_cases hlt : k < ls.length
    · obtain ⟨t, ht⟩ : ∃ t, ls[k] = t := ⟨_, rfl⟩
      have hca : wr.cell? ⟨ga, k, none⟩ = some (.string ⟨t.toArray⟩) := by rw [← ht]; exact hg.cell (HA.out k hlt) (by simp)
      have hcb : wr.cell? ⟨gb, k, none⟩ = some (.string ⟨t.toArray⟩) := by rw [← ht]; exact hg.cell (HB.out k hlt) (by simp)
      clear ht
      go_wp2
      go_region
      all_goals (try go_wp2)
      go_roundw
      case rel => exact ⟨k + 1, by omega, by go_num, hg.trans (grown_drew _ _)⟩
      case measure => simp [intOf]; omega
    · go_wp2
      go_ret
      exact ⟨rfl, hg⟩

/-- The marks from k on. -/
def marksV (k : Nat) : Nat → List Value
  | 0 => []
  | n + 1 => marksV k n ++ [.string ⟨(markL (k + n)).toArray⟩]

theorem marksV_len (k n : Nat) : (marksV k n).length = n := by
  induction n with
  | zero => rfl
  | succ n ih => simp [marksV, ih]

theorem marksV_at (k n j : Nat) (h : j < n) : (marksV k n)[j]? = some (.string ⟨(markL (k + j)).toArray⟩) := by
  induction n with
  | zero => omega
  | succ n ih =>
    unfold marksV
    by_cases hj : j < n
    · rw [List.getElem?_append_left (by rw [marksV_len]; exact hj)]; exact ih hj
    · obtain rfl : j = n := by omega
      rw [List.getElem?_append_right (by rw [marksV_len]; omega), marksV_len]
      simp

theorem marks_set (k i : Nat) (xs : List Value) (h : i < xs.length) : (marksV k i ++ xs.drop i).set i (.string ⟨(markL (k + i)).toArray⟩) = marksV k (i + 1) ++ xs.drop (i + 1) := by
  rw [List.set_append, if_neg (by rw [marksV_len]; omega), marksV_len, Nat.sub_self]
  rw [List.drop_eq_getElem_cons h, List.set_cons_zero]
  conv => rhs; unfold marksV
  rw [List.append_assoc]; rfl



end Go.Proofs.YtiekcenknniniaaDoor

/-! The helpers over lists of texts, whatever the list's value: nil, empty or not. -/
namespace Go.Proofs.YtiekcenknniniaaDoor
open Go.RowKit

set_option maxHeartbeats 400000 in
set_option maxRecDepth 100000 in
theorem eqStrEmpty (w : World) (aa ab : Option Addr) (ca cb : Nat) :
    Calls Tryd.prog 21 #[.slice aa 0 ca, .slice ab 0 cb] w fun e w' => e = .returned (.bool true) ∧ w.grownBy w' none := by
  go_enter Tryd.func21, Tryd.ntmps21
  go_wp2
  refine wp_loop_rounds 1 ?_
  rw [rounds_succ]
  go_wp2
  go_ret
  exact ⟨rfl, World.grownBy.refl _ _⟩

theorem eqStrV (w : World) (ba bb : Nat) (va vb : Value) (ls : List (List UInt8)) (hn : ls.length ≤ 1100000)
    (ha : w.ownsRow ba 9 1 va ls.length (strV ls)) (hb : w.ownsRow bb 9 1 vb ls.length (strV ls)) :
    Calls Tryd.prog 21 #[va, vb] w fun e w' => e = .returned (.bool true) ∧ w.grownBy w' none := by
  rcases own_forms ha with ⟨rfl, h0, _⟩ | ⟨ga, ca, rfl⟩
  · rcases own_forms hb with ⟨rfl, _, _⟩ | ⟨gb, cb, rfl⟩
    · exact eqStrEmpty w none none 0 0
    · rw [h0]; exact eqStrEmpty w none (some ⟨gb, 0, none⟩) 0 cb
  · rcases own_forms hb with ⟨rfl, h0, _⟩ | ⟨gb, cb, rfl⟩
    · rw [h0]; exact eqStrEmpty w (some ⟨ga, 0, none⟩) none ca 0
    · exact eqStrC w ba bb ga gb ca cb ls hn ha hb



end Go.Proofs.YtiekcenknniniaaDoor

/-! A list of texts that came in, as the walks take it; the exact laws' helpers over such lists: szStringS, toStringS. -/
namespace Go.Proofs.YtiekcenknniniaaDoor
open Go.ChangeShapes Go.WideShapes Go.ChangeAt Go.RowKit

set_option maxRecDepth 100000 in
theorem open_texts {H : Type} {enc : TypeId × Value → H} {W : World} {base b0 : Nat} {spare : Nat → Bool} {held : Bool} {v : Value} {d : DataW H} {p : List MemPlace}
    (hv : Value.okWide Tryd.prog W .any b0 22 v) (h : DataW.Trod enc Tryd.prog W base spare held 22 v d p) :
    ∃ a len cap ts, v = .slice a len cap ∧ TextsIn W a len ts ∧ len ≤ maxLen ∧ ∀ j, (ts.getD j []).length ≤ maxLen := by
  obtain ⟨a0, len, cap, rfl⟩ := okWide_slice Tryd.underlying22 hv
  obtain ⟨fuel, hf⟩ := h
  rcases open_strings Tryd.underlying22 Tryd.underlying9 (by kernel_rfl) hf with ⟨hcs, _⟩ | ⟨a, l, c, ss, hcs, _, hl, hm, hlen, _, hcell, hsz⟩
  · simp [Value.cells] at hcs
    obtain ⟨rfl, rfl, rfl⟩ := hcs
    exact ⟨none, 0, 0, [], rfl, ⟨rfl, fun j hj => by omega⟩, by decide, fun j => by simp⟩
  · simp [Value.cells] at hcs
    obtain ⟨rfl, rfl, rfl⟩ := hcs
    have hls : len ≤ ss.length := by rw [hlen]; split <;> omega
    have hgd : ∀ j, j < len → ((ss.take len).map (fun s => s.data.toList)).getD j [] = (ss.getD j ByteArray.empty).data.toList := by
      intro j hj
      have hj2 : j < ss.length := by omega
      simp [List.getD, hj, hj2]
    refine ⟨some a, len, cap, (ss.take len).map (fun s => s.data.toList), rfl, ⟨by simp; omega, fun j hj => ?_⟩, by omega, fun j => ?_⟩
    · have hc := hcell j (by omega)
      have hsp : a.spot = none := by
        have h0 := hcell 0 (by omega)
        simpa [Addr.add] using World.cell?_spot h0
      obtain ⟨b, off, spot⟩ := a
      simp at hsp
      subst hsp
      have e : ∀ i, (⟨b, off, none⟩ : Addr).add i = ⟨b, off + i, none⟩ := fun i => by unfold Addr.add; split <;> simp_all
      rw [e] at hc
      refine ⟨b, off, rfl, World.block_lt_of_cell? W ⟨b, off + j, none⟩ hc, ?_⟩
      rw [hc, hgd j hj]
    · by_cases hj : j < len
      · rw [hgd j hj]
        have hj2 : j < ss.length := by omega
        have : ss.getD j ByteArray.empty ∈ ss := by simp [List.getD, hj2]
        have hz := hsz _ this
        simpa using hz
      · have : ((ss.take len).map (fun s => s.data.toList)).getD j [] = [] := by rw [List.getD, List.getElem?_eq_none (by simp; omega)]; rfl
        rw [this]; simp

def szT (m n : Nat) (left : Int) : Int := if (m : Int) + (n : Int) ≤ left then left - (m : Int) - (n : Int) else -1
theorem szT_yes {m n : Nat} {left : Int} (h : (m : Int) + (n : Int) ≤ left) : szT m n left = left - (m : Int) - (n : Int) := by unfold szT; rw [if_pos h]
theorem szT_no {m n : Nat} {left : Int} (h : ¬ (m : Int) + (n : Int) ≤ left) : szT m n left = -1 := by unfold szT; rw [if_neg h]

/-- How many bytes in all. -/
def joinN (ts : List (List UInt8)) : Nat := ts.flatten.length

theorem joinN_snoc (ts : List (List UInt8)) (k : Nat) (hk : k < ts.length) : joinN (ts.take (k + 1)) = joinN (ts.take k) + (ts.getD k []).length := by
  have := congrArg List.length (flat_snoc ts k hk)
  rw [List.length_append] at this
  exact this

theorem joinN_take (ts : List (List UInt8)) (k : Nat) : joinN (ts.take k) ≤ joinN ts := flat_take ts k

set_option maxHeartbeats 1000000 in
set_option maxRecDepth 100000 in
theorem szStringSC (a : Option Addr) (len cap : Nat) (ts : List (List UInt8)) (left : Int) (w : World) (hin : TextsIn w a len ts) (h0 : 0 ≤ left) (h1 : left ≤ 1048576) (hl : len ≤ maxLen) (hm : ∀ j, (ts.getD j []).length ≤ maxLen) :
    Calls Tryd.prog 9 #[.slice a len cap, .int .i64 left] w fun e w' => e = .returned (.int .i64 (szT len (joinN ts) left)) ∧ w' = w := by
  unfold maxLen at hl
  have hl2 : (len : Int) ≤ 9223372036854775807 := by omega
  have hlb := hin.1
  by_cases h : (len : Int) ≤ left
  · have hlen : len ≤ 1048576 := by omega
    have HI : Hid (TextsIn w a len ts) := hin
    have HM : Hid (∀ j, (ts.getD j []).length ≤ maxLen) := hm
    clear hin hm
    go_enter Tryd.func9, Tryd.ntmps9
    go_wp2
    go_loop [1, 5] (fun l i => ∃ k : Nat, k ≤ len ∧ i = .int .i64 k ∧ l = .int .i64 (left - (len : Int) - (joinN (ts.take k) : Int)) ∧ (joinN (ts.take k) : Int) ≤ left - (len : Int)) (fun _ i => len - (intOf i).toNat)
    case atStart => exact ⟨0, Nat.zero_le _, rfl, by simp [joinN], by simp [joinN]; omega⟩
    case round =>
      obtain ⟨k, hk, rfl, rfl, hle⟩ := hrel
      by_cases hkl : (k : Int) < (len : Int)
      · obtain ⟨b, off, rfl, hbl, hcells⟩ := HI.out.at (by omega)
        have ck := hcells k (by omega)
        have hmk := HM.out k
        have hfs := joinN_snoc ts k (by omega)
        have hft := joinN_take ts (k + 1)
        obtain ⟨t, ht⟩ : ∃ t, ts.getD k [] = t := ⟨_, rfl⟩
        rw [ht] at ck hmk hfs
        unfold maxLen at hmk
        have hmk2 : (t.length : Int) ≤ 9223372036854775807 := by omega
        obtain ⟨m, hmm⟩ : ∃ m, joinN (ts.take k) = m := ⟨_, rfl⟩
        have HS : Hid (joinN (ts.take (k + 1)) = m + t.length) := by rw [← hmm]; exact hfs
        rw [hmm] at hle ⊢
        clear hcells ht hfs
        by_cases hfit : (t.length : Int) ≤ left - (len : Int) - (m : Int)
        · have hge : (0 : Int) ≤ left - (len : Int) - (m : Int) - (t.length : Int) := by omega
          have HR : Hid ((joinN (ts.take (k + 1)) : Int) ≤ left - (len : Int) ∧ left - (len : Int) - (joinN (ts.take (k + 1)) : Int) = left - (len : Int) - (m : Int) - (t.length : Int)) := by
            exact (by rw [HS.out]; omega : (joinN (ts.take (k + 1)) : Int) ≤ left - (len : Int) ∧ left - (len : Int) - (joinN (ts.take (k + 1)) : Int) = left - (len : Int) - (m : Int) - (t.length : Int))
          clear hmm hft
          go_wp2
          go_round
          case rel => exact ⟨k + 1, by omega, by go_num, by rw [HR.out.2], HR.out.1⟩
          case measure => simp [intOf]; omega
        · have HR : Hid (szT len (joinN ts) left = -1) := szT_no (by have := HS.out; omega)
          have hlt : left - (len : Int) - (m : Int) - (t.length : Int) < 0 := by omega
          clear hmm hft
          go_wp2
          go_ret
          exact ⟨by rw [HR.out]; rfl, rfl⟩
      · have HT : Hid (ts.take k = ts) := List.take_of_length_le (by omega)
        have HR : Hid (szT len (joinN ts) left = left - (len : Int) - (joinN (ts.take k) : Int)) := by exact (by rw [HT.out] at hle ⊢; exact szT_yes (by omega) : szT len (joinN ts) left = left - (len : Int) - (joinN (ts.take k) : Int))
        go_wp2
        go_ret
        exact ⟨by rw [HR.out]; rfl, rfl⟩
  · have HR : Hid (szT len (joinN ts) left = -1) := szT_no (by omega)
    clear hin hm
    go_enter Tryd.func9, Tryd.ntmps9
    go_wp2
    go_ret
    exact ⟨by rw [HR.out]; rfl, rfl⟩

theorem made_texts (n : Nat) : (madeCells (Value.cells (.string ⟨#[]⟩)) (n * 1)).toList = strV (List.replicate n []) := by
  have hc : Value.cells (.string ⟨#[]⟩) = #[.string ⟨#[]⟩] := rfl
  rw [hc, Nat.mul_one]
  apply List.ext_getElem?
  intro j
  by_cases hj : j < n
  · rw [strV_at _ j (by simpa using hj)]
    simp [madeCells, hj, Nat.mod_one]
  · rw [List.getElem?_eq_none (by simp [madeCells]; omega), List.getElem?_eq_none (by rw [strV_len]; simp; omega)]

theorem fill_text (ts : List (List UInt8)) (k : Nat) (hk : k < ts.length) : (strV (ts.take k ++ List.replicate (ts.length - k) [])).set k (.string ⟨(ts.getD k []).toArray⟩) = strV (ts.take (k + 1) ++ List.replicate (ts.length - (k + 1)) []) := by
  have hg : ts.getD k [] = ts[k] := by simp [List.getD, hk]
  have e : (ts.take k ++ List.replicate (ts.length - k) []).set k ts[k] = ts.take (k + 1) ++ List.replicate (ts.length - (k + 1)) [] := by
    rw [List.set_append_right _ _ (by rw [List.length_take]; omega), List.length_take, Nat.min_eq_left (by omega), Nat.sub_self, show ts.length - k = (ts.length - (k + 1)) + 1 by omega, List.replicate_succ, List.set_cons_zero, List.take_succ_eq_append_getElem hk, List.append_assoc]
    rfl
  rw [hg, ← e]
  unfold strV
  rw [List.map_set]

set_option maxHeartbeats 2000000 in
set_option maxRecDepth 100000 in
theorem toStringSC (a : Option Addr) (len cap : Nat) (ts : List (List UInt8)) (w : World) (hin : TextsIn w a len ts) (hlen : len ≤ 1048576) :
    Calls Tryd.prog 13 #[.slice a len cap] w fun e w' => ∃ v, e = .returned v ∧ w'.ownsRow w.heap.size 9 1 v len (strV ts) ∧ v ≠ .slice none 0 0 ∧ Below w.heap.size w w' := by
  obtain ⟨i0, hi, hz0, hz1, hz2⟩ := info_parts info9
  have hlb := hin.1
  have HI : Hid (TextsIn w a len ts) := hin
  clear hin
  go_enter Tryd.func13, Tryd.ntmps13
  go_wp2_with (at_make; refine wpList_make_full _ rfl _ _ 22 rfl w.heap.size 9 i0 _ 1 Tryd.underlying22 hi hz0 hz1 .i64 .i64 _ _ len rfl rfl rfl rfl (by rw [hz2]; omega) (by unfold maxLen; omega) (Nat.le_refl _) ?_; intro w1 hown1 hgrow1)
  rw [made_texts] at hown1
  have hB1 : Below w.heap.size w w1 := (Below.refl _ _).grown hgrow1 (Nat.le_refl _) (by simp)
  clear hgrow1
  go_loopw [4] (fun i wr => ∃ k : Nat, k ≤ len ∧ i = .int .i64 k ∧ wr.ownsRow w.heap.size 9 1 (.slice (some ⟨w.heap.size, 0, none⟩) len len) len (strV (ts.take k ++ List.replicate (ts.length - k) [])) ∧ Below w.heap.size w wr) (fun i _ => len - (intOf i).toNat)
  case atStart => exact ⟨0, Nat.zero_le _, rfl, by simpa [hlb] using hown1, hB1⟩
  case round =>
    obtain ⟨k, hk, rfl, hown, hB⟩ := hrel
    clear hown1 hB1
    by_cases hkl : (k : Int) < (len : Int)
    · obtain ⟨b, off, rfl, hbl, hcells⟩ := (HI.out.below hB).at (by omega)
      have ck := hcells k (by omega)
      have hst := (hown.stored k (.string ⟨(ts.getD k []).toArray⟩)).1
      rw [fill_text ts k (by omega)] at hst
      obtain ⟨u0, d0⟩ : ∃ u, wr.cell? ⟨w.heap.size, k, none⟩ = some u := by
        rw [hown.cellAt k (by omega), strV_at _ k (by rw [List.length_append, List.length_take, List.length_replicate]; omega)]; exact ⟨_, rfl⟩
      have e0 := hown.frozenAt k
      obtain ⟨t, ht⟩ : ∃ t, ts.getD k [] = t := ⟨_, rfl⟩
      rw [ht] at ck hst
      have hB3 := hB.setCell (p := ⟨w.heap.size, k, none⟩) (Nat.le_refl _) (.string ⟨t.toArray⟩)
      clear hcells ht hown
      go_wp2
      go_roundw
      case rel => exact ⟨k + 1, by omega, by go_num, hst, hB3⟩
      case measure => simp [intOf]; omega
    · have hd : ts.take k ++ List.replicate (ts.length - k) [] = ts := by rw [List.take_of_length_le (by omega), show ts.length - k = 0 by omega]; simp
      rw [hd] at hown
      clear hd
      go_wp2
      go_ret
      exact ⟨_, rfl, hown, by simp, hB⟩

end Go.Proofs.YtiekcenknniniaaDoor

/-! The laws' own helper eqStringS over texts that can be read. -/
namespace Go.Proofs.YtiekcenknniniaaDoor
open Go.RowKit

set_option maxHeartbeats 1000000 in
set_option maxRecDepth 100000 in
theorem eqTextsC (a b : Option Addr) (len ca cb : Nat) (ts : List (List UInt8)) (w : World) (ha : TextsIn w a len ts) (hb : TextsIn w b len ts) (hlen : len ≤ 4194304) :
    Calls Tryd.prog 21 #[.slice a len ca, .slice b len cb] w fun e w' => e = .returned (.bool true) ∧ Below w.heap.size w w' := by
  have hne : ((len : Int) != (len : Int)) = false := by simp
  have hself : ∀ l : List UInt8, (l != l) = false := by simp
  have HA : Hid (TextsIn w a len ts) := ha
  have HB : Hid (TextsIn w b len ts) := hb
  clear ha hb
  go_enter Tryd.func21, Tryd.ntmps21
  go_wp2
  go_loopw [5] (fun i wr => ∃ k : Nat, k ≤ len ∧ i = .int .i64 k ∧ Below w.heap.size w wr) (fun i _ => len - (intOf i).toNat)
  case atStart => exact ⟨0, Nat.zero_le _, rfl, Below.refl _ _⟩
  case round =>
    obtain ⟨k, hk, rfl, hB⟩ := hrel
    by_cases hkl : (k : Int) < (len : Int)
    · obtain ⟨b1, o1, rfl, hb1, hca⟩ := (HA.out.below hB).2 k (by omega)
      obtain ⟨b2, o2, rfl, hb2, hcb⟩ := (HB.out.below hB).2 k (by omega)
      obtain ⟨t, ht⟩ : ∃ t, ts.getD k [] = t := ⟨_, rfl⟩
      rw [ht] at hca hcb
      clear ht
      go_wp2
      go_region
      all_goals (try go_wp2)
      go_roundw
      case rel => exact ⟨k + 1, by omega, by go_num, hB.drew⟩
      case measure => simp [intOf]; omega
    · go_wp2
      go_ret
      exact ⟨rfl, hB⟩

end Go.Proofs.YtiekcenknniniaaDoor
