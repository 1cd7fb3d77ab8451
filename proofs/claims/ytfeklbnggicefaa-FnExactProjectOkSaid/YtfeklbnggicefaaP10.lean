/-
  Parts of one proof, one behind the other: PackO, PackW, HeapI.
-/
import Derived.Test.YtfeklbnggicefaaP9
import Derived.Test.YtfeklbnggicefaaP6
import Derived.Deep.RegionHeld3
import Derived.Lib.Hide

/-! A package that a call has made: its imports, its functions, their trees, each in a row of its own. -/
namespace Go.Proofs.Ytfeklbnggicefaa
open Go.RowKit

/-- A function, and where its tree lies. -/
abbrev FV := Fn × Option Addr × Nat
def fvT (x : FV) : Value := .slice x.2.1 x.1.2.2.length x.2.2
def fnsV : List FV → List Value
  | [] => []
  | x :: r => .string ⟨x.1.1.toArray⟩ :: .int .i64 x.1.2.1 :: fvT x :: fnsV r

def fv0 : FV := (fn0, none, 0)

theorem fnsV_len (xs : List FV) : (fnsV xs).length = xs.length * 3 := by
  induction xs with
  | nil => rfl
  | cons n r ih => simp only [fnsV, List.length_cons, ih]; omega

theorem fnsV_append (x y : List FV) : fnsV (x ++ y) = fnsV x ++ fnsV y := by
  induction x with
  | nil => rfl
  | cons n r ih => simp [fnsV, ih]

theorem fnsV_one (xs : List FV) : ∀ u ∈ fnsV xs, u.oneCell' = true := by
  induction xs with
  | nil => intro u hu; cases hu
  | cons n r ih =>
    intro u hu
    simp only [fnsV, List.mem_cons] at hu
    rcases hu with rfl | rfl | rfl | h
    · rfl
    · rfl
    · rfl
    · exact ih u h

theorem fnsV_at (xs : List FV) (j : Nat) (hj : j < xs.length) : (fnsV xs)[j * 3]? = some (.string ⟨(xs.getD j fv0).1.1.toArray⟩) ∧ (fnsV xs)[j * 3 + 1]? = some (.int .i64 (xs.getD j fv0).1.2.1) ∧ (fnsV xs)[j * 3 + 2]? = some (fvT (xs.getD j fv0)) := by
  induction xs generalizing j with
  | nil => simp at hj
  | cons n r ih =>
    cases j with
    | zero => simp [fnsV]
    | succ j =>
      obtain ⟨h0, h1, h2⟩ := ih j (by simpa using hj)
      refine ⟨?_, ?_, ?_⟩
      · rw [show (j + 1) * 3 = j * 3 + 1 + 1 + 1 by omega]; simpa [fnsV] using h0
      · rw [show (j + 1) * 3 + 1 = j * 3 + 1 + 1 + 1 + 1 by omega]; simpa [fnsV] using h1
      · rw [show (j + 1) * 3 + 2 = j * 3 + 2 + 1 + 1 + 1 by omega]; simpa [fnsV] using h2

/-- Rows of elements of two types lie in two blocks. -/
theorem own_types {w : World} {b1 b2 e1 e2 s1 s2 n1 n2 : Nat} {v1 v2 : Value} {xs ys : List Value} (h1 : w.ownsRow b1 e1 s1 v1 n1 xs) (h2 : w.ownsRow b2 e2 s2 v2 n2 ys) (he : e1 ≠ e2) : v1.ownBlock = none ∨ v1.ownBlock ≠ v2.ownBlock := by
  rcases h1.2 with ⟨rfl, _⟩ | ⟨g, c, cur, rfl, _, hg, _⟩
  · exact Or.inl rfl
  · rcases h2.2 with ⟨rfl, _⟩ | ⟨g2, c2, cur2, rfl, _, hg2, _⟩
    · exact Or.inr (by simp [Value.ownBlock])
    · refine Or.inr (fun e => ?_)
      simp only [Value.ownBlock, Option.some.injEq] at e
      subst e
      rw [hg] at hg2
      simp only [Option.some.injEq, Obj.cells.injEq] at hg2
      exact he hg2.2.1

structure FnsOwn (w : World) (base : Nat) (v : Value) (xs : List FV) : Prop where
  row : w.ownsRow base 74 3 v xs.length (fnsV xs)
  trees : ∀ x ∈ xs, w.ownsRow base 107 4 (fvT x) x.1.2.2.length (nodesV x.1.2.2)

theorem FnsOwn.below {w w' : World} {base : Nat} {v : Value} {xs : List FV} (h : FnsOwn w base v xs) (hb : Below w.heap.size w w') : FnsOwn w' base v xs := ⟨own_below h.row hb, fun x hx => own_below (h.trees x hx) hb⟩

theorem FnsOwn.kept {w w' : World} {base : Nat} {v : Value} {xs : List FV} {row : Option Nat} (h : FnsOwn w base v xs) (hg : w.grownBy w' row) (h1 : v.ownBlock = none ∨ v.ownBlock ≠ row) (h2 : ∀ x ∈ xs, (fvT x).ownBlock = none ∨ (fvT x).ownBlock ≠ row) : FnsOwn w' base v xs :=
  ⟨h.row.kept hg h1, fun x hx => (h.trees x hx).kept hg (h2 x hx)⟩

theorem FnsOwn.base {w : World} {base b2 : Nat} {v : Value} {xs : List FV} (h : FnsOwn w base v xs) (hb : b2 ≤ base) : FnsOwn w b2 v xs := ⟨own_base h.row hb, fun x hx => own_base (h.trees x hx) hb⟩

theorem FnsOwn.nil (w : World) (base : Nat) : FnsOwn w base (.slice none 0 0) [] := ⟨World.ownsRow_nil w _ _ _, fun x hx => by cases hx⟩

theorem getD_map_fn (xs : List FV) (j : Nat) : (xs.map (·.1)).getD j fn0 = (xs.getD j fv0).1 := by
  rw [List.getD_eq_getElem?_getD, List.getD_eq_getElem?_getD, List.getElem?_map]
  cases xs[j]? <;> rfl

/-- What is owned can be read. -/
theorem FnsOwn.in {w : World} {base : Nat} {v : Value} {xs : List FV} (h : FnsOwn w base v xs) : ∃ a cap, v = .slice a xs.length cap ∧ (a = none → cap = 0) ∧ FuncsIn w a xs.length (xs.map (·.1)) := by
  rcases own_forms h.row with ⟨rfl, h0, _⟩ | ⟨g, cp, rfl⟩
  · exact ⟨none, 0, by rw [h0], fun _ => rfl, by simp, fun j hj => by omega⟩
  · refine ⟨some ⟨g, 0, none⟩, cp, rfl, fun e => (by cases e), by simp, fun j hj => ?_⟩
    obtain ⟨v0, v1, v2⟩ := fnsV_at xs j hj
    have hc := fun k (hk : k < xs.length * 3) => World.ownsRow.cellAt h.row k hk
    have hmem : xs.getD j fv0 ∈ xs := by rw [List.getD_eq_getElem?_getD, List.getElem?_eq_getElem hj]; exact List.getElem_mem hj
    obtain ⟨hl, a, cap, e, hn⟩ := own_nodes (h.trees _ hmem)
    refine ⟨g, 0, rfl, (h.row.lt g rfl).2, ?_, ?_, (xs.getD j fv0).2.1, (xs.getD j fv0).1.2.2.length, (xs.getD j fv0).2.2, ?_, ?_, ?_⟩
    · rw [Nat.zero_add, hc _ (by omega), v0, getD_map_fn]
    · rw [Nat.zero_add, hc _ (by omega), v1, getD_map_fn]
    · rw [Nat.zero_add, hc _ (by omega), v2]; rfl
    · intro e2
      rcases own_forms (h.trees _ hmem) with ⟨e3, _⟩ | ⟨g3, cp3, e3⟩
      · unfold fvT at e3; injection e3
      · unfold fvT at e3; rw [e2] at e3; injection e3 with e4; cases e4
    · rw [getD_map_fn]
      unfold fvT at e
      injection e with e1 e2 e3
      rw [e1]; exact hn

theorem infoFunc : (Try.prog.info? 74).map (fun i => (i.zero, i.size, i.bytes)) = some (some (.agg #[.string ⟨#[]⟩, .int .i64 0, .slice none 0 0]), 3, 48) := by kernel_rfl

/-- A new block of one function, as 'append' reads it. -/
theorem new_fn (w : World) (x : FV) (c : Nat) : Src (w.alloc (.cells #[.string ⟨x.1.1.toArray⟩, .int .i64 x.1.2.1, fvT x] 74)) (.slice (some ⟨w.heap.size, 0, none⟩) 1 c) 1 3 (fnsV [x]) := by
  refine ⟨rfl, fnsV_one _, Or.inr ⟨_, c, rfl, fun j u hu => ?_⟩⟩
  rw [add_plain, Nat.zero_add]
  match j, hu with
  | 0, hu => simp [fnsV] at hu; subst hu; simp
  | 1, hu => simp [fnsV] at hu; subst hu; simp
  | 2, hu => simp [fnsV] at hu; subst hu; simp
  | j + 3, hu => simp [fnsV] at hu

theorem new_str (w : World) (x : List UInt8) (c : Nat) : Src (w.alloc (.cells #[.string ⟨x.toArray⟩] 9)) (.slice (some ⟨w.heap.size, 0, none⟩) 1 c) 1 1 (strV [x]) := by
  refine ⟨rfl, fun u hu => ?_, Or.inr ⟨_, c, rfl, fun j u hu => ?_⟩⟩
  · simp [strV] at hu; subst hu; rfl
  rw [add_plain, Nat.zero_add]
  match j, hu with
  | 0, hu => simp [strV] at hu; subst hu; simp
  | j + 1, hu => simp [strV] at hu

/-- What ReadPackage holds: the package so far (at P), the answer's zero cells (at D), the lines (at gL). All that was made since lies from B on. -/
structure RdSt (X w : World) (D P B gL : Nat) (ls : List (List UInt8)) (nm : List UInt8) (ims : List (List UInt8)) (xs : List FV) (ia : Option Addr) (ic : Nat) (fa : Option Addr) (fc : Nat) : Prop where
  p0 : X.cell? ⟨P, 0, none⟩ = some (.string ⟨nm.toArray⟩)
  p1 : X.cell? ⟨P, 1, none⟩ = some (.slice ia ims.length ic)
  p2 : X.cell? ⟨P, 2, none⟩ = some (.slice fa xs.length fc)
  pf : ∀ j, X.frozen? ⟨P, j, none⟩ = false
  r0 : X.cell? ⟨D, 0, none⟩ = some (.string ⟨#[]⟩)
  r1 : X.cell? ⟨D, 1, none⟩ = some (.slice none 0 0)
  r2 : X.cell? ⟨D, 2, none⟩ = some (.slice none 0 0)
  rf : ∀ j, X.frozen? ⟨D, j, none⟩ = false
  lines : ∀ j, j < ls.length → X.cell? ⟨gL, j, none⟩ = some (.string ⟨(ls.getD j []).toArray⟩)
  oi : X.ownsRow B 9 1 (.slice ia ims.length ic) ims.length (strV ims)
  fo : FnsOwn X B (.slice fa xs.length fc) xs
  dp : D < P
  gd : gL ≠ D
  gp : gL ≠ P
  db : D < B
  pb : P < B
  gb : gL < B
  b : Below D w X
  bs : B ≤ X.heap.size

section
variable {X Y w : World} {D P B gL : Nat} {ls : List (List UInt8)} {nm : List UInt8} {ims : List (List UInt8)} {xs : List FV} {ia : Option Addr} {ic : Nat} {fa : Option Addr} {fc : Nat}

/-- Whatever leaves the blocks below B and the rows alone. -/
theorem RdSt.grown {row : Option Nat} (h : RdSt X w D P B gL ls nm ims xs ia ic fa fc) (hg : X.grownBy Y row) (hrow : ∀ k, row = some k → B ≤ k):
    (∀ k, k < B → Y.heap[k]? = X.heap[k]?) ∧ Below D w Y ∧ B ≤ Y.heap.size := by
  have hk : ∀ k, k < B → Y.heap[k]? = X.heap[k]? := fun k hk => hg.block k (Nat.lt_of_lt_of_le hk h.bs) (fun e => by have := hrow k e.symm; omega)
  exact ⟨hk, h.b.grown hg (Nat.le_trans (Nat.le_of_lt h.db) h.bs) (fun k e => Nat.le_trans (Nat.le_of_lt h.db) (hrow k e)), Nat.le_trans h.bs hg.size⟩

theorem RdSt.below (h : RdSt X w D P B gL ls nm ims xs ia ic fa fc) (hb : Below X.heap.size X Y) : RdSt Y w D P B gL ls nm ims xs ia ic fa fc :=
  have hp : P < X.heap.size := Nat.lt_of_lt_of_le h.pb h.bs
  have hd : D < X.heap.size := Nat.lt_of_lt_of_le h.db h.bs
  have hg : gL < X.heap.size := Nat.lt_of_lt_of_le h.gb h.bs
  ⟨(hb.cell (p := ⟨P, 0, none⟩) hp).trans h.p0, (hb.cell (p := ⟨P, 1, none⟩) hp).trans h.p1, (hb.cell (p := ⟨P, 2, none⟩) hp).trans h.p2, fun j => (hb.frozen (p := ⟨P, j, none⟩) hp).trans (h.pf j),
   (hb.cell (p := ⟨D, 0, none⟩) hd).trans h.r0, (hb.cell (p := ⟨D, 1, none⟩) hd).trans h.r1, (hb.cell (p := ⟨D, 2, none⟩) hd).trans h.r2, fun j => (hb.frozen (p := ⟨D, j, none⟩) hd).trans (h.rf j),
   fun j hj => (hb.cell (p := ⟨gL, j, none⟩) hg).trans (h.lines j hj), own_below h.oi hb, h.fo.below hb, h.dp, h.gd, h.gp, h.db, h.pb, h.gb, h.b.trans (hb.mono (Nat.le_of_lt hd)), Nat.le_trans h.bs hb.size⟩

theorem RdSt.drew (h : RdSt X w D P B gL ls nm ims xs ia ic fa fc) : RdSt X.drew w D P B gL ls nm ims xs ia ic fa fc := h.below ⟨rfl, rfl, rfl, Nat.le_refl _, fun _ _ => rfl⟩

/-- The package's name is written. -/
theorem RdSt.name0 (h : RdSt X w D P B gL ls nm ims xs ia ic fa fc) (hk : ∀ k, k < B → Y.heap[k]? = X.heap[k]?) (hb : Below D w Y) (hbs : B ≤ Y.heap.size) (x : List UInt8) (oi : Y.ownsRow B 9 1 (.slice ia ims.length ic) ims.length (strV ims)) (fo : FnsOwn Y B (.slice fa xs.length fc) xs) : RdSt (Y.setCell ⟨P, 0, none⟩ (.string ⟨x.toArray⟩)) w D P B gL ls x ims xs ia ic fa fc := by
  have hg := grown_set Y P 0 (.string ⟨x.toArray⟩)
  have off : ∀ {e size n : Nat} {v : Value} {ys : List Value}, Y.ownsRow B e size v n ys → v.ownBlock = none ∨ v.ownBlock ≠ some P := fun ho => own_off ho h.pb
  have hoth : ∀ (q : Addr), q.block ≠ P → q.block < B → (Y.setCell ⟨P, 0, none⟩ (.string ⟨x.toArray⟩)).cell? q = X.cell? q := fun q hq hqb => (World.cell?_setCell_other _ _ _ _ (fun e => hq (by rw [← e]))).trans (World.cell?_of_block (hk _ hqb))
  have hdp : D ≠ P := Nat.ne_of_lt h.dp
  have hfz : ∀ (q : Addr), q.block < B → (Y.setCell ⟨P, 0, none⟩ (.string ⟨x.toArray⟩)).frozen? q = X.frozen? q := fun q hqb => (World.frozen?_setCell ..).trans (World.frozen?_of_block (hk _ hqb))
  have hp : ∀ j, Y.cell? ⟨P, j, none⟩ = X.cell? ⟨P, j, none⟩ := fun j => World.cell?_of_block (hk _ h.pb)
  exact ⟨World.cell?_setCell_same _ _ _ ((hp 0).trans h.p0), (World.cell?_setCell_other _ _ _ _ (by simp)).trans ((hp 1).trans h.p1), (World.cell?_setCell_other _ _ _ _ (by simp)).trans ((hp 2).trans h.p2), fun j => (hfz ⟨P, j, none⟩ h.pb).trans (h.pf j), (hoth _ hdp h.db).trans h.r0, (hoth _ hdp h.db).trans h.r1, (hoth _ hdp h.db).trans h.r2, fun j => (hfz ⟨D, j, none⟩ h.db).trans (h.rf j),
    fun j hj => (hoth ⟨gL, j, none⟩ h.gp h.gb).trans (h.lines j hj), oi.kept hg (off oi), fo.kept hg (off fo.row) (fun y hy => off (fo.trees y hy)), h.dp, h.gd, h.gp, h.db, h.pb, h.gb, hb.grown hg (Nat.le_trans (Nat.le_of_lt h.db) hbs) (fun k e => by injection e with e; have := h.dp; omega), by simpa using hbs⟩

theorem RdSt.name (h : RdSt X w D P B gL ls nm ims xs ia ic fa fc) (x : List UInt8) : RdSt (X.setCell ⟨P, 0, none⟩ (.string ⟨x.toArray⟩)) w D P B gL ls x ims xs ia ic fa fc := h.name0 (fun _ _ => rfl) h.b h.bs x h.oi h.fo

/-- Its imports. -/
theorem RdSt.imp0 (h : RdSt X w D P B gL ls nm ims xs ia ic fa fc) (hk : ∀ k, k < B → Y.heap[k]? = X.heap[k]?) (hb : Below D w Y) (hbs : B ≤ Y.heap.size) {ims' : List (List UInt8)} {ia' : Option Addr} {ic' : Nat} (oi : Y.ownsRow B 9 1 (.slice ia' ims'.length ic') ims'.length (strV ims')) (fo : FnsOwn Y B (.slice fa xs.length fc) xs) : RdSt (Y.setCell ⟨P, 1, none⟩ (.slice ia' ims'.length ic')) w D P B gL ls nm ims' xs ia' ic' fa fc := by
  have hg := grown_set Y P 1 (.slice ia' ims'.length ic')
  have off : ∀ {e size n : Nat} {v : Value} {ys : List Value}, Y.ownsRow B e size v n ys → v.ownBlock = none ∨ v.ownBlock ≠ some P := fun ho => own_off ho h.pb
  have hoth : ∀ (q : Addr), q.block ≠ P → q.block < B → (Y.setCell ⟨P, 1, none⟩ (.slice ia' ims'.length ic')).cell? q = X.cell? q := fun q hq hqb => (World.cell?_setCell_other _ _ _ _ (fun e => hq (by rw [← e]))).trans (World.cell?_of_block (hk _ hqb))
  have hdp : D ≠ P := Nat.ne_of_lt h.dp
  have hfz : ∀ (q : Addr), q.block < B → (Y.setCell ⟨P, 1, none⟩ (.slice ia' ims'.length ic')).frozen? q = X.frozen? q := fun q hqb => (World.frozen?_setCell ..).trans (World.frozen?_of_block (hk _ hqb))
  have hp : ∀ j, Y.cell? ⟨P, j, none⟩ = X.cell? ⟨P, j, none⟩ := fun j => World.cell?_of_block (hk _ h.pb)
  exact ⟨(World.cell?_setCell_other _ _ _ _ (by simp)).trans ((hp 0).trans h.p0), World.cell?_setCell_same _ _ _ ((hp 1).trans h.p1), (World.cell?_setCell_other _ _ _ _ (by simp)).trans ((hp 2).trans h.p2), fun j => (hfz ⟨P, j, none⟩ h.pb).trans (h.pf j), (hoth _ hdp h.db).trans h.r0, (hoth _ hdp h.db).trans h.r1, (hoth _ hdp h.db).trans h.r2, fun j => (hfz ⟨D, j, none⟩ h.db).trans (h.rf j),
    fun j hj => (hoth ⟨gL, j, none⟩ h.gp h.gb).trans (h.lines j hj), oi.kept hg (off oi), fo.kept hg (off fo.row) (fun y hy => off (fo.trees y hy)), h.dp, h.gd, h.gp, h.db, h.pb, h.gb, hb.grown hg (Nat.le_trans (Nat.le_of_lt h.db) hbs) (fun k e => by injection e with e; have := h.dp; omega), by simpa using hbs⟩

/-- Its functions. -/
theorem RdSt.fn1 (h : RdSt X w D P B gL ls nm ims xs ia ic fa fc) (hk : ∀ k, k < B → Y.heap[k]? = X.heap[k]?) (hb : Below D w Y) (hbs : B ≤ Y.heap.size) {xs' : List FV} {fa' : Option Addr} {fc' : Nat} (oi : Y.ownsRow B 9 1 (.slice ia ims.length ic) ims.length (strV ims)) (fo : FnsOwn Y B (.slice fa' xs'.length fc') xs') : RdSt (Y.setCell ⟨P, 2, none⟩ (.slice fa' xs'.length fc')) w D P B gL ls nm ims xs' ia ic fa' fc' := by
  have hg := grown_set Y P 2 (.slice fa' xs'.length fc')
  have off : ∀ {e size n : Nat} {v : Value} {ys : List Value}, Y.ownsRow B e size v n ys → v.ownBlock = none ∨ v.ownBlock ≠ some P := fun ho => own_off ho h.pb
  have hoth : ∀ (q : Addr), q.block ≠ P → q.block < B → (Y.setCell ⟨P, 2, none⟩ (.slice fa' xs'.length fc')).cell? q = X.cell? q := fun q hq hqb => (World.cell?_setCell_other _ _ _ _ (fun e => hq (by rw [← e]))).trans (World.cell?_of_block (hk _ hqb))
  have hdp : D ≠ P := Nat.ne_of_lt h.dp
  have hfz : ∀ (q : Addr), q.block < B → (Y.setCell ⟨P, 2, none⟩ (.slice fa' xs'.length fc')).frozen? q = X.frozen? q := fun q hqb => (World.frozen?_setCell ..).trans (World.frozen?_of_block (hk _ hqb))
  have hp : ∀ j, Y.cell? ⟨P, j, none⟩ = X.cell? ⟨P, j, none⟩ := fun j => World.cell?_of_block (hk _ h.pb)
  exact ⟨(World.cell?_setCell_other _ _ _ _ (by simp)).trans ((hp 0).trans h.p0), (World.cell?_setCell_other _ _ _ _ (by simp)).trans ((hp 1).trans h.p1), World.cell?_setCell_same _ _ _ ((hp 2).trans h.p2), fun j => (hfz ⟨P, j, none⟩ h.pb).trans (h.pf j), (hoth _ hdp h.db).trans h.r0, (hoth _ hdp h.db).trans h.r1, (hoth _ hdp h.db).trans h.r2, fun j => (hfz ⟨D, j, none⟩ h.db).trans (h.rf j),
    fun j hj => (hoth ⟨gL, j, none⟩ h.gp h.gb).trans (h.lines j hj), oi.kept hg (off oi), fo.kept hg (off fo.row) (fun y hy => off (fo.trees y hy)), h.dp, h.gd, h.gp, h.db, h.pb, h.gb, hb.grown hg (Nat.le_trans (Nat.le_of_lt h.db) hbs) (fun k e => by injection e with e; have := h.dp; omega), by simpa using hbs⟩

theorem RdSt.import (h : RdSt X w D P B gL ls nm ims xs ia ic fa fc) (x : List UInt8) (hn : ims.length ≤ 1048576) :
    ∃ g' c' Y, (Builtin.append_ #[26, 26] 26 #[.slice ia ims.length ic, .slice (some ⟨X.heap.size, 0, none⟩) 1 1]).run Try.prog (X.alloc (.cells #[.string ⟨x.toArray⟩] 9)) = .ok (.slice (some ⟨g', 0, none⟩) (ims.length + 1) c') Y ∧
      Y.cell? ⟨P, 1, none⟩ = some (.slice ia ims.length ic) ∧ (∀ j, Y.frozen? ⟨P, j, none⟩ = false) ∧ RdSt (Y.setCell ⟨P, 1, none⟩ (.slice (some ⟨g', 0, none⟩) (ims.length + 1) c')) w D P B gL ls nm (ims ++ [x]) xs (some ⟨g', 0, none⟩) c' fa fc := by
  obtain ⟨i0, hi, hz0, hz1, hz2⟩ := info_parts info9
  have hX1 : Below X.heap.size X (X.alloc (.cells #[.string ⟨x.toArray⟩] 9)) := (Below.refl _ _).alloc (Nat.le_refl _) _
  have h1 := h.below hX1
  obtain ⟨v', Y, hrun, hown, hg, _⟩ := run_append_src (P := Try.prog) (X.alloc (.cells #[.string ⟨x.toArray⟩] 9)) B 26 26 9 i0 _ 1 16 Try.underlying26 hi hz0 hz1 hz2 rfl (by decide) _ _ _ h1.oi _ 1 (strV [x]) (new_str X x 1) (by unfold maxLen; omega) (by omega) h1.bs
  obtain ⟨g', c', rfl⟩ := own_some hown (by omega)
  obtain ⟨hk, hb, hbs⟩ := h1.grown hg (fun k e => (h1.oi.lt k e).1)
  have hown2 : Y.ownsRow B 9 1 (.slice (some ⟨g', 0, none⟩) (ims ++ [x]).length c') (ims ++ [x]).length (strV (ims ++ [x])) := by
    have e1 : (ims ++ [x]).length = ims.length + 1 := by simp
    have e2 : strV (ims ++ [x]) = strV ims ++ strV [x] := by simp [strV]
    rw [e1, e2]; exact hown
  have hfo : FnsOwn Y B (.slice fa xs.length fc) xs := h1.fo.kept hg (own_types h1.fo.row h1.oi (by decide)) (fun y hy => own_types (h1.fo.trees y hy) h1.oi (by decide))
  have hz := h1.imp0 hk hb hbs hown2 hfo
  refine ⟨g', c', Y, hrun, (World.cell?_of_block (a := ⟨P, 1, none⟩) (hk _ h1.pb)).trans h1.p1, fun j => (World.frozen?_of_block (a := ⟨P, j, none⟩) (hk _ h1.pb)).trans (h1.pf j), ?_⟩
  have e1 : (ims ++ [x]).length = ims.length + 1 := by simp
  rw [e1] at hz
  exact hz

theorem RdSt.func (h : RdSt X w D P B gL ls nm ims xs ia ic fa fc) (y : FV) (hy : X.ownsRow B 107 4 (fvT y) y.1.2.2.length (nodesV y.1.2.2)) (hn : xs.length ≤ 1048576) :
    ∃ g' c' Y, (Builtin.append_ #[31, 31] 31 #[.slice fa xs.length fc, .slice (some ⟨X.heap.size, 0, none⟩) 1 1]).run Try.prog (X.alloc (.cells #[.string ⟨y.1.1.toArray⟩, .int .i64 y.1.2.1, fvT y] 74)) = .ok (.slice (some ⟨g', 0, none⟩) (xs.length + 1) c') Y ∧
      Y.cell? ⟨P, 2, none⟩ = some (.slice fa xs.length fc) ∧ (∀ j, Y.frozen? ⟨P, j, none⟩ = false) ∧ RdSt (Y.setCell ⟨P, 2, none⟩ (.slice (some ⟨g', 0, none⟩) (xs.length + 1) c')) w D P B gL ls nm ims (xs ++ [y]) ia ic (some ⟨g', 0, none⟩) c' := by
  obtain ⟨i0, hi, hz0, hz1, hz2⟩ := info_parts infoFunc
  have hX1 : Below X.heap.size X (X.alloc (.cells #[.string ⟨y.1.1.toArray⟩, .int .i64 y.1.2.1, fvT y] 74)) := (Below.refl _ _).alloc (Nat.le_refl _) _
  have h1 := h.below hX1
  have hy1 := own_below hy hX1
  obtain ⟨v', Y, hrun, hown, hg, _⟩ := run_append_src (P := Try.prog) (X.alloc (.cells #[.string ⟨y.1.1.toArray⟩, .int .i64 y.1.2.1, fvT y] 74)) B 31 31 74 i0 _ 3 48 Try.underlying31 hi hz0 hz1 hz2 rfl (by decide) _ _ _ h1.fo.row _ 1 (fnsV [y]) (new_fn X y 1) (by unfold maxLen; omega) (by omega) h1.bs
  obtain ⟨g', c', rfl⟩ := own_some hown (by omega)
  obtain ⟨hk, hb, hbs⟩ := h1.grown hg (fun k e => (h1.fo.row.lt k e).1)
  have e1 : (xs ++ [y]).length = xs.length + 1 := by simp
  have hown2 : Y.ownsRow B 74 3 (.slice (some ⟨g', 0, none⟩) (xs ++ [y]).length c') (xs ++ [y]).length (fnsV (xs ++ [y])) := by
    rw [e1, fnsV_append]; exact hown
  have htr : ∀ z ∈ xs ++ [y], Y.ownsRow B 107 4 (fvT z) z.1.2.2.length (nodesV z.1.2.2) := fun z hz => by
    rw [List.mem_append, List.mem_singleton] at hz
    rcases hz with hz | rfl
    · exact (h1.fo.trees z hz).kept hg (own_types (h1.fo.trees z hz) h1.fo.row (by decide))
    · exact hy1.kept hg (own_types hy1 h1.fo.row (by decide))
  have hoi := h1.oi.kept hg (own_types h1.oi h1.fo.row (by decide))
  have hz := h1.fn1 hk hb hbs hoi (⟨hown2, htr⟩ : FnsOwn Y B _ (xs ++ [y]))
  refine ⟨g', c', Y, hrun, (World.cell?_of_block (a := ⟨P, 2, none⟩) (hk _ h1.pb)).trans h1.p2, fun j => (World.frozen?_of_block (a := ⟨P, j, none⟩) (hk _ h1.pb)).trans (h1.pf j), ?_⟩
  rw [e1] at hz
  exact hz
end

end Go.Proofs.Ytfeklbnggicefaa

/-! What the writing of several blocks leaves; rows that lie apart. -/
namespace Go.Proofs.Ytfeklbnggicefaa
open Go.RowKit

/-- Of what was there nothing but the blocks of S was written. -/
structure Wrote (w w' : World) (S : Nat → Prop) : Prop where
  os : w'.os = w.os
  tape : w'.tape = w.tape
  output : w'.output = w.output
  size : w.heap.size ≤ w'.heap.size
  block : ∀ k, k < w.heap.size → ¬ S k → w'.heap[k]? = w.heap[k]?

theorem Wrote.refl (w : World) (S : Nat → Prop) : Wrote w w S := ⟨rfl, rfl, rfl, Nat.le_refl _, fun _ _ _ => rfl⟩
theorem Wrote.trans {a b c : World} {S : Nat → Prop} (h : Wrote a b S) (k : Wrote b c S) : Wrote a c S :=
  ⟨k.os.trans h.os, k.tape.trans h.tape, k.output.trans h.output, Nat.le_trans h.size k.size, fun i hi hs => (k.block i (Nat.lt_of_lt_of_le hi h.size) hs).trans (h.block i hi hs)⟩
theorem Wrote.mono {w w' : World} {S T : Nat → Prop} (h : Wrote w w' S) (hs : ∀ k, S k → T k) : Wrote w w' T := ⟨h.os, h.tape, h.output, h.size, fun k hk hn => h.block k hk (fun e => hn (hs k e))⟩
theorem Wrote.of_grown {w w' : World} {row : Option Nat} {S : Nat → Prop} (h : w.grownBy w' row) (hs : ∀ k, row = some k → S k) : Wrote w w' S :=
  ⟨h.os, h.tape, h.output, h.size, fun k hk hn => h.block k hk (fun e => hn (hs k e.symm))⟩
theorem Wrote.of_below {w w' : World} {S : Nat → Prop} (h : Below w.heap.size w w') : Wrote w w' S := ⟨h.os, h.tape, h.output, h.size, fun k hk _ => h.block k hk⟩
theorem Wrote.below {w w' : World} {S : Nat → Prop} {B : Nat} (h : Wrote w w' S) (hB : B ≤ w.heap.size) (hs : ∀ k, S k → B ≤ k) : Below B w w' :=
  ⟨h.os, h.tape, h.output, h.size, fun k hk => h.block k (Nat.lt_of_lt_of_le hk hB) (fun e => by have := hs k e; omega)⟩
theorem own_wrote {w w' : World} {base e size n : Nat} {v : Value} {xs : List Value} {S : Nat → Prop} (h : w.ownsRow base e size v n xs) (hw : Wrote w w' S) (hv : ∀ k, v.ownBlock = some k → ¬ S k) : w'.ownsRow base e size v n xs := by
  refine ⟨h.1, ?_⟩
  rcases h.2 with hn | ⟨g, cap, cur, rfl, hb, hgg, rest⟩
  · exact .inl hn
  · refine .inr ⟨g, cap, cur, rfl, hb, ?_, rest⟩
    rw [hw.block g (Array.getElem?_eq_some_iff.1 hgg).1 (hv g rfl)]
    exact hgg

/-- The trees lie apart, one by one. -/
def Apart (vs : List Value) : Prop := vs.Pairwise (fun a b => a.ownBlock = none ∨ a.ownBlock ≠ b.ownBlock)
theorem Apart.ne {vs : List Value} (h : Apart vs) {i j : Nat} (hi : i < vs.length) (hj : j < vs.length) (hij : i ≠ j) : vs[i].ownBlock = none ∨ vs[i].ownBlock ≠ vs[j].ownBlock := by
  rcases Nat.lt_or_gt_of_ne hij with hl | hl
  · exact List.pairwise_iff_getElem.1 h i j hi hj hl
  · rcases List.pairwise_iff_getElem.1 h j i hj hi hl with e | e
    · rw [e]; cases vs[i].ownBlock <;> simp
    · exact Or.inr (fun e2 => e e2.symm)

theorem Apart.nil : Apart [] := List.Pairwise.nil
theorem Apart.snoc {vs : List Value} {u : Value} (h : Apart vs) (hu : ∀ v ∈ vs, v.ownBlock = none ∨ v.ownBlock ≠ u.ownBlock) : Apart (vs ++ [u]) :=
  List.pairwise_append.2 ⟨h, List.pairwise_singleton _ _, fun a ha b hb => by rw [List.mem_singleton] at hb; subst hb; exact hu a ha⟩
/-- A row that lies ahead of a place, and one that lies behind it. -/
theorem own_ahead {w w' : World} {b1 b2 e1 e2 s1 s2 n1 n2 : Nat} {v1 v2 : Value} {xs ys : List Value} (h1 : w.ownsRow b1 e1 s1 v1 n1 xs) (h2 : w'.ownsRow b2 e2 s2 v2 n2 ys) (hb : w.heap.size ≤ b2) : v1.ownBlock = none ∨ v1.ownBlock ≠ v2.ownBlock := by
  cases hv : v1.ownBlock with
  | none => exact Or.inl rfl
  | some k =>
    refine Or.inr (fun e => ?_)
    have l1 := (h1.lt k hv).2
    have l2 := (h2.lt k e.symm).1
    omega

end Go.Proofs.Ytfeklbnggicefaa

/-! The contracts of the landed heap of places: its methods. -/
namespace Go.Proofs.Ytfeklbnggicefaa
open Go.RowKit

def natV (l : List Nat) : List Value := l.map (fun x : Nat => Value.int .i64 (x : Int))
theorem natV_len (l : List Nat) : (natV l).length = l.length := by simp [natV]
theorem natV_at (l : List Nat) (j : Nat) (h : j < l.length) : (natV l)[j]? = some (.int .i64 ((l.getD j 0 : Nat) : Int)) := by
  simp [natV, List.getD, List.getElem?_eq_getElem h]
theorem natV_snoc (l : List Nat) (x : Nat) : natV l ++ [.int .i64 (x : Int)] = natV (l ++ [x]) := by simp [natV]
theorem natV_set (l : List Nat) (i x : Nat) : (natV l).set i (.int .i64 (x : Int)) = natV (l.set i x) := by simp [natV, List.map_set]
theorem natV_take (l : List Nat) (m : Nat) : (natV l).take m = natV (l.take m) := by simp [natV, List.map_take]
theorem nat_cell {w : World} {B g cp n : Nat} {l : List Nat} (h : w.ownsRow B 3 1 (.slice (some ⟨g, 0, none⟩) n cp) n (natV l)) (hn : l.length = n) (j : Nat) (hj : j < n) : w.cell? ⟨g, j, none⟩ = some (.int .i64 ((l.getD j 0 : Nat) : Int)) := by
  rw [h.cellAt j (by omega), natV_at l j (by omega)]

theorem upLen (a : Option Addr) (n c : Nat) (w : World) : Calls Try.prog 51 #[.slice a n c] w fun e w' => e = .returned (.int .i64 (n : Int)) ∧ w' = w := by
  go_enter Try.func51, Try.ntmps51
  go_wp2
  go_ret
  exact ⟨rfl, rfl⟩
set_option maxHeartbeats 1000000 in
set_option maxRecDepth 100000 in
theorem upLess (B g cp n : Nat) (l : List Nat) (i j : Nat) (w : World) (h : w.ownsRow B 3 1 (.slice (some ⟨g, 0, none⟩) n cp) n (natV l)) (hn : l.length = n) (hi : i < n) (hj : j < n) :
    Calls Try.prog 149 #[.slice (some ⟨g, 0, none⟩) n cp, .int .i64 (i : Int), .int .i64 (j : Int)] w fun e w' => e = .returned (.bool (decide (l.getD i 0 < l.getD j 0))) ∧ Below w.heap.size w w' := by
  have c1 := nat_cell h hn i hi
  have c2 := nat_cell h hn j hj
  obtain ⟨x, hx⟩ : ∃ x, l.getD i 0 = x := ⟨_, rfl⟩
  obtain ⟨y, hy⟩ : ∃ y, l.getD j 0 = y := ⟨_, rfl⟩
  rw [hx] at c1 ⊢
  rw [hy] at c2 ⊢
  have hi2 : (i : Int) < (n : Int) := by omega
  have hj2 : (j : Int) < (n : Int) := by omega
  clear h hn hi hj hx hy
  go_enter Try.func149, Try.ntmps149
  go_wp2_with fail
  go_quiet (fail)
  go_wp2
  go_ret
  exact ⟨rfl, ⟨rfl, rfl, rfl, Nat.le_refl _, fun _ _ => rfl⟩⟩
set_option maxHeartbeats 2000000 in
set_option maxRecDepth 100000 in
theorem upSwap (B g cp n : Nat) (l : List Nat) (i j : Nat) (w : World) (h : w.ownsRow B 3 1 (.slice (some ⟨g, 0, none⟩) n cp) n (natV l)) (hn : l.length = n) (hi : i < n) (hj : j < n) :
    Calls Try.prog 152 #[.slice (some ⟨g, 0, none⟩) n cp, .int .i64 (i : Int), .int .i64 (j : Int)] w fun e w' => e = .returned (.tuple #[]) ∧ w'.ownsRow B 3 1 (.slice (some ⟨g, 0, none⟩) n cp) n (natV (sw l i j)) ∧ w.grownBy w' (some g) := by
  have c1 := nat_cell h hn i hi
  have c2 := nat_cell h hn j hj
  obtain ⟨s1, g1⟩ := h.stored i (.int .i64 ((l.getD j 0 : Nat) : Int))
  obtain ⟨s2, g2⟩ := s1.stored j (.int .i64 ((l.getD i 0 : Nat) : Int))
  have hg := g1.trans g2
  rw [natV_set, natV_set] at s2
  have HS : Hid (((w.setCell ⟨g, i, none⟩ (.int .i64 ((l.getD j 0 : Nat) : Int))).setCell ⟨g, j, none⟩ (.int .i64 ((l.getD i 0 : Nat) : Int))).ownsRow B 3 1 (.slice (some ⟨g, 0, none⟩) n cp) n (natV (sw l i j))) := s2
  have HG : Hid (w.grownBy ((w.setCell ⟨g, i, none⟩ (.int .i64 ((l.getD j 0 : Nat) : Int))).setCell ⟨g, j, none⟩ (.int .i64 ((l.getD i 0 : Nat) : Int))) (some g)) := hg
  obtain ⟨x, hx⟩ : ∃ x, l.getD i 0 = x := ⟨_, rfl⟩
  obtain ⟨y, hy⟩ : ∃ y, l.getD j 0 = y := ⟨_, rfl⟩
  rw [hx] at c1 HS HG
  rw [hy] at c2 HS HG
  have hi2 : (i : Int) < (n : Int) := by omega
  have hj2 : (j : Int) < (n : Int) := by omega
  have f1 := h.frozenAt i
  have f2 := s1.frozenAt j
  have d2 : (w.setCell ⟨g, i, none⟩ (.int .i64 ((l.getD j 0 : Nat) : Int))).cell? ⟨g, j, none⟩ = some (.int .i64 ((l.getD j 0 : Nat) : Int)) := by
    have s1' := s1
    rw [natV_set] at s1'
    rw [nat_cell s1' (by rw [List.length_set]; exact hn) j hj, getD_set (by omega)]
    split <;> rfl
  rw [hy] at f2 d2
  clear h hn hi hj hx hy s1 g1 s2 g2 hg
  go_enter Try.func152, Try.ntmps152
  go_wp2_with fail
  go_region
  go_wp2
  go_end0
  exact ⟨rfl, own_none HS.out ⟨rfl, rfl, rfl, Nat.le_refl _, fun _ _ _ => rfl⟩, HG.out.trans ⟨rfl, rfl, rfl, Nat.le_refl _, fun _ _ _ => rfl⟩⟩

theorem info3 : (Try.prog.info? 3).map (fun i => (i.zero, i.size, i.bytes)) = some (some (.int .i64 0), 1, 8) := by kernel_rfl
theorem push_nat {X : World} {B : Nat} {v : Value} {n : Nat} {l : List Nat} (T : TypeId) (hT : Try.prog.underlying T = some (.slice 3)) (x : Nat) (hv : X.ownsRow B 3 1 v n (natV l)) (hb : B ≤ X.heap.size) (hn : n ≤ 1048576) :
    ∃ v' Y, (Builtin.append_ #[T, T] T #[v, .slice (some ⟨X.heap.size, 0, none⟩) 1 1]).run Try.prog (X.alloc (.cells #[.int .i64 (x : Int)] 3)) = .ok v' Y ∧ Y.ownsRow B 3 1 v' (n + 1) (natV (l ++ [x])) ∧ X.grownBy Y v.ownBlock ∧ (v'.ownBlock = v.ownBlock ∨ v'.ownBlock = some (X.heap.size + 1)) := by
  obtain ⟨i0, hi, hz0, hz1, hz2⟩ := info_parts info3
  obtain ⟨v', Y, hrun, hown, hg, _, hat⟩ := run_append_own_at (P := Try.prog) (X.alloc (.cells #[.int .i64 (x : Int)] 3)) B T T 3 i0 _ 1 8 hT hi hz0 hz1 hz2 rfl (by decide) _ _ _ (hv.alloc _) ⟨X.heap.size, 0, none⟩ 1 1 (natV [x]) rfl (fun j u hu => cell_one_new X _ 3 j u hu) (fun u hu => by simp [natV] at hu; subst hu; rfl) (by unfold maxLen; omega) (by omega) (by simp; omega)
  exact ⟨v', Y, hrun, by rw [← natV_snoc]; exact hown, (World.grownBy_alloc X _ _).trans hg, by simpa using hat⟩

/-- A heap of places: the pointer's block, and the row. -/
structure HpIn (w : World) (B nb : Nat) (v : Value) (l : List Nat) : Prop where
  box : w.ownsRow B 65 1 (.slice (some ⟨nb, 0, none⟩) 1 1) 1 [v]
  row : w.ownsRow B 3 1 v l.length (natV l)
theorem HpIn.cell {w : World} {B nb : Nat} {v : Value} {l : List Nat} (h : HpIn w B nb v l) : w.cell? ⟨nb, 0, none⟩ = some v := by rw [h.box.cellAt 0 (by decide)]; rfl
theorem HpIn.ne {w : World} {B nb : Nat} {v : Value} {l : List Nat} (h : HpIn w B nb v l) : v.ownBlock ≠ some nb := by
  rcases own_types h.box h.row (by decide) with e | e
  · cases e
  · exact fun e2 => e e2.symm
theorem HpIn.lt {w : World} {B nb : Nat} {v : Value} {l : List Nat} (h : HpIn w B nb v l) : B ≤ nb ∧ nb < w.heap.size := h.box.lt nb rfl
theorem HpIn.idle {w w' : World} {B nb : Nat} {v : Value} {l : List Nat} (h : HpIn w B nb v l) (hg : w.grownBy w' none) : HpIn w' B nb v l := ⟨own_none h.box hg, own_none h.row hg⟩
theorem HpIn.below {w w' : World} {B nb : Nat} {v : Value} {l : List Nat} (h : HpIn w B nb v l) (hg : Below w.heap.size w w') : HpIn w' B nb v l := ⟨own_below h.box hg, own_below h.row hg⟩
theorem HpIn.wrote {w w' : World} {B nb : Nat} {v : Value} {l : List Nat} {S : Nat → Prop} (h : HpIn w B nb v l) (hg : Wrote w w' S) (hb : ¬ S nb) (hv : ∀ k, v.ownBlock = some k → ¬ S k) : HpIn w' B nb v l :=
  ⟨own_wrote h.box hg (fun k e => by injection e with e; rw [← e]; exact hb), own_wrote h.row hg hv⟩
/-- The row is written. -/
theorem HpIn.swapped {w w' : World} {B nb g n cp : Nat} {l l' : List Nat} (h : HpIn w B nb (.slice (some ⟨g, 0, none⟩) n cp) l) (hr : w'.ownsRow B 3 1 (.slice (some ⟨g, 0, none⟩) n cp) n (natV l')) (hl : l'.length = n) (hg : w.grownBy w' (some g)) : HpIn w' B nb (.slice (some ⟨g, 0, none⟩) n cp) l' :=
  ⟨h.box.kept hg (Or.inr (fun e => h.ne e.symm)), by rw [hl]; exact hr⟩
/-- Where a row that has grown lies. -/
def NewAt (w : World) (v v' : Value) : Prop := ∀ k, v'.ownBlock = some k → v.ownBlock = some k ∨ w.heap.size ≤ k

theorem asInt (x : Nat) (W : World) : (Instr.typeAssert (.iface 3 (.int .i64 (x : Int))) 20 3 false).run Try.prog W = .ok (.int .i64 (x : Int)) W := by kernel_rfl
set_option maxHeartbeats 2000000 in
set_option maxRecDepth 100000 in
theorem upPush (B nb : Nat) (v : Value) (l : List Nat) (x : Nat) (w : World) (h : HpIn w B nb v l) (hl : l.length ≤ 1000) :
    Calls Try.prog 151 #[.pointer (some ⟨nb, 0, none⟩), .iface 3 (.int .i64 (x : Int))] w fun e w' => e = .returned (.tuple #[]) ∧ ∃ v', HpIn w' B nb v' (l ++ [x]) ∧ Wrote w w' (fun k => k = nb ∨ v.ownBlock = some k) ∧ NewAt w v v' := by
  have hlt := h.lt
  obtain ⟨v', Y, hrun, hown, hg, hat⟩ := push_nat 65 Try.underlying65 x (h.idle (grown_drew w none)).row (by simp; omega) (by omega)
  have hne : some nb ≠ v.ownBlock := fun e => h.ne e.symm
  obtain ⟨g', c', rfl⟩ := own_some hown (by omega)
  have hboxY : Y.ownsRow B 65 1 (.slice (some ⟨nb, 0, none⟩) 1 1) 1 [v] := (h.idle (grown_drew w none)).box.kept hg (Or.inr hne)
  obtain ⟨hst, hgs⟩ := hboxY.stored 0 (.slice (some ⟨g', 0, none⟩) (l.length + 1) c')
  have HE : Hid (HpIn (Y.setCell ⟨nb, 0, none⟩ (.slice (some ⟨g', 0, none⟩) (l.length + 1) c')) B nb (.slice (some ⟨g', 0, none⟩) (l.length + 1) c') (l ++ [x])) := ⟨hst, by
    have := hown.kept hgs (own_types hown hboxY (by decide))
    rw [List.length_append, List.length_singleton]; exact this⟩
  have HW : Hid (Wrote w (Y.setCell ⟨nb, 0, none⟩ (.slice (some ⟨g', 0, none⟩) (l.length + 1) c')) (fun k => k = nb ∨ v.ownBlock = some k)) := ((Wrote.of_grown (grown_drew w none) (fun k e => by cases e)).trans (Wrote.of_grown hg (fun k e => Or.inr e))).trans (Wrote.of_grown hgs (fun k e => by injection e with e; exact Or.inl e.symm))
  have HN : Hid (NewAt w v (.slice (some ⟨g', 0, none⟩) (l.length + 1) c')) := fun k e => by
    rcases hat with h1 | h1
    · exact Or.inl (by rw [← h1]; exact e)
    · rw [h1] at e; injection e with e; right; rw [← e]; simp
  have c0 := h.cell
  have c1 : (w.alloc (.cells #[.int .i64 (x : Int)] 3)).cell? ⟨nb, 0, none⟩ = some v := by rw [(h.box.alloc _).cellAt 0 (by decide)]; rfl
  have cY : Y.cell? ⟨nb, 0, none⟩ = some v := by rw [hboxY.cellAt 0 (by decide)]; rfl
  have fY := hboxY.frozenAt 0
  have hta : ∀ W : World, (Instr.typeAssert (.iface 3 (.int .i64 (x : Int))) 20 3 false).run Try.prog W = .ok (.int .i64 (x : Int)) W := asInt x
  change (Builtin.append_ _ _ _).run Try.prog (w.alloc (.cells #[.int .i64 (x : Int)] 3)).drew = _ at hrun
  clear h hlt hown hg hat hne hboxY hst hgs
  go_enter Try.func151, Try.ntmps151
  go_wp2_with fail
  go_region_law (first | (refine step_append_run (by rfl) (.tmp 7) (.tmp 10) 65 (by rfl) _ _ _ (by rfl) (by rfl) hrun ?_))
  all_goals
    go_wp2
    go_end0
    exact ⟨rfl, _, HE.out, HW.out, HN.out⟩

end Go.Proofs.Ytfeklbnggicefaa
