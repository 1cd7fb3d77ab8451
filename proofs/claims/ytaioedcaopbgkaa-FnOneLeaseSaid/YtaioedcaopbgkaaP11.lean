/-
  Parts of one proof, one behind the other: PackO, PackW, Marks, Marks2, Marks3, TextsL, FnL, PackK.
-/
import Derived.Test.YtaioedcaopbgkaaP10
import Derived.Test.YtaioedcaopbgkaaP1
import Derived.Test.YtaioedcaopbgkaaP3
import Derived.Test.YtaioedcaopbgkaaP2
import Derived.Deep.RegionWith
import Derived.SliceStrings
import Derived.ProofKit
import Derived.OpenShut
import Derived.ShutString
import Derived.ChangeOld
import Derived.Below
import Derived.Test.YtaioedcaopbgkaaP7

/-! A package that a call has made: its imports, its functions, their trees, each in a row of its own. -/
namespace Go.Proofs.Ytaioedcaopbgkaa
open Go.RowKit

/-- A function, and where its tree lies. -/
abbrev FV := Fn × Option Addr × Nat
def fvT (x : FV) : Value := .slice x.2.1 x.1.2.2.length x.2.2
def fnsV : List FV → List Value
 | [] => []
 | x :: r => .string ⟨x.1.1.toArray⟩ :: .int .i64 x.1.2.1 :: fvT x :: fnsV r

def fv0 : FV := (fn0, none, 0)

theorem fnsV_append (x y : List FV) : fnsV (x ++ y) = fnsV x ++ fnsV y := by
 induction x with
 | nil => rfl
 | cons n r ih => simp [fnsV, ih]

theorem fnsV_one (xs : List FV) : ∀ u ∈ fnsV xs, u.oneCell' = true := by
 induction xs with
 | nil => intro u hu; cases hu
 | cons n r ih =>
  intro u hu
  simp only [fnsV, List.mem_cons] at hu
  rcases hu with rfl | rfl | rfl | h
  ·
   rfl
  ·
   rfl
  ·
   rfl
  ·
   exact ih u h

theorem fnsV_at (xs : List FV) (j : Nat) (hj : j < xs.length) : (fnsV xs)[j * 3]? = some (.string ⟨(xs.getD j fv0).1.1.toArray⟩) ∧ (fnsV xs)[j * 3 + 1]? = some (.int .i64 (xs.getD j fv0).1.2.1) ∧ (fnsV xs)[j * 3 + 2]? = some (fvT (xs.getD j fv0)) := by
 induction xs generalizing j with
 | nil => simp at hj
 | cons n r ih =>
  cases j with
  | zero => simp [fnsV]
  | succ j =>
   obtain ⟨h0, h1, h2⟩ := ih j (by simpa using hj)
   refine ⟨?_, ?_, ?_⟩
   ·
    rw [show (j + 1) * 3 = j * 3 + 1 + 1 + 1 by omega]; simpa [fnsV] using h0
   ·
    rw [show (j + 1) * 3 + 1 = j * 3 + 1 + 1 + 1 + 1 by omega]; simpa [fnsV] using h1
   ·
    rw [show (j + 1) * 3 + 2 = j * 3 + 2 + 1 + 1 + 1 by omega]; simpa [fnsV] using h2

/-- Rows of elements of two types lie in two blocks. -/
theorem own_types {w : World} {b1 b2 e1 e2 s1 s2 n1 n2 : Nat} {v1 v2 : Value} {xs ys : List Value} (h1 : w.ownsRow b1 e1 s1 v1 n1 xs) (h2 : w.ownsRow b2 e2 s2 v2 n2 ys) (he : e1 ≠ e2) : v1.ownBlock = none ∨ v1.ownBlock ≠ v2.ownBlock := by
 rcases h1.2 with ⟨rfl, _⟩ | ⟨g, c, cur, rfl, _, hg, _⟩
 ·
  exact Or.inl rfl
 ·
  rcases h2.2 with ⟨rfl, _⟩ | ⟨g2, c2, cur2, rfl, _, hg2, _⟩
  ·
   exact Or.inr (by simp [Value.ownBlock])
  ·
   refine Or.inr (fun e => ?_)
   simp only [Value.ownBlock, Option.some.injEq] at e
   subst e
   rw [hg] at hg2
   simp only [Option.some.injEq, Obj.cells.injEq] at hg2
   exact he hg2.2.1

structure FnsOwn (w : World) (base : Nat) (v : Value) (xs : List FV) : Prop where
 row : w.ownsRow base 79 3 v xs.length (fnsV xs)
 trees : ∀ x ∈ xs, w.ownsRow base 73 4 (fvT x) x.1.2.2.length (nodesV x.1.2.2)

theorem FnsOwn.below {w w' : World} {base : Nat} {v : Value} {xs : List FV} (h : FnsOwn w base v xs) (hb : Below w.heap.size w w') : FnsOwn w' base v xs := ⟨own_below h.row hb, fun x hx => own_below (h.trees x hx) hb⟩

theorem FnsOwn.kept {w w' : World} {base : Nat} {v : Value} {xs : List FV} {row : Option Nat} (h : FnsOwn w base v xs) (hg : w.grownBy w' row) (h1 : v.ownBlock = none ∨ v.ownBlock ≠ row) (h2 : ∀ x ∈ xs, (fvT x).ownBlock = none ∨ (fvT x).ownBlock ≠ row) : FnsOwn w' base v xs :=
 ⟨h.row.kept hg h1, fun x hx => (h.trees x hx).kept hg (h2 x hx)⟩

theorem FnsOwn.base {w : World} {base b2 : Nat} {v : Value} {xs : List FV} (h : FnsOwn w base v xs) (hb : b2 ≤ base) : FnsOwn w b2 v xs := ⟨own_base h.row hb, fun x hx => own_base (h.trees x hx) hb⟩

theorem FnsOwn.nil (w : World) (base : Nat) : FnsOwn w base (.slice none 0 0) [] := ⟨World.ownsRow_nil w _ _ _, fun x hx => by cases hx⟩

theorem getD_map_fn (xs : List FV) (j : Nat) : (xs.map (·.1)).getD j fn0 = (xs.getD j fv0).1 := by
 rw [List.getD_eq_getElem?_getD, List.getD_eq_getElem?_getD, List.getElem?_map]
 cases xs[j]? <;> rfl

/-- What is owned can be read. -/
theorem FnsOwn.in {w : World} {base : Nat} {v : Value} {xs : List FV} (h : FnsOwn w base v xs) : ∃ a cap, v = .slice a xs.length cap ∧ (a = none → cap = 0) ∧ FuncsIn w a xs.length (xs.map (·.1)) := by
 rcases own_forms h.row with ⟨rfl, h0, _⟩ | ⟨g, cp, rfl⟩
 ·
  exact ⟨none, 0, by rw [h0], fun _ => rfl, by simp, fun j hj => by omega⟩
 ·
  refine ⟨some ⟨g, 0, none⟩, cp, rfl, fun e => (by cases e), by simp, fun j hj => ?_⟩
  obtain ⟨v0, v1, v2⟩ := fnsV_at xs j hj
  have hc := fun k (hk : k < xs.length * 3) => World.ownsRow.cellAt h.row k hk
  have hmem : xs.getD j fv0 ∈ xs := by rw [List.getD_eq_getElem?_getD, List.getElem?_eq_getElem hj]; exact List.getElem_mem hj
  obtain ⟨hl, a, cap, e, hn⟩ := own_nodes (h.trees _ hmem)
  refine ⟨g, 0, rfl, (h.row.lt g rfl).2, ?_, ?_, (xs.getD j fv0).2.1, (xs.getD j fv0).1.2.2.length, (xs.getD j fv0).2.2, ?_, ?_, ?_⟩
  ·
   rw [Nat.zero_add, hc _ (by omega), v0, getD_map_fn]
  ·
   rw [Nat.zero_add, hc _ (by omega), v1, getD_map_fn]
  ·
   rw [Nat.zero_add, hc _ (by omega), v2]; rfl
  ·
   intro e2
   rcases own_forms (h.trees _ hmem) with ⟨e3, _⟩ | ⟨g3, cp3, e3⟩
   ·
    unfold fvT at e3; injection e3
   ·
    unfold fvT at e3; rw [e2] at e3; injection e3 with e4; cases e4
  ·
   rw [getD_map_fn]
   unfold fvT at e
   injection e with e1 e2 e3
   rw [e1]; exact hn

theorem infoFunc : (Try.prog.info? 79).map (fun i => (i.zero, i.size, i.bytes)) = some (some (.agg #[.string ⟨#[]⟩, .int .i64 0, .slice none 0 0]), 3, 48) := by kernel_rfl

/-- A new block of one function, as 'append' reads it. -/
theorem new_fn (w : World) (x : FV) (c : Nat) : Src (w.alloc (.cells #[.string ⟨x.1.1.toArray⟩, .int .i64 x.1.2.1, fvT x] 79)) (.slice (some ⟨w.heap.size, 0, none⟩) 1 c) 1 3 (fnsV [x]) := by
 refine ⟨rfl, fnsV_one _, Or.inr ⟨_, c, rfl, fun j u hu => ?_⟩⟩
 rw [add_plain, Nat.zero_add]
 match j, hu with
 | 0, hu => simp [fnsV] at hu; subst hu; simp
 | 1, hu => simp [fnsV] at hu; subst hu; simp
 | 2, hu => simp [fnsV] at hu; subst hu; simp
 | j + 3, hu => simp [fnsV] at hu

/-- What ReadPackage holds: the package so far (at P), the answer's zero cells (at D), the lines (at gL). All that was made since lies from B on. -/
structure RdSt (X w : World) (D P B gL : Nat) (ls : List (List UInt8)) (nm : List UInt8) (ims : List (List UInt8)) (xs : List FV) (ia : Option Addr) (ic : Nat) (fa : Option Addr) (fc : Nat) : Prop where
 p0 : X.cell? ⟨P, 0, none⟩ = some (.string ⟨nm.toArray⟩)
 p1 : X.cell? ⟨P, 1, none⟩ = some (.slice ia ims.length ic)
 p2 : X.cell? ⟨P, 2, none⟩ = some (.slice fa xs.length fc)
 pf : ∀ j, X.frozen? ⟨P, j, none⟩ = false
 r0 : X.cell? ⟨D, 0, none⟩ = some (.string ⟨#[]⟩)
 r1 : X.cell? ⟨D, 1, none⟩ = some (.slice none 0 0)
 r2 : X.cell? ⟨D, 2, none⟩ = some (.slice none 0 0)
 rf : ∀ j, X.frozen? ⟨D, j, none⟩ = false
 lines : ∀ j, j < ls.length → X.cell? ⟨gL, j, none⟩ = some (.string ⟨(ls.getD j []).toArray⟩)
 oi : X.ownsRow B 9 1 (.slice ia ims.length ic) ims.length (strV ims)
 fo : FnsOwn X B (.slice fa xs.length fc) xs
 dp : D < P
 gd : gL ≠ D
 gp : gL ≠ P
 db : D < B
 pb : P < B
 gb : gL < B
 b : Below D w X
 bs : B ≤ X.heap.size

section
variable {X Y w : World} {D P B gL : Nat} {ls : List (List UInt8)} {nm : List UInt8} {ims : List (List UInt8)} {xs : List FV} {ia : Option Addr} {ic : Nat} {fa : Option Addr} {fc : Nat}

/-- Whatever leaves the blocks below B and the rows alone. -/
theorem RdSt.grown {row : Option Nat} (h : RdSt X w D P B gL ls nm ims xs ia ic fa fc) (hg : X.grownBy Y row) (hrow : ∀ k, row = some k → B ≤ k):
 (∀ k, k < B → Y.heap[k]? = X.heap[k]?) ∧ Below D w Y ∧ B ≤ Y.heap.size := by
 have hk : ∀ k, k < B → Y.heap[k]? = X.heap[k]? := fun k hk => hg.block k (Nat.lt_of_lt_of_le hk h.bs) (fun e => by have := hrow k e.symm; omega)
 exact ⟨hk, h.b.grown hg (Nat.le_trans (Nat.le_of_lt h.db) h.bs) (fun k e => Nat.le_trans (Nat.le_of_lt h.db) (hrow k e)), Nat.le_trans h.bs hg.size⟩

theorem RdSt.below (h : RdSt X w D P B gL ls nm ims xs ia ic fa fc) (hb : Below X.heap.size X Y) : RdSt Y w D P B gL ls nm ims xs ia ic fa fc :=
 have hp : P < X.heap.size := Nat.lt_of_lt_of_le h.pb h.bs
 have hd : D < X.heap.size := Nat.lt_of_lt_of_le h.db h.bs
 have hg : gL < X.heap.size := Nat.lt_of_lt_of_le h.gb h.bs
 ⟨(hb.cell (p := ⟨P, 0, none⟩) hp).trans h.p0, (hb.cell (p := ⟨P, 1, none⟩) hp).trans h.p1, (hb.cell (p := ⟨P, 2, none⟩) hp).trans h.p2, fun j => (hb.frozen (p := ⟨P, j, none⟩) hp).trans (h.pf j),
  (hb.cell (p := ⟨D, 0, none⟩) hd).trans h.r0, (hb.cell (p := ⟨D, 1, none⟩) hd).trans h.r1, (hb.cell (p := ⟨D, 2, none⟩) hd).trans h.r2, fun j => (hb.frozen (p := ⟨D, j, none⟩) hd).trans (h.rf j),
  fun j hj => (hb.cell (p := ⟨gL, j, none⟩) hg).trans (h.lines j hj), own_below h.oi hb, h.fo.below hb, h.dp, h.gd, h.gp, h.db, h.pb, h.gb, h.b.trans (hb.mono (Nat.le_of_lt hd)), Nat.le_trans h.bs hb.size⟩

theorem RdSt.drew (h : RdSt X w D P B gL ls nm ims xs ia ic fa fc) : RdSt X.drew w D P B gL ls nm ims xs ia ic fa fc := h.below ⟨rfl, rfl, rfl, Nat.le_refl _, fun _ _ => rfl⟩

/-- The package's name is written. -/
theorem RdSt.name0 (h : RdSt X w D P B gL ls nm ims xs ia ic fa fc) (hk : ∀ k, k < B → Y.heap[k]? = X.heap[k]?) (hb : Below D w Y) (hbs : B ≤ Y.heap.size) (x : List UInt8) (oi : Y.ownsRow B 9 1 (.slice ia ims.length ic) ims.length (strV ims)) (fo : FnsOwn Y B (.slice fa xs.length fc) xs) : RdSt (Y.setCell ⟨P, 0, none⟩ (.string ⟨x.toArray⟩)) w D P B gL ls x ims xs ia ic fa fc := by
 have hg := grown_set Y P 0 (.string ⟨x.toArray⟩)
 have off : ∀ {e size n : Nat} {v : Value} {ys : List Value}, Y.ownsRow B e size v n ys → v.ownBlock = none ∨ v.ownBlock ≠ some P := fun ho => own_off ho h.pb
 have hoth : ∀ (q : Addr), q.block ≠ P → q.block < B → (Y.setCell ⟨P, 0, none⟩ (.string ⟨x.toArray⟩)).cell? q = X.cell? q := fun q hq hqb => (World.cell?_setCell_other _ _ _ _ (fun e => hq (by rw [← e]))).trans (World.cell?_of_block (hk _ hqb))
 have hdp : D ≠ P := Nat.ne_of_lt h.dp
 have hfz : ∀ (q : Addr), q.block < B → (Y.setCell ⟨P, 0, none⟩ (.string ⟨x.toArray⟩)).frozen? q = X.frozen? q := fun q hqb => (World.frozen?_setCell ..).trans (World.frozen?_of_block (hk _ hqb))
 have hp : ∀ j, Y.cell? ⟨P, j, none⟩ = X.cell? ⟨P, j, none⟩ := fun j => World.cell?_of_block (hk _ h.pb)
 exact ⟨World.cell?_setCell_same _ _ _ ((hp 0).trans h.p0), (World.cell?_setCell_other _ _ _ _ (by simp)).trans ((hp 1).trans h.p1), (World.cell?_setCell_other _ _ _ _ (by simp)).trans ((hp 2).trans h.p2), fun j => (hfz ⟨P, j, none⟩ h.pb).trans (h.pf j), (hoth _ hdp h.db).trans h.r0, (hoth _ hdp h.db).trans h.r1, (hoth _ hdp h.db).trans h.r2, fun j => (hfz ⟨D, j, none⟩ h.db).trans (h.rf j),
  fun j hj => (hoth ⟨gL, j, none⟩ h.gp h.gb).trans (h.lines j hj), oi.kept hg (off oi), fo.kept hg (off fo.row) (fun y hy => off (fo.trees y hy)), h.dp, h.gd, h.gp, h.db, h.pb, h.gb, hb.grown hg (Nat.le_trans (Nat.le_of_lt h.db) hbs) (fun k e => by injection e with e; have := h.dp; omega), by simpa using hbs⟩

theorem RdSt.name (h : RdSt X w D P B gL ls nm ims xs ia ic fa fc) (x : List UInt8) : RdSt (X.setCell ⟨P, 0, none⟩ (.string ⟨x.toArray⟩)) w D P B gL ls x ims xs ia ic fa fc := h.name0 (fun _ _ => rfl) h.b h.bs x h.oi h.fo

/-- Its functions. -/
theorem RdSt.fn1 (h : RdSt X w D P B gL ls nm ims xs ia ic fa fc) (hk : ∀ k, k < B → Y.heap[k]? = X.heap[k]?) (hb : Below D w Y) (hbs : B ≤ Y.heap.size) {xs' : List FV} {fa' : Option Addr} {fc' : Nat} (oi : Y.ownsRow B 9 1 (.slice ia ims.length ic) ims.length (strV ims)) (fo : FnsOwn Y B (.slice fa' xs'.length fc') xs') : RdSt (Y.setCell ⟨P, 2, none⟩ (.slice fa' xs'.length fc')) w D P B gL ls nm ims xs' ia ic fa' fc' := by
 have hg := grown_set Y P 2 (.slice fa' xs'.length fc')
 have off : ∀ {e size n : Nat} {v : Value} {ys : List Value}, Y.ownsRow B e size v n ys → v.ownBlock = none ∨ v.ownBlock ≠ some P := fun ho => own_off ho h.pb
 have hoth : ∀ (q : Addr), q.block ≠ P → q.block < B → (Y.setCell ⟨P, 2, none⟩ (.slice fa' xs'.length fc')).cell? q = X.cell? q := fun q hq hqb => (World.cell?_setCell_other _ _ _ _ (fun e => hq (by rw [← e]))).trans (World.cell?_of_block (hk _ hqb))
 have hdp : D ≠ P := Nat.ne_of_lt h.dp
 have hfz : ∀ (q : Addr), q.block < B → (Y.setCell ⟨P, 2, none⟩ (.slice fa' xs'.length fc')).frozen? q = X.frozen? q := fun q hqb => (World.frozen?_setCell ..).trans (World.frozen?_of_block (hk _ hqb))
 have hp : ∀ j, Y.cell? ⟨P, j, none⟩ = X.cell? ⟨P, j, none⟩ := fun j => World.cell?_of_block (hk _ h.pb)
 exact ⟨(World.cell?_setCell_other _ _ _ _ (by simp)).trans ((hp 0).trans h.p0), (World.cell?_setCell_other _ _ _ _ (by simp)).trans ((hp 1).trans h.p1), World.cell?_setCell_same _ _ _ ((hp 2).trans h.p2), fun j => (hfz ⟨P, j, none⟩ h.pb).trans (h.pf j), (hoth _ hdp h.db).trans h.r0, (hoth _ hdp h.db).trans h.r1, (hoth _ hdp h.db).trans h.r2, fun j => (hfz ⟨D, j, none⟩ h.db).trans (h.rf j),
  fun j hj => (hoth ⟨gL, j, none⟩ h.gp h.gb).trans (h.lines j hj), oi.kept hg (off oi), fo.kept hg (off fo.row) (fun y hy => off (fo.trees y hy)), h.dp, h.gd, h.gp, h.db, h.pb, h.gb, hb.grown hg (Nat.le_trans (Nat.le_of_lt h.db) hbs) (fun k e => by injection e with e; have := h.dp; omega), by simpa using hbs⟩

theorem RdSt.func (h : RdSt X w D P B gL ls nm ims xs ia ic fa fc) (y : FV) (hy : X.ownsRow B 73 4 (fvT y) y.1.2.2.length (nodesV y.1.2.2)) (hn : xs.length ≤ 1048576) :
 ∃ g' c' Y, (Builtin.append_ #[74, 74] 74 #[.slice fa xs.length fc, .slice (some ⟨X.heap.size, 0, none⟩) 1 1]).run Try.prog (X.alloc (.cells #[.string ⟨y.1.1.toArray⟩, .int .i64 y.1.2.1, fvT y] 79)) = .ok (.slice (some ⟨g', 0, none⟩) (xs.length + 1) c') Y ∧
  Y.cell? ⟨P, 2, none⟩ = some (.slice fa xs.length fc) ∧ (∀ j, Y.frozen? ⟨P, j, none⟩ = false) ∧ RdSt (Y.setCell ⟨P, 2, none⟩ (.slice (some ⟨g', 0, none⟩) (xs.length + 1) c')) w D P B gL ls nm ims (xs ++ [y]) ia ic (some ⟨g', 0, none⟩) c' := by
 obtain ⟨i0, hi, hz0, hz1, hz2⟩ := info_parts infoFunc
 have hX1 : Below X.heap.size X (X.alloc (.cells #[.string ⟨y.1.1.toArray⟩, .int .i64 y.1.2.1, fvT y] 79)) := (Below.refl _ _).alloc (Nat.le_refl _) _
 have h1 := h.below hX1
 have hy1 := own_below hy hX1
 obtain ⟨v', Y, hrun, hown, hg, _⟩ := run_append_src (P := Try.prog) (X.alloc (.cells #[.string ⟨y.1.1.toArray⟩, .int .i64 y.1.2.1, fvT y] 79)) B 74 74 79 i0 _ 3 48 Try.underlying74 hi hz0 hz1 hz2 rfl (by decide) _ _ _ h1.fo.row _ 1 (fnsV [y]) (new_fn X y 1) (by unfold maxLen; omega) (by omega) h1.bs
 obtain ⟨g', c', rfl⟩ := own_some hown (by omega)
 obtain ⟨hk, hb, hbs⟩ := h1.grown hg (fun k e => (h1.fo.row.lt k e).1)
 have e1 : (xs ++ [y]).length = xs.length + 1 := by simp
 have hown2 : Y.ownsRow B 79 3 (.slice (some ⟨g', 0, none⟩) (xs ++ [y]).length c') (xs ++ [y]).length (fnsV (xs ++ [y])) := by
  rw [e1, fnsV_append]; exact hown
 have htr : ∀ z ∈ xs ++ [y], Y.ownsRow B 73 4 (fvT z) z.1.2.2.length (nodesV z.1.2.2) := fun z hz => by
  rw [List.mem_append, List.mem_singleton] at hz
  rcases hz with hz | rfl
  ·
   exact (h1.fo.trees z hz).kept hg (own_types (h1.fo.trees z hz) h1.fo.row (by decide))
  ·
   exact hy1.kept hg (own_types hy1 h1.fo.row (by decide))
 have hoi := h1.oi.kept hg (own_types h1.oi h1.fo.row (by decide))
 have hz := h1.fn1 hk hb hbs hoi (⟨hown2, htr⟩ : FnsOwn Y B _ (xs ++ [y]))
 refine ⟨g', c', Y, hrun, (World.cell?_of_block (a := ⟨P, 2, none⟩) (hk _ h1.pb)).trans h1.p2, fun j => (World.frozen?_of_block (a := ⟨P, j, none⟩) (hk _ h1.pb)).trans (h1.pf j), ?_⟩
 rw [e1] at hz
 exact hz
end

end Go.Proofs.Ytaioedcaopbgkaa

/-! What the writing of several blocks leaves; rows that lie apart. -/
namespace Go.Proofs.Ytaioedcaopbgkaa
open Go.RowKit

/-- Of what was there nothing but the blocks of S was written. -/
structure Wrote (w w' : World) (S : Nat → Prop) : Prop where
 os : w'.os = w.os
 tape : w'.tape = w.tape
 output : w'.output = w.output
 size : w.heap.size ≤ w'.heap.size
 block : ∀ k, k < w.heap.size → ¬ S k → w'.heap[k]? = w.heap[k]?

theorem Wrote.refl (w : World) (S : Nat → Prop) : Wrote w w S := ⟨rfl, rfl, rfl, Nat.le_refl _, fun _ _ _ => rfl⟩
theorem Wrote.trans {a b c : World} {S : Nat → Prop} (h : Wrote a b S) (k : Wrote b c S) : Wrote a c S :=
 ⟨k.os.trans h.os, k.tape.trans h.tape, k.output.trans h.output, Nat.le_trans h.size k.size, fun i hi hs => (k.block i (Nat.lt_of_lt_of_le hi h.size) hs).trans (h.block i hi hs)⟩
theorem Wrote.mono {w w' : World} {S T : Nat → Prop} (h : Wrote w w' S) (hs : ∀ k, S k → T k) : Wrote w w' T := ⟨h.os, h.tape, h.output, h.size, fun k hk hn => h.block k hk (fun e => hn (hs k e))⟩
theorem Wrote.of_grown {w w' : World} {row : Option Nat} {S : Nat → Prop} (h : w.grownBy w' row) (hs : ∀ k, row = some k → S k) : Wrote w w' S :=
 ⟨h.os, h.tape, h.output, h.size, fun k hk hn => h.block k hk (fun e => hn (hs k e.symm))⟩
theorem Wrote.of_below {w w' : World} {S : Nat → Prop} (h : Below w.heap.size w w') : Wrote w w' S := ⟨h.os, h.tape, h.output, h.size, fun k hk _ => h.block k hk⟩
theorem Wrote.below {w w' : World} {S : Nat → Prop} {B : Nat} (h : Wrote w w' S) (hB : B ≤ w.heap.size) (hs : ∀ k, S k → B ≤ k) : Below B w w' :=
 ⟨h.os, h.tape, h.output, h.size, fun k hk => h.block k (Nat.lt_of_lt_of_le hk hB) (fun e => by have := hs k e; omega)⟩
theorem own_wrote {w w' : World} {base e size n : Nat} {v : Value} {xs : List Value} {S : Nat → Prop} (h : w.ownsRow base e size v n xs) (hw : Wrote w w' S) (hv : ∀ k, v.ownBlock = some k → ¬ S k) : w'.ownsRow base e size v n xs := by
 refine ⟨h.1, ?_⟩
 rcases h.2 with hn | ⟨g, cap, cur, rfl, hb, hgg, rest⟩
 ·
  exact .inl hn
 ·
  refine .inr ⟨g, cap, cur, rfl, hb, ?_, rest⟩
  rw [hw.block g (Array.getElem?_eq_some_iff.1 hgg).1 (hv g rfl)]
  exact hgg

/-- The trees lie apart, one by one. -/
def Apart (vs : List Value) : Prop := vs.Pairwise (fun a b => a.ownBlock = none ∨ a.ownBlock ≠ b.ownBlock)
theorem Apart.ne {vs : List Value} (h : Apart vs) {i j : Nat} (hi : i < vs.length) (hj : j < vs.length) (hij : i ≠ j) : vs[i].ownBlock = none ∨ vs[i].ownBlock ≠ vs[j].ownBlock := by
 rcases Nat.lt_or_gt_of_ne hij with hl | hl
 ·
  exact List.pairwise_iff_getElem.1 h i j hi hj hl
 ·
  rcases List.pairwise_iff_getElem.1 h j i hj hi hl with e | e
  ·
   rw [e]; cases vs[i].ownBlock <;> simp
  ·
   exact Or.inr (fun e2 => e e2.symm)

theorem Apart.nil : Apart [] := List.Pairwise.nil
theorem Apart.snoc {vs : List Value} {u : Value} (h : Apart vs) (hu : ∀ v ∈ vs, v.ownBlock = none ∨ v.ownBlock ≠ u.ownBlock) : Apart (vs ++ [u]) :=
 List.pairwise_append.2 ⟨h, List.pairwise_singleton _ _, fun a ha b hb => by rw [List.mem_singleton] at hb; subst hb; exact hu a ha⟩
end Go.Proofs.Ytaioedcaopbgkaa

/-! The contracts of the exact laws' own helpers over lists of texts: eqStringS, markStringS, heldStringS, markText. -/
namespace Go.Proofs.Ytaioedcaopbgkaa
open Go.RowKit

/-- The digits of k ahead of acc. -/
def markGo : Nat → Nat → List UInt8 → List UInt8
 | 0, _, acc => acc
 | f + 1, k, acc => if k = 0 then acc else markGo f (k / 10) ((48 + UInt8.ofNat (k % 10)) :: acc)
def markL (k : Nat) : List UInt8 := 109 :: markGo k k []

end Go.Proofs.Ytaioedcaopbgkaa

/-! The contracts of the exact laws' own helpers over lists of texts: eqStringS, markStringS, heldStringS. -/
namespace Go.Proofs.Ytaioedcaopbgkaa
open Go.RowKit


/-- The marks from k on. -/
def marksV (k : Nat) : Nat → List Value
 | 0 => []
 | n + 1 => marksV k n ++ [.string ⟨(markL (k + n)).toArray⟩]

end Go.Proofs.Ytaioedcaopbgkaa

/-! The helpers over lists of texts, whatever the list's value: nil, empty or not. -/
namespace Go.Proofs.Ytaioedcaopbgkaa
open Go.RowKit




end Go.Proofs.Ytaioedcaopbgkaa

/-! A list of texts that came in, as the walks take it; the exact laws' helpers over such lists: szStringS, toStringS. -/
namespace Go.Proofs.Ytaioedcaopbgkaa
open Go.ChangeShapes Go.WideShapes Go.ChangeAt Go.RowKit


def szT (m n : Nat) (left : Int) : Int := if (m : Int) + (n : Int) ≤ left then left - (m : Int) - (n : Int) else -1
/-- How many bytes in all. -/
def joinN (ts : List (List UInt8)) : Nat := ts.flatten.length

end Go.Proofs.Ytaioedcaopbgkaa

/-! The laws' own helpers over functions and packages: szFunc, szFuncS, szPackage, eqFunc, eqFuncS, eqStringS, eqPackage. -/
namespace Go.Proofs.Ytaioedcaopbgkaa
open Go.RowKit

def szM (m : Nat) (left : Int) : Int := if (m : Int) ≤ left then left - (m : Int) else -1
def fnSz (f : Fn) : Nat := f.1.length + (f.2.2.length + textsN f.2.2)
def fnsSz : List Fn → Nat
 | [] => 0
 | f :: r => fnSz f + fnsSz r
/-- How much a package has in all. -/
def pkSz (nm : List UInt8) (ims : List (List UInt8)) (fs : List Fn) : Nat := nm.length + (ims.length + joinN ims) + (fs.length + fnsSz fs)

def LongF (fs : List Fn) : Prop := ∀ j, (fs.getD j fn0).1.length ≤ maxLen ∧ (fs.getD j fn0).2.2.length ≤ maxLen ∧ LongT (fs.getD j fn0).2.2

end Go.Proofs.Ytaioedcaopbgkaa

/-! What the landed functions of chapter 7 are told of a package; what the laws hold. -/
namespace Go.Proofs.Ytaioedcaopbgkaa
open Go.RowKit

def IntF (fs : List Fn) : Prop := ∀ j, (-9223372036854775808 ≤ (fs.getD j fn0).2.1 ∧ (fs.getD j fn0).2.1 ≤ 9223372036854775807) ∧ IntT (fs.getD j fn0).2.2

/-- What the landed functions are told of a package that they are handed. -/
structure PkOk (w : World) (nm : List UInt8) (ia : Option Addr) (il ic : Nat) (fa : Option Addr) (fl fc : Nat) (ims : List (List UInt8)) (fs : List Fn) : Prop where
 i : TextsIn w ia il ims
 f : FuncsIn w fa fl fs
 ic : ia = none → ic = 0
 fc : (fa = none → fc = 0) ∧ fl ≤ fc
 int : IntF fs
 il : il ≤ 1048576
 fl : fl ≤ 1048576
 nm : nm.length ≤ 1048576
 is : ∀ i, (ims.getD i []).length ≤ 1048576
 fs : ShortF fs

theorem PkOk.below {w w' : World} {nm : List UInt8} {ia : Option Addr} {il ic : Nat} {fa : Option Addr} {fl fc : Nat} {ims : List (List UInt8)} {fs : List Fn} (h : PkOk w nm ia il ic fa fl fc ims fs) (hb : Below w.heap.size w w') : PkOk w' nm ia il ic fa fl fc ims fs :=
 ⟨h.i.below hb, h.f.below hb, h.ic, h.fc, h.int, h.il, h.fl, h.nm, h.is, h.fs⟩

theorem own_texts0 {w : World} {base n : Nat} {v : Value} {ts : List (List UInt8)} (h : w.ownsRow base 9 1 v n (strV ts)) : ∃ a c, v = .slice a n c ∧ (a = none → c = 0) ∧ TextsIn w a n ts := by
 obtain ⟨_, a, c, rfl, hin⟩ := own_texts h
 refine ⟨a, c, rfl, fun e => ?_, hin⟩
 rcases own_forms h with ⟨e2, _, _⟩ | ⟨g, cp, e2⟩
 ·
  injection e2
 ·
  injection e2 with e3; rw [e] at e3; cases e3

/-- Three cells of a block. -/
structure Box3 (V : World) (k : Nat) (a b c : Value) : Prop where
 c0 : V.cell? ⟨k, 0, none⟩ = some a
 c1 : V.cell? ⟨k, 1, none⟩ = some b
 c2 : V.cell? ⟨k, 2, none⟩ = some c

theorem Box3.lt {V : World} {k : Nat} {a b c : Value} (h : Box3 V k a b c) : k < V.heap.size := World.block_lt_of_cell? V ⟨k, 0, none⟩ h.c0
theorem Box3.keep {V V' : World} {k : Nat} {a b c : Value} (h : Box3 V k a b c) (hb : V'.heap[k]? = V.heap[k]?) : Box3 V' k a b c :=
 ⟨(World.cell?_of_block (a := ⟨k, 0, none⟩) hb).trans h.c0, (World.cell?_of_block (a := ⟨k, 1, none⟩) hb).trans h.c1, (World.cell?_of_block (a := ⟨k, 2, none⟩) hb).trans h.c2⟩
theorem Box3.below {V V' : World} {k : Nat} {a b c : Value} (h : Box3 V k a b c) (hb : Below V.heap.size V V') : Box3 V' k a b c := h.keep (hb.block k h.lt)
theorem Box3.wrote {V V' : World} {k : Nat} {a b c : Value} {S : Nat → Prop} (h : Box3 V k a b c) (hw : Wrote V V' S) (hk : ¬ S k) : Box3 V' k a b c := h.keep (hw.block k h.lt hk)
theorem Box3.grown {V V' : World} {k : Nat} {a b c : Value} {row : Option Nat} (h : Box3 V k a b c) (hg : V.grownBy V' row) (hk : some k ≠ row) : Box3 V' k a b c := h.keep (hg.block k h.lt hk)
theorem Box3.drew {V : World} {k : Nat} {a b c : Value} (h : Box3 V k a b c) : Box3 V.drew k a b c := ⟨h.c0, h.c1, h.c2⟩
theorem Box3.new (V : World) (a b c : Value) (t : TypeId) : Box3 (V.alloc (.cells #[a, b, c] t)) V.heap.size a b c ∧ Below V.heap.size V (V.alloc (.cells #[a, b, c] t)) := by
 have hb : Below V.heap.size V (V.alloc (.cells #[a, b, c] t)) := (Below.refl _ _).alloc (Nat.le_refl _) _
 have hA := heap_alloc_new V (.cells #[a, b, c] t)
 generalize V.alloc (.cells #[a, b, c] t) = W at hb hA ⊢
 exact ⟨⟨by simp [World.cell?, hA], by simp [World.cell?, hA], by simp [World.cell?, hA]⟩, hb⟩

/-- A package that a call owns can be read. -/
theorem own_pk {w : World} {base : Nat} {vi vf : Value} {ims : List (List UInt8)} {xs : List FV} {fs : List Fn} (hoi : w.ownsRow base 9 1 vi ims.length (strV ims)) (hof : FnsOwn w base vf xs) (hxs : xs.map (·.1) = fs) :
 ∃ ai ci af cf, vi = .slice ai ims.length ci ∧ vf = .slice af fs.length cf ∧ (ai = none → ci = 0) ∧ ((af = none → cf = 0) ∧ fs.length ≤ cf) ∧ TextsIn w ai ims.length ims ∧ FuncsIn w af fs.length fs := by
 obtain ⟨ai, ci, rfl, hic, hit⟩ := own_texts0 hoi
 obtain ⟨af, cf, rfl, hfc, hif⟩ := hof.in
 have hl : xs.length = fs.length := by rw [← hxs, List.length_map]
 have hcp : fs.length ≤ cf := by
  rcases hof.row.2 with ⟨e, h0⟩ | ⟨g, cap, cur, e, _, _, hc, _⟩
  ·
   rw [← hl, h0]; exact Nat.zero_le _
  ·
   injection e with _ _ e3
   rw [e3, ← hl]; exact hc
 rw [hxs, hl] at hif
 exact ⟨ai, ci, af, cf, rfl, by rw [hl], hic, ⟨hfc, hcp⟩, hit, hif⟩

end Go.Proofs.Ytaioedcaopbgkaa
