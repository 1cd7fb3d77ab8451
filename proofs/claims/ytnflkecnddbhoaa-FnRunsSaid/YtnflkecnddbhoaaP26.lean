/-
  Parts of one proof, one behind the other: NodeM, FnMS, FnMP, ProjT, ProjM, ProjK, Draw7.
-/
import Derived.Test.YtnflkecnddbhoaaP25
import Derived.Test.YtnflkecnddbhoaaP10
import Derived.Test.YtnflkecnddbhoaaP9
import Derived.Deep.RegionWith
import Derived.Test.YtnflkecnddbhoaaP18
import Derived.Deep.RegionLaw
import Derived.Lib.SmallJoins

/-! The laws' own helpers over rows of nodes: markNodeS, heldNodeS, likeTree. -/
namespace Go.Proofs.Ytnflkecnddbhoaa
open Go.RowKit

/-- The marks of m nodes, from k on. -/
def marksN (k : Nat) : Nat → List Nd
  | 0 => []
  | m + 1 => marksN k m ++ [(((k + 4 * m : Nat) : Int), ((k + 4 * m + 1 : Nat) : Int), markL (k + 4 * m + 1 + 1), markL (k + 4 * m + 1 + 1 + 1))]

theorem marksN_len (k m : Nat) : (marksN k m).length = m := by
  induction m with
  | zero => rfl
  | succ m ih => simp [marksN, ih]

theorem marksN_at (k m j : Nat) (h : j < m) : (marksN k m).getD j nd0 = (((k + 4 * j : Nat) : Int), ((k + 4 * j + 1 : Nat) : Int), markL (k + 4 * j + 1 + 1), markL (k + 4 * j + 1 + 1 + 1)) := by
  induction m with
  | zero => omega
  | succ m ih =>
    unfold marksN
    by_cases hj : j < m
    · rw [← ih hj]
      simp [List.getD, List.getElem?_append, marksN_len, hj]
    · obtain rfl : j = m := by omega
      simp [List.getD, marksN_len]

theorem marksN_set (k i : Nat) (ns : List Nd) (h : i < ns.length) : (marksN k i ++ ns.drop i).set i (((k + 4 * i : Nat) : Int), ((k + 4 * i + 1 : Nat) : Int), markL (k + 4 * i + 1 + 1), markL (k + 4 * i + 1 + 1 + 1)) = marksN k (i + 1) ++ ns.drop (i + 1) := by
  rw [List.set_append_right _ _ (by rw [marksN_len]; omega), marksN_len, Nat.sub_self, List.drop_eq_getElem_cons h, List.set_cons_zero]
  conv => rhs; unfold marksN
  rw [List.append_assoc]; rfl



end Go.Proofs.Ytnflkecnddbhoaa

/-! The laws' own helpers over lists of functions: what several blocks' writing leaves; marks of functions. -/
namespace Go.Proofs.Ytnflkecnddbhoaa
open Go.RowKit

/-- What functions hold when they are marked from k on, and the next mark. -/
def fmk (k : Nat) (x : FV) : FV := ((markL k, ((k + 1 : Nat) : Int), marksN (k + 2) x.1.2.2.length), x.2)
def fmark (k : Nat) : List FV → List FV
  | [] => []
  | x :: r => fmk k x :: fmark (k + 2 + 4 * x.1.2.2.length) r
def fend (k : Nat) : List FV → Nat
  | [] => k
  | x :: r => fend (k + 2 + 4 * x.1.2.2.length) r

theorem fmk_T (k : Nat) (x : FV) : fvT (fmk k x) = fvT x := by unfold fvT fmk; rw [marksN_len]
theorem fmark_len (k : Nat) (xs : List FV) : (fmark k xs).length = xs.length := by
  induction xs generalizing k with
  | nil => rfl
  | cons x r ih => simp [fmark, ih]
theorem fmark_snoc (k : Nat) (xs : List FV) (x : FV) : fmark k (xs ++ [x]) = fmark k xs ++ [fmk (fend k xs) x] ∧ fend k (xs ++ [x]) = fend k xs + 2 + 4 * x.1.2.2.length := by
  induction xs generalizing k with
  | nil => exact ⟨rfl, rfl⟩
  | cons y r ih =>
    have := ih (k + 2 + 4 * y.1.2.2.length)
    exact ⟨by rw [List.cons_append, fmark, this.1]; rfl, by rw [List.cons_append, fend, this.2]; rfl⟩
theorem fend_ge (k : Nat) (xs : List FV) : k ≤ fend k xs := by
  induction xs generalizing k with
  | nil => exact Nat.le_refl _
  | cons x r ih => have := ih (k + 2 + 4 * x.1.2.2.length); unfold fend; omega
theorem fend_app (k : Nat) (xs ys : List FV) : fend k (xs ++ ys) = fend (fend k xs) ys := by
  induction xs generalizing k with
  | nil => rfl
  | cons x r ih => rw [List.cons_append, fend, ih]; rfl
theorem fend_take (k : Nat) (xs : List FV) (m : Nat) : fend k (xs.take m) ≤ fend k xs := by
  conv => rhs; rw [← List.take_append_drop m xs, fend_app]
  exact fend_ge _ _

/-- Half way: m functions are marked. -/
def fhalf (k : Nat) (xs : List FV) (m : Nat) : List FV := fmark k (xs.take m) ++ xs.drop m
theorem fhalf_len (k : Nat) (xs : List FV) (m : Nat) : (fhalf k xs m).length = xs.length := by
  unfold fhalf; rw [List.length_append, fmark_len, ← List.length_append, List.take_append_drop]
theorem fhalf_at (k : Nat) (xs : List FV) (m : Nat) (hm : m < xs.length) : (fhalf k xs m).getD m fv0 = xs[m] := by
  unfold fhalf
  have hl : (fmark k (xs.take m)).length = m := by rw [fmark_len, List.length_take]; omega
  rw [List.getD_eq_getElem?_getD, List.getElem?_append_right (by omega), hl, Nat.sub_self, List.getElem?_drop, Nat.add_zero, List.getElem?_eq_getElem hm]
  rfl
theorem fhalf_step (k : Nat) (xs : List FV) (m : Nat) (hm : m < xs.length) : (fhalf k xs m).set m (fmk (fend k (xs.take m)) xs[m]) = fhalf k xs (m + 1) ∧ fend k (xs.take (m + 1)) = fend k (xs.take m) + 2 + 4 * xs[m].1.2.2.length := by
  have h1 := fmark_snoc k (xs.take m) xs[m]
  rw [← List.take_succ_eq_append_getElem hm] at h1
  refine ⟨?_, h1.2⟩
  have hl : (fmark k (xs.take m)).length = m := by rw [fmark_len, List.length_take]; omega
  unfold fhalf
  rw [h1.1, List.set_append_right _ _ (by omega), hl, Nat.sub_self, List.drop_eq_getElem_cons hm, List.set_cons_zero, List.append_assoc]
  rfl
theorem fhalf_T (k : Nat) (xs : List FV) (m : Nat) : (fhalf k xs m).map fvT = xs.map fvT := by
  have key : ∀ (k : Nat) (l : List FV), (fmark k l).map fvT = l.map fvT := by
    intro k l
    induction l generalizing k with
    | nil => rfl
    | cons x r ih => rw [fmark, List.map_cons, List.map_cons, fmk_T, ih]
  unfold fhalf
  rw [List.map_append, key, ← List.map_append, List.take_append_drop]

theorem set_same {α : Type} {l : List α} {i : Nat} {a : α} (h : l[i]? = some a) : l.set i a = l := by
  apply List.ext_getElem?
  intro j
  rw [List.getElem?_set]
  split
  · rename_i e
    subst e
    split
    · exact h.symm
    · rename_i hl; rw [List.getElem?_eq_none (by omega)]
  · rfl

def FnBlocks (v : Value) (xs : List FV) (k : Nat) : Prop := v.ownBlock = some k ∨ ∃ x ∈ xs, (fvT x).ownBlock = some k


theorem fmark_at (k : Nat) (xs : List FV) (m : Nat) (hm : m < xs.length) : (fmark k xs).getD m fv0 = fmk (fend k (xs.take m)) xs[m] := by
  induction xs generalizing k m with
  | nil => simp at hm
  | cons x r ih =>
    cases m with
    | zero => rfl
    | succ m =>
      have := ih (k + 2 + 4 * x.1.2.2.length) m (by simpa using hm)
      rw [List.take_succ_cons, fend, List.getElem_cons_succ, ← this]
      rfl


end Go.Proofs.Ytnflkecnddbhoaa

/-! The laws' own helpers over packages: markPackage, heldPackage. -/
namespace Go.Proofs.Ytnflkecnddbhoaa
open Go.RowKit



theorem FnsOwn.alloc {w : World} {base : Nat} {v : Value} {xs : List FV} (h : FnsOwn w base v xs) (o : Obj) : FnsOwn (w.alloc o) base v xs := ⟨h.row.alloc o, fun x hx => (h.trees x hx).alloc o⟩
theorem FnsOwn.none {w w' : World} {base : Nat} {v : Value} {xs : List FV} (h : FnsOwn w base v xs) (hg : w.grownBy w' none) : FnsOwn w' base v xs := ⟨own_none h.row hg, fun x hx => own_none (h.trees x hx) hg⟩
/-- A row of texts, and functions: the one's writing leaves the other. -/
theorem FnsOwn.texts {w w' : World} {base b2 n : Nat} {v vi : Value} {xs : List FV} {ys : List Value} (h : FnsOwn w base v xs) (hi : w.ownsRow b2 9 1 vi n ys) (hg : w.grownBy w' vi.ownBlock) : FnsOwn w' base v xs :=
  ⟨h.row.kept hg (own_types h.row hi (by decide)), fun x hx => (h.trees x hx).kept hg (own_types (h.trees x hx) hi (by decide))⟩
theorem texts_fns {w w' : World} {base b2 n : Nat} {v vi : Value} {xs : List FV} {ys : List Value} (h : FnsOwn w base v xs) (hi : w.ownsRow b2 9 1 vi n ys) (hw : Wrote w w' (FnBlocks v xs)) : w'.ownsRow b2 9 1 vi n ys := by
  refine own_wrote hi hw (fun k hk hb => ?_)
  rcases hb with e | ⟨x, hx, e⟩
  · rcases own_types hi h.row (by decide) with e2 | e2
    · rw [hk] at e2; cases e2
    · exact e2 (by rw [hk, e])
  · rcases own_types hi (h.trees x hx) (by decide) with e2 | e2
    · rw [hk] at e2; cases e2
    · exact e2 (by rw [hk, e])

def PkBlocks (vi vf : Value) (xs : List FV) (k : Nat) : Prop := vi.ownBlock = some k ∨ FnBlocks vf xs k



theorem fend_le (k : Nat) (xs : List FV) : fend k xs ≤ k + 2 * xs.length + 4 * fnsSz (xs.map (·.1)) := by
  induction xs generalizing k with
  | nil => exact Nat.le_add_right _ _
  | cons x r ih =>
    have h := ih (k + 2 + 4 * x.1.2.2.length)
    have e : fnsSz ((x :: r).map (·.1)) = fnSz x.1 + fnsSz (r.map (·.1)) := rfl
    have e2 : x.1.2.2.length ≤ fnSz x.1 := by unfold fnSz; omega
    rw [e]
    unfold fend
    rw [List.length_cons]
    omega

theorem fend_small (k : Nat) (xs : List FV) (h : ∀ x ∈ xs, x.1.2.2.length ≤ 60) : fend k xs ≤ k + 242 * xs.length := by
  induction xs generalizing k with
  | nil => exact Nat.le_add_right _ _
  | cons x r ih =>
    have h1 := ih (k + 2 + 4 * x.1.2.2.length) (fun y hy => h y (List.mem_cons_of_mem _ hy))
    have h2 := h x (List.mem_cons_self)
    unfold fend
    rw [List.length_cons]
    omega

end Go.Proofs.Ytnflkecnddbhoaa

/-! A project that a call has made; the laws' own helper toPackageS. -/
namespace Go.Proofs.Ytnflkecnddbhoaa
open Go.RowKit

/-- A package, where its lists lie, and between which blocks. -/
structure PV where
  nm : List UInt8
  ims : List (List UInt8)
  xs : List FV
  ia : Option Addr
  ic : Nat
  fa : Option Addr
  fc : Nat
  lo : Nat
  hi : Nat
def pvI (y : PV) : Value := .slice y.ia y.ims.length y.ic
def pvF (y : PV) : Value := .slice y.fa y.xs.length y.fc
def pvP (y : PV) : Pk := (y.nm, y.ims, y.xs.map (·.1))
def pv0 : PV := ⟨[], [], [], none, 0, none, 0, 0, 0⟩
def pvsV : List PV → List Value
  | [] => []
  | y :: r => .string ⟨y.nm.toArray⟩ :: pvI y :: pvF y :: pvsV r
theorem pvsV_len (ys : List PV) : (pvsV ys).length = ys.length * 3 := by
  induction ys with
  | nil => rfl
  | cons n r ih => simp only [pvsV, List.length_cons, ih]; omega
theorem pvsV_at (ys : List PV) (j : Nat) (hj : j < ys.length) : (pvsV ys)[j * 3]? = some (.string ⟨(ys.getD j pv0).nm.toArray⟩) ∧ (pvsV ys)[j * 3 + 1]? = some (pvI (ys.getD j pv0)) ∧ (pvsV ys)[j * 3 + 2]? = some (pvF (ys.getD j pv0)) := by
  induction ys generalizing j with
  | nil => simp at hj
  | cons n r ih =>
    cases j with
    | zero => simp [pvsV]
    | succ j =>
      obtain ⟨h0, h1, h2⟩ := ih j (by simpa using hj)
      refine ⟨?_, ?_, ?_⟩
      · rw [show (j + 1) * 3 = j * 3 + 1 + 1 + 1 by omega]; simpa [pvsV] using h0
      · rw [show (j + 1) * 3 + 1 = j * 3 + 1 + 1 + 1 + 1 by omega]; simpa [pvsV] using h1
      · rw [show (j + 1) * 3 + 2 = j * 3 + 2 + 1 + 1 + 1 by omega]; simpa [pvsV] using h2
theorem pvsV_set (ys : List PV) (j : Nat) (y : PV) : (((pvsV ys).set (j * 3) (.string ⟨y.nm.toArray⟩)).set (j * 3 + 1) (pvI y)).set (j * 3 + 2) (pvF y) = pvsV (ys.set j y) := by
  induction ys generalizing j with
  | nil => simp [pvsV]
  | cons b r ih =>
    cases j with
    | zero => simp [pvsV]
    | succ j => rw [show (j + 1) * 3 = j * 3 + 1 + 1 + 1 by omega]; simp [pvsV, ih]
theorem fill_pv (ys : List PV) (len k : Nat) (y : PV) (hy : ys.length = k) (hk : k < len) : (ys ++ List.replicate (len - k) pv0).set k y = (ys ++ [y]) ++ List.replicate (len - (k + 1)) pv0 := by
  rw [List.set_append_right _ _ (by omega), hy, Nat.sub_self, show len - k = (len - (k + 1)) + 1 by omega, List.replicate_succ, List.set_cons_zero, List.append_assoc]
  rfl
theorem made_pvs (n : Nat) : (madeCells (Value.agg #[.string ⟨#[]⟩, .slice none 0 0, .slice none 0 0]).cells (n * 3)).toList = pvsV (List.replicate n pv0) := by
  have hc : (Value.agg #[.string ⟨#[]⟩, .slice none 0 0, .slice none 0 0]).cells = #[.string ⟨#[]⟩, .slice none 0 0, .slice none 0 0] := rfl
  rw [hc]
  apply List.ext_getElem?
  intro j
  by_cases hj : j < n * 3
  · obtain ⟨v0, v1, v2⟩ := pvsV_at (List.replicate n pv0) (j / 3) (by simp; omega)
    have hg : (List.replicate n pv0).getD (j / 3) pv0 = pv0 := by simp [List.getD, List.getElem?_replicate]; split <;> rfl
    rw [hg] at v0 v1 v2
    have h3 : j % 3 = 0 ∨ j % 3 = 1 ∨ j % 3 = 2 := by omega
    rcases h3 with h' | h' | h'
    · have ej : j = j / 3 * 3 := by omega
      rw [← ej] at v0
      rw [v0]
      simp [madeCells, hj, h', pv0]
    · have ej : j = j / 3 * 3 + 1 := by omega
      rw [← ej] at v1
      rw [v1]
      simp [madeCells, hj, h', pv0, pvI]
    · have ej : j = j / 3 * 3 + 2 := by omega
      rw [← ej] at v2
      rw [v2]
      simp [madeCells, hj, h', pv0, pvF]
  · rw [List.getElem?_eq_none (by simp [madeCells]; omega), List.getElem?_eq_none (by rw [pvsV_len]; simp; omega)]

/-- A package whose rows lie between two blocks. -/
structure PvOk (w : World) (y : PV) : Prop where
  im : w.ownsRow y.lo 9 1 (pvI y) y.ims.length (strV y.ims)
  fo : FnsOwn w y.lo (pvF y) y.xs
  ap : Apart (y.xs.map fvT)
  top : ∀ k, PkBlocks (pvI y) (pvF y) y.xs k → k < y.hi
theorem PvOk.wrote {w w' : World} {y : PV} (h : PvOk w y) {S : Nat → Prop} (hw : Wrote w w' S) (hs : ∀ k, S k → k < y.lo ∨ y.hi ≤ k) : PvOk w' y := by
  have hoff : ∀ {e size n : Nat} {v : Value} {zs : List Value}, w.ownsRow y.lo e size v n zs → (∀ k, v.ownBlock = some k → k < y.hi) → w'.ownsRow y.lo e size v n zs := fun ho ht => own_wrote ho hw (fun k hk hS => by
    have h1 := (ho.lt k hk).1
    have h2 := ht k hk
    rcases hs k hS with h3 | h3 <;> omega)
  exact ⟨hoff h.im (fun k e => h.top k (Or.inl e)), ⟨hoff h.fo.row (fun k e => h.top k (Or.inr (Or.inl e))), fun x hx => hoff (h.fo.trees x hx) (fun k e => h.top k (Or.inr (Or.inr ⟨x, hx, e⟩)))⟩, h.ap, h.top⟩
theorem PvOk.below {w w' : World} {y : PV} (h : PvOk w y) (hb : Below w.heap.size w w') : PvOk w' y := h.wrote (S := fun _ => False) (Wrote.of_below hb) (fun _ e => e.elim)

/-- A project that a call owns: its row, and its packages' lists between B and T. -/
structure PjOwn (w : World) (B T : Nat) (v : Value) (ys : List PV) : Prop where
  row : w.ownsRow B 117 3 v ys.length (pvsV ys)
  each : ∀ y ∈ ys, PvOk w y ∧ B ≤ y.lo ∧ y.hi ≤ T
  seq : ys.Pairwise (fun a b => a.hi ≤ b.lo)
  off : ∀ k, v.ownBlock = some k → k < T ∧ ∀ y ∈ ys, k < y.lo ∨ y.hi ≤ k
  sz : T ≤ w.heap.size
theorem PjOwn.below {w w' : World} {B T : Nat} {v : Value} {ys : List PV} (h : PjOwn w B T v ys) (hb : Below w.heap.size w w') : PjOwn w' B T v ys :=
  ⟨own_below h.row hb, fun y hy => ⟨(h.each y hy).1.below hb, (h.each y hy).2⟩, h.seq, h.off, Nat.le_trans h.sz hb.size⟩
theorem getD_map_pv (ys : List PV) (j : Nat) : (ys.map pvP).getD j pk0 = pvP (ys.getD j pv0) := by
  rw [List.getD_eq_getElem?_getD, List.getD_eq_getElem?_getD, List.getElem?_map]
  cases ys[j]? <;> rfl
/-- What is owned can be read. -/
theorem PjOwn.in {w : World} {B T : Nat} {v : Value} {ys : List PV} (h : PjOwn w B T v ys) : ∃ a cap, v = .slice a ys.length cap ∧ (a = none → cap = 0) ∧ PkgsIn w a ys.length (ys.map pvP) := by
  rcases own_forms h.row with ⟨rfl, h0, _⟩ | ⟨g, cp, rfl⟩
  · exact ⟨none, 0, by rw [h0], fun _ => rfl, by simp, fun j hj => by omega⟩
  · refine ⟨some ⟨g, 0, none⟩, cp, rfl, fun e => (by cases e), by simp, fun j hj => ?_⟩
    obtain ⟨v0, v1, v2⟩ := pvsV_at ys j hj
    have hc := fun k (hk : k < ys.length * 3) => World.ownsRow.cellAt h.row k hk
    have hmem : ys.getD j pv0 ∈ ys := by rw [List.getD_eq_getElem?_getD, List.getElem?_eq_getElem hj]; exact List.getElem_mem hj
    have hy := (h.each _ hmem).1
    obtain ⟨ai, ci, af, cf, e1, e2, _, _, hti, hfi⟩ := own_pk hy.im hy.fo rfl
    refine ⟨g, 0, rfl, (h.row.lt g rfl).2, ?_, ai, (ys.getD j pv0).ims.length, ci, af, ((ys.getD j pv0).xs.map (·.1)).length, cf, ?_, ?_, ?_, ?_⟩
    · rw [Nat.zero_add, hc _ (by omega), v0, getD_map_pv]; rfl
    · rw [Nat.zero_add, hc _ (by omega), v1, e1]
    · rw [Nat.zero_add, hc _ (by omega), v2, e2]
    · rw [getD_map_pv]; exact hti
    · rw [getD_map_pv]; exact hfi

theorem infoPackage : (Try.prog.info? 117).map (fun i => (i.zero, i.size, i.bytes)) = some (some (.agg #[.string ⟨#[]⟩, .slice none 0 0, .slice none 0 0]), 3, 64) := by kernel_rfl


end Go.Proofs.Ytnflkecnddbhoaa

/-! The laws' own helper markPackageS. -/
namespace Go.Proofs.Ytnflkecnddbhoaa
open Go.RowKit


/-- Where the marks end. -/
def mend (k : Nat) : List PV → Nat
  | [] => k
  | y :: r => mend (fend (k + 1 + y.ims.length) y.xs) r
theorem mend_snoc (k : Nat) (ys : List PV) (j : Nat) (hj : j < ys.length) : mend k (ys.take (j + 1)) = fend (mend k (ys.take j) + 1 + (ys.getD j pv0).ims.length) (ys.getD j pv0).xs := by
  have e : ys.getD j pv0 = ys[j] := by simp [List.getD, hj]
  have app : ∀ (x y : List PV) (k : Nat), mend k (x ++ y) = mend (mend k x) y := by
    intro x
    induction x with
    | nil => intro y k; rfl
    | cons a r ih => intro y k; simp only [List.cons_append, mend, ih]
  rw [List.take_succ_eq_append_getElem hj, app, e]
  rfl
theorem mend_ge (k : Nat) (ys : List PV) : k ≤ mend k ys := by
  induction ys generalizing k with
  | nil => exact Nat.le_refl _
  | cons y r ih =>
    have h1 := ih (fend (k + 1 + y.ims.length) y.xs)
    have h2 := fend_ge (k + 1 + y.ims.length) y.xs
    unfold mend; omega
theorem mend_take (k : Nat) (ys : List PV) (j : Nat) : mend k (ys.take j) ≤ mend k ys := by
  have app : ∀ (x y : List PV) (k : Nat), mend k (x ++ y) = mend (mend k x) y := by
    intro x
    induction x with
    | nil => intro y k; rfl
    | cons a r ih => intro y k; simp only [List.cons_append, mend, ih]
  have := app (ys.take j) (ys.drop j) k
  rw [List.take_append_drop] at this
  rw [this]
  exact mend_ge _ _
theorem pvsV_name (ys : List PV) (j : Nat) (x : List UInt8) : (pvsV ys).set (j * 3) (.string ⟨x.toArray⟩) = pvsV (ys.set j ⟨x, (ys.getD j pv0).ims, (ys.getD j pv0).xs, (ys.getD j pv0).ia, (ys.getD j pv0).ic, (ys.getD j pv0).fa, (ys.getD j pv0).fc, (ys.getD j pv0).lo, (ys.getD j pv0).hi⟩) := by
  induction ys generalizing j with
  | nil => simp [pvsV]
  | cons b r ih =>
    cases j with
    | zero => simp [pvsV, pvI, pvF]
    | succ j => rw [show (j + 1) * 3 = j * 3 + 1 + 1 + 1 by omega]; simp [pvsV, ih]
theorem PvOk.blocks {w : World} {y : PV} (h : PvOk w y) {q : Nat} (hq : PkBlocks (pvI y) (pvF y) y.xs q) : y.lo ≤ q ∧ q < y.hi := by
  refine ⟨?_, h.top q hq⟩
  rcases hq with e | e | ⟨x, hx, e⟩
  · exact (h.im.lt q e).1
  · exact (h.fo.row.lt q e).1
  · exact ((h.fo.trees x hx).lt q e).1
/-- Rows that bear the same lists. -/
def SameL (zs ys : List PV) : Prop := zs.length = ys.length ∧ ∀ i, pvI (zs.getD i pv0) = pvI (ys.getD i pv0) ∧ pvF (zs.getD i pv0) = pvF (ys.getD i pv0)
theorem SameL.name {zs ys : List PV} (h : SameL zs ys) (j : Nat) (x : List UInt8) : SameL (zs.set j ⟨x, (zs.getD j pv0).ims, (zs.getD j pv0).xs, (zs.getD j pv0).ia, (zs.getD j pv0).ic, (zs.getD j pv0).fa, (zs.getD j pv0).fc, (zs.getD j pv0).lo, (zs.getD j pv0).hi⟩) ys := by
  refine ⟨by rw [List.length_set]; exact h.1, fun i => ?_⟩
  by_cases hij : j = i
  · subst hij
    by_cases hj : j < zs.length
    · rw [show (zs.set j _).getD j pv0 = ⟨x, (zs.getD j pv0).ims, (zs.getD j pv0).xs, (zs.getD j pv0).ia, (zs.getD j pv0).ic, (zs.getD j pv0).fa, (zs.getD j pv0).fc, (zs.getD j pv0).lo, (zs.getD j pv0).hi⟩ by simp [List.getD, hj]]
      exact ⟨(h.2 j).1, (h.2 j).2⟩
    · rw [List.set_eq_of_length_le (by omega)]; exact h.2 j
  · rw [show (zs.set j _).getD i pv0 = zs.getD i pv0 by simp [List.getD, List.getElem?_set_ne hij]]
    exact h.2 i


end Go.Proofs.Ytnflkecnddbhoaa

/-! What the landed functions of chapter 8 are told of a project. -/
namespace Go.Proofs.Ytnflkecnddbhoaa
open Go.RowKit

/-- What the landed functions are told of a project that they are handed. -/
structure PkgsOk (w : World) (a : Option Addr) (len cap : Nat) (ps : List Pk) : Prop where
  hlen : ps.length = len
  nil : a = none → cap = 0
  hcap : len ≤ cap
  small : len ≤ 1048576
  each : ∀ j, j < len → ∃ b off, a = some ⟨b, off, none⟩ ∧ b < w.heap.size ∧ w.cell? ⟨b, off + j * 3, none⟩ = some (.string ⟨(ps.getD j pk0).1.toArray⟩) ∧
    ∃ ia il ic fa fl fc, w.cell? ⟨b, off + j * 3 + 1, none⟩ = some (.slice ia il ic) ∧ w.cell? ⟨b, off + j * 3 + 2, none⟩ = some (.slice fa fl fc) ∧ PkOk w (ps.getD j pk0).1 ia il ic fa fl fc (ps.getD j pk0).2.1 (ps.getD j pk0).2.2
theorem PkgsOk.below {w w' : World} {a : Option Addr} {len cap : Nat} {ps : List Pk} (h : PkgsOk w a len cap ps) (hb : Below w.heap.size w w') : PkgsOk w' a len cap ps :=
  ⟨h.hlen, h.nil, h.hcap, h.small, fun j hj => by
    obtain ⟨b, off, e, hlt, c0, ia, il, ic, fa, fl, fc, c1, c2, hk⟩ := h.each j hj
    exact ⟨b, off, e, Nat.lt_of_lt_of_le hlt hb.size, (hb.cell (p := ⟨b, off + j * 3, none⟩) hlt).trans c0, ia, il, ic, fa, fl, fc, (hb.cell (p := ⟨b, off + j * 3 + 1, none⟩) hlt).trans c1, (hb.cell (p := ⟨b, off + j * 3 + 2, none⟩) hlt).trans c2, hk.below hb⟩⟩
theorem PkgsOk.in {w : World} {a : Option Addr} {len cap : Nat} {ps : List Pk} (h : PkgsOk w a len cap ps) : PkgsIn w a len ps :=
  ⟨h.hlen, fun j hj => by
    obtain ⟨b, off, e, hlt, c0, ia, il, ic, fa, fl, fc, c1, c2, hk⟩ := h.each j hj
    exact ⟨b, off, e, hlt, c0, ia, il, ic, fa, fl, fc, c1, c2, hk.i, hk.f⟩⟩
theorem PkgsOk.short {w : World} {a : Option Addr} {len cap : Nat} {ps : List Pk} (h : PkgsOk w a len cap ps) : ShortPs ps := fun j => by
  by_cases hj : j < len
  · obtain ⟨b, off, e, hlt, c0, ia, il, ic, fa, fl, fc, c1, c2, hk⟩ := h.each j hj
    exact ⟨hk.nm, by rw [hk.i.1]; exact hk.il, hk.is, by rw [hk.f.1]; exact hk.fl, hk.fs⟩
  · have : ps.getD j pk0 = pk0 := by rw [List.getD, List.getElem?_eq_none (by rw [h.hlen]; omega)]; rfl
    rw [this]
    exact ⟨by simp [pk0], by simp [pk0], fun i => by simp [pk0], by simp [pk0], fun i => by simp [pk0, fn0, ShortT, nd0]⟩
/-- A project that a call owns, as they are told of it. -/
theorem PjOwn.ok {w : World} {B T : Nat} {g len cap : Nat} {ys : List PV} {ps : List Pk} (h : PjOwn w B T (.slice (some ⟨g, 0, none⟩) len cap) ys) (hp : ys.map pvP = ps) (hi : IntPs ps) (hs : ShortPs ps) (hl : ps.length = len) (hlen : len ≤ 1048576) : PkgsOk w (some ⟨g, 0, none⟩) len cap ps := by
  have hyl : ys.length = len := by rw [← hl, ← hp, List.length_map]
  have hrow := h.row
  rw [hyl] at hrow
  have hcap : len ≤ cap := by
    rcases hrow.2 with ⟨e, _⟩ | ⟨g', cap', cur, e, _, _, hc, _⟩
    · cases e
    · injection e with _ _ e3; rw [e3]; exact hc
  refine ⟨hl, (fun e => (by cases e)), hcap, hlen, fun j hj => ?_⟩
  obtain ⟨v0, v1, v2⟩ := pvsV_at ys j (by omega)
  have hc := fun k (hk : k < len * 3) => World.ownsRow.cellAt hrow k hk
  have hmem : ys.getD j pv0 ∈ ys := by simp [List.getD, show j < ys.length by omega]
  have hy := (h.each _ hmem).1
  obtain ⟨ai, ci, af, cf, e1, e2, h3, h4, hti, hfi⟩ := own_pk hy.im hy.fo rfl
  have hpj : ps.getD j pk0 = pvP (ys.getD j pv0) := by rw [← hp]; exact getD_map_pv ys j
  have hsj := hs j
  have hij := hi j
  rw [hpj] at hsj hij ⊢
  refine ⟨g, 0, rfl, (hrow.lt g rfl).2, ?_, ai, (ys.getD j pv0).ims.length, ci, af, ((ys.getD j pv0).xs.map (fun x : FV => x.1)).length, cf, ?_, ?_, ⟨hti, hfi, h3, h4, hij, hsj.2.1, hsj.2.2.2.1, hsj.1, hsj.2.2.1, hsj.2.2.2.2⟩⟩
  · rw [Nat.zero_add, hc _ (by omega), v0]; rfl
  · rw [Nat.zero_add, hc _ (by omega), v1, e1]
  · rw [Nat.zero_add, hc _ (by omega), v2, e2]

theorem fend_le8 (k : Nat) (xs : List FV) : fend k xs ≤ k + 4 * (xs.length + fnsSz (xs.map (·.1))) := by
  induction xs generalizing k with
  | nil => simp [fend, fnsSz]
  | cons x r ih =>
    have h1 := ih (k + 2 + 4 * x.1.2.2.length)
    have h2 : x.1.2.2.length ≤ fnSz x.1 := by unfold fnSz; omega
    simp only [fend, List.length_cons, List.map_cons, fnsSz]
    omega
theorem mend_le8 (k : Nat) (ys : List PV) : mend k ys ≤ k + ys.length + 4 * psSz (ys.map pvP) := by
  induction ys generalizing k with
  | nil => simp [mend, psSz]
  | cons y r ih =>
    have h1 := ih (fend (k + 1 + y.ims.length) y.xs)
    have h2 := fend_le8 (k + 1 + y.ims.length) y.xs
    have h3 : pkZ (pvP y) = y.nm.length + (y.ims.length + joinN y.ims) + (y.xs.length + fnsSz (y.xs.map (·.1))) := by unfold pkZ pkSz pvP; simp
    simp only [mend, List.length_cons, List.map_cons, psSz]
    omega
/-- How much the marks of a project may be. -/
theorem pj_small {ys : List PV} {ps : List Pk} (hp : ys.map pvP = ps) (hz : ps.length + psSz ps ≤ 1048576) : (∀ y ∈ ys, y.ims.length ≤ 1100000 ∧ y.xs.length ≤ 1100000 ∧ ∀ x ∈ y.xs, x.1.2.2.length ≤ 1100000) ∧ mend 1 ys ≤ 30000000 := by
  have hyl : ys.length = ps.length := by rw [← hp, List.length_map]
  refine ⟨fun y hy => ?_, ?_⟩
  · obtain ⟨i, hi, rfl⟩ := List.mem_iff_getElem.1 hy
    have h1 := psSz_at ps i
    have h2 : ps.getD i pk0 = pvP ys[i] := by rw [← hp, getD_map_pv]; simp [List.getD, hi]
    rw [h2] at h1
    have h3 : pkZ (pvP ys[i]) = ys[i].nm.length + (ys[i].ims.length + joinN ys[i].ims) + (ys[i].xs.length + fnsSz (ys[i].xs.map (·.1))) := by unfold pkZ pkSz pvP; simp
    refine ⟨by omega, by omega, fun x hx => ?_⟩
    obtain ⟨j, hj, rfl⟩ := List.mem_iff_getElem.1 hx
    have h4 := fnsSz_at (ys[i].xs.map (·.1)) j
    have h5 : (ys[i].xs.map (·.1)).getD j fn0 = (ys[i].xs[j]).1 := by simp [List.getD, hj]
    rw [h5] at h4
    unfold fnSz at h4
    omega
  · have := mend_le8 1 ys
    rw [hp] at this
    omega
theorem orderV_len (ps : List Pk) : (orderV ps).length ≤ 8 := by
  unfold orderV
  split
  · rename_i h
    have h1 := (order8_end h).1.len
    have h2 := (projB_parts h).2.1
    omega
  · simp
theorem here_parts {ps : List Pk} {s : List UInt8} (h : hereB ps s = true) : projB ps = true ∧ s ∈ names8 ps := by
  unfold hereB at h
  rw [Bool.and_eq_true, decide_eq_true_eq] at h
  exact ⟨h.1, (at8_mem ps s).1 h.2⟩
theorem reachV_len (ps : List Pk) (s : List UInt8) : (reachV ps s).length ≤ 8 := by
  unfold reachV
  split
  · rename_i h
    have h0 := here_parts h
    have h1 := (reach8_end h0.2).1.len
    have h2 := (projB_parts h0.1).2.1
    omega
  · simp
theorem needV_len (ps : List Pk) (s : List UInt8) : (needV ps s).length ≤ 8 := by
  unfold needV
  split
  · rename_i h
    have h0 := here_parts h
    have h1 := (order8_end h0.1).1.len
    have h2 := (projB_parts h0.1).2.1
    have h3 : (need8 ps s).length ≤ (order8 ps).length := List.length_filter_le _ _
    omega
  · simp

end Go.Proofs.Ytnflkecnddbhoaa

/-! A package is drawn: what the drawing holds. -/
namespace Go.Proofs.Ytnflkecnddbhoaa
open Go.RowKit

theorem FnsOwn.grown {w w' : World} {base : Nat} {v : Value} {xs : List FV} {row : Option Nat} (h : FnsOwn w base v xs) (hg : w.grownBy w' row) (hr : ∀ k, row = some k → k < base) : FnsOwn w' base v xs := by
  have off : ∀ {e size n : Nat} {u : Value} {ys : List Value}, w.ownsRow base e size u n ys → u.ownBlock = Option.none ∨ u.ownBlock ≠ row := fun {e size n u ys} ho => by
    cases hu : u.ownBlock with
    | none => exact Or.inl rfl
    | some k => exact Or.inr (fun e2 => by have := (ho.lt k hu).1; have := hr k e2.symm; omega)
  exact ⟨h.row.kept hg (off h.row), fun x hx => (h.trees x hx).kept hg (off (h.trees x hx))⟩

theorem own_grown {w w' : World} {base e size n : Nat} {u : Value} {ys : List Value} {row : Option Nat} (h : w.ownsRow base e size u n ys) (hg : w.grownBy w' row) (hr : ∀ k, row = some k → k < base) : w'.ownsRow base e size u n ys := h.kept hg (by
  cases hu : u.ownBlock with
  | none => exact Or.inl rfl
  | some k => exact Or.inr (fun e2 => by have := (h.lt k hu).1; have := hr k e2.symm; omega))

/-- A function is put behind a row of them. -/
theorem push_fn (X : World) (base : Nat) (v : Value) (xs : List FV) (y : FV) (h : FnsOwn X base v xs) (hy : X.ownsRow base 124 4 (fvT y) y.1.2.2.length (nodesV y.1.2.2)) (hb : base ≤ X.heap.size) (hn : xs.length ≤ 1048576) :
    ∃ g' c' Y, (Builtin.append_ #[115, 115] 115 #[v, .slice (some ⟨X.heap.size, 0, none⟩) 1 1]).run Try.prog (X.alloc (.cells #[.string ⟨y.1.1.toArray⟩, .int .i64 y.1.2.1, fvT y] 120)) = .ok (.slice (some ⟨g', 0, none⟩) (xs.length + 1) c') Y ∧
      FnsOwn Y base (.slice (some ⟨g', 0, none⟩) (xs ++ [y]).length c') (xs ++ [y]) ∧ X.grownBy Y v.ownBlock := by
  obtain ⟨i0, hi, hz0, hz1, hz2⟩ := info_parts infoFunc
  have hX1 : Below X.heap.size X (X.alloc (.cells #[.string ⟨y.1.1.toArray⟩, .int .i64 y.1.2.1, fvT y] 120)) := (Below.refl _ _).alloc (Nat.le_refl _) _
  have h1 := h.below hX1
  have hy1 := own_below hy hX1
  obtain ⟨v', Y, hrun, hown, hg, _⟩ := run_append_src (P := Try.prog) (X.alloc (.cells #[.string ⟨y.1.1.toArray⟩, .int .i64 y.1.2.1, fvT y] 120)) base 115 115 120 i0 _ 3 48 Try.underlying115 hi hz0 hz1 hz2 rfl (by decide) _ _ _ h1.row _ 1 (fnsV [y]) (new_fn X y 1) (by unfold maxLen; omega) (by omega) (by simp; omega)
  obtain ⟨g', c', rfl⟩ := own_some hown (by omega)
  have e1 : (xs ++ [y]).length = xs.length + 1 := by simp
  have hown2 : Y.ownsRow base 120 3 (.slice (some ⟨g', 0, none⟩) (xs ++ [y]).length c') (xs ++ [y]).length (fnsV (xs ++ [y])) := by
    rw [e1, fnsV_append]; exact hown
  have htr : ∀ z ∈ xs ++ [y], Y.ownsRow base 124 4 (fvT z) z.1.2.2.length (nodesV z.1.2.2) := fun z hz => by
    rw [List.mem_append, List.mem_singleton] at hz
    rcases hz with hz | rfl
    · exact (h1.trees z hz).kept hg (own_types (h1.trees z hz) h1.row (by decide))
    · exact hy1.kept hg (own_types hy1 h1.row (by decide))
  exact ⟨g', c', Y, hrun, ⟨hown2, htr⟩, (World.grownBy_alloc X _ _).trans hg⟩

/-- What l7Draw holds: the package so far (at P), the answer's zero cells (at R), the calls that are known (vo). -/
structure DrSt (X w : World) (B : Nat) (a : Option Addr) (len cap : Nat) (R P : Nat) (nm : List UInt8) (vi : Value) (fa : Option Addr) (fc : Nat) (xs : List FV) (vo : Value) (ns : List Nd) : Prop where
  p : Box3 X P (.string ⟨nm.toArray⟩) vi (.slice fa xs.length fc)
  pf : ∀ j, X.frozen? ⟨P, j, none⟩ = false
  r : Box3 X R (.string ⟨#[]⟩) (.slice none 0 0) (.slice none 0 0)
  rf : ∀ j, X.frozen? ⟨R, j, none⟩ = false
  fo : FnsOwn X (P + 1) (.slice fa xs.length fc) xs
  ow : X.ownsRow (P + 1) 124 4 vo ns.length (nodesV ns)
  cur : Cur X B a len cap
  g : w.grownBy X (some B)
  br : B < R
  rp : R < P
  wr : w.heap.size = R
  ap : ∀ x ∈ xs, (fvT x).ownBlock = none ∨ (fvT x).ownBlock ≠ vo.ownBlock

section
variable {X Y w : World} {B : Nat} {a : Option Addr} {len cap R P : Nat} {nm : List UInt8} {vi : Value} {fa : Option Addr} {fc : Nat} {xs : List FV} {vo : Value} {ns : List Nd}

/-- The cursor went on, or something was made. -/
theorem DrSt.next (h : DrSt X w B a len cap R P nm vi fa fc xs vo ns) (hg : X.grownBy Y (some B)) (hc : Cur Y B a len cap) : DrSt Y w B a len cap R P nm vi fa fc xs vo ns :=
  have hp : some P ≠ some B := fun e => by injection e with e; have := h.br; have := h.rp; omega
  have hr : some R ≠ some B := fun e => by injection e with e; have := h.br; omega
  have hlt : ∀ k, some B = some k → k < P + 1 := fun k e => by injection e with e; have := h.br; have := h.rp; omega
  ⟨h.p.grown hg hp, fun j => (World.frozen?_of_block (a := ⟨P, j, none⟩) (hg.block P h.p.lt hp)).trans (h.pf j), h.r.grown hg hr, fun j => (World.frozen?_of_block (a := ⟨R, j, none⟩) (hg.block R h.r.lt hr)).trans (h.rf j),
   h.fo.grown hg hlt, own_grown h.ow hg hlt, hc, h.g.trans hg, h.br, h.rp, h.wr, h.ap⟩
theorem DrSt.made (h : DrSt X w B a len cap R P nm vi fa fc xs vo ns) (hg : X.grownBy Y none) : DrSt Y w B a len cap R P nm vi fa fc xs vo ns :=
  h.next ⟨hg.os, hg.tape, hg.output, hg.size, fun k hk _ => hg.block k hk (by simp)⟩ (h.cur.kept hg (by simp))
theorem DrSt.alloc (h : DrSt X w B a len cap R P nm vi fa fc xs vo ns) (o : Obj) : DrSt (X.alloc o) w B a len cap R P nm vi fa fc xs vo ns := h.made (World.grownBy_alloc X o none)
theorem DrSt.drew (h : DrSt X w B a len cap R P nm vi fa fc xs vo ns) : DrSt X.drew w B a len cap R P nm vi fa fc xs vo ns := h.made (grown_drew X none)
/-- A block of one's own, apart from all that, is written. -/
theorem DrSt.side (h : DrSt X w B a len cap R P nm vi fa fc xs vo ns) {k : Nat} (hg : X.grownBy Y (some k)) (hk : P < k) (hf : ∀ q, (Value.slice fa xs.length fc).ownBlock = some q → q ≠ k) (ht : ∀ x ∈ xs, ∀ q, (fvT x).ownBlock = some q → q ≠ k) (ho : ∀ q, vo.ownBlock = some q → q ≠ k) : DrSt Y w B a len cap R P nm vi fa fc xs vo ns := by
  have hB := h.br
  have hR := h.rp
  have hW := h.wr
  have hp : some P ≠ some k := fun e => by injection e with e; omega
  have hr : some R ≠ some k := fun e => by injection e with e; omega
  have off : ∀ {u : Value}, (∀ q, u.ownBlock = some q → q ≠ k) → u.ownBlock = none ∨ u.ownBlock ≠ some k := fun {u} hu => by
    cases hv : u.ownBlock with
    | none => exact Or.inl rfl
    | some q => exact Or.inr (fun e => by injection e with e; exact hu q hv e)
  refine ⟨h.p.grown hg hp, fun j => (World.frozen?_of_block (a := ⟨P, j, none⟩) (hg.block P h.p.lt hp)).trans (h.pf j), h.r.grown hg hr, fun j => (World.frozen?_of_block (a := ⟨R, j, none⟩) (hg.block R h.r.lt hr)).trans (h.rf j),
    h.fo.kept hg (off hf) (fun x hx => off (ht x hx)), h.ow.kept hg (off ho), h.cur.kept hg (fun q e => by injection e with e; omega), ?_, h.br, h.rp, h.wr, h.ap⟩
  exact ⟨hg.os.trans h.g.os, hg.tape.trans h.g.tape, hg.output.trans h.g.output, Nat.le_trans h.g.size hg.size, fun q hq hn => (hg.block q (Nat.lt_of_lt_of_le hq h.g.size) (fun e => by injection e with e; omega)).trans (h.g.block q hq hn)⟩
end

/-- A block of three cells that was just made, behind a draw. -/
theorem box_new {V : World} {a b c : Value} {t : TypeId} : Box3 (V.alloc (.cells #[a, b, c] t)) V.heap.size a b c ∧ ∀ j, (V.alloc (.cells #[a, b, c] t)).frozen? ⟨V.heap.size, j, none⟩ = false :=
  ⟨(Box3.new V a b c t).1, fun j => Go.Joins.unfrozen_of_block (heap_alloc_new V (.cells #[a, b, c] t)) j⟩
theorem box_on {V Y : World} {B k : Nat} {a b c : Value} (h : Box3 V k a b c ∧ ∀ j, V.frozen? ⟨k, j, none⟩ = false) (hg : V.grownBy Y (some B)) (hk : k ≠ B) : Box3 Y k a b c ∧ ∀ j, Y.frozen? ⟨k, j, none⟩ = false :=
  have hn : some k ≠ some B := fun e => by injection e with e; exact hk e
  ⟨h.1.grown hg hn, fun j => (World.frozen?_of_block (a := ⟨k, j, none⟩) (hg.block k h.1.lt hn)).trans (h.2 j)⟩
theorem box_up1 {V Y : World} {B : Nat} {a b c : Value} {t : TypeId} (hg : (V.alloc (.cells #[a, b, c] t)).drew.grownBy Y (some B)) (hB : B < V.heap.size) : Box3 Y V.heap.size a b c ∧ ∀ j, Y.frozen? ⟨V.heap.size, j, none⟩ = false :=
  box_on (V := (V.alloc (.cells #[a, b, c] t)).drew) ⟨box_new.1.drew, box_new.2⟩ hg (by omega)
theorem box_up2 {V Y : World} {B : Nat} {o : Obj} {a b c : Value} {t : TypeId} (hg : ((V.alloc o).alloc (.cells #[a, b, c] t)).drew.grownBy Y (some B)) (hB : B < V.heap.size) : Box3 Y (V.heap.size + 1) a b c ∧ ∀ j, Y.frozen? ⟨V.heap.size + 1, j, none⟩ = false := by
  have h := box_up1 (V := V.alloc o) hg (by simp; omega)
  rw [World.size_alloc] at h
  exact h
theorem box_up3 {V Y : World} {B : Nat} {o : Obj} {a b c : Value} {t : TypeId} (hg : ((V.alloc (.cells #[a, b, c] t)).alloc o).drew.grownBy Y (some B)) (hB : B < V.heap.size) : Box3 Y V.heap.size a b c ∧ ∀ j, Y.frozen? ⟨V.heap.size, j, none⟩ = false := by
  have hb : Below (V.alloc (.cells #[a, b, c] t)).heap.size (V.alloc (.cells #[a, b, c] t)) ((V.alloc (.cells #[a, b, c] t)).alloc o) := (Below.refl _ _).alloc (Nat.le_refl _) _
  have h := box_new (V := V) (a := a) (b := b) (c := c) (t := t)
  exact box_on (V := ((V.alloc (.cells #[a, b, c] t)).alloc o).drew) ⟨(h.1.below hb).drew, fun j => (hb.frozen (p := ⟨V.heap.size, j, none⟩) (by simp)).trans (h.2 j)⟩ hg (by omega)
/-- The three cells are written. -/
theorem box_set {V : World} {k : Nat} {a b c : Value} (a' b' c' : Value) (h : Box3 V k a b c ∧ ∀ j, V.frozen? ⟨k, j, none⟩ = false) :
    (Box3 (((V.setCell ⟨k, 0, none⟩ a').setCell ⟨k, 1, none⟩ b').setCell ⟨k, 2, none⟩ c') k a' b' c' ∧ ∀ j, (((V.setCell ⟨k, 0, none⟩ a').setCell ⟨k, 1, none⟩ b').setCell ⟨k, 2, none⟩ c').frozen? ⟨k, j, none⟩ = false) ∧ V.grownBy (((V.setCell ⟨k, 0, none⟩ a').setCell ⟨k, 1, none⟩ b').setCell ⟨k, 2, none⟩ c') (some k) := by
  obtain ⟨Y, hY, y0, y1, y2, hg⟩ := set3 a' b' c' h.1.c0 h.1.c1 h.1.c2
  rw [hY]
  refine ⟨⟨⟨y0, y1, y2⟩, fun j => ?_⟩, hg⟩
  rw [← hY]
  exact (World.frozen?_setCell ..).trans ((World.frozen?_setCell ..).trans ((World.frozen?_setCell ..).trans (h.2 j)))

theorem frozen_alw {w : World} {k j : Nat} (o : Obj) (hk : k < w.heap.size) (h : w.frozen? ⟨k, j, none⟩ = false) : (w.alloc o).frozen? ⟨k, j, none⟩ = false :=
  (World.frozen?_of_block (a := ⟨k, j, none⟩) (Below.heap_alloc w o k hk)).trans h

end Go.Proofs.Ytnflkecnddbhoaa
