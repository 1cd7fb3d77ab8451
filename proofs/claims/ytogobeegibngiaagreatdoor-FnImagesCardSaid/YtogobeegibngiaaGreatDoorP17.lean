/-
  Parts of one proof, one behind the other: PackO, FnL, EqT, FnE, PackW, PackK, ProjL, CellA, FnT, NodeM, FnMS, FnMP, ProjT, ProjM, ProjK, Draw7, Draw7A.
-/
import Derived.Test.YtogobeegibngiaaGreatDoorP16
import Derived.Test.YtogobeegibngiaaGreatDoorP5
import Derived.Test.YtogobeegibngiaaGreatDoorP3
import Derived.Test.YtogobeegibngiaaGreatDoorP4
import Derived.Deep.RegionWith
import Derived.Test.YtogobeegibngiaaGreatDoorP13
import Derived.Deep.RegionLaw
import Derived.Lib.SmallJoins

/-! A package that a call has made: its imports, its functions, their trees, each in a row of its own. -/
namespace Go.Proofs.YtogobeegibngiaaGreatDoor
open Go.RowKit

/-- A function, and where its tree lies. -/
abbrev FV := Fn × Option Addr × Nat
def fvT (x : FV) : Value := .slice x.2.1 x.1.2.2.length x.2.2
def fnsV : List FV → List Value
  | [] => []
  | x :: r => .string ⟨x.1.1.toArray⟩ :: .int .i64 x.1.2.1 :: fvT x :: fnsV r

def fv0 : FV := (fn0, none, 0)

theorem fnsV_append (x y : List FV) : fnsV (x ++ y) = fnsV x ++ fnsV y := by
  induction x with
  | nil => rfl
  | cons n r ih => simp [fnsV, ih]

theorem fnsV_one (xs : List FV) : ∀ u ∈ fnsV xs, u.oneCell' = true := by
  induction xs with
  | nil => intro u hu; cases hu
  | cons n r ih =>
    intro u hu
    simp only [fnsV, List.mem_cons] at hu
    rcases hu with rfl | rfl | rfl | h
    · rfl
    · rfl
    · rfl
    · exact ih u h

theorem fnsV_at (xs : List FV) (j : Nat) (hj : j < xs.length) : (fnsV xs)[j * 3]? = some (.string ⟨(xs.getD j fv0).1.1.toArray⟩) ∧ (fnsV xs)[j * 3 + 1]? = some (.int .i64 (xs.getD j fv0).1.2.1) ∧ (fnsV xs)[j * 3 + 2]? = some (fvT (xs.getD j fv0)) := by
  induction xs generalizing j with
  | nil => simp at hj
  | cons n r ih =>
    cases j with
    | zero => simp [fnsV]
    | succ j =>
      obtain ⟨h0, h1, h2⟩ := ih j (by simpa using hj)
      refine ⟨?_, ?_, ?_⟩
      · rw [show (j + 1) * 3 = j * 3 + 1 + 1 + 1 by omega]; simpa [fnsV] using h0
      · rw [show (j + 1) * 3 + 1 = j * 3 + 1 + 1 + 1 + 1 by omega]; simpa [fnsV] using h1
      · rw [show (j + 1) * 3 + 2 = j * 3 + 2 + 1 + 1 + 1 by omega]; simpa [fnsV] using h2

/-- Rows of elements of two types lie in two blocks. -/
theorem own_types {w : World} {b1 b2 e1 e2 s1 s2 n1 n2 : Nat} {v1 v2 : Value} {xs ys : List Value} (h1 : w.ownsRow b1 e1 s1 v1 n1 xs) (h2 : w.ownsRow b2 e2 s2 v2 n2 ys) (he : e1 ≠ e2) : v1.ownBlock = none ∨ v1.ownBlock ≠ v2.ownBlock := by
  rcases h1.2 with ⟨rfl, _⟩ | ⟨g, c, cur, rfl, _, hg, _⟩
  · exact Or.inl rfl
  · rcases h2.2 with ⟨rfl, _⟩ | ⟨g2, c2, cur2, rfl, _, hg2, _⟩
    · exact Or.inr (by simp [Value.ownBlock])
    · refine Or.inr (fun e => ?_)
      simp only [Value.ownBlock, Option.some.injEq] at e
      subst e
      rw [hg] at hg2
      simp only [Option.some.injEq, Obj.cells.injEq] at hg2
      exact he hg2.2.1

structure FnsOwn (w : World) (base : Nat) (v : Value) (xs : List FV) : Prop where
  row : w.ownsRow base 86 3 v xs.length (fnsV xs)
  trees : ∀ x ∈ xs, w.ownsRow base 91 4 (fvT x) x.1.2.2.length (nodesV x.1.2.2)

theorem FnsOwn.below {w w' : World} {base : Nat} {v : Value} {xs : List FV} (h : FnsOwn w base v xs) (hb : Below w.heap.size w w') : FnsOwn w' base v xs := ⟨own_below h.row hb, fun x hx => own_below (h.trees x hx) hb⟩

theorem FnsOwn.kept {w w' : World} {base : Nat} {v : Value} {xs : List FV} {row : Option Nat} (h : FnsOwn w base v xs) (hg : w.grownBy w' row) (h1 : v.ownBlock = none ∨ v.ownBlock ≠ row) (h2 : ∀ x ∈ xs, (fvT x).ownBlock = none ∨ (fvT x).ownBlock ≠ row) : FnsOwn w' base v xs :=
  ⟨h.row.kept hg h1, fun x hx => (h.trees x hx).kept hg (h2 x hx)⟩

theorem FnsOwn.base {w : World} {base b2 : Nat} {v : Value} {xs : List FV} (h : FnsOwn w base v xs) (hb : b2 ≤ base) : FnsOwn w b2 v xs := ⟨own_base h.row hb, fun x hx => own_base (h.trees x hx) hb⟩

theorem FnsOwn.nil (w : World) (base : Nat) : FnsOwn w base (.slice none 0 0) [] := ⟨World.ownsRow_nil w _ _ _, fun x hx => by cases hx⟩

theorem getD_map_fn (xs : List FV) (j : Nat) : (xs.map (·.1)).getD j fn0 = (xs.getD j fv0).1 := by
  rw [List.getD_eq_getElem?_getD, List.getD_eq_getElem?_getD, List.getElem?_map]
  cases xs[j]? <;> rfl

/-- What is owned can be read. -/
theorem FnsOwn.in {w : World} {base : Nat} {v : Value} {xs : List FV} (h : FnsOwn w base v xs) : ∃ a cap, v = .slice a xs.length cap ∧ (a = none → cap = 0) ∧ FuncsIn w a xs.length (xs.map (·.1)) := by
  rcases own_forms h.row with ⟨rfl, h0, _⟩ | ⟨g, cp, rfl⟩
  · exact ⟨none, 0, by rw [h0], fun _ => rfl, by simp, fun j hj => by omega⟩
  · refine ⟨some ⟨g, 0, none⟩, cp, rfl, fun e => (by cases e), by simp, fun j hj => ?_⟩
    obtain ⟨v0, v1, v2⟩ := fnsV_at xs j hj
    have hc := fun k (hk : k < xs.length * 3) => World.ownsRow.cellAt h.row k hk
    have hmem : xs.getD j fv0 ∈ xs := by rw [List.getD_eq_getElem?_getD, List.getElem?_eq_getElem hj]; exact List.getElem_mem hj
    obtain ⟨hl, a, cap, e, hn⟩ := own_nodes (h.trees _ hmem)
    refine ⟨g, 0, rfl, (h.row.lt g rfl).2, ?_, ?_, (xs.getD j fv0).2.1, (xs.getD j fv0).1.2.2.length, (xs.getD j fv0).2.2, ?_, ?_, ?_⟩
    · rw [Nat.zero_add, hc _ (by omega), v0, getD_map_fn]
    · rw [Nat.zero_add, hc _ (by omega), v1, getD_map_fn]
    · rw [Nat.zero_add, hc _ (by omega), v2]; rfl
    · intro e2
      rcases own_forms (h.trees _ hmem) with ⟨e3, _⟩ | ⟨g3, cp3, e3⟩
      · unfold fvT at e3; injection e3
      · unfold fvT at e3; rw [e2] at e3; injection e3 with e4; cases e4
    · rw [getD_map_fn]
      unfold fvT at e
      injection e with e1 e2 e3
      rw [e1]; exact hn

theorem infoFunc : (Tryz.prog.info? 86).map (fun i => (i.zero, i.size, i.bytes)) = some (some (.agg #[.string ⟨#[]⟩, .int .i64 0, .slice none 0 0]), 3, 48) := by kernel_rfl

/-- A new block of one function, as 'append' reads it. -/
theorem new_fn (w : World) (x : FV) (c : Nat) : Src (w.alloc (.cells #[.string ⟨x.1.1.toArray⟩, .int .i64 x.1.2.1, fvT x] 86)) (.slice (some ⟨w.heap.size, 0, none⟩) 1 c) 1 3 (fnsV [x]) := by
  refine ⟨rfl, fnsV_one _, Or.inr ⟨_, c, rfl, fun j u hu => ?_⟩⟩
  rw [add_plain, Nat.zero_add]
  match j, hu with
  | 0, hu => simp [fnsV] at hu; subst hu; simp
  | 1, hu => simp [fnsV] at hu; subst hu; simp
  | 2, hu => simp [fnsV] at hu; subst hu; simp
  | j + 3, hu => simp [fnsV] at hu

section
variable {X Y w : World} {D P B gL : Nat} {ls : List (List UInt8)} {nm : List UInt8} {ims : List (List UInt8)} {xs : List FV} {ia : Option Addr} {ic : Nat} {fa : Option Addr} {fc : Nat}

end

end Go.Proofs.YtogobeegibngiaaGreatDoor

/-! The laws' own helpers over functions and packages: szFunc, szFuncS, szPackage, eqFunc, eqFuncS, eqStringS, eqPackage. -/
namespace Go.Proofs.YtogobeegibngiaaGreatDoor
open Go.RowKit

end Go.Proofs.YtogobeegibngiaaGreatDoor

/-! The laws' own helper eqStringS over texts that can be read. -/
namespace Go.Proofs.YtogobeegibngiaaGreatDoor
open Go.RowKit


end Go.Proofs.YtogobeegibngiaaGreatDoor

/-! The laws' own helpers over functions and packages: eqFunc, eqFuncS, eqStringS over texts that can be read, eqPackage. -/
namespace Go.Proofs.YtogobeegibngiaaGreatDoor
open Go.RowKit




end Go.Proofs.YtogobeegibngiaaGreatDoor

/-! What the writing of several blocks leaves; rows that lie apart. -/
namespace Go.Proofs.YtogobeegibngiaaGreatDoor
open Go.RowKit

/-- Of what was there nothing but the blocks of S was written. -/
structure Wrote (w w' : World) (S : Nat → Prop) : Prop where
  os : w'.os = w.os
  tape : w'.tape = w.tape
  output : w'.output = w.output
  size : w.heap.size ≤ w'.heap.size
  block : ∀ k, k < w.heap.size → ¬ S k → w'.heap[k]? = w.heap[k]?

theorem Wrote.refl (w : World) (S : Nat → Prop) : Wrote w w S := ⟨rfl, rfl, rfl, Nat.le_refl _, fun _ _ _ => rfl⟩
theorem Wrote.trans {a b c : World} {S : Nat → Prop} (h : Wrote a b S) (k : Wrote b c S) : Wrote a c S :=
  ⟨k.os.trans h.os, k.tape.trans h.tape, k.output.trans h.output, Nat.le_trans h.size k.size, fun i hi hs => (k.block i (Nat.lt_of_lt_of_le hi h.size) hs).trans (h.block i hi hs)⟩
theorem Wrote.mono {w w' : World} {S T : Nat → Prop} (h : Wrote w w' S) (hs : ∀ k, S k → T k) : Wrote w w' T := ⟨h.os, h.tape, h.output, h.size, fun k hk hn => h.block k hk (fun e => hn (hs k e))⟩
theorem Wrote.of_grown {w w' : World} {row : Option Nat} {S : Nat → Prop} (h : w.grownBy w' row) (hs : ∀ k, row = some k → S k) : Wrote w w' S :=
  ⟨h.os, h.tape, h.output, h.size, fun k hk hn => h.block k hk (fun e => hn (hs k e.symm))⟩
theorem Wrote.of_below {w w' : World} {S : Nat → Prop} (h : Below w.heap.size w w') : Wrote w w' S := ⟨h.os, h.tape, h.output, h.size, fun k hk _ => h.block k hk⟩
theorem Wrote.below {w w' : World} {S : Nat → Prop} {B : Nat} (h : Wrote w w' S) (hB : B ≤ w.heap.size) (hs : ∀ k, S k → B ≤ k) : Below B w w' :=
  ⟨h.os, h.tape, h.output, h.size, fun k hk => h.block k (Nat.lt_of_lt_of_le hk hB) (fun e => by have := hs k e; omega)⟩
theorem own_wrote {w w' : World} {base e size n : Nat} {v : Value} {xs : List Value} {S : Nat → Prop} (h : w.ownsRow base e size v n xs) (hw : Wrote w w' S) (hv : ∀ k, v.ownBlock = some k → ¬ S k) : w'.ownsRow base e size v n xs := by
  refine ⟨h.1, ?_⟩
  rcases h.2 with hn | ⟨g, cap, cur, rfl, hb, hgg, rest⟩
  · exact .inl hn
  · refine .inr ⟨g, cap, cur, rfl, hb, ?_, rest⟩
    rw [hw.block g (Array.getElem?_eq_some_iff.1 hgg).1 (hv g rfl)]
    exact hgg

end Go.Proofs.YtogobeegibngiaaGreatDoor

/-! What the landed functions of chapter 7 are told of a package; what the laws hold. -/
namespace Go.Proofs.YtogobeegibngiaaGreatDoor
open Go.RowKit

theorem own_texts0 {w : World} {base n : Nat} {v : Value} {ts : List (List UInt8)} (h : w.ownsRow base 9 1 v n (strV ts)) : ∃ a c, v = .slice a n c ∧ (a = none → c = 0) ∧ TextsIn w a n ts := by
  obtain ⟨_, a, c, rfl, hin⟩ := own_texts h
  refine ⟨a, c, rfl, fun e => ?_, hin⟩
  rcases own_forms h with ⟨e2, _, _⟩ | ⟨g, cp, e2⟩
  · injection e2
  · injection e2 with e3; rw [e] at e3; cases e3

/-- Three cells of a block. -/
structure Box3 (V : World) (k : Nat) (a b c : Value) : Prop where
  c0 : V.cell? ⟨k, 0, none⟩ = some a
  c1 : V.cell? ⟨k, 1, none⟩ = some b
  c2 : V.cell? ⟨k, 2, none⟩ = some c

theorem Box3.lt {V : World} {k : Nat} {a b c : Value} (h : Box3 V k a b c) : k < V.heap.size := World.block_lt_of_cell? V ⟨k, 0, none⟩ h.c0
theorem Box3.keep {V V' : World} {k : Nat} {a b c : Value} (h : Box3 V k a b c) (hb : V'.heap[k]? = V.heap[k]?) : Box3 V' k a b c :=
  ⟨(World.cell?_of_block (a := ⟨k, 0, none⟩) hb).trans h.c0, (World.cell?_of_block (a := ⟨k, 1, none⟩) hb).trans h.c1, (World.cell?_of_block (a := ⟨k, 2, none⟩) hb).trans h.c2⟩
theorem Box3.below {V V' : World} {k : Nat} {a b c : Value} (h : Box3 V k a b c) (hb : Below V.heap.size V V') : Box3 V' k a b c := h.keep (hb.block k h.lt)
theorem Box3.wrote {V V' : World} {k : Nat} {a b c : Value} {S : Nat → Prop} (h : Box3 V k a b c) (hw : Wrote V V' S) (hk : ¬ S k) : Box3 V' k a b c := h.keep (hw.block k h.lt hk)
theorem Box3.grown {V V' : World} {k : Nat} {a b c : Value} {row : Option Nat} (h : Box3 V k a b c) (hg : V.grownBy V' row) (hk : some k ≠ row) : Box3 V' k a b c := h.keep (hg.block k h.lt hk)
theorem Box3.drew {V : World} {k : Nat} {a b c : Value} (h : Box3 V k a b c) : Box3 V.drew k a b c := ⟨h.c0, h.c1, h.c2⟩
theorem Box3.new (V : World) (a b c : Value) (t : TypeId) : Box3 (V.alloc (.cells #[a, b, c] t)) V.heap.size a b c ∧ Below V.heap.size V (V.alloc (.cells #[a, b, c] t)) := by
  have hb : Below V.heap.size V (V.alloc (.cells #[a, b, c] t)) := (Below.refl _ _).alloc (Nat.le_refl _) _
  have hA := heap_alloc_new V (.cells #[a, b, c] t)
  generalize V.alloc (.cells #[a, b, c] t) = W at hb hA ⊢
  exact ⟨⟨by simp [World.cell?, hA], by simp [World.cell?, hA], by simp [World.cell?, hA]⟩, hb⟩

end Go.Proofs.YtogobeegibngiaaGreatDoor

/-! The laws' own helpers over projects: szPackageS, eqPackageS. -/
namespace Go.Proofs.YtogobeegibngiaaGreatDoor
open Go.RowKit

end Go.Proofs.YtogobeegibngiaaGreatDoor

/-! A cell of an elder block. -/
namespace Go.Proofs.YtogobeegibngiaaGreatDoor
open Go.RowKit

theorem cell_alw {w : World} {a : Addr} {v : Value} (o : Obj) (h : w.cell? a = some v) : (w.alloc o).cell? a = some v :=
  (World.cell?_of_block (Below.heap_alloc _ _ _ (World.block_lt_of_cell? w a h))).trans h

end Go.Proofs.YtogobeegibngiaaGreatDoor

/-! The laws' own helpers over functions and packages: toFunc, toFuncS, toPackage. -/
namespace Go.Proofs.YtogobeegibngiaaGreatDoor
open Go.RowKit


end Go.Proofs.YtogobeegibngiaaGreatDoor

/-! The laws' own helpers over rows of nodes: markNodeS, heldNodeS, likeTree. -/
namespace Go.Proofs.YtogobeegibngiaaGreatDoor
open Go.RowKit

end Go.Proofs.YtogobeegibngiaaGreatDoor

/-! The laws' own helpers over lists of functions: what several blocks' writing leaves; marks of functions. -/
namespace Go.Proofs.YtogobeegibngiaaGreatDoor
open Go.RowKit

def FnBlocks (v : Value) (xs : List FV) (k : Nat) : Prop := v.ownBlock = some k ∨ ∃ x ∈ xs, (fvT x).ownBlock = some k


end Go.Proofs.YtogobeegibngiaaGreatDoor

/-! The laws' own helpers over packages: markPackage, heldPackage. -/
namespace Go.Proofs.YtogobeegibngiaaGreatDoor
open Go.RowKit



theorem FnsOwn.alloc {w : World} {base : Nat} {v : Value} {xs : List FV} (h : FnsOwn w base v xs) (o : Obj) : FnsOwn (w.alloc o) base v xs := ⟨h.row.alloc o, fun x hx => (h.trees x hx).alloc o⟩
theorem FnsOwn.none {w w' : World} {base : Nat} {v : Value} {xs : List FV} (h : FnsOwn w base v xs) (hg : w.grownBy w' none) : FnsOwn w' base v xs := ⟨own_none h.row hg, fun x hx => own_none (h.trees x hx) hg⟩
def PkBlocks (vi vf : Value) (xs : List FV) (k : Nat) : Prop := vi.ownBlock = some k ∨ FnBlocks vf xs k



end Go.Proofs.YtogobeegibngiaaGreatDoor

/-! A project that a call has made; the laws' own helper toPackageS. -/
namespace Go.Proofs.YtogobeegibngiaaGreatDoor
open Go.RowKit

/-- A package, where its lists lie, and between which blocks. -/
structure PV where
  nm : List UInt8
  ims : List (List UInt8)
  xs : List FV
  ia : Option Addr
  ic : Nat
  fa : Option Addr
  fc : Nat
  lo : Nat
  hi : Nat
def pvI (y : PV) : Value := .slice y.ia y.ims.length y.ic
def pvF (y : PV) : Value := .slice y.fa y.xs.length y.fc
def pv0 : PV := ⟨[], [], [], none, 0, none, 0, 0, 0⟩
def pvsV : List PV → List Value
  | [] => []
  | y :: r => .string ⟨y.nm.toArray⟩ :: pvI y :: pvF y :: pvsV r
theorem pvsV_at (ys : List PV) (j : Nat) (hj : j < ys.length) : (pvsV ys)[j * 3]? = some (.string ⟨(ys.getD j pv0).nm.toArray⟩) ∧ (pvsV ys)[j * 3 + 1]? = some (pvI (ys.getD j pv0)) ∧ (pvsV ys)[j * 3 + 2]? = some (pvF (ys.getD j pv0)) := by
  induction ys generalizing j with
  | nil => simp at hj
  | cons n r ih =>
    cases j with
    | zero => simp [pvsV]
    | succ j =>
      obtain ⟨h0, h1, h2⟩ := ih j (by simpa using hj)
      refine ⟨?_, ?_, ?_⟩
      · rw [show (j + 1) * 3 = j * 3 + 1 + 1 + 1 by omega]; simpa [pvsV] using h0
      · rw [show (j + 1) * 3 + 1 = j * 3 + 1 + 1 + 1 + 1 by omega]; simpa [pvsV] using h1
      · rw [show (j + 1) * 3 + 2 = j * 3 + 2 + 1 + 1 + 1 by omega]; simpa [pvsV] using h2
theorem infoPackage : (Tryz.prog.info? 83).map (fun i => (i.zero, i.size, i.bytes)) = some (some (.agg #[.string ⟨#[]⟩, .slice none 0 0, .slice none 0 0]), 3, 64) := by kernel_rfl


end Go.Proofs.YtogobeegibngiaaGreatDoor

/-! The laws' own helper markPackageS. -/
namespace Go.Proofs.YtogobeegibngiaaGreatDoor
open Go.RowKit


end Go.Proofs.YtogobeegibngiaaGreatDoor

/-! What the landed functions of chapter 8 are told of a project. -/
namespace Go.Proofs.YtogobeegibngiaaGreatDoor
open Go.RowKit

end Go.Proofs.YtogobeegibngiaaGreatDoor

/-! A package is drawn: what the drawing holds. -/
namespace Go.Proofs.YtogobeegibngiaaGreatDoor
open Go.RowKit

theorem FnsOwn.grown {w w' : World} {base : Nat} {v : Value} {xs : List FV} {row : Option Nat} (h : FnsOwn w base v xs) (hg : w.grownBy w' row) (hr : ∀ k, row = some k → k < base) : FnsOwn w' base v xs := by
  have off : ∀ {e size n : Nat} {u : Value} {ys : List Value}, w.ownsRow base e size u n ys → u.ownBlock = Option.none ∨ u.ownBlock ≠ row := fun {e size n u ys} ho => by
    cases hu : u.ownBlock with
    | none => exact Or.inl rfl
    | some k => exact Or.inr (fun e2 => by have := (ho.lt k hu).1; have := hr k e2.symm; omega)
  exact ⟨h.row.kept hg (off h.row), fun x hx => (h.trees x hx).kept hg (off (h.trees x hx))⟩

theorem own_grown {w w' : World} {base e size n : Nat} {u : Value} {ys : List Value} {row : Option Nat} (h : w.ownsRow base e size u n ys) (hg : w.grownBy w' row) (hr : ∀ k, row = some k → k < base) : w'.ownsRow base e size u n ys := h.kept hg (by
  cases hu : u.ownBlock with
  | none => exact Or.inl rfl
  | some k => exact Or.inr (fun e2 => by have := (h.lt k hu).1; have := hr k e2.symm; omega))

/-- A function is put behind a row of them. -/
theorem push_fn (X : World) (base : Nat) (v : Value) (xs : List FV) (y : FV) (h : FnsOwn X base v xs) (hy : X.ownsRow base 91 4 (fvT y) y.1.2.2.length (nodesV y.1.2.2)) (hb : base ≤ X.heap.size) (hn : xs.length ≤ 1048576) :
    ∃ g' c' Y, (Builtin.append_ #[81, 81] 81 #[v, .slice (some ⟨X.heap.size, 0, none⟩) 1 1]).run Tryz.prog (X.alloc (.cells #[.string ⟨y.1.1.toArray⟩, .int .i64 y.1.2.1, fvT y] 86)) = .ok (.slice (some ⟨g', 0, none⟩) (xs.length + 1) c') Y ∧
      FnsOwn Y base (.slice (some ⟨g', 0, none⟩) (xs ++ [y]).length c') (xs ++ [y]) ∧ X.grownBy Y v.ownBlock := by
  obtain ⟨i0, hi, hz0, hz1, hz2⟩ := info_parts infoFunc
  have hX1 : Below X.heap.size X (X.alloc (.cells #[.string ⟨y.1.1.toArray⟩, .int .i64 y.1.2.1, fvT y] 86)) := (Below.refl _ _).alloc (Nat.le_refl _) _
  have h1 := h.below hX1
  have hy1 := own_below hy hX1
  obtain ⟨v', Y, hrun, hown, hg, _⟩ := run_append_src (P := Tryz.prog) (X.alloc (.cells #[.string ⟨y.1.1.toArray⟩, .int .i64 y.1.2.1, fvT y] 86)) base 81 81 86 i0 _ 3 48 Tryz.underlying81 hi hz0 hz1 hz2 rfl (by decide) _ _ _ h1.row _ 1 (fnsV [y]) (new_fn X y 1) (by unfold maxLen; omega) (by omega) (by simp; omega)
  obtain ⟨g', c', rfl⟩ := own_some hown (by omega)
  have e1 : (xs ++ [y]).length = xs.length + 1 := by simp
  have hown2 : Y.ownsRow base 86 3 (.slice (some ⟨g', 0, none⟩) (xs ++ [y]).length c') (xs ++ [y]).length (fnsV (xs ++ [y])) := by
    rw [e1, fnsV_append]; exact hown
  have htr : ∀ z ∈ xs ++ [y], Y.ownsRow base 91 4 (fvT z) z.1.2.2.length (nodesV z.1.2.2) := fun z hz => by
    rw [List.mem_append, List.mem_singleton] at hz
    rcases hz with hz | rfl
    · exact (h1.trees z hz).kept hg (own_types (h1.trees z hz) h1.row (by decide))
    · exact hy1.kept hg (own_types hy1 h1.row (by decide))
  exact ⟨g', c', Y, hrun, ⟨hown2, htr⟩, (World.grownBy_alloc X _ _).trans hg⟩

/-- What l7Draw holds: the package so far (at P), the answer's zero cells (at R), the calls that are known (vo). -/
structure DrSt (X w : World) (B : Nat) (a : Option Addr) (len cap : Nat) (R P : Nat) (nm : List UInt8) (vi : Value) (fa : Option Addr) (fc : Nat) (xs : List FV) (vo : Value) (ns : List Nd) : Prop where
  p : Box3 X P (.string ⟨nm.toArray⟩) vi (.slice fa xs.length fc)
  pf : ∀ j, X.frozen? ⟨P, j, none⟩ = false
  r : Box3 X R (.string ⟨#[]⟩) (.slice none 0 0) (.slice none 0 0)
  rf : ∀ j, X.frozen? ⟨R, j, none⟩ = false
  fo : FnsOwn X (P + 1) (.slice fa xs.length fc) xs
  ow : X.ownsRow (P + 1) 91 4 vo ns.length (nodesV ns)
  cur : Cur X B a len cap
  g : w.grownBy X (some B)
  br : B < R
  rp : R < P
  wr : w.heap.size = R
  ap : ∀ x ∈ xs, (fvT x).ownBlock = none ∨ (fvT x).ownBlock ≠ vo.ownBlock

section
variable {X Y w : World} {B : Nat} {a : Option Addr} {len cap R P : Nat} {nm : List UInt8} {vi : Value} {fa : Option Addr} {fc : Nat} {xs : List FV} {vo : Value} {ns : List Nd}

/-- The cursor went on, or something was made. -/
theorem DrSt.next (h : DrSt X w B a len cap R P nm vi fa fc xs vo ns) (hg : X.grownBy Y (some B)) (hc : Cur Y B a len cap) : DrSt Y w B a len cap R P nm vi fa fc xs vo ns :=
  have hp : some P ≠ some B := fun e => by injection e with e; have := h.br; have := h.rp; omega
  have hr : some R ≠ some B := fun e => by injection e with e; have := h.br; omega
  have hlt : ∀ k, some B = some k → k < P + 1 := fun k e => by injection e with e; have := h.br; have := h.rp; omega
  ⟨h.p.grown hg hp, fun j => (World.frozen?_of_block (a := ⟨P, j, none⟩) (hg.block P h.p.lt hp)).trans (h.pf j), h.r.grown hg hr, fun j => (World.frozen?_of_block (a := ⟨R, j, none⟩) (hg.block R h.r.lt hr)).trans (h.rf j),
   h.fo.grown hg hlt, own_grown h.ow hg hlt, hc, h.g.trans hg, h.br, h.rp, h.wr, h.ap⟩
theorem DrSt.made (h : DrSt X w B a len cap R P nm vi fa fc xs vo ns) (hg : X.grownBy Y none) : DrSt Y w B a len cap R P nm vi fa fc xs vo ns :=
  h.next ⟨hg.os, hg.tape, hg.output, hg.size, fun k hk _ => hg.block k hk (by simp)⟩ (h.cur.kept hg (by simp))
theorem DrSt.alloc (h : DrSt X w B a len cap R P nm vi fa fc xs vo ns) (o : Obj) : DrSt (X.alloc o) w B a len cap R P nm vi fa fc xs vo ns := h.made (World.grownBy_alloc X o none)
theorem DrSt.drew (h : DrSt X w B a len cap R P nm vi fa fc xs vo ns) : DrSt X.drew w B a len cap R P nm vi fa fc xs vo ns := h.made (grown_drew X none)
/-- A block of one's own, apart from all that, is written. -/
theorem DrSt.side (h : DrSt X w B a len cap R P nm vi fa fc xs vo ns) {k : Nat} (hg : X.grownBy Y (some k)) (hk : P < k) (hf : ∀ q, (Value.slice fa xs.length fc).ownBlock = some q → q ≠ k) (ht : ∀ x ∈ xs, ∀ q, (fvT x).ownBlock = some q → q ≠ k) (ho : ∀ q, vo.ownBlock = some q → q ≠ k) : DrSt Y w B a len cap R P nm vi fa fc xs vo ns := by
  have hB := h.br
  have hR := h.rp
  have hW := h.wr
  have hp : some P ≠ some k := fun e => by injection e with e; omega
  have hr : some R ≠ some k := fun e => by injection e with e; omega
  have off : ∀ {u : Value}, (∀ q, u.ownBlock = some q → q ≠ k) → u.ownBlock = none ∨ u.ownBlock ≠ some k := fun {u} hu => by
    cases hv : u.ownBlock with
    | none => exact Or.inl rfl
    | some q => exact Or.inr (fun e => by injection e with e; exact hu q hv e)
  refine ⟨h.p.grown hg hp, fun j => (World.frozen?_of_block (a := ⟨P, j, none⟩) (hg.block P h.p.lt hp)).trans (h.pf j), h.r.grown hg hr, fun j => (World.frozen?_of_block (a := ⟨R, j, none⟩) (hg.block R h.r.lt hr)).trans (h.rf j),
    h.fo.kept hg (off hf) (fun x hx => off (ht x hx)), h.ow.kept hg (off ho), h.cur.kept hg (fun q e => by injection e with e; omega), ?_, h.br, h.rp, h.wr, h.ap⟩
  exact ⟨hg.os.trans h.g.os, hg.tape.trans h.g.tape, hg.output.trans h.g.output, Nat.le_trans h.g.size hg.size, fun q hq hn => (hg.block q (Nat.lt_of_lt_of_le hq h.g.size) (fun e => by injection e with e; omega)).trans (h.g.block q hq hn)⟩
end

/-- A block of three cells that was just made, behind a draw. -/
theorem box_new {V : World} {a b c : Value} {t : TypeId} : Box3 (V.alloc (.cells #[a, b, c] t)) V.heap.size a b c ∧ ∀ j, (V.alloc (.cells #[a, b, c] t)).frozen? ⟨V.heap.size, j, none⟩ = false :=
  ⟨(Box3.new V a b c t).1, fun j => Go.Joins.unfrozen_of_block (heap_alloc_new V (.cells #[a, b, c] t)) j⟩
theorem box_on {V Y : World} {B k : Nat} {a b c : Value} (h : Box3 V k a b c ∧ ∀ j, V.frozen? ⟨k, j, none⟩ = false) (hg : V.grownBy Y (some B)) (hk : k ≠ B) : Box3 Y k a b c ∧ ∀ j, Y.frozen? ⟨k, j, none⟩ = false :=
  have hn : some k ≠ some B := fun e => by injection e with e; exact hk e
  ⟨h.1.grown hg hn, fun j => (World.frozen?_of_block (a := ⟨k, j, none⟩) (hg.block k h.1.lt hn)).trans (h.2 j)⟩
theorem box_up1 {V Y : World} {B : Nat} {a b c : Value} {t : TypeId} (hg : (V.alloc (.cells #[a, b, c] t)).drew.grownBy Y (some B)) (hB : B < V.heap.size) : Box3 Y V.heap.size a b c ∧ ∀ j, Y.frozen? ⟨V.heap.size, j, none⟩ = false :=
  box_on (V := (V.alloc (.cells #[a, b, c] t)).drew) ⟨box_new.1.drew, box_new.2⟩ hg (by omega)
theorem box_up2 {V Y : World} {B : Nat} {o : Obj} {a b c : Value} {t : TypeId} (hg : ((V.alloc o).alloc (.cells #[a, b, c] t)).drew.grownBy Y (some B)) (hB : B < V.heap.size) : Box3 Y (V.heap.size + 1) a b c ∧ ∀ j, Y.frozen? ⟨V.heap.size + 1, j, none⟩ = false := by
  have h := box_up1 (V := V.alloc o) hg (by simp; omega)
  rw [World.size_alloc] at h
  exact h
theorem box_up3 {V Y : World} {B : Nat} {o : Obj} {a b c : Value} {t : TypeId} (hg : ((V.alloc (.cells #[a, b, c] t)).alloc o).drew.grownBy Y (some B)) (hB : B < V.heap.size) : Box3 Y V.heap.size a b c ∧ ∀ j, Y.frozen? ⟨V.heap.size, j, none⟩ = false := by
  have hb : Below (V.alloc (.cells #[a, b, c] t)).heap.size (V.alloc (.cells #[a, b, c] t)) ((V.alloc (.cells #[a, b, c] t)).alloc o) := (Below.refl _ _).alloc (Nat.le_refl _) _
  have h := box_new (V := V) (a := a) (b := b) (c := c) (t := t)
  exact box_on (V := ((V.alloc (.cells #[a, b, c] t)).alloc o).drew) ⟨(h.1.below hb).drew, fun j => (hb.frozen (p := ⟨V.heap.size, j, none⟩) (by simp)).trans (h.2 j)⟩ hg (by omega)
/-- The three cells are written. -/
theorem box_set {V : World} {k : Nat} {a b c : Value} (a' b' c' : Value) (h : Box3 V k a b c ∧ ∀ j, V.frozen? ⟨k, j, none⟩ = false) :
    (Box3 (((V.setCell ⟨k, 0, none⟩ a').setCell ⟨k, 1, none⟩ b').setCell ⟨k, 2, none⟩ c') k a' b' c' ∧ ∀ j, (((V.setCell ⟨k, 0, none⟩ a').setCell ⟨k, 1, none⟩ b').setCell ⟨k, 2, none⟩ c').frozen? ⟨k, j, none⟩ = false) ∧ V.grownBy (((V.setCell ⟨k, 0, none⟩ a').setCell ⟨k, 1, none⟩ b').setCell ⟨k, 2, none⟩ c') (some k) := by
  obtain ⟨Y, hY, y0, y1, y2, hg⟩ := set3 a' b' c' h.1.c0 h.1.c1 h.1.c2
  rw [hY]
  refine ⟨⟨⟨y0, y1, y2⟩, fun j => ?_⟩, hg⟩
  rw [← hY]
  exact (World.frozen?_setCell ..).trans ((World.frozen?_setCell ..).trans ((World.frozen?_setCell ..).trans (h.2 j)))

theorem frozen_alw {w : World} {k j : Nat} (o : Obj) (hk : k < w.heap.size) (h : w.frozen? ⟨k, j, none⟩ = false) : (w.alloc o).frozen? ⟨k, j, none⟩ = false :=
  (World.frozen?_of_block (a := ⟨k, j, none⟩) (Below.heap_alloc w o k hk)).trans h

end Go.Proofs.YtogobeegibngiaaGreatDoor

/-! A package is drawn: what stands behind its sixth region, and a function and a call put behind their rows. -/
namespace Go.Proofs.YtogobeegibngiaaGreatDoor
open Go.RowKit

section
variable {V X Y w : World} {B : Nat} {a : Option Addr} {len cap R P : Nat} {nm : List UInt8} {vi : Value} {fa : Option Addr} {fc : Nat} {xs : List FV} {vo : Value} {ns : List Nd}

/-- The function's box at F: made behind V, the rows as they were. -/
def Dr12 (V w : World) (B : Nat) (a : Option Addr) (len cap R P : Nat) (nm : List UInt8) (vi : Value) (fa : Option Addr) (fc : Nat) (xs : List FV) (vo : Value) (ns : List Nd) (v : Value) (wx : World) : Prop :=
  ∃ (F : Nat) (y : Int) (fn : List UInt8), v = .pointer (some ⟨F, 0, none⟩) ∧ (0 ≤ y ∧ y ≤ 3) ∧ fn.length ≤ 9 ∧ V.heap.size ≤ F ∧ DrSt wx w B a len cap R P nm vi fa fc xs vo ns ∧ (Box3 wx F (.string ⟨fn.toArray⟩) (.int .i64 y) (.slice none 0 0) ∧ ∀ j, wx.frozen? ⟨F, j, none⟩ = false)

theorem dr_off (st : DrSt V w B a len cap R P nm vi fa fc xs vo ns) (h : DrSt X w B a len cap R P nm vi fa fc xs vo ns) {F : Nat} (hF : V.heap.size ≤ F) (hg : X.grownBy Y (some F)) : DrSt Y w B a len cap R P nm vi fa fc xs vo ns := by
  have hp := st.p.lt
  exact h.side hg (by omega) (fun q e => by have := (st.fo.row.lt q e).2; omega) (fun x hx q e => by have := ((st.fo.trees x hx).lt q e).2; omega) (fun q e => by have := (st.ow.lt q e).2; omega)

theorem dr_set (st : DrSt V w B a len cap R P nm vi fa fc xs vo ns) (h : DrSt X w B a len cap R P nm vi fa fc xs vo ns) {F : Nat} (hF : V.heap.size ≤ F) {z0 z1 z2 : Value} (hb : Box3 X F z0 z1 z2 ∧ ∀ j, X.frozen? ⟨F, j, none⟩ = false) (fn : List UInt8) (hfn : fn.length ≤ 9) {y : Int} (hy0 : 0 ≤ y) (hy1 : y ≤ 3) :
    Dr12 V w B a len cap R P nm vi fa fc xs vo ns (.pointer (some ⟨F, 0, none⟩)) (((X.setCell ⟨F, 0, none⟩ (.string ⟨fn.toArray⟩)).setCell ⟨F, 1, none⟩ (.int .i64 y)).setCell ⟨F, 2, none⟩ (.slice none 0 0)) := by
  obtain ⟨hb2, hg⟩ := box_set (.string ⟨fn.toArray⟩) (.int .i64 y) (.slice none 0 0) hb
  exact ⟨F, y, fn, rfl, ⟨hy0, hy1⟩, hfn, hF, dr_off st h hF hg, hb2⟩

theorem dr_new (h : DrSt X w B a len cap R P nm vi fa fc xs vo ns) (hF : V.heap.size ≤ X.heap.size) (fn : List UInt8) (hfn : fn.length ≤ 9) {y : Int} (hy0 : 0 ≤ y) (hy1 : y ≤ 3) :
    Dr12 V w B a len cap R P nm vi fa fc xs vo ns (.pointer (some ⟨X.heap.size, 0, none⟩)) (X.alloc (.cells #[.string ⟨fn.toArray⟩, .int .i64 y, .slice none 0 0] 86)) :=
  ⟨X.heap.size, y, fn, rfl, ⟨hy0, hy1⟩, hfn, hF, h.alloc _, box_new⟩
theorem dr_new2 (h : DrSt X w B a len cap R P nm vi fa fc xs vo ns) (hF : V.heap.size ≤ X.heap.size) (fn : List UInt8) (hfn : fn.length ≤ 9) {y : Int} (hy0 : 0 ≤ y) (hy1 : y ≤ 3) (o : Obj) :
    Dr12 V w B a len cap R P nm vi fa fc xs vo ns (.pointer (some ⟨X.heap.size + 1, 0, none⟩)) ((X.alloc o).alloc (.cells #[.string ⟨fn.toArray⟩, .int .i64 y, .slice none 0 0] 86)) := by
  have h2 := dr_new (V := V) (h.alloc o) (by rw [World.size_alloc]; omega) fn hfn hy0 hy1
  rw [World.size_alloc] at h2
  exact h2
theorem box_alw {F : Nat} {z0 z1 z2 : Value} (o : Obj) (hb : Box3 X F z0 z1 z2 ∧ ∀ j, X.frozen? ⟨F, j, none⟩ = false) : Box3 (X.alloc o) F z0 z1 z2 ∧ ∀ j, (X.alloc o).frozen? ⟨F, j, none⟩ = false :=
  ⟨hb.1.below ((Below.refl _ _).alloc (Nat.le_refl _) o), fun j => frozen_alw o hb.1.lt (hb.2 j)⟩
theorem dr_new3 (h : DrSt X w B a len cap R P nm vi fa fc xs vo ns) (hF : V.heap.size ≤ X.heap.size) (fn : List UInt8) (hfn : fn.length ≤ 9) {y : Int} (hy0 : 0 ≤ y) (hy1 : y ≤ 3) (o : Obj) :
    Dr12 V w B a len cap R P nm vi fa fc xs vo ns (.pointer (some ⟨X.heap.size, 0, none⟩)) ((X.alloc (.cells #[.string ⟨fn.toArray⟩, .int .i64 y, .slice none 0 0] 86)).alloc o) :=
  ⟨X.heap.size, y, fn, rfl, ⟨hy0, hy1⟩, hfn, hF, (h.alloc _).alloc o, box_alw o box_new⟩
theorem dr_set1 (st : DrSt V w B a len cap R P nm vi fa fc xs vo ns) (h : DrSt X w B a len cap R P nm vi fa fc xs vo ns) {F : Nat} (hF : V.heap.size ≤ F) {z0 z1 z2 : Value} (hb : Box3 X F z0 z1 z2 ∧ ∀ j, X.frozen? ⟨F, j, none⟩ = false) (fn : List UInt8) (hfn : fn.length ≤ 9) {y : Int} (hy0 : 0 ≤ y) (hy1 : y ≤ 3) (o : Obj) :
    Dr12 V w B a len cap R P nm vi fa fc xs vo ns (.pointer (some ⟨F, 0, none⟩)) ((((X.alloc o).setCell ⟨F, 0, none⟩ (.string ⟨fn.toArray⟩)).setCell ⟨F, 1, none⟩ (.int .i64 y)).setCell ⟨F, 2, none⟩ (.slice none 0 0)) :=
  dr_set st (h.alloc o) hF (box_alw o hb) fn hfn hy0 hy1

theorem sz0 {row : Option Nat} (h : V.drew.grownBy Y row) : V.heap.size ≤ Y.heap.size := h.size
theorem sz1 {row : Option Nat} {o : Obj} (h : (V.alloc o).drew.grownBy Y row) : V.heap.size ≤ Y.heap.size := by
  have h1 : (V.alloc o).heap.size ≤ Y.heap.size := h.size
  rw [World.size_alloc] at h1; omega
theorem sz2 {row : Option Nat} {o o' : Obj} (h : ((V.alloc o).alloc o').drew.grownBy Y row) : V.heap.size ≤ Y.heap.size := by
  have h1 : ((V.alloc o).alloc o').heap.size ≤ Y.heap.size := h.size
  rw [World.size_alloc, World.size_alloc] at h1; omega
end

end Go.Proofs.YtogobeegibngiaaGreatDoor
