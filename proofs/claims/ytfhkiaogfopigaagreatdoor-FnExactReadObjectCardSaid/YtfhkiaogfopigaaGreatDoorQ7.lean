/-
  Parts of one proof, one behind the other: RtU, RtO, NodeIn, InsX, InsY.
-/
import Derived.Test.YtfhkiaogfopigaaGreatDoorQ6
import Derived.Test.YtfhkiaogfopigaaGreatDoorQ1
import Derived.Test.YtfhkiaogfopigaaGreatDoorQ4
import Derived.Test.YtfhkiaogfopigaaGreatDoorRows
import Derived.WalkKit
import Derived.ProofKit
import Derived.OpenShut
import Derived.ShutString
import Derived.ChangeOld
import Derived.Below
import Derived.Lib.SmallJoins
import Derived.Deep.SlicePairs

/-! What the writing of several blocks leaves; rows that lie apart; blocks of three cells. -/
namespace Go.Proofs.YtfhkiaogfopigaaGreatDoor
open Go.RowKit

/-- Of what was there nothing but the blocks of S was written. -/
structure WroteR (w w' : World) (S : Nat → Prop) : Prop where
  os : w'.os = w.os
  tape : w'.tape = w.tape
  output : w'.output = w.output
  size : w.heap.size ≤ w'.heap.size
  block : ∀ k, k < w.heap.size → ¬ S k → w'.heap[k]? = w.heap[k]?

theorem WroteR.refl (w : World) (S : Nat → Prop) : WroteR w w S := ⟨rfl, rfl, rfl, Nat.le_refl _, fun _ _ _ => rfl⟩
theorem WroteR.trans {a b c : World} {S : Nat → Prop} (h : WroteR a b S) (k : WroteR b c S) : WroteR a c S :=
  ⟨k.os.trans h.os, k.tape.trans h.tape, k.output.trans h.output, Nat.le_trans h.size k.size, fun i hi hs => (k.block i (Nat.lt_of_lt_of_le hi h.size) hs).trans (h.block i hi hs)⟩
theorem WroteR.mono {w w' : World} {S T : Nat → Prop} (h : WroteR w w' S) (hs : ∀ k, S k → T k) : WroteR w w' T := ⟨h.os, h.tape, h.output, h.size, fun k hk hn => h.block k hk (fun e => hn (hs k e))⟩
theorem WroteR.of_grown {w w' : World} {row : Option Nat} {S : Nat → Prop} (h : w.grownBy w' row) (hs : ∀ k, row = some k → S k) : WroteR w w' S :=
  ⟨h.os, h.tape, h.output, h.size, fun k hk hn => h.block k hk (fun e => hn (hs k e.symm))⟩
theorem WroteR.of_below {w w' : World} {S : Nat → Prop} (h : Below w.heap.size w w') : WroteR w w' S := ⟨h.os, h.tape, h.output, h.size, fun k hk _ => h.block k hk⟩
theorem WroteR.below {w w' : World} {S : Nat → Prop} {B : Nat} (h : WroteR w w' S) (hB : B ≤ w.heap.size) (hs : ∀ k, S k → B ≤ k) : Below B w w' :=
  ⟨h.os, h.tape, h.output, h.size, fun k hk => h.block k (Nat.lt_of_lt_of_le hk hB) (fun e => by have := hs k e; omega)⟩
theorem own_wroteR {w w' : World} {base e size n : Nat} {v : Value} {xs : List Value} {S : Nat → Prop} (h : w.ownsRow base e size v n xs) (hw : WroteR w w' S) (hv : ∀ k, v.ownBlock = some k → ¬ S k) : w'.ownsRow base e size v n xs := by
  refine ⟨h.1, ?_⟩
  rcases h.2 with hn | ⟨g, cap, cur, rfl, hb, hgg, rest⟩
  · exact .inl hn
  · refine .inr ⟨g, cap, cur, rfl, hb, ?_, rest⟩
    rw [hw.block g (Array.getElem?_eq_some_iff.1 hgg).1 (hv g rfl)]
    exact hgg

/-- The trees lie apart, one by one. -/
def ApartR (vs : List Value) : Prop := vs.Pairwise (fun a b => a.ownBlock = none ∨ a.ownBlock ≠ b.ownBlock)
theorem ApartR.ne {vs : List Value} (h : ApartR vs) {i j : Nat} (hi : i < vs.length) (hj : j < vs.length) (hij : i ≠ j) : vs[i].ownBlock = none ∨ vs[i].ownBlock ≠ vs[j].ownBlock := by
  rcases Nat.lt_or_gt_of_ne hij with hl | hl
  · exact List.pairwise_iff_getElem.1 h i j hi hj hl
  · rcases List.pairwise_iff_getElem.1 h j i hj hi hl with e | e
    · rw [e]; cases vs[i].ownBlock <;> simp
    · exact Or.inr (fun e2 => e e2.symm)

theorem ApartR.nil : ApartR [] := List.Pairwise.nil
theorem ApartR.snoc {vs : List Value} {u : Value} (h : ApartR vs) (hu : ∀ v ∈ vs, v.ownBlock = none ∨ v.ownBlock ≠ u.ownBlock) : ApartR (vs ++ [u]) :=
  List.pairwise_append.2 ⟨h, List.pairwise_singleton _ _, fun a ha b hb => by rw [List.mem_singleton] at hb; subst hb; exact hu a ha⟩
/-- A row that lies ahead of a place, and one that lies behind it. -/
theorem own_aheadR {w w' : World} {b1 b2 e1 e2 s1 s2 n1 n2 : Nat} {v1 v2 : Value} {xs ys : List Value} (h1 : w.ownsRow b1 e1 s1 v1 n1 xs) (h2 : w'.ownsRow b2 e2 s2 v2 n2 ys) (hb : w.heap.size ≤ b2) : v1.ownBlock = none ∨ v1.ownBlock ≠ v2.ownBlock := by
  cases hv : v1.ownBlock with
  | none => exact Or.inl rfl
  | some k =>
    refine Or.inr (fun e => ?_)
    have l1 := (h1.lt k hv).2
    have l2 := (h2.lt k e.symm).1
    omega

theorem cell_alwR {w : World} {a : Addr} {v : Value} (o : Obj) (h : w.cell? a = some v) : (w.alloc o).cell? a = some v :=
  (World.cell?_of_block (Below.heap_alloc _ _ _ (World.block_lt_of_cell? w a h))).trans h

/-- Three cells of a block are written. -/
theorem set3R {X : World} {R : Nat} {a0 a1 a2 : Value} (u0 u1 u2 : Value) (r0 : X.cell? ⟨R, 0, none⟩ = some a0) (r1 : X.cell? ⟨R, 1, none⟩ = some a1) (r2 : X.cell? ⟨R, 2, none⟩ = some a2) :
    ∃ Y, ((X.setCell ⟨R, 0, none⟩ u0).setCell ⟨R, 1, none⟩ u1).setCell ⟨R, 2, none⟩ u2 = Y ∧ Y.cell? ⟨R, 0, none⟩ = some u0 ∧ Y.cell? ⟨R, 1, none⟩ = some u1 ∧ Y.cell? ⟨R, 2, none⟩ = some u2 ∧ X.grownBy Y (some R) := by
  refine ⟨_, rfl, ?_, ?_, ?_, ?_⟩
  · exact (World.cell?_setCell_other _ _ _ _ (by simp)).trans ((World.cell?_setCell_other _ _ _ _ (by simp)).trans (World.cell?_setCell_same _ _ _ r0))
  · exact (World.cell?_setCell_other _ _ _ _ (by simp)).trans (World.cell?_setCell_same _ _ _ ((World.cell?_setCell_other _ _ _ _ (by simp)).trans r1))
  · exact World.cell?_setCell_same _ _ _ ((World.cell?_setCell_other _ _ _ _ (by simp)).trans ((World.cell?_setCell_other _ _ _ _ (by simp)).trans r2))
  · exact ((grown_set _ _ _ _).trans (grown_set _ _ _ _)).trans (grown_set _ _ _ _)

/-- The cells of a block of threeR that lies as it was made. -/
theorem threeR {X W : World} {R : Nat} {u0 u1 u2 : Value} {T : TypeId} (hX : Below W.heap.size W X) (hlt : R < W.heap.size) (hR : W.heap[R]? = some (.cells #[u0, u1, u2] T)) :
    X.cell? ⟨R, 0, none⟩ = some u0 ∧ X.cell? ⟨R, 1, none⟩ = some u1 ∧ X.cell? ⟨R, 2, none⟩ = some u2 ∧ ∀ j, X.frozen? ⟨R, j, none⟩ = false := by
  have e := (hX.block R hlt).trans hR
  clear hX hR
  exact ⟨by simp [World.cell?, e], by simp [World.cell?, e], by simp [World.cell?, e], fun j => by simp [World.frozen?, e]⟩

/-- A row that is owned above a block does not lie in it. -/
theorem own_offR {w : World} {base e size n R : Nat} {v : Value} {xs : List Value} (h : w.ownsRow base e size v n xs) (hR : R < base) : v.ownBlock = none ∨ v.ownBlock ≠ some R := by
  rcases hv : v.ownBlock with _ | k
  · exact Or.inl rfl
  · refine Or.inr (fun e => ?_)
    have := (h.lt k hv).1
    injection e with e
    omega

/-- Rows of elements of two types lie in two blocks. -/
theorem own_typesR {w : World} {b1 b2 e1 e2 s1 s2 n1 n2 : Nat} {v1 v2 : Value} {xs ys : List Value} (h1 : w.ownsRow b1 e1 s1 v1 n1 xs) (h2 : w.ownsRow b2 e2 s2 v2 n2 ys) (he : e1 ≠ e2) : v1.ownBlock = none ∨ v1.ownBlock ≠ v2.ownBlock := by
  rcases h1.2 with ⟨rfl, _⟩ | ⟨g, c, cur, rfl, _, hg, _⟩
  · exact Or.inl rfl
  · rcases h2.2 with ⟨rfl, _⟩ | ⟨g2, c2, cur2, rfl, _, hg2, _⟩
    · exact Or.inr (by simp [Value.ownBlock])
    · refine Or.inr (fun e => ?_)
      simp only [Value.ownBlock, Option.some.injEq] at e
      subst e
      rw [hg] at hg2
      simp only [Option.some.injEq, Obj.cells.injEq] at hg2
      exact he hg2.2.1

theorem add_plainR (b off i : Nat) : (⟨b, off, none⟩ : Addr).add i = ⟨b, off + i, none⟩ := by unfold Addr.add; split <;> simp_all

end Go.Proofs.YtfhkiaogfopigaaGreatDoor

/-! Routines that a call has made: each with its code in a row of its own. -/
namespace Go.Proofs.YtfhkiaogfopigaaGreatDoor
open Go.RowKit

/-- A function, and where its tree lies. -/
abbrev RV := Rt × Option Addr × Nat
def rvT (x : RV) : Value := .slice x.2.1 x.1.2.2.length x.2.2
def rtsV : List RV → List Value
  | [] => []
  | x :: r => .string ⟨x.1.1.toArray⟩ :: .int .i64 x.1.2.1 :: rvT x :: rtsV r

def rv0 : RV := (rt0, none, 0)

theorem rtsV_len (xs : List RV) : (rtsV xs).length = xs.length * 3 := by
  induction xs with
  | nil => rfl
  | cons n r ih => simp only [rtsV, List.length_cons, ih]; omega

theorem rtsV_append (x y : List RV) : rtsV (x ++ y) = rtsV x ++ rtsV y := by
  induction x with
  | nil => rfl
  | cons n r ih => simp [rtsV, ih]

theorem rtsV_one (xs : List RV) : ∀ u ∈ rtsV xs, u.oneCell' = true := by
  induction xs with
  | nil => intro u hu; cases hu
  | cons n r ih =>
    intro u hu
    simp only [rtsV, List.mem_cons] at hu
    rcases hu with rfl | rfl | rfl | h
    · rfl
    · rfl
    · rfl
    · exact ih u h

theorem rtsV_at (xs : List RV) (j : Nat) (hj : j < xs.length) : (rtsV xs)[j * 3]? = some (.string ⟨(xs.getD j rv0).1.1.toArray⟩) ∧ (rtsV xs)[j * 3 + 1]? = some (.int .i64 (xs.getD j rv0).1.2.1) ∧ (rtsV xs)[j * 3 + 2]? = some (rvT (xs.getD j rv0)) := by
  induction xs generalizing j with
  | nil => simp at hj
  | cons n r ih =>
    cases j with
    | zero => simp [rtsV]
    | succ j =>
      obtain ⟨h0, h1, h2⟩ := ih j (by simpa using hj)
      refine ⟨?_, ?_, ?_⟩
      · rw [show (j + 1) * 3 = j * 3 + 1 + 1 + 1 by omega]; simpa [rtsV] using h0
      · rw [show (j + 1) * 3 + 1 = j * 3 + 1 + 1 + 1 + 1 by omega]; simpa [rtsV] using h1
      · rw [show (j + 1) * 3 + 2 = j * 3 + 2 + 1 + 1 + 1 by omega]; simpa [rtsV] using h2

structure RtsOwn (w : World) (base : Nat) (v : Value) (xs : List RV) : Prop where
  row : w.ownsRow base 78 3 v xs.length (rtsV xs)
  trees : ∀ x ∈ xs, w.ownsRow base 81 5 (rvT x) x.1.2.2.length (insV x.1.2.2)

theorem RtsOwn.below {w w' : World} {base : Nat} {v : Value} {xs : List RV} (h : RtsOwn w base v xs) (hb : Below w.heap.size w w') : RtsOwn w' base v xs := ⟨own_below h.row hb, fun x hx => own_below (h.trees x hx) hb⟩

theorem RtsOwn.kept {w w' : World} {base : Nat} {v : Value} {xs : List RV} {row : Option Nat} (h : RtsOwn w base v xs) (hg : w.grownBy w' row) (h1 : v.ownBlock = none ∨ v.ownBlock ≠ row) (h2 : ∀ x ∈ xs, (rvT x).ownBlock = none ∨ (rvT x).ownBlock ≠ row) : RtsOwn w' base v xs :=
  ⟨h.row.kept hg h1, fun x hx => (h.trees x hx).kept hg (h2 x hx)⟩

theorem RtsOwn.base {w : World} {base b2 : Nat} {v : Value} {xs : List RV} (h : RtsOwn w base v xs) (hb : b2 ≤ base) : RtsOwn w b2 v xs := ⟨own_base h.row hb, fun x hx => own_base (h.trees x hx) hb⟩

theorem RtsOwn.nil (w : World) (base : Nat) : RtsOwn w base (.slice none 0 0) [] := ⟨World.ownsRow_nil w _ _ _, fun x hx => by cases hx⟩

theorem getD_map_rt (xs : List RV) (j : Nat) : (xs.map (·.1)).getD j rt0 = (xs.getD j rv0).1 := by
  rw [List.getD_eq_getElem?_getD, List.getD_eq_getElem?_getD, List.getElem?_map]
  cases xs[j]? <;> rfl

/-- What is owned can be read. -/
theorem RtsOwn.in {w : World} {base : Nat} {v : Value} {xs : List RV} (h : RtsOwn w base v xs) : ∃ a cap, v = .slice a xs.length cap ∧ (a = none → cap = 0) ∧ RtsIn w a xs.length (xs.map (·.1)) := by
  rcases own_forms h.row with ⟨rfl, h0, _⟩ | ⟨g, cp, rfl⟩
  · exact ⟨none, 0, by rw [h0], fun _ => rfl, by simp, fun j hj => by omega⟩
  · refine ⟨some ⟨g, 0, none⟩, cp, rfl, fun e => (by cases e), by simp, fun j hj => ?_⟩
    obtain ⟨v0, v1, v2⟩ := rtsV_at xs j hj
    have hc := fun k (hk : k < xs.length * 3) => World.ownsRow.cellAt h.row k hk
    have hmem : xs.getD j rv0 ∈ xs := by rw [List.getD_eq_getElem?_getD, List.getElem?_eq_getElem hj]; exact List.getElem_mem hj
    obtain ⟨hl, a, cap, e, hn⟩ := own_ins (h.trees _ hmem)
    refine ⟨g, 0, rfl, (h.row.lt g rfl).2, ?_, ?_, (xs.getD j rv0).2.1, (xs.getD j rv0).1.2.2.length, (xs.getD j rv0).2.2, ?_, ?_⟩
    · rw [Nat.zero_add, hc _ (by omega), v0, getD_map_rt]
    · rw [Nat.zero_add, hc _ (by omega), v1, getD_map_rt]
    · rw [Nat.zero_add, hc _ (by omega), v2]; rfl
    · rw [getD_map_rt]
      unfold rvT at e
      injection e with e1 e2 e3
      rw [e1]; exact hn

theorem infoRt : (Tryz.prog.info? 78).map (fun i => (i.zero, i.size, i.bytes)) = some (some (.agg #[.string ⟨#[]⟩, .int .i64 0, .slice none 0 0]), 3, 48) := by kernel_rfl

/-- A new block of one function, as 'append' reads it. -/
theorem new_rt (w : World) (x : RV) (c : Nat) : Src (w.alloc (.cells #[.string ⟨x.1.1.toArray⟩, .int .i64 x.1.2.1, rvT x] 78)) (.slice (some ⟨w.heap.size, 0, none⟩) 1 c) 1 3 (rtsV [x]) := by
  refine ⟨rfl, rtsV_one _, Or.inr ⟨_, c, rfl, fun j u hu => ?_⟩⟩
  rw [add_plainR, Nat.zero_add]
  match j, hu with
  | 0, hu => simp [rtsV] at hu; subst hu; simp
  | 1, hu => simp [rtsV] at hu; subst hu; simp
  | 2, hu => simp [rtsV] at hu; subst hu; simp
  | j + 3, hu => simp [rtsV] at hu

end Go.Proofs.YtfhkiaogfopigaaGreatDoor

/-! A node, and a row of nodes, that came in, as the walks take them. -/
namespace Go.Proofs.YtfhkiaogfopigaaGreatDoor
open Go.ChangeShapes Go.WideShapes Go.ChangeAt Go.RowKit Go.Joins Go.Deep


end Go.Proofs.YtfhkiaogfopigaaGreatDoor

/-! An instruction that came in, as the walks take it; szIns, toIns. -/
namespace Go.Proofs.YtfhkiaogfopigaaGreatDoor
open Go.ChangeShapes Go.WideShapes Go.ChangeAt Go.RowKit Go.Joins Go.Deep

/-- An instruction's numbers are numbers of 64 bits. -/
def IntI (i : In13) : Prop := (-9223372036854775808 ≤ i.1 ∧ i.1 ≤ 9223372036854775807) ∧ (-9223372036854775808 ≤ i.2.1 ∧ i.2.1 ≤ 9223372036854775807) ∧ (-9223372036854775808 ≤ i.2.2.1 ∧ i.2.2.1 ≤ 9223372036854775807) ∧ (-9223372036854775808 ≤ i.2.2.2.1 ∧ i.2.2.2.1 ≤ 9223372036854775807)

theorem cellsIns : Tryz.prog.cellsOf 115 = 5 := by kernel_rfl
theorem cells2 : Tryz.prog.cellsOf 2 = 1 := by kernel_rfl
theorem cells9 : Tryz.prog.cellsOf 9 = 1 := by kernel_rfl

def szI (m : Nat) (left : Int) : Int := if (m : Int) ≤ left then left - (m : Int) else -1

set_option maxHeartbeats 400000 in
set_option maxRecDepth 100000 in
theorem szInsC (k r a b left : Int) (s : List UInt8) (w : World) (h0 : 0 ≤ left) (h1 : left ≤ 1048576) (hs : s.length ≤ maxLen) :
    Calls Tryz.prog 95 #[.agg #[.int .i64 k, .int .i64 r, .int .i64 a, .int .i64 b, .string ⟨s.toArray⟩], .int .i64 left] w fun e w' => e = .returned (.int .i64 (szI s.length left)) ∧ Below w.heap.size w w' := by
  unfold maxLen at hs
  have hs2 : (s.length : Int) ≤ 9223372036854775807 := by omega
  by_cases hA : (s.length : Int) ≤ left
  · have HS : Hid (szI s.length left = left - (s.length : Int)) := by exact (by unfold szI; rw [if_pos hA] : szI s.length left = left - (s.length : Int))
    go_enter Tryz.func95, Tryz.ntmps95
    go_wp2
    go_ret
    exact ⟨by rw [HS.out]; rfl, (Below.refl _ w).alloc (Nat.le_refl _) _⟩
  · have HS : Hid (szI s.length left = -1) := by exact (by unfold szI; rw [if_neg hA] : szI s.length left = -1)
    go_enter Tryz.func95, Tryz.ntmps95
    go_wp2
    go_ret
    exact ⟨by rw [HS.out]; rfl, (Below.refl _ w).alloc (Nat.le_refl _) _⟩

set_option maxHeartbeats 400000 in
set_option maxRecDepth 100000 in
theorem toInsC (k r a b : Int) (s : List UInt8) (w : World) :
    Calls Tryz.prog 97 #[.agg #[.int .i64 k, .int .i64 r, .int .i64 a, .int .i64 b, .string ⟨s.toArray⟩]] w fun e w' => e = .returned (.agg #[.int .i64 k, .int .i64 r, .int .i64 a, .int .i64 b, .string ⟨s.toArray⟩]) ∧ Below w.heap.size w w' := by
  go_enter Tryz.func97, Tryz.ntmps97
  go_wp2
  refine bodyPost_ret (v := .agg #[.int .i64 k, .int .i64 r, .int .i64 a, .int .i64 b, .string ⟨s.toArray⟩]) (by simp [results, Tryz.results97, go_sem]) rfl ?_
  exact ⟨rfl, (((Below.refl _ w).alloc (Nat.le_refl _) _).alloc (by simp) _).alloc (by simp; omega) _⟩

end Go.Proofs.YtfhkiaogfopigaaGreatDoor

/-! The laws' own helpers over rows of instructions: szInsS, toInsS, eqIns, eqInsS; a row that came in. -/
namespace Go.Proofs.YtfhkiaogfopigaaGreatDoor
open Go.ChangeShapes Go.WideShapes Go.ChangeAt Go.RowKit Go.Joins Go.Deep

def textsI : List In13 → Nat
  | [] => 0
  | n :: r => n.2.2.2.2.length + textsI r
theorem textsI_append (x y : List In13) : textsI (x ++ y) = textsI x + textsI y := by
  induction x with
  | nil => simp [textsI]
  | cons n r ih => simp only [List.cons_append, textsI, ih]; omega
theorem textsI_snoc (ns : List In13) (k : Nat) (hk : k < ns.length) : textsI (ns.take (k + 1)) = textsI (ns.take k) + (ns.getD k in0).2.2.2.2.length := by
  have hg : ns.getD k in0 = ns[k] := by simp [List.getD, hk]
  rw [hg, List.take_succ_eq_append_getElem hk, textsI_append]
  simp [textsI]
theorem textsI_take (ns : List In13) (k : Nat) : textsI (ns.take k) ≤ textsI ns := by
  have := textsI_append (ns.take k) (ns.drop k)
  rw [List.take_append_drop] at this
  omega
theorem textsI_at (ns : List In13) (j : Nat) : (ns.getD j in0).2.2.2.2.length ≤ textsI ns := by
  by_cases hj : j < ns.length
  · have h1 := textsI_snoc ns j hj
    have h2 := textsI_take ns (j + 1)
    omega
  · have : ns.getD j in0 = in0 := by rw [List.getD, List.getElem?_eq_none (by omega)]; rfl
    rw [this]; simp [in0]
theorem shortI_of {ns : List In13} (h : textsI ns ≤ 1048576) : ShortI ns := fun j => by have := textsI_at ns j; omega
theorem szI_yes {m : Nat} {left : Int} (h : (m : Int) ≤ left) : szI m left = left - (m : Int) := by unfold szI; rw [if_pos h]
theorem szI_no {m : Nat} {left : Int} (h : ¬ (m : Int) ≤ left) : szI m left = -1 := by unfold szI; rw [if_neg h]
def LongI (is : List In13) : Prop := ∀ j, (is.getD j in0).2.2.2.2.length ≤ maxLen
def IntIs (is : List In13) : Prop := ∀ j, IntI (is.getD j in0)
theorem intI_in0 : IntI in0 := by unfold IntI in0; decide

theorem InsIn.at {w : World} {a : Option Addr} {len : Nat} {is : List In13} (h : InsIn w a len is) (hz : 0 < len) : ∃ b off, a = some ⟨b, off, none⟩ ∧ b < w.heap.size ∧
    ∀ j, j < len → w.cell? ⟨b, off + j * 5, none⟩ = some (.int .i64 (is.getD j in0).1) ∧ w.cell? ⟨b, off + j * 5 + 1, none⟩ = some (.int .i64 (is.getD j in0).2.1) ∧ w.cell? ⟨b, off + j * 5 + 2, none⟩ = some (.int .i64 (is.getD j in0).2.2.1) ∧ w.cell? ⟨b, off + j * 5 + 3, none⟩ = some (.int .i64 (is.getD j in0).2.2.2.1) ∧ w.cell? ⟨b, off + j * 5 + 4, none⟩ = some (.string ⟨(is.getD j in0).2.2.2.2.toArray⟩) := by
  obtain ⟨b, off, rfl, hb, _⟩ := h.2 0 hz
  refine ⟨b, off, rfl, hb, fun j hj => ?_⟩
  obtain ⟨b', off', e, _, c⟩ := h.2 j hj
  simp only [Option.some.injEq, Addr.mk.injEq, and_true] at e
  obtain ⟨rfl, rfl⟩ := e
  exact c

set_option maxHeartbeats 2000000 in
set_option maxRecDepth 100000 in
theorem szInsSC (a : Option Addr) (len cap : Nat) (ns : List In13) (left : Int) (w : World) (hin : InsIn w a len ns) (h0 : 0 ≤ left) (h1 : left ≤ 1048576) (hlm : len ≤ maxLen) (hm : LongI ns) :
    Calls Tryz.prog 76 #[.slice a len cap, .int .i64 left] w fun e w' => e = .returned (.int .i64 (szN len (textsI ns) left)) ∧ Below w.heap.size w w' := by
  have hlb := hin.1
  unfold maxLen at hlm
  have hl2 : (len : Int) ≤ 9223372036854775807 := by omega
  by_cases hA : (len : Int) ≤ left
  · have HI : Hid (InsIn w a len ns) := hin
    have HM : Hid (LongI ns) := hm
    clear hin hm
    go_enter Tryz.func76, Tryz.ntmps76
    go_wp2
    go_loopw [1, 5] (fun l i wr => ∃ k : Nat, k ≤ len ∧ i = .int .i64 k ∧ l = .int .i64 (left - (len : Int) - (textsI (ns.take k) : Int)) ∧ (textsI (ns.take k) : Int) ≤ left - (len : Int) ∧ Below w.heap.size w wr) (fun _ i _ => len - (intOf i).toNat)
    case atStart => exact ⟨0, Nat.zero_le _, rfl, by simp [textsI], by simp [textsI]; omega, Below.refl _ _⟩
    case round =>
      obtain ⟨k, hk, rfl, rfl, hle, hB⟩ := hrel
      by_cases hkl : (k : Int) < (len : Int)
      · obtain ⟨b, off, rfl, hbl, hcells⟩ := (HI.out.below hB).at (by omega)
        obtain ⟨c0, c1, c2, c3, c4⟩ := hcells k (by omega)
        have hmk := HM.out k
        have hst := textsI_snoc ns k (by omega)
        have htt := textsI_take ns (k + 1)
        obtain ⟨n, hn⟩ : ∃ n, ns.getD k in0 = n := ⟨_, rfl⟩
        rw [hn] at c0 c1 c2 c3 c4 hmk hst
        obtain ⟨kd, r, aa, bb, s⟩ := n
        simp only at c0 c1 c2 c3 c4 hmk hst
        obtain ⟨m, hmm⟩ : ∃ m, textsI (ns.take k) = m := ⟨_, rfl⟩
        rw [hmm] at hle hst ⊢
        have HS : Hid (textsI (ns.take (k + 1)) = m + s.length) := hst
        clear hst hn hcells hmm
        by_cases hfit : (s.length : Int) ≤ left - (len : Int) - (m : Int)
        · have HZ : Hid (szI s.length (left - (len : Int) - (m : Int)) = left - (len : Int) - (textsI (ns.take (k + 1)) : Int)) := by
            exact (by rw [HS.out, szI_yes (by omega)]; omega : szI s.length (left - (len : Int) - (m : Int)) = left - (len : Int) - (textsI (ns.take (k + 1)) : Int))
          go_wp2_with fail
          refine (szInsC kd r aa bb _ s _ (by omega) (by omega) hmk).mono ?_
          rintro e w1 ⟨rfl, hb1⟩
          rw [HZ.out]
          have hle2 : (textsI (ns.take (k + 1)) : Int) ≤ left - (len : Int) := by rw [HS.out]; omega
          have hge : (0 : Int) ≤ left - (len : Int) - (textsI (ns.take (k + 1)) : Int) := by omega
          go_wp2
          go_roundw
          case rel => exact ⟨k + 1, by omega, by go_num, rfl, hle2, hB.trans (hb1.mono hB.size)⟩
          case measure => simp [intOf]; omega
        · have HZ : Hid (szI s.length (left - (len : Int) - (m : Int)) = -1) := szI_no (by omega)
          have HR : Hid (szN len (textsI ns) left = -1) := szN_no (by have := HS.out; omega)
          go_wp2_with fail
          refine (szInsC kd r aa bb _ s _ (by omega) (by omega) hmk).mono ?_
          rintro e w1 ⟨rfl, hb1⟩
          rw [HZ.out]
          go_wp2
          go_ret
          exact ⟨by rw [HR.out]; rfl, hB.trans (hb1.mono hB.size)⟩
      · have HT : Hid (ns.take k = ns) := List.take_of_length_le (by omega)
        have HR : Hid (szN len (textsI ns) left = left - (len : Int) - (textsI (ns.take k) : Int)) := by exact (by rw [HT.out] at hle ⊢; exact szN_yes (by omega) : szN len (textsI ns) left = left - (len : Int) - (textsI (ns.take k) : Int))
        go_wp2
        go_ret
        exact ⟨by rw [HR.out]; rfl, hB⟩
  · have HR : Hid (szN len (textsI ns) left = -1) := szN_no (by omega)
    clear hin hm
    go_enter Tryz.func76, Tryz.ntmps76
    go_wp2
    go_ret
    exact ⟨by rw [HR.out]; rfl, Below.refl _ _⟩

theorem insV_set (ns : List In13) (j : Nat) (k r a b : Int) (s : List UInt8) : (((((insV ns).set (j * 5) (.int .i64 k)).set (j * 5 + 1) (.int .i64 r)).set (j * 5 + 2) (.int .i64 a)).set (j * 5 + 3) (.int .i64 b)).set (j * 5 + 4) (.string ⟨s.toArray⟩) = insV (ns.set j (k, r, a, b, s)) := by
  induction ns generalizing j with
  | nil => simp [insV]
  | cons i l ih =>
    cases j with
    | zero => simp [insV]
    | succ j => rw [show (j + 1) * 5 = j * 5 + 1 + 1 + 1 + 1 + 1 by omega]; simp [insV, ih]
theorem made_ins (n : Nat) : (madeCells (Value.agg #[.int .i64 0, .int .i64 0, .int .i64 0, .int .i64 0, .string ⟨#[]⟩]).cells (n * 5)).toList = insV (List.replicate n in0) := by
  have hc : (Value.agg #[.int .i64 0, .int .i64 0, .int .i64 0, .int .i64 0, .string ⟨#[]⟩]).cells = #[.int .i64 0, .int .i64 0, .int .i64 0, .int .i64 0, .string ⟨#[]⟩] := rfl
  rw [hc]
  apply List.ext_getElem?
  intro j
  by_cases hj : j < n * 5
  · obtain ⟨v0, v1, v2, v3, v4⟩ := insV_at (List.replicate n in0) (j / 5) (by simp; omega)
    have hg : (List.replicate n in0).getD (j / 5) in0 = in0 := by simp [List.getD, List.getElem?_replicate]; split <;> rfl
    rw [hg] at v0 v1 v2 v3 v4
    have h4 : j % 5 = 0 ∨ j % 5 = 1 ∨ j % 5 = 2 ∨ j % 5 = 3 ∨ j % 5 = 4 := by omega
    rcases h4 with h' | h' | h' | h' | h'
    · have ej : j = j / 5 * 5 := by omega
      rw [← ej] at v0
      rw [v0]
      simp [madeCells, hj, h', in0]
    · have ej : j = j / 5 * 5 + 1 := by omega
      rw [← ej] at v1
      rw [v1]
      simp [madeCells, hj, h', in0]
    · have ej : j = j / 5 * 5 + 2 := by omega
      rw [← ej] at v2
      rw [v2]
      simp [madeCells, hj, h', in0]
    · have ej : j = j / 5 * 5 + 3 := by omega
      rw [← ej] at v3
      rw [v3]
      simp [madeCells, hj, h', in0]
    · have ej : j = j / 5 * 5 + 4 := by omega
      rw [← ej] at v4
      rw [v4]
      simp [madeCells, hj, h', in0]
  · rw [List.getElem?_eq_none (by simp [madeCells]; omega), List.getElem?_eq_none (by rw [insV_len]; simp; omega)]
theorem fill_ins (ns : List In13) (k : Nat) (hk : k < ns.length) : (ns.take k ++ List.replicate (ns.length - k) in0).set k (ns.getD k in0) = ns.take (k + 1) ++ List.replicate (ns.length - (k + 1)) in0 := by
  have hg : ns.getD k in0 = ns[k] := by simp [List.getD, hk]
  rw [hg, List.set_append_right _ _ (by rw [List.length_take]; omega), List.length_take, Nat.min_eq_left (by omega), Nat.sub_self, show ns.length - k = (ns.length - (k + 1)) + 1 by omega, List.replicate_succ, List.set_cons_zero, List.take_succ_eq_append_getElem hk, List.append_assoc]
  rfl

set_option maxHeartbeats 2000000 in
set_option maxRecDepth 100000 in
theorem toInsSC (a : Option Addr) (len cap : Nat) (ns : List In13) (w : World) (hin : InsIn w a len ns) (hlen : len ≤ 1048576) :
    Calls Tryz.prog 79 #[.slice a len cap] w fun e w' => ∃ v, e = .returned v ∧ w'.ownsRow w.heap.size 81 5 v len (insV ns) ∧ v ≠ .slice none 0 0 ∧ Below w.heap.size w w' := by
  obtain ⟨i0, hi, hz0, hz1, hz2⟩ := info_parts infoIns
  have hlb := hin.1
  have HI : Hid (InsIn w a len ns) := hin
  clear hin
  go_enter Tryz.func79, Tryz.ntmps79
  go_wp2_with (at_make; refine wpList_make_full _ rfl _ _ 76 rfl w.heap.size 81 i0 _ 5 Tryz.underlying76 hi hz0 hz1 .i64 .i64 _ _ len rfl rfl rfl rfl (by rw [hz2]; omega) (by unfold maxLen; omega) (Nat.le_refl _) ?_; intro w1 hown1 hgrow1)
  rw [made_ins] at hown1
  have hB1 : Below w.heap.size w w1 := (Below.refl _ _).grown hgrow1 (Nat.le_refl _) (by simp)
  clear hgrow1
  go_loopw [4] (fun i wr => ∃ k : Nat, k ≤ len ∧ i = .int .i64 k ∧ wr.ownsRow w.heap.size 81 5 (.slice (some ⟨w.heap.size, 0, none⟩) len len) len (insV (ns.take k ++ List.replicate (ns.length - k) in0)) ∧ Below w.heap.size w wr) (fun i _ => len - (intOf i).toNat)
  case atStart => exact ⟨0, Nat.zero_le _, rfl, by simpa [hlb] using hown1, hB1⟩
  case round =>
    obtain ⟨k, hk, rfl, hown, hB⟩ := hrel
    clear hown1 hB1
    by_cases hkl : (k : Int) < (len : Int)
    · obtain ⟨b, off, rfl, hbl, hcells⟩ := (HI.out.below hB).at (by omega)
      obtain ⟨c0, c1, c2, c3, c4⟩ := hcells k (by omega)
      have hfs := fill_ins ns k (by omega)
      obtain ⟨x, hx⟩ : ∃ x, ns.getD k in0 = x := ⟨_, rfl⟩
      rw [hx] at c0 c1 c2 c3 c4 hfs
      obtain ⟨kd, r, aa, bb, s⟩ := x
      simp only at c0 c1 c2 c3 c4
      have HF : Hid ((ns.take k ++ List.replicate (ns.length - k) in0).set k (kd, r, aa, bb, s) = ns.take (k + 1) ++ List.replicate (ns.length - (k + 1)) in0) := hfs
      have HOW : Hid (wr.ownsRow w.heap.size 81 5 (.slice (some ⟨w.heap.size, 0, none⟩) len len) len (insV (ns.take k ++ List.replicate (ns.length - k) in0))) := hown
      clear hx hcells hfs hown
      go_wp2_with fail
      refine (toInsC kd r aa bb s _).mono ?_
      rintro e w2 ⟨rfl, hb2⟩
      have hown2 := own_below HOW.out hb2
      have hl2 : (ns.take k ++ List.replicate (ns.length - k) in0).length = len := by rw [List.length_append, List.length_take, List.length_replicate]; omega
      obtain ⟨v0, v1, v2, v3, v4⟩ := insV_at (ns.take k ++ List.replicate (ns.length - k) in0) k (by omega)
      obtain ⟨u0, d0⟩ : ∃ u, w2.cell? ⟨w.heap.size, k * 5, none⟩ = some u := by
        rw [hown2.cellAt (k * 5) (by omega), v0]; exact ⟨_, rfl⟩
      have e0 := hown2.frozenAt (k * 5)
      obtain ⟨u1, d1⟩ : ∃ u, w2.cell? ⟨w.heap.size, k * 5 + 1, none⟩ = some u := by
        rw [hown2.cellAt (k * 5 + 1) (by omega), v1]; exact ⟨_, rfl⟩
      have e1 := hown2.frozenAt (k * 5 + 1)
      obtain ⟨u2, d2⟩ : ∃ u, w2.cell? ⟨w.heap.size, k * 5 + 2, none⟩ = some u := by
        rw [hown2.cellAt (k * 5 + 2) (by omega), v2]; exact ⟨_, rfl⟩
      have e2 := hown2.frozenAt (k * 5 + 2)
      obtain ⟨u3, d3⟩ : ∃ u, w2.cell? ⟨w.heap.size, k * 5 + 3, none⟩ = some u := by
        rw [hown2.cellAt (k * 5 + 3) (by omega), v3]; exact ⟨_, rfl⟩
      have e3 := hown2.frozenAt (k * 5 + 3)
      obtain ⟨u4, d4⟩ : ∃ u, w2.cell? ⟨w.heap.size, k * 5 + 4, none⟩ = some u := by
        rw [hown2.cellAt (k * 5 + 4) (by omega), v4]; exact ⟨_, rfl⟩
      have e4 := hown2.frozenAt (k * 5 + 4)
      have hs1 := hown2.stored (k * 5) (.int .i64 kd)
      have hs2 := hs1.1.stored (k * 5 + 1) (.int .i64 r)
      have hs3 := hs2.1.stored (k * 5 + 2) (.int .i64 aa)
      have hs4 := hs3.1.stored (k * 5 + 3) (.int .i64 bb)
      have hs5 := hs4.1.stored (k * 5 + 4) (.string ⟨s.toArray⟩)
      have hnew := hs5.1
      rw [insV_set, HF.out] at hnew
      have hB2 : Below w.heap.size w w2 := hB.trans (hb2.mono hB.size)
      have hB3 := (((((hB2.setCell (p := ⟨w.heap.size, k * 5, none⟩) (Nat.le_refl _) (.int .i64 kd)).setCell (p := ⟨w.heap.size, k * 5 + 1, none⟩) (Nat.le_refl _) (.int .i64 r)).setCell (p := ⟨w.heap.size, k * 5 + 2, none⟩) (Nat.le_refl _) (.int .i64 aa)).setCell (p := ⟨w.heap.size, k * 5 + 3, none⟩) (Nat.le_refl _) (.int .i64 bb)).setCell (p := ⟨w.heap.size, k * 5 + 4, none⟩) (Nat.le_refl _) (.string ⟨s.toArray⟩))
      clear hown2 hs1 hs2 hs3 hs4 hs5 hl2 v0 v1 v2 v3 v4
      go_wp2
      go_roundw
      case rel => exact ⟨k + 1, by omega, by go_num, hnew, hB3⟩
      case measure => simp [intOf]; omega
    · have hd : ns.take k ++ List.replicate (ns.length - k) in0 = ns := by rw [List.take_of_length_le (by omega), show ns.length - k = 0 by omega]; simp
      rw [hd] at hown
      clear hd
      go_wp2
      go_ret
      exact ⟨_, rfl, hown, by simp, hB⟩

set_option maxHeartbeats 400000 in
set_option maxRecDepth 100000 in
theorem eqInsC (k r a b : Int) (s : List UInt8) (w : World) :
    Calls Tryz.prog 107 #[.agg #[.int .i64 k, .int .i64 r, .int .i64 a, .int .i64 b, .string ⟨s.toArray⟩], .agg #[.int .i64 k, .int .i64 r, .int .i64 a, .int .i64 b, .string ⟨s.toArray⟩]] w fun e w' => e = .returned (.bool true) ∧ Below w.heap.size w w' := by
  have h1 : ∀ n : Int, (n != n) = false := by simp
  have h2 : ∀ l : List UInt8, (l != l) = false := by simp
  go_enter Tryz.func107, Tryz.ntmps107
  go_wp2
  go_ret
  exact ⟨rfl, ((Below.refl _ w).alloc (Nat.le_refl _) _).alloc (by simp) _⟩

set_option maxHeartbeats 2000000 in
set_option maxRecDepth 100000 in
theorem eqInsSC (a b : Option Addr) (len ca cb : Nat) (ns : List In13) (w : World) (ha : InsIn w a len ns) (hb : InsIn w b len ns) (hlen : len ≤ 4194304) :
    Calls Tryz.prog 85 #[.slice a len ca, .slice b len cb] w fun e w' => e = .returned (.bool true) ∧ Below w.heap.size w w' := by
  have hlb := ha.1
  have HA : Hid (InsIn w a len ns) := ha
  have HB : Hid (InsIn w b len ns) := hb
  clear ha hb
  have h1 : ((len : Int) != (len : Int)) = false := by simp
  go_enter Tryz.func85, Tryz.ntmps85
  go_wp2
  go_loopw [5] (fun i wr => ∃ k : Nat, k ≤ len ∧ i = .int .i64 k ∧ Below w.heap.size w wr) (fun i _ => len - (intOf i).toNat)
  case atStart => exact ⟨0, Nat.zero_le _, rfl, Below.refl _ _⟩
  case round =>
    obtain ⟨k, hk, rfl, hB⟩ := hrel
    by_cases hkl : (k : Int) < (len : Int)
    · obtain ⟨b1, o1, rfl, hb1, hc1⟩ := (HA.out.below hB).at (by omega)
      obtain ⟨b2, o2, rfl, hb2, hc2⟩ := (HB.out.below hB).at (by omega)
      obtain ⟨x0, x1, x2, x3, x4⟩ := hc1 k (by omega)
      obtain ⟨y0, y1, y2, y3, y4⟩ := hc2 k (by omega)
      obtain ⟨x, hx⟩ : ∃ x, ns.getD k in0 = x := ⟨_, rfl⟩
      rw [hx] at x0 x1 x2 x3 x4 y0 y1 y2 y3 y4
      obtain ⟨kd, r, aa, bb, s⟩ := x
      simp only at x0 x1 x2 x3 x4 y0 y1 y2 y3 y4
      clear hx hc1 hc2
      go_wp2
      go_region_held3 (fun w' => w'.cell? ⟨b1, o1 + k * 5, none⟩ = some (.int .i64 kd) ∧ w'.cell? ⟨b1, o1 + k * 5 + 1, none⟩ = some (.int .i64 r) ∧ w'.cell? ⟨b1, o1 + k * 5 + 2, none⟩ = some (.int .i64 aa) ∧ w'.cell? ⟨b1, o1 + k * 5 + 3, none⟩ = some (.int .i64 bb) ∧ w'.cell? ⟨b1, o1 + k * 5 + 4, none⟩ = some (.string ⟨s.toArray⟩) ∧ w'.cell? ⟨b2, o2 + k * 5, none⟩ = some (.int .i64 kd) ∧ w'.cell? ⟨b2, o2 + k * 5 + 1, none⟩ = some (.int .i64 r) ∧ w'.cell? ⟨b2, o2 + k * 5 + 2, none⟩ = some (.int .i64 aa) ∧ w'.cell? ⟨b2, o2 + k * 5 + 3, none⟩ = some (.int .i64 bb) ∧ w'.cell? ⟨b2, o2 + k * 5 + 4, none⟩ = some (.string ⟨s.toArray⟩)) (go_keep) (first | (go_at_call 107; refine (eqInsC kd r aa bb s _).mono ?_; rintro e w1 ⟨rfl, hw1⟩; have d0 : w1.cell? ⟨b1, o1 + k * 5, none⟩ = some (.int .i64 kd) := (hw1.cell (p := ⟨b1, o1 + k * 5, none⟩) hb1).trans x0; have d1 : w1.cell? ⟨b1, o1 + k * 5 + 1, none⟩ = some (.int .i64 r) := (hw1.cell (p := ⟨b1, o1 + k * 5 + 1, none⟩) hb1).trans x1; have d2 : w1.cell? ⟨b1, o1 + k * 5 + 2, none⟩ = some (.int .i64 aa) := (hw1.cell (p := ⟨b1, o1 + k * 5 + 2, none⟩) hb1).trans x2; have d3 : w1.cell? ⟨b1, o1 + k * 5 + 3, none⟩ = some (.int .i64 bb) := (hw1.cell (p := ⟨b1, o1 + k * 5 + 3, none⟩) hb1).trans x3; have d4 : w1.cell? ⟨b1, o1 + k * 5 + 4, none⟩ = some (.string ⟨s.toArray⟩) := (hw1.cell (p := ⟨b1, o1 + k * 5 + 4, none⟩) hb1).trans x4; have e0 : w1.cell? ⟨b2, o2 + k * 5, none⟩ = some (.int .i64 kd) := (hw1.cell (p := ⟨b2, o2 + k * 5, none⟩) hb2).trans y0; have e1 : w1.cell? ⟨b2, o2 + k * 5 + 1, none⟩ = some (.int .i64 r) := (hw1.cell (p := ⟨b2, o2 + k * 5 + 1, none⟩) hb2).trans y1; have e2 : w1.cell? ⟨b2, o2 + k * 5 + 2, none⟩ = some (.int .i64 aa) := (hw1.cell (p := ⟨b2, o2 + k * 5 + 2, none⟩) hb2).trans y2; have e3 : w1.cell? ⟨b2, o2 + k * 5 + 3, none⟩ = some (.int .i64 bb) := (hw1.cell (p := ⟨b2, o2 + k * 5 + 3, none⟩) hb2).trans y3; have e4 : w1.cell? ⟨b2, o2 + k * 5 + 4, none⟩ = some (.string ⟨s.toArray⟩) := (hw1.cell (p := ⟨b2, o2 + k * 5 + 4, none⟩) hb2).trans y4))
      all_goals go_wp2
      go_roundw
      case rel => exact ⟨k + 1, by omega, by go_num, hB.trans ⟨hw1.os, hw1.tape, hw1.output, hw1.size, fun q hq => hw1.block q (by have := hB.size; show q < wr.heap.size; omega)⟩⟩
      case measure => simp [intOf]; omega
    · go_wp2
      go_ret
      exact ⟨rfl, hB⟩

end Go.Proofs.YtfhkiaogfopigaaGreatDoor
