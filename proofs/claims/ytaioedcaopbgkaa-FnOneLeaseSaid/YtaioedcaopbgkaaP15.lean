/-
  Parts of one proof, one behind the other: RtU, TkO, TkL, TkT, TkB.
-/
import Derived.Test.YtaioedcaopbgkaaP14
import Derived.Test.YtaioedcaopbgkaaP1
import Derived.Test.YtaioedcaopbgkaaP13
import Derived.Deep.RegionHeld3

/-! What the writing of several blocks leaves; rows that lie apart; blocks of three cells. -/
namespace Go.Proofs.Ytaioedcaopbgkaa
open Go.RowKit

/-- Of what was there nothing but the blocks of S was written. -/
structure WroteR (w w' : World) (S : Nat → Prop) : Prop where
 os : w'.os = w.os
 tape : w'.tape = w.tape
 output : w'.output = w.output
 size : w.heap.size ≤ w'.heap.size
 block : ∀ k, k < w.heap.size → ¬ S k → w'.heap[k]? = w.heap[k]?

theorem WroteR.refl (w : World) (S : Nat → Prop) : WroteR w w S := ⟨rfl, rfl, rfl, Nat.le_refl _, fun _ _ _ => rfl⟩
theorem WroteR.trans {a b c : World} {S : Nat → Prop} (h : WroteR a b S) (k : WroteR b c S) : WroteR a c S :=
 ⟨k.os.trans h.os, k.tape.trans h.tape, k.output.trans h.output, Nat.le_trans h.size k.size, fun i hi hs => (k.block i (Nat.lt_of_lt_of_le hi h.size) hs).trans (h.block i hi hs)⟩
theorem WroteR.mono {w w' : World} {S T : Nat → Prop} (h : WroteR w w' S) (hs : ∀ k, S k → T k) : WroteR w w' T := ⟨h.os, h.tape, h.output, h.size, fun k hk hn => h.block k hk (fun e => hn (hs k e))⟩
theorem WroteR.of_grown {w w' : World} {row : Option Nat} {S : Nat → Prop} (h : w.grownBy w' row) (hs : ∀ k, row = some k → S k) : WroteR w w' S :=
 ⟨h.os, h.tape, h.output, h.size, fun k hk hn => h.block k hk (fun e => hn (hs k e.symm))⟩
theorem WroteR.of_below {w w' : World} {S : Nat → Prop} (h : Below w.heap.size w w') : WroteR w w' S := ⟨h.os, h.tape, h.output, h.size, fun k hk _ => h.block k hk⟩
theorem WroteR.below {w w' : World} {S : Nat → Prop} {B : Nat} (h : WroteR w w' S) (hB : B ≤ w.heap.size) (hs : ∀ k, S k → B ≤ k) : Below B w w' :=
 ⟨h.os, h.tape, h.output, h.size, fun k hk => h.block k (Nat.lt_of_lt_of_le hk hB) (fun e => by have := hs k e; omega)⟩
theorem own_wroteR {w w' : World} {base e size n : Nat} {v : Value} {xs : List Value} {S : Nat → Prop} (h : w.ownsRow base e size v n xs) (hw : WroteR w w' S) (hv : ∀ k, v.ownBlock = some k → ¬ S k) : w'.ownsRow base e size v n xs := by
 refine ⟨h.1, ?_⟩
 rcases h.2 with hn | ⟨g, cap, cur, rfl, hb, hgg, rest⟩
 ·
  exact .inl hn
 ·
  refine .inr ⟨g, cap, cur, rfl, hb, ?_, rest⟩
  rw [hw.block g (Array.getElem?_eq_some_iff.1 hgg).1 (hv g rfl)]
  exact hgg

/-- The trees lie apart, one by one. -/
def ApartR (vs : List Value) : Prop := vs.Pairwise (fun a b => a.ownBlock = none ∨ a.ownBlock ≠ b.ownBlock)
theorem ApartR.ne {vs : List Value} (h : ApartR vs) {i j : Nat} (hi : i < vs.length) (hj : j < vs.length) (hij : i ≠ j) : vs[i].ownBlock = none ∨ vs[i].ownBlock ≠ vs[j].ownBlock := by
 rcases Nat.lt_or_gt_of_ne hij with hl | hl
 ·
  exact List.pairwise_iff_getElem.1 h i j hi hj hl
 ·
  rcases List.pairwise_iff_getElem.1 h j i hj hi hl with e | e
  ·
   rw [e]; cases vs[i].ownBlock <;> simp
  ·
   exact Or.inr (fun e2 => e e2.symm)

theorem ApartR.nil : ApartR [] := List.Pairwise.nil
theorem ApartR.snoc {vs : List Value} {u : Value} (h : ApartR vs) (hu : ∀ v ∈ vs, v.ownBlock = none ∨ v.ownBlock ≠ u.ownBlock) : ApartR (vs ++ [u]) :=
 List.pairwise_append.2 ⟨h, List.pairwise_singleton _ _, fun a ha b hb => by rw [List.mem_singleton] at hb; subst hb; exact hu a ha⟩
/-- A row that lies ahead of a place, and one that lies behind it. -/
theorem own_aheadR {w w' : World} {b1 b2 e1 e2 s1 s2 n1 n2 : Nat} {v1 v2 : Value} {xs ys : List Value} (h1 : w.ownsRow b1 e1 s1 v1 n1 xs) (h2 : w'.ownsRow b2 e2 s2 v2 n2 ys) (hb : w.heap.size ≤ b2) : v1.ownBlock = none ∨ v1.ownBlock ≠ v2.ownBlock := by
 cases hv : v1.ownBlock with
 | none => exact Or.inl rfl
 | some k =>
  refine Or.inr (fun e => ?_)
  have l1 := (h1.lt k hv).2
  have l2 := (h2.lt k e.symm).1
  omega

theorem cell_alwR {w : World} {a : Addr} {v : Value} (o : Obj) (h : w.cell? a = some v) : (w.alloc o).cell? a = some v :=
 (World.cell?_of_block (Below.heap_alloc _ _ _ (World.block_lt_of_cell? w a h))).trans h

/-- A row that is owned above a block does not lie in it. -/
theorem own_offR {w : World} {base e size n R : Nat} {v : Value} {xs : List Value} (h : w.ownsRow base e size v n xs) (hR : R < base) : v.ownBlock = none ∨ v.ownBlock ≠ some R := by
 rcases hv : v.ownBlock with _ | k
 ·
  exact Or.inl rfl
 ·
  refine Or.inr (fun e => ?_)
  have := (h.lt k hv).1
  injection e with e
  omega

/-- Rows of elements of two types lie in two blocks. -/
theorem own_typesR {w : World} {b1 b2 e1 e2 s1 s2 n1 n2 : Nat} {v1 v2 : Value} {xs ys : List Value} (h1 : w.ownsRow b1 e1 s1 v1 n1 xs) (h2 : w.ownsRow b2 e2 s2 v2 n2 ys) (he : e1 ≠ e2) : v1.ownBlock = none ∨ v1.ownBlock ≠ v2.ownBlock := by
 rcases h1.2 with ⟨rfl, _⟩ | ⟨g, c, cur, rfl, _, hg, _⟩
 ·
  exact Or.inl rfl
 ·
  rcases h2.2 with ⟨rfl, _⟩ | ⟨g2, c2, cur2, rfl, _, hg2, _⟩
  ·
   exact Or.inr (by simp [Value.ownBlock])
  ·
   refine Or.inr (fun e => ?_)
   simp only [Value.ownBlock, Option.some.injEq] at e
   subst e
   rw [hg] at hg2
   simp only [Option.some.injEq, Obj.cells.injEq] at hg2
   exact he hg2.2.1

theorem add_plainR (b off i : Nat) : (⟨b, off, none⟩ : Addr).add i = ⟨b, off + i, none⟩ := by unfold Addr.add; split <;> simp_all

end Go.Proofs.Ytaioedcaopbgkaa

/-! Tasks that a call has made: each with its needs in a row of its own. -/
namespace Go.Proofs.Ytaioedcaopbgkaa
open Go.RowKit

/-- A task, and where its needs lie. -/
abbrev TV := Ta × Option Addr × Nat
def tvT (x : TV) : Value := .slice x.2.1 x.1.2.1.length x.2.2
def tkV (x : TV) : List Value := [.string ⟨x.1.1.toArray⟩, tvT x, .int .i64 x.1.2.2.1, .int .i64 x.1.2.2.2.1, .int .i64 x.1.2.2.2.2.1, .int .i64 x.1.2.2.2.2.2]
def tksV : List TV → List Value
 | [] => []
 | x :: r => .string ⟨x.1.1.toArray⟩ :: tvT x :: .int .i64 x.1.2.2.1 :: .int .i64 x.1.2.2.2.1 :: .int .i64 x.1.2.2.2.2.1 :: .int .i64 x.1.2.2.2.2.2 :: tksV r
def tv0 : TV := (ta0, none, 0)

theorem tksV_len (xs : List TV) : (tksV xs).length = xs.length * 6 := by
 induction xs with
 | nil => rfl
 | cons n r ih => simp only [tksV, List.length_cons, ih]; omega
theorem tksV_append (x y : List TV) : tksV (x ++ y) = tksV x ++ tksV y := by
 induction x with
 | nil => rfl
 | cons n r ih => simp [tksV, ih]
theorem tksV_one (xs : List TV) : ∀ u ∈ tksV xs, u.oneCell' = true := by
 induction xs with
 | nil => intro u hu; cases hu
 | cons n r ih =>
  intro u hu
  simp only [tksV, List.mem_cons] at hu
  rcases hu with rfl | rfl | rfl | rfl | rfl | rfl | h
  ·
   rfl
  ·
   rfl
  ·
   rfl
  ·
   rfl
  ·
   rfl
  ·
   rfl
  ·
   exact ih u h
theorem tksV_at (xs : List TV) (j : Nat) (hj : j < xs.length) : (tksV xs)[j * 6]? = some (.string ⟨(xs.getD j tv0).1.1.toArray⟩) ∧ (tksV xs)[j * 6 + 1]? = some (tvT (xs.getD j tv0)) ∧ (tksV xs)[j * 6 + 2]? = some (.int .i64 (xs.getD j tv0).1.2.2.1) ∧ (tksV xs)[j * 6 + 3]? = some (.int .i64 (xs.getD j tv0).1.2.2.2.1) ∧ (tksV xs)[j * 6 + 4]? = some (.int .i64 (xs.getD j tv0).1.2.2.2.2.1) ∧ (tksV xs)[j * 6 + 5]? = some (.int .i64 (xs.getD j tv0).1.2.2.2.2.2) := by
 induction xs generalizing j with
 | nil => simp at hj
 | cons n r ih =>
  cases j with
  | zero => simp [tksV]
  | succ j =>
   obtain ⟨h0, h1, h2, h3, h4, h5⟩ := ih j (by simpa using hj)
   have e : ∀ i, (j + 1) * 6 + i = (j * 6 + i) + 1 + 1 + 1 + 1 + 1 + 1 := fun i => by omega
   refine ⟨?_, ?_, ?_, ?_, ?_, ?_⟩
   ·
    have := e 0; rw [Nat.add_zero, Nat.add_zero] at this; rw [this]; simpa [tksV] using h0
   ·
    rw [e 1]; simpa [tksV] using h1
   ·
    rw [e 2]; simpa [tksV] using h2
   ·
    rw [e 3]; simpa [tksV] using h3
   ·
    rw [e 4]; simpa [tksV] using h4
   ·
    rw [e 5]; simpa [tksV] using h5
theorem tksV_set (xs : List TV) (j : Nat) (y : TV) : ((((((tksV xs).set (j * 6) (.string ⟨y.1.1.toArray⟩)).set (j * 6 + 1) (tvT y)).set (j * 6 + 2) (.int .i64 y.1.2.2.1)).set (j * 6 + 3) (.int .i64 y.1.2.2.2.1)).set (j * 6 + 4) (.int .i64 y.1.2.2.2.2.1)).set (j * 6 + 5) (.int .i64 y.1.2.2.2.2.2) = tksV (xs.set j y) := by
 induction xs generalizing j with
 | nil => simp [tksV]
 | cons b r ih =>
  cases j with
  | zero => simp [tksV]
  | succ j => rw [show (j + 1) * 6 = j * 6 + 1 + 1 + 1 + 1 + 1 + 1 by omega]; simp [tksV, ih]

structure TksOwn (w : World) (base : Nat) (v : Value) (xs : List TV) : Prop where
 row : w.ownsRow base 46 6 v xs.length (tksV xs)
 trees : ∀ x ∈ xs, w.ownsRow base 2 1 (tvT x) x.1.2.1.length (intsV x.1.2.1)
theorem TksOwn.below {w w' : World} {base : Nat} {v : Value} {xs : List TV} (h : TksOwn w base v xs) (hb : Below w.heap.size w w') : TksOwn w' base v xs := ⟨own_below h.row hb, fun x hx => own_below (h.trees x hx) hb⟩
theorem TksOwn.kept {w w' : World} {base : Nat} {v : Value} {xs : List TV} {row : Option Nat} (h : TksOwn w base v xs) (hg : w.grownBy w' row) (h1 : v.ownBlock = none ∨ v.ownBlock ≠ row) (h2 : ∀ x ∈ xs, (tvT x).ownBlock = none ∨ (tvT x).ownBlock ≠ row) : TksOwn w' base v xs :=
 ⟨h.row.kept hg h1, fun x hx => (h.trees x hx).kept hg (h2 x hx)⟩
theorem TksOwn.base {w : World} {base b2 : Nat} {v : Value} {xs : List TV} (h : TksOwn w base v xs) (hb : b2 ≤ base) : TksOwn w b2 v xs := ⟨own_base h.row hb, fun x hx => own_base (h.trees x hx) hb⟩
theorem TksOwn.nil (w : World) (base : Nat) : TksOwn w base (.slice none 0 0) [] := ⟨World.ownsRow_nil w _ _ _, fun x hx => by cases hx⟩
theorem getD_map_tk (xs : List TV) (j : Nat) : (xs.map (·.1)).getD j ta0 = (xs.getD j tv0).1 := by
 rw [List.getD_eq_getElem?_getD, List.getD_eq_getElem?_getD, List.getElem?_map]
 cases xs[j]? <;> rfl
/-- Numbers that are owned can be read. -/
theorem own_as {w : World} {B n c : Nat} {a : Option Addr} {xs : List Int} (h : w.ownsRow B 2 1 (.slice a n c) n (intsV xs)) (hn : xs.length = n) : AsIn w a xs ∧ (a = none → c = 0) ∧ n ≤ c := by
 rcases h.2 with ⟨h', h0, _⟩ | ⟨g, cp, cur, h', _, _, hnc, _⟩
 ·
  simp only [Value.slice.injEq] at h'
  obtain ⟨rfl, _, rfl⟩ := h'
  exact ⟨fun j hj => absurd hj (by omega), fun _ => rfl, Nat.le_refl _⟩
 ·
  injection h' with h1 h2 h3
  subst h1 h3
  exact ⟨nums_as h hn, (fun e => by cases e), hnc⟩

/-- What the landed functions are told of tasks: a row that is nil has no room. -/
def TasksOk (w : World) (a : Option Addr) (len cap : Nat) (ts : List Ta) : Prop :=
 ts.length = len ∧ (a = none → cap = 0) ∧ ∀ j, j < len → ∃ b off, a = some ⟨b, off, none⟩ ∧ b < w.heap.size ∧ w.cell? ⟨b, off + j * 6, none⟩ = some (.string ⟨(ts.getD j ta0).1.toArray⟩) ∧
  (∃ na nc, w.cell? ⟨b, off + j * 6 + 1, none⟩ = some (.slice na (ts.getD j ta0).2.1.length nc) ∧ AsIn w na (ts.getD j ta0).2.1 ∧ (na = none → nc = 0)) ∧
  w.cell? ⟨b, off + j * 6 + 2, none⟩ = some (.int .i64 (ts.getD j ta0).2.2.1) ∧ w.cell? ⟨b, off + j * 6 + 3, none⟩ = some (.int .i64 (ts.getD j ta0).2.2.2.1) ∧
  w.cell? ⟨b, off + j * 6 + 4, none⟩ = some (.int .i64 (ts.getD j ta0).2.2.2.2.1) ∧ w.cell? ⟨b, off + j * 6 + 5, none⟩ = some (.int .i64 (ts.getD j ta0).2.2.2.2.2)
theorem TasksOk.in {w : World} {a : Option Addr} {len cap : Nat} {ts : List Ta} (h : TasksOk w a len cap ts) : TasksIn w a len ts := by
 refine ⟨h.1, fun j hj => ?_⟩
 obtain ⟨b, off, e, hlt, c0, ⟨na, nc, c1, hn, _⟩, c2, c3, c4, c5⟩ := h.2.2 j hj
 exact ⟨b, off, e, hlt, c0, ⟨na, nc, c1, hn⟩, c2, c3, c4, c5⟩
theorem TasksOk.below {w w' : World} {a : Option Addr} {len cap : Nat} {ts : List Ta} (h : TasksOk w a len cap ts) (hb : Below w.heap.size w w') : TasksOk w' a len cap ts := by
 refine ⟨h.1, h.2.1, fun j hj => ?_⟩
 obtain ⟨b, off, e, hlt, c0, ⟨na, nc, c1, hn, hz⟩, c2, c3, c4, c5⟩ := h.2.2 j hj
 exact ⟨b, off, e, Nat.lt_of_lt_of_le hlt hb.size, (hb.cell (p := ⟨b, off + j * 6, none⟩) hlt).trans c0, ⟨na, nc, (hb.cell (p := ⟨b, off + j * 6 + 1, none⟩) hlt).trans c1, hn.below hb, hz⟩,
  (hb.cell (p := ⟨b, off + j * 6 + 2, none⟩) hlt).trans c2, (hb.cell (p := ⟨b, off + j * 6 + 3, none⟩) hlt).trans c3, (hb.cell (p := ⟨b, off + j * 6 + 4, none⟩) hlt).trans c4, (hb.cell (p := ⟨b, off + j * 6 + 5, none⟩) hlt).trans c5⟩
/-- What is owned can be read. -/
theorem TksOwn.ok {w : World} {base : Nat} {v : Value} {xs : List TV} (h : TksOwn w base v xs) : ∃ a cap, v = .slice a xs.length cap ∧ TasksOk w a xs.length cap (xs.map (·.1)) := by
 rcases own_forms h.row with ⟨rfl, h0, _⟩ | ⟨g, cp, rfl⟩
 ·
  exact ⟨none, 0, by rw [h0], by simp, fun _ => rfl, fun j hj => by omega⟩
 ·
  refine ⟨some ⟨g, 0, none⟩, cp, rfl, by simp, (fun e => by cases e), fun j hj => ?_⟩
  obtain ⟨v0, v1, v2, v3, v4, v5⟩ := tksV_at xs j hj
  have hc := fun k (hk : k < xs.length * 6) => World.ownsRow.cellAt h.row k hk
  have hmem : xs.getD j tv0 ∈ xs := by rw [List.getD_eq_getElem?_getD, List.getElem?_eq_getElem hj]; exact List.getElem_mem hj
  obtain ⟨hi, hz, _⟩ := own_as (h.trees _ hmem) rfl
  rw [getD_map_tk]
  refine ⟨g, 0, rfl, (h.row.lt g rfl).2, ?_, ⟨(xs.getD j tv0).2.1, (xs.getD j tv0).2.2, ?_, hi, hz⟩, ?_, ?_, ?_, ?_⟩
  ·
   rw [Nat.zero_add, hc _ (by omega), v0]
  ·
   rw [Nat.zero_add, hc _ (by omega), v1]; rfl
  ·
   rw [Nat.zero_add, hc _ (by omega), v2]
  ·
   rw [Nat.zero_add, hc _ (by omega), v3]
  ·
   rw [Nat.zero_add, hc _ (by omega), v4]
  ·
   rw [Nat.zero_add, hc _ (by omega), v5]

theorem infoTask : (Try.prog.info? 46).map (fun i => (i.zero, i.size, i.bytes)) = some (some (.agg #[.string ⟨#[]⟩, .slice none 0 0, .int .i64 0, .int .i64 0, .int .i64 0, .int .i64 0]), 6, 72) := by kernel_rfl
end Go.Proofs.Ytaioedcaopbgkaa

/-! The laws' own helpers over tasks: szInt64S, szTask, szTaskS, szDesk; eqInt64S at numbers that can be read, eqTask, eqTaskS, eqDesk. -/
namespace Go.Proofs.Ytaioedcaopbgkaa
open Go.RowKit

def szD (m : Nat) (left : Int) : Int := if (m : Int) ≤ left then left - (m : Int) else -1
def taSz (t : Ta) : Nat := t.1.length + t.2.1.length
def tasSz : List Ta → Nat
 | [] => 0
 | f :: r => taSz f + tasSz r
def LongTa (fs : List Ta) : Prop := ∀ j, (fs.getD j ta0).1.length ≤ maxLen ∧ (fs.getD j ta0).2.1.length ≤ maxLen
end Go.Proofs.Ytaioedcaopbgkaa

/-! The laws' own helpers over tasks: toTask, toTaskS, toDesk. -/
namespace Go.Proofs.Ytaioedcaopbgkaa
open Go.RowKit

theorem setO {X : World} {R i j : Nat} {v a : Value} (h : j ≠ i) (e : X.cell? ⟨R, j, none⟩ = some a) : (X.setCell ⟨R, i, none⟩ v).cell? ⟨R, j, none⟩ = some a :=
 (World.cell?_setCell_other _ _ _ _ (by simp)).trans e
theorem setS {X : World} {R i : Nat} {v a : Value} (e : X.cell? ⟨R, i, none⟩ = some a) : (X.setCell ⟨R, i, none⟩ v).cell? ⟨R, i, none⟩ = some v := World.cell?_setCell_same _ _ _ e
/-- Six cells of a block are written. -/
theorem set6 {X : World} {R : Nat} {a0 a1 a2 a3 a4 a5 : Value} (u0 u1 u2 u3 u4 u5 : Value) (r0 : X.cell? ⟨R, 0, none⟩ = some a0) (r1 : X.cell? ⟨R, 1, none⟩ = some a1) (r2 : X.cell? ⟨R, 2, none⟩ = some a2) (r3 : X.cell? ⟨R, 3, none⟩ = some a3) (r4 : X.cell? ⟨R, 4, none⟩ = some a4) (r5 : X.cell? ⟨R, 5, none⟩ = some a5) :
 ∃ Y, (((((X.setCell ⟨R, 0, none⟩ u0).setCell ⟨R, 1, none⟩ u1).setCell ⟨R, 2, none⟩ u2).setCell ⟨R, 3, none⟩ u3).setCell ⟨R, 4, none⟩ u4).setCell ⟨R, 5, none⟩ u5 = Y ∧ Y.cell? ⟨R, 0, none⟩ = some u0 ∧ Y.cell? ⟨R, 1, none⟩ = some u1 ∧ Y.cell? ⟨R, 2, none⟩ = some u2 ∧ Y.cell? ⟨R, 3, none⟩ = some u3 ∧ Y.cell? ⟨R, 4, none⟩ = some u4 ∧ Y.cell? ⟨R, 5, none⟩ = some u5 ∧ X.grownBy Y (some R) :=
 ⟨_, rfl, setO (by decide) (setO (by decide) (setO (by decide) (setO (by decide) (setO (by decide) (setS (r0)))))), setO (by decide) (setO (by decide) (setO (by decide) (setO (by decide) (setS (setO (by decide) (r1)))))), setO (by decide) (setO (by decide) (setO (by decide) (setS (setO (by decide) (setO (by decide) (r2)))))), setO (by decide) (setO (by decide) (setS (setO (by decide) (setO (by decide) (setO (by decide) (r3)))))), setO (by decide) (setS (setO (by decide) (setO (by decide) (setO (by decide) (setO (by decide) (r4)))))), setS (setO (by decide) (setO (by decide) (setO (by decide) (setO (by decide) (setO (by decide) (r5)))))), (((((grown_set _ _ _ _).trans (grown_set _ _ _ _)).trans (grown_set _ _ _ _)).trans (grown_set _ _ _ _)).trans (grown_set _ _ _ _)).trans (grown_set _ _ _ _)⟩
/-- Four cells of a block are written. -/
theorem set4 {X : World} {R : Nat} {a0 a1 a2 a3 : Value} (u0 u1 u2 u3 : Value) (r0 : X.cell? ⟨R, 0, none⟩ = some a0) (r1 : X.cell? ⟨R, 1, none⟩ = some a1) (r2 : X.cell? ⟨R, 2, none⟩ = some a2) (r3 : X.cell? ⟨R, 3, none⟩ = some a3) :
 ∃ Y, (((X.setCell ⟨R, 0, none⟩ u0).setCell ⟨R, 1, none⟩ u1).setCell ⟨R, 2, none⟩ u2).setCell ⟨R, 3, none⟩ u3 = Y ∧ Y.cell? ⟨R, 0, none⟩ = some u0 ∧ Y.cell? ⟨R, 1, none⟩ = some u1 ∧ Y.cell? ⟨R, 2, none⟩ = some u2 ∧ Y.cell? ⟨R, 3, none⟩ = some u3 ∧ X.grownBy Y (some R) :=
 ⟨_, rfl, setO (by decide) (setO (by decide) (setO (by decide) (setS (r0)))), setO (by decide) (setO (by decide) (setS (setO (by decide) (r1)))), setO (by decide) (setS (setO (by decide) (setO (by decide) (r2)))), setS (setO (by decide) (setO (by decide) (setO (by decide) (r3)))), (((grown_set _ _ _ _).trans (grown_set _ _ _ _)).trans (grown_set _ _ _ _)).trans (grown_set _ _ _ _)⟩

/-- The cells of a block of six, and of four, that lies as it was made. -/
theorem sixF {X W : World} {R : Nat} {u0 u1 u2 u3 u4 u5 : Value} {T : TypeId} (hX : Below W.heap.size W X) (hlt : R < W.heap.size) (hR : W.heap[R]? = some (.cells #[u0, u1, u2, u3, u4, u5] T)) :
 (X.cell? ⟨R, 0, none⟩ = some u0 ∧ X.cell? ⟨R, 1, none⟩ = some u1 ∧ X.cell? ⟨R, 2, none⟩ = some u2 ∧ X.cell? ⟨R, 3, none⟩ = some u3 ∧ X.cell? ⟨R, 4, none⟩ = some u4 ∧ X.cell? ⟨R, 5, none⟩ = some u5) ∧ ∀ j, X.frozen? ⟨R, j, none⟩ = false := by
 have e := (hX.block R hlt).trans hR
 clear hX hR
 exact ⟨⟨by simp [World.cell?, e], by simp [World.cell?, e], by simp [World.cell?, e], by simp [World.cell?, e], by simp [World.cell?, e], by simp [World.cell?, e]⟩, fun j => by simp [World.frozen?, e]⟩
theorem fourF {X W : World} {R : Nat} {u0 u1 u2 u3 : Value} {T : TypeId} (hX : Below W.heap.size W X) (hlt : R < W.heap.size) (hR : W.heap[R]? = some (.cells #[u0, u1, u2, u3] T)) :
 (X.cell? ⟨R, 0, none⟩ = some u0 ∧ X.cell? ⟨R, 1, none⟩ = some u1 ∧ X.cell? ⟨R, 2, none⟩ = some u2 ∧ X.cell? ⟨R, 3, none⟩ = some u3) ∧ ∀ j, X.frozen? ⟨R, j, none⟩ = false := by
 have e := (hX.block R hlt).trans hR
 clear hX hR
 exact ⟨⟨by simp [World.cell?, e], by simp [World.cell?, e], by simp [World.cell?, e], by simp [World.cell?, e]⟩, fun j => by simp [World.frozen?, e]⟩




end Go.Proofs.Ytaioedcaopbgkaa

/-! Boxes of a desk and of a task; rows of tasks that a call owns, as they are set and grown. -/
namespace Go.Proofs.Ytaioedcaopbgkaa
open Go.RowKit

/-- A block of four cells that can be written. -/
structure B4 (Z : World) (k : Nat) (a b c d : Value) : Prop where
 lt : k < Z.heap.size
 c0 : Z.cell? ⟨k, 0, none⟩ = some a
 c1 : Z.cell? ⟨k, 1, none⟩ = some b
 c2 : Z.cell? ⟨k, 2, none⟩ = some c
 c3 : Z.cell? ⟨k, 3, none⟩ = some d
 fr : ∀ j, Z.frozen? ⟨k, j, none⟩ = false
theorem B4.keep {Z Y : World} {k : Nat} {a b c d : Value} (h : B4 Z k a b c d) (hk : Y.heap[k]? = Z.heap[k]?) : B4 Y k a b c d :=
 ⟨by obtain ⟨h1, _⟩ := Array.getElem?_eq_some_iff.1 ((hk.trans (Array.getElem?_eq_getElem h.lt))); exact h1, (World.cell?_of_block (a := ⟨k, 0, none⟩) hk).trans h.c0, (World.cell?_of_block (a := ⟨k, 1, none⟩) hk).trans h.c1, (World.cell?_of_block (a := ⟨k, 2, none⟩) hk).trans h.c2, (World.cell?_of_block (a := ⟨k, 3, none⟩) hk).trans h.c3, fun j => by have := h.fr j; simp only [World.frozen?] at this ⊢; rw [hk]; exact this⟩
theorem B4.below {Z Y : World} {k : Nat} {a b c d : Value} (h : B4 Z k a b c d) (hb : Below Z.heap.size Z Y) : B4 Y k a b c d := h.keep (hb.block k h.lt)
theorem B4.grown {Z Y : World} {k : Nat} {row : Option Nat} {a b c d : Value} (h : B4 Z k a b c d) (hg : Z.grownBy Y row) (hn : row ≠ some k) : B4 Y k a b c d := h.keep (hg.block k h.lt (fun e => hn e.symm))
theorem B4.new (w : World) (a b c d : Value) (t : TypeId) : B4 (w.alloc (.cells #[a, b, c, d] t)) w.heap.size a b c d := by
 obtain ⟨⟨h0, h1, h2, h3⟩, hf⟩ := fourF (Below.refl _ (w.alloc (.cells #[a, b, c, d] t))) (by simp) (heap_alloc_new w _)
 exact ⟨by simp, h0, h1, h2, h3, hf⟩
theorem B4.s0 {Z : World} {k : Nat} {a b c d : Value} (h : B4 Z k a b c d) (u : Value) : B4 (Z.setCell ⟨k, 0, none⟩ u) k u b c d :=
 ⟨by simpa using h.lt, setS h.c0, setO (by decide) h.c1, setO (by decide) h.c2, setO (by decide) h.c3, fun j => by simpa using h.fr j⟩
theorem B4.s1 {Z : World} {k : Nat} {a b c d : Value} (h : B4 Z k a b c d) (u : Value) : B4 (Z.setCell ⟨k, 1, none⟩ u) k a u c d :=
 ⟨by simpa using h.lt, setO (by decide) h.c0, setS h.c1, setO (by decide) h.c2, setO (by decide) h.c3, fun j => by simpa using h.fr j⟩
theorem B4.s2 {Z : World} {k : Nat} {a b c d : Value} (h : B4 Z k a b c d) (u : Value) : B4 (Z.setCell ⟨k, 2, none⟩ u) k a b u d :=
 ⟨by simpa using h.lt, setO (by decide) h.c0, setO (by decide) h.c1, setS h.c2, setO (by decide) h.c3, fun j => by simpa using h.fr j⟩
theorem B4.s3 {Z : World} {k : Nat} {a b c d : Value} (h : B4 Z k a b c d) (u : Value) : B4 (Z.setCell ⟨k, 3, none⟩ u) k a b c u :=
 ⟨by simpa using h.lt, setO (by decide) h.c0, setO (by decide) h.c1, setO (by decide) h.c2, setS h.c3, fun j => by simpa using h.fr j⟩

/-- A block of six cells that can be written. -/
structure B6 (Z : World) (k : Nat) (a b c d e f : Value) : Prop where
 lt : k < Z.heap.size
 c0 : Z.cell? ⟨k, 0, none⟩ = some a
 c1 : Z.cell? ⟨k, 1, none⟩ = some b
 c2 : Z.cell? ⟨k, 2, none⟩ = some c
 c3 : Z.cell? ⟨k, 3, none⟩ = some d
 c4 : Z.cell? ⟨k, 4, none⟩ = some e
 c5 : Z.cell? ⟨k, 5, none⟩ = some f
 fr : ∀ j, Z.frozen? ⟨k, j, none⟩ = false
theorem B6.keep {Z Y : World} {k : Nat} {a b c d e f : Value} (h : B6 Z k a b c d e f) (hk : Y.heap[k]? = Z.heap[k]?) : B6 Y k a b c d e f :=
 ⟨by obtain ⟨h1, _⟩ := Array.getElem?_eq_some_iff.1 ((hk.trans (Array.getElem?_eq_getElem h.lt))); exact h1, (World.cell?_of_block (a := ⟨k, 0, none⟩) hk).trans h.c0, (World.cell?_of_block (a := ⟨k, 1, none⟩) hk).trans h.c1, (World.cell?_of_block (a := ⟨k, 2, none⟩) hk).trans h.c2, (World.cell?_of_block (a := ⟨k, 3, none⟩) hk).trans h.c3, (World.cell?_of_block (a := ⟨k, 4, none⟩) hk).trans h.c4, (World.cell?_of_block (a := ⟨k, 5, none⟩) hk).trans h.c5, fun j => by have := h.fr j; simp only [World.frozen?] at this ⊢; rw [hk]; exact this⟩
theorem B6.below {Z Y : World} {k : Nat} {a b c d e f : Value} (h : B6 Z k a b c d e f) (hb : Below Z.heap.size Z Y) : B6 Y k a b c d e f := h.keep (hb.block k h.lt)
theorem B6.grown {Z Y : World} {k : Nat} {row : Option Nat} {a b c d e f : Value} (h : B6 Z k a b c d e f) (hg : Z.grownBy Y row) (hn : row ≠ some k) : B6 Y k a b c d e f := h.keep (hg.block k h.lt (fun e => hn e.symm))
theorem B6.new (w : World) (a b c d e f : Value) (t : TypeId) : B6 (w.alloc (.cells #[a, b, c, d, e, f] t)) w.heap.size a b c d e f := by
 obtain ⟨⟨h0, h1, h2, h3, h4, h5⟩, hf⟩ := sixF (Below.refl _ (w.alloc (.cells #[a, b, c, d, e, f] t))) (by simp) (heap_alloc_new w _)
 exact ⟨by simp, h0, h1, h2, h3, h4, h5, hf⟩
theorem B6.s0 {Z : World} {k : Nat} {a b c d e f : Value} (h : B6 Z k a b c d e f) (u : Value) : B6 (Z.setCell ⟨k, 0, none⟩ u) k u b c d e f :=
 ⟨by simpa using h.lt, setS h.c0, setO (by decide) h.c1, setO (by decide) h.c2, setO (by decide) h.c3, setO (by decide) h.c4, setO (by decide) h.c5, fun j => by simpa using h.fr j⟩
theorem B6.s1 {Z : World} {k : Nat} {a b c d e f : Value} (h : B6 Z k a b c d e f) (u : Value) : B6 (Z.setCell ⟨k, 1, none⟩ u) k a u c d e f :=
 ⟨by simpa using h.lt, setO (by decide) h.c0, setS h.c1, setO (by decide) h.c2, setO (by decide) h.c3, setO (by decide) h.c4, setO (by decide) h.c5, fun j => by simpa using h.fr j⟩
theorem B6.s2 {Z : World} {k : Nat} {a b c d e f : Value} (h : B6 Z k a b c d e f) (u : Value) : B6 (Z.setCell ⟨k, 2, none⟩ u) k a b u d e f :=
 ⟨by simpa using h.lt, setO (by decide) h.c0, setO (by decide) h.c1, setS h.c2, setO (by decide) h.c3, setO (by decide) h.c4, setO (by decide) h.c5, fun j => by simpa using h.fr j⟩
theorem B6.s3 {Z : World} {k : Nat} {a b c d e f : Value} (h : B6 Z k a b c d e f) (u : Value) : B6 (Z.setCell ⟨k, 3, none⟩ u) k a b c u e f :=
 ⟨by simpa using h.lt, setO (by decide) h.c0, setO (by decide) h.c1, setO (by decide) h.c2, setS h.c3, setO (by decide) h.c4, setO (by decide) h.c5, fun j => by simpa using h.fr j⟩
theorem B6.s4 {Z : World} {k : Nat} {a b c d e f : Value} (h : B6 Z k a b c d e f) (u : Value) : B6 (Z.setCell ⟨k, 4, none⟩ u) k a b c d u f :=
 ⟨by simpa using h.lt, setO (by decide) h.c0, setO (by decide) h.c1, setO (by decide) h.c2, setO (by decide) h.c3, setS h.c4, setO (by decide) h.c5, fun j => by simpa using h.fr j⟩
theorem B6.s5 {Z : World} {k : Nat} {a b c d e f : Value} (h : B6 Z k a b c d e f) (u : Value) : B6 (Z.setCell ⟨k, 5, none⟩ u) k a b c d e u :=
 ⟨by simpa using h.lt, setO (by decide) h.c0, setO (by decide) h.c1, setO (by decide) h.c2, setO (by decide) h.c3, setO (by decide) h.c4, setS h.c5, fun j => by simpa using h.fr j⟩

/-- A task of an owned row is another one now; its needs are those that it had. -/
theorem TksOwn.put {w w' : World} {base g n c : Nat} {xs : List TV} {i : Nat} (h : TksOwn w base (.slice (some ⟨g, 0, none⟩) n c) xs) (hi : i < xs.length) (y : TV) (hg : w.grownBy w' (some g))
 (hr : w'.ownsRow base 46 6 (.slice (some ⟨g, 0, none⟩) n c) xs.length (tksV (xs.set i y))) (ha : y.2 = xs[i].2) (hn : y.1.2.1 = xs[i].1.2.1) : TksOwn w' base (.slice (some ⟨g, 0, none⟩) n c) (xs.set i y) := by
 refine ⟨by rw [List.length_set]; exact hr, fun z hz => ?_⟩
 have keep : ∀ x ∈ xs, w'.ownsRow base 2 1 (tvT x) x.1.2.1.length (intsV x.1.2.1) := fun x hx => (h.trees x hx).kept hg (own_typesR (h.trees x hx) h.row (by decide))
 obtain ⟨j, hj, rfl⟩ := List.mem_iff_getElem.1 hz
 rw [List.length_set] at hj
 rw [List.getElem_set]
 by_cases hij : i = j
 ·
  subst hij
  rw [if_pos rfl]
  have := keep _ (List.getElem_mem hi)
  unfold tvT at this ⊢
  rw [ha, hn]
  exact this
 ·
  rw [if_neg hij]
  exact keep _ (List.getElem_mem hj)
theorem apart_set {xs : List TV} {i : Nat} (hi : i < xs.length) (y : TV) (ha : y.2 = xs[i].2) (hn : y.1.2.1 = xs[i].1.2.1) (h : ApartR (xs.map tvT)) : ApartR ((xs.set i y).map tvT) := by
 have e : (xs.set i y).map tvT = xs.map tvT := by
  rw [List.map_set]
  have hy : tvT y = (xs.map tvT)[i]'(by simpa using hi) := by rw [List.getElem_map]; unfold tvT; rw [ha, hn]
  rw [hy, List.set_getElem_self]
 rw [e]; exact h
/-- A new block of one task, as 'append' reads it. -/
theorem new_tk (w : World) (x : TV) (c : Nat) : Src (w.alloc (.cells #[.string ⟨x.1.1.toArray⟩, tvT x, .int .i64 x.1.2.2.1, .int .i64 x.1.2.2.2.1, .int .i64 x.1.2.2.2.2.1, .int .i64 x.1.2.2.2.2.2] 46)) (.slice (some ⟨w.heap.size, 0, none⟩) 1 c) 1 6 (tksV [x]) := by
 refine ⟨rfl, tksV_one _, Or.inr ⟨_, c, rfl, fun j u hu => ?_⟩⟩
 rw [add_plainR, Nat.zero_add]
 match j, hu with
 | 0, hu => simp [tksV] at hu; subst hu; simp
 | 1, hu => simp [tksV] at hu; subst hu; simp
 | 2, hu => simp [tksV] at hu; subst hu; simp
 | 3, hu => simp [tksV] at hu; subst hu; simp
 | 4, hu => simp [tksV] at hu; subst hu; simp
 | 5, hu => simp [tksV] at hu; subst hu; simp
 | j + 6, hu => simp [tksV] at hu
theorem push_tk {X : World} {B : Nat} {v : Value} {xs : List TV} (h : TksOwn X B v xs) (x : TV) (ht : X.ownsRow B 2 1 (tvT x) x.1.2.1.length (intsV x.1.2.1)) (hb : B ≤ X.heap.size) (hn : xs.length ≤ 1048576) :
 ∃ v' Y, (Builtin.append_ #[24, 24] 24 #[v, .slice (some ⟨X.heap.size, 0, none⟩) 1 1]).run Try.prog (X.alloc (.cells #[.string ⟨x.1.1.toArray⟩, tvT x, .int .i64 x.1.2.2.1, .int .i64 x.1.2.2.2.1, .int .i64 x.1.2.2.2.2.1, .int .i64 x.1.2.2.2.2.2] 46)) = .ok v' Y ∧ TksOwn Y B v' (xs ++ [x]) ∧ X.grownBy Y v.ownBlock := by
 obtain ⟨i0, hi, hz0, hz1, hz2⟩ := info_parts infoTask
 obtain ⟨O, hO⟩ : ∃ O, Obj.cells #[.string ⟨x.1.1.toArray⟩, tvT x, .int .i64 x.1.2.2.1, .int .i64 x.1.2.2.2.1, .int .i64 x.1.2.2.2.2.1, .int .i64 x.1.2.2.2.2.2] 46 = O := ⟨_, rfl⟩
 have hs := new_tk X x 1
 rw [hO] at hs ⊢
 obtain ⟨v', Y, hrun, hown, hg, _⟩ := run_append_src (P := Try.prog) (X.alloc O) B 24 24 46 i0 _ 6 72 Try.underlying24 hi hz0 hz1 hz2 rfl (by decide) _ _ _ (h.row.alloc _) _ 1 (tksV [x]) hs (by unfold maxLen; omega) (by omega) (by simp; omega)
 refine ⟨v', Y, hrun, ⟨?_, fun z hz => ?_⟩, (World.grownBy_alloc X _ _).trans hg⟩
 ·
  rw [tksV_append, List.length_append]
  exact hown
 ·
  have hrow := h.row.alloc O
  rcases List.mem_append.1 hz with h1 | h1
  ·
   have h2 := (h.trees z h1).alloc O
   exact h2.kept hg (own_typesR h2 hrow (by decide))
  ·
   rw [List.mem_singleton.1 h1]
   have h2 := ht.alloc O
   exact h2.kept hg (own_typesR h2 hrow (by decide))
/-- A row that lies ahead of a place does not lie in a block behind it. -/
theorem own_under {w : World} {base e size n R : Nat} {v : Value} {xs : List Value} (h : w.ownsRow base e size v n xs) (hR : w.heap.size ≤ R) : v.ownBlock = none ∨ v.ownBlock ≠ some R := by
 rcases hv : v.ownBlock with _ | k
 ·
  exact Or.inl rfl
 ·
  refine Or.inr (fun e => ?_)
  have := (h.lt k hv).2
  injection e with e
  omega
/-- The result of a call that hands a desk out: where its row lies. -/
theorem own_deskV {w : World} {base : Nat} {v : Value} {xs : List TV} (h : TksOwn w base v xs) : ∃ a c, v = .slice a xs.length c := by
 obtain ⟨a, c, e, _⟩ := h.ok
 exact ⟨a, c, e⟩

end Go.Proofs.Ytaioedcaopbgkaa
