/-
  Parts of one proof, one behind the other: RtU, TkO, TkL.
-/
import Derived.Test.YtglhbcbilepomaaDoorP8
import Derived.Test.YtglhbcbilepomaaDoorP2
import Derived.Test.YtglhbcbilepomaaDoorP6
import Derived.Deep.RegionHeld3

/-! What the writing of several blocks leaves; rows that lie apart; blocks of three cells. -/
namespace Go.Proofs.YtglhbcbilepomaaDoor
open Go.RowKit

/-- Of what was there nothing but the blocks of S was written. -/
structure WroteR (w w' : World) (S : Nat → Prop) : Prop where
  os : w'.os = w.os
  tape : w'.tape = w.tape
  output : w'.output = w.output
  size : w.heap.size ≤ w'.heap.size
  block : ∀ k, k < w.heap.size → ¬ S k → w'.heap[k]? = w.heap[k]?

theorem WroteR.refl (w : World) (S : Nat → Prop) : WroteR w w S := ⟨rfl, rfl, rfl, Nat.le_refl _, fun _ _ _ => rfl⟩
theorem WroteR.trans {a b c : World} {S : Nat → Prop} (h : WroteR a b S) (k : WroteR b c S) : WroteR a c S :=
  ⟨k.os.trans h.os, k.tape.trans h.tape, k.output.trans h.output, Nat.le_trans h.size k.size, fun i hi hs => (k.block i (Nat.lt_of_lt_of_le hi h.size) hs).trans (h.block i hi hs)⟩
theorem WroteR.mono {w w' : World} {S T : Nat → Prop} (h : WroteR w w' S) (hs : ∀ k, S k → T k) : WroteR w w' T := ⟨h.os, h.tape, h.output, h.size, fun k hk hn => h.block k hk (fun e => hn (hs k e))⟩
theorem WroteR.of_grown {w w' : World} {row : Option Nat} {S : Nat → Prop} (h : w.grownBy w' row) (hs : ∀ k, row = some k → S k) : WroteR w w' S :=
  ⟨h.os, h.tape, h.output, h.size, fun k hk hn => h.block k hk (fun e => hn (hs k e.symm))⟩
theorem WroteR.of_below {w w' : World} {S : Nat → Prop} (h : Below w.heap.size w w') : WroteR w w' S := ⟨h.os, h.tape, h.output, h.size, fun k hk _ => h.block k hk⟩
theorem WroteR.below {w w' : World} {S : Nat → Prop} {B : Nat} (h : WroteR w w' S) (hB : B ≤ w.heap.size) (hs : ∀ k, S k → B ≤ k) : Below B w w' :=
  ⟨h.os, h.tape, h.output, h.size, fun k hk => h.block k (Nat.lt_of_lt_of_le hk hB) (fun e => by have := hs k e; omega)⟩
theorem own_wroteR {w w' : World} {base e size n : Nat} {v : Value} {xs : List Value} {S : Nat → Prop} (h : w.ownsRow base e size v n xs) (hw : WroteR w w' S) (hv : ∀ k, v.ownBlock = some k → ¬ S k) : w'.ownsRow base e size v n xs := by
  refine ⟨h.1, ?_⟩
  rcases h.2 with hn | ⟨g, cap, cur, rfl, hb, hgg, rest⟩
  · exact .inl hn
  · refine .inr ⟨g, cap, cur, rfl, hb, ?_, rest⟩
    rw [hw.block g (Array.getElem?_eq_some_iff.1 hgg).1 (hv g rfl)]
    exact hgg

/-- The trees lie apart, one by one. -/
def ApartR (vs : List Value) : Prop := vs.Pairwise (fun a b => a.ownBlock = none ∨ a.ownBlock ≠ b.ownBlock)
theorem ApartR.ne {vs : List Value} (h : ApartR vs) {i j : Nat} (hi : i < vs.length) (hj : j < vs.length) (hij : i ≠ j) : vs[i].ownBlock = none ∨ vs[i].ownBlock ≠ vs[j].ownBlock := by
  rcases Nat.lt_or_gt_of_ne hij with hl | hl
  · exact List.pairwise_iff_getElem.1 h i j hi hj hl
  · rcases List.pairwise_iff_getElem.1 h j i hj hi hl with e | e
    · rw [e]; cases vs[i].ownBlock <;> simp
    · exact Or.inr (fun e2 => e e2.symm)

theorem ApartR.nil : ApartR [] := List.Pairwise.nil
theorem ApartR.snoc {vs : List Value} {u : Value} (h : ApartR vs) (hu : ∀ v ∈ vs, v.ownBlock = none ∨ v.ownBlock ≠ u.ownBlock) : ApartR (vs ++ [u]) :=
  List.pairwise_append.2 ⟨h, List.pairwise_singleton _ _, fun a ha b hb => by rw [List.mem_singleton] at hb; subst hb; exact hu a ha⟩
/-- A row that lies ahead of a place, and one that lies behind it. -/
theorem own_aheadR {w w' : World} {b1 b2 e1 e2 s1 s2 n1 n2 : Nat} {v1 v2 : Value} {xs ys : List Value} (h1 : w.ownsRow b1 e1 s1 v1 n1 xs) (h2 : w'.ownsRow b2 e2 s2 v2 n2 ys) (hb : w.heap.size ≤ b2) : v1.ownBlock = none ∨ v1.ownBlock ≠ v2.ownBlock := by
  cases hv : v1.ownBlock with
  | none => exact Or.inl rfl
  | some k =>
    refine Or.inr (fun e => ?_)
    have l1 := (h1.lt k hv).2
    have l2 := (h2.lt k e.symm).1
    omega

theorem cell_alwR {w : World} {a : Addr} {v : Value} (o : Obj) (h : w.cell? a = some v) : (w.alloc o).cell? a = some v :=
  (World.cell?_of_block (Below.heap_alloc _ _ _ (World.block_lt_of_cell? w a h))).trans h

/-- Three cells of a block are written. -/
theorem set3R {X : World} {R : Nat} {a0 a1 a2 : Value} (u0 u1 u2 : Value) (r0 : X.cell? ⟨R, 0, none⟩ = some a0) (r1 : X.cell? ⟨R, 1, none⟩ = some a1) (r2 : X.cell? ⟨R, 2, none⟩ = some a2) :
    ∃ Y, ((X.setCell ⟨R, 0, none⟩ u0).setCell ⟨R, 1, none⟩ u1).setCell ⟨R, 2, none⟩ u2 = Y ∧ Y.cell? ⟨R, 0, none⟩ = some u0 ∧ Y.cell? ⟨R, 1, none⟩ = some u1 ∧ Y.cell? ⟨R, 2, none⟩ = some u2 ∧ X.grownBy Y (some R) := by
  refine ⟨_, rfl, ?_, ?_, ?_, ?_⟩
  · exact (World.cell?_setCell_other _ _ _ _ (by simp)).trans ((World.cell?_setCell_other _ _ _ _ (by simp)).trans (World.cell?_setCell_same _ _ _ r0))
  · exact (World.cell?_setCell_other _ _ _ _ (by simp)).trans (World.cell?_setCell_same _ _ _ ((World.cell?_setCell_other _ _ _ _ (by simp)).trans r1))
  · exact World.cell?_setCell_same _ _ _ ((World.cell?_setCell_other _ _ _ _ (by simp)).trans ((World.cell?_setCell_other _ _ _ _ (by simp)).trans r2))
  · exact ((grown_set _ _ _ _).trans (grown_set _ _ _ _)).trans (grown_set _ _ _ _)

/-- The cells of a block of threeR that lies as it was made. -/
theorem threeR {X W : World} {R : Nat} {u0 u1 u2 : Value} {T : TypeId} (hX : Below W.heap.size W X) (hlt : R < W.heap.size) (hR : W.heap[R]? = some (.cells #[u0, u1, u2] T)) :
    X.cell? ⟨R, 0, none⟩ = some u0 ∧ X.cell? ⟨R, 1, none⟩ = some u1 ∧ X.cell? ⟨R, 2, none⟩ = some u2 ∧ ∀ j, X.frozen? ⟨R, j, none⟩ = false := by
  have e := (hX.block R hlt).trans hR
  clear hX hR
  exact ⟨by simp [World.cell?, e], by simp [World.cell?, e], by simp [World.cell?, e], fun j => by simp [World.frozen?, e]⟩

/-- A row that is owned above a block does not lie in it. -/
theorem own_offR {w : World} {base e size n R : Nat} {v : Value} {xs : List Value} (h : w.ownsRow base e size v n xs) (hR : R < base) : v.ownBlock = none ∨ v.ownBlock ≠ some R := by
  rcases hv : v.ownBlock with _ | k
  · exact Or.inl rfl
  · refine Or.inr (fun e => ?_)
    have := (h.lt k hv).1
    injection e with e
    omega

/-- Rows of elements of two types lie in two blocks. -/
theorem own_typesR {w : World} {b1 b2 e1 e2 s1 s2 n1 n2 : Nat} {v1 v2 : Value} {xs ys : List Value} (h1 : w.ownsRow b1 e1 s1 v1 n1 xs) (h2 : w.ownsRow b2 e2 s2 v2 n2 ys) (he : e1 ≠ e2) : v1.ownBlock = none ∨ v1.ownBlock ≠ v2.ownBlock := by
  rcases h1.2 with ⟨rfl, _⟩ | ⟨g, c, cur, rfl, _, hg, _⟩
  · exact Or.inl rfl
  · rcases h2.2 with ⟨rfl, _⟩ | ⟨g2, c2, cur2, rfl, _, hg2, _⟩
    · exact Or.inr (by simp [Value.ownBlock])
    · refine Or.inr (fun e => ?_)
      simp only [Value.ownBlock, Option.some.injEq] at e
      subst e
      rw [hg] at hg2
      simp only [Option.some.injEq, Obj.cells.injEq] at hg2
      exact he hg2.2.1

theorem add_plainR (b off i : Nat) : (⟨b, off, none⟩ : Addr).add i = ⟨b, off + i, none⟩ := by unfold Addr.add; split <;> simp_all

end Go.Proofs.YtglhbcbilepomaaDoor

/-! Tasks that a call has made: each with its needs in a row of its own. -/
namespace Go.Proofs.YtglhbcbilepomaaDoor
open Go.RowKit

/-- A task, and where its needs lie. -/
abbrev TV := Ta × Option Addr × Nat
def tvT (x : TV) : Value := .slice x.2.1 x.1.2.1.length x.2.2
def tkV (x : TV) : List Value := [.string ⟨x.1.1.toArray⟩, tvT x, .int .i64 x.1.2.2.1, .int .i64 x.1.2.2.2.1, .int .i64 x.1.2.2.2.2.1, .int .i64 x.1.2.2.2.2.2]
def tksV : List TV → List Value
  | [] => []
  | x :: r => .string ⟨x.1.1.toArray⟩ :: tvT x :: .int .i64 x.1.2.2.1 :: .int .i64 x.1.2.2.2.1 :: .int .i64 x.1.2.2.2.2.1 :: .int .i64 x.1.2.2.2.2.2 :: tksV r
def tv0 : TV := (ta0, none, 0)

theorem tksV_len (xs : List TV) : (tksV xs).length = xs.length * 6 := by
  induction xs with
  | nil => rfl
  | cons n r ih => simp only [tksV, List.length_cons, ih]; omega
theorem tksV_append (x y : List TV) : tksV (x ++ y) = tksV x ++ tksV y := by
  induction x with
  | nil => rfl
  | cons n r ih => simp [tksV, ih]
theorem tksV_one (xs : List TV) : ∀ u ∈ tksV xs, u.oneCell' = true := by
  induction xs with
  | nil => intro u hu; cases hu
  | cons n r ih =>
    intro u hu
    simp only [tksV, List.mem_cons] at hu
    rcases hu with rfl | rfl | rfl | rfl | rfl | rfl | h
    · rfl
    · rfl
    · rfl
    · rfl
    · rfl
    · rfl
    · exact ih u h
theorem tksV_at (xs : List TV) (j : Nat) (hj : j < xs.length) : (tksV xs)[j * 6]? = some (.string ⟨(xs.getD j tv0).1.1.toArray⟩) ∧ (tksV xs)[j * 6 + 1]? = some (tvT (xs.getD j tv0)) ∧ (tksV xs)[j * 6 + 2]? = some (.int .i64 (xs.getD j tv0).1.2.2.1) ∧ (tksV xs)[j * 6 + 3]? = some (.int .i64 (xs.getD j tv0).1.2.2.2.1) ∧ (tksV xs)[j * 6 + 4]? = some (.int .i64 (xs.getD j tv0).1.2.2.2.2.1) ∧ (tksV xs)[j * 6 + 5]? = some (.int .i64 (xs.getD j tv0).1.2.2.2.2.2) := by
  induction xs generalizing j with
  | nil => simp at hj
  | cons n r ih =>
    cases j with
    | zero => simp [tksV]
    | succ j =>
      obtain ⟨h0, h1, h2, h3, h4, h5⟩ := ih j (by simpa using hj)
      have e : ∀ i, (j + 1) * 6 + i = (j * 6 + i) + 1 + 1 + 1 + 1 + 1 + 1 := fun i => by omega
      refine ⟨?_, ?_, ?_, ?_, ?_, ?_⟩
      · have := e 0; rw [Nat.add_zero, Nat.add_zero] at this; rw [this]; simpa [tksV] using h0
      · rw [e 1]; simpa [tksV] using h1
      · rw [e 2]; simpa [tksV] using h2
      · rw [e 3]; simpa [tksV] using h3
      · rw [e 4]; simpa [tksV] using h4
      · rw [e 5]; simpa [tksV] using h5
theorem tksV_set (xs : List TV) (j : Nat) (y : TV) : ((((((tksV xs).set (j * 6) (.string ⟨y.1.1.toArray⟩)).set (j * 6 + 1) (tvT y)).set (j * 6 + 2) (.int .i64 y.1.2.2.1)).set (j * 6 + 3) (.int .i64 y.1.2.2.2.1)).set (j * 6 + 4) (.int .i64 y.1.2.2.2.2.1)).set (j * 6 + 5) (.int .i64 y.1.2.2.2.2.2) = tksV (xs.set j y) := by
  induction xs generalizing j with
  | nil => simp [tksV]
  | cons b r ih =>
    cases j with
    | zero => simp [tksV]
    | succ j => rw [show (j + 1) * 6 = j * 6 + 1 + 1 + 1 + 1 + 1 + 1 by omega]; simp [tksV, ih]

structure TksOwn (w : World) (base : Nat) (v : Value) (xs : List TV) : Prop where
  row : w.ownsRow base 52 6 v xs.length (tksV xs)
  trees : ∀ x ∈ xs, w.ownsRow base 2 1 (tvT x) x.1.2.1.length (intsV x.1.2.1)
theorem TksOwn.below {w w' : World} {base : Nat} {v : Value} {xs : List TV} (h : TksOwn w base v xs) (hb : Below w.heap.size w w') : TksOwn w' base v xs := ⟨own_below h.row hb, fun x hx => own_below (h.trees x hx) hb⟩
theorem TksOwn.kept {w w' : World} {base : Nat} {v : Value} {xs : List TV} {row : Option Nat} (h : TksOwn w base v xs) (hg : w.grownBy w' row) (h1 : v.ownBlock = none ∨ v.ownBlock ≠ row) (h2 : ∀ x ∈ xs, (tvT x).ownBlock = none ∨ (tvT x).ownBlock ≠ row) : TksOwn w' base v xs :=
  ⟨h.row.kept hg h1, fun x hx => (h.trees x hx).kept hg (h2 x hx)⟩
theorem TksOwn.base {w : World} {base b2 : Nat} {v : Value} {xs : List TV} (h : TksOwn w base v xs) (hb : b2 ≤ base) : TksOwn w b2 v xs := ⟨own_base h.row hb, fun x hx => own_base (h.trees x hx) hb⟩
theorem TksOwn.nil (w : World) (base : Nat) : TksOwn w base (.slice none 0 0) [] := ⟨World.ownsRow_nil w _ _ _, fun x hx => by cases hx⟩
theorem TksOwn.still {w w' : World} {base : Nat} {v : Value} {xs : List TV} (h : TksOwn w base v xs) (hg : w.grownBy w' none) : TksOwn w' base v xs :=
  h.kept hg (by cases hv : v.ownBlock with | none => exact Or.inl rfl | some k => exact Or.inr (by simp)) (fun x _ => by cases hv : (tvT x).ownBlock with | none => exact Or.inl rfl | some k => exact Or.inr (by simp))
theorem getD_map_tk (xs : List TV) (j : Nat) : (xs.map (·.1)).getD j ta0 = (xs.getD j tv0).1 := by
  rw [List.getD_eq_getElem?_getD, List.getD_eq_getElem?_getD, List.getElem?_map]
  cases xs[j]? <;> rfl
/-- Numbers that are owned can be read. -/
theorem own_as {w : World} {B n c : Nat} {a : Option Addr} {xs : List Int} (h : w.ownsRow B 2 1 (.slice a n c) n (intsV xs)) (hn : xs.length = n) : AsIn w a xs ∧ (a = none → c = 0) ∧ n ≤ c := by
  rcases h.2 with ⟨h', h0, _⟩ | ⟨g, cp, cur, h', _, _, hnc, _⟩
  · simp only [Value.slice.injEq] at h'
    obtain ⟨rfl, _, rfl⟩ := h'
    exact ⟨fun j hj => absurd hj (by omega), fun _ => rfl, Nat.le_refl _⟩
  · injection h' with h1 h2 h3
    subst h1 h3
    exact ⟨nums_as h hn, (fun e => by cases e), hnc⟩

/-- What the landed functions are told of tasks: a row that is nil has no room. -/
def TasksOk (w : World) (a : Option Addr) (len cap : Nat) (ts : List Ta) : Prop :=
  ts.length = len ∧ (a = none → cap = 0) ∧ ∀ j, j < len → ∃ b off, a = some ⟨b, off, none⟩ ∧ b < w.heap.size ∧ w.cell? ⟨b, off + j * 6, none⟩ = some (.string ⟨(ts.getD j ta0).1.toArray⟩) ∧
    (∃ na nc, w.cell? ⟨b, off + j * 6 + 1, none⟩ = some (.slice na (ts.getD j ta0).2.1.length nc) ∧ AsIn w na (ts.getD j ta0).2.1 ∧ (na = none → nc = 0)) ∧
    w.cell? ⟨b, off + j * 6 + 2, none⟩ = some (.int .i64 (ts.getD j ta0).2.2.1) ∧ w.cell? ⟨b, off + j * 6 + 3, none⟩ = some (.int .i64 (ts.getD j ta0).2.2.2.1) ∧
    w.cell? ⟨b, off + j * 6 + 4, none⟩ = some (.int .i64 (ts.getD j ta0).2.2.2.2.1) ∧ w.cell? ⟨b, off + j * 6 + 5, none⟩ = some (.int .i64 (ts.getD j ta0).2.2.2.2.2)
theorem TasksOk.in {w : World} {a : Option Addr} {len cap : Nat} {ts : List Ta} (h : TasksOk w a len cap ts) : TasksIn w a len ts := by
  refine ⟨h.1, fun j hj => ?_⟩
  obtain ⟨b, off, e, hlt, c0, ⟨na, nc, c1, hn, _⟩, c2, c3, c4, c5⟩ := h.2.2 j hj
  exact ⟨b, off, e, hlt, c0, ⟨na, nc, c1, hn⟩, c2, c3, c4, c5⟩
theorem TasksOk.below {w w' : World} {a : Option Addr} {len cap : Nat} {ts : List Ta} (h : TasksOk w a len cap ts) (hb : Below w.heap.size w w') : TasksOk w' a len cap ts := by
  refine ⟨h.1, h.2.1, fun j hj => ?_⟩
  obtain ⟨b, off, e, hlt, c0, ⟨na, nc, c1, hn, hz⟩, c2, c3, c4, c5⟩ := h.2.2 j hj
  exact ⟨b, off, e, Nat.lt_of_lt_of_le hlt hb.size, (hb.cell (p := ⟨b, off + j * 6, none⟩) hlt).trans c0, ⟨na, nc, (hb.cell (p := ⟨b, off + j * 6 + 1, none⟩) hlt).trans c1, hn.below hb, hz⟩,
    (hb.cell (p := ⟨b, off + j * 6 + 2, none⟩) hlt).trans c2, (hb.cell (p := ⟨b, off + j * 6 + 3, none⟩) hlt).trans c3, (hb.cell (p := ⟨b, off + j * 6 + 4, none⟩) hlt).trans c4, (hb.cell (p := ⟨b, off + j * 6 + 5, none⟩) hlt).trans c5⟩
/-- What is owned can be read. -/
theorem TksOwn.ok {w : World} {base : Nat} {v : Value} {xs : List TV} (h : TksOwn w base v xs) : ∃ a cap, v = .slice a xs.length cap ∧ TasksOk w a xs.length cap (xs.map (·.1)) := by
  rcases own_forms h.row with ⟨rfl, h0, _⟩ | ⟨g, cp, rfl⟩
  · exact ⟨none, 0, by rw [h0], by simp, fun _ => rfl, fun j hj => by omega⟩
  · refine ⟨some ⟨g, 0, none⟩, cp, rfl, by simp, (fun e => by cases e), fun j hj => ?_⟩
    obtain ⟨v0, v1, v2, v3, v4, v5⟩ := tksV_at xs j hj
    have hc := fun k (hk : k < xs.length * 6) => World.ownsRow.cellAt h.row k hk
    have hmem : xs.getD j tv0 ∈ xs := by rw [List.getD_eq_getElem?_getD, List.getElem?_eq_getElem hj]; exact List.getElem_mem hj
    obtain ⟨hi, hz, _⟩ := own_as (h.trees _ hmem) rfl
    rw [getD_map_tk]
    refine ⟨g, 0, rfl, (h.row.lt g rfl).2, ?_, ⟨(xs.getD j tv0).2.1, (xs.getD j tv0).2.2, ?_, hi, hz⟩, ?_, ?_, ?_, ?_⟩
    · rw [Nat.zero_add, hc _ (by omega), v0]
    · rw [Nat.zero_add, hc _ (by omega), v1]; rfl
    · rw [Nat.zero_add, hc _ (by omega), v2]
    · rw [Nat.zero_add, hc _ (by omega), v3]
    · rw [Nat.zero_add, hc _ (by omega), v4]
    · rw [Nat.zero_add, hc _ (by omega), v5]

theorem infoTask : (Tryd.prog.info? 52).map (fun i => (i.zero, i.size, i.bytes)) = some (some (.agg #[.string ⟨#[]⟩, .slice none 0 0, .int .i64 0, .int .i64 0, .int .i64 0, .int .i64 0]), 6, 72) := by kernel_rfl
theorem made_tks (n : Nat) : (madeCells (Value.agg #[.string ⟨#[]⟩, .slice none 0 0, .int .i64 0, .int .i64 0, .int .i64 0, .int .i64 0]).cells (n * 6)).toList = tksV (List.replicate n tv0) := by
  have hc : (Value.agg #[.string ⟨#[]⟩, .slice none 0 0, .int .i64 0, .int .i64 0, .int .i64 0, .int .i64 0]).cells = #[.string ⟨#[]⟩, .slice none 0 0, .int .i64 0, .int .i64 0, .int .i64 0, .int .i64 0] := rfl
  rw [hc]
  apply List.ext_getElem?
  intro j
  by_cases hj : j < n * 6
  · obtain ⟨v0, v1, v2, v3, v4, v5⟩ := tksV_at (List.replicate n tv0) (j / 6) (by simp; omega)
    have hg : (List.replicate n tv0).getD (j / 6) tv0 = tv0 := by simp [List.getD, List.getElem?_replicate]; split <;> rfl
    rw [hg] at v0 v1 v2 v3 v4 v5
    have h6 : j % 6 = 0 ∨ j % 6 = 1 ∨ j % 6 = 2 ∨ j % 6 = 3 ∨ j % 6 = 4 ∨ j % 6 = 5 := by omega
    rcases h6 with h' | h' | h' | h' | h' | h'
    · have ej : j = j / 6 * 6 := by omega
      rw [← ej] at v0
      rw [v0]
      simp [madeCells, hj, h', tv0, ta0]
    · have ej : j = j / 6 * 6 + 1 := by omega
      rw [← ej] at v1
      rw [v1]
      simp [madeCells, hj, h', tv0, ta0, tvT]
    · have ej : j = j / 6 * 6 + 2 := by omega
      rw [← ej] at v2
      rw [v2]
      simp [madeCells, hj, h', tv0, ta0]
    · have ej : j = j / 6 * 6 + 3 := by omega
      rw [← ej] at v3
      rw [v3]
      simp [madeCells, hj, h', tv0, ta0]
    · have ej : j = j / 6 * 6 + 4 := by omega
      rw [← ej] at v4
      rw [v4]
      simp [madeCells, hj, h', tv0, ta0]
    · have ej : j = j / 6 * 6 + 5 := by omega
      rw [← ej] at v5
      rw [v5]
      simp [madeCells, hj, h', tv0, ta0]
  · rw [List.getElem?_eq_none (by simp [madeCells]; omega), List.getElem?_eq_none (by rw [tksV_len]; simp; omega)]
theorem fill_tk (ys : List TV) (len k : Nat) (y : TV) (hy : ys.length = k) (hk : k < len) : (ys ++ List.replicate (len - k) tv0).set k y = (ys ++ [y]) ++ List.replicate (len - (k + 1)) tv0 := by
  rw [List.set_append_right _ _ (by omega), hy, Nat.sub_self, show len - k = (len - (k + 1)) + 1 by omega, List.replicate_succ, List.set_cons_zero, List.append_assoc]
  rfl

end Go.Proofs.YtglhbcbilepomaaDoor

/-! The laws' own helpers over tasks: szInt64S, szTask, szTaskS, szDesk; eqInt64S at numbers that can be read, eqTask, eqTaskS, eqDesk. -/
namespace Go.Proofs.YtglhbcbilepomaaDoor
open Go.RowKit

def szD (m : Nat) (left : Int) : Int := if (m : Int) ≤ left then left - (m : Int) else -1
theorem szD_yes {m : Nat} {left : Int} (h : (m : Int) ≤ left) : szD m left = left - (m : Int) := by unfold szD; rw [if_pos h]
theorem szD_no {m : Nat} {left : Int} (h : ¬ (m : Int) ≤ left) : szD m left = -1 := by unfold szD; rw [if_neg h]
def taSz (t : Ta) : Nat := t.1.length + t.2.1.length
def tasSz : List Ta → Nat
  | [] => 0
  | f :: r => taSz f + tasSz r
theorem tasSz_append (x y : List Ta) : tasSz (x ++ y) = tasSz x + tasSz y := by
  induction x with
  | nil => simp [tasSz]
  | cons n r ih => simp only [List.cons_append, tasSz, ih]; omega
theorem tasSz_snoc (fs : List Ta) (k : Nat) (hk : k < fs.length) : tasSz (fs.take (k + 1)) = tasSz (fs.take k) + taSz (fs.getD k ta0) := by
  have hg : fs.getD k ta0 = fs[k] := by simp [List.getD, hk]
  rw [hg, List.take_succ_eq_append_getElem hk, tasSz_append]
  simp [tasSz]
theorem tasSz_take (fs : List Ta) (k : Nat) : tasSz (fs.take k) ≤ tasSz fs := by
  have := tasSz_append (fs.take k) (fs.drop k)
  rw [List.take_append_drop] at this
  omega
theorem tasSz_at (fs : List Ta) (j : Nat) : taSz (fs.getD j ta0) ≤ tasSz fs := by
  by_cases hj : j < fs.length
  · have h1 := tasSz_snoc fs j hj
    have h2 := tasSz_take fs (j + 1)
    omega
  · have : fs.getD j ta0 = ta0 := by rw [List.getD, List.getElem?_eq_none (by omega)]; rfl
    rw [this]; simp [ta0, taSz]
theorem tasSz_mem (fs : List Ta) (t : Ta) (h : t ∈ fs) : taSz t ≤ tasSz fs := by
  obtain ⟨j, hj, rfl⟩ := List.mem_iff_getElem.1 h
  have := tasSz_at fs j
  rw [show fs.getD j ta0 = fs[j] by simp [List.getD, hj]] at this
  exact this
def LongTa (fs : List Ta) : Prop := ∀ j, (fs.getD j ta0).1.length ≤ maxLen ∧ (fs.getD j ta0).2.1.length ≤ maxLen
theorem short_ta {fs : List Ta} (h : tasSz fs ≤ 1048576) : ShortTa fs := fun j => by
  have h1 := tasSz_at fs j
  unfold taSz at h1
  exact ⟨by omega, by omega⟩

set_option maxHeartbeats 1000000 in
set_option maxRecDepth 100000 in
theorem szInt64C (a : Option Addr) (n c : Nat) (left : Int) (w : World) (h0 : 0 ≤ left) (h1 : left ≤ 1048576) (hn : n ≤ maxLen) :
    Calls Tryd.prog 51 #[.slice a n c, .int .i64 left] w fun e w' => e = .returned (.int .i64 (szD n left)) ∧ w' = w := by
  unfold maxLen at hn
  have hn2 : (n : Int) ≤ 9223372036854775807 := by omega
  by_cases hfit : (n : Int) ≤ left
  · have HZ : Hid (szD n left = left - (n : Int)) := szD_yes hfit
    have hge : 0 ≤ left - (n : Int) := by omega
    go_enter Tryd.func51, Tryd.ntmps51
    go_wp2
    go_ret
    exact ⟨by rw [HZ.out]; rfl, rfl⟩
  · have HZ : Hid (szD n left = -1) := szD_no hfit
    have hge : left - (n : Int) < 0 := by omega
    go_enter Tryd.func51, Tryd.ntmps51
    go_wp2
    go_ret
    exact ⟨by rw [HZ.out]; rfl, rfl⟩

set_option maxHeartbeats 1000000 in
set_option maxRecDepth 100000 in
theorem szTaskC (s : List UInt8) (na : Option Addr) (nl nc : Nat) (st wk un ke : Int) (left : Int) (w : World) (h0 : 0 ≤ left) (h1 : left ≤ 1048576) (hs : s.length ≤ maxLen) (hn : nl ≤ maxLen) :
    Calls Tryd.prog 23 #[.agg #[.string ⟨s.toArray⟩, .slice na nl nc, .int .i64 st, .int .i64 wk, .int .i64 un, .int .i64 ke], .int .i64 left] w fun e w' => e = .returned (.int .i64 (szD (s.length + nl) left)) ∧ Below w.heap.size w w' := by
  unfold maxLen at hs
  have hs2 : (s.length : Int) ≤ 9223372036854775807 := by omega
  have HB : Hid (Below w.heap.size w (w.alloc (.cells #[.string ⟨s.toArray⟩, .slice na nl nc, .int .i64 st, .int .i64 wk, .int .i64 un, .int .i64 ke] 48))) := (Below.refl _ _).alloc (Nat.le_refl _) _
  by_cases hfit : (s.length : Int) ≤ left
  · have hge2 : 0 ≤ left - (s.length : Int) := by omega
    have HC : Hid (∀ W, _) := fun W => szInt64C na nl nc (left - (s.length : Int)) W hge2 (by omega) hn
    have hz : szD nl (left - (s.length : Int)) = szD (s.length + nl) left := by
      unfold szD
      split
      · rw [if_pos (by omega)]; omega
      · rw [if_neg (by omega)]
    have hz2 : szD (s.length + nl) left = -1 ∨ 0 ≤ szD (s.length + nl) left := by
      unfold szD
      split
      · right; omega
      · left; rfl
    rw [hz] at HC
    generalize szD (s.length + nl) left = z at HC hz2 ⊢
    clear hz hn
    rcases hz2 with rfl | hz2
    · go_enter Tryd.func23, Tryd.ntmps23
      go_wp2_with fail
      refine Calls.mono (HC.out _) ?_
      rintro e w1 ⟨rfl, rfl⟩
      go_wp2
      go_ret
      exact ⟨rfl, HB.out⟩
    · go_enter Tryd.func23, Tryd.ntmps23
      go_wp2_with fail
      refine Calls.mono (HC.out _) ?_
      rintro e w1 ⟨rfl, rfl⟩
      go_wp2
      go_ret
      exact ⟨rfl, HB.out⟩
  · have HR : Hid (szD (s.length + nl) left = -1) := szD_no (by omega)
    have hlt : left - (s.length : Int) < 0 := by omega
    go_enter Tryd.func23, Tryd.ntmps23
    go_wp2
    go_ret
    exact ⟨by rw [HR.out]; rfl, HB.out⟩

set_option maxHeartbeats 2000000 in
set_option maxRecDepth 100000 in
theorem szTaskSC (a : Option Addr) (len cap : Nat) (fs : List Ta) (left : Int) (w : World) (hin : TasksIn w a len fs) (h0 : 0 ≤ left) (h1 : left ≤ 1048576) (hl : len ≤ maxLen) (hm : LongTa fs) :
    Calls Tryd.prog 11 #[.slice a len cap, .int .i64 left] w fun e w' => e = .returned (.int .i64 (szD (len + tasSz fs) left)) ∧ Below w.heap.size w w' := by
  unfold maxLen at hl
  have hl2 : (len : Int) ≤ 9223372036854775807 := by omega
  have hlb := hin.1
  by_cases h : (len : Int) ≤ left
  · have hlen : len ≤ 1048576 := by omega
    have HI : Hid (TasksIn w a len fs) := hin
    have HM : Hid (LongTa fs) := hm
    clear hin hm
    go_enter Tryd.func11, Tryd.ntmps11
    go_wp2
    go_loopw [1, 5] (fun l i wr => ∃ k : Nat, k ≤ len ∧ i = .int .i64 k ∧ l = .int .i64 (left - (len : Int) - (tasSz (fs.take k) : Int)) ∧ (tasSz (fs.take k) : Int) ≤ left - (len : Int) ∧ Below w.heap.size w wr) (fun _ i _ => len - (intOf i).toNat)
    case atStart => exact ⟨0, Nat.zero_le _, rfl, by simp [tasSz], by simp [tasSz]; omega, Below.refl _ _⟩
    case round =>
      obtain ⟨k, hk, rfl, rfl, hle, hB⟩ := hrel
      by_cases hkl : (k : Int) < (len : Int)
      · obtain ⟨b, off, rfl, hbl, c0, ⟨na, nc, c1, hn⟩, c2, c3, c4, c5⟩ := (HI.out.below hB).2 k (by omega)
        have hmk := HM.out k
        have hst := tasSz_snoc fs k (by omega)
        have htt := tasSz_take fs (k + 1)
        obtain ⟨f, hf⟩ : ∃ f, fs.getD k ta0 = f := ⟨_, rfl⟩
        rw [hf] at c0 c1 c2 c3 c4 c5 hmk hst hn
        obtain ⟨s, ns, st, wk, un, ke⟩ := f
        simp only at c0 c1 c2 c3 c4 c5 hmk hn
        obtain ⟨nl, hnl⟩ : ∃ n, ns.length = n := ⟨_, rfl⟩
        obtain ⟨m, hmm⟩ : ∃ m, tasSz (fs.take k) = m := ⟨_, rfl⟩
        rw [hmm] at hle hst ⊢
        unfold taSz at hst
        simp only at hst
        rw [hnl] at c1 hmk hst
        have HC : Hid (∀ W, _) := fun W => szTaskC s na nl nc st wk un ke (left - (len : Int) - (m : Int)) W (by omega) (by omega) hmk.1 hmk.2
        obtain ⟨z, hz⟩ : ∃ z, s.length + nl = z := ⟨_, rfl⟩
        rw [hz] at hst HC
        have HS : Hid (tasSz (fs.take (k + 1)) = m + z) := hst
        clear hst hf hmm hz hn hnl hmk
        by_cases hfit : (z : Int) ≤ left - (len : Int) - (m : Int)
        · have HZ : Hid (szD z (left - (len : Int) - (m : Int)) = left - (len : Int) - (tasSz (fs.take (k + 1)) : Int)) := by
            exact (by rw [HS.out, szD_yes (by omega)]; omega : szD z (left - (len : Int) - (m : Int)) = left - (len : Int) - (tasSz (fs.take (k + 1)) : Int))
          rw [HZ.out] at HC
          go_wp2_with fail
          refine Calls.mono (HC.out _) ?_
          rintro e w1 ⟨rfl, hb1⟩
          have hle2 : (tasSz (fs.take (k + 1)) : Int) ≤ left - (len : Int) := by rw [HS.out]; omega
          have hge : (0 : Int) ≤ left - (len : Int) - (tasSz (fs.take (k + 1)) : Int) := by omega
          clear HC
          go_wp2
          go_roundw
          case rel => exact ⟨k + 1, by omega, by go_num, rfl, hle2, hB.trans (hb1.mono hB.size)⟩
          case measure => simp [intOf]; omega
        · have HZ : Hid (szD z (left - (len : Int) - (m : Int)) = -1) := szD_no (by omega)
          have HR : Hid (szD (len + tasSz fs) left = -1) := szD_no (by have := HS.out; omega)
          rw [HZ.out] at HC
          go_wp2_with fail
          refine Calls.mono (HC.out _) ?_
          rintro e w1 ⟨rfl, hb1⟩
          clear HC
          go_wp2
          go_ret
          exact ⟨by rw [HR.out]; rfl, hB.trans (hb1.mono hB.size)⟩
      · have HT : Hid (fs.take k = fs) := List.take_of_length_le (by omega)
        have HR : Hid (szD (len + tasSz fs) left = left - (len : Int) - (tasSz (fs.take k) : Int)) := by exact (by rw [HT.out] at hle ⊢; rw [szD_yes (by omega)]; omega : szD (len + tasSz fs) left = left - (len : Int) - (tasSz (fs.take k) : Int))
        go_wp2
        go_ret
        exact ⟨by rw [HR.out]; rfl, hB⟩
  · have HR : Hid (szD (len + tasSz fs) left = -1) := szD_no (by omega)
    clear hin hm
    go_enter Tryd.func11, Tryd.ntmps11
    go_wp2
    go_ret
    exact ⟨by rw [HR.out]; rfl, Below.refl _ _⟩

set_option maxHeartbeats 1000000 in
set_option maxRecDepth 100000 in
theorem szDeskC (a : Option Addr) (len cap : Nat) (ts : List Ta) (ep nw : Int) (jr : List UInt8) (left : Int) (w : World) (hin : TasksIn w a len ts) (h0 : 0 ≤ left) (h1 : left ≤ 1048576) (hl : len ≤ maxLen) (hm : LongTa ts) (hj : jr.length ≤ maxLen) :
    Calls Tryd.prog 4 #[.agg #[.slice a len cap, .int .i64 ep, .int .i64 nw, .string ⟨jr.toArray⟩], .int .i64 left] w fun e w' => e = .returned (.int .i64 (szD (len + tasSz ts + jr.length) left)) ∧ Below w.heap.size w w' := by
  unfold maxLen at hj
  have hj2 : (jr.length : Int) ≤ 9223372036854775807 := by omega
  obtain ⟨D, hD⟩ : ∃ D, w.heap.size = D := ⟨_, rfl⟩
  obtain ⟨W, hW⟩ : ∃ W, w.alloc (.cells #[.slice a len cap, .int .i64 ep, .int .i64 nw, .string ⟨jr.toArray⟩] 24) = W := ⟨_, rfl⟩
  have hbW : Below w.heap.size w W := by rw [← hW]; exact (Below.refl _ _).alloc (Nat.le_refl _) _
  have hA : W.heap[w.heap.size]? = some (.cells #[.slice a len cap, .int .i64 ep, .int .i64 nw, .string ⟨jr.toArray⟩] 24) := by rw [← hW]; exact heap_alloc_new w _
  rw [hD] at hA
  have k0 : W.cell? ⟨D, 0, none⟩ = some (.slice a len cap) := by simp [World.cell?, hA]
  have k3 : W.cell? ⟨D, 3, none⟩ = some (.string ⟨jr.toArray⟩) := by simp [World.cell?, hA]
  have hDl : D < W.heap.size := World.block_lt_of_cell? W ⟨D, 0, none⟩ k0
  have HK : Hid (∀ Z, Below W.heap.size W Z → Z.cell? ⟨D, 3, none⟩ = some (.string ⟨jr.toArray⟩)) := fun Z hz => (hz.cell (p := ⟨D, 3, none⟩) hDl).trans k3
  have HB : Hid (∀ Z, Below W.heap.size W Z → Below D w Z) := fun Z hz => hD ▸ hbW.trans (hz.mono hbW.size)
  have HC : Hid (_) := szTaskSC a len cap ts left W (hin.below hbW) h0 h1 hl hm
  clear hin hm hbW hA k3 hDl
  by_cases hfit : ((len + tasSz ts : Nat) : Int) ≤ left
  · have HZ : Hid (szD (len + tasSz ts) left = left - ((len + tasSz ts : Nat) : Int)) := szD_yes hfit
    have hz2 : szD (len + tasSz ts + jr.length) left = szD jr.length (left - ((len + tasSz ts : Nat) : Int)) := by
      unfold szD
      split
      · rw [if_pos (by omega)]; omega
      · rw [if_neg (by omega)]
    rw [HZ.out] at HC
    rw [hz2]
    obtain ⟨z, hz⟩ : ∃ z, left - ((len + tasSz ts : Nat) : Int) = z := ⟨_, rfl⟩
    rw [hz] at HC ⊢
    have hz0 : 0 ≤ z := by omega
    have hz1 : z ≤ 1048576 := by omega
    clear hz hz2 HZ
    by_cases hf2 : (jr.length : Int) ≤ z
    · have HR : Hid (szD jr.length z = z - (jr.length : Int)) := szD_yes hf2
      have hge : 0 ≤ z - (jr.length : Int) := by omega
      go_enter Tryd.func4, Tryd.ntmps4
      go_wp2_with fail
      refine Calls.mono HC.out ?_
      rintro e w1 ⟨rfl, hb1⟩
      have k3 := HK.out w1 hb1
      go_wp2
      go_ret
      exact ⟨by rw [HR.out]; rfl, hD ▸ HB.out _ hb1⟩
    · have HR : Hid (szD jr.length z = -1) := szD_no hf2
      have hge : z - (jr.length : Int) < 0 := by omega
      go_enter Tryd.func4, Tryd.ntmps4
      go_wp2_with fail
      refine Calls.mono HC.out ?_
      rintro e w1 ⟨rfl, hb1⟩
      have k3 := HK.out w1 hb1
      go_wp2
      go_ret
      exact ⟨by rw [HR.out]; rfl, hD ▸ HB.out _ hb1⟩
  · have HZ : Hid (szD (len + tasSz ts) left = -1) := szD_no hfit
    have HR : Hid (szD (len + tasSz ts + jr.length) left = -1) := szD_no (by omega)
    rw [HZ.out] at HC
    go_enter Tryd.func4, Tryd.ntmps4
    go_wp2_with fail
    refine Calls.mono HC.out ?_
    rintro e w1 ⟨rfl, hb1⟩
    go_wp2
    go_ret
    exact ⟨by rw [HR.out]; rfl, hD ▸ HB.out _ hb1⟩

end Go.Proofs.YtglhbcbilepomaaDoor
