/-
  Parts of one proof, one behind the other: RtU, RtO, RtL, RtT, InsZ, RtIn, ImgK, Draw14, HasS, PackS, PackS2, PackS3, ProjS, ProjS2, ProjS3, ProjS4, ProjS5, ProjS6, RowW, PackS4.
-/
import Derived.Test.YtnflkecnddbhoaaP16
import Derived.Test.YtnflkecnddbhoaaP1
import Derived.Test.YtnflkecnddbhoaaP8
import Derived.SliceStrings
import Derived.Test.YtnflkecnddbhoaaP15
import Derived.Maps.AppendAt
import Derived.Test.YtnflkecnddbhoaaP3
import Derived.Test.YtnflkecnddbhoaaP2
import Derived.BigQuiet
import Derived.Deep.RegionHeld3
import Derived.Deep.Cut
import Derived.Test.YtnflkecnddbhoaaP6
import Derived.Laws.IdiomCopy

/-! What the writing of several blocks leaves; rows that lie apart; blocks of three cells. -/
namespace Go.Proofs.Ytnflkecnddbhoaa
open Go.RowKit

/-- Of what was there nothing but the blocks of S was written. -/
structure WroteR (w w' : World) (S : Nat → Prop) : Prop where
  os : w'.os = w.os
  tape : w'.tape = w.tape
  output : w'.output = w.output
  size : w.heap.size ≤ w'.heap.size
  block : ∀ k, k < w.heap.size → ¬ S k → w'.heap[k]? = w.heap[k]?

theorem WroteR.refl (w : World) (S : Nat → Prop) : WroteR w w S := ⟨rfl, rfl, rfl, Nat.le_refl _, fun _ _ _ => rfl⟩
theorem WroteR.trans {a b c : World} {S : Nat → Prop} (h : WroteR a b S) (k : WroteR b c S) : WroteR a c S :=
  ⟨k.os.trans h.os, k.tape.trans h.tape, k.output.trans h.output, Nat.le_trans h.size k.size, fun i hi hs => (k.block i (Nat.lt_of_lt_of_le hi h.size) hs).trans (h.block i hi hs)⟩
theorem WroteR.mono {w w' : World} {S T : Nat → Prop} (h : WroteR w w' S) (hs : ∀ k, S k → T k) : WroteR w w' T := ⟨h.os, h.tape, h.output, h.size, fun k hk hn => h.block k hk (fun e => hn (hs k e))⟩
theorem WroteR.of_grown {w w' : World} {row : Option Nat} {S : Nat → Prop} (h : w.grownBy w' row) (hs : ∀ k, row = some k → S k) : WroteR w w' S :=
  ⟨h.os, h.tape, h.output, h.size, fun k hk hn => h.block k hk (fun e => hn (hs k e.symm))⟩
theorem WroteR.of_below {w w' : World} {S : Nat → Prop} (h : Below w.heap.size w w') : WroteR w w' S := ⟨h.os, h.tape, h.output, h.size, fun k hk _ => h.block k hk⟩
theorem WroteR.below {w w' : World} {S : Nat → Prop} {B : Nat} (h : WroteR w w' S) (hB : B ≤ w.heap.size) (hs : ∀ k, S k → B ≤ k) : Below B w w' :=
  ⟨h.os, h.tape, h.output, h.size, fun k hk => h.block k (Nat.lt_of_lt_of_le hk hB) (fun e => by have := hs k e; omega)⟩
theorem own_wroteR {w w' : World} {base e size n : Nat} {v : Value} {xs : List Value} {S : Nat → Prop} (h : w.ownsRow base e size v n xs) (hw : WroteR w w' S) (hv : ∀ k, v.ownBlock = some k → ¬ S k) : w'.ownsRow base e size v n xs := by
  refine ⟨h.1, ?_⟩
  rcases h.2 with hn | ⟨g, cap, cur, rfl, hb, hgg, rest⟩
  · exact .inl hn
  · refine .inr ⟨g, cap, cur, rfl, hb, ?_, rest⟩
    rw [hw.block g (Array.getElem?_eq_some_iff.1 hgg).1 (hv g rfl)]
    exact hgg

/-- The trees lie apart, one by one. -/
def ApartR (vs : List Value) : Prop := vs.Pairwise (fun a b => a.ownBlock = none ∨ a.ownBlock ≠ b.ownBlock)
theorem ApartR.ne {vs : List Value} (h : ApartR vs) {i j : Nat} (hi : i < vs.length) (hj : j < vs.length) (hij : i ≠ j) : vs[i].ownBlock = none ∨ vs[i].ownBlock ≠ vs[j].ownBlock := by
  rcases Nat.lt_or_gt_of_ne hij with hl | hl
  · exact List.pairwise_iff_getElem.1 h i j hi hj hl
  · rcases List.pairwise_iff_getElem.1 h j i hj hi hl with e | e
    · rw [e]; cases vs[i].ownBlock <;> simp
    · exact Or.inr (fun e2 => e e2.symm)

theorem ApartR.nil : ApartR [] := List.Pairwise.nil
theorem cell_alwR {w : World} {a : Addr} {v : Value} (o : Obj) (h : w.cell? a = some v) : (w.alloc o).cell? a = some v :=
  (World.cell?_of_block (Below.heap_alloc _ _ _ (World.block_lt_of_cell? w a h))).trans h

/-- Three cells of a block are written. -/
theorem set3R {X : World} {R : Nat} {a0 a1 a2 : Value} (u0 u1 u2 : Value) (r0 : X.cell? ⟨R, 0, none⟩ = some a0) (r1 : X.cell? ⟨R, 1, none⟩ = some a1) (r2 : X.cell? ⟨R, 2, none⟩ = some a2) :
    ∃ Y, ((X.setCell ⟨R, 0, none⟩ u0).setCell ⟨R, 1, none⟩ u1).setCell ⟨R, 2, none⟩ u2 = Y ∧ Y.cell? ⟨R, 0, none⟩ = some u0 ∧ Y.cell? ⟨R, 1, none⟩ = some u1 ∧ Y.cell? ⟨R, 2, none⟩ = some u2 ∧ X.grownBy Y (some R) := by
  refine ⟨_, rfl, ?_, ?_, ?_, ?_⟩
  · exact (World.cell?_setCell_other _ _ _ _ (by simp)).trans ((World.cell?_setCell_other _ _ _ _ (by simp)).trans (World.cell?_setCell_same _ _ _ r0))
  · exact (World.cell?_setCell_other _ _ _ _ (by simp)).trans (World.cell?_setCell_same _ _ _ ((World.cell?_setCell_other _ _ _ _ (by simp)).trans r1))
  · exact World.cell?_setCell_same _ _ _ ((World.cell?_setCell_other _ _ _ _ (by simp)).trans ((World.cell?_setCell_other _ _ _ _ (by simp)).trans r2))
  · exact ((grown_set _ _ _ _).trans (grown_set _ _ _ _)).trans (grown_set _ _ _ _)

/-- The cells of a block of threeR that lies as it was made. -/
theorem threeR {X W : World} {R : Nat} {u0 u1 u2 : Value} {T : TypeId} (hX : Below W.heap.size W X) (hlt : R < W.heap.size) (hR : W.heap[R]? = some (.cells #[u0, u1, u2] T)) :
    X.cell? ⟨R, 0, none⟩ = some u0 ∧ X.cell? ⟨R, 1, none⟩ = some u1 ∧ X.cell? ⟨R, 2, none⟩ = some u2 ∧ ∀ j, X.frozen? ⟨R, j, none⟩ = false := by
  have e := (hX.block R hlt).trans hR
  clear hX hR
  exact ⟨by simp [World.cell?, e], by simp [World.cell?, e], by simp [World.cell?, e], fun j => by simp [World.frozen?, e]⟩

/-- A row that is owned above a block does not lie in it. -/
theorem own_offR {w : World} {base e size n R : Nat} {v : Value} {xs : List Value} (h : w.ownsRow base e size v n xs) (hR : R < base) : v.ownBlock = none ∨ v.ownBlock ≠ some R := by
  rcases hv : v.ownBlock with _ | k
  · exact Or.inl rfl
  · refine Or.inr (fun e => ?_)
    have := (h.lt k hv).1
    injection e with e
    omega

/-- Rows of elements of two types lie in two blocks. -/
theorem own_typesR {w : World} {b1 b2 e1 e2 s1 s2 n1 n2 : Nat} {v1 v2 : Value} {xs ys : List Value} (h1 : w.ownsRow b1 e1 s1 v1 n1 xs) (h2 : w.ownsRow b2 e2 s2 v2 n2 ys) (he : e1 ≠ e2) : v1.ownBlock = none ∨ v1.ownBlock ≠ v2.ownBlock := by
  rcases h1.2 with ⟨rfl, _⟩ | ⟨g, c, cur, rfl, _, hg, _⟩
  · exact Or.inl rfl
  · rcases h2.2 with ⟨rfl, _⟩ | ⟨g2, c2, cur2, rfl, _, hg2, _⟩
    · exact Or.inr (by simp [Value.ownBlock])
    · refine Or.inr (fun e => ?_)
      simp only [Value.ownBlock, Option.some.injEq] at e
      subst e
      rw [hg] at hg2
      simp only [Option.some.injEq, Obj.cells.injEq] at hg2
      exact he hg2.2.1

theorem add_plainR (b off i : Nat) : (⟨b, off, none⟩ : Addr).add i = ⟨b, off + i, none⟩ := by unfold Addr.add; split <;> simp_all

end Go.Proofs.Ytnflkecnddbhoaa

/-! Routines that a call has made: each with its code in a row of its own. -/
namespace Go.Proofs.Ytnflkecnddbhoaa
open Go.RowKit

/-- A function, and where its tree lies. -/
abbrev RV := Rt × Option Addr × Nat
def rvT (x : RV) : Value := .slice x.2.1 x.1.2.2.length x.2.2
def rtsV : List RV → List Value
  | [] => []
  | x :: r => .string ⟨x.1.1.toArray⟩ :: .int .i64 x.1.2.1 :: rvT x :: rtsV r

def rv0 : RV := (rt0, none, 0)

theorem rtsV_len (xs : List RV) : (rtsV xs).length = xs.length * 3 := by
  induction xs with
  | nil => rfl
  | cons n r ih => simp only [rtsV, List.length_cons, ih]; omega

theorem rtsV_append (x y : List RV) : rtsV (x ++ y) = rtsV x ++ rtsV y := by
  induction x with
  | nil => rfl
  | cons n r ih => simp [rtsV, ih]

theorem rtsV_one (xs : List RV) : ∀ u ∈ rtsV xs, u.oneCell' = true := by
  induction xs with
  | nil => intro u hu; cases hu
  | cons n r ih =>
    intro u hu
    simp only [rtsV, List.mem_cons] at hu
    rcases hu with rfl | rfl | rfl | h
    · rfl
    · rfl
    · rfl
    · exact ih u h

theorem rtsV_at (xs : List RV) (j : Nat) (hj : j < xs.length) : (rtsV xs)[j * 3]? = some (.string ⟨(xs.getD j rv0).1.1.toArray⟩) ∧ (rtsV xs)[j * 3 + 1]? = some (.int .i64 (xs.getD j rv0).1.2.1) ∧ (rtsV xs)[j * 3 + 2]? = some (rvT (xs.getD j rv0)) := by
  induction xs generalizing j with
  | nil => simp at hj
  | cons n r ih =>
    cases j with
    | zero => simp [rtsV]
    | succ j =>
      obtain ⟨h0, h1, h2⟩ := ih j (by simpa using hj)
      refine ⟨?_, ?_, ?_⟩
      · rw [show (j + 1) * 3 = j * 3 + 1 + 1 + 1 by omega]; simpa [rtsV] using h0
      · rw [show (j + 1) * 3 + 1 = j * 3 + 1 + 1 + 1 + 1 by omega]; simpa [rtsV] using h1
      · rw [show (j + 1) * 3 + 2 = j * 3 + 2 + 1 + 1 + 1 by omega]; simpa [rtsV] using h2

structure RtsOwn (w : World) (base : Nat) (v : Value) (xs : List RV) : Prop where
  row : w.ownsRow base 51 3 v xs.length (rtsV xs)
  trees : ∀ x ∈ xs, w.ownsRow base 74 5 (rvT x) x.1.2.2.length (insV x.1.2.2)

theorem RtsOwn.below {w w' : World} {base : Nat} {v : Value} {xs : List RV} (h : RtsOwn w base v xs) (hb : Below w.heap.size w w') : RtsOwn w' base v xs := ⟨own_below h.row hb, fun x hx => own_below (h.trees x hx) hb⟩

theorem RtsOwn.kept {w w' : World} {base : Nat} {v : Value} {xs : List RV} {row : Option Nat} (h : RtsOwn w base v xs) (hg : w.grownBy w' row) (h1 : v.ownBlock = none ∨ v.ownBlock ≠ row) (h2 : ∀ x ∈ xs, (rvT x).ownBlock = none ∨ (rvT x).ownBlock ≠ row) : RtsOwn w' base v xs :=
  ⟨h.row.kept hg h1, fun x hx => (h.trees x hx).kept hg (h2 x hx)⟩

theorem RtsOwn.base {w : World} {base b2 : Nat} {v : Value} {xs : List RV} (h : RtsOwn w base v xs) (hb : b2 ≤ base) : RtsOwn w b2 v xs := ⟨own_base h.row hb, fun x hx => own_base (h.trees x hx) hb⟩

theorem RtsOwn.nil (w : World) (base : Nat) : RtsOwn w base (.slice none 0 0) [] := ⟨World.ownsRow_nil w _ _ _, fun x hx => by cases hx⟩

theorem getD_map_rt (xs : List RV) (j : Nat) : (xs.map (·.1)).getD j rt0 = (xs.getD j rv0).1 := by
  rw [List.getD_eq_getElem?_getD, List.getD_eq_getElem?_getD, List.getElem?_map]
  cases xs[j]? <;> rfl

/-- What is owned can be read. -/
theorem RtsOwn.in {w : World} {base : Nat} {v : Value} {xs : List RV} (h : RtsOwn w base v xs) : ∃ a cap, v = .slice a xs.length cap ∧ (a = none → cap = 0) ∧ RtsIn w a xs.length (xs.map (·.1)) := by
  rcases own_forms h.row with ⟨rfl, h0, _⟩ | ⟨g, cp, rfl⟩
  · exact ⟨none, 0, by rw [h0], fun _ => rfl, by simp, fun j hj => by omega⟩
  · refine ⟨some ⟨g, 0, none⟩, cp, rfl, fun e => (by cases e), by simp, fun j hj => ?_⟩
    obtain ⟨v0, v1, v2⟩ := rtsV_at xs j hj
    have hc := fun k (hk : k < xs.length * 3) => World.ownsRow.cellAt h.row k hk
    have hmem : xs.getD j rv0 ∈ xs := by rw [List.getD_eq_getElem?_getD, List.getElem?_eq_getElem hj]; exact List.getElem_mem hj
    obtain ⟨hl, a, cap, e, hn⟩ := own_ins (h.trees _ hmem)
    refine ⟨g, 0, rfl, (h.row.lt g rfl).2, ?_, ?_, (xs.getD j rv0).2.1, (xs.getD j rv0).1.2.2.length, (xs.getD j rv0).2.2, ?_, ?_⟩
    · rw [Nat.zero_add, hc _ (by omega), v0, getD_map_rt]
    · rw [Nat.zero_add, hc _ (by omega), v1, getD_map_rt]
    · rw [Nat.zero_add, hc _ (by omega), v2]; rfl
    · rw [getD_map_rt]
      unfold rvT at e
      injection e with e1 e2 e3
      rw [e1]; exact hn

theorem infoRt : (Try.prog.info? 51).map (fun i => (i.zero, i.size, i.bytes)) = some (some (.agg #[.string ⟨#[]⟩, .int .i64 0, .slice none 0 0]), 3, 48) := by kernel_rfl

end Go.Proofs.Ytnflkecnddbhoaa

/-! The laws' own helpers over routines: szRoutine, szRoutineS. -/
namespace Go.Proofs.Ytnflkecnddbhoaa
open Go.RowKit

def szR (m : Nat) (left : Int) : Int := if (m : Int) ≤ left then left - (m : Int) else -1
def rtSz (f : Rt) : Nat := f.1.length + (f.2.2.length + textsI f.2.2)
def rtsSz : List Rt → Nat
  | [] => 0
  | f :: r => rtSz f + rtsSz r
def LongR (fs : List Rt) : Prop := ∀ j, (fs.getD j rt0).1.length ≤ maxLen ∧ (fs.getD j rt0).2.2.length ≤ maxLen ∧ LongI (fs.getD j rt0).2.2

end Go.Proofs.Ytnflkecnddbhoaa

/-! The laws' own helpers over routines: toRoutine, toRoutineS. -/
namespace Go.Proofs.Ytnflkecnddbhoaa
open Go.RowKit

end Go.Proofs.Ytnflkecnddbhoaa

/-! A row of instructions that came in. -/
namespace Go.Proofs.Ytnflkecnddbhoaa
open Go.ChangeShapes Go.WideShapes Go.ChangeAt Go.RowKit Go.Joins Go.Deep

end Go.Proofs.Ytnflkecnddbhoaa

/-! An image that came in, as the walks take it. -/
namespace Go.Proofs.Ytnflkecnddbhoaa
open Go.ChangeShapes Go.WideShapes Go.ChangeAt Go.RowKit Go.Joins Go.Deep

def IntR (rs : List Rt) : Prop := ∀ j, (-9223372036854775808 ≤ (rs.getD j rt0).2.1 ∧ (rs.getD j rt0).2.1 ≤ 9223372036854775807) ∧ IntIs (rs.getD j rt0).2.2
theorem intIs_nil : IntIs [] := fun j => by rw [show ([] : List In13).getD j in0 = in0 by simp]; exact intI_in0
section
variable {H : Type} {enc : TypeId × Value → H} {W : World} {base : Nat} {spare : Nat → Bool} {held : Bool} {fuel : Nat} {v : Value} {x : DataW H × List MemPlace}
end

end Go.Proofs.Ytnflkecnddbhoaa

/-! What the landed functions of chapter 14 are told of an image. -/
namespace Go.Proofs.Ytnflkecnddbhoaa
open Go.RowKit

/-- The routines rs lie at a, and so does the room of each row. -/
def RtsCap (w : World) (a : Option Addr) (len cap : Nat) (rs : List Rt) : Prop :=
  rs.length = len ∧ len ≤ cap ∧ cap ≤ maxLen ∧ ∀ j, j < len → ∃ b off, a = some ⟨b, off, none⟩ ∧ b < w.heap.size ∧ w.cell? ⟨b, off + j * 3, none⟩ = some (.string ⟨(rs.getD j rt0).1.toArray⟩) ∧ w.cell? ⟨b, off + j * 3 + 1, none⟩ = some (.int .i64 (rs.getD j rt0).2.1) ∧
    ∃ ca cl cc, w.cell? ⟨b, off + j * 3 + 2, none⟩ = some (.slice ca cl cc) ∧ InsIn w ca cl (rs.getD j rt0).2.2 ∧ cl ≤ cc ∧ cc ≤ maxLen
theorem RtsCap.in {w : World} {a : Option Addr} {len cap : Nat} {rs : List Rt} (h : RtsCap w a len cap rs) : RtsIn w a len rs := by
  refine ⟨h.1, fun j hj => ?_⟩
  obtain ⟨b, off, e, hl, c0, c1, ca, cl, cc, c2, hn, _, _⟩ := h.2.2.2 j hj
  exact ⟨b, off, e, hl, c0, c1, ca, cl, cc, c2, hn⟩
theorem RtsCap.below {w w' : World} {a : Option Addr} {len cap : Nat} {rs : List Rt} (h : RtsCap w a len cap rs) (hb : Below w.heap.size w w') : RtsCap w' a len cap rs := by
  refine ⟨h.1, h.2.1, h.2.2.1, fun j hj => ?_⟩
  obtain ⟨b, off, e, hlt, c0, c1, ca, cl, cc, c2, hn, h1, h2⟩ := h.2.2.2 j hj
  exact ⟨b, off, e, Nat.lt_of_lt_of_le hlt hb.size, (hb.cell (p := ⟨b, off + j * 3, none⟩) hlt).trans c0, (hb.cell (p := ⟨b, off + j * 3 + 1, none⟩) hlt).trans c1, ca, cl, cc, (hb.cell (p := ⟨b, off + j * 3 + 2, none⟩) hlt).trans c2, hn.below hb, h1, h2⟩
structure RtOk (w : World) (a : Option Addr) (len cap : Nat) (rs : List Rt) : Prop where
  c : RtsCap w a len cap rs
  i : IntR rs
  s : ShortR rs
  l : len ≤ 1048576
theorem RtOk.below {w w' : World} {a : Option Addr} {len cap : Nat} {rs : List Rt} (h : RtOk w a len cap rs) (hb : Below w.heap.size w w') : RtOk w' a len cap rs := ⟨h.c.below hb, h.i, h.s, h.l⟩
theorem own_capR {w : World} {base e size n c : Nat} {a : Option Addr} {xs : List Value} (h : w.ownsRow base e size (.slice a n c) n xs) : n ≤ c ∧ c ≤ maxLen := by
  rcases h.2 with ⟨h', _⟩ | ⟨g', cap', cur, h', _, _, hnc, hcm, _⟩
  · injection h' with _ h1 h2
    subst h1 h2
    exact ⟨Nat.le_refl _, Nat.zero_le _⟩
  · injection h' with _ _ h2
    omega
/-- What is owned lies so. -/
theorem RtsOwn.cap {w : World} {base n c : Nat} {a : Option Addr} {xs : List RV} {rs : List Rt} (h : RtsOwn w base (.slice a n c) xs) (hx : xs.map (·.1) = rs) (hn : rs.length = n) : RtsCap w a n c rs := by
  have hxl : xs.length = n := by rw [← hn, ← hx, List.length_map]
  obtain ⟨a', c', e, _, hin⟩ := h.in
  rw [hx, hxl] at hin
  rw [hxl] at e
  injection e with e1 _ e3
  subst e1 e3
  have hrow := h.row
  rw [hxl] at hrow
  have hc := own_capR hrow
  refine ⟨hin.1, hc.1, hc.2, fun j hj => ?_⟩
  obtain ⟨b, off, e, hlt, c0, c1, ca, cl, cc, c2, hn2⟩ := hin.2 j hj
  refine ⟨b, off, e, hlt, c0, c1, ca, cl, cc, c2, hn2, ?_⟩
  subst e
  obtain ⟨g, cp, e2⟩ := own_some hrow (by omega)
  injection e2 with e3 _ _
  injection e3 with e3
  injection e3 with e4 e5 _
  subst e4 e5
  have hmem : xs.getD j rv0 ∈ xs := by rw [List.getD_eq_getElem?_getD, List.getElem?_eq_getElem (by omega)]; exact List.getElem_mem (by omega)
  have ht := h.trees _ hmem
  obtain ⟨_, _, v2⟩ := rtsV_at xs j (by omega)
  have h2 := hrow.cellAt (j * 3 + 2) (by omega)
  rw [v2] at h2
  rw [Nat.zero_add] at c2
  rw [c2] at h2
  injection h2 with h2
  unfold rvT at h2 ht
  injection h2 with h3 h4 h5
  subst h3 h4 h5
  exact own_capR ht

end Go.Proofs.Ytnflkecnddbhoaa

/-! Images are drawn: rows of routines put together. -/
namespace Go.Proofs.Ytnflkecnddbhoaa
open Go.RowKit

def SmRt (r : Rt) : Prop := r.1.length ≤ 100 ∧ (-10 ≤ r.2.1 ∧ r.2.1 ≤ 10) ∧ r.2.2.length ≤ 300 ∧ AllI r.2.2
def SmR (xs : List RV) : Prop := ∀ x ∈ xs, SmRt x.1

theorem rtsV_take (xs : List RV) (k : Nat) : rtsV (xs.take k) = (rtsV xs).take (k * 3) := by
  induction xs generalizing k with
  | nil => simp [rtsV]
  | cons x r ih =>
    cases k with
    | zero => simp [rtsV]
    | succ k =>
      rw [List.take_succ_cons, rtsV, rtsV, ih k, show (k + 1) * 3 = k * 3 + 1 + 1 + 1 by omega]
      simp
theorem rtsV_drop (xs : List RV) (k : Nat) : rtsV (xs.drop k) = (rtsV xs).drop (k * 3) := by
  induction xs generalizing k with
  | nil => simp [rtsV]
  | cons x r ih =>
    cases k with
    | zero => simp
    | succ k =>
      rw [List.drop_succ_cons, ih k, rtsV, show (k + 1) * 3 = k * 3 + 1 + 1 + 1 by omega]
      simp
def SrcR (X : World) (ad : Addr) (zs : List RV) : Prop := ∀ (j : Nat) (u : Value), (rtsV zs)[j]? = some u → X.cell? (ad.add j) = some u
section
variable {X Y : World} {Bs g c : Nat} {xs zs : List RV}
theorem app14 (hv : RtsOwn X Bs (.slice (some ⟨g, 0, none⟩) xs.length c) xs) {ad : Addr} {cz : Nat} (hs : SrcR X ad zs) (ht : ∀ z ∈ zs, X.ownsRow Bs 74 5 (rvT z) z.1.2.2.length (insV z.1.2.2)) (hB : Bs ≤ X.heap.size) (hn : xs.length + zs.length ≤ 4000) :
    ∃ g' c' Y, (Builtin.append_ #[24, 24] 24 #[.slice (some ⟨g, 0, none⟩) xs.length c, .slice (some ad) zs.length cz]).run Try.prog X = .ok (.slice (some ⟨g', 0, none⟩) (xs.length + zs.length) c') Y ∧ RtsOwn Y Bs (.slice (some ⟨g', 0, none⟩) (xs ++ zs).length c') (xs ++ zs) ∧ X.grownBy Y (some g) ∧ (g' = g ∨ g' = X.heap.size) := by
  obtain ⟨i0, hi, hz0, hz1, hz2⟩ := info_parts infoRt
  obtain ⟨v', Y, hrun, hown, hg, hnn, hat⟩ := run_append_own_at (P := Try.prog) X Bs 24 24 51 i0 _ 3 48 Try.underlying24 hi hz0 hz1 hz2 rfl (by decide) _ _ _ hv.row ad zs.length cz (rtsV zs) (by rw [rtsV_len]) hs (rtsV_one _) (by unfold maxLen; omega) (by omega) hB
  have hl : xs.length + zs.length = (xs ++ zs).length := by simp
  rw [← rtsV_append] at hown
  obtain ⟨g', c', rfl⟩ : ∃ g' c', v' = .slice (some ⟨g', 0, none⟩) (xs.length + zs.length) c' := by
    rcases own_forms hown with ⟨e, _, _⟩ | ⟨g', cp, e⟩
    · have := (hnn.1 e).1; injection this with this; cases this
    · exact ⟨g', cp, e⟩
  refine ⟨g', c', Y, hrun, ⟨by rw [← hl]; exact hown, fun x hx => ?_⟩, hg, ?_⟩
  · have hx2 : X.ownsRow Bs 74 5 (rvT x) x.1.2.2.length (insV x.1.2.2) := by
      rcases List.mem_append.1 hx with e | e
      · exact hv.trees x e
      · exact ht x e
    exact hx2.kept hg (own_typesR hx2 hv.row (by decide))
  · rcases hat with e | e
    · exact Or.inl (by simpa [Value.ownBlock] using e)
    · exact Or.inr (by simpa [Value.ownBlock] using e)
theorem empty14 (X : World) (hB : Bs ≤ X.heap.size) : RtsOwn (X.alloc (.cells #[] 51)) Bs (.slice (some ⟨X.heap.size, 0, none⟩) ([] : List RV).length 0) [] :=
  ⟨World.ownsRow_lit X #[] 0 hB (by decide) rfl, fun x hx => by cases hx⟩
theorem add14 (b o j : Nat) : (⟨b, o, none⟩ : Addr).add j = ⟨b, o + j, none⟩ := by unfold Addr.add; split <;> simp_all
theorem take14 (h : RtsOwn X Bs (.slice (some ⟨g, 0, none⟩) xs.length c) xs) {k : Nat} (hk : k ≤ xs.length) : SrcR X ⟨g, 0, none⟩ (xs.take k) := by
  have hl : (xs.take k).length = k := by rw [List.length_take]; omega
  intro j u hu
  have hj : j < k * 3 := by have := (List.getElem?_eq_some_iff.1 hu).1; rw [rtsV_len, hl] at this; exact this
  rw [add14, Nat.zero_add, World.ownsRow.cellAt h.row j (by omega)]
  rw [rtsV_take, List.getElem?_take, if_pos hj] at hu
  exact hu
theorem all14 (h : RtsOwn X Bs (.slice (some ⟨g, 0, none⟩) xs.length c) xs) : SrcR X ⟨g, 0, none⟩ xs := by
  have := take14 h (Nat.le_refl _)
  rwa [List.take_of_length_le (Nat.le_refl _)] at this
theorem drop14 (h : RtsOwn X Bs (.slice (some ⟨g, 0, none⟩) xs.length c) xs) {k : Nat} (hk : k ≤ xs.length) : SrcR X (if c = k then ⟨g, 0, none⟩ else ⟨g, k * 3, none⟩) (xs.drop k) := by
  have hcap := (own_capR h.row).1
  have hl : (xs.drop k).length = xs.length - k := List.length_drop
  intro j u hu
  have hj : j < (xs.length - k) * 3 := by have := (List.getElem?_eq_some_iff.1 hu).1; rw [rtsV_len, hl] at this; exact this
  rw [if_neg (by omega), add14, World.ownsRow.cellAt h.row (k * 3 + j) (by omega)]
  rw [rtsV_drop, List.getElem?_drop] at hu
  exact hu
theorem RtsOwn.cells (h : RtsOwn X Bs (.slice (some ⟨g, 0, none⟩) xs.length c) xs) {k : Nat} (hk : k < xs.length) : X.cell? ⟨g, k * 3, none⟩ = some (.string ⟨(xs.getD k rv0).1.1.toArray⟩) ∧ X.cell? ⟨g, k * 3 + 1, none⟩ = some (.int .i64 (xs.getD k rv0).1.2.1) ∧ X.cell? ⟨g, k * 3 + 2, none⟩ = some (rvT (xs.getD k rv0)) := by
  obtain ⟨v0, v1, v2⟩ := rtsV_at xs k hk
  refine ⟨?_, ?_, ?_⟩
  · rw [World.ownsRow.cellAt h.row (k * 3) (by omega), v0]
  · rw [World.ownsRow.cellAt h.row (k * 3 + 1) (by omega), v1]
  · rw [World.ownsRow.cellAt h.row (k * 3 + 2) (by omega), v2]
end

/-- The routines so far. -/
structure Im14 (w1 X : World) (g c : Nat) (xs : List RV) : Prop where
  fo : RtsOwn X w1.heap.size (.slice (some ⟨g, 0, none⟩) xs.length c) xs
  sm : SmR xs
  b : Below w1.heap.size w1 X
/-- The routine that is put in: its block R. -/
structure Ir2 (w1 X : World) (g c R : Nat) (xs : List RV) (y : RV) : Prop where
  o : Im14 w1 X g c xs
  r0 : X.cell? ⟨R, 0, none⟩ = some (.string ⟨y.1.1.toArray⟩)
  r1 : X.cell? ⟨R, 1, none⟩ = some (.int .i64 y.1.2.1)
  r2 : X.cell? ⟨R, 2, none⟩ = some (rvT y)
  yo : X.ownsRow w1.heap.size 74 5 (rvT y) y.1.2.2.length (insV y.1.2.2)
  ys : SmRt y.1
  rl : R < X.heap.size
section
variable {w1 X Y : World} {g c R : Nat} {xs : List RV} {y : RV}
theorem Im14.below (h : Im14 w1 X g c xs) (hb : Below X.heap.size X Y) : Im14 w1 Y g c xs := ⟨h.fo.below hb, h.sm, h.b.trans (hb.mono h.b.size)⟩
theorem Im14.drew (h : Im14 w1 X g c xs) : Im14 w1 X.drew g c xs := h.below ⟨rfl, rfl, rfl, Nat.le_refl _, fun _ _ => rfl⟩
theorem Ir2.below (h : Ir2 w1 X g c R xs y) (hb : Below X.heap.size X Y) : Ir2 w1 Y g c R xs y :=
  ⟨h.o.below hb, (hb.cell (p := ⟨R, 0, none⟩) h.rl).trans h.r0, (hb.cell (p := ⟨R, 1, none⟩) h.rl).trans h.r1, (hb.cell (p := ⟨R, 2, none⟩) h.rl).trans h.r2, own_below h.yo hb, h.ys, Nat.lt_of_lt_of_le h.rl hb.size⟩
theorem Ir2.drew (h : Ir2 w1 X g c R xs y) : Ir2 w1 X.drew g c R xs y := h.below ⟨rfl, rfl, rfl, Nat.le_refl _, fun _ _ => rfl⟩
/-- What stands behind the place, copied. -/
theorem Ir2.rest (h : Ir2 w1 X g c R xs y) {k : Nat} (hk : k ≤ xs.length) (hn : xs.length ≤ 100) :
    ∃ g1 c1 Y1, (Builtin.append_ #[24, 24] 24 #[.slice (some ⟨X.heap.size, 0, none⟩) 0 0, .slice (some (if c = k then ⟨g, 0, none⟩ else ⟨g, k * 3, none⟩)) (xs.length - k) (c - k)]).run Try.prog (X.alloc (.cells #[] 51)) = .ok (.slice (some ⟨g1, 0, none⟩) (xs.length - k) c1) Y1 ∧
      Ir2 w1 Y1 g c R xs y ∧ RtsOwn Y1 w1.heap.size (.slice (some ⟨g1, 0, none⟩) (xs.drop k).length c1) (xs.drop k) := by
  have hb : Below X.heap.size X (X.alloc (.cells #[] 51)) := (Below.refl _ _).alloc (Nat.le_refl _) _
  have h1 := h.below hb
  have hl : (xs.drop k).length = xs.length - k := List.length_drop
  obtain ⟨g1, c1, Y1, hrun, ho, hg, _⟩ := app14 (cz := c - k) (empty14 X h.o.b.size) (drop14 h1.o.fo hk) (fun z hz => h1.o.fo.trees z (List.mem_of_mem_drop hz)) h1.o.b.size (by simp; omega)
  rw [List.nil_append] at ho
  simp only [hl, List.length_nil, Nat.zero_add] at hrun
  exact ⟨g1, c1, Y1, hrun, h.below (hb.grown hg (Nat.le_of_lt (by simp)) (fun q e => by injection e with e; omega)), ho⟩
/-- The routine as a row of its own. -/
theorem one14 (X : World) (y : RV) (hB : w1.heap.size ≤ X.heap.size) (hy : X.ownsRow w1.heap.size 74 5 (rvT y) y.1.2.2.length (insV y.1.2.2)) : RtsOwn (X.alloc (.cells #[.string ⟨y.1.1.toArray⟩, .int .i64 y.1.2.1, rvT y] 51)) w1.heap.size (.slice (some ⟨X.heap.size, 0, none⟩) [y].length 1) [y] :=
  ⟨World.ownsRow_lit X #[.string ⟨y.1.1.toArray⟩, .int .i64 y.1.2.1, rvT y] 1 hB (by decide) rfl, fun x hx => by
    rw [List.mem_singleton] at hx
    subst hx
    exact own_below hy ((Below.refl _ _).alloc (Nat.le_refl _) _)⟩
/-- The three rows put together. -/
theorem Ir2.join (h : Ir2 w1 X g c R xs y) {k gh ch : Nat} (hh : RtsOwn X w1.heap.size (.slice (some ⟨gh, 0, none⟩) (xs.take k).length ch) (xs.take k)) {go_ co : Nat} (ho : RtsOwn X w1.heap.size (.slice (some ⟨go_, 0, none⟩) [y].length co) [y]) (hn : xs.length ≤ 100) :
    ∃ g' c' Y, (Builtin.append_ #[24, 24] 24 #[.slice (some ⟨gh, 0, none⟩) (xs.take k).length ch, .slice (some ⟨go_, 0, none⟩) 1 co]).run Try.prog X = .ok (.slice (some ⟨g', 0, none⟩) ((xs.take k).length + 1) c') Y ∧
      RtsOwn Y w1.heap.size (.slice (some ⟨g', 0, none⟩) (xs.take k ++ [y]).length c') (xs.take k ++ [y]) ∧ X.grownBy Y (some gh) ∧ (g' = gh ∨ g' = X.heap.size) := by
  have hl : (xs.take k).length ≤ 100 := by rw [List.length_take]; omega
  have hs : SrcR X ⟨go_, 0, none⟩ [y] := all14 ho
  have hz : (xs.take k).length + [y].length ≤ 4000 := by rw [List.length_singleton]; omega
  obtain ⟨g', c', Y, h1, h2, h3, h4⟩ := app14 (cz := co) hh hs (fun z hz => ho.trees z hz) h.o.b.size hz
  exact ⟨g', c', Y, h1, h2, h3, h4⟩
end

end Go.Proofs.Ytnflkecnddbhoaa

/-! The contract of the specification's l1Has. -/
namespace Go.Proofs.Ytnflkecnddbhoaa
open Go.RowKit

end Go.Proofs.Ytnflkecnddbhoaa

/-! The contracts of chapter 7's specification: l1Rise, l7Imports, l7Func. -/
namespace Go.Proofs.Ytnflkecnddbhoaa
open Go.RowKit

/-- A function, as a value. -/
def FnVal (f : Fn) (ta : Option Addr) (tl tc : Nat) : Value := .agg #[.string ⟨f.1.toArray⟩, .int .i64 f.2.1, .slice ta tl tc]


end Go.Proofs.Ytnflkecnddbhoaa

/-! The contracts of chapter 7's specification: l7At, PackageOk. -/
namespace Go.Proofs.Ytnflkecnddbhoaa
open Go.RowKit

/-- The functions fs lie at a, three cells each, their trees where those say. -/
def FuncsIn (w : World) (a : Option Addr) (len : Nat) (fs : List Fn) : Prop :=
  fs.length = len ∧ ∀ j, j < len → ∃ b off, a = some ⟨b, off, none⟩ ∧ b < w.heap.size ∧ w.cell? ⟨b, off + j * 3, none⟩ = some (.string ⟨(fs.getD j fn0).1.toArray⟩) ∧ w.cell? ⟨b, off + j * 3 + 1, none⟩ = some (.int .i64 (fs.getD j fn0).2.1) ∧
    ∃ ta tl tc, w.cell? ⟨b, off + j * 3 + 2, none⟩ = some (.slice ta tl tc) ∧ (ta = none → tc = 0) ∧ NodesIn w ta tl (fs.getD j fn0).2.2

theorem FuncsIn.below {w w' : World} {a : Option Addr} {len : Nat} {fs : List Fn} (h : FuncsIn w a len fs) (hb : Below w.heap.size w w') : FuncsIn w' a len fs := by
  refine ⟨h.1, fun j hj => ?_⟩
  obtain ⟨b, off, e, hlt, c0, c1, ta, tl, tc, c2, hnc, hn⟩ := h.2 j hj
  exact ⟨b, off, e, Nat.lt_of_lt_of_le hlt hb.size, (hb.cell (p := ⟨b, off + j * 3, none⟩) hlt).trans c0, (hb.cell (p := ⟨b, off + j * 3 + 1, none⟩) hlt).trans c1, ta, tl, tc, (hb.cell (p := ⟨b, off + j * 3 + 2, none⟩) hlt).trans c2, hnc, hn.below hb⟩

/-- No name, no tree is longer than a law lets them be. -/
def ShortF (fs : List Fn) : Prop := ∀ j, (fs.getD j fn0).1.length ≤ 1048576 ∧ (fs.getD j fn0).2.2.length ≤ 1048576 ∧ ShortT (fs.getD j fn0).2.2


end Go.Proofs.Ytnflkecnddbhoaa

/-! The contract of chapter 7's specification: PackageOk. -/
namespace Go.Proofs.Ytnflkecnddbhoaa
open Go.RowKit

/-- A package in a block of its own, as a walk holds it. -/
structure PkIn (W : World) (D : Nat) (nm : List UInt8) (ia : Option Addr) (il ic : Nat) (fa : Option Addr) (fl fc : Nat) (ims : List (List UInt8)) (fs : List Fn) : Prop where
  k0 : W.cell? ⟨D, 0, none⟩ = some (.string ⟨nm.toArray⟩)
  k1 : W.cell? ⟨D, 1, none⟩ = some (.slice ia il ic)
  k2 : W.cell? ⟨D, 2, none⟩ = some (.slice fa fl fc)
  i : TextsIn W ia il ims
  f : FuncsIn W fa fl fs

theorem PkIn.below {W W' : World} {D : Nat} {nm : List UInt8} {ia : Option Addr} {il ic : Nat} {fa : Option Addr} {fl fc : Nat} {ims : List (List UInt8)} {fs : List Fn} (h : PkIn W D nm ia il ic fa fl fc ims fs) (hb : Below W.heap.size W W') : PkIn W' D nm ia il ic fa fl fc ims fs :=
  have hl : D < W.heap.size := World.block_lt_of_cell? W ⟨D, 0, none⟩ h.k0
  ⟨(hb.cell (p := ⟨D, 0, none⟩) hl).trans h.k0, (hb.cell (p := ⟨D, 1, none⟩) hl).trans h.k1, (hb.cell (p := ⟨D, 2, none⟩) hl).trans h.k2, h.i.below hb, h.f.below hb⟩

theorem PkIn.drew {W : World} {D : Nat} {nm : List UInt8} {ia : Option Addr} {il ic : Nat} {fa : Option Addr} {fl fc : Nat} {ims : List (List UInt8)} {fs : List Fn} (h : PkIn W D nm ia il ic fa fl fc ims fs) : PkIn W.drew D nm ia il ic fa fl fc ims fs := ⟨h.k0, h.k1, h.k2, h.i, h.f⟩

theorem PkIn.new {w : World} {nm : List UInt8} {ia : Option Addr} {il ic : Nat} {fa : Option Addr} {fl fc : Nat} {ims : List (List UInt8)} {fs : List Fn} (hi : TextsIn w ia il ims) (hf : FuncsIn w fa fl fs) :
    PkIn (w.alloc (.cells #[.string ⟨nm.toArray⟩, .slice ia il ic, .slice fa fl fc] 117)) w.heap.size nm ia il ic fa fl fc ims fs ∧ Below w.heap.size w (w.alloc (.cells #[.string ⟨nm.toArray⟩, .slice ia il ic, .slice fa fl fc] 117)) := by
  have hb : Below w.heap.size w (w.alloc (.cells #[.string ⟨nm.toArray⟩, .slice ia il ic, .slice fa fl fc] 117)) := (Below.refl _ _).alloc (Nat.le_refl _) _
  have hA := heap_alloc_new w (.cells #[.string ⟨nm.toArray⟩, .slice ia il ic, .slice fa fl fc] 117)
  generalize w.alloc (.cells #[.string ⟨nm.toArray⟩, .slice ia il ic, .slice fa fl fc] 117) = W at hb hA ⊢
  exact ⟨⟨by simp [World.cell?, hA], by simp [World.cell?, hA], by simp [World.cell?, hA], hi.below hb, hf.below hb⟩, hb⟩

end Go.Proofs.Ytnflkecnddbhoaa

/-! The contracts of chapter 8's specification: l1Has, l8At. -/
namespace Go.Proofs.Ytnflkecnddbhoaa
open Go.RowKit

/-- The packages ps lie at a, three cells each, their lists where those say. -/
def PkgsIn (w : World) (a : Option Addr) (len : Nat) (ps : List Pk) : Prop :=
  ps.length = len ∧ ∀ j, j < len → ∃ b off, a = some ⟨b, off, none⟩ ∧ b < w.heap.size ∧ w.cell? ⟨b, off + j * 3, none⟩ = some (.string ⟨(ps.getD j pk0).1.toArray⟩) ∧
    ∃ ia il ic fa fl fc, w.cell? ⟨b, off + j * 3 + 1, none⟩ = some (.slice ia il ic) ∧ w.cell? ⟨b, off + j * 3 + 2, none⟩ = some (.slice fa fl fc) ∧ TextsIn w ia il (ps.getD j pk0).2.1 ∧ FuncsIn w fa fl (ps.getD j pk0).2.2
theorem PkgsIn.below {w w' : World} {a : Option Addr} {len : Nat} {ps : List Pk} (h : PkgsIn w a len ps) (hb : Below w.heap.size w w') : PkgsIn w' a len ps := by
  refine ⟨h.1, fun j hj => ?_⟩
  obtain ⟨b, off, e, hlt, c0, ia, il, ic, fa, fl, fc, c1, c2, hi, hf⟩ := h.2 j hj
  exact ⟨b, off, e, Nat.lt_of_lt_of_le hlt hb.size, (hb.cell (p := ⟨b, off + j * 3, none⟩) hlt).trans c0, ia, il, ic, fa, fl, fc, (hb.cell (p := ⟨b, off + j * 3 + 1, none⟩) hlt).trans c1, (hb.cell (p := ⟨b, off + j * 3 + 2, none⟩) hlt).trans c2, hi.below hb, hf.below hb⟩

/-- How long the parts of a project may be. -/
def ShortPs (ps : List Pk) : Prop := ∀ j, (ps.getD j pk0).1.length ≤ 1048576 ∧ (ps.getD j pk0).2.1.length ≤ 1048576 ∧ (∀ i, ((ps.getD j pk0).2.1.getD i []).length ≤ 1048576) ∧ (ps.getD j pk0).2.2.length ≤ 1048576 ∧ ShortF (ps.getD j pk0).2.2


end Go.Proofs.Ytnflkecnddbhoaa

/-! The contracts of chapter 8's specification: ProjectOk, l8Order. -/
namespace Go.Proofs.Ytnflkecnddbhoaa
open Go.RowKit


end Go.Proofs.Ytnflkecnddbhoaa

/-! The contracts of chapter 8's specification: l8Order. -/
namespace Go.Proofs.Ytnflkecnddbhoaa
open Go.RowKit

def lenOf (v : Value) : Nat := match v with | .slice _ n _ => n | _ => 0
/-- Free, as far as its imports were asked. -/
def freeTo (ps : List Pk) (out ims : List (List UInt8)) (k : Nat) : Bool := decide (∀ m ∈ ims.take k, m ∈ names8 ps → m ∈ out)
/-- What the inner walk of l8Order knows: none so far, or the next one. -/
structure Nx8 (ps : List Pk) (out : List (List UInt8)) (i : Nat) (nx : List UInt8) : Prop where
  no : nx = [] → ∀ j, j < i → ¬ free8 ps out (ps.getD j pk0)
  yes : nx ≠ [] → ∃ p, next8 ps out = some p ∧ nx = p.1
theorem new_str8 (w : World) (x : List UInt8) (c : Nat) : Src (w.alloc (.cells #[.string ⟨x.toArray⟩] 9)) (.slice (some ⟨w.heap.size, 0, none⟩) 1 c) 1 1 (strV [x]) := by
  refine ⟨rfl, fun u hu => ?_, Or.inr ⟨_, c, rfl, fun j u hu => ?_⟩⟩
  · simp [strV] at hu; subst hu; rfl
  · exact cell_one_new w _ 9 j u hu
theorem push_text {X : World} {B : Nat} {v : Value} {n : Nat} {ls : List (List UInt8)} (x : List UInt8) (hv : X.ownsRow B 9 1 v n (strV ls)) (hb : B ≤ X.heap.size) (hn : n ≤ 1048576) :
    ∃ v' Y, (Builtin.append_ #[33, 33] 33 #[v, .slice (some ⟨X.heap.size, 0, none⟩) 1 1]).run Try.prog (X.alloc (.cells #[.string ⟨x.toArray⟩] 9)) = .ok v' Y ∧ Y.ownsRow B 9 1 v' (n + 1) (strV (ls ++ [x])) ∧ X.grownBy Y v.ownBlock := by
  obtain ⟨i0, hi, hz0, hz1, hz2⟩ := info_parts info9
  obtain ⟨v', Y, hrun, hown, hg, _⟩ := run_append_src (P := Try.prog) (X.alloc (.cells #[.string ⟨x.toArray⟩] 9)) B 33 33 9 i0 _ 1 16 Try.underlying33 hi hz0 hz1 hz2 rfl (by decide) _ _ _ (hv.alloc _) _ 1 (strV [x]) (new_str8 X x 1) (by unfold maxLen; omega) (by omega) (by simp; omega)
  exact ⟨v', Y, hrun, by rw [← strV_snoc]; exact hown, (World.grownBy_alloc X _ _).trans hg⟩


end Go.Proofs.Ytnflkecnddbhoaa

/-! The contracts of chapter 8's specification: l1Put. -/
namespace Go.Proofs.Ytnflkecnddbhoaa
open Go.RowKit

end Go.Proofs.Ytnflkecnddbhoaa

/-! The contracts of chapter 8's specification: l8Reaches. -/
namespace Go.Proofs.Ytnflkecnddbhoaa
open Go.RowKit

theorem Re8.part {ps : List Pk} {s : List UInt8} {o : List (List UInt8)} (h : Re8 ps s o) {p : Pk} (hp : p ∈ ps) (hpo : p.1 ∈ o) (i : Nat) : Re8 ps s (inner8 ps o (p.2.1.take i)) := Re8.inner hp _ _ h hpo (fun _ hm => List.mem_of_mem_take hm)

/-- What l8Reaches holds of a list of names. -/
structure Ro8 (w X : World) (ps : List Pk) (g c : Nat) (o : List (List UInt8)) : Prop where
  own : X.ownsRow w.heap.size 9 1 (.slice (some ⟨g, 0, none⟩) o.length c) o.length (strV o)
  h : Below w.heap.size w X
end Go.Proofs.Ytnflkecnddbhoaa

/-! The contracts of chapter 8's specification: l8Needs, Order, Reaches, Needs. -/
namespace Go.Proofs.Ytnflkecnddbhoaa
open Go.RowKit

def keep8 (r : List (List UInt8)) (s x : List UInt8) : Bool := decide (x ≠ s ∧ x ∈ r)
end Go.Proofs.Ytnflkecnddbhoaa

/-! A row of bytes that a call has made of a string ('[]byte(s)'), and 'append(b, s...)' onto it, whether there is room or not. -/
namespace Go.Proofs.Ytnflkecnddbhoaa
open Go.RowKit

/-- Block g, new since 'base', holds the bytes l from its head on; all of its cap cells may be written. -/
structure RowW (w : World) (base g cap : Nat) (l : List UInt8) : Prop where
  row : RowB w base g cap l
  all : ∀ j, j < cap → (w.cell? ⟨g, j, none⟩).isSome = true ∧ w.frozen? ⟨g, j, none⟩ = false

theorem RowW.kept {w w' : World} {base g cap : Nat} {l : List UInt8} {row : Option Nat} (h : RowW w base g cap l) (hg : w.grownBy w' row) (hne : some g ≠ row) : RowW w' base g cap l := by
  have hb := hg.block g h.row.there hne
  exact ⟨h.row.kept hg hne, fun j hj => by rw [World.cell?_of_block (a := ⟨g, j, none⟩) hb, World.frozen?_of_block (a := ⟨g, j, none⟩) hb]; exact h.all j hj⟩

theorem RowW.below {w w' : World} {base g cap : Nat} {l : List UInt8} (h : RowW w base g cap l) (hb : Below w.heap.size w w') : RowW w' base g cap l :=
  h.kept (row := none) ⟨hb.os, hb.tape, hb.output, hb.size, fun k hk _ => hb.block k hk⟩ (by simp)

theorem RowW.drew {w : World} {base g cap : Nat} {l : List UInt8} (h : RowW w base g cap l) : RowW w.drew base g cap l :=
  h.below ⟨rfl, rfl, rfl, Nat.le_refl _, fun _ _ => rfl⟩

/-- '[]byte(s)': the new block, its value and its world. -/
theorem RowW.made (w : World) (l : List UInt8) (hl : l.length ≤ 4194304) :
    ∃ cap w', (convert 9 22 (.string ⟨l.toArray⟩)).run Try.prog w = .ok (.slice (some ⟨w.heap.size, 0, none⟩) l.length cap) w' ∧ RowW w' w.heap.size w.heap.size cap l ∧ Below w.heap.size w w' := by
  have hconv := run_bytes_of_string (P := Try.prog) w 9 22 5 ⟨l.toArray⟩ Try.underlying9 Try.underlying22 Try.underlying5
  have hrow := RowB.made w l (by unfold maxLen; omega)
  have hszs : (⟨l.toArray⟩ : ByteArray).size = l.length := rfl
  rw [hszs] at hconv
  have hge := grownCap_ge w l.length 0 5
  have hCs : (bytesRow ⟨l.toArray⟩ (grownCap w l.length 0 5)).size = grownCap w l.length 0 5 := by simp [bytesRow]; omega
  generalize bytesRow ⟨l.toArray⟩ (grownCap w l.length 0 5) = C at hconv hrow hCs
  generalize grownCap w l.length 0 5 = cp at hconv hrow hge hCs
  refine ⟨cp, _, hconv, ⟨hrow, fun j hj => ?_⟩, ((Below.refl _ w).drew).alloc (Nat.le_refl _) _⟩
  have hA : (w.drew.alloc (.cells C 5 (C.size, C.size + 1))).heap[w.heap.size]? = some (.cells C 5 (C.size, C.size + 1)) := heap_alloc_new w.drew _
  generalize w.drew.alloc (.cells C 5 (C.size, C.size + 1)) = W at hA ⊢
  refine ⟨?_, ?_⟩
  · simp [World.cell?, hA]; omega
  · simp [World.frozen?, hA]; omega

end Go.Proofs.Ytnflkecnddbhoaa

/-! The contracts of chapter 7's specification: l7Show, ShowPackage. -/
namespace Go.Proofs.Ytnflkecnddbhoaa
open Go.RowKit

/-- What a round of l7Show's second loop holds: the function's own block, the row that is written, the function's tree. -/
structure ShSt (X W : World) (B F g cap : Nat) (l s : List UInt8) (n : Int) (t : List Nd) (ta : Option Addr) (tl tc : Nat) : Prop where
  c0 : X.cell? ⟨F, 0, none⟩ = some (.string ⟨s.toArray⟩)
  c1 : X.cell? ⟨F, 1, none⟩ = some (.int .i64 n)
  c2 : X.cell? ⟨F, 2, none⟩ = some (.slice ta tl tc)
  ne : g ≠ F
  row : RowW X B g cap l
  nodes : NodesIn X ta tl t
  b : Below B W X
  bs : B ≤ X.heap.size

theorem ShSt.below {X Y W : World} {B F g cap : Nat} {l s : List UInt8} {n : Int} {t : List Nd} {ta : Option Addr} {tl tc : Nat} (h : ShSt X W B F g cap l s n t ta tl tc) (hb : Below X.heap.size X Y) : ShSt Y W B F g cap l s n t ta tl tc :=
  have hl : F < X.heap.size := World.block_lt_of_cell? X ⟨F, 0, none⟩ h.c0
  ⟨(hb.cell (p := ⟨F, 0, none⟩) hl).trans h.c0, (hb.cell (p := ⟨F, 1, none⟩) hl).trans h.c1, (hb.cell (p := ⟨F, 2, none⟩) hl).trans h.c2, h.ne, h.row.below hb, h.nodes.below hb, h.b.trans (hb.mono h.bs), Nat.le_trans h.bs hb.size⟩

theorem ShSt.drew {X W : World} {B F g cap : Nat} {l s : List UInt8} {n : Int} {t : List Nd} {ta : Option Addr} {tl tc : Nat} (h : ShSt X W B F g cap l s n t ta tl tc) : ShSt X.drew W B F g cap l s n t ta tl tc :=
  h.below ⟨rfl, rfl, rfl, Nat.le_refl _, fun _ _ => rfl⟩

end Go.Proofs.Ytnflkecnddbhoaa
