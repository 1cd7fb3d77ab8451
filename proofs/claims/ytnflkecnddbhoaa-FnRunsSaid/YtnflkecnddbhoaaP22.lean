/-
  Parts of one proof, one behind the other: RtU, RtO, RtL, RtT.
-/
import Derived.Test.YtnflkecnddbhoaaP21
import Derived.Test.YtnflkecnddbhoaaP2
import Derived.Test.YtnflkecnddbhoaaP12

/-! What the writing of several blocks leaves; rows that lie apart; blocks of three cells. -/
namespace Go.Proofs.Ytnflkecnddbhoaa
open Go.RowKit

/-- Of what was there nothing but the blocks of S was written. -/
structure WroteR (w w' : World) (S : Nat → Prop) : Prop where
  os : w'.os = w.os
  tape : w'.tape = w.tape
  output : w'.output = w.output
  size : w.heap.size ≤ w'.heap.size
  block : ∀ k, k < w.heap.size → ¬ S k → w'.heap[k]? = w.heap[k]?

theorem WroteR.refl (w : World) (S : Nat → Prop) : WroteR w w S := ⟨rfl, rfl, rfl, Nat.le_refl _, fun _ _ _ => rfl⟩
theorem WroteR.trans {a b c : World} {S : Nat → Prop} (h : WroteR a b S) (k : WroteR b c S) : WroteR a c S :=
  ⟨k.os.trans h.os, k.tape.trans h.tape, k.output.trans h.output, Nat.le_trans h.size k.size, fun i hi hs => (k.block i (Nat.lt_of_lt_of_le hi h.size) hs).trans (h.block i hi hs)⟩
theorem WroteR.mono {w w' : World} {S T : Nat → Prop} (h : WroteR w w' S) (hs : ∀ k, S k → T k) : WroteR w w' T := ⟨h.os, h.tape, h.output, h.size, fun k hk hn => h.block k hk (fun e => hn (hs k e))⟩
theorem WroteR.of_grown {w w' : World} {row : Option Nat} {S : Nat → Prop} (h : w.grownBy w' row) (hs : ∀ k, row = some k → S k) : WroteR w w' S :=
  ⟨h.os, h.tape, h.output, h.size, fun k hk hn => h.block k hk (fun e => hn (hs k e.symm))⟩
theorem WroteR.of_below {w w' : World} {S : Nat → Prop} (h : Below w.heap.size w w') : WroteR w w' S := ⟨h.os, h.tape, h.output, h.size, fun k hk _ => h.block k hk⟩
theorem WroteR.below {w w' : World} {S : Nat → Prop} {B : Nat} (h : WroteR w w' S) (hB : B ≤ w.heap.size) (hs : ∀ k, S k → B ≤ k) : Below B w w' :=
  ⟨h.os, h.tape, h.output, h.size, fun k hk => h.block k (Nat.lt_of_lt_of_le hk hB) (fun e => by have := hs k e; omega)⟩
theorem own_wroteR {w w' : World} {base e size n : Nat} {v : Value} {xs : List Value} {S : Nat → Prop} (h : w.ownsRow base e size v n xs) (hw : WroteR w w' S) (hv : ∀ k, v.ownBlock = some k → ¬ S k) : w'.ownsRow base e size v n xs := by
  refine ⟨h.1, ?_⟩
  rcases h.2 with hn | ⟨g, cap, cur, rfl, hb, hgg, rest⟩
  · exact .inl hn
  · refine .inr ⟨g, cap, cur, rfl, hb, ?_, rest⟩
    rw [hw.block g (Array.getElem?_eq_some_iff.1 hgg).1 (hv g rfl)]
    exact hgg

/-- The trees lie apart, one by one. -/
def ApartR (vs : List Value) : Prop := vs.Pairwise (fun a b => a.ownBlock = none ∨ a.ownBlock ≠ b.ownBlock)
theorem ApartR.ne {vs : List Value} (h : ApartR vs) {i j : Nat} (hi : i < vs.length) (hj : j < vs.length) (hij : i ≠ j) : vs[i].ownBlock = none ∨ vs[i].ownBlock ≠ vs[j].ownBlock := by
  rcases Nat.lt_or_gt_of_ne hij with hl | hl
  · exact List.pairwise_iff_getElem.1 h i j hi hj hl
  · rcases List.pairwise_iff_getElem.1 h j i hj hi hl with e | e
    · rw [e]; cases vs[i].ownBlock <;> simp
    · exact Or.inr (fun e2 => e e2.symm)

theorem ApartR.nil : ApartR [] := List.Pairwise.nil
theorem ApartR.snoc {vs : List Value} {u : Value} (h : ApartR vs) (hu : ∀ v ∈ vs, v.ownBlock = none ∨ v.ownBlock ≠ u.ownBlock) : ApartR (vs ++ [u]) :=
  List.pairwise_append.2 ⟨h, List.pairwise_singleton _ _, fun a ha b hb => by rw [List.mem_singleton] at hb; subst hb; exact hu a ha⟩
/-- A row that lies ahead of a place, and one that lies behind it. -/
theorem own_aheadR {w w' : World} {b1 b2 e1 e2 s1 s2 n1 n2 : Nat} {v1 v2 : Value} {xs ys : List Value} (h1 : w.ownsRow b1 e1 s1 v1 n1 xs) (h2 : w'.ownsRow b2 e2 s2 v2 n2 ys) (hb : w.heap.size ≤ b2) : v1.ownBlock = none ∨ v1.ownBlock ≠ v2.ownBlock := by
  cases hv : v1.ownBlock with
  | none => exact Or.inl rfl
  | some k =>
    refine Or.inr (fun e => ?_)
    have l1 := (h1.lt k hv).2
    have l2 := (h2.lt k e.symm).1
    omega

theorem cell_alwR {w : World} {a : Addr} {v : Value} (o : Obj) (h : w.cell? a = some v) : (w.alloc o).cell? a = some v :=
  (World.cell?_of_block (Below.heap_alloc _ _ _ (World.block_lt_of_cell? w a h))).trans h

/-- Three cells of a block are written. -/
theorem set3R {X : World} {R : Nat} {a0 a1 a2 : Value} (u0 u1 u2 : Value) (r0 : X.cell? ⟨R, 0, none⟩ = some a0) (r1 : X.cell? ⟨R, 1, none⟩ = some a1) (r2 : X.cell? ⟨R, 2, none⟩ = some a2) :
    ∃ Y, ((X.setCell ⟨R, 0, none⟩ u0).setCell ⟨R, 1, none⟩ u1).setCell ⟨R, 2, none⟩ u2 = Y ∧ Y.cell? ⟨R, 0, none⟩ = some u0 ∧ Y.cell? ⟨R, 1, none⟩ = some u1 ∧ Y.cell? ⟨R, 2, none⟩ = some u2 ∧ X.grownBy Y (some R) := by
  refine ⟨_, rfl, ?_, ?_, ?_, ?_⟩
  · exact (World.cell?_setCell_other _ _ _ _ (by simp)).trans ((World.cell?_setCell_other _ _ _ _ (by simp)).trans (World.cell?_setCell_same _ _ _ r0))
  · exact (World.cell?_setCell_other _ _ _ _ (by simp)).trans (World.cell?_setCell_same _ _ _ ((World.cell?_setCell_other _ _ _ _ (by simp)).trans r1))
  · exact World.cell?_setCell_same _ _ _ ((World.cell?_setCell_other _ _ _ _ (by simp)).trans ((World.cell?_setCell_other _ _ _ _ (by simp)).trans r2))
  · exact ((grown_set _ _ _ _).trans (grown_set _ _ _ _)).trans (grown_set _ _ _ _)

/-- The cells of a block of threeR that lies as it was made. -/
theorem threeR {X W : World} {R : Nat} {u0 u1 u2 : Value} {T : TypeId} (hX : Below W.heap.size W X) (hlt : R < W.heap.size) (hR : W.heap[R]? = some (.cells #[u0, u1, u2] T)) :
    X.cell? ⟨R, 0, none⟩ = some u0 ∧ X.cell? ⟨R, 1, none⟩ = some u1 ∧ X.cell? ⟨R, 2, none⟩ = some u2 ∧ ∀ j, X.frozen? ⟨R, j, none⟩ = false := by
  have e := (hX.block R hlt).trans hR
  clear hX hR
  exact ⟨by simp [World.cell?, e], by simp [World.cell?, e], by simp [World.cell?, e], fun j => by simp [World.frozen?, e]⟩

/-- A row that is owned above a block does not lie in it. -/
theorem own_offR {w : World} {base e size n R : Nat} {v : Value} {xs : List Value} (h : w.ownsRow base e size v n xs) (hR : R < base) : v.ownBlock = none ∨ v.ownBlock ≠ some R := by
  rcases hv : v.ownBlock with _ | k
  · exact Or.inl rfl
  · refine Or.inr (fun e => ?_)
    have := (h.lt k hv).1
    injection e with e
    omega

/-- Rows of elements of two types lie in two blocks. -/
theorem own_typesR {w : World} {b1 b2 e1 e2 s1 s2 n1 n2 : Nat} {v1 v2 : Value} {xs ys : List Value} (h1 : w.ownsRow b1 e1 s1 v1 n1 xs) (h2 : w.ownsRow b2 e2 s2 v2 n2 ys) (he : e1 ≠ e2) : v1.ownBlock = none ∨ v1.ownBlock ≠ v2.ownBlock := by
  rcases h1.2 with ⟨rfl, _⟩ | ⟨g, c, cur, rfl, _, hg, _⟩
  · exact Or.inl rfl
  · rcases h2.2 with ⟨rfl, _⟩ | ⟨g2, c2, cur2, rfl, _, hg2, _⟩
    · exact Or.inr (by simp [Value.ownBlock])
    · refine Or.inr (fun e => ?_)
      simp only [Value.ownBlock, Option.some.injEq] at e
      subst e
      rw [hg] at hg2
      simp only [Option.some.injEq, Obj.cells.injEq] at hg2
      exact he hg2.2.1

theorem add_plainR (b off i : Nat) : (⟨b, off, none⟩ : Addr).add i = ⟨b, off + i, none⟩ := by unfold Addr.add; split <;> simp_all

end Go.Proofs.Ytnflkecnddbhoaa

/-! Routines that a call has made: each with its code in a row of its own. -/
namespace Go.Proofs.Ytnflkecnddbhoaa
open Go.RowKit

/-- A function, and where its tree lies. -/
abbrev RV := Rt × Option Addr × Nat
def rvT (x : RV) : Value := .slice x.2.1 x.1.2.2.length x.2.2
def rtsV : List RV → List Value
  | [] => []
  | x :: r => .string ⟨x.1.1.toArray⟩ :: .int .i64 x.1.2.1 :: rvT x :: rtsV r

def rv0 : RV := (rt0, none, 0)

theorem rtsV_len (xs : List RV) : (rtsV xs).length = xs.length * 3 := by
  induction xs with
  | nil => rfl
  | cons n r ih => simp only [rtsV, List.length_cons, ih]; omega

theorem rtsV_append (x y : List RV) : rtsV (x ++ y) = rtsV x ++ rtsV y := by
  induction x with
  | nil => rfl
  | cons n r ih => simp [rtsV, ih]

theorem rtsV_one (xs : List RV) : ∀ u ∈ rtsV xs, u.oneCell' = true := by
  induction xs with
  | nil => intro u hu; cases hu
  | cons n r ih =>
    intro u hu
    simp only [rtsV, List.mem_cons] at hu
    rcases hu with rfl | rfl | rfl | h
    · rfl
    · rfl
    · rfl
    · exact ih u h

theorem rtsV_at (xs : List RV) (j : Nat) (hj : j < xs.length) : (rtsV xs)[j * 3]? = some (.string ⟨(xs.getD j rv0).1.1.toArray⟩) ∧ (rtsV xs)[j * 3 + 1]? = some (.int .i64 (xs.getD j rv0).1.2.1) ∧ (rtsV xs)[j * 3 + 2]? = some (rvT (xs.getD j rv0)) := by
  induction xs generalizing j with
  | nil => simp at hj
  | cons n r ih =>
    cases j with
    | zero => simp [rtsV]
    | succ j =>
      obtain ⟨h0, h1, h2⟩ := ih j (by simpa using hj)
      refine ⟨?_, ?_, ?_⟩
      · rw [show (j + 1) * 3 = j * 3 + 1 + 1 + 1 by omega]; simpa [rtsV] using h0
      · rw [show (j + 1) * 3 + 1 = j * 3 + 1 + 1 + 1 + 1 by omega]; simpa [rtsV] using h1
      · rw [show (j + 1) * 3 + 2 = j * 3 + 2 + 1 + 1 + 1 by omega]; simpa [rtsV] using h2

structure RtsOwn (w : World) (base : Nat) (v : Value) (xs : List RV) : Prop where
  row : w.ownsRow base 51 3 v xs.length (rtsV xs)
  trees : ∀ x ∈ xs, w.ownsRow base 74 5 (rvT x) x.1.2.2.length (insV x.1.2.2)

theorem RtsOwn.below {w w' : World} {base : Nat} {v : Value} {xs : List RV} (h : RtsOwn w base v xs) (hb : Below w.heap.size w w') : RtsOwn w' base v xs := ⟨own_below h.row hb, fun x hx => own_below (h.trees x hx) hb⟩

theorem RtsOwn.kept {w w' : World} {base : Nat} {v : Value} {xs : List RV} {row : Option Nat} (h : RtsOwn w base v xs) (hg : w.grownBy w' row) (h1 : v.ownBlock = none ∨ v.ownBlock ≠ row) (h2 : ∀ x ∈ xs, (rvT x).ownBlock = none ∨ (rvT x).ownBlock ≠ row) : RtsOwn w' base v xs :=
  ⟨h.row.kept hg h1, fun x hx => (h.trees x hx).kept hg (h2 x hx)⟩

theorem RtsOwn.base {w : World} {base b2 : Nat} {v : Value} {xs : List RV} (h : RtsOwn w base v xs) (hb : b2 ≤ base) : RtsOwn w b2 v xs := ⟨own_base h.row hb, fun x hx => own_base (h.trees x hx) hb⟩

theorem RtsOwn.nil (w : World) (base : Nat) : RtsOwn w base (.slice none 0 0) [] := ⟨World.ownsRow_nil w _ _ _, fun x hx => by cases hx⟩

theorem getD_map_rt (xs : List RV) (j : Nat) : (xs.map (·.1)).getD j rt0 = (xs.getD j rv0).1 := by
  rw [List.getD_eq_getElem?_getD, List.getD_eq_getElem?_getD, List.getElem?_map]
  cases xs[j]? <;> rfl

/-- What is owned can be read. -/
theorem RtsOwn.in {w : World} {base : Nat} {v : Value} {xs : List RV} (h : RtsOwn w base v xs) : ∃ a cap, v = .slice a xs.length cap ∧ (a = none → cap = 0) ∧ RtsIn w a xs.length (xs.map (·.1)) := by
  rcases own_forms h.row with ⟨rfl, h0, _⟩ | ⟨g, cp, rfl⟩
  · exact ⟨none, 0, by rw [h0], fun _ => rfl, by simp, fun j hj => by omega⟩
  · refine ⟨some ⟨g, 0, none⟩, cp, rfl, fun e => (by cases e), by simp, fun j hj => ?_⟩
    obtain ⟨v0, v1, v2⟩ := rtsV_at xs j hj
    have hc := fun k (hk : k < xs.length * 3) => World.ownsRow.cellAt h.row k hk
    have hmem : xs.getD j rv0 ∈ xs := by rw [List.getD_eq_getElem?_getD, List.getElem?_eq_getElem hj]; exact List.getElem_mem hj
    obtain ⟨hl, a, cap, e, hn⟩ := own_ins (h.trees _ hmem)
    refine ⟨g, 0, rfl, (h.row.lt g rfl).2, ?_, ?_, (xs.getD j rv0).2.1, (xs.getD j rv0).1.2.2.length, (xs.getD j rv0).2.2, ?_, ?_⟩
    · rw [Nat.zero_add, hc _ (by omega), v0, getD_map_rt]
    · rw [Nat.zero_add, hc _ (by omega), v1, getD_map_rt]
    · rw [Nat.zero_add, hc _ (by omega), v2]; rfl
    · rw [getD_map_rt]
      unfold rvT at e
      injection e with e1 e2 e3
      rw [e1]; exact hn

theorem infoRt : (Try.prog.info? 51).map (fun i => (i.zero, i.size, i.bytes)) = some (some (.agg #[.string ⟨#[]⟩, .int .i64 0, .slice none 0 0]), 3, 48) := by kernel_rfl

/-- A new block of one function, as 'append' reads it. -/
theorem new_rt (w : World) (x : RV) (c : Nat) : Src (w.alloc (.cells #[.string ⟨x.1.1.toArray⟩, .int .i64 x.1.2.1, rvT x] 51)) (.slice (some ⟨w.heap.size, 0, none⟩) 1 c) 1 3 (rtsV [x]) := by
  refine ⟨rfl, rtsV_one _, Or.inr ⟨_, c, rfl, fun j u hu => ?_⟩⟩
  rw [add_plainR, Nat.zero_add]
  match j, hu with
  | 0, hu => simp [rtsV] at hu; subst hu; simp
  | 1, hu => simp [rtsV] at hu; subst hu; simp
  | 2, hu => simp [rtsV] at hu; subst hu; simp
  | j + 3, hu => simp [rtsV] at hu

end Go.Proofs.Ytnflkecnddbhoaa

/-! The laws' own helpers over routines: szRoutine, szRoutineS. -/
namespace Go.Proofs.Ytnflkecnddbhoaa
open Go.RowKit

def szR (m : Nat) (left : Int) : Int := if (m : Int) ≤ left then left - (m : Int) else -1
theorem szR_yes {m : Nat} {left : Int} (h : (m : Int) ≤ left) : szR m left = left - (m : Int) := by unfold szR; rw [if_pos h]
theorem szR_no {m : Nat} {left : Int} (h : ¬ (m : Int) ≤ left) : szR m left = -1 := by unfold szR; rw [if_neg h]

def rtSz (f : Rt) : Nat := f.1.length + (f.2.2.length + textsI f.2.2)
def rtsSz : List Rt → Nat
  | [] => 0
  | f :: r => rtSz f + rtsSz r
theorem rtsSz_append (x y : List Rt) : rtsSz (x ++ y) = rtsSz x + rtsSz y := by
  induction x with
  | nil => simp [rtsSz]
  | cons n r ih => simp only [List.cons_append, rtsSz, ih]; omega
theorem rtsSz_snoc (fs : List Rt) (k : Nat) (hk : k < fs.length) : rtsSz (fs.take (k + 1)) = rtsSz (fs.take k) + rtSz (fs.getD k rt0) := by
  have hg : fs.getD k rt0 = fs[k] := by simp [List.getD, hk]
  rw [hg, List.take_succ_eq_append_getElem hk, rtsSz_append]
  simp [rtsSz]
theorem rtsSz_take (fs : List Rt) (k : Nat) : rtsSz (fs.take k) ≤ rtsSz fs := by
  have := rtsSz_append (fs.take k) (fs.drop k)
  rw [List.take_append_drop] at this
  omega
theorem rtsSz_at (fs : List Rt) (j : Nat) : rtSz (fs.getD j rt0) ≤ rtsSz fs := by
  by_cases hj : j < fs.length
  · have h1 := rtsSz_snoc fs j hj
    have h2 := rtsSz_take fs (j + 1)
    omega
  · have : fs.getD j rt0 = rt0 := by rw [List.getD, List.getElem?_eq_none (by omega)]; rfl
    rw [this]; simp [rt0, rtSz, textsI]

def LongR (fs : List Rt) : Prop := ∀ j, (fs.getD j rt0).1.length ≤ maxLen ∧ (fs.getD j rt0).2.2.length ≤ maxLen ∧ LongI (fs.getD j rt0).2.2

theorem shortR_of {fs : List Rt} (h : rtsSz fs ≤ 1048576) : ShortR fs := fun j => by
  have h1 := rtsSz_at fs j
  unfold rtSz at h1
  exact ⟨by omega, by omega, shortI_of (by omega)⟩

set_option maxHeartbeats 1000000 in
set_option maxRecDepth 100000 in
theorem szRoutineC (s : List UInt8) (n : Int) (t : List In13) (ta : Option Addr) (tl tc : Nat) (left : Int) (w : World) (hin : InsIn w ta tl t) (h0 : 0 ≤ left) (h1 : left ≤ 1048576) (hs : s.length ≤ maxLen) (ht : t.length ≤ maxLen) (hm : LongI t) :
    Calls Try.prog 59 #[.agg #[.string ⟨s.toArray⟩, .int .i64 n, .slice ta tl tc], .int .i64 left] w fun e w' => e = .returned (.int .i64 (szR (rtSz (s, n, t)) left)) ∧ Below w.heap.size w w' := by
  obtain rfl : t.length = tl := hin.1
  unfold maxLen at hs
  have hs2 : (s.length : Int) ≤ 9223372036854775807 := by omega
  obtain ⟨W, hW⟩ : ∃ W, w.alloc (.cells #[.string ⟨s.toArray⟩, .int .i64 n, .slice ta t.length tc] 107) = W := ⟨_, rfl⟩
  have hbW : Below w.heap.size w W := by rw [← hW]; exact (Below.refl _ _).alloc (Nat.le_refl _) _
  have hA : W.heap[w.heap.size]? = some (.cells #[.string ⟨s.toArray⟩, .int .i64 n, .slice ta t.length tc] 107) := by rw [← hW]; exact heap_alloc_new w _
  have k0 : W.cell? ⟨w.heap.size, 0, none⟩ = some (.string ⟨s.toArray⟩) := by simp [World.cell?, hA]
  have k2 : W.cell? ⟨w.heap.size, 2, none⟩ = some (.slice ta t.length tc) := by simp [World.cell?, hA]
  have hinW := hin.below hbW
  clear hin hA
  by_cases hfit : (s.length : Int) ≤ left
  · have HC := szInsSC ta t.length tc t (left - (s.length : Int)) W hinW (by omega) (by omega) ht hm
    by_cases hfit2 : (t.length : Int) + (textsI t : Int) ≤ left - (s.length : Int)
    · have HZ : Hid (szN t.length (textsI t) (left - (s.length : Int)) = szR (rtSz (s, n, t)) left) := by exact (by rw [szN_yes hfit2, szR_yes (by unfold rtSz; simp only; omega)]; unfold rtSz; simp only; omega : szN t.length (textsI t) (left - (s.length : Int)) = szR (rtSz (s, n, t)) left)
      have hge : 0 ≤ szR (rtSz (s, n, t)) left := by rw [← HZ.out, szN_yes hfit2]; omega
      have hge2 : 0 ≤ left - (s.length : Int) := by omega
      rw [HZ.out] at HC
      generalize szR (rtSz (s, n, t)) left = z at HC hge ⊢
      clear HZ
      go_enter Try.func59, Try.ntmps59
      go_wp2_with fail
      refine HC.mono ?_
      rintro e w1 ⟨rfl, hb1⟩
      have hb : Below w.heap.size w w1 := hbW.trans (hb1.mono hbW.size)
      clear HC hb1
      go_wp2
      go_ret
      exact ⟨rfl, hb⟩
    · have HZ : Hid (szN t.length (textsI t) (left - (s.length : Int)) = -1) := szN_no hfit2
      have HR : Hid (szR (rtSz (s, n, t)) left = -1) := szR_no (by unfold rtSz; simp only; omega)
      have hge2 : 0 ≤ left - (s.length : Int) := by omega
      rw [HZ.out] at HC
      go_enter Try.func59, Try.ntmps59
      go_wp2_with fail
      refine HC.mono ?_
      rintro e w1 ⟨rfl, hb1⟩
      have hb : Below w.heap.size w w1 := hbW.trans (hb1.mono hbW.size)
      clear HC hb1
      go_wp2
      go_ret
      exact ⟨by rw [HR.out]; rfl, hb⟩
  · have HR : Hid (szR (rtSz (s, n, t)) left = -1) := szR_no (by unfold rtSz; simp only; omega)
    have hlt : left - (s.length : Int) < 0 := by omega
    go_enter Try.func59, Try.ntmps59
    go_wp2
    go_ret
    exact ⟨by rw [HR.out]; rfl, hbW⟩

set_option maxHeartbeats 2000000 in
set_option maxRecDepth 100000 in
theorem szRoutineSC (a : Option Addr) (len cap : Nat) (fs : List Rt) (left : Int) (w : World) (hin : RtsIn w a len fs) (h0 : 0 ≤ left) (h1 : left ≤ 1048576) (hl : len ≤ maxLen) (hm : LongR fs) :
    Calls Try.prog 31 #[.slice a len cap, .int .i64 left] w fun e w' => e = .returned (.int .i64 (szR (len + rtsSz fs) left)) ∧ Below w.heap.size w w' := by
  unfold maxLen at hl
  have hl2 : (len : Int) ≤ 9223372036854775807 := by omega
  have hlb := hin.1
  by_cases h : (len : Int) ≤ left
  · have hlen : len ≤ 1048576 := by omega
    have HI : Hid (RtsIn w a len fs) := hin
    have HM : Hid (LongR fs) := hm
    clear hin hm
    go_enter Try.func31, Try.ntmps31
    go_wp2
    go_loopw [1, 5] (fun l i wr => ∃ k : Nat, k ≤ len ∧ i = .int .i64 k ∧ l = .int .i64 (left - (len : Int) - (rtsSz (fs.take k) : Int)) ∧ (rtsSz (fs.take k) : Int) ≤ left - (len : Int) ∧ Below w.heap.size w wr) (fun _ i _ => len - (intOf i).toNat)
    case atStart => exact ⟨0, Nat.zero_le _, rfl, by simp [rtsSz], by simp [rtsSz]; omega, Below.refl _ _⟩
    case round =>
      obtain ⟨k, hk, rfl, rfl, hle, hB⟩ := hrel
      by_cases hkl : (k : Int) < (len : Int)
      · obtain ⟨b, off, rfl, hbl, c0, c1, ta, tl, tc, c2, hnin⟩ := (HI.out.below hB).2 k (by omega)
        have hmk := HM.out k
        have hst := rtsSz_snoc fs k (by omega)
        have htt := rtsSz_take fs (k + 1)
        obtain ⟨f, hf⟩ : ∃ f, fs.getD k rt0 = f := ⟨_, rfl⟩
        rw [hf] at c0 c1 hmk hst hnin
        obtain ⟨s, n, t⟩ := f
        simp only at c0 c1 hmk hnin
        obtain ⟨m, hmm⟩ : ∃ m, rtsSz (fs.take k) = m := ⟨_, rfl⟩
        rw [hmm] at hle hst ⊢
        obtain ⟨z, hz⟩ : ∃ z, rtSz (s, n, t) = z := ⟨_, rfl⟩
        have HC := szRoutineC s n t ta tl tc (left - (len : Int) - (m : Int)) wr hnin (by omega) (by omega) hmk.1 hmk.2.1 hmk.2.2
        rw [hz] at hst HC
        have HS : Hid (rtsSz (fs.take (k + 1)) = m + z) := hst
        clear hst hf hmm hz hnin
        by_cases hfit : (z : Int) ≤ left - (len : Int) - (m : Int)
        · have HZ : Hid (szR z (left - (len : Int) - (m : Int)) = left - (len : Int) - (rtsSz (fs.take (k + 1)) : Int)) := by
            exact (by rw [HS.out, szR_yes (by omega)]; omega : szR z (left - (len : Int) - (m : Int)) = left - (len : Int) - (rtsSz (fs.take (k + 1)) : Int))
          rw [HZ.out] at HC
          go_wp2_with fail
          refine HC.mono ?_
          rintro e w1 ⟨rfl, hb1⟩
          have hle2 : (rtsSz (fs.take (k + 1)) : Int) ≤ left - (len : Int) := by rw [HS.out]; omega
          have hge : (0 : Int) ≤ left - (len : Int) - (rtsSz (fs.take (k + 1)) : Int) := by omega
          clear HC
          go_wp2
          go_roundw
          case rel => exact ⟨k + 1, by omega, by go_num, rfl, hle2, hB.trans (hb1.mono hB.size)⟩
          case measure => simp [intOf]; omega
        · have HZ : Hid (szR z (left - (len : Int) - (m : Int)) = -1) := szR_no (by omega)
          have HR : Hid (szR (len + rtsSz fs) left = -1) := szR_no (by have := HS.out; omega)
          rw [HZ.out] at HC
          go_wp2_with fail
          refine HC.mono ?_
          rintro e w1 ⟨rfl, hb1⟩
          clear HC
          go_wp2
          go_ret
          exact ⟨by rw [HR.out]; rfl, hB.trans (hb1.mono hB.size)⟩
      · have HT : Hid (fs.take k = fs) := List.take_of_length_le (by omega)
        have HR : Hid (szR (len + rtsSz fs) left = left - (len : Int) - (rtsSz (fs.take k) : Int)) := by exact (by rw [HT.out] at hle ⊢; rw [szR_yes (by omega)]; omega : szR (len + rtsSz fs) left = left - (len : Int) - (rtsSz (fs.take k) : Int))
        go_wp2
        go_ret
        exact ⟨by rw [HR.out]; rfl, hB⟩
  · have HR : Hid (szR (len + rtsSz fs) left = -1) := szR_no (by omega)
    clear hin hm
    go_enter Try.func31, Try.ntmps31
    go_wp2
    go_ret
    exact ⟨by rw [HR.out]; rfl, Below.refl _ _⟩

end Go.Proofs.Ytnflkecnddbhoaa

/-! The laws' own helpers over routines: toRoutine, toRoutineS. -/
namespace Go.Proofs.Ytnflkecnddbhoaa
open Go.RowKit

set_option maxHeartbeats 2000000 in
set_option maxRecDepth 100000 in
theorem toRoutineC (s : List UInt8) (n : Int) (t : List In13) (ta : Option Addr) (tl tc : Nat) (w : World) (hin : InsIn w ta tl t) (hlen : tl ≤ 1048576) :
    Calls Try.prog 63 #[.agg #[.string ⟨s.toArray⟩, .int .i64 n, .slice ta tl tc]] w fun e w' => ∃ a c, e = .returned (.agg #[.string ⟨s.toArray⟩, .int .i64 n, .slice a t.length c]) ∧ w'.ownsRow w.heap.size 74 5 (.slice a t.length c) t.length (insV t) ∧ Below w.heap.size w w' := by
  obtain rfl : t.length = tl := hin.1
  obtain ⟨D, hD⟩ : ∃ D, w.heap.size = D := ⟨_, rfl⟩
  obtain ⟨W1, hW1⟩ : ∃ W, w.alloc (.cells #[.string ⟨s.toArray⟩, .int .i64 n, .slice ta t.length tc] 107) = W := ⟨_, rfl⟩
  obtain ⟨W2, hW2⟩ : ∃ W, W1.alloc (.cells #[.string ⟨#[]⟩, .int .i64 0, .slice none 0 0] 51) = W := ⟨_, rfl⟩
  have hs1 : W1.heap.size = D + 1 := by rw [← hW1, ← hD]; simp
  have hs2 : W2.heap.size = D + 2 := by rw [← hW2]; simp [hs1]
  have hb1 : Below D w W1 := by rw [← hW1, ← hD]; exact (Below.refl _ _).alloc (Nat.le_refl _) _
  have hb12 : Below W1.heap.size W1 W2 := by rw [← hW2]; exact (Below.refl _ _).alloc (Nat.le_refl _) _
  have hb2 : Below D w W2 := hb1.trans (hb12.mono (by omega))
  have hA1 : W1.heap[D]? = some (.cells #[.string ⟨s.toArray⟩, .int .i64 n, .slice ta t.length tc] 107) := by rw [← hW1, ← hD]; exact heap_alloc_new w _
  have hR : W2.heap[D + 1]? = some (.cells #[.string ⟨#[]⟩, .int .i64 0, .slice none 0 0] 51) := by rw [← hs1, ← hW2]; exact heap_alloc_new W1 _
  obtain ⟨q0, q1, q2, _⟩ := threeR hb12 (by omega) hA1
  have a0 : ∀ o, (W2.alloc o).cell? ⟨D, 0, none⟩ = some (.string ⟨s.toArray⟩) := fun o => cell_alwR o q0
  have a1 : ∀ o, (W2.alloc o).cell? ⟨D, 1, none⟩ = some (.int .i64 n) := fun o => cell_alwR o q1
  have a2 : ∀ o, (W2.alloc o).cell? ⟨D, 2, none⟩ = some (.slice ta t.length tc) := fun o => cell_alwR o q2
  have HIN : Hid (InsIn W2 ta t.length t) := hin.below (by rw [hD]; exact hb2)
  clear hin hA1 q0 q1 q2
  go_enter Try.func63, Try.ntmps63
  go_wp2_with fail
  obtain ⟨V, hV⟩ : ∃ V, W2.alloc (.cells #[.string ⟨s.toArray⟩, .int .i64 n, .slice none 0 0] 51) = V := ⟨_, rfl⟩
  rw [hV]
  have hbV : Below W2.heap.size W2 V := by rw [← hV]; exact (Below.refl _ _).alloc (Nat.le_refl _) _
  have hsV : V.heap.size = D + 3 := by rw [← hV]; simp [hs2]
  have hL : V.heap[D + 2]? = some (.cells #[.string ⟨s.toArray⟩, .int .i64 n, .slice none 0 0] 51) := by rw [← hs2, ← hV]; exact heap_alloc_new W2 _
  have hRV : V.heap[D + 1]? = some (.cells #[.string ⟨#[]⟩, .int .i64 0, .slice none 0 0] 51) := (hbV.block _ (by omega)).trans hR
  refine (toInsSC ta t.length tc t V (HIN.out.below hbV) hlen).mono ?_
  rintro e w4 ⟨v, rfl, hown, _, hb4⟩
  obtain ⟨_, a', c', rfl, _⟩ := own_ins hown
  obtain ⟨l0, l1, l2, lf⟩ := threeR hb4 (by omega) hL
  obtain ⟨r0, r1, r2, rf⟩ := threeR hb4 (by omega) hRV
  have hB4 : Below D w w4 := hb2.trans ((hbV.mono (by omega)).trans (hb4.mono (by omega)))
  have hs4 : D + 3 ≤ w4.heap.size := by have := hb4.size; omega
  rw [hsV] at hown
  obtain ⟨U, hU⟩ : ∃ U, w4.setCell ⟨D + 2, 2, none⟩ (.slice a' t.length c') = U := ⟨_, rfl⟩
  have hgU : w4.grownBy U (some (D + 2)) := by rw [← hU]; exact grown_set _ _ _ _
  have u0 : U.cell? ⟨D + 2, 0, none⟩ = some (.string ⟨s.toArray⟩) := by rw [← hU]; exact (World.cell?_setCell_other _ _ _ _ (by simp)).trans l0
  have u1 : U.cell? ⟨D + 2, 1, none⟩ = some (.int .i64 n) := by rw [← hU]; exact (World.cell?_setCell_other _ _ _ _ (by simp)).trans l1
  have u2 : U.cell? ⟨D + 2, 2, none⟩ = some (.slice a' t.length c') := by rw [← hU]; exact World.cell?_setCell_same _ _ _ l2
  have p0 : U.cell? ⟨D + 1, 0, none⟩ = some (.string ⟨#[]⟩) := by rw [← hU]; exact (World.cell?_setCell_other _ _ _ _ (by simp)).trans r0
  have p1 : U.cell? ⟨D + 1, 1, none⟩ = some (.int .i64 0) := by rw [← hU]; exact (World.cell?_setCell_other _ _ _ _ (by simp)).trans r1
  have p2 : U.cell? ⟨D + 1, 2, none⟩ = some (.slice none 0 0) := by rw [← hU]; exact (World.cell?_setCell_other _ _ _ _ (by simp)).trans r2
  have pf : ∀ j, U.frozen? ⟨D + 1, j, none⟩ = false := fun j => by rw [← hU]; exact (World.frozen?_setCell ..).trans (rf j)
  have pf0 := pf 0
  have pf1 := pf 1
  have pf2 := pf 2
  have lf2 := lf 2
  have HOU : Hid (U.ownsRow (D + 3) 74 5 (.slice a' t.length c') t.length (insV t)) := hown.kept hgU (own_offR hown (by omega))
  have HBU : Hid (Below D w U) := hB4.grown hgU (by omega) (fun k e => by injection e with e; omega)
  have hsU : D + 3 ≤ U.heap.size := Nat.le_trans hs4 hgU.size
  clear hown hb4 hB4 hgU pf lf rf l0 l1 r0 r1 r2 a0 a1 a2 hL hRV hR hbV hb12 hb1 hb2 HIN
  go_wp2
  obtain ⟨Y, hY, y0, y1, y2, hg⟩ := set3R (.string ⟨s.toArray⟩) (.int .i64 n) (.slice a' t.length c') p0 p1 p2
  rw [hY]
  refine bodyPost_ret (v := .agg #[.string ⟨s.toArray⟩, .int .i64 n, .slice a' t.length c']) (by simp [results, Try.results63, go_sem, y0, y1, y2]) rfl ?_
  exact ⟨a', c', rfl, own_base (HOU.out.kept hg (own_offR HOU.out (by omega))) (by omega), by rw [hD]; exact HBU.out.grown hg (by omega) (fun k e => by injection e with e; omega)⟩

theorem rtsV_set (xs : List RV) (j : Nat) (y : RV) : (((rtsV xs).set (j * 3) (.string ⟨y.1.1.toArray⟩)).set (j * 3 + 1) (.int .i64 y.1.2.1)).set (j * 3 + 2) (rvT y) = rtsV (xs.set j y) := by
  induction xs generalizing j with
  | nil => simp [rtsV]
  | cons b r ih =>
    cases j with
    | zero => simp [rtsV]
    | succ j => rw [show (j + 1) * 3 = j * 3 + 1 + 1 + 1 by omega]; simp [rtsV, ih]

theorem made_rts (n : Nat) : (madeCells (Value.agg #[.string ⟨#[]⟩, .int .i64 0, .slice none 0 0]).cells (n * 3)).toList = rtsV (List.replicate n rv0) := by
  have hc : (Value.agg #[.string ⟨#[]⟩, .int .i64 0, .slice none 0 0]).cells = #[.string ⟨#[]⟩, .int .i64 0, .slice none 0 0] := rfl
  rw [hc]
  apply List.ext_getElem?
  intro j
  by_cases hj : j < n * 3
  · obtain ⟨v0, v1, v2⟩ := rtsV_at (List.replicate n rv0) (j / 3) (by simp; omega)
    have hg : (List.replicate n rv0).getD (j / 3) rv0 = rv0 := by simp [List.getD, List.getElem?_replicate]; split <;> rfl
    rw [hg] at v0 v1 v2
    have h3 : j % 3 = 0 ∨ j % 3 = 1 ∨ j % 3 = 2 := by omega
    rcases h3 with h' | h' | h'
    · have ej : j = j / 3 * 3 := by omega
      rw [← ej] at v0
      rw [v0]
      simp [madeCells, hj, h', rv0, rt0]
    · have ej : j = j / 3 * 3 + 1 := by omega
      rw [← ej] at v1
      rw [v1]
      simp [madeCells, hj, h', rv0, rt0]
    · have ej : j = j / 3 * 3 + 2 := by omega
      rw [← ej] at v2
      rw [v2]
      simp [madeCells, hj, h', rv0, rt0, rvT]
  · rw [List.getElem?_eq_none (by simp [madeCells]; omega), List.getElem?_eq_none (by rw [rtsV_len]; simp; omega)]

theorem fill_rt (ys : List RV) (len k : Nat) (y : RV) (hy : ys.length = k) (hk : k < len) : (ys ++ List.replicate (len - k) rv0).set k y = (ys ++ [y]) ++ List.replicate (len - (k + 1)) rv0 := by
  rw [List.set_append_right _ _ (by omega), hy, Nat.sub_self, show len - k = (len - (k + 1)) + 1 by omega, List.replicate_succ, List.set_cons_zero, List.append_assoc]
  rfl

set_option maxHeartbeats 4000000 in
set_option maxRecDepth 100000 in
theorem toRoutineSC (a : Option Addr) (len cap : Nat) (fs : List Rt) (w : World) (hin : RtsIn w a len fs) (hlen : len ≤ 1048576) (hsh : ∀ j, (fs.getD j rt0).2.2.length ≤ 1048576) :
    Calls Try.prog 38 #[.slice a len cap] w fun e w' => ∃ g xs, e = .returned (.slice (some ⟨g, 0, none⟩) len len) ∧ xs.map (·.1) = fs ∧ RtsOwn w' w.heap.size (.slice (some ⟨g, 0, none⟩) len len) xs ∧ ApartR (xs.map rvT) ∧ Below w.heap.size w w' := by
  obtain ⟨i0, hi, hz0, hz1, hz2⟩ := info_parts infoRt
  have hlb := hin.1
  have HI : Hid (RtsIn w a len fs) := hin
  have HSH : Hid (∀ j, (fs.getD j rt0).2.2.length ≤ 1048576) := hsh
  clear hin hsh
  go_enter Try.func38, Try.ntmps38
  go_wp2_with (at_make; refine wpList_make_full _ rfl _ _ 24 rfl w.heap.size 51 i0 _ 3 Try.underlying24 hi hz0 hz1 .i64 .i64 _ _ len rfl rfl rfl rfl (by rw [hz2]; omega) (by unfold maxLen; omega) (Nat.le_refl _) ?_; intro w1 hown1 hgrow1)
  rw [made_rts] at hown1
  have hB1 : Below w.heap.size w w1 := (Below.refl _ _).grown hgrow1 (Nat.le_refl _) (by simp)
  clear hgrow1
  go_loopw [4] (fun i wr => ∃ (k : Nat) (ys : List RV), k ≤ len ∧ i = .int .i64 k ∧ ys.length = k ∧ Hid (ys.map (·.1) = fs.take k) ∧ Hid (wr.ownsRow w.heap.size 51 3 (.slice (some ⟨w.heap.size, 0, none⟩) len len) len (rtsV (ys ++ List.replicate (len - k) rv0))) ∧ Hid (∀ x ∈ ys, wr.ownsRow w.heap.size 74 5 (rvT x) x.1.2.2.length (insV x.1.2.2)) ∧ Hid (ApartR (ys.map rvT)) ∧ Below w.heap.size w wr) (fun i _ => len - (intOf i).toNat)
  case atStart => exact ⟨0, [], Nat.zero_le _, rfl, rfl, (by simp : ([] : List RV).map (·.1) = fs.take 0), (by simpa using hown1 : w1.ownsRow w.heap.size 51 3 (.slice (some ⟨w.heap.size, 0, none⟩) len len) len (rtsV ([] ++ List.replicate (len - 0) rv0))), (fun x hx => (by cases hx) : ∀ x ∈ ([] : List RV), _), ApartR.nil, hB1⟩
  case round =>
    obtain ⟨k, ys, hk, rfl, hyl, HM, HR, HT, HAP, hB⟩ := hrel
    clear hown1 hB1
    by_cases hkl : (k : Int) < (len : Int)
    · obtain ⟨b, off, rfl, hbl, c0, c1, ta, tl, tc, c2, hnin⟩ := (HI.out.below hB).2 k (by omega)
      have hts := HSH.out k
      have hmk : fs.take (k + 1) = fs.take k ++ [fs.getD k rt0] := by
        have hg : fs.getD k rt0 = fs[k]'(by omega) := by simp [List.getD, show k < fs.length by omega]
        rw [hg, List.take_succ_eq_append_getElem]
      obtain ⟨f, hf⟩ : ∃ f, fs.getD k rt0 = f := ⟨_, rfl⟩
      rw [hf] at c0 c1 hnin hts hmk
      obtain ⟨s, n, t⟩ := f
      simp only at c0 c1 hnin hts
      obtain rfl : t.length = tl := hnin.1
      have HMK : Hid (fs.take (k + 1) = fs.take k ++ [(s, n, t)]) := hmk
      have HC := toRoutineC s n t ta t.length tc wr hnin (by omega)
      clear hf hnin hmk
      go_wp2_with fail
      refine HC.mono ?_
      rintro e w2 ⟨av, cv, rfl, hownT, hb2⟩
      have hown2 := own_below HR.out hb2
      have hT2 : ∀ x ∈ ys, w2.ownsRow w.heap.size 74 5 (rvT x) x.1.2.2.length (insV x.1.2.2) := fun x hx => own_below (HT.out x hx) hb2
      have hl2 : (ys ++ List.replicate (len - k) rv0).length = len := by rw [List.length_append, List.length_replicate]; omega
      obtain ⟨v0, v1, v2⟩ := rtsV_at (ys ++ List.replicate (len - k) rv0) k (by omega)
      obtain ⟨u0, d0⟩ : ∃ u, w2.cell? ⟨w.heap.size, k * 3, none⟩ = some u := by
        rw [hown2.cellAt (k * 3) (by omega), v0]; exact ⟨_, rfl⟩
      obtain ⟨u1, d1⟩ : ∃ u, w2.cell? ⟨w.heap.size, k * 3 + 1, none⟩ = some u := by
        rw [hown2.cellAt (k * 3 + 1) (by omega), v1]; exact ⟨_, rfl⟩
      obtain ⟨u2, d2⟩ : ∃ u, w2.cell? ⟨w.heap.size, k * 3 + 2, none⟩ = some u := by
        rw [hown2.cellAt (k * 3 + 2) (by omega), v2]; exact ⟨_, rfl⟩
      have e0 := hown2.frozenAt (k * 3)
      have e1 := hown2.frozenAt (k * 3 + 1)
      have e2 := hown2.frozenAt (k * 3 + 2)
      have hs1 := hown2.stored (k * 3) (.string ⟨s.toArray⟩)
      have hs2 := hs1.1.stored (k * 3 + 1) (.int .i64 n)
      have hs3 := hs2.1.stored (k * 3 + 2) (.slice av t.length cv)
      have hnew := hs3.1
      have hset := rtsV_set (ys ++ List.replicate (len - k) rv0) k ((s, n, t), av, cv)
      rw [fill_rt ys len k _ hyl (by omega)] at hset
      have hfv : rvT ((s, n, t), av, cv) = .slice av t.length cv := rfl
      rw [hfv] at hset
      simp only at hset
      rw [hset] at hnew
      have hgr : w2.grownBy (((w2.setCell ⟨w.heap.size, k * 3, none⟩ (.string ⟨s.toArray⟩)).setCell ⟨w.heap.size, k * 3 + 1, none⟩ (.int .i64 n)).setCell ⟨w.heap.size, k * 3 + 2, none⟩ (.slice av t.length cv)) (some w.heap.size) := ((grown_set _ _ _ _).trans (grown_set _ _ _ _)).trans (grown_set _ _ _ _)
      have hsome : (Value.slice (some ⟨w.heap.size, 0, none⟩) len len).ownBlock = some w.heap.size := rfl
      have offT : ∀ {v : Value} {m : Nat} {zs : List Value}, w2.ownsRow w.heap.size 74 5 v m zs → v.ownBlock = none ∨ v.ownBlock ≠ some w.heap.size := fun ho => by rw [← hsome]; exact own_typesR ho hown2 (by decide)
      have hB2 : Below w.heap.size w w2 := hB.trans (hb2.mono hB.size)
      have hownT2 := own_base hownT hB.size
      have HAP2 : Hid (ApartR ((ys ++ [((s, n, t), av, cv)]).map rvT)) := by
        rw [List.map_append]
        refine HAP.out.snoc (fun v hv => ?_)
        obtain ⟨x, hx, rfl⟩ := List.mem_map.1 hv
        exact own_aheadR (HT.out x hx) hownT (Nat.le_refl _)
      have HN : Hid (Below w.heap.size w (((w2.setCell ⟨w.heap.size, k * 3, none⟩ (.string ⟨s.toArray⟩)).setCell ⟨w.heap.size, k * 3 + 1, none⟩ (.int .i64 n)).setCell ⟨w.heap.size, k * 3 + 2, none⟩ (.slice av t.length cv))) := hB2.grown hgr hB2.size (fun q e => by injection e with e; omega)
      have HR2 : Hid ((((w2.setCell ⟨w.heap.size, k * 3, none⟩ (.string ⟨s.toArray⟩)).setCell ⟨w.heap.size, k * 3 + 1, none⟩ (.int .i64 n)).setCell ⟨w.heap.size, k * 3 + 2, none⟩ (.slice av t.length cv)).ownsRow w.heap.size 51 3 (.slice (some ⟨w.heap.size, 0, none⟩) len len) len (rtsV ((ys ++ [((s, n, t), av, cv)]) ++ List.replicate (len - (k + 1)) rv0))) := hnew
      have HT2 : Hid (∀ x ∈ ys ++ [((s, n, t), av, cv)], (((w2.setCell ⟨w.heap.size, k * 3, none⟩ (.string ⟨s.toArray⟩)).setCell ⟨w.heap.size, k * 3 + 1, none⟩ (.int .i64 n)).setCell ⟨w.heap.size, k * 3 + 2, none⟩ (.slice av t.length cv)).ownsRow w.heap.size 74 5 (rvT x) x.1.2.2.length (insV x.1.2.2)) := fun x hx => by
        rw [List.mem_append, List.mem_singleton] at hx
        rcases hx with hx | rfl
        · exact (hT2 x hx).kept hgr (offT (hT2 x hx))
        · exact hownT2.kept hgr (offT hownT2)
      have HM2 : Hid ((ys ++ [((s, n, t), av, cv)]).map (·.1) = fs.take (k + 1)) := by exact (by rw [List.map_append, HM.out, HMK.out]; rfl : (ys ++ [((s, n, t), av, cv)]).map (·.1) = fs.take (k + 1))
      have hsz2 : w.heap.size < w2.heap.size := World.block_lt_of_cell? w2 ⟨w.heap.size, k * 3, none⟩ d0
      clear hown2 hs1 hs2 hs3 hl2 v0 v1 v2 hnew hset hfv hgr hsome offT hB2 hownT2 hownT HC HR HT HM hT2 HMK
      go_wp2
      go_roundw
      case rel => exact ⟨k + 1, ys ++ [((s, n, t), av, cv)], by omega, by go_num, by simp [hyl], HM2, HR2, HT2, HAP2, HN.out⟩
      case measure => simp [intOf]; omega
    · have hd : ys ++ List.replicate (len - k) rv0 = ys := by rw [show len - k = 0 by omega]; simp
      have hrow := HR.out
      rw [hd] at hrow
      have HF : Hid (RtsOwn wr w.heap.size (.slice (some ⟨w.heap.size, 0, none⟩) len len) ys) := (⟨by rw [show ys.length = len by omega]; exact hrow, HT.out⟩ : RtsOwn wr w.heap.size (.slice (some ⟨w.heap.size, 0, none⟩) len len) ys)
      have HM2 : Hid (ys.map (·.1) = fs) := by exact (by rw [HM.out]; exact List.take_of_length_le (by omega) : ys.map (·.1) = fs)
      clear hd hrow HR HT HM
      go_wp2
      go_ret
      exact ⟨w.heap.size, rfl, ys, HM2.out, HF.out, HAP.out, hB⟩

end Go.Proofs.Ytnflkecnddbhoaa
