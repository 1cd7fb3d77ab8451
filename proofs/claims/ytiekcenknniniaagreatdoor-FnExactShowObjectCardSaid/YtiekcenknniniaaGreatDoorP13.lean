/-
  Parts of one proof, one behind the other: ImgH2, ObM, ObK, ObIn, Math14I, Math6I.
-/
import Derived.Test.YtiekcenknniniaaGreatDoorP12
import Derived.Test.YtiekcenknniniaaGreatDoorP11
import Derived.Test.YtiekcenknniniaaGreatDoorP6
import Derived.SliceStrings
import Derived.Test.YtiekcenknniniaaGreatDoorP5
import Derived.Test.YtiekcenknniniaaGreatDoorP3
import Derived.Test.YtiekcenknniniaaGreatDoorP1
import Derived.Test.YtiekcenknniniaaGreatDoorP2
import Derived.Lib.ItoaNum
import Derived.Lib.Join
import Derived.Lib.Bytealg

/-! An image's marks, also where it has no routine at all (nil). -/
namespace Go.Proofs.YtiekcenknniniaaGreatDoor
open Go.RowKit

theorem rend_small (k : Nat) (xs : List RV) (h : ∀ x ∈ xs, x.1.2.2.length ≤ 200) : rend k xs ≤ k + 1002 * xs.length := by
  induction xs generalizing k with
  | nil => simp [rend]
  | cons x r ih =>
    have h1 := h x (List.mem_cons.2 (Or.inl rfl))
    have h2 := ih (k + 2 + 5 * x.1.2.2.length) (fun y hy => h y (List.mem_cons.2 (Or.inr hy)))
    simp only [rend, List.length_cons]
    omega
theorem RtsOwn.none {w w' : World} {base : Nat} {v : Value} {xs : List RV} (h : RtsOwn w base v xs) (hg : w.grownBy w' none) : RtsOwn w' base v xs :=
  h.kept hg (by cases hv : v.ownBlock with | none => exact Or.inl rfl | some k => exact Or.inr (by simp)) (fun x _ => by cases hv : (rvT x).ownBlock with | none => exact Or.inl rfl | some k => exact Or.inr (by simp))

set_option maxHeartbeats 1000000 in
set_option maxRecDepth 100000 in
theorem markRoutineN (w : World) (k0 : Nat) : Calls Tryz.prog 49 #[.slice none 0 0, .int .i64 k0] w fun e w' => e = .returned (.int .i64 (k0 : Int)) ∧ w' = w := by
  go_enter Tryz.func49, Tryz.ntmps49
  go_wp2
  go_loopw [1, 5] (fun k i wr => k = .int .i64 (k0 : Int) ∧ i = .int .i64 0 ∧ wr = w) (fun _ _ _ => 0)
  case atStart => exact ⟨rfl, rfl, rfl⟩
  case round =>
    obtain ⟨rfl, rfl, rfl⟩ := hrel
    go_wp2
    go_ret
    exact ⟨rfl, rfl⟩
set_option maxHeartbeats 1000000 in
set_option maxRecDepth 100000 in
theorem heldRoutineN (w : World) (k0 : Nat) : Calls Tryz.prog 51 #[.slice none 0 0, .int .i64 k0] w fun e w' => e = .returned (.int .i64 (k0 : Int)) ∧ w' = w := by
  go_enter Tryz.func51, Tryz.ntmps51
  go_wp2
  go_loopw [1, 5] (fun k i wr => k = .int .i64 (k0 : Int) ∧ i = .int .i64 0 ∧ wr = w) (fun _ _ _ => 0)
  case atStart => exact ⟨rfl, rfl, rfl⟩
  case round =>
    obtain ⟨rfl, rfl, rfl⟩ := hrel
    go_wp2
    go_ret
    exact ⟨rfl, rfl⟩

set_option maxHeartbeats 1000000 in
set_option maxRecDepth 100000 in
theorem markImageV (w : World) (base k0 : Nat) (v : Value) (xs : List RV) (hn : xs.length ≤ 1100000) (hk0 : 0 < k0) (hk1 : rend k0 xs ≤ 30000000) (hls : ∀ x ∈ xs, x.1.2.2.length ≤ 1100000) (hap : ApartR (xs.map rvT)) (h : RtsOwn w base v xs) :
    Calls Tryz.prog 24 #[.agg #[v], .int .i64 k0] w fun e w' => e = .returned (.int .i64 ((rend k0 xs : Nat) : Int)) ∧ RtsOwn w' base v (rmark k0 xs) ∧ WroteR w w' (RtBlocks v xs) := by
  rcases own_forms h.row with ⟨rfl, h0, _⟩ | ⟨g, cp, rfl⟩
  · obtain rfl : xs = [] := List.eq_nil_of_length_eq_zero h0
    have HC : Hid (_) := markRoutineN (w.alloc (.cells #[.slice none 0 0] 43)) k0
    have HB : Hid (Below w.heap.size w (w.alloc (.cells #[.slice none 0 0] 43))) := (Below.refl _ _).alloc (Nat.le_refl _) _
    have hr : rend k0 [] = k0 := rfl
    rw [hr]
    clear h hap hls hk1 hr
    go_enter Tryz.func24, Tryz.ntmps24
    go_wp2_with fail
    refine Calls.mono HC.out ?_
    rintro e w1 ⟨rfl, rfl⟩
    clear HC
    go_wp2
    go_ret
    exact ⟨rfl, RtsOwn.nil _ _, WroteR.of_below HB.out⟩
  · exact markImageC w base g cp k0 xs hn hk0 hk1 hls hap h

set_option maxHeartbeats 1000000 in
set_option maxRecDepth 100000 in
theorem heldImageV (w : World) (base k0 : Nat) (v : Value) (xs : List RV) (hn : xs.length ≤ 1100000) (hk0 : 0 < k0) (hk1 : rend k0 xs ≤ 30000000) (hls : ∀ x ∈ xs, x.1.2.2.length ≤ 1100000) (hl : (rmark k0 xs).length = xs.length) (h : RtsOwn w base v (rmark k0 xs)) :
    Calls Tryz.prog 25 #[.agg #[v], .int .i64 k0] w fun e w' => e = .returned (.int .i64 ((rend k0 xs : Nat) : Int)) ∧ w.grownBy w' none := by
  have hrow := h.row
  rw [hl] at hrow
  rcases own_forms hrow with ⟨rfl, h0, _⟩ | ⟨g, cp, rfl⟩
  · obtain rfl : xs = [] := List.eq_nil_of_length_eq_zero h0
    have HC : Hid (_) := heldRoutineN (w.alloc (.cells #[.slice none 0 0] 43)) k0
    have HB : Hid (w.grownBy (w.alloc (.cells #[.slice none 0 0] 43)) none) := World.grownBy_alloc w _ _
    have hr : rend k0 [] = k0 := rfl
    rw [hr]
    clear h hls hk1 hr hrow hl
    go_enter Tryz.func25, Tryz.ntmps25
    go_wp2_with fail
    refine Calls.mono HC.out ?_
    rintro e w1 ⟨rfl, rfl⟩
    clear HC
    go_wp2
    go_ret
    exact ⟨rfl, HB.out⟩
  · exact heldImageC w base g cp k0 xs hn hk0 hk1 hls h

end Go.Proofs.YtiekcenknniniaaGreatDoor

/-! The laws' own helpers over objects: markObject, heldObject; three cells of a block. -/
namespace Go.Proofs.YtiekcenknniniaaGreatDoor
open Go.RowKit

theorem own_textsO {w : World} {base n : Nat} {v : Value} {ts : List (List UInt8)} (h : w.ownsRow base 9 1 v n (strV ts)) : ∃ a c, v = .slice a n c ∧ (a = none → c = 0) ∧ TextsIn w a n ts := by
  obtain ⟨_, a, c, rfl, hin⟩ := own_texts h
  refine ⟨a, c, rfl, fun e => ?_, hin⟩
  rcases own_forms h with ⟨e2, _, _⟩ | ⟨g, cp, e2⟩
  · injection e2
  · injection e2 with e3; rw [e] at e3; cases e3

theorem markRoutineSV (w : World) (base k0 : Nat) (v : Value) (xs : List RV) (hn : xs.length ≤ 1100000) (hk0 : 0 < k0) (hk1 : rend k0 xs ≤ 30000000) (hls : ∀ x ∈ xs, x.1.2.2.length ≤ 1100000) (hap : ApartR (xs.map rvT)) (h : RtsOwn w base v xs) :
    Calls Tryz.prog 49 #[v, .int .i64 k0] w fun e w' => e = .returned (.int .i64 ((rend k0 xs : Nat) : Int)) ∧ RtsOwn w' base v (rmark k0 xs) ∧ WroteR w w' (RtBlocks v xs) := by
  rcases own_forms h.row with ⟨rfl, h0, _⟩ | ⟨g, cp, rfl⟩
  · obtain rfl : xs = [] := List.eq_nil_of_length_eq_zero h0
    refine (markRoutineN w k0).mono ?_
    rintro e w' ⟨rfl, rfl⟩
    exact ⟨rfl, RtsOwn.nil _ _, WroteR.refl _ _⟩
  · exact markRoutineSC w base g cp k0 xs hn hk0 hk1 hls hap h

theorem heldRoutineSV (w : World) (base k0 : Nat) (v : Value) (xs : List RV) (hn : xs.length ≤ 1100000) (hk0 : 0 < k0) (hk1 : rend k0 xs ≤ 30000000) (hls : ∀ x ∈ xs, x.1.2.2.length ≤ 1100000) (h : RtsOwn w base v (rmark k0 xs)) :
    Calls Tryz.prog 51 #[v, .int .i64 k0] w fun e w' => e = .returned (.int .i64 ((rend k0 xs : Nat) : Int)) ∧ w.grownBy w' none := by
  have hl := rmark_len k0 xs
  rcases own_forms h.row with ⟨rfl, h0, _⟩ | ⟨g, cp, rfl⟩
  · obtain rfl : xs = [] := List.eq_nil_of_length_eq_zero (by omega)
    refine (heldRoutineN w k0).mono ?_
    rintro e w' ⟨rfl, rfl⟩
    exact ⟨rfl, World.grownBy.refl _ _⟩
  · rw [hl] at h ⊢
    exact heldRoutineSC w base g cp k0 xs hn hk0 hk1 hls h

theorem RtsOwn.alloc {w : World} {base : Nat} {v : Value} {xs : List RV} (h : RtsOwn w base v xs) (o : Obj) : RtsOwn (w.alloc o) base v xs := ⟨h.row.alloc o, fun x hx => (h.trees x hx).alloc o⟩
/-- A row of texts, and functions: the one's writing leaves the other. -/
theorem RtsOwn.texts {w w' : World} {base b2 n : Nat} {v vi : Value} {xs : List RV} {ys : List Value} (h : RtsOwn w base v xs) (hi : w.ownsRow b2 9 1 vi n ys) (hg : w.grownBy w' vi.ownBlock) : RtsOwn w' base v xs :=
  ⟨h.row.kept hg (own_typesR h.row hi (by decide)), fun x hx => (h.trees x hx).kept hg (own_typesR (h.trees x hx) hi (by decide))⟩
theorem texts_rts {w w' : World} {base b2 n : Nat} {v vi : Value} {xs : List RV} {ys : List Value} (h : RtsOwn w base v xs) (hi : w.ownsRow b2 9 1 vi n ys) (hw : WroteR w w' (RtBlocks v xs)) : w'.ownsRow b2 9 1 vi n ys := by
  refine own_wroteR hi hw (fun k hk hb => ?_)
  rcases hb with e | ⟨x, hx, e⟩
  · rcases own_typesR hi h.row (by decide) with e2 | e2
    · rw [hk] at e2; cases e2
    · exact e2 (by rw [hk, e])
  · rcases own_typesR hi (h.trees x hx) (by decide) with e2 | e2
    · rw [hk] at e2; cases e2
    · exact e2 (by rw [hk, e])

def ObBlocks (vi vf : Value) (xs : List RV) (k : Nat) : Prop := vi.ownBlock = some k ∨ RtBlocks vf xs k

set_option maxHeartbeats 1000000 in
set_option maxRecDepth 100000 in
theorem markObjectC (nm : List UInt8) (w : World) (base k0 n : Nat) (vi vf : Value) (ys : List Value) (xs : List RV) (hn : n ≤ 1100000) (hf : xs.length ≤ 1100000) (hk0 : 0 < k0) (hk1 : k0 ≤ 800000) (hk2 : rend (k0 + n) xs ≤ 30000000) (hls : ∀ x ∈ xs, x.1.2.2.length ≤ 1100000) (hap : ApartR (xs.map rvT))
    (hi : w.ownsRow base 9 1 vi n ys) (h : RtsOwn w base vf xs) :
    Calls Tryz.prog 15 #[.agg #[.string ⟨nm.toArray⟩, vi, vf], .int .i64 k0] w fun e w' => e = .returned (.int .i64 ((rend (k0 + n) xs : Nat) : Int)) ∧ w'.ownsRow base 9 1 vi n (marksV k0 n) ∧ RtsOwn w' base vf (rmark (k0 + n) xs) ∧ WroteR w w' (ObBlocks vi vf xs) := by
  obtain ⟨ai, ci, rfl⟩ : ∃ a c, vi = .slice a n c := by
    rcases own_forms hi with ⟨rfl, rfl, _⟩ | ⟨g, cp, rfl⟩
    · exact ⟨none, 0, rfl⟩
    · exact ⟨_, cp, rfl⟩
  obtain ⟨af, cf, rfl, _, _⟩ := h.in
  obtain ⟨W0, hW0⟩ : ∃ W0, w.alloc (.cells #[.string ⟨nm.toArray⟩, .slice ai n ci, .slice af xs.length cf] 30) = W0 := ⟨_, rfl⟩
  have hb0 : Below w.heap.size w W0 := by rw [← hW0]; exact (Below.refl _ w).alloc (Nat.le_refl _) _
  have hA := heap_alloc_new w (.cells #[.string ⟨nm.toArray⟩, .slice ai n ci, .slice af xs.length cf] 30)
  rw [hW0] at hA
  obtain ⟨D, hD⟩ : ∃ D, w.heap.size = D := ⟨_, rfl⟩
  rw [hD] at hA
  have k0c : W0.cell? ⟨D, 1, none⟩ = some (.slice ai n ci) := by simp [World.cell?, hA]
  have k1c : W0.cell? ⟨D, 2, none⟩ = some (.slice af xs.length cf) := by simp [World.cell?, hA]
  have hDi : (Value.slice ai n ci).ownBlock ≠ some D := fun e => by have := (hi.lt D e).2; omega
  have hi0 := own_below hi hb0
  have hf0 := h.below hb0
  have HC : Hid (_) := markStrV W0 base n k0 (.slice ai n ci) ys hn hk0 hk1 hi0
  have HI0 : Hid (W0.ownsRow base 9 1 (.slice ai n ci) n ys) := hi0
  have HF0 : Hid (RtsOwn W0 base (.slice af xs.length cf) xs) := hf0
  have HW0 : Hid (WroteR w W0 (ObBlocks (.slice ai n ci) (.slice af xs.length cf) xs)) := WroteR.of_below hb0
  clear hi h hi0 hf0 hb0 hA
  go_enter Tryz.func15, Tryz.ntmps15
  go_wp2_with fail
  refine Calls.mono HC.out ?_
  rintro e w1 ⟨rfl, hi1, hg1⟩
  have k1d := hg1.cell (a := ⟨D, 2, none⟩) k1c (fun e => hDi e.symm)
  have hf1 := HF0.out.texts HI0.out hg1
  have HM : Hid (_) := markRoutineSV w1 base (k0 + n) _ xs hf (by omega) hk2 hls hap hf1
  have HI1 : Hid (w1.ownsRow base 9 1 (.slice ai n ci) n (marksV k0 n)) := hi1
  have HF1 : Hid (RtsOwn w1 base (.slice af xs.length cf) xs) := hf1
  have HW1 : Hid (WroteR w w1 (ObBlocks (.slice ai n ci) (.slice af xs.length cf) xs)) := HW0.out.trans (WroteR.of_grown hg1 (fun _ e => Or.inl e))
  clear HC HI0 HF0 HW0 hi1 hg1 hf1 k0c k1c hls hap
  go_wp2_with fail
  refine Calls.mono HM.out ?_
  rintro e w2 ⟨rfl, hf2, hw2⟩
  have hi2 := texts_rts HF1.out HI1.out hw2
  have hW2 := HW1.out.trans (hw2.mono (fun _ e => Or.inr e))
  clear HM
  go_wp2
  go_ret
  exact ⟨rfl, hi2, hf2, hW2⟩

set_option maxHeartbeats 1000000 in
set_option maxRecDepth 100000 in
theorem heldObjectC (nm : List UInt8) (w : World) (base k0 n : Nat) (vi vf : Value) (xs : List RV) (hn : n ≤ 1100000) (hf : xs.length ≤ 1100000) (hk0 : 0 < k0) (hk1 : k0 ≤ 800000) (hk2 : rend (k0 + n) xs ≤ 30000000) (hls : ∀ x ∈ xs, x.1.2.2.length ≤ 1100000)
    (hi : w.ownsRow base 9 1 vi n (marksV k0 n)) (h : RtsOwn w base vf (rmark (k0 + n) xs)) :
    Calls Tryz.prog 16 #[.agg #[.string ⟨nm.toArray⟩, vi, vf], .int .i64 k0] w fun e w' => e = .returned (.int .i64 ((rend (k0 + n) xs : Nat) : Int)) ∧ w.grownBy w' none := by
  obtain ⟨ai, ci, rfl⟩ : ∃ a c, vi = .slice a n c := by
    rcases own_forms hi with ⟨rfl, rfl, _⟩ | ⟨g, cp, rfl⟩
    · exact ⟨none, 0, rfl⟩
    · exact ⟨_, cp, rfl⟩
  obtain ⟨af, cf, rfl, _, _⟩ := h.in
  have hl := rmark_len (k0 + n) xs
  rw [hl] at h ⊢
  have hHC := heldStrV (w.alloc (.cells #[.string ⟨nm.toArray⟩, .slice ai n ci, .slice af xs.length cf] 30)) base n k0 (.slice ai n ci) hn hk0 hk1 (hi.alloc _)
  have HC : Hid (_) := hHC
  have HF : Hid (RtsOwn (w.alloc (.cells #[.string ⟨nm.toArray⟩, .slice ai n ci, .slice af xs.length cf] 30)) base (.slice af xs.length cf) (rmark (k0 + n) xs)) := h.alloc _
  have hg0 : w.grownBy (w.alloc (.cells #[.string ⟨nm.toArray⟩, .slice ai n ci, .slice af xs.length cf] 30)) none := World.grownBy_alloc w _ _
  have hA := heap_alloc_new w (.cells #[.string ⟨nm.toArray⟩, .slice ai n ci, .slice af xs.length cf] 30)
  obtain ⟨W0, hW0⟩ : ∃ W0, w.alloc (.cells #[.string ⟨nm.toArray⟩, .slice ai n ci, .slice af xs.length cf] 30) = W0 := ⟨_, rfl⟩
  rw [hW0] at HC HF hg0 hA
  obtain ⟨D, hD⟩ : ∃ D, w.heap.size = D := ⟨_, rfl⟩
  rw [hD] at hA
  have k0c : W0.cell? ⟨D, 1, none⟩ = some (.slice ai n ci) := by simp [World.cell?, hA]
  have k1c : W0.cell? ⟨D, 2, none⟩ = some (.slice af xs.length cf) := by simp [World.cell?, hA]
  have hge1 : ¬ ((k0 + n : Nat) : Int) < 0 := by omega
  have hge2 : ¬ ((rend (k0 + n) xs : Nat) : Int) < 0 := by omega
  clear hi h hHC hA hl
  go_enter Tryz.func16, Tryz.ntmps16
  go_wp2_with fail
  refine Calls.mono HC.out ?_
  rintro e w1 ⟨rfl, hg1⟩
  have k1d := hg1.cell (a := ⟨D, 2, none⟩) k1c (by simp)
  have HM : Hid (_) := heldRoutineSV w1 base (k0 + n) _ xs hf (by omega) hk2 hls (HF.out.none hg1)
  have hG1 := hg0.trans hg1
  clear HC HF hg0 hg1 k0c k1c hls
  go_wp2_with fail
  refine Calls.mono HM.out ?_
  rintro e w2 ⟨rfl, hg2⟩
  have hG2 := hG1.trans hg2
  clear HM
  go_wp2
  go_ret
  exact ⟨rfl, hG2⟩

/-- Three cells of a block. -/
structure BoxO (V : World) (k : Nat) (a b c : Value) : Prop where
  c0 : V.cell? ⟨k, 0, none⟩ = some a
  c1 : V.cell? ⟨k, 1, none⟩ = some b
  c2 : V.cell? ⟨k, 2, none⟩ = some c

theorem BoxO.lt {V : World} {k : Nat} {a b c : Value} (h : BoxO V k a b c) : k < V.heap.size := World.block_lt_of_cell? V ⟨k, 0, none⟩ h.c0
theorem BoxO.keep {V V' : World} {k : Nat} {a b c : Value} (h : BoxO V k a b c) (hb : V'.heap[k]? = V.heap[k]?) : BoxO V' k a b c :=
  ⟨(World.cell?_of_block (a := ⟨k, 0, none⟩) hb).trans h.c0, (World.cell?_of_block (a := ⟨k, 1, none⟩) hb).trans h.c1, (World.cell?_of_block (a := ⟨k, 2, none⟩) hb).trans h.c2⟩
theorem BoxO.below {V V' : World} {k : Nat} {a b c : Value} (h : BoxO V k a b c) (hb : Below V.heap.size V V') : BoxO V' k a b c := h.keep (hb.block k h.lt)
theorem BoxO.wrote {V V' : World} {k : Nat} {a b c : Value} {S : Nat → Prop} (h : BoxO V k a b c) (hw : WroteR V V' S) (hk : ¬ S k) : BoxO V' k a b c := h.keep (hw.block k h.lt hk)
theorem BoxO.grown {V V' : World} {k : Nat} {a b c : Value} {row : Option Nat} (h : BoxO V k a b c) (hg : V.grownBy V' row) (hk : some k ≠ row) : BoxO V' k a b c := h.keep (hg.block k h.lt hk)
theorem BoxO.drew {V : World} {k : Nat} {a b c : Value} (h : BoxO V k a b c) : BoxO V.drew k a b c := ⟨h.c0, h.c1, h.c2⟩
theorem BoxO.new (V : World) (a b c : Value) (t : TypeId) : BoxO (V.alloc (.cells #[a, b, c] t)) V.heap.size a b c ∧ Below V.heap.size V (V.alloc (.cells #[a, b, c] t)) := by
  have hb : Below V.heap.size V (V.alloc (.cells #[a, b, c] t)) := (Below.refl _ _).alloc (Nat.le_refl _) _
  have hA := heap_alloc_new V (.cells #[a, b, c] t)
  generalize V.alloc (.cells #[a, b, c] t) = W at hb hA ⊢
  exact ⟨⟨by simp [World.cell?, hA], by simp [World.cell?, hA], by simp [World.cell?, hA]⟩, hb⟩

end Go.Proofs.YtiekcenknniniaaGreatDoor

/-! What the landed functions of chapter 15 are told of an object; an object in rows of its own. -/
namespace Go.Proofs.YtiekcenknniniaaGreatDoor
open Go.RowKit

/-- What the landed functions are told of an object that they are handed. -/
structure ObOk (w : World) (nm : List UInt8) (ia : Option Addr) (il ic : Nat) (fa : Option Addr) (fl fc : Nat) (ims : List (List UInt8)) (rs : List Rt) : Prop where
  i : TextsIn w ia il ims
  r : RtOk w fa fl fc rs
  ic : ia = none → ic = 0
  il : il ≤ 1048576
  nm : nm.length ≤ 1048576
  is : ∀ i, (ims.getD i []).length ≤ 1048576
theorem ObOk.below {w w' : World} {nm : List UInt8} {ia : Option Addr} {il ic : Nat} {fa : Option Addr} {fl fc : Nat} {ims : List (List UInt8)} {rs : List Rt} (h : ObOk w nm ia il ic fa fl fc ims rs) (hb : Below w.heap.size w w') : ObOk w' nm ia il ic fa fl fc ims rs :=
  ⟨h.i.below hb, h.r.below hb, h.ic, h.il, h.nm, h.is⟩

/-- A package that a call owns can be read. -/
theorem own_ob {w : World} {base : Nat} {vi vf : Value} {ims : List (List UInt8)} {xs : List RV} {fs : List Rt} (hoi : w.ownsRow base 9 1 vi ims.length (strV ims)) (hof : RtsOwn w base vf xs) (hxs : xs.map (·.1) = fs) :
    ∃ ai ci af cf, vi = .slice ai ims.length ci ∧ vf = .slice af fs.length cf ∧ (ai = none → ci = 0) ∧ ((af = none → cf = 0) ∧ fs.length ≤ cf) ∧ TextsIn w ai ims.length ims ∧ RtsIn w af fs.length fs := by
  obtain ⟨ai, ci, rfl, hic, hit⟩ := own_textsO hoi
  obtain ⟨af, cf, rfl, hfc, hif⟩ := hof.in
  have hl : xs.length = fs.length := by rw [← hxs, List.length_map]
  have hcp : fs.length ≤ cf := by
    rcases hof.row.2 with ⟨e, h0⟩ | ⟨g, cap, cur, e, _, _, hc, _⟩
    · rw [← hl, h0]; exact Nat.zero_le _
    · injection e with _ _ e3
      rw [e3, ← hl]; exact hc
  rw [hxs, hl] at hif
  exact ⟨ai, ci, af, cf, rfl, by rw [hl], hic, ⟨hfc, hcp⟩, hit, hif⟩

/-- A package whose rows lie from lo on, ahead of hi. -/
structure Pv15 (Z : World) (lo hi : Nat) (ai : Option Addr) (il ci : Nat) (af : Option Addr) (fl cf : Nat) (ims : List (List UInt8)) (fs : List Rt) (xs : List RV) : Prop where
  oi : Z.ownsRow lo 9 1 (.slice ai il ci) il (strV ims)
  of : RtsOwn Z lo (.slice af fl cf) xs
  xm : xs.map (·.1) = fs
  li : ims.length = il
  lf : fs.length = fl
  at_ : ∀ k, ObBlocks (.slice ai il ci) (.slice af fl cf) xs k → lo ≤ k ∧ k < hi
section
variable {Z Y : World} {lo hi : Nat} {ai : Option Addr} {il ci : Nat} {af : Option Addr} {fl cf : Nat} {ims : List (List UInt8)} {fs : List Rt} {xs : List RV}
theorem Pv15.below (h : Pv15 Z lo hi ai il ci af fl cf ims fs xs) (hb : Below Z.heap.size Z Y) : Pv15 Y lo hi ai il ci af fl cf ims fs xs := ⟨own_below h.oi hb, h.of.below hb, h.xm, h.li, h.lf, h.at_⟩
theorem Pv15.wrote (h : Pv15 Z lo hi ai il ci af fl cf ims fs xs) {S : Nat → Prop} (hw : WroteR Z Y S) (hs : ∀ k, S k → k < lo ∨ hi ≤ k) : Pv15 Y lo hi ai il ci af fl cf ims fs xs :=
  ⟨own_wroteR h.oi hw (fun k e hk => by have := h.at_ k (Or.inl e); have := hs k hk; omega), ⟨own_wroteR h.of.row hw (fun k e hk => by have := h.at_ k (Or.inr (Or.inl e)); have := hs k hk; omega), fun x hx => own_wroteR (h.of.trees x hx) hw (fun k e hk => by have := h.at_ k (Or.inr (Or.inr ⟨x, hx, e⟩)); have := hs k hk; omega)⟩, h.xm, h.li, h.lf, h.at_⟩
theorem Pv15.none (h : Pv15 Z lo hi ai il ci af fl cf ims fs xs) (hg : Z.grownBy Y none) : Pv15 Y lo hi ai il ci af fl cf ims fs xs := h.wrote (S := fun _ => False) (WroteR.of_grown hg (fun k e => by cases e)) (fun k e => e.elim)
theorem Pv15.drew (h : Pv15 Z lo hi ai il ci af fl cf ims fs xs) : Pv15 Z.drew lo hi ai il ci af fl cf ims fs xs := h.below ⟨rfl, rfl, rfl, Nat.le_refl _, fun _ _ => rfl⟩
theorem Pv15.in (h : Pv15 Z lo hi ai il ci af fl cf ims fs xs) : TextsIn Z ai il ims ∧ RtsIn Z af fl fs := by
  have hoi := h.oi
  rw [← h.li] at hoi
  obtain ⟨_, _, _, _, e1, e2, _, _, h1, h2⟩ := own_ob hoi h.of h.xm
  injection e1 with a1 _ a3
  injection e2 with b1 _ b3
  subst a1 a3 b1 b3
  rw [← h.li, ← h.lf]
  exact ⟨h1, h2⟩
theorem Pv15.cap (h : Pv15 Z lo hi ai il ci af fl cf ims fs xs) : RtsCap Z af fl cf fs := h.of.cap h.xm h.lf
theorem Pv15.len (h : Pv15 Z lo hi ai il ci af fl cf ims fs xs) : xs.length = fl := by rw [← h.lf, ← h.xm, List.length_map]
theorem Pv15.new {vi vf : Value} (hoi : Z.ownsRow lo 9 1 vi ims.length (strV ims)) (hof : RtsOwn Z lo vf xs) (hxs : xs.map (·.1) = fs) : ∃ ai ci af cf, vi = .slice ai ims.length ci ∧ vf = .slice af fs.length cf ∧ ((af = Option.none → cf = 0) ∧ fs.length ≤ cf) ∧ (ai = Option.none → ci = 0) ∧ Pv15 Z lo Z.heap.size ai ims.length ci af fs.length cf ims fs xs := by
  obtain ⟨ai, ci, af, cf, rfl, rfl, h0, h1, _, _⟩ := own_ob hoi hof hxs
  refine ⟨ai, ci, af, cf, rfl, rfl, h1, h0, hoi, hof, hxs, rfl, rfl, fun k hk => ?_⟩
  rcases hk with e | e | ⟨x, hx, e⟩
  · exact hoi.lt k e
  · exact hof.row.lt k e
  · exact (hof.trees x hx).lt k e
end

end Go.Proofs.YtiekcenknniniaaGreatDoor

/-! An object that came in, as the walks take it. -/
namespace Go.Proofs.YtiekcenknniniaaGreatDoor
open Go.ChangeShapes Go.WideShapes Go.ChangeAt Go.RowKit Go.Joins Go.Deep

section
variable {H : Type} {enc : TypeId × Value → H} {W : World} {base : Nat} {spare : Nat → Bool} {held : Bool} {fuel : Nat} {v : Value} {x : DataW H × List MemPlace}

set_option maxRecDepth 100000 in
theorem trod_textsO (hf : DataW.trod enc Tryz.prog W base spare held fuel 22 [v] = some x) :
    ∃ a len cap ts, v = .slice a len cap ∧ TextsIn W a len ts ∧ len ≤ maxLen ∧ ∀ j, (ts.getD j []).length ≤ maxLen := by
  rcases open_strings Tryz.underlying22 Tryz.underlying9 (by kernel_rfl) hf with ⟨hcs, _⟩ | ⟨a, len, cap, ss, hcs, _, hl, hm, hlen, _, hcell, hsz⟩
  · simp at hcs
    subst hcs
    exact ⟨none, 0, 0, [], rfl, ⟨rfl, fun j hj => by omega⟩, by decide, fun j => by simp⟩
  · simp at hcs
    subst hcs
    have hls : len ≤ ss.length := by rw [hlen]; split <;> omega
    have hgd : ∀ j, j < len → ((ss.take len).map (fun s => s.data.toList)).getD j [] = (ss.getD j ByteArray.empty).data.toList := by
      intro j hj
      have hj2 : j < ss.length := by omega
      simp [List.getD, hj, hj2]
    refine ⟨some a, len, cap, (ss.take len).map (fun s => s.data.toList), rfl, ⟨by simp; omega, fun j hj => ?_⟩, by omega, fun j => ?_⟩
    · have hc := hcell j (by omega)
      have hsp : a.spot = none := by
        have h0 := hcell 0 (by omega)
        simpa [Addr.add] using World.cell?_spot h0
      obtain ⟨b, off, spot⟩ := a
      simp at hsp
      subst hsp
      have e : ∀ i, (⟨b, off, none⟩ : Addr).add i = ⟨b, off + i, none⟩ := fun i => by unfold Addr.add; split <;> simp_all
      rw [e] at hc
      refine ⟨b, off, rfl, World.block_lt_of_cell? W ⟨b, off + j, none⟩ hc, ?_⟩
      rw [hc, hgd j hj]
    · by_cases hj : j < len
      · rw [hgd j hj]
        have hj2 : j < ss.length := by omega
        have : ss.getD j ByteArray.empty ∈ ss := by simp [List.getD, hj2]
        have hz := hsz _ this
        simpa using hz
      · have : ((ss.take len).map (fun s => s.data.toList)).getD j [] = [] := by rw [List.getD, List.getElem?_eq_none (by simp; omega)]; rfl
        rw [this]; simp

end

theorem cellsObject : Tryz.prog.cellsOf 25 = 3 := by kernel_rfl
set_option maxRecDepth 100000 in
theorem open_object {H : Type} {enc : TypeId × Value → H} {W : World} {base b0 : Nat} {spare : Nat → Bool} {held : Bool} {v : Value} {d : DataW H} {p : List MemPlace}
    (hv : Value.okWide Tryz.prog W .any b0 25 v) (h : DataW.Trod enc Tryz.prog W base spare held 25 v d p) :
    ∃ nm ia il ic ims fa fl fc fs, v = .agg #[.string ⟨(nm : List UInt8).toArray⟩, .slice ia il ic, .slice fa fl fc] ∧ TextsIn W ia il ims ∧ RtsIn W fa fl fs ∧ nm.length ≤ maxLen ∧ il ≤ maxLen ∧ (∀ j, (ims.getD j []).length ≤ maxLen) ∧ fl ≤ maxLen ∧ LongR fs ∧ IntR fs := by
  obtain ⟨c0, c1, c2, y0, y1, y2, m, rfl, _, _, t0, t1, t2⟩ := open_agg3 Tryz.underlying25 (by kernel_rfl) cellsObject hv h
  obtain ⟨s0, e0, _, h0⟩ := DataW.trod_string Tryz.underlying9 t0
  simp at e0
  subst e0
  obtain ⟨ia, il, ic, ims, rfl, hi, hil, him⟩ := trod_textsO t1
  obtain ⟨fa, fl, fc, fs, rfl, hf, hfl, hlf, hif⟩ := trod_rts t2
  exact ⟨s0.data.toList, ia, il, ic, ims, fa, fl, fc, fs, rfl, hi, hf, h0, hil, him, hfl, hlf, hif⟩


end Go.Proofs.YtiekcenknniniaaGreatDoor

/-! Plain facts of chapter 14 as the landed code goes about it: routines whose names rise, one found by halving. -/
namespace Go.Proofs.YtiekcenknniniaaGreatDoor
open Go.RowKit

/-- Right routines whose names rise, at most so many. -/
def RiseR (rs : List Rt) : Prop := ∀ i j, i < j → j < rs.length → Op.bytesLess (rs.getD i rt0).1 (rs.getD j rt0).1 = true
theorem riseR_of {rs : List Rt} (h : ∀ i, i + 1 < rs.length → leT (rs.getD (i + 1) rt0).1 (rs.getD i rt0).1 = false) : RiseR rs := by
  have hd : ∀ d i, i + d + 1 < rs.length → Op.bytesLess (rs.getD i rt0).1 (rs.getD (i + d + 1) rt0).1 = true := by
    intro d
    induction d with
    | zero => intro i hi; exact leT_no.1 (h i hi)
    | succ d ih => intro i hi; exact lt8_trans (ih i (by omega)) (leT_no.1 (h (i + d + 1) (by omega)))
  intro i j hij hj
  have hh := hd (j - i - 1) i (by omega)
  rw [show i + (j - i - 1) + 1 = j by omega] at hh
  exact hh
def rtsB (rs : List Rt) (most : Int) : Bool := decide ((1 ≤ (rs.length : Int) ∧ (rs.length : Int) ≤ most) ∧ (∀ i, i < rs.length → rtB (rs.getD i rt0) = true) ∧ ∀ i, i < rs.length - 1 → leT (rs.getD (i + 1) rt0).1 (rs.getD i rt0).1 = false)
theorem rtsB_rise {rs : List Rt} {m : Int} (h : rtsB rs m = true) : RiseR rs := riseR_of (fun i hi => (of_decide_eq_true h).2.2 i (by omega))
theorem rtsB_few {rs : List Rt} {m : Int} (h : (rs.length : Int) < 1 ∨ m < (rs.length : Int)) : rtsB rs m = false := decide_eq_false (fun e => by have := e.1; omega)
structure RrSt (rs : List Rt) (k : Nat) (z : List UInt8) : Prop where
  oks : ∀ i, i < k → rtB (rs.getD i rt0) = true
  rise : ∀ i, i + 1 < k → leT (rs.getD (i + 1) rt0).1 (rs.getD i rt0).1 = false
  last : (k = 0 ∧ z = []) ∨ (0 < k ∧ z = (rs.getD (k - 1) rt0).1)
theorem RrSt.start (rs : List Rt) : RrSt rs 0 [] := ⟨fun i hi => by omega, fun i hi => by omega, Or.inl ⟨rfl, rfl⟩⟩
theorem RrSt.noOk {rs : List Rt} {k : Nat} {m : Int} (hk : k < rs.length) (hn : rtB (rs.getD k rt0) = false) : rtsB rs m = false := decide_eq_false (fun g => by rw [g.2.1 k hk] at hn; cases hn)
theorem leT_nilR {x : List UInt8} (h : name13 x = true) : leT x [] = false := by
  have h1 := (name13_len h).1
  cases x with
  | nil => simp at h1
  | cons c r => simp [leT, Op.bytesLess]
theorem RrSt.noRise {rs : List Rt} {k : Nat} {z : List UInt8} {m : Int} (h : RrSt rs k z) (hk : k < rs.length) (hn : rtB (rs.getD k rt0) = true) (hl : leT (rs.getD k rt0).1 z = true) : rtsB rs m = false := by
  rcases h.last with ⟨rfl, rfl⟩ | ⟨h0, rfl⟩
  · rw [leT_nilR (rtB_parts hn).1] at hl; cases hl
  · refine decide_eq_false (fun g => ?_)
    have := g.2.2 (k - 1) (by omega)
    rw [show k - 1 + 1 = k by omega, hl] at this
    cases this
theorem RrSt.step {rs : List Rt} {k : Nat} {z : List UInt8} (h : RrSt rs k z) (hn : rtB (rs.getD k rt0) = true) (hl : leT (rs.getD k rt0).1 z = false) : RrSt rs (k + 1) (rs.getD k rt0).1 := by
  refine ⟨fun i hi => ?_, fun i hi => ?_, Or.inr ⟨by omega, by rw [Nat.add_sub_cancel]⟩⟩
  · rcases Nat.lt_or_ge i k with g | g
    · exact h.oks i g
    · obtain rfl : i = k := by omega
      exact hn
  · rcases Nat.lt_or_ge (i + 1) k with g | g
    · exact h.rise i g
    · obtain rfl : k = i + 1 := by omega
      rcases h.last with ⟨e, _⟩ | ⟨_, rfl⟩
      · omega
      · rw [Nat.add_sub_cancel] at hl; exact hl
theorem RrSt.all {rs : List Rt} {z : List UInt8} {m : Int} (h : RrSt rs rs.length z) (hl : 1 ≤ (rs.length : Int) ∧ (rs.length : Int) ≤ m) : rtsB rs m = true := decide_eq_true ⟨hl, h.oks, fun i hi => h.rise i (by omega)⟩

theorem imageB_rts (rs : List Rt) : imageB rs = (rtsB rs 64 && decide (∀ j, j < rs.length → (rs.getD j rt0).2.2.all (clsB rs) = true)) := by
  rw [Bool.eq_iff_iff]
  unfold imageB rtsB oneB
  simp only [Bool.and_eq_true, decide_eq_true_eq]
  constructor
  · rintro ⟨h, h1, h2⟩
    refine ⟨⟨⟨by omega, by omega⟩, fun i hi => (h i hi).1, fun i hi => ?_⟩, fun j hj => (h j hj).2.2⟩
    have := (h (i + 1) (by omega)).2.1 (by omega)
    rw [Nat.add_sub_cancel] at this
    exact this
  · rintro ⟨⟨h1, h2, h3⟩, h4⟩
    refine ⟨fun j hj => ⟨h2 j hj, fun h0 => ?_, h4 j hj⟩, by omega, by omega⟩
    have := h3 (j - 1) (by omega)
    rw [show j - 1 + 1 = j by omega] at this
    exact this
theorem image_noR {rs : List Rt} (h : rtsB rs 64 = false) : imageB rs = false := by rw [imageB_rts, h]; rfl
theorem image_noC {rs : List Rt} {j : Nat} (hj : j < rs.length) (h : (rs.getD j rt0).2.2.all (clsB rs) = false) : imageB rs = false := by
  rw [imageB_rts, decide_eq_false (fun g => by rw [g j hj] at h; cases h), Bool.and_false]
theorem image_yes {rs : List Rt} (h : rtsB rs 64 = true) (hc : ∀ j, j < rs.length → (rs.getD j rt0).2.2.all (clsB rs) = true) : imageB rs = true := by
  rw [imageB_rts, h, decide_eq_true hc]; rfl

/-- The place of a name. -/
theorem at14Go_yes (s : List UInt8) : ∀ (rs : List Rt) (k j : Nat), j < rs.length → (rs.getD j rt0).1 = s → (∀ i, i < j → (rs.getD i rt0).1 ≠ s) → at14Go s rs k = ((k + j : Nat) : Int)
  | [], _, j, hj, _, _ => by simp at hj
  | r :: rs, k, 0, _, h, _ => by
    rw [at14Go, if_pos (by simpa using h)]; simp
  | r :: rs, k, j + 1, hj, h, hn => by
    have h0 := hn 0 (by omega)
    rw [at14Go, if_neg (by simpa using h0), at14Go_yes s rs (k + 1) j (by simpa using hj) (by simpa using h) (fun i hi => by have := hn (i + 1) (by omega); simpa using this)]
    omega
theorem at14Go_no (s : List UInt8) : ∀ (rs : List Rt) (k : Nat), (∀ i, i < rs.length → (rs.getD i rt0).1 ≠ s) → at14Go s rs k = -1
  | [], _, _ => rfl
  | r :: rs, k, hn => by
    have h0 := hn 0 (by simp)
    rw [at14Go, if_neg (by simpa using h0), at14Go_no s rs (k + 1) (fun i hi => by have := hn (i + 1) (by simpa using hi); simpa using this)]
theorem at14_yes {rs : List Rt} (hr : RiseR rs) {s : List UInt8} {j : Nat} (hj : j < rs.length) (h : (rs.getD j rt0).1 = s) : at14 rs s = (j : Int) := by
  unfold at14
  rw [at14Go_yes s rs 0 j hj h (fun i hi e => ?_), Nat.zero_add]
  have := hr i j hi hj
  rw [e, h, lt8_irr] at this
  cases this
/-- Halving: what stands ahead is less, what stands behind is not. -/
structure Half (rs : List Rt) (s : List UInt8) (lo hi : Nat) : Prop where
  a : ∀ t, t < lo → Op.bytesLess (rs.getD t rt0).1 s = true
  b : ∀ t, hi ≤ t → t < rs.length → Op.bytesLess (rs.getD t rt0).1 s = false
theorem Half.start (rs : List Rt) (s : List UInt8) : Half rs s 0 rs.length := ⟨fun t h => by omega, fun t h1 h2 => by omega⟩
theorem Half.up {rs : List Rt} {s : List UInt8} {lo hi m : Nat} (hr : RiseR rs) (h : Half rs s lo hi) (hm : m < rs.length) (e : Op.bytesLess (rs.getD m rt0).1 s = true) : Half rs s (m + 1) hi :=
  ⟨fun t ht => by
    rcases Nat.lt_or_ge t m with g | g
    · exact lt8_trans (hr t m g hm) e
    · obtain rfl : t = m := by omega
      exact e, h.b⟩
theorem Half.down {rs : List Rt} {s : List UInt8} {lo hi m : Nat} (hr : RiseR rs) (h : Half rs s lo hi) (e : Op.bytesLess (rs.getD m rt0).1 s = false) : Half rs s lo m :=
  ⟨h.a, fun t ht hl => by
    rcases Nat.lt_or_ge m t with g | g
    · rcases hx : Op.bytesLess (rs.getD t rt0).1 s with _ | _
      · rfl
      · rw [lt8_trans (hr m t g hl) hx] at e; cases e
    · obtain rfl : t = m := by omega
      exact e⟩
theorem Half.no {rs : List Rt} {s : List UInt8} {i : Nat} (hr : RiseR rs) (h : Half rs s i i) (hn : i < rs.length → (rs.getD i rt0).1 ≠ s) : at14 rs s = -1 := by
  refine at14Go_no s rs 0 (fun t ht e => ?_)
  rcases Nat.lt_trichotomy t i with g | g | g
  · have := h.a t g; rw [e, lt8_irr] at this; cases this
  · subst g; exact hn ht e
  · have h1 := hr i t g ht
    have h2 := h.b i (Nat.le_refl _) (by omega)
    rw [e] at h1
    rw [h1] at h2
    cases h2

theorem cls_allI {rs : List Rt} {c : List In13} : c.all (clsB rs) = true ↔ ∀ k, k < c.length → clsB rs (c.getD k in0) = true := by
  rw [List.all_eq_true]
  constructor
  · intro h k hk
    exact h _ (by rw [List.getD_eq_getElem?_getD, List.getElem?_eq_getElem hk]; exact List.getElem_mem hk)
  · intro h x hx
    obtain ⟨k, hk, rfl⟩ := List.getElem_of_mem hx
    have := h k hk
    simpa [List.getD, hk] using this
theorem cls_noI {rs : List Rt} {c : List In13} {k : Nat} (hk : k < c.length) (h : clsB rs (c.getD k in0) = false) : c.all (clsB rs) = false := by
  rcases hx : c.all (clsB rs) with _ | _
  · rfl
  · rw [cls_allI.1 hx k hk] at h; cases h
theorem arg_allI {n : Int} {c : List In13} : c.all (argB n) = true ↔ ∀ k, k < c.length → argB n (c.getD k in0) = true := by
  rw [List.all_eq_true]
  constructor
  · intro h k hk
    exact h _ (by rw [List.getD_eq_getElem?_getD, List.getElem?_eq_getElem hk]; exact List.getElem_mem hk)
  · intro h x hx
    obtain ⟨k, hk, rfl⟩ := List.getElem_of_mem hx
    have := h k hk
    simpa [List.getD, hk] using this
theorem arg_noI {n : Int} {c : List In13} {k : Nat} (hk : k < c.length) (h : argB n (c.getD k in0) = false) : c.all (argB n) = false := by
  rcases hx : c.all (argB n) with _ | _
  · rfl
  · rw [arg_allI.1 hx k hk] at h; cases h

end Go.Proofs.YtiekcenknniniaaGreatDoor

/-! Plain facts for chapter 6's landed code: shapes, and what words are read as. -/
namespace Go.Proofs.YtiekcenknniniaaGreatDoor
open Go.RowKit

/-- A shape: what a node tells by its kind. -/
inductive Sh where
  | num (a : Int)
  | arg (a : Int)
  | pair (k : Int)
  | cond
  | call (p f : List UInt8) (a : Int)
  | no

def shOf (n : Nd) : Sh :=
  if n.1 = 1 then .num n.2.1
  else if n.1 = 2 then .arg n.2.1
  else if 3 ≤ n.1 ∧ n.1 ≤ 6 then .pair n.1
  else if n.1 = 7 then .cond
  else if n.1 = 8 then .call n.2.2.1 n.2.2.2 n.2.1
  else .no

def shNode : Sh → Nd
  | .num a => (1, a, [], [])
  | .arg a => (2, a, [], [])
  | .pair k => (k, 0, [], [])
  | .cond => (7, 0, [], [])
  | .call p f a => (8, a, p, f)
  | .no => (0, 0, [], [])

def shOk : Sh → Bool
  | .num a => inB a (-2147483648) 2147483647
  | .arg a => inB a 0 2
  | .pair _ => true
  | .cond => true
  | .call p f a => inB a 0 3 && (nameB p && nameB f)
  | .no => false

def shKids : Sh → Int
  | .num _ => 0
  | .arg _ => 0
  | .pair _ => 2
  | .cond => 3
  | .call _ _ a => a
  | .no => -1

def shWord : Sh → List UInt8
  | .num a => intL a
  | .arg a => 36 :: intL a
  | .pair k => if k = 3 then [43] else if k = 4 then [45] else if k = 5 then [42] else [47]
  | .cond => [63]
  | .call p f a => (64 :: p) ++ [46] ++ f ++ [47] ++ intL a
  | .no => []

/-- The library's numerals are ours. -/
theorem dec_digL : ∀ u : Nat, Lib.decDigits u = digL u := by
  intro u
  induction u using Nat.strongRecOn with
  | ind u ih =>
    rw [Lib.decDigits, digL]
    by_cases h : u < 10
    · rw [dif_pos h, if_pos h]; unfold digit; rw [Nat.mod_eq_of_lt h]
    · rw [dif_neg h, if_neg h, ih (u / 10) (by omega)]; rfl
theorem itoa_int (a : Int) : Lib.itoa a = intL a := by
  unfold Lib.itoa intL
  split
  · rw [dec_digL]
  · rw [dec_digL]; congr 1; omega

theorem join_by (ws : List (List UInt8)) : Lib.join ws [32] = joinBy 32 ws := by
  induction ws with
  | nil => rfl
  | cons x r ih =>
    cases r with
    | nil => rw [Lib.join_one]; rfl
    | cons y q =>
      rw [joinBy_cons 32 x (y :: q) (by simp), ← ih, Lib.join_cons, Lib.join_cons]
      simp [Lib.joinTail]

/-- A text cut at a byte: what is ahead of it, what is behind it. -/
def cutA (b : UInt8) (l : List UInt8) : List UInt8 := l.takeWhile (fun c => c != b)
def cutB (b : UInt8) (l : List UInt8) : List UInt8 := (l.dropWhile (fun c => c != b)).tail

theorem cut_one (b : UInt8) (x y : List UInt8) (h : ∀ c ∈ x, c ≠ b) : cutA b (x ++ b :: y) = x ∧ cutB b (x ++ b :: y) = y := by
  unfold cutA cutB
  induction x with
  | nil => simp
  | cons c r ih =>
    have hc : (c != b) = true := bne_iff_ne.2 (h c (by simp))
    have := ih (fun d hd => h d (by simp [hd]))
    rw [List.cons_append, List.takeWhile_cons, List.dropWhile_cons, if_pos hc, if_pos hc]
    exact ⟨by rw [this.1], this.2⟩

theorem cutA_len (b : UInt8) (l : List UInt8) : (cutA b l).length ≤ l.length := (List.takeWhile_sublist _).length_le
theorem cutB_len (b : UInt8) (l : List UInt8) : (cutB b l).length ≤ l.length := by
  have := (List.dropWhile_sublist (l := l) (fun c => c != b)).length_le
  unfold cutB
  rw [List.length_tail]
  omega

/-- Where the byte is. -/
theorem cut_at (b : UInt8) (l : List UInt8) : (Lib.indexByte l b = -1 ∧ cutA b l = l ∧ cutB b l = []) ∨ ∃ k : Nat, Lib.indexByte l b = (k : Int) ∧ k < l.length ∧ cutA b l = l.take k ∧ cutB b l = l.drop (k + 1) := by
  induction l with
  | nil => exact Or.inl ⟨rfl, rfl, rfl⟩
  | cons c r ih =>
    by_cases hc : c = b
    · subst hc
      refine Or.inr ⟨0, ?_, by simp, ?_, ?_⟩
      · unfold Lib.indexByte; simp
      · unfold cutA; simp
      · unfold cutB; simp
    · have hc2 : (c != b) = true := bne_iff_ne.2 hc
      have hc3 : (c == b) = false := beq_eq_false_iff_ne.2 hc
      have ea : cutA b (c :: r) = c :: cutA b r := by unfold cutA; rw [List.takeWhile_cons, if_pos hc2]
      have eb : cutB b (c :: r) = cutB b r := by unfold cutB; rw [List.dropWhile_cons, if_pos hc2]
      have ei : Lib.indexByte (c :: r) b = if Lib.indexByte r b == -1 then -1 else Lib.indexByte r b + 1 := by
        rw [Lib.indexByte, hc3]; rfl
      rw [ea, eb, ei]
      rcases ih with ⟨h1, h2, h3⟩ | ⟨k, h1, h2, h3, h4⟩
      · exact Or.inl ⟨by rw [h1]; rfl, by rw [h2], h3⟩
      · refine Or.inr ⟨k + 1, ?_, by simp; omega, by rw [h3]; rfl, by rw [h4]; rfl⟩
        rw [h1, if_neg (by rw [beq_iff_eq]; omega)]
        omega

/-- The shape of a word. -/
noncomputable def shIn (s : List UInt8) : Sh :=
  if numB s = true then .num (numV s)
  else if s = [63] then .cond
  else if s = [43] then .pair 3
  else if s = [45] then .pair 4
  else if s = [42] then .pair 5
  else if s = [47] then .pair 6
  else if s.head? = some 36 then .arg (numV s.tail)
  else if s.head? = some 64 then .call (cutA 46 (cutA 47 s.tail)) (cutB 46 (cutA 47 s.tail)) (numV (cutB 47 s.tail))
  else .no

theorem num_word (a : Int) (h0 : -2147483648 ≤ a) (h1 : a ≤ 2147483647) : numB (intL a) = true ∧ numV (intL a) = a := by
  obtain ⟨e1, e2⟩ := read_of_int a h0 h1
  have := num_yes e1 (by rw [e2]; exact inB_yes _ _ _ h0 h1)
  exact ⟨this.1, by rw [this.2, e2]⟩

/-- The landed ReadTree's list. -/
noncomputable def inT (s : List UInt8) : List Nd := (splitL 32 s).map (fun x => shNode (shIn x))

end Go.Proofs.YtiekcenknniniaaGreatDoor
