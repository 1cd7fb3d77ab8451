/-
  Parts of one proof, one behind the other: NeedS.
-/
import Derived.Test.YtnpbckgaeaameaaP12
import Derived.Test.YtnpbckgaeaameaaP7
import Derived.Test.YtnpbckgaeaameaaP5

/-! What the contracts of chapter 12's specification lean on. -/
namespace Go.Proofs.Ytnpbckgaeaameaa
open Go.RowKit

set_option maxHeartbeats 400000 in
set_option maxRecDepth 100000 in
theorem specMax12 (x y : Int) (w : World) : Calls Try.prog 61 #[.int .i64 x, .int .i64 y] w fun e w' => e = .returned (.int .i64 (max x y)) ∧ w' = w := by
  by_cases h : x > y
  · have HF : Hid (max x y = x) := by exact (by omega : max x y = x)
    go_enter Try.func61, Try.ntmps61
    go_wp2
    go_ret
    exact ⟨by rw [HF.out]; rfl, rfl⟩
  · have HF : Hid (max x y = y) := by exact (by omega : max x y = y)
    go_enter Try.func61, Try.ntmps61
    go_wp2
    go_ret
    exact ⟨by rw [HF.out]; rfl, rfl⟩
theorem node_new12 (V : World) (a b c d : Value) (t : TypeId) : ((V.alloc (.cells #[a, b, c, d] t)).cell? ⟨V.heap.size, 0, none⟩ = some a ∧ (V.alloc (.cells #[a, b, c, d] t)).cell? ⟨V.heap.size, 1, none⟩ = some b ∧ (V.alloc (.cells #[a, b, c, d] t)).cell? ⟨V.heap.size, 2, none⟩ = some c ∧ (V.alloc (.cells #[a, b, c, d] t)).cell? ⟨V.heap.size, 3, none⟩ = some d) ∧ Below V.heap.size V (V.alloc (.cells #[a, b, c, d] t)) := by
  have hb : Below V.heap.size V (V.alloc (.cells #[a, b, c, d] t)) := (Below.refl _ _).alloc (Nat.le_refl _) _
  have hA := heap_alloc_new V (.cells #[a, b, c, d] t)
  generalize V.alloc (.cells #[a, b, c, d] t) = W at hb hA ⊢
  exact ⟨⟨by simp [World.cell?, hA], by simp [World.cell?, hA], by simp [World.cell?, hA], by simp [World.cell?, hA]⟩, hb⟩

theorem push_int12 {X : World} {B n : Nat} {v : Value} {xs : List Int} (x : Int) (hv : X.ownsRow B 2 1 v n (intsV xs)) (hb : B ≤ X.heap.size) (hn : n ≤ 1048576) :
    ∃ v' Y, (Builtin.append_ #[31, 31] 31 #[v, .slice (some ⟨X.heap.size, 0, none⟩) 1 1]).run Try.prog (X.alloc (.cells #[.int .i64 x] 2)) = .ok v' Y ∧ Y.ownsRow B 2 1 v' (n + 1) (intsV (xs ++ [x])) ∧ X.grownBy Y v.ownBlock := by
  obtain ⟨i0, hi, hz0, hz1, hz2⟩ := info_parts info2
  obtain ⟨v', Y, hrun, hown, hg, _⟩ := run_append_src (P := Try.prog) (X.alloc (.cells #[.int .i64 x] 2)) B 31 31 2 i0 _ 1 8 Try.underlying31 hi hz0 hz1 hz2 rfl (by decide) _ _ _ (hv.alloc _) (.slice (some ⟨X.heap.size, 0, none⟩) 1 1) 1 (intsV [x]) ⟨rfl, intsV_one _, Or.inr ⟨_, 1, rfl, new_int X x⟩⟩ (by unfold maxLen; omega) (by omega) (by simp; omega)
  refine ⟨v', Y, hrun, ?_, (World.grownBy_alloc X _ _).trans hg⟩
  rw [intsV_append]
  exact hown
theorem own_any12 {w : World} {base e size n : Nat} {v : Value} {xs : List Value} (h : w.ownsRow base e size v n xs) : ∃ a c, v = .slice a n c := by
  rcases own_forms h with ⟨rfl, rfl, _⟩ | ⟨g, cp, rfl⟩
  · exact ⟨none, 0, rfl⟩
  · exact ⟨some ⟨g, 0, none⟩, cp, rfl⟩
theorem ints_cell {w : World} {B g c n : Nat} {xs : List Int} (h : w.ownsRow B 2 1 (.slice (some ⟨g, 0, none⟩) n c) n (intsV xs)) (j : Nat) (hj : j < xs.length) : w.cell? ⟨g, j, none⟩ = some (.int .i64 (xs.getD j 0)) := by
  have hl := h.1
  rw [intsV_len] at hl
  rw [h.cellAt j (by omega), intsV_at xs j hj]
  simp [List.getD, hj]
theorem own_as {w : World} {B n : Nat} {v : Value} {xs : List Int} (h : w.ownsRow B 2 1 v n (intsV xs)) : ∃ a c, v = .slice a n c ∧ AsIn w a xs := by
  have hl := h.1
  rw [intsV_len] at hl
  rcases own_forms h with ⟨rfl, rfl, _⟩ | ⟨g, cp, rfl⟩
  · exact ⟨none, 0, rfl, fun j hj => by omega⟩
  · exact ⟨_, cp, rfl, nums_as h (by omega)⟩
theorem need_place {t : List Nd} {a : Nat} (hp : 0 ≤ endV t (a : Int)) {i : Nat} (hi : i < kidsN (t.getD a nd0)) : ∃ q : Nat, (pts10 t (a : Int)).getD i 0 = (q : Int) ∧ a < q ∧ 0 ≤ endV t (q : Int) := by
  obtain ⟨q, hq, _, hqe⟩ := part_place hp hi
  refine ⟨q, hq, ?_, hqe⟩
  obtain ⟨s, post, e, hs⟩ := sub_of hp
  cases hs with
  | mk n ks hn hk ho =>
    obtain ⟨e1, e2, e3⟩ := pts_sub e hk ho
    rw [e1] at hi
    obtain ⟨_, e4, _⟩ := e3 i (by omega)
    rw [hq] at e4
    omega
theorem need_at {t : List Nd} {os : List Int} {q d : Nat} (h : 0 ≤ endV t (q : Int)) (hd : t.length ≤ q + d) (hl : t.length ≤ 60) : 1 ≤ need12 d t os (q : Int) ∧ need12 d t os (q : Int) ≤ 60 := by
  obtain ⟨s, post, e, hs⟩ := sub_of h
  have h2 := congrArg List.length e
  rw [List.length_drop, List.length_append] at h2
  have := need_bd hs os d t post q (by omega) e
  omega
/-- What l12Need is told. -/
def Nee12 (B : World) (ta : Option Addr) (tc : Nat) (t : List Nd) (oa : Option Addr) (oc : Nat) (os : List Int) (d : Nat) : Prop := ∀ (w : World) (a : Nat), Below B.heap.size B w → 0 ≤ endV t (a : Int) → t.length ≤ a + d →
  Calls Try.prog 71 #[.slice ta t.length tc, .int .i64 (a : Int), .slice oa os.length oc] w fun e w' => e = .returned (.int .i64 (need12 d t os (a : Int))) ∧ Below w.heap.size w w'

end Go.Proofs.Ytnpbckgaeaameaa
