/-
  Plain facts of drawn trees: no tree at a place of a drawn list has more than 60 nodes.
-/
import Derived.Test.YtjkfjenhocaljaaDoorMath6P
import Derived.Test.YtjkfjenhocaljaaDoorTreeS2
namespace Go.Proofs.YtjkfjenhocaljaaDoor
open Go.RowKit

def EndsOk (ns : List Nd) : Prop := ∀ k : Nat, 0 ≤ endV ns (k : Int) → endV ns (k : Int) - k ≤ 60

theorem ends_len {ns : List Nd} (h : ns.length ≤ 60) : EndsOk ns := fun k hk => by
  have := (end_parts hk).2.2.2.2
  omega

theorem endGo_append : ∀ (l r : List Nd) (o d : Nat), endGo l o = some d → endGo (l ++ r) o = some d
  | l, r, 0, d, h => by rw [endGo_zero] at h ⊢; exact h
  | [], r, o + 1, d, h => by rw [endGo_nil] at h; cases h
  | n :: l, r, o + 1, d, h => by
    rw [endGo_cons] at h
    rw [List.cons_append, endGo_cons]
    split at h
    · rename_i hn
      rw [if_pos hn]
      cases he : endGo l (o + kidsN n) with
      | none => rw [he] at h; cases h
      | some q => rw [he] at h; rw [endGo_append l r _ q he]; exact h
    · cases h

theorem ends_snoc {ns : List Nd} (h : treeB ns = true) (m : Nd) : EndsOk (ns ++ [m]) := fun k hk => by
  obtain ⟨⟨h1, h2⟩, he⟩ := tree_end h
  have hb := (end_parts hk).2.2.2.2
  rw [List.length_append, List.length_singleton] at hb
  cases k with
  | zero =>
    have : endV (ns ++ [m]) ((0 : Nat) : Int) = ns.length := by
      rw [endV_nat]
      have := endN_some (l := ns ++ [m]) (k := 0) (d := ns.length) (by rw [List.drop_zero]; exact endGo_append _ _ _ _ he) (by simp)
      rw [this]; omega
    rw [this]; omega
  | succ k => omega

def ndAdd : Nd := (3, 0, [], [])
def ndNum : Nd := (1, 0, [], [])

def pairsL : Nat → List Nd
  | 0 => []
  | j + 1 => ndAdd :: ndNum :: pairsL j

theorem pairs_len : ∀ j, (pairsL j).length = 2 * j
  | 0 => rfl
  | j + 1 => by simp only [pairsL, List.length_cons, pairs_len j]; omega

theorem pairs_snoc : ∀ j, pairsL j ++ [ndAdd, ndNum] = pairsL (j + 1)
  | 0 => rfl
  | j + 1 => by
    show ndAdd :: ndNum :: (pairsL j ++ [ndAdd, ndNum]) = _
    rw [pairs_snoc j]; rfl

theorem pairs_cut (j : Nat) : (pairsL (j + 1)).take (2 * j + 1) ++ [ndNum] = pairsL (j + 1) := by
  rw [← pairs_snoc j, List.take_append, pairs_len, List.take_of_length_le (by rw [pairs_len]; omega), show 2 * j + 1 - 2 * j = 1 by omega]
  simp

theorem nodeB_add0 : nodeB ndAdd = true := by decide
theorem nodeB_num0 : nodeB ndNum = true := by decide
theorem kids_add0 : kidsN ndAdd = 2 := by decide
theorem kids_num0 : kidsN ndNum = 0 := by decide

theorem pairs_open : ∀ j o, endGo (pairsL j) (o + 1) = none
  | 0, o => endGo_nil o
  | j + 1, o => by
    show endGo (ndAdd :: ndNum :: pairsL j) (o + 1) = none
    rw [endGo_cons, if_pos nodeB_add0, kids_add0, show o + 2 = (o + 1) + 1 by omega, endGo_cons, if_pos nodeB_num0, kids_num0, Nat.add_zero, pairs_open j o]
    rfl

theorem pairs_at : ∀ j k, endGo ((pairsL j).drop k) 1 = none ∨ endGo ((pairsL j).drop k) 1 = some 1
  | 0, k => by simp [pairsL, endGo_nil]
  | j + 1, 0 => Or.inl (pairs_open (j + 1) 0)
  | j + 1, 1 => Or.inr (by
      show endGo (ndNum :: pairsL j) (0 + 1) = some 1
      rw [endGo_cons, if_pos nodeB_num0, kids_num0, endGo_zero]; rfl)
  | j + 1, k + 2 => by simpa [pairsL] using pairs_at j k

theorem ends_pairs (j : Nat) : EndsOk (pairsL j) := fun k hk => by
  have hlt := (end_parts hk).1
  rw [endV_nat] at hk ⊢
  rcases pairs_at j k with h | h
  · unfold endN at hk; rw [if_pos hlt, h] at hk; simp at hk
  · rw [endN_some h hlt]; omega

end Go.Proofs.YtjkfjenhocaljaaDoor
