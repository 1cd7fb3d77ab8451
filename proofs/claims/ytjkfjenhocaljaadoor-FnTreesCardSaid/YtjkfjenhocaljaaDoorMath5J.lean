/-
  Plain facts for chapter 5: lines and words joined, one by one.
-/
import Derived.Test.YtjkfjenhocaljaaDoorMath5N
namespace Go.Proofs.YtjkfjenhocaljaaDoor
open Go.RowKit

theorem termJ_step (ls : List (List UInt8)) (k : Nat) (hk : k < ls.length) : termJ (ls.take (k + 1)) = termJ (ls.take k) ++ ls.getD k [] ++ [10] := by
  have hg : ls.getD k [] = ls[k] := by simp [List.getD, hk]
  rw [hg, List.take_succ_eq_append_getElem hk, termJ_snoc]

theorem termJ_append (x y : List (List UInt8)) : termJ (x ++ y) = termJ x ++ termJ y := by simp [termJ]

theorem termJ_take (ls : List (List UInt8)) (k : Nat) : (termJ (ls.take k)).length ≤ (termJ ls).length := by
  have h := congrArg (fun x => (termJ x).length) (List.take_append_drop k ls)
  simp only [termJ_append, List.length_append] at h
  omega

theorem lines_len (l : List UInt8) : (termJ (linesL l)).length ≤ l.length + 1 := by
  rcases lines_join l with h | h
  · rw [h]; omega
  · rw [h]; simp

theorem joinBy_snoc (b : UInt8) (ls : List (List UInt8)) (x : List UInt8) (h : ls ≠ []) : joinBy b (ls ++ [x]) = joinBy b ls ++ [b] ++ x := by
  induction ls with
  | nil => exact absurd rfl h
  | cons y r ih =>
    by_cases hr : r = []
    · subst hr; simp [joinBy]
    · rw [List.cons_append, joinBy_cons b y (r ++ [x]) (by simp), ih hr, joinBy_cons b y r hr]
      simp

theorem joinBy_step (b : UInt8) (ls : List (List UInt8)) (k : Nat) (hk : k < ls.length) : joinBy b (ls.take (k + 1)) = if k = 0 then ls.getD k [] else joinBy b (ls.take k) ++ [b] ++ ls.getD k [] := by
  have hg : ls.getD k [] = ls[k] := by simp [List.getD, hk]
  rw [hg, List.take_succ_eq_append_getElem hk]
  by_cases h : k = 0
  · subst h; simp [joinBy]
  · rw [if_neg h, joinBy_snoc b _ _ (fun e => by have := congrArg List.length e; rw [List.length_take, List.length_nil] at this; omega)]

theorem joinBy_take (b : UInt8) (ls : List (List UInt8)) : ∀ k, (joinBy b (ls.take k)).length ≤ (joinBy b ls).length := by
  have step : ∀ k, (joinBy b (ls.take k)).length ≤ (joinBy b (ls.take (k + 1))).length := by
    intro k
    by_cases hk : k < ls.length
    · rw [joinBy_step b ls k hk]
      split
      · rename_i h; subst h; simp [joinBy]
      · simp only [List.length_append]; omega
    · rw [List.take_of_length_le (by omega : ls.length ≤ k), List.take_of_length_le (by omega : ls.length ≤ k + 1)]
      exact Nat.le_refl _
  have far : ∀ d k, (joinBy b (ls.take k)).length ≤ (joinBy b (ls.take (k + d))).length := by
    intro d
    induction d with
    | zero => intro k; exact Nat.le_refl _
    | succ d ih => intro k; exact Nat.le_trans (ih k) (step (k + d))
  intro k
  have := far ls.length k
  rw [List.take_of_length_le (by omega : ls.length ≤ k + ls.length)] at this
  exact this

end Go.Proofs.YtjkfjenhocaljaaDoor
