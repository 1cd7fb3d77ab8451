/-
  Plain facts for chapter 6: parts are one behind the other.
-/
import Derived.Test.YtjkfjenhocaljaaDoorMath6R
namespace Go.Proofs.YtjkfjenhocaljaaDoor
open Go.RowKit

/-- To close a and b is to close a, and then b. -/
theorem endGo_add : ∀ (l : List Nd) (a b : Nat), endGo l (a + b) = (endGo l a).bind (fun d => (endGo (l.drop d) b).map (d + ·))
  | l, 0, b => by
    rw [Nat.zero_add, endGo_zero]
    simp
  | [], a + 1, b => by
    rw [show a + 1 + b = (a + b) + 1 by omega, endGo_nil, endGo_nil]; rfl
  | n :: r, a + 1, b => by
    rw [show a + 1 + b = (a + b) + 1 by omega, endGo_cons, endGo_cons]
    split
    · rw [show a + b + kidsN n = (a + kidsN n) + b by omega, endGo_add r (a + kidsN n) b]
      cases endGo r (a + kidsN n) with
      | none => rfl
      | some d =>
        simp only [Option.bind_some, Option.map_some, List.drop_succ_cons, Option.map_map]
        congr 1
        funext x
        simp only [Function.comp]
        omega
    · rfl

/-- Where the parts begin. -/
def partsGo (l : List Nd) : Nat → Int → List Int
  | 0, _ => []
  | k + 1, next => next :: partsGo l k (endV l next)
def partsV (l : List Nd) (a : Int) : List Int := if endV l a < 0 then [] else partsGo l (kidsN (l.getD a.toNat (0, 0, [], []))) (a + 1)

theorem partsGo_len (l : List Nd) : ∀ k next, (partsGo l k next).length = k
  | 0, _ => rfl
  | k + 1, next => by rw [partsGo, List.length_cons, partsGo_len l k]

/-- k trees one behind the other, from a place on. -/
def chain (l : List Nd) : Nat → Int → Int
  | 0, next => next
  | k + 1, next => chain l k (endV l next)

theorem endN_some {l : List Nd} {k d : Nat} (h : endGo (l.drop k) 1 = some d) (hk : k < l.length) : endN l k = (k : Int) + d := by
  unfold endN; rw [if_pos hk, h]

theorem endGo_pos {l : List Nd} {o d : Nat} (h : endGo l (o + 1) = some d) : 1 ≤ d ∧ l ≠ [] := by
  cases l with
  | nil => rw [endGo_nil] at h; cases h
  | cons n r =>
    rw [endGo_cons] at h
    split at h
    · rw [Option.map_eq_some_iff] at h
      obtain ⟨e, _, rfl⟩ := h
      exact ⟨by omega, by simp⟩
    · cases h

theorem chain_end (l : List Nd) : ∀ (o k d : Nat), endGo (l.drop k) o = some d → k + d ≤ l.length → chain l o (k : Int) = ((k + d : Nat) : Int)
  | 0, k, d, h, _ => by
    rw [endGo_zero] at h
    injection h with h
    subst h
    rfl
  | o + 1, k, d, h, hle => by
    have h2 := endGo_add (l.drop k) 1 o
    rw [show 1 + o = o + 1 by omega, h] at h2
    cases he : endGo (l.drop k) 1 with
    | none => rw [he] at h2; simp at h2
    | some e =>
      rw [he] at h2
      simp only [Option.bind_some] at h2
      cases hf : endGo ((l.drop k).drop e) o with
      | none => rw [hf] at h2; simp at h2
      | some f =>
        rw [hf] at h2
        simp only [Option.map_some, Option.some.injEq] at h2
        have hk : k < l.length := by
          have := (endGo_pos he).2
          rcases Nat.lt_or_ge k l.length with hx | hx
          · exact hx
          · exact absurd (List.drop_eq_nil_of_le hx) this
        rw [chain, endV_nat, endN_some he hk]
        have := chain_end l o (k + e) f (by rw [List.drop_drop] at hf; exact hf) (by omega)
        rw [show ((k : Int) + (e : Int)) = ((k + e : Nat) : Int) by omega, this]
        congr 1
        omega

/-- A node that ends: its parts go from behind it to its end. -/
theorem end_parts {l : List Nd} {k : Nat} (h : 0 ≤ endV l (k : Int)) : k < l.length ∧ nodeB (l.getD k (0, 0, [], [])) = true ∧ chain l (kidsN (l.getD k (0, 0, [], []))) ((k : Int) + 1) = endV l (k : Int) ∧ (k : Int) < endV l (k : Int) ∧ endV l (k : Int) ≤ l.length := by
  rw [endV_nat] at h ⊢
  unfold endN at h
  by_cases hk : k < l.length
  · rw [if_pos hk] at h
    cases he : endGo (l.drop k) 1 with
    | none => rw [he] at h; simp at h
    | some d =>
      have hd : l.drop k = l[k] :: l.drop (k + 1) := List.drop_eq_getElem_cons hk
      have hg : l.getD k (0, 0, [], []) = l[k] := by simp [List.getD, hk]
      rw [hg]
      have hle := endGo_le _ _ _ he
      rw [List.length_drop] at hle
      have he2 := he
      rw [hd, show (1 : Nat) = 0 + 1 from rfl, endGo_cons] at he2
      split at he2
      · rename_i hn
        rw [Option.map_eq_some_iff] at he2
        obtain ⟨e, hee, rfl⟩ := he2
        have hc := chain_end l (kidsN l[k]) (k + 1) e (by rw [← hee]; congr 1; omega) (by omega)
        rw [endN_some he hk]
        refine ⟨hk, hn, ?_, by omega, by omega⟩
        rw [show ((k : Int) + 1) = ((k + 1 : Nat) : Int) by omega, hc]
        omega
      · cases he2
  · rw [if_neg hk] at h; omega

/-- What is cut out of a list from a node to its end is a tree, where it isn't too long. -/
theorem endGo_take : ∀ (l : List Nd) (o d : Nat), endGo l o = some d → endGo (l.take d) o = some d
  | l, 0, d, h => by rw [endGo_zero] at h ⊢; exact h
  | [], o + 1, d, h => by rw [endGo_nil] at h; cases h
  | n :: r, o + 1, d, h => by
    rw [endGo_cons] at h
    split at h
    · rename_i hn
      rw [Option.map_eq_some_iff] at h
      obtain ⟨e, he, rfl⟩ := h
      rw [List.take_succ_cons, endGo_cons, if_pos hn, endGo_take r _ e he]
      rfl
    · cases h

theorem cut_tree {l : List Nd} {k : Nat} (h : 0 ≤ endV l (k : Int)) (h60 : endV l (k : Int) - k ≤ 60) : treeB ((l.drop k).take (endV l (k : Int) - k).toNat) = true := by
  obtain ⟨hk, _, _, h1, h2⟩ := end_parts h
  rw [endV_nat] at h h60 h1 h2 ⊢
  unfold endN at h h60 h1 h2 ⊢
  rw [if_pos hk] at h h60 h1 h2 ⊢
  cases he : endGo (l.drop k) 1 with
  | none => rw [he] at h; simp at h
  | some d =>
    rw [he] at h60 h1 h2
    simp only at h60 h1 h2 ⊢
    rw [show ((k : Int) + (d : Int) - (k : Int)).toNat = d by omega]
    have ht := endGo_take _ _ _ he
    have hl : ((l.drop k).take d).length = d := by rw [List.length_take, List.length_drop]; omega
    refine decide_eq_true ⟨by omega, ?_⟩
    have e0 := endV_nat ((l.drop k).take d) 0
    rw [Int.natCast_zero] at e0
    rw [e0, hl]
    unfold endN
    rw [if_pos (by omega), List.drop_zero, ht]
    simp

end Go.Proofs.YtjkfjenhocaljaaDoor
