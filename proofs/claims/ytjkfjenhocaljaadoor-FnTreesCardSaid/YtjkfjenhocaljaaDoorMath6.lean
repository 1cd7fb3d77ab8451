/-
  Plain facts for chapter 6 (trees): nodes, where a tree ends, how it is shown and read.
-/
import Derived.Test.YtjkfjenhocaljaaDoorMath5J
namespace Go.Proofs.YtjkfjenhocaljaaDoor
open Go.RowKit

/-- A node: its kind, its number, its package, its function. -/
abbrev Nd := Int × Int × List UInt8 × List UInt8

def nodeP (n : Nd) : Prop :=
  (n.1 = 1 ∧ (-2147483648 ≤ n.2.1 ∧ n.2.1 ≤ 2147483647) ∧ n.2.2.1 = [] ∧ n.2.2.2 = []) ∨
  (n.1 = 2 ∧ (0 ≤ n.2.1 ∧ n.2.1 ≤ 2) ∧ n.2.2.1 = [] ∧ n.2.2.2 = []) ∨
  ((3 ≤ n.1 ∧ n.1 ≤ 7) ∧ n.2.1 = 0 ∧ n.2.2.1 = [] ∧ n.2.2.2 = []) ∨
  (n.1 = 8 ∧ (0 ≤ n.2.1 ∧ n.2.1 ≤ 3) ∧ nameB n.2.2.1 = true ∧ nameB n.2.2.2 = true)
instance (n : Nd) : Decidable (nodeP n) := by unfold nodeP; infer_instance
def nodeB (n : Nd) : Bool := decide (nodeP n)
theorem nodeB_iff {n : Nd} : nodeB n = true ↔ nodeP n := by unfold nodeB; simp
theorem nodeB_no {n : Nd} (h : ¬ nodeP n) : nodeB n = false := decide_eq_false h
theorem nodeB_yes {n : Nd} (h : nodeP n) : nodeB n = true := decide_eq_true h

/-- How many parts follow. -/
def kidsN (n : Nd) : Nat := if 3 ≤ n.1 ∧ n.1 ≤ 6 then 2 else if n.1 = 7 then 3 else if n.1 = 8 then n.2.1.toNat else 0
def kidsV (n : Nd) : Int := if 3 ≤ n.1 ∧ n.1 ≤ 6 then 2 else if n.1 = 7 then 3 else if n.1 = 8 then n.2.1 else 0
def kidsOfV (n : Nd) : Int := if nodeB n = true then kidsV n else -1

theorem kidsV_ok {n : Nd} (h : nodeB n = true) : kidsV n = (kidsN n : Int) ∧ kidsN n ≤ 3 := by
  have hp := nodeB_iff.1 h
  unfold nodeP at hp
  unfold kidsV kidsN
  rcases hp with ⟨h1, _⟩ | ⟨h1, _⟩ | ⟨h1, _⟩ | ⟨h1, h2, _⟩
  · rw [if_neg (by omega), if_neg (by omega), if_neg (by omega), if_neg (by omega), if_neg (by omega), if_neg (by omega)]; omega
  · rw [if_neg (by omega), if_neg (by omega), if_neg (by omega), if_neg (by omega), if_neg (by omega), if_neg (by omega)]; omega
  · by_cases e : n.1 = 7
    · rw [if_neg (by omega), if_pos e, if_neg (by omega), if_pos e]; omega
    · rw [if_pos (by omega), if_pos (by omega)]; omega
  · rw [if_neg (by omega), if_neg (by omega), if_pos h1, if_neg (by omega), if_neg (by omega), if_pos h1]; omega

/-- How many nodes are gone through till o are closed. -/
def endGo : List Nd → Nat → Option Nat
  | _, 0 => some 0
  | [], _ + 1 => none
  | n :: r, o + 1 => if nodeB n = true then (endGo r (o + kidsN n)).map (· + 1) else none

theorem endGo_zero (l : List Nd) : endGo l 0 = some 0 := by cases l <;> rfl
theorem endGo_nil (o : Nat) : endGo [] (o + 1) = none := rfl
theorem endGo_cons (n : Nd) (r : List Nd) (o : Nat) : endGo (n :: r) (o + 1) = if nodeB n = true then (endGo r (o + kidsN n)).map (· + 1) else none := rfl

theorem endGo_le : ∀ (l : List Nd) (o d : Nat), endGo l o = some d → d ≤ l.length
  | l, 0, d, h => by rw [endGo_zero] at h; injection h with h; omega
  | [], o + 1, d, h => by rw [endGo_nil] at h; cases h
  | n :: r, o + 1, d, h => by
    rw [endGo_cons] at h
    split at h
    · rw [Option.map_eq_some_iff] at h
      obtain ⟨e, he, rfl⟩ := h
      have := endGo_le r _ e he
      simp; omega
    · cases h

/-- Where the tree at a place ends; -1 where there is none. -/
def endN (l : List Nd) (k : Nat) : Int := if k < l.length then (match endGo (l.drop k) 1 with | some d => (k : Int) + d | none => -1) else -1
def endV (l : List Nd) (a : Int) : Int := if a < 0 then -1 else endN l a.toNat

theorem endV_nat (l : List Nd) (k : Nat) : endV l (k : Int) = endN l k := by unfold endV; rw [if_neg (by omega), Int.toNat_natCast]
theorem endV_out (l : List Nd) (a : Int) (h : a < 0 ∨ (l.length : Int) ≤ a) : endV l a = -1 := by
  unfold endV
  by_cases h0 : a < 0
  · rw [if_pos h0]
  · rw [if_neg h0]; unfold endN; rw [if_neg (by omega)]

def treeB (l : List Nd) : Bool := decide ((1 ≤ l.length ∧ l.length ≤ 60) ∧ endV l 0 = (l.length : Int))

/-- The loop: k nodes on, o still open. -/
theorem end_round {l : List Nd} {k o : Nat} (hk : k < l.length) (hn : nodeB l[k] = true) : endGo (l.drop k) (o + 1) = (endGo (l.drop (k + 1)) (o + kidsN l[k])).map (· + 1) := by
  rw [List.drop_eq_getElem_cons hk, endGo_cons, if_pos hn]
theorem end_bad {l : List Nd} {k o : Nat} (hk : k < l.length) (hn : nodeB l[k] = false) : endGo (l.drop k) (o + 1) = none := by
  rw [List.drop_eq_getElem_cons hk, endGo_cons, if_neg (by rw [hn]; simp)]
theorem end_over {l : List Nd} {k o : Nat} (hk : l.length ≤ k) : endGo (l.drop k) (o + 1) = none := by
  rw [List.drop_eq_nil_of_le hk, endGo_nil]

/-- A word for a node. -/
def showN (n : Nd) : List UInt8 :=
  if n.1 = 1 then intL n.2.1
  else if n.1 = 2 then 36 :: intL n.2.1
  else if n.1 = 3 then [43]
  else if n.1 = 4 then [45]
  else if n.1 = 5 then [42]
  else if n.1 = 6 then [47]
  else if n.1 = 7 then [63]
  else (64 :: n.2.2.1) ++ [46] ++ n.2.2.2 ++ [47] ++ intL n.2.1

def showL (l : List Nd) : List UInt8 := joinBy 32 (l.map showN)
def showT (l : List Nd) : List UInt8 := if treeB l = true then showL l else []

end Go.Proofs.YtjkfjenhocaljaaDoor
