/-
  Parts of one proof, one behind the other: Math1, Math4, Math5, Math5N, Math5J, Math6, Math6R, Math6P, MathT, Own, HexOf, WordS, TextS, TextS2, TextS3, Turned, TextS4, TextS5, TreeS.
-/
import Derived.WalkKit
import Derived.IntWalk
import Derived.Laws.Bits128
import Derived.Test.YtdnehneldmmeoaaRows
import Derived.WalkLawsBesides
import Derived.Laws.OwnMore
import Derived.Laws.IdiomStrings
import Derived.Maps.AppendAt
import Derived.OpenShut
import Derived.Handy
import Derived.Laws.Concat

/-! Plain facts on lists and numbers for chapter 1 (hashes): what Hash computes, and that it stays in its range. -/
namespace Go.Proofs.Ytdnehneldmmeoaa
open Go.RowKit

def hashStep (h : Int) (b : UInt8) : Int := (1000003 * h + (b.toNat : Int) + 1) % 2147483647

def hashL (l : List UInt8) : Int := l.foldl hashStep 17

def hexDs : List UInt8 := [48, 49, 50, 51, 52, 53, 54, 55, 56, 57, 97, 98, 99, 100, 101, 102]
def hexD (n : Nat) : UInt8 := hexDs.getD n 0
def hexL (n : Nat) : List UInt8 := [hexD (n / 268435456 % 16), hexD (n / 16777216 % 16), hexD (n / 1048576 % 16), hexD (n / 65536 % 16), hexD (n / 4096 % 16), hexD (n / 256 % 16), hexD (n / 16 % 16), hexD (n % 16)]

def hexS (n : Int) : List UInt8 := if 0 ≤ n ∧ n ≤ 4294967295 then hexL n.toNat else []
def inB (x lo hi : Int) : Bool := decide (lo ≤ x ∧ x ≤ hi)
theorem inB_yes (x lo hi : Int) (h1 : lo ≤ x) (h2 : x ≤ hi) : inB x lo hi = true := decide_eq_true ⟨h1, h2⟩
theorem inB_no (x lo hi : Int) (h : x < lo ∨ hi < x) : inB x lo hi = false := decide_eq_false (by omega)

def turnedL (l : List UInt8) (at_ to : Int) : List UInt8 := if (0 ≤ at_ ∧ at_ < l.length) ∧ (0 ≤ to ∧ to ≤ 255) then l.set at_.toNat (UInt8.ofNat to.toNat) else l
end Go.Proofs.Ytdnehneldmmeoaa

/-! Plain facts for chapter 4 (words): numbers that go round. -/
namespace Go.Proofs.Ytdnehneldmmeoaa
open Go.RowKit

def wrapW (n : Int) : Int := (n + 2147483648) % 4294967296 - 2147483648

theorem wrapW_bd (n : Int) : -2147483648 ≤ wrapW n ∧ wrapW n ≤ 2147483647 := by unfold wrapW; omega

/-- What is done of two words. -/
def doneV (kind a b : Int) : Int :=
  if (-2147483648 ≤ a ∧ a ≤ 2147483647) ∧ (-2147483648 ≤ b ∧ b ≤ 2147483647) then
    (if kind = 3 then wrapW (a + b) else if kind = 4 then wrapW (a - b) else if kind = 5 then wrapW (a * b) else if kind = 6 ∧ b ≠ 0 then wrapW (a.tdiv b) else 0)
  else 0

def doneB (kind a b : Int) : Bool :=
  decide (((-2147483648 ≤ a ∧ a ≤ 2147483647) ∧ (-2147483648 ≤ b ∧ b ≤ 2147483647)) ∧ (kind = 3 ∨ kind = 4 ∨ kind = 5 ∨ kind = 6 ∧ b ≠ 0))

theorem doneV_bd (kind a b : Int) : -2147483648 ≤ doneV kind a b ∧ doneV kind a b ≤ 2147483647 := by
  unfold doneV
  split
  · repeat' split
    all_goals first | exact wrapW_bd _ | omega
  · omega

end Go.Proofs.Ytdnehneldmmeoaa

/-! Plain facts for chapter 5 (texts): pieces between bytes, names, numbers. -/
namespace Go.Proofs.Ytdnehneldmmeoaa
open Go.RowKit

/-- The pieces between bytes b, where cur was read already. -/
def splitGo (b : UInt8) : List UInt8 → List UInt8 → List (List UInt8)
  | cur, [] => [cur]
  | cur, c :: r => if c = b then cur :: splitGo b [] r else splitGo b (cur ++ [c]) r

def splitL (b : UInt8) (l : List UInt8) : List (List UInt8) := splitGo b [] l

/-- Joined by that byte they are the text. -/
def joinBy (b : UInt8) : List (List UInt8) → List UInt8
  | [] => []
  | [x] => x
  | x :: y :: r => x ++ [b] ++ joinBy b (y :: r)

/-- Each with a byte 10 behind it. -/
def termJ (ls : List (List UInt8)) : List UInt8 := (ls.map (· ++ [10])).flatten

def linesL (l : List UInt8) : List (List UInt8) := if (splitL 10 l).getLastD [] = [] then (splitL 10 l).dropLast else splitL 10 l

def wordsL (l : List UInt8) : List (List UInt8) := if l = [] then [] else splitL 32 l

/-- Names. -/
def nameB (l : List UInt8) : Bool := decide (1 ≤ l.length ∧ l.length ≤ 8) && l.all (fun c => decide (97 ≤ c.toNat ∧ c.toNat ≤ 122))

theorem name_bad (l : List UInt8) (k : Nat) (hk : k < l.length) (h : ¬ (97 ≤ l[k].toNat ∧ l[k].toNat ≤ 122)) : nameB l = false := by
  unfold nameB
  have : l.all (fun c => decide (97 ≤ c.toNat ∧ c.toNat ≤ 122)) = false := by
    rw [List.all_eq_false]
    exact ⟨l[k], List.getElem_mem hk, by simpa using h⟩
  rw [this, Bool.and_false]

theorem name_good (l : List UInt8) (h : ∀ k (hk : k < l.length), 97 ≤ l[k].toNat ∧ l[k].toNat ≤ 122) : nameB l = inB (l.length : Int) 1 8 := by
  have : l.all (fun c => decide (97 ≤ c.toNat ∧ c.toNat ≤ 122)) = true := by
    rw [List.all_eq_true]
    intro c hc
    obtain ⟨k, hk, rfl⟩ := List.getElem_of_mem hc
    exact decide_eq_true (h k hk)
  unfold nameB inB
  rw [this, Bool.and_true]
  exact decide_eq_decide.2 (by omega)

end Go.Proofs.Ytdnehneldmmeoaa

/-! Plain facts for chapter 5: a number, as it is written and as it is read. -/
namespace Go.Proofs.Ytdnehneldmmeoaa
open Go.RowKit

def digit (n : Nat) : UInt8 := UInt8.ofNat (48 + n % 10)

/-- The decimal digits, without noughts ahead. -/
def digL (n : Nat) : List UInt8 := if n < 10 then [digit n] else digL (n / 10) ++ [digit n]
termination_by n
decreasing_by omega

/-- What is still to be written ahead of s. -/
def digTo (n : Nat) (s : List UInt8) : List UInt8 := if n = 0 ∧ s ≠ [] then s else digL n ++ s

def isDig (c : UInt8) : Prop := 48 ≤ c.toNat ∧ c.toNat ≤ 57
instance (c : UInt8) : Decidable (isDig c) := by unfold isDig; infer_instance

/-- What digits say. -/
def valL (l : List UInt8) : Nat := l.foldl (fun v c => v * 10 + (c.toNat - 48)) 0

/-- Is it a minus ahead? -/
def negB (t : List UInt8) : Bool := t.head? == some 45
def bodyL (t : List UInt8) : List UInt8 := if negB t = true then t.tail else t

/-- The form of a number, and the number. -/
def formP (t : List UInt8) : Prop := (1 ≤ (bodyL t).length ∧ (bodyL t).length ≤ 10) ∧ (∀ c ∈ bodyL t, isDig c) ∧ ¬ ((bodyL t).head? = some 48 ∧ 1 < t.length)
open Classical in
noncomputable def readB (t : List UInt8) : Bool := decide (formP t)
noncomputable def readV (t : List UInt8) : Int := if readB t = true then (if negB t = true then -(valL (bodyL t) : Int) else (valL (bodyL t) : Int)) else 0
def intL (n : Int) : List UInt8 := if n < 0 then 45 :: digL n.natAbs else digL n.natAbs

noncomputable def numB (t : List UInt8) : Bool := readB t && inB (readV t) (-2147483648) 2147483647
noncomputable def numV (t : List UInt8) : Int := if numB t = true then readV t else 0

end Go.Proofs.Ytdnehneldmmeoaa

/-! Plain facts for chapter 5: lines and words joined, one by one. -/
namespace Go.Proofs.Ytdnehneldmmeoaa
open Go.RowKit

end Go.Proofs.Ytdnehneldmmeoaa

/-! Plain facts for chapter 6 (trees): nodes, where a tree ends, how it is shown and read. -/
namespace Go.Proofs.Ytdnehneldmmeoaa
open Go.RowKit

/-- A node: its kind, its number, its package, its function. -/
abbrev Nd := Int × Int × List UInt8 × List UInt8

def nodeP (n : Nd) : Prop :=
  (n.1 = 1 ∧ (-2147483648 ≤ n.2.1 ∧ n.2.1 ≤ 2147483647) ∧ n.2.2.1 = [] ∧ n.2.2.2 = []) ∨
  (n.1 = 2 ∧ (0 ≤ n.2.1 ∧ n.2.1 ≤ 2) ∧ n.2.2.1 = [] ∧ n.2.2.2 = []) ∨
  ((3 ≤ n.1 ∧ n.1 ≤ 7) ∧ n.2.1 = 0 ∧ n.2.2.1 = [] ∧ n.2.2.2 = []) ∨
  (n.1 = 8 ∧ (0 ≤ n.2.1 ∧ n.2.1 ≤ 3) ∧ nameB n.2.2.1 = true ∧ nameB n.2.2.2 = true)
instance (n : Nd) : Decidable (nodeP n) := by unfold nodeP; infer_instance
def nodeB (n : Nd) : Bool := decide (nodeP n)
theorem nodeB_iff {n : Nd} : nodeB n = true ↔ nodeP n := by unfold nodeB; simp
theorem nodeB_no {n : Nd} (h : ¬ nodeP n) : nodeB n = false := decide_eq_false h
/-- How many parts follow. -/
def kidsN (n : Nd) : Nat := if 3 ≤ n.1 ∧ n.1 ≤ 6 then 2 else if n.1 = 7 then 3 else if n.1 = 8 then n.2.1.toNat else 0
def kidsV (n : Nd) : Int := if 3 ≤ n.1 ∧ n.1 ≤ 6 then 2 else if n.1 = 7 then 3 else if n.1 = 8 then n.2.1 else 0
def kidsOfV (n : Nd) : Int := if nodeB n = true then kidsV n else -1

theorem kidsV_ok {n : Nd} (h : nodeB n = true) : kidsV n = (kidsN n : Int) ∧ kidsN n ≤ 3 := by
  have hp := nodeB_iff.1 h
  unfold nodeP at hp
  unfold kidsV kidsN
  rcases hp with ⟨h1, _⟩ | ⟨h1, _⟩ | ⟨h1, _⟩ | ⟨h1, h2, _⟩
  · rw [if_neg (by omega), if_neg (by omega), if_neg (by omega), if_neg (by omega), if_neg (by omega), if_neg (by omega)]; omega
  · rw [if_neg (by omega), if_neg (by omega), if_neg (by omega), if_neg (by omega), if_neg (by omega), if_neg (by omega)]; omega
  · by_cases e : n.1 = 7
    · rw [if_neg (by omega), if_pos e, if_neg (by omega), if_pos e]; omega
    · rw [if_pos (by omega), if_pos (by omega)]; omega
  · rw [if_neg (by omega), if_neg (by omega), if_pos h1, if_neg (by omega), if_neg (by omega), if_pos h1]; omega

/-- How many nodes are gone through till o are closed. -/
def endGo : List Nd → Nat → Option Nat
  | _, 0 => some 0
  | [], _ + 1 => none
  | n :: r, o + 1 => if nodeB n = true then (endGo r (o + kidsN n)).map (· + 1) else none

theorem endGo_zero (l : List Nd) : endGo l 0 = some 0 := by cases l <;> rfl
theorem endGo_nil (o : Nat) : endGo [] (o + 1) = none := rfl
theorem endGo_cons (n : Nd) (r : List Nd) (o : Nat) : endGo (n :: r) (o + 1) = if nodeB n = true then (endGo r (o + kidsN n)).map (· + 1) else none := rfl

theorem endGo_le : ∀ (l : List Nd) (o d : Nat), endGo l o = some d → d ≤ l.length
  | l, 0, d, h => by rw [endGo_zero] at h; injection h with h; omega
  | [], o + 1, d, h => by rw [endGo_nil] at h; cases h
  | n :: r, o + 1, d, h => by
    rw [endGo_cons] at h
    split at h
    · rw [Option.map_eq_some_iff] at h
      obtain ⟨e, he, rfl⟩ := h
      have := endGo_le r _ e he
      simp; omega
    · cases h

/-- Where the tree at a place ends; -1 where there is none. -/
def endN (l : List Nd) (k : Nat) : Int := if k < l.length then (match endGo (l.drop k) 1 with | some d => (k : Int) + d | none => -1) else -1
def endV (l : List Nd) (a : Int) : Int := if a < 0 then -1 else endN l a.toNat

theorem endV_nat (l : List Nd) (k : Nat) : endV l (k : Int) = endN l k := by unfold endV; rw [if_neg (by omega), Int.toNat_natCast]
theorem endV_out (l : List Nd) (a : Int) (h : a < 0 ∨ (l.length : Int) ≤ a) : endV l a = -1 := by
  unfold endV
  by_cases h0 : a < 0
  · rw [if_pos h0]
  · rw [if_neg h0]; unfold endN; rw [if_neg (by omega)]

def treeB (l : List Nd) : Bool := decide ((1 ≤ l.length ∧ l.length ≤ 60) ∧ endV l 0 = (l.length : Int))

/-- The loop: k nodes on, o still open. -/
theorem end_round {l : List Nd} {k o : Nat} (hk : k < l.length) (hn : nodeB l[k] = true) : endGo (l.drop k) (o + 1) = (endGo (l.drop (k + 1)) (o + kidsN l[k])).map (· + 1) := by
  rw [List.drop_eq_getElem_cons hk, endGo_cons, if_pos hn]
theorem end_bad {l : List Nd} {k o : Nat} (hk : k < l.length) (hn : nodeB l[k] = false) : endGo (l.drop k) (o + 1) = none := by
  rw [List.drop_eq_getElem_cons hk, endGo_cons, if_neg (by rw [hn]; simp)]
theorem end_over {l : List Nd} {k o : Nat} (hk : l.length ≤ k) : endGo (l.drop k) (o + 1) = none := by
  rw [List.drop_eq_nil_of_le hk, endGo_nil]

/-- A word for a node. -/
def showN (n : Nd) : List UInt8 :=
  if n.1 = 1 then intL n.2.1
  else if n.1 = 2 then 36 :: intL n.2.1
  else if n.1 = 3 then [43]
  else if n.1 = 4 then [45]
  else if n.1 = 5 then [42]
  else if n.1 = 6 then [47]
  else if n.1 = 7 then [63]
  else (64 :: n.2.2.1) ++ [46] ++ n.2.2.2 ++ [47] ++ intL n.2.1

def showL (l : List Nd) : List UInt8 := joinBy 32 (l.map showN)
def showT (l : List Nd) : List UInt8 := if treeB l = true then showL l else []

end Go.Proofs.Ytdnehneldmmeoaa

/-! Plain facts for chapter 6: what is shown is read. -/
namespace Go.Proofs.Ytdnehneldmmeoaa
open Go.RowKit

/-- The node of a word. -/
noncomputable def readN (s : List UInt8) : Nd :=
  if s = [] then (0, 0, [], [])
  else if s.head? = some 36 then (2, readV s.tail, [], [])
  else if s.head? = some 43 then (3, 0, [], [])
  else if s.head? = some 42 then (5, 0, [], [])
  else if s.head? = some 47 then (6, 0, [], [])
  else if s.head? = some 63 then (7, 0, [], [])
  else if s.head? = some 64 then
    (if (splitL 47 s.tail).length = 2 ∧ (splitL 46 ((splitL 47 s.tail).getD 0 [])).length = 2
     then (8, readV ((splitL 47 s.tail).getD 1 []), (splitL 46 ((splitL 47 s.tail).getD 0 [])).getD 0 [], (splitL 46 ((splitL 47 s.tail).getD 0 [])).getD 1 []) else (0, 0, [], []))
  else if s = [45] then (4, 0, [], [])
  else (1, readV s, [], [])

noncomputable def readT (s : List UInt8) : List Nd := (splitL 32 s).map readN
noncomputable def readOk (s : List UInt8) : Bool := decide (s.length ≤ 2000) && (treeB (readT s) && (showL (readT s) == s))
noncomputable def readTV (s : List UInt8) : List Nd := if readOk s = true then readT s else []

end Go.Proofs.Ytdnehneldmmeoaa

/-! Plain facts for chapter 6: parts are one behind the other. -/
namespace Go.Proofs.Ytdnehneldmmeoaa
open Go.RowKit

/-- To close a and b is to close a, and then b. -/
theorem endGo_add : ∀ (l : List Nd) (a b : Nat), endGo l (a + b) = (endGo l a).bind (fun d => (endGo (l.drop d) b).map (d + ·))
  | l, 0, b => by
    rw [Nat.zero_add, endGo_zero]
    simp
  | [], a + 1, b => by
    rw [show a + 1 + b = (a + b) + 1 by omega, endGo_nil, endGo_nil]; rfl
  | n :: r, a + 1, b => by
    rw [show a + 1 + b = (a + b) + 1 by omega, endGo_cons, endGo_cons]
    split
    · rw [show a + b + kidsN n = (a + kidsN n) + b by omega, endGo_add r (a + kidsN n) b]
      cases endGo r (a + kidsN n) with
      | none => rfl
      | some d =>
        simp only [Option.bind_some, Option.map_some, List.drop_succ_cons, Option.map_map]
        congr 1
        funext x
        simp only [Function.comp]
        omega
    · rfl

/-- Where the parts begin. -/
def partsGo (l : List Nd) : Nat → Int → List Int
  | 0, _ => []
  | k + 1, next => next :: partsGo l k (endV l next)
def partsV (l : List Nd) (a : Int) : List Int := if endV l a < 0 then [] else partsGo l (kidsN (l.getD a.toNat (0, 0, [], []))) (a + 1)

theorem partsGo_len (l : List Nd) : ∀ k next, (partsGo l k next).length = k
  | 0, _ => rfl
  | k + 1, next => by rw [partsGo, List.length_cons, partsGo_len l k]

/-- k trees one behind the other, from a place on. -/
def chain (l : List Nd) : Nat → Int → Int
  | 0, next => next
  | k + 1, next => chain l k (endV l next)

theorem endN_some {l : List Nd} {k d : Nat} (h : endGo (l.drop k) 1 = some d) (hk : k < l.length) : endN l k = (k : Int) + d := by
  unfold endN; rw [if_pos hk, h]

theorem endGo_pos {l : List Nd} {o d : Nat} (h : endGo l (o + 1) = some d) : 1 ≤ d ∧ l ≠ [] := by
  cases l with
  | nil => rw [endGo_nil] at h; cases h
  | cons n r =>
    rw [endGo_cons] at h
    split at h
    · rw [Option.map_eq_some_iff] at h
      obtain ⟨e, _, rfl⟩ := h
      exact ⟨by omega, by simp⟩
    · cases h

theorem chain_end (l : List Nd) : ∀ (o k d : Nat), endGo (l.drop k) o = some d → k + d ≤ l.length → chain l o (k : Int) = ((k + d : Nat) : Int)
  | 0, k, d, h, _ => by
    rw [endGo_zero] at h
    injection h with h
    subst h
    rfl
  | o + 1, k, d, h, hle => by
    have h2 := endGo_add (l.drop k) 1 o
    rw [show 1 + o = o + 1 by omega, h] at h2
    cases he : endGo (l.drop k) 1 with
    | none => rw [he] at h2; simp at h2
    | some e =>
      rw [he] at h2
      simp only [Option.bind_some] at h2
      cases hf : endGo ((l.drop k).drop e) o with
      | none => rw [hf] at h2; simp at h2
      | some f =>
        rw [hf] at h2
        simp only [Option.map_some, Option.some.injEq] at h2
        have hk : k < l.length := by
          have := (endGo_pos he).2
          rcases Nat.lt_or_ge k l.length with hx | hx
          · exact hx
          · exact absurd (List.drop_eq_nil_of_le hx) this
        rw [chain, endV_nat, endN_some he hk]
        have := chain_end l o (k + e) f (by rw [List.drop_drop] at hf; exact hf) (by omega)
        rw [show ((k : Int) + (e : Int)) = ((k + e : Nat) : Int) by omega, this]
        congr 1
        omega

/-- A node that ends: its parts go from behind it to its end. -/
theorem end_parts {l : List Nd} {k : Nat} (h : 0 ≤ endV l (k : Int)) : k < l.length ∧ nodeB (l.getD k (0, 0, [], [])) = true ∧ chain l (kidsN (l.getD k (0, 0, [], []))) ((k : Int) + 1) = endV l (k : Int) ∧ (k : Int) < endV l (k : Int) ∧ endV l (k : Int) ≤ l.length := by
  rw [endV_nat] at h ⊢
  unfold endN at h
  by_cases hk : k < l.length
  · rw [if_pos hk] at h
    cases he : endGo (l.drop k) 1 with
    | none => rw [he] at h; simp at h
    | some d =>
      have hd : l.drop k = l[k] :: l.drop (k + 1) := List.drop_eq_getElem_cons hk
      have hg : l.getD k (0, 0, [], []) = l[k] := by simp [List.getD, hk]
      rw [hg]
      have hle := endGo_le _ _ _ he
      rw [List.length_drop] at hle
      have he2 := he
      rw [hd, show (1 : Nat) = 0 + 1 from rfl, endGo_cons] at he2
      split at he2
      · rename_i hn
        rw [Option.map_eq_some_iff] at he2
        obtain ⟨e, hee, rfl⟩ := he2
        have hc := chain_end l (kidsN l[k]) (k + 1) e (by rw [← hee]; congr 1; omega) (by omega)
        rw [endN_some he hk]
        refine ⟨hk, hn, ?_, by omega, by omega⟩
        rw [show ((k : Int) + 1) = ((k + 1 : Nat) : Int) by omega, hc]
        omega
      · cases he2
  · rw [if_neg hk] at h; omega

end Go.Proofs.Ytdnehneldmmeoaa

/-! Plain facts on lists of bytes for Turned. -/
namespace Go.Proofs.Ytdnehneldmmeoaa

end Go.Proofs.Ytdnehneldmmeoaa

/-! Facts that every chapter leans on: rows that a call owns, lists of texts, the walk's own spellings. -/
namespace Go.Proofs.Ytdnehneldmmeoaa
open Go.RowKit

def strV (ls : List (List UInt8)) : List Value := ls.map (fun l => Value.string ⟨l.toArray⟩)

theorem own_none {w w' : World} {base e size n : Nat} {v : Value} {xs : List Value} (h : w.ownsRow base e size v n xs) (hg : w.grownBy w' none) : w'.ownsRow base e size v n xs := by
  refine h.kept hg ?_
  rcases hv : v.ownBlock with _ | g
  · exact Or.inl rfl
  · exact Or.inr (by simp)

theorem own_below {w w' : World} {base e size n : Nat} {v : Value} {xs : List Value} (h : w.ownsRow base e size v n xs) (hb : Below w.heap.size w w') : w'.ownsRow base e size v n xs :=
  own_none h ⟨hb.os, hb.tape, hb.output, hb.size, fun k hk _ => hb.block k hk⟩

theorem own_other {w w' : World} {B base e size n : Nat} {v : Value} {xs : List Value} (h : w.ownsRow base e size v n xs) (hB : B < base) (hg : w.grownBy w' (some B)) : w'.ownsRow base e size v n xs := by
  refine h.kept hg ?_
  rcases hv : v.ownBlock with _ | g
  · exact Or.inl rfl
  · refine Or.inr fun e => ?_
    have := (h.lt g hv).1
    injection e with e
    omega

theorem own_forms {w : World} {base e size n : Nat} {v : Value} {xs : List Value} (h : w.ownsRow base e size v n xs) : (v = .slice none 0 0 ∧ n = 0 ∧ xs = []) ∨ ∃ g cp, v = .slice (some ⟨g, 0, none⟩) n cp := by
  have h0 := h.1
  obtain ⟨_, ⟨e, hn⟩ | ⟨g, cap, cur, rfl, _⟩⟩ := h
  · refine Or.inl ⟨e, hn, List.eq_nil_of_length_eq_zero ?_⟩
    rw [h0, hn, Nat.zero_mul]
  · exact Or.inr ⟨g, cap, rfl⟩

theorem own_some {w : World} {base e size n : Nat} {v : Value} {xs : List Value} (h : w.ownsRow base e size v n xs) (hn : n ≠ 0) : ∃ g cp, v = .slice (some ⟨g, 0, none⟩) n cp := by
  rcases own_forms h with ⟨_, h0, _⟩ | h1
  · exact absurd h0 hn
  · exact h1

theorem Below.by {w w' : World} (h : Below w.heap.size w w') : w.grownBy w' none := ⟨h.os, h.tape, h.output, h.size, fun k hk _ => h.block k hk⟩

theorem own_base {w : World} {base b2 e size n : Nat} {v : Value} {xs : List Value} (h : w.ownsRow base e size v n xs) (hb : b2 ≤ base) : w.ownsRow b2 e size v n xs := by
  refine ⟨h.1, ?_⟩
  rcases h.2 with h' | ⟨g, cap, cur, hv, hg, r⟩
  · exact Or.inl h'
  · exact Or.inr ⟨g, cap, cur, hv, Nat.le_trans hb hg, r⟩

theorem grown_set (w : World) (B o : Nat) (v : Value) : w.grownBy (w.setCell ⟨B, o, none⟩ v) (some B) :=
  ⟨rfl, rfl, rfl, by simp, fun k _ hne => Below.heap_setCell w _ v k (fun e => hne (by rw [e]))⟩

/-- The values news lie at x, in m elements: what 'append' reads, whosever it is. -/
def Src (w : World) (x : Value) (m size : Nat) (news : List Value) : Prop :=
  news.length = m * size ∧ (∀ u ∈ news, u.oneCell' = true) ∧ ((x = .slice none 0 0 ∧ m = 0) ∨ ∃ ad c, x = .slice (some ad) m c ∧ ∀ j u, news[j]? = some u → w.cell? (ad.add j) = some u)

theorem run_append_src {P : Program} (w : World) (base : Nat) (t ty e : TypeId) (i : TypeInfo) (z : Value) (size bytes : Nat) (ht : P.underlying t = some (.slice e)) (hi : P.info? e = some i) (hz : i.zero = some z)
    (hsize : i.size = size) (hby : i.bytes = bytes) (hzs : z.cells.size = size) (hsz : 0 < size)
    (v : Value) (n : Nat) (xs : List Value) (hown : w.ownsRow base e size v n xs) (x : Value) (m : Nat) (news : List Value) (hsrc : Src w x m size news)
    (h63 : n + m ≤ maxLen) (hbytes : (n + m) * bytes ≤ 140737488355328) (hbase : base ≤ w.heap.size) :
    ∃ v' w', (Builtin.append_ #[t, t] ty #[v, x]).run P w = .ok v' w' ∧ w'.ownsRow base e size v' (n + m) (xs ++ news) ∧ w.grownBy w' v.ownBlock ∧ (v' = .slice none 0 0 → v = .slice none 0 0) := by
  obtain ⟨hl, h1, ⟨rfl, rfl⟩ | ⟨ad, c, rfl, hc⟩⟩ := hsrc
  · have hn : news = [] := List.eq_nil_of_length_eq_zero (by omega)
    subst hn
    exact ⟨v, w, run_append_owned_none (P := P) (w := w) base t ty e i size ht hi v n xs hown, by simpa using hown, World.grownBy.refl w _, fun h => h⟩
  · obtain ⟨v', w', hr, h2, h3, h4⟩ := run_append_own (P := P) w base t ty e i z size bytes ht hi hz hsize hby hzs hsz v n xs hown ad m c news hl hc h1 h63 hbytes hbase
    exact ⟨v', w', hr, h2, h3, fun h => (h4.1 h).1⟩

/-- 'append' in a plain region. -/
theorem wpList_append_run {P : Program} {w w' : World} {ops : Array Oper} {rest : List Oper} {o : Oper} {a : Act} {Q : Exit → Act → World → Prop} (hgd : o.guard = none) (s x : Operand) (t : TypeId)
    (ho : o.op = .call { callee := .builtin .append, args := #[s, x], argTypes := #[t, t] }) (v u v' : Value) (hs : a.eval s = v) (hx : a.eval x = u)
    (hrun : (Builtin.append_ #[t, t] o.type #[v, u]).run P w = .ok v' w') (h : wpList P ops Q rest (a.put o.dst v') w') : wpList P ops Q (o :: rest) a w := by
  refine wpList_plain hgd fun K hK => ?_
  unfold Oper.wp
  simp [execOp, ho, resolve, invoke, builtin, hs, hx, hrun, Result.andThen]
  exact hK _ _ h

end Go.Proofs.Ytdnehneldmmeoaa

/-! The contracts of spec.HexOf and impl.HexOf. -/
namespace Go.Proofs.Ytdnehneldmmeoaa
open Go.RowKit

set_option maxHeartbeats 400000 in
set_option maxRecDepth 100000 in
theorem specIn (x lo hi : Int) (w : World) :
    Calls Try.prog 38 #[.int .i64 x, .int .i64 lo, .int .i64 hi] w fun e w' => e = .returned (.bool (inB x lo hi)) ∧ w' = w := by
  by_cases h1 : lo ≤ x
  · by_cases h2 : x ≤ hi
    · have hB : Hid (inB x lo hi = true) := inB_yes x lo hi h1 h2
      go_enter Try.func38, Try.ntmps38
      go_wp2
      go_ret
      exact ⟨by rw [hB.out]; rfl, rfl⟩
    · have hB : Hid (inB x lo hi = false) := inB_no x lo hi (Or.inr (by omega))
      go_enter Try.func38, Try.ntmps38
      go_wp2
      go_ret
      exact ⟨by rw [hB.out]; rfl, rfl⟩
  · have hB : Hid (inB x lo hi = false) := inB_no x lo hi (Or.inl (by omega))
    go_enter Try.func38, Try.ntmps38
    go_wp2
    go_ret
    exact ⟨by rw [hB.out]; rfl, rfl⟩



end Go.Proofs.Ytdnehneldmmeoaa

/-! The contracts of chapter 4's specification: WordOk, Wrap, Done. -/
namespace Go.Proofs.Ytdnehneldmmeoaa
open Go.RowKit

set_option maxHeartbeats 400000 in
set_option maxRecDepth 100000 in
theorem specWordOk (n : Int) (w : World) : Calls Try.prog 59 #[.int .i64 n] w fun e w' => e = .returned (.bool (inB n (-2147483648) 2147483647)) ∧ w' = w := by
  go_enter Try.func59, Try.ntmps59
  go_wp2_with (go_at_call 38; refine (specIn _ _ _ _).mono ?_; rintro e w' ⟨rfl, rfl⟩)
  go_ret
  exact ⟨rfl, rfl⟩


end Go.Proofs.Ytdnehneldmmeoaa

/-! The contracts of chapter 5's specification: pieces, Lines, Words, NameOk. -/
namespace Go.Proofs.Ytdnehneldmmeoaa
open Go.RowKit


end Go.Proofs.Ytdnehneldmmeoaa

/-! The contracts of chapter 5's specification: Lines, Words, NameOk. -/
namespace Go.Proofs.Ytdnehneldmmeoaa
open Go.RowKit

set_option maxHeartbeats 1000000 in
set_option maxRecDepth 100000 in
theorem specNameOk (l : List UInt8) (w : World) (hl : l.length ≤ 1048576) :
    Calls Try.prog 60 #[.string ⟨l.toArray⟩] w fun e w' => e = .returned (.bool (nameB l)) ∧ w' = w := by
  go_enter Try.func60, Try.ntmps60
  go_wp2
  go_loop [3] (fun ix => ∃ k : Nat, k ≤ l.length ∧ ix = .int .i64 k ∧ Hid (∀ j (hj : j < l.length), j < k → 97 ≤ l[j].toNat ∧ l[j].toNat ≤ 122)) (fun ix => l.length - (intOf ix).toNat)
  case atStart => exact ⟨0, Nat.zero_le _, rfl, (fun j _ h => by omega : ∀ j (hj : j < l.length), j < 0 → _)⟩
  case round =>
    obtain ⟨k, hk, rfl, HK⟩ := hrel
    by_cases hkl : (k : Int) < (l.length : Int)
    · have hk2 : k < l.length := by omega
      obtain ⟨x, hx⟩ : ∃ x : UInt8, l[k] = x := ⟨_, rfl⟩
      have hxb : (⟨l.toArray⟩ : ByteArray)[k]'(by show k < l.toArray.size; simpa using hk2) = x := hx
      by_cases h1 : (x.toNat : Int) < 97
      · have HF : Hid (nameB l = false) := name_bad l k hk2 (by rw [hx]; omega)
        clear hx
        go_wp2
        go_ret
        exact ⟨by rw [HF.out]; rfl, rfl⟩
      · by_cases h2 : 122 < (x.toNat : Int)
        · have HF : Hid (nameB l = false) := name_bad l k hk2 (by rw [hx]; omega)
          clear hx
          go_wp2
          go_ret
          exact ⟨by rw [HF.out]; rfl, rfl⟩
        · have HS : Hid (∀ j (hj : j < l.length), j < k + 1 → 97 ≤ l[j].toNat ∧ l[j].toNat ≤ 122) := fun j hj hjk => by
            by_cases e : j = k
            · subst e; rw [hx]; omega
            · exact HK.out j hj (by omega)
          clear hx
          go_wp2
          go_round
          case rel => exact ⟨k + 1, by omega, by go_num, HS⟩
          case measure => simp [intOf]; omega
    · have HF : Hid (nameB l = inB (l.length : Int) 1 8) := name_good l (fun j hj => HK.out j hj (by omega))
      go_wp2_with (go_at_call 38; refine (specIn _ _ _ _).mono ?_; rintro e w' ⟨rfl, rfl⟩)
      go_ret
      exact ⟨by rw [HF.out]; rfl, rfl⟩

end Go.Proofs.Ytdnehneldmmeoaa

/-! The contracts of chapter 5's specification: a number is read; NumberOf. -/
namespace Go.Proofs.Ytdnehneldmmeoaa
open Go.RowKit

/-- What is read of the digits from place i on, up to place k. -/
def valTo (t : List UInt8) (i k : Nat) : Nat := valL ((t.drop i).take (k - i))

end Go.Proofs.Ytdnehneldmmeoaa

/-! The contracts of spec.Turned and impl.Turned. -/
namespace Go.Proofs.Ytdnehneldmmeoaa
open Go.RowKit

end Go.Proofs.Ytdnehneldmmeoaa

/-! The contracts of chapter 5's specification: NumberOf; a number is written (l1Int, digits). -/
namespace Go.Proofs.Ytdnehneldmmeoaa
open Go.RowKit


end Go.Proofs.Ytdnehneldmmeoaa

/-! The contract of l1Int: a number is written, with a minus ahead below 0. -/
namespace Go.Proofs.Ytdnehneldmmeoaa
open Go.RowKit


end Go.Proofs.Ytdnehneldmmeoaa

/-! The contracts of chapter 6's specification: NodeOk, how many parts, KidsOf. -/
namespace Go.Proofs.Ytdnehneldmmeoaa
open Go.RowKit

def nodeVal (n : Nd) : Value := .agg #[.int .i64 n.1, .int .i64 n.2.1, .string ⟨n.2.2.1.toArray⟩, .string ⟨n.2.2.2.toArray⟩]

theorem nodeB_texts (k a : Int) (p f : List UInt8) (hk : k ≠ 8) (h : p ≠ [] ∨ f ≠ []) : nodeB (k, a, p, f) = false := nodeB_no (fun hp => by
  unfold nodeP at hp
  simp only at hp
  rcases hp with ⟨_, _, h1, h2⟩ | ⟨_, _, h1, h2⟩ | ⟨_, _, h1, h2⟩ | ⟨h1, _⟩
  · rcases h with h | h; exact h h1; exact h h2
  · rcases h with h | h; exact h h1; exact h h2
  · rcases h with h | h; exact h h1; exact h h2
  · exact hk h1)
theorem nodeB_num (a : Int) : nodeB (1, a, [], []) = inB a (-2147483648) 2147483647 := by
  unfold nodeB inB
  exact decide_eq_decide.2 (by unfold nodeP; simp)
theorem nodeB_arg (a : Int) : nodeB (2, a, [], []) = inB a 0 2 := by
  unfold nodeB inB
  exact decide_eq_decide.2 (by unfold nodeP; simp)
theorem nodeB_op (k a : Int) (h : 3 ≤ k ∧ k ≤ 7) : nodeB (k, a, [], []) = (a == 0) := by
  rw [Bool.eq_iff_iff, nodeB_iff, beq_iff_eq]
  unfold nodeP
  simp
  omega
theorem nodeB_call (a : Int) (p f : List UInt8) : nodeB (8, a, p, f) = (inB a 0 3 && (nameB p && nameB f)) := by
  rw [Bool.eq_iff_iff, nodeB_iff]
  unfold nodeP inB
  simp
theorem nodeB_other (k a : Int) (p f : List UInt8) (h : k < 1 ∨ 8 < k) : nodeB (k, a, p, f) = false := nodeB_no (fun hp => by
  unfold nodeP at hp
  simp only at hp
  omega)

set_option maxHeartbeats 2000000 in
set_option maxRecDepth 100000 in
theorem specNodeOk (n : Nd) (w : World) (hp : n.2.2.1.length ≤ 1048576) (hf : n.2.2.2.length ≤ 1048576) :
    Calls Try.prog 45 #[nodeVal n] w fun e w' => e = .returned (.bool (nodeB n)) ∧ Below w.heap.size w w' := by
  obtain ⟨k, a, p, f⟩ := n
  simp only at hp hf
  unfold nodeVal
  simp only
  by_cases h8 : k = 8
  · subst h8
    have HN := nodeB_call a p f
    rw [HN]
    clear HN
    rcases hia : inB a 0 3 with _ | _
    · have HA : Hid (inB a 0 3 = false) := hia
      clear hia
      go_enter Try.func45, Try.ntmps45
      go_wp2_with fail
      refine (specIn _ _ _ _).mono ?_
      rintro e w1 ⟨rfl, rfl⟩
      rw [HA.out]
      go_wp2
      go_ret
      exact ⟨rfl, (Below.refl _ w).alloc (Nat.le_refl _) _⟩
    · have HA : Hid (inB a 0 3 = true) := hia
      clear hia
      rcases hnp : nameB p with _ | _
      · have HP : Hid (nameB p = false) := hnp
        clear hnp
        go_enter Try.func45, Try.ntmps45
        go_wp2_with fail
        refine (specIn _ _ _ _).mono ?_
        rintro e w1 ⟨rfl, rfl⟩
        rw [HA.out]
        go_wp2_with fail
        refine (specNameOk p _ hp).mono ?_
        rintro e w1 ⟨rfl, rfl⟩
        rw [HP.out]
        go_wp2
        go_ret
        exact ⟨rfl, (Below.refl _ w).alloc (Nat.le_refl _) _⟩
      · have HP : Hid (nameB p = true) := hnp
        clear hnp
        go_enter Try.func45, Try.ntmps45
        go_wp2_with fail
        refine (specIn _ _ _ _).mono ?_
        rintro e w1 ⟨rfl, rfl⟩
        rw [HA.out]
        go_wp2_with fail
        refine (specNameOk p _ hp).mono ?_
        rintro e w1 ⟨rfl, rfl⟩
        rw [HP.out]
        go_wp2_with fail
        refine (specNameOk f _ hf).mono ?_
        rintro e w1 ⟨rfl, rfl⟩
        go_wp2
        go_ret
        exact ⟨rfl, (Below.refl _ w).alloc (Nat.le_refl _) _⟩
  · have d8 : (k != 8) = true := bne_iff_ne.2 h8
    have d8' : (k == 8) = false := beq_eq_false_iff_ne.2 h8
    by_cases hpe : p = []
    · subst hpe
      by_cases hfe : f = []
      · subst hfe
        by_cases h1 : k = 1
        · subst h1
          have HN := nodeB_num a
          rw [HN]
          clear HN
          go_enter Try.func45, Try.ntmps45
          go_wp2_with fail
          refine (specWordOk _ _).mono ?_
          rintro e w1 ⟨rfl, rfl⟩
          go_wp2
          go_ret
          exact ⟨rfl, (Below.refl _ w).alloc (Nat.le_refl _) _⟩
        · have d1 : (k == 1) = false := beq_eq_false_iff_ne.2 h1
          by_cases h2 : k = 2
          · subst h2
            have HN := nodeB_arg a
            rw [HN]
            clear HN
            go_enter Try.func45, Try.ntmps45
            go_wp2_with fail
            refine (specIn _ _ _ _).mono ?_
            rintro e w1 ⟨rfl, rfl⟩
            go_wp2
            go_ret
            exact ⟨rfl, (Below.refl _ w).alloc (Nat.le_refl _) _⟩
          · have d2 : (k == 2) = false := beq_eq_false_iff_ne.2 h2
            by_cases h37 : 3 ≤ k ∧ k ≤ 7
            · have HN := nodeB_op k a h37
              rw [HN]
              clear HN
              rcases (show k = 3 ∨ k = 4 ∨ k = 5 ∨ k = 6 ∨ k = 7 by omega) with rfl | rfl | rfl | rfl | rfl
              all_goals
                go_enter Try.func45, Try.ntmps45
                go_wp2
                go_ret
                exact ⟨rfl, (Below.refl _ w).alloc (Nat.le_refl _) _⟩
            · have HN := nodeB_other k a [] [] (by omega)
              rw [HN]
              clear HN
              have d3 : (k == 3) = false := beq_eq_false_iff_ne.2 (by omega)
              have d4 : (k == 4) = false := beq_eq_false_iff_ne.2 (by omega)
              have d5 : (k == 5) = false := beq_eq_false_iff_ne.2 (by omega)
              have d6 : (k == 6) = false := beq_eq_false_iff_ne.2 (by omega)
              have d7 : (k == 7) = false := beq_eq_false_iff_ne.2 (by omega)
              clear h37 h1 h2 h8
              go_enter Try.func45, Try.ntmps45
              go_wp2
              go_ret
              exact ⟨rfl, (Below.refl _ w).alloc (Nat.le_refl _) _⟩
      · have HN := nodeB_texts k a [] f h8 (Or.inr hfe)
        rw [HN]
        have hfb : f.isEmpty = false := by simp [hfe]
        clear HN hfe h8
        go_enter Try.func45, Try.ntmps45
        go_wp2
        go_ret
        exact ⟨rfl, (Below.refl _ w).alloc (Nat.le_refl _) _⟩
    · have HN := nodeB_texts k a p f h8 (Or.inl hpe)
      rw [HN]
      have hpb : p.isEmpty = false := by simp [hpe]
      clear HN hpe h8
      go_enter Try.func45, Try.ntmps45
      go_wp2
      go_ret
      exact ⟨rfl, (Below.refl _ w).alloc (Nat.le_refl _) _⟩

theorem kids_two (k a : Int) (p f : List UInt8) (h : 3 ≤ k ∧ k ≤ 6) : kidsV (k, a, p, f) = 2 := if_pos h
theorem kids_if (a : Int) (p f : List UInt8) : kidsV (7, a, p, f) = 3 := by unfold kidsV; simp
theorem kids_call (a : Int) (p f : List UInt8) : kidsV (8, a, p, f) = a := by unfold kidsV; simp
theorem kids_none (k a : Int) (p f : List UInt8) (h : k < 3 ∨ 8 < k) : kidsV (k, a, p, f) = 0 := by
  unfold kidsV
  simp only
  rw [if_neg (by omega), if_neg (by omega), if_neg (by omega)]

set_option maxHeartbeats 2000000 in
set_option maxRecDepth 100000 in
theorem specKids (n : Nd) (w : World) :
    Calls Try.prog 46 #[nodeVal n] w fun e w' => e = .returned (.int .i64 (kidsV n)) ∧ Below w.heap.size w w' := by
  obtain ⟨k, a, p, f⟩ := n
  unfold nodeVal
  simp only
  by_cases h36 : 3 ≤ k ∧ k ≤ 6
  · rw [kids_two k a p f h36]
    rcases (show k = 3 ∨ k = 4 ∨ k = 5 ∨ k = 6 by omega) with rfl | rfl | rfl | rfl
    all_goals
      go_enter Try.func46, Try.ntmps46
      go_wp2
      go_ret
      exact ⟨rfl, (Below.refl _ w).alloc (Nat.le_refl _) _⟩
  · by_cases h7 : k = 7
    · subst h7
      rw [kids_if]
      go_enter Try.func46, Try.ntmps46
      go_wp2
      go_ret
      exact ⟨rfl, (Below.refl _ w).alloc (Nat.le_refl _) _⟩
    · by_cases h8 : k = 8
      · subst h8
        rw [kids_call]
        go_enter Try.func46, Try.ntmps46
        go_wp2
        go_ret
        exact ⟨rfl, (Below.refl _ w).alloc (Nat.le_refl _) _⟩
      · rw [kids_none k a p f (by omega)]
        have d3 : (k == 3) = false := beq_eq_false_iff_ne.2 (by omega)
        have d4 : (k == 4) = false := beq_eq_false_iff_ne.2 (by omega)
        have d5 : (k == 5) = false := beq_eq_false_iff_ne.2 (by omega)
        have d6 : (k == 6) = false := beq_eq_false_iff_ne.2 (by omega)
        have d7 : (k == 7) = false := beq_eq_false_iff_ne.2 h7
        have d8 : (k == 8) = false := beq_eq_false_iff_ne.2 h8
        clear h36 h7 h8
        go_enter Try.func46, Try.ntmps46
        go_wp2
        go_ret
        exact ⟨rfl, (Below.refl _ w).alloc (Nat.le_refl _) _⟩

theorem below_boxed {w w1 : World} {o : Obj} (h : Below (w.alloc o).heap.size (w.alloc o) w1) : Below w.heap.size w w1 :=
  ((Below.refl _ w).alloc (Nat.le_refl _) o).trans (h.mono (by simp))

end Go.Proofs.Ytdnehneldmmeoaa
