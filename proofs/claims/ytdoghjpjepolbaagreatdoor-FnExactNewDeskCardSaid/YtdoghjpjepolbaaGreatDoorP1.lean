/-
  Parts of one proof, one behind the other: Math1, Math4, Math5, Math5N, Math5J, Math6, Math6R, Math6P, MathT, Own, HexOf, WordS, TextS, TextS2, TextS3, Turned, TextS4.
-/
import Derived.WalkKit
import Derived.IntWalk
import Derived.Laws.Bits128
import Derived.Test.YtdoghjpjepolbaaGreatDoorRows
import Derived.WalkLawsBesides
import Derived.Laws.OwnMore
import Derived.Laws.IdiomStrings
import Derived.Maps.AppendAt
import Derived.OpenShut
import Derived.Handy
import Derived.Laws.Concat

/-! Plain facts on lists and numbers for chapter 1 (hashes): what Hash computes, and that it stays in its range. -/
namespace Go.Proofs.YtdoghjpjepolbaaGreatDoor
open Go.RowKit

def hashStep (h : Int) (b : UInt8) : Int := (1000003 * h + (b.toNat : Int) + 1) % 2147483647

def hashL (l : List UInt8) : Int := l.foldl hashStep 17

theorem w64 (n : Int) (h : -9223372036854775808 ≤ n ∧ n ≤ 9223372036854775807) : wrap64 n = n := by unfold wrap64; omega

theorem stepW (h : Int) (b : UInt8) (h0 : 0 ≤ h ∧ h < 2147483647) : ((wrap64 (wrap64 (1000003 * h + wrap64 (b.toNat : Int)) + 1)).tmod 2147483647) = hashStep h b := by
 have hb := b.toNat_lt
 rw [w64 (b.toNat : Int) (by omega), w64 (1000003 * h + (b.toNat : Int)) (by omega), w64 _ (by omega), Int.tmod_eq_emod_of_nonneg (by omega)]
 rfl

theorem hashStep_bd (h : Int) (b : UInt8) : 0 ≤ hashStep h b ∧ hashStep h b < 2147483647 := by
 unfold hashStep; omega

theorem foldl_bd (l : List UInt8) (h : Int) (h0 : 0 ≤ h ∧ h < 2147483647) : 0 ≤ l.foldl hashStep h ∧ l.foldl hashStep h < 2147483647 := by
 induction l generalizing h with
 | nil => exact h0
 | cons b r ih => exact ih _ (hashStep_bd h b)

theorem hashL_bd (l : List UInt8) : 0 ≤ hashL l ∧ hashL l < 2147483647 := foldl_bd l 17 (by omega)

theorem hashL_snoc (l : List UInt8) (c : UInt8) : hashL (l ++ [c]) = hashStep (hashL l) c := by
 unfold hashL; rw [List.foldl_append]; rfl

theorem take_snoc (s : ByteArray) (k : Nat) (h : k < s.size) : s.data.toList.take (k + 1) = s.data.toList.take k ++ [s[k]] := by
 rw [List.take_succ_eq_append_getElem (by simpa using h)]; rfl

theorem hashL_take (s : ByteArray) (k : Nat) (h : k < s.size) : hashL (s.data.toList.take (k + 1)) = hashStep (hashL (s.data.toList.take k)) s[k] := by
 rw [take_snoc s k h, hashL_snoc]

theorem ret_int {k : IntKind} {a b : Int} (h : a = b) : Ending.returned (.int k a) = .returned (.int k b) := by rw [h]

def hexDs : List UInt8 := [48, 49, 50, 51, 52, 53, 54, 55, 56, 57, 97, 98, 99, 100, 101, 102]
def hexD (n : Nat) : UInt8 := hexDs.getD n 0
theorem hexD_at (m : Int) (h : m.toNat < (ByteArray.mk #[48, 49, 50, 51, 52, 53, 54, 55, 56, 57, 97, 98, 99, 100, 101, 102]).size) : (ByteArray.mk #[48, 49, 50, 51, 52, 53, 54, 55, 56, 57, 97, 98, 99, 100, 101, 102])[m.toNat] = hexD m.toNat := by
 have h' : m.toNat < 16 := h
 generalize m.toNat = k at *
 unfold hexD hexDs
 rw [List.getD_eq_getElem?_getD, List.getElem?_eq_getElem (by simpa using h')]
 rfl
def hexL (n : Nat) : List UInt8 := [hexD (n / 268435456 % 16), hexD (n / 16777216 % 16), hexD (n / 1048576 % 16), hexD (n / 65536 % 16), hexD (n / 4096 % 16), hexD (n / 256 % 16), hexD (n / 16 % 16), hexD (n % 16)]

theorem hexW (n : Int) (h0 : 0 ≤ n) : #[hexD (n / 16 / 16 / 16 / 16 / 16 / 16 / 16 % 16).toNat, hexD (n / 16 / 16 / 16 / 16 / 16 / 16 % 16).toNat, hexD (n / 16 / 16 / 16 / 16 / 16 % 16).toNat, hexD (n / 16 / 16 / 16 / 16 % 16).toNat, hexD (n / 16 / 16 / 16 % 16).toNat, hexD (n / 16 / 16 % 16).toNat, hexD (n / 16 % 16).toNat, hexD (n % 16).toNat] = (hexL n.toNat).toArray := by
 unfold hexL
 rw [show (n / 16 / 16 / 16 / 16 / 16 / 16 / 16 % 16).toNat = n.toNat / 268435456 % 16 by omega, show (n / 16 / 16 / 16 / 16 / 16 / 16 % 16).toNat = n.toNat / 16777216 % 16 by omega,
  show (n / 16 / 16 / 16 / 16 / 16 % 16).toNat = n.toNat / 1048576 % 16 by omega, show (n / 16 / 16 / 16 / 16 % 16).toNat = n.toNat / 65536 % 16 by omega,
  show (n / 16 / 16 / 16 % 16).toNat = n.toNat / 4096 % 16 by omega, show (n / 16 / 16 % 16).toNat = n.toNat / 256 % 16 by omega,
  show (n / 16 % 16).toNat = n.toNat / 16 % 16 by omega, show (n % 16).toNat = n.toNat % 16 by omega]

theorem ret_str {a b : Array UInt8} (h : a = b) : Ending.returned (.string ⟨a⟩) = .returned (.string ⟨b⟩) := by rw [h]

theorem and15 (n : Int) : bits .and .i64 n 15 = n % 16 := by
 have h15 : (BitVec.ofInt 64 15).toNat = 2 ^ 4 - 1 := by decide
 have key : (BitVec.ofInt 64 n &&& BitVec.ofInt 64 15).toNat = (n % ((2 ^ 64 : Nat) : Int)).toNat % 2 ^ 4 := by
  rw [BitVec.toNat_and, BitVec.toNat_ofInt, h15, Nat.and_two_pow_sub_one_eq_mod]
 show IntKind.i64.wrap ((BitVec.ofInt 64 n &&& BitVec.ofInt 64 15).toNat : Nat) = n % 16
 rw [key, IntKind.wrap_i64]
 omega

def hexS (n : Int) : List UInt8 := if 0 ≤ n ∧ n ≤ 4294967295 then hexL n.toNat else []
theorem hexS_yes (n : Int) (h0 : 0 ≤ n) (h1 : n ≤ 4294967295) : hexS n = hexL n.toNat := if_pos ⟨h0, h1⟩
theorem hexS_no (n : Int) (h : n < 0 ∨ 4294967295 < n) : hexS n = [] := if_neg (by omega)

def inB (x lo hi : Int) : Bool := decide (lo ≤ x ∧ x ≤ hi)
theorem inB_yes (x lo hi : Int) (h1 : lo ≤ x) (h2 : x ≤ hi) : inB x lo hi = true := decide_eq_true ⟨h1, h2⟩
theorem inB_no (x lo hi : Int) (h : x < lo ∨ hi < x) : inB x lo hi = false := decide_eq_false (by omega)

def turnedL (l : List UInt8) (at_ to : Int) : List UInt8 := if (0 ≤ at_ ∧ at_ < l.length) ∧ (0 ≤ to ∧ to ≤ 255) then l.set at_.toNat (UInt8.ofNat to.toNat) else l
end Go.Proofs.YtdoghjpjepolbaaGreatDoor

/-! Plain facts for chapter 4 (words): numbers that go round. -/
namespace Go.Proofs.YtdoghjpjepolbaaGreatDoor
open Go.RowKit

def wrapW (n : Int) : Int := (n + 2147483648) % 4294967296 - 2147483648

/-- What is done of two words. -/
def doneV (kind a b : Int) : Int :=
 if (-2147483648 ≤ a ∧ a ≤ 2147483647) ∧ (-2147483648 ≤ b ∧ b ≤ 2147483647) then
  (if kind = 3 then wrapW (a + b) else if kind = 4 then wrapW (a - b) else if kind = 5 then wrapW (a * b) else if kind = 6 ∧ b ≠ 0 then wrapW (a.tdiv b) else 0)
 else 0

def doneB (kind a b : Int) : Bool :=
 decide (((-2147483648 ≤ a ∧ a ≤ 2147483647) ∧ (-2147483648 ≤ b ∧ b ≤ 2147483647)) ∧ (kind = 3 ∨ kind = 4 ∨ kind = 5 ∨ kind = 6 ∧ b ≠ 0))

end Go.Proofs.YtdoghjpjepolbaaGreatDoor

/-! Plain facts for chapter 5 (texts): pieces between bytes, names, numbers. -/
namespace Go.Proofs.YtdoghjpjepolbaaGreatDoor
open Go.RowKit

/-- The pieces between bytes b, where cur was read already. -/
def splitGo (b : UInt8) : List UInt8 → List UInt8 → List (List UInt8)
 | cur, [] => [cur]
 | cur, c :: r => if c = b then cur :: splitGo b [] r else splitGo b (cur ++ [c]) r

def splitL (b : UInt8) (l : List UInt8) : List (List UInt8) := splitGo b [] l

/-- Joined by that byte they are the text. -/
def joinBy (b : UInt8) : List (List UInt8) → List UInt8
 | [] => []
 | [x] => x
 | x :: y :: r => x ++ [b] ++ joinBy b (y :: r)

/-- Each with a byte 10 behind it. -/
def termJ (ls : List (List UInt8)) : List UInt8 := (ls.map (· ++ [10])).flatten

def linesL (l : List UInt8) : List (List UInt8) := if (splitL 10 l).getLastD [] = [] then (splitL 10 l).dropLast else splitL 10 l

def wordsL (l : List UInt8) : List (List UInt8) := if l = [] then [] else splitL 32 l

/-- Names. -/
def nameB (l : List UInt8) : Bool := decide (1 ≤ l.length ∧ l.length ≤ 8) && l.all (fun c => decide (97 ≤ c.toNat ∧ c.toNat ≤ 122))

theorem name_bad (l : List UInt8) (k : Nat) (hk : k < l.length) (h : ¬ (97 ≤ l[k].toNat ∧ l[k].toNat ≤ 122)) : nameB l = false := by
 unfold nameB
 have : l.all (fun c => decide (97 ≤ c.toNat ∧ c.toNat ≤ 122)) = false := by
  rw [List.all_eq_false]
  exact ⟨l[k], List.getElem_mem hk, by simpa using h⟩
 rw [this, Bool.and_false]

theorem name_good (l : List UInt8) (h : ∀ k (hk : k < l.length), 97 ≤ l[k].toNat ∧ l[k].toNat ≤ 122) : nameB l = inB (l.length : Int) 1 8 := by
 have : l.all (fun c => decide (97 ≤ c.toNat ∧ c.toNat ≤ 122)) = true := by
  rw [List.all_eq_true]
  intro c hc
  obtain ⟨k, hk, rfl⟩ := List.getElem_of_mem hc
  exact decide_eq_true (h k hk)
 unfold nameB inB
 rw [this, Bool.and_true]
 exact decide_eq_decide.2 (by omega)

end Go.Proofs.YtdoghjpjepolbaaGreatDoor

/-! Plain facts for chapter 5: a number, as it is written and as it is read. -/
namespace Go.Proofs.YtdoghjpjepolbaaGreatDoor
open Go.RowKit

def digit (n : Nat) : UInt8 := UInt8.ofNat (48 + n % 10)

/-- The decimal digits, without noughts ahead. -/
def digL (n : Nat) : List UInt8 := if n < 10 then [digit n] else digL (n / 10) ++ [digit n]
termination_by n
decreasing_by omega

theorem digL_small {n : Nat} (h : n < 10) : digL n = [digit n] := by rw [digL, if_pos h]
theorem digL_big {n : Nat} (h : 10 ≤ n) : digL n = digL (n / 10) ++ [digit n] := by rw [digL, if_neg (by omega)]

/-- What is still to be written ahead of s. -/
def digTo (n : Nat) (s : List UInt8) : List UInt8 := if n = 0 ∧ s ≠ [] then s else digL n ++ s

theorem digTo_start (n : Nat) : digTo n [] = digL n := by simp [digTo]
theorem digTo_end {s : List UInt8} (h : s ≠ []) : digTo 0 s = s := by simp [digTo, h]
theorem digTo_step (n : Nat) (s : List UInt8) (h : s = [] ∨ n ≠ 0) : digTo (n / 10) (digit n :: s) = digTo n s := by
 unfold digTo
 rw [if_neg (c := n = 0 ∧ s ≠ []) (by rcases h with h | h <;> simp [h])]
 by_cases hn : n < 10
 ·
  rw [if_pos ⟨by omega, by simp⟩, digL_small hn]; rfl
 ·
  rw [if_neg (by omega), digL_big (n := n) (by omega)]; simp

theorem digL_len : ∀ (k n : Nat), n < 10 ^ (k + 1) → (digL n).length ≤ k + 1
 | 0, n, h => by rw [digL_small (by simpa using h)]; simp
 | k + 1, n, h => by
  by_cases hn : n < 10
  ·
   rw [digL_small hn]; simp
  ·
   rw [digL_big (by omega)]
   have := digL_len k (n / 10) (by rw [Nat.pow_succ] at h; omega)
   simp; omega

theorem digTo_len (k N : Nat) (s : List UInt8) (h : digTo k s = digL N) (hN : (N : Int) ≤ 9223372036854775808) : s.length ≤ 19 := by
 have h1 : (digL N).length ≤ 19 := digL_len 18 N (by omega)
 rw [← h] at h1
 unfold digTo at h1
 split at h1
 ·
  exact h1
 ·
  rw [List.length_append] at h1; omega

def isDig (c : UInt8) : Prop := 48 ≤ c.toNat ∧ c.toNat ≤ 57
instance (c : UInt8) : Decidable (isDig c) := by unfold isDig; infer_instance

/-- What digits say. -/
def valL (l : List UInt8) : Nat := l.foldl (fun v c => v * 10 + (c.toNat - 48)) 0

/-- Is it a minus ahead? -/
def negB (t : List UInt8) : Bool := t.head? == some 45
def bodyL (t : List UInt8) : List UInt8 := if negB t = true then t.tail else t

/-- The form of a number, and the number. -/
def formP (t : List UInt8) : Prop := (1 ≤ (bodyL t).length ∧ (bodyL t).length ≤ 10) ∧ (∀ c ∈ bodyL t, isDig c) ∧ ¬ ((bodyL t).head? = some 48 ∧ 1 < t.length)
open Classical in
noncomputable def readB (t : List UInt8) : Bool := decide (formP t)
noncomputable def readV (t : List UInt8) : Int := if readB t = true then (if negB t = true then -(valL (bodyL t) : Int) else (valL (bodyL t) : Int)) else 0
def intL (n : Int) : List UInt8 := if n < 0 then 45 :: digL n.natAbs else digL n.natAbs

noncomputable def numB (t : List UInt8) : Bool := readB t && inB (readV t) (-2147483648) 2147483647
noncomputable def numV (t : List UInt8) : Int := if numB t = true then readV t else 0

end Go.Proofs.YtdoghjpjepolbaaGreatDoor

/-! Plain facts for chapter 5: lines and words joined, one by one. -/
namespace Go.Proofs.YtdoghjpjepolbaaGreatDoor
open Go.RowKit

end Go.Proofs.YtdoghjpjepolbaaGreatDoor

/-! Plain facts for chapter 6 (trees): nodes, where a tree ends, how it is shown and read. -/
namespace Go.Proofs.YtdoghjpjepolbaaGreatDoor
open Go.RowKit

/-- A node: its kind, its number, its package, its function. -/
abbrev Nd := Int × Int × List UInt8 × List UInt8

def nodeP (n : Nd) : Prop :=
 (n.1 = 1 ∧ (-2147483648 ≤ n.2.1 ∧ n.2.1 ≤ 2147483647) ∧ n.2.2.1 = [] ∧ n.2.2.2 = []) ∨
 (n.1 = 2 ∧ (0 ≤ n.2.1 ∧ n.2.1 ≤ 2) ∧ n.2.2.1 = [] ∧ n.2.2.2 = []) ∨
 ((3 ≤ n.1 ∧ n.1 ≤ 7) ∧ n.2.1 = 0 ∧ n.2.2.1 = [] ∧ n.2.2.2 = []) ∨
 (n.1 = 8 ∧ (0 ≤ n.2.1 ∧ n.2.1 ≤ 3) ∧ nameB n.2.2.1 = true ∧ nameB n.2.2.2 = true)
instance (n : Nd) : Decidable (nodeP n) := by unfold nodeP; infer_instance
def nodeB (n : Nd) : Bool := decide (nodeP n)
theorem nodeB_iff {n : Nd} : nodeB n = true ↔ nodeP n := by unfold nodeB; simp
theorem nodeB_no {n : Nd} (h : ¬ nodeP n) : nodeB n = false := decide_eq_false h
/-- How many parts follow. -/
def kidsN (n : Nd) : Nat := if 3 ≤ n.1 ∧ n.1 ≤ 6 then 2 else if n.1 = 7 then 3 else if n.1 = 8 then n.2.1.toNat else 0
def kidsV (n : Nd) : Int := if 3 ≤ n.1 ∧ n.1 ≤ 6 then 2 else if n.1 = 7 then 3 else if n.1 = 8 then n.2.1 else 0
def kidsOfV (n : Nd) : Int := if nodeB n = true then kidsV n else -1

theorem kidsV_ok {n : Nd} (h : nodeB n = true) : kidsV n = (kidsN n : Int) ∧ kidsN n ≤ 3 := by
 have hp := nodeB_iff.1 h
 unfold nodeP at hp
 unfold kidsV kidsN
 rcases hp with ⟨h1, _⟩ | ⟨h1, _⟩ | ⟨h1, _⟩ | ⟨h1, h2, _⟩
 ·
  rw [if_neg (by omega), if_neg (by omega), if_neg (by omega), if_neg (by omega), if_neg (by omega), if_neg (by omega)]; omega
 ·
  rw [if_neg (by omega), if_neg (by omega), if_neg (by omega), if_neg (by omega), if_neg (by omega), if_neg (by omega)]; omega
 ·
  by_cases e : n.1 = 7
  ·
   rw [if_neg (by omega), if_pos e, if_neg (by omega), if_pos e]; omega
  ·
   rw [if_pos (by omega), if_pos (by omega)]; omega
 ·
  rw [if_neg (by omega), if_neg (by omega), if_pos h1, if_neg (by omega), if_neg (by omega), if_pos h1]; omega

/-- How many nodes are gone through till o are closed. -/
def endGo : List Nd → Nat → Option Nat
 | _, 0 => some 0
 | [], _ + 1 => none
 | n :: r, o + 1 => if nodeB n = true then (endGo r (o + kidsN n)).map (· + 1) else none

theorem endGo_zero (l : List Nd) : endGo l 0 = some 0 := by cases l <;> rfl
theorem endGo_nil (o : Nat) : endGo [] (o + 1) = none := rfl
theorem endGo_cons (n : Nd) (r : List Nd) (o : Nat) : endGo (n :: r) (o + 1) = if nodeB n = true then (endGo r (o + kidsN n)).map (· + 1) else none := rfl

/-- Where the tree at a place ends; -1 where there is none. -/
def endN (l : List Nd) (k : Nat) : Int := if k < l.length then (match endGo (l.drop k) 1 with | some d => (k : Int) + d | none => -1) else -1
def endV (l : List Nd) (a : Int) : Int := if a < 0 then -1 else endN l a.toNat

theorem endV_nat (l : List Nd) (k : Nat) : endV l (k : Int) = endN l k := by unfold endV; rw [if_neg (by omega), Int.toNat_natCast]
theorem endV_out (l : List Nd) (a : Int) (h : a < 0 ∨ (l.length : Int) ≤ a) : endV l a = -1 := by
 unfold endV
 by_cases h0 : a < 0
 ·
  rw [if_pos h0]
 ·
  rw [if_neg h0]; unfold endN; rw [if_neg (by omega)]

def treeB (l : List Nd) : Bool := decide ((1 ≤ l.length ∧ l.length ≤ 60) ∧ endV l 0 = (l.length : Int))

/-- The loop: k nodes on, o still open. -/
theorem end_round {l : List Nd} {k o : Nat} (hk : k < l.length) (hn : nodeB l[k] = true) : endGo (l.drop k) (o + 1) = (endGo (l.drop (k + 1)) (o + kidsN l[k])).map (· + 1) := by
 rw [List.drop_eq_getElem_cons hk, endGo_cons, if_pos hn]
theorem end_bad {l : List Nd} {k o : Nat} (hk : k < l.length) (hn : nodeB l[k] = false) : endGo (l.drop k) (o + 1) = none := by
 rw [List.drop_eq_getElem_cons hk, endGo_cons, if_neg (by rw [hn]; simp)]
theorem end_over {l : List Nd} {k o : Nat} (hk : l.length ≤ k) : endGo (l.drop k) (o + 1) = none := by
 rw [List.drop_eq_nil_of_le hk, endGo_nil]

/-- A word for a node. -/
def showN (n : Nd) : List UInt8 :=
 if n.1 = 1 then intL n.2.1
 else if n.1 = 2 then 36 :: intL n.2.1
 else if n.1 = 3 then [43]
 else if n.1 = 4 then [45]
 else if n.1 = 5 then [42]
 else if n.1 = 6 then [47]
 else if n.1 = 7 then [63]
 else (64 :: n.2.2.1) ++ [46] ++ n.2.2.2 ++ [47] ++ intL n.2.1

def showL (l : List Nd) : List UInt8 := joinBy 32 (l.map showN)
def showT (l : List Nd) : List UInt8 := if treeB l = true then showL l else []

end Go.Proofs.YtdoghjpjepolbaaGreatDoor

/-! Plain facts for chapter 6: what is shown is read. -/
namespace Go.Proofs.YtdoghjpjepolbaaGreatDoor
open Go.RowKit

/-- The node of a word. -/
noncomputable def readN (s : List UInt8) : Nd :=
 if s = [] then (0, 0, [], [])
 else if s.head? = some 36 then (2, readV s.tail, [], [])
 else if s.head? = some 43 then (3, 0, [], [])
 else if s.head? = some 42 then (5, 0, [], [])
 else if s.head? = some 47 then (6, 0, [], [])
 else if s.head? = some 63 then (7, 0, [], [])
 else if s.head? = some 64 then
  (if (splitL 47 s.tail).length = 2 ∧ (splitL 46 ((splitL 47 s.tail).getD 0 [])).length = 2
   then (8, readV ((splitL 47 s.tail).getD 1 []), (splitL 46 ((splitL 47 s.tail).getD 0 [])).getD 0 [], (splitL 46 ((splitL 47 s.tail).getD 0 [])).getD 1 []) else (0, 0, [], []))
 else if s = [45] then (4, 0, [], [])
 else (1, readV s, [], [])

theorem name_letters {l : List UInt8} (h : nameB l = true) : (1 ≤ l.length ∧ l.length ≤ 8) ∧ ∀ c ∈ l, 97 ≤ c.toNat ∧ c.toNat ≤ 122 := by
 unfold nameB at h
 rw [Bool.and_eq_true, List.all_eq_true] at h
 exact ⟨of_decide_eq_true h.1, fun c hc => of_decide_eq_true (h.2 c hc)⟩

noncomputable def readT (s : List UInt8) : List Nd := (splitL 32 s).map readN
noncomputable def readOk (s : List UInt8) : Bool := decide (s.length ≤ 2000) && (treeB (readT s) && (showL (readT s) == s))
noncomputable def readTV (s : List UInt8) : List Nd := if readOk s = true then readT s else []

end Go.Proofs.YtdoghjpjepolbaaGreatDoor

/-! Plain facts for chapter 6: parts are one behind the other. -/
namespace Go.Proofs.YtdoghjpjepolbaaGreatDoor
open Go.RowKit

/-- Where the parts begin. -/
def partsGo (l : List Nd) : Nat → Int → List Int
 | 0, _ => []
 | k + 1, next => next :: partsGo l k (endV l next)
def partsV (l : List Nd) (a : Int) : List Int := if endV l a < 0 then [] else partsGo l (kidsN (l.getD a.toNat (0, 0, [], []))) (a + 1)

/-- k trees one behind the other, from a place on. -/
def chain (l : List Nd) : Nat → Int → Int
 | 0, next => next
 | k + 1, next => chain l k (endV l next)

end Go.Proofs.YtdoghjpjepolbaaGreatDoor

/-! Plain facts on lists of bytes for Turned. -/
namespace Go.Proofs.YtdoghjpjepolbaaGreatDoor

theorem ba_ext {a b : ByteArray} (h : a.data.toList = b.data.toList) : a = b := by
 cases a; cases b; simp_all

end Go.Proofs.YtdoghjpjepolbaaGreatDoor

/-! Facts that every chapter leans on: rows that a call owns, lists of texts, the walk's own spellings. -/
namespace Go.Proofs.YtdoghjpjepolbaaGreatDoor
open Go.RowKit

def strV (ls : List (List UInt8)) : List Value := ls.map (fun l => Value.string ⟨l.toArray⟩)

theorem strV_snoc (o : List (List UInt8)) (t : List UInt8) : strV o ++ [.string ⟨t.toArray⟩] = strV (o ++ [t]) := by simp [strV]

theorem strV_len (o : List (List UInt8)) : (strV o).length = o.length := by simp [strV]

theorem strV_at (ls : List (List UInt8)) (j : Nat) (h : j < ls.length) : (strV ls)[j]? = some (.string ⟨ls[j].toArray⟩) := by
 simp [strV, List.getElem?_eq_getElem h]

theorem strV_take (ls : List (List UInt8)) (m : Nat) : (strV ls).take m = strV (ls.take m) := by simp [strV, List.map_take]

theorem info9 : (Tryz.prog.info? 9).map (fun i => (i.zero, i.size, i.bytes)) = some (some (.string ⟨#[]⟩), 1, 16) := by kernel_rfl

theorem own_str {w1 : World} {B : Nat} {v' : Value} {o : List (List UInt8)} {t : List UInt8} (hown' : w1.ownsRow B 9 1 v' (o.length + 1) (strV o ++ [.string ⟨t.toArray⟩])) :
 w1.ownsRow B 9 1 v' (o ++ [t]).length (strV (o ++ [t])) := by
 rw [← strV_snoc, List.length_append, List.length_singleton]
 exact hown'

theorem own_shape {w : World} {base e size n : Nat} {v : Value} {xs : List Value} (h : w.ownsRow base e size v n xs) (hv : v ≠ .slice none 0 0) : ∃ g cp, v = .slice (some ⟨g, 0, none⟩) n cp := by
 obtain ⟨_, ⟨e, _⟩ | ⟨g, cap, cur, rfl, _⟩⟩ := h
 ·
  exact absurd e hv
 ·
  exact ⟨g, cap, rfl⟩

theorem own_none {w w' : World} {base e size n : Nat} {v : Value} {xs : List Value} (h : w.ownsRow base e size v n xs) (hg : w.grownBy w' none) : w'.ownsRow base e size v n xs := by
 refine h.kept hg ?_
 rcases hv : v.ownBlock with _ | g
 ·
  exact Or.inl rfl
 ·
  exact Or.inr (by simp)

theorem own_below {w w' : World} {base e size n : Nat} {v : Value} {xs : List Value} (h : w.ownsRow base e size v n xs) (hb : Below w.heap.size w w') : w'.ownsRow base e size v n xs :=
 own_none h ⟨hb.os, hb.tape, hb.output, hb.size, fun k hk _ => hb.block k hk⟩

theorem own_forms {w : World} {base e size n : Nat} {v : Value} {xs : List Value} (h : w.ownsRow base e size v n xs) : (v = .slice none 0 0 ∧ n = 0 ∧ xs = []) ∨ ∃ g cp, v = .slice (some ⟨g, 0, none⟩) n cp := by
 have h0 := h.1
 obtain ⟨_, ⟨e, hn⟩ | ⟨g, cap, cur, rfl, _⟩⟩ := h
 ·
  refine Or.inl ⟨e, hn, List.eq_nil_of_length_eq_zero ?_⟩
  rw [h0, hn, Nat.zero_mul]
 ·
  exact Or.inr ⟨g, cap, rfl⟩

theorem own_cap {w : World} {base e g n cp : Nat} {xs : List Value} (h : w.ownsRow base e 1 (.slice (some ⟨g, 0, none⟩) n cp) n xs) : n ≤ cp ∧ cp ≤ maxLen := by
 rcases h.2 with ⟨h', _⟩ | ⟨g', cap', cur, h', hb, hg, hnc, hcm, hcs, htake⟩
 ·
  simp at h'
 ·
  simp only [Value.slice.injEq, Option.some.injEq, Addr.mk.injEq, and_true, true_and] at h'
  obtain ⟨rfl, rfl⟩ := h'
  exact ⟨hnc, hcm⟩

theorem own_some {w : World} {base e size n : Nat} {v : Value} {xs : List Value} (h : w.ownsRow base e size v n xs) (hn : n ≠ 0) : ∃ g cp, v = .slice (some ⟨g, 0, none⟩) n cp := by
 rcases own_forms h with ⟨_, h0, _⟩ | h1
 ·
  exact absurd h0 hn
 ·
  exact h1

/-- A row cut at its end. -/
theorem own_take {w : World} {base e g n cp : Nat} {xs : List Value} (h : w.ownsRow base e 1 (.slice (some ⟨g, 0, none⟩) n cp) n xs) (m : Nat) (hm : m ≤ n) : w.ownsRow base e 1 (.slice (some ⟨g, 0, none⟩) m cp) m (xs.take m) := by
 have h0 := h.1
 rcases h.2 with ⟨h', _⟩ | ⟨g', cap', cur, h', hb, hg, hnc, hcm, hcs, htake⟩
 ·
  simp at h'
 ·
  simp only [Value.slice.injEq, Option.some.injEq, Addr.mk.injEq, and_true, true_and] at h'
  obtain ⟨rfl, rfl⟩ := h'
  refine ⟨by rw [List.length_take]; omega, .inr ⟨g, cp, cur, rfl, hb, hg, by omega, hcm, hcs, ?_⟩⟩
  rw [← htake, List.take_take]
  congr 1
  omega

theorem str_cellsD {w : World} {base g cp n : Nat} {ls : List (List UInt8)} (h : w.ownsRow base 9 1 (.slice (some ⟨g, 0, none⟩) n cp) n (strV ls)) (hn : ls.length = n) (j : Nat) (hj : j < n) :
 w.cell? ⟨g, j, none⟩ = some (.string ⟨(ls.getD j []).toArray⟩) := by
 rw [h.cellAt j (by omega), strV_at ls j (by omega), List.getD_eq_getElem?_getD, List.getElem?_eq_getElem (by omega)]; rfl

theorem cat_list (a b : List UInt8) : (⟨a.toArray⟩ ++ ⟨b.toArray⟩ : ByteArray) = ⟨(a ++ b).toArray⟩ := ba_ext (by simp)

theorem ext_list (l : List UInt8) (i j : Nat) : (⟨l.toArray⟩ : ByteArray).extract i j = ⟨((l.drop i).take (j - i)).toArray⟩ := by
 apply ba_ext
 rw [ByteArray.data_extract, Array.toList_extract, List.extract_eq_take_drop]

theorem ret_sb {a b : List UInt8} {c d : Bool} (h : a = b) (j : c = d) : Ending.returned (.tuple #[.string ⟨a.toArray⟩, .bool c]) = .returned (.tuple #[.string ⟨b.toArray⟩, .bool d]) := by rw [h, j]

theorem ret_strl {a b : List UInt8} (h : a = b) : Ending.returned (.string ⟨a.toArray⟩) = .returned (.string ⟨b.toArray⟩) := by rw [h]

theorem Below.by {w w' : World} (h : Below w.heap.size w w') : w.grownBy w' none := ⟨h.os, h.tape, h.output, h.size, fun k hk _ => h.block k hk⟩

theorem own_base {w : World} {base b2 e size n : Nat} {v : Value} {xs : List Value} (h : w.ownsRow base e size v n xs) (hb : b2 ≤ base) : w.ownsRow b2 e size v n xs := by
 refine ⟨h.1, ?_⟩
 rcases h.2 with h' | ⟨g, cap, cur, hv, hg, r⟩
 ·
  exact Or.inl h'
 ·
  exact Or.inr ⟨g, cap, cur, hv, Nat.le_trans hb hg, r⟩

theorem grown_set (w : World) (B o : Nat) (v : Value) : w.grownBy (w.setCell ⟨B, o, none⟩ v) (some B) :=
 ⟨rfl, rfl, rfl, by simp, fun k _ hne => Below.heap_setCell w _ v k (fun e => hne (by rw [e]))⟩

/-- The values news lie at x, in m elements: what 'append' reads, whosever it is. -/
def Src (w : World) (x : Value) (m size : Nat) (news : List Value) : Prop :=
 news.length = m * size ∧ (∀ u ∈ news, u.oneCell' = true) ∧ ((x = .slice none 0 0 ∧ m = 0) ∨ ∃ ad c, x = .slice (some ad) m c ∧ ∀ j u, news[j]? = some u → w.cell? (ad.add j) = some u)

theorem run_append_src {P : Program} (w : World) (base : Nat) (t ty e : TypeId) (i : TypeInfo) (z : Value) (size bytes : Nat) (ht : P.underlying t = some (.slice e)) (hi : P.info? e = some i) (hz : i.zero = some z)
 (hsize : i.size = size) (hby : i.bytes = bytes) (hzs : z.cells.size = size) (hsz : 0 < size)
 (v : Value) (n : Nat) (xs : List Value) (hown : w.ownsRow base e size v n xs) (x : Value) (m : Nat) (news : List Value) (hsrc : Src w x m size news)
 (h63 : n + m ≤ maxLen) (hbytes : (n + m) * bytes ≤ 140737488355328) (hbase : base ≤ w.heap.size) :
 ∃ v' w', (Builtin.append_ #[t, t] ty #[v, x]).run P w = .ok v' w' ∧ w'.ownsRow base e size v' (n + m) (xs ++ news) ∧ w.grownBy w' v.ownBlock ∧ (v' = .slice none 0 0 → v = .slice none 0 0) := by
 obtain ⟨hl, h1, ⟨rfl, rfl⟩ | ⟨ad, c, rfl, hc⟩⟩ := hsrc
 ·
  have hn : news = [] := List.eq_nil_of_length_eq_zero (by omega)
  subst hn
  exact ⟨v, w, run_append_owned_none (P := P) (w := w) base t ty e i size ht hi v n xs hown, by simpa using hown, World.grownBy.refl w _, fun h => h⟩
 ·
  obtain ⟨v', w', hr, h2, h3, h4⟩ := run_append_own (P := P) w base t ty e i z size bytes ht hi hz hsize hby hzs hsz v n xs hown ad m c news hl hc h1 h63 hbytes hbase
  exact ⟨v', w', hr, h2, h3, fun h => (h4.1 h).1⟩

/-- 'append' at a step of a region that draws. -/
theorem step_append_run {P : Program} {w w' : World} {ops : Array Oper} {o : Oper} {a : Act} {K : Act → World → Prop} {Q : Exit → Act → World → Prop} {E : Prop} (hgd : o.guard = none) (s x : Operand) (t : TypeId)
 (ho : o.op = .call { callee := .builtin .append, args := #[s, x], argTypes := #[t, t] }) (v u v' : Value) (hs : a.eval s = v) (hx : a.eval x = u)
 (hrun : (Builtin.append_ #[t, t] o.type #[v, u]).run P w = .ok v' w') (h : K (a.put o.dst v') w') :
 if Region.wanted o (yielded ops a.tmps) = true then Oper.wp P o a w K Q else E := by
 have hw : Region.wanted o (yielded ops a.tmps) = true := by simp [Region.wanted, hgd]
 rw [if_pos hw]
 unfold Oper.wp
 simp [execOp, ho, resolve, invoke, builtin, hs, hx, hrun, Result.andThen]
 exact h

/-- 'append' in a plain region. -/
theorem wpList_append_run {P : Program} {w w' : World} {ops : Array Oper} {rest : List Oper} {o : Oper} {a : Act} {Q : Exit → Act → World → Prop} (hgd : o.guard = none) (s x : Operand) (t : TypeId)
 (ho : o.op = .call { callee := .builtin .append, args := #[s, x], argTypes := #[t, t] }) (v u v' : Value) (hs : a.eval s = v) (hx : a.eval x = u)
 (hrun : (Builtin.append_ #[t, t] o.type #[v, u]).run P w = .ok v' w') (h : wpList P ops Q rest (a.put o.dst v') w') : wpList P ops Q (o :: rest) a w := by
 refine wpList_plain hgd fun K hK => ?_
 unfold Oper.wp
 simp [execOp, ho, resolve, invoke, builtin, hs, hx, hrun, Result.andThen]
 exact hK _ _ h

end Go.Proofs.YtdoghjpjepolbaaGreatDoor

/-! The contracts of spec.HexOf and impl.HexOf. -/
namespace Go.Proofs.YtdoghjpjepolbaaGreatDoor
open Go.RowKit

theorem back8 (b0 b1 b2 b3 b4 b5 b6 b7 : UInt8) (w : World) :
 (convert 79 9 (.slice (some ⟨w.heap.size, 0, none⟩) 8 8)).run Tryz.prog (w.alloc (.cells #[.int .u8 b0.toNat, .int .u8 b1.toNat, .int .u8 b2.toNat, .int .u8 b3.toNat, .int .u8 b4.toNat, .int .u8 b5.toNat, .int .u8 b6.toNat, .int .u8 b7.toNat] 5)) =
  .ok (.string ⟨#[b0, b1, b2, b3, b4, b5, b6, b7]⟩) (w.alloc (.cells #[.int .u8 b0.toNat, .int .u8 b1.toNat, .int .u8 b2.toNat, .int .u8 b3.toNat, .int .u8 b4.toNat, .int .u8 b5.toNat, .int .u8 b6.toNat, .int .u8 b7.toNat] 5)) := by
 have h := run_convert_bytes_back (P := Tryz.prog) (w.alloc (.cells #[.int .u8 b0.toNat, .int .u8 b1.toNat, .int .u8 b2.toNat, .int .u8 b3.toNat, .int .u8 b4.toNat, .int .u8 b5.toNat, .int .u8 b6.toNat, .int .u8 b7.toNat] 5)) 79 9 5 ⟨w.heap.size, 0, none⟩ 8 [b0, b1, b2, b3, b4, b5, b6, b7] Tryz.underlying79 Tryz.underlying5 Tryz.underlying9 (by
  intro j hj
  have hj' : j < 8 := by simpa using hj
  match j, hj' with
  | 0, _ => simp [Addr.add, go_sem]
  | 1, _ => simp [Addr.add, go_sem]
  | 2, _ => simp [Addr.add, go_sem]
  | 3, _ => simp [Addr.add, go_sem]
  | 4, _ => simp [Addr.add, go_sem]
  | 5, _ => simp [Addr.add, go_sem]
  | 6, _ => simp [Addr.add, go_sem]
  | 7, _ => simp [Addr.add, go_sem])
 exact h

set_option maxHeartbeats 400000 in
set_option maxRecDepth 100000 in
theorem specL1Hex (n : Int) (w : World) (h0 : 0 ≤ n) (h1 : n ≤ 4294967295) :
 Calls Tryz.prog 81 #[.int .i64 n] w fun e w' => e = .returned (.string ⟨(hexL n.toNat).toArray⟩) ∧ Below w.heap.size w w' := by
 have hmk : ∀ w, (Instr.makeSlice 79 (.int .i64 8) (.int .i64 8)).run Tryz.prog w = .ok (.slice (some ⟨w.heap.size, 0, none⟩) 8 8) (w.alloc (.cells #[.int .u8 0, .int .u8 0, .int .u8 0, .int .u8 0, .int .u8 0, .int .u8 0, .int .u8 0, .int .u8 0] 5)) := fun _ => by kernel_rfl
 have hD : ∀ (m : Int) (h : m.toNat < (ByteArray.mk #[48, 49, 50, 51, 52, 53, 54, 55, 56, 57, 97, 98, 99, 100, 101, 102]).size), (ByteArray.mk #[48, 49, 50, 51, 52, 53, 54, 55, 56, 57, 97, 98, 99, 100, 101, 102])[m.toNat] = hexD m.toNat := hexD_at
 have hback := back8
 go_enter Tryz.func81, Tryz.ntmps81
 go_wp2
 go_rounds 9
 go_ret
 exact ⟨ret_str (hexW n h0), (Below.refl _ _).alloc (Nat.le_refl _) _⟩

set_option maxHeartbeats 400000 in
set_option maxRecDepth 100000 in
theorem implHexSign (n : Int) (p : Nat) (w : World) (h0 : 0 ≤ n) (h1 : n ≤ 4294967295) (hp : p < 8) :
 Calls Tryz.prog 127 #[.int .i64 n, .int .i64 p] w fun e w' => e = .returned (.int .u8 (hexD (n.toNat / 16 ^ p % 16)).toNat) ∧ w' = w := by
 have hD : ∀ (m : Int) (h : m.toNat < (ByteArray.mk #[48, 49, 50, 51, 52, 53, 54, 55, 56, 57, 97, 98, 99, 100, 101, 102]).size), (ByteArray.mk #[48, 49, 50, 51, 52, 53, 54, 55, 56, 57, 97, 98, 99, 100, 101, 102])[m.toNat] = hexD m.toNat := hexD_at
 have hA := and15
 match p, hp with
 | 0, _ | 1, _ | 2, _ | 3, _ | 4, _ | 5, _ | 6, _ | 7, _ =>
  go_enter Tryz.func127, Tryz.ntmps127
  go_wp2
  go_ret
  refine ⟨ret_int (congrArg (fun k : Nat => (((hexD k).toNat : Nat) : Int)) ?_), rfl⟩
  omega

theorem implHexSignI (n p : Int) (w : World) (h0 : 0 ≤ n) (h1 : n ≤ 4294967295) (hp0 : 0 ≤ p) (hp : p < 8) :
 Calls Tryz.prog 127 #[.int .i64 n, .int .i64 p] w fun e w' => e = .returned (.int .u8 (hexD (n.toNat / 16 ^ p.toNat % 16)).toNat) ∧ w' = w := by
 obtain ⟨k, rfl⟩ := Int.eq_ofNat_of_zero_le hp0
 exact implHexSign n k w h0 h1 (by omega)

set_option maxHeartbeats 1000000 in
set_option maxRecDepth 100000 in
theorem implHighest (n : Int) (w : World) (h0 : 0 ≤ n) (h1 : n ≤ 4294967295) :
 Calls Tryz.prog 126 #[.int .i64 8, .func (.func 127) #[.int .i64 n] #[]] w fun e w' => e = .returned (.string ⟨(hexL n.toNat).toArray⟩) ∧ Below w.heap.size w w' := by
 have hmk : ∀ w, (Instr.makeSlice 79 (.int .i64 8) (.int .i64 8)).run Tryz.prog w = .ok (.slice (some ⟨w.heap.size, 0, none⟩) 8 8) (w.alloc (.cells #[.int .u8 0, .int .u8 0, .int .u8 0, .int .u8 0, .int .u8 0, .int .u8 0, .int .u8 0, .int .u8 0] 5)) := fun _ => by kernel_rfl
 have hback := back8
 go_enter Tryz.func126, Tryz.ntmps126
 go_wp2
 refine wp_loop_rounds 9 ?_
 repeat (rw [rounds_succ]; go_wp2_with (go_at_call 127; refine (implHexSignI _ _ _ h0 h1 (by omega) (by omega)).mono ?_; rintro e w' ⟨rfl, rfl⟩))
 go_ret
 refine ⟨ret_str ?_, (Below.refl _ _).alloc (Nat.le_refl _) _⟩
 rfl

set_option maxHeartbeats 400000 in
set_option maxRecDepth 100000 in
theorem specIn (x lo hi : Int) (w : World) :
 Calls Tryz.prog 57 #[.int .i64 x, .int .i64 lo, .int .i64 hi] w fun e w' => e = .returned (.bool (inB x lo hi)) ∧ w' = w := by
 by_cases h1 : lo ≤ x
 ·
  by_cases h2 : x ≤ hi
  ·
   have hB : Hid (inB x lo hi = true) := inB_yes x lo hi h1 h2
   go_enter Tryz.func57, Tryz.ntmps57
   go_wp2
   go_ret
   exact ⟨by rw [hB.out]; rfl, rfl⟩
  ·
   have hB : Hid (inB x lo hi = false) := inB_no x lo hi (Or.inr (by omega))
   go_enter Tryz.func57, Tryz.ntmps57
   go_wp2
   go_ret
   exact ⟨by rw [hB.out]; rfl, rfl⟩
 ·
  have hB : Hid (inB x lo hi = false) := inB_no x lo hi (Or.inl (by omega))
  go_enter Tryz.func57, Tryz.ntmps57
  go_wp2
  go_ret
  exact ⟨by rw [hB.out]; rfl, rfl⟩


set_option maxHeartbeats 400000 in
set_option maxRecDepth 100000 in
theorem implHexOf (n : Int) (w : World) :
 Calls Tryz.prog 99 #[.int .i64 n] w fun e w' => e = .returned (.string ⟨(hexS n).toArray⟩) ∧ Below w.heap.size w w' := by
 have hmf : ∀ (fn : Fn) (first cap : Array Value) (w : World), (Instr.makeFunc fn first cap).run Tryz.prog w = .ok (.func fn first cap) w := fun _ _ _ _ => rfl
 rcases (show n < 0 ∨ 4294967295 < n ∨ (0 ≤ n ∧ n ≤ 4294967295) by omega) with h | h | ⟨h0, h1⟩
 ·
  have hS : Hid (hexS n = []) := hexS_no n (Or.inl h)
  go_enter Tryz.func99, Tryz.ntmps99
  go_wp2
  go_ret
  exact ⟨ret_str (by rw [hS.out]), Below.refl _ _⟩
 ·
  have hS : Hid (hexS n = []) := hexS_no n (Or.inr h)
  go_enter Tryz.func99, Tryz.ntmps99
  go_wp2
  go_ret
  exact ⟨ret_str (by rw [hS.out]), Below.refl _ _⟩
 ·
  have hS : Hid (hexS n = hexL n.toNat) := hexS_yes n h0 h1
  go_enter Tryz.func99, Tryz.ntmps99
  go_wp2_with (go_at_call 126; refine (implHighest _ _ h0 h1).mono ?_; rintro e w' ⟨rfl, hb⟩)
  go_ret
  exact ⟨ret_str (by rw [hS.out]), by assumption⟩

end Go.Proofs.YtdoghjpjepolbaaGreatDoor

/-! The contracts of chapter 4's specification: WordOk, Wrap, Done. -/
namespace Go.Proofs.YtdoghjpjepolbaaGreatDoor
open Go.RowKit

set_option maxHeartbeats 400000 in
set_option maxRecDepth 100000 in
theorem specWordOk (n : Int) (w : World) : Calls Tryz.prog 195 #[.int .i64 n] w fun e w' => e = .returned (.bool (inB n (-2147483648) 2147483647)) ∧ w' = w := by
 go_enter Tryz.func195, Tryz.ntmps195
 go_wp2_with (go_at_call 57; refine (specIn _ _ _ _).mono ?_; rintro e w' ⟨rfl, rfl⟩)
 go_ret
 exact ⟨rfl, rfl⟩


theorem ret_ib {m n : Int} {c d : Bool} (h : m = n) (j : c = d) : Ending.returned (.tuple #[.int .i64 m, .bool c]) = .returned (.tuple #[.int .i64 n, .bool d]) := by rw [h, j]



end Go.Proofs.YtdoghjpjepolbaaGreatDoor

/-! The contracts of chapter 5's specification: pieces, Lines, Words, NameOk. -/
namespace Go.Proofs.YtdoghjpjepolbaaGreatDoor
open Go.RowKit

end Go.Proofs.YtdoghjpjepolbaaGreatDoor

/-! The contracts of chapter 5's specification: Lines, Words, NameOk. -/
namespace Go.Proofs.YtdoghjpjepolbaaGreatDoor
open Go.RowKit

set_option maxHeartbeats 1000000 in
set_option maxRecDepth 100000 in
theorem specNameOk (l : List UInt8) (w : World) (hl : l.length ≤ 1048576) :
 Calls Tryz.prog 59 #[.string ⟨l.toArray⟩] w fun e w' => e = .returned (.bool (nameB l)) ∧ w' = w := by
 go_enter Tryz.func59, Tryz.ntmps59
 go_wp2
 go_loop [3] (fun ix => ∃ k : Nat, k ≤ l.length ∧ ix = .int .i64 k ∧ Hid (∀ j (hj : j < l.length), j < k → 97 ≤ l[j].toNat ∧ l[j].toNat ≤ 122)) (fun ix => l.length - (intOf ix).toNat)
 case atStart => exact ⟨0, Nat.zero_le _, rfl, (fun j _ h => by omega : ∀ j (hj : j < l.length), j < 0 → _)⟩
 case round =>
  obtain ⟨k, hk, rfl, HK⟩ := hrel
  by_cases hkl : (k : Int) < (l.length : Int)
  ·
   have hk2 : k < l.length := by omega
   obtain ⟨x, hx⟩ : ∃ x : UInt8, l[k] = x := ⟨_, rfl⟩
   have hxb : (⟨l.toArray⟩ : ByteArray)[k]'(by show k < l.toArray.size; simpa using hk2) = x := hx
   by_cases h1 : (x.toNat : Int) < 97
   ·
    have HF : Hid (nameB l = false) := name_bad l k hk2 (by rw [hx]; omega)
    clear hx
    go_wp2
    go_ret
    exact ⟨by rw [HF.out]; rfl, rfl⟩
   ·
    by_cases h2 : 122 < (x.toNat : Int)
    ·
     have HF : Hid (nameB l = false) := name_bad l k hk2 (by rw [hx]; omega)
     clear hx
     go_wp2
     go_ret
     exact ⟨by rw [HF.out]; rfl, rfl⟩
    ·
     have HS : Hid (∀ j (hj : j < l.length), j < k + 1 → 97 ≤ l[j].toNat ∧ l[j].toNat ≤ 122) := fun j hj hjk => by
      by_cases e : j = k
      ·
       subst e; rw [hx]; omega
      ·
       exact HK.out j hj (by omega)
     clear hx
     go_wp2
     go_round
     case rel => exact ⟨k + 1, by omega, by go_num, HS⟩
     case measure => simp [intOf]; omega
  ·
   have HF : Hid (nameB l = inB (l.length : Int) 1 8) := name_good l (fun j hj => HK.out j hj (by omega))
   go_wp2_with (go_at_call 57; refine (specIn _ _ _ _).mono ?_; rintro e w' ⟨rfl, rfl⟩)
   go_ret
   exact ⟨by rw [HF.out]; rfl, rfl⟩

end Go.Proofs.YtdoghjpjepolbaaGreatDoor

/-! The contracts of chapter 5's specification: a number is read; NumberOf. -/
namespace Go.Proofs.YtdoghjpjepolbaaGreatDoor
open Go.RowKit

/-- What is read of the digits from place i on, up to place k. -/
def valTo (t : List UInt8) (i k : Nat) : Nat := valL ((t.drop i).take (k - i))

end Go.Proofs.YtdoghjpjepolbaaGreatDoor

/-! The contracts of spec.Turned and impl.Turned. -/
namespace Go.Proofs.YtdoghjpjepolbaaGreatDoor
open Go.RowKit

end Go.Proofs.YtdoghjpjepolbaaGreatDoor

/-! The contracts of chapter 5's specification: NumberOf; a number is written (l1Int, digits). -/
namespace Go.Proofs.YtdoghjpjepolbaaGreatDoor
open Go.RowKit


theorem back1p (t : Int) (h2 : 0 ≤ t) (h3 : t ≤ 255) (W : World) :
 (convert 79 9 (.slice (some ⟨W.heap.size, 0, none⟩) 1 1)).run Tryz.prog (W.alloc (.cells #[.int .u8 t] 5)) = .ok (.string ⟨#[UInt8.ofNat t.toNat]⟩) (W.alloc (.cells #[.int .u8 t] 5)) := by
 have ht : ((UInt8.ofNat t.toNat).toNat : Int) = t := by
  rw [UInt8.toNat_ofNat']; omega
 have h := run_convert_bytes_back (P := Tryz.prog) (W.alloc (.cells #[.int .u8 t] 5)) 79 9 5 ⟨W.heap.size, 0, none⟩ 1 [UInt8.ofNat t.toNat] Tryz.underlying79 Tryz.underlying5 Tryz.underlying9 (by
  intro j hj
  have hj' : j < 1 := by simpa using hj
  match j, hj' with
  | 0, _ => simp only [List.getElem_cons_zero, ht]; simp [Addr.add, go_sem])
 exact h

theorem back_dig (k : Nat) (W : World) :
 (convert 79 9 (.slice (some ⟨W.heap.size, 0, none⟩) 1 1)).run Tryz.prog (W.alloc (.cells #[.int .u8 (48 + (k : Int) % 10)] 5)) = .ok (.string ⟨[digit k].toArray⟩) (W.alloc (.cells #[.int .u8 (48 + (k : Int) % 10)] 5)) := by
 have h := back1p (48 + (k : Int) % 10) (by omega) (by omega) W
 have e : UInt8.ofNat (48 + (k : Int) % 10).toNat = digit k := by unfold digit; congr 1
 rw [e] at h
 exact h


end Go.Proofs.YtdoghjpjepolbaaGreatDoor
