/-
  Parts of one proof, one behind the other: Math1, Math4, Math5, Math5N, Math5J, Math6, Math6R, Math6P, MathT, Own, HexOf, WordS.
-/
import Derived.WalkKit
import Derived.IntWalk
import Derived.Laws.Bits128
import Derived.Test.YtnflkecnddbhoaaRows
import Derived.WalkLawsBesides
import Derived.Laws.OwnMore
import Derived.Laws.IdiomStrings
import Derived.Maps.AppendAt
import Derived.OpenShut
import Derived.Handy

/-! Plain facts on lists and numbers for chapter 1 (hashes): what Hash computes, and that it stays in its range. -/
namespace Go.Proofs.Ytnflkecnddbhoaa
open Go.RowKit

def hashStep (h : Int) (b : UInt8) : Int := (1000003 * h + (b.toNat : Int) + 1) % 2147483647

def hashL (l : List UInt8) : Int := l.foldl hashStep 17

theorem ret_int {k : IntKind} {a b : Int} (h : a = b) : Ending.returned (.int k a) = .returned (.int k b) := by rw [h]

def hexDs : List UInt8 := [48, 49, 50, 51, 52, 53, 54, 55, 56, 57, 97, 98, 99, 100, 101, 102]
def hexD (n : Nat) : UInt8 := hexDs.getD n 0
def hexL (n : Nat) : List UInt8 := [hexD (n / 268435456 % 16), hexD (n / 16777216 % 16), hexD (n / 1048576 % 16), hexD (n / 65536 % 16), hexD (n / 4096 % 16), hexD (n / 256 % 16), hexD (n / 16 % 16), hexD (n % 16)]

theorem and255 (n : Int) : bits .and .i64 n 255 = n % 256 := by
  have h15 : (BitVec.ofInt 64 255).toNat = 2 ^ 8 - 1 := by decide
  have key : (BitVec.ofInt 64 n &&& BitVec.ofInt 64 255).toNat = (n % ((2 ^ 64 : Nat) : Int)).toNat % 2 ^ 8 := by
    rw [BitVec.toNat_and, BitVec.toNat_ofInt, h15, Nat.and_two_pow_sub_one_eq_mod]
  show IntKind.i64.wrap ((BitVec.ofInt 64 n &&& BitVec.ofInt 64 255).toNat : Nat) = n % 256
  rw [key, IntKind.wrap_i64]
  omega

def hexS (n : Int) : List UInt8 := if 0 ≤ n ∧ n ≤ 4294967295 then hexL n.toNat else []
def inB (x lo hi : Int) : Bool := decide (lo ≤ x ∧ x ≤ hi)
theorem inB_yes (x lo hi : Int) (h1 : lo ≤ x) (h2 : x ≤ hi) : inB x lo hi = true := decide_eq_true ⟨h1, h2⟩
theorem inB_no (x lo hi : Int) (h : x < lo ∨ hi < x) : inB x lo hi = false := decide_eq_false (by omega)

def turnedL (l : List UInt8) (at_ to : Int) : List UInt8 := if (0 ≤ at_ ∧ at_ < l.length) ∧ (0 ≤ to ∧ to ≤ 255) then l.set at_.toNat (UInt8.ofNat to.toNat) else l
end Go.Proofs.Ytnflkecnddbhoaa

/-! Plain facts for chapter 4 (words): numbers that go round. -/
namespace Go.Proofs.Ytnflkecnddbhoaa
open Go.RowKit

def wrapW (n : Int) : Int := (n + 2147483648) % 4294967296 - 2147483648

theorem wrapWW (n : Int) : wrap64 (wrap32 n) = wrapW n := by unfold wrap64 wrap32 wrapW; omega

theorem mul_bd (a b : Int) (ha : -2147483648 ≤ a ∧ a ≤ 2147483647) (hb : -2147483648 ≤ b ∧ b ≤ 2147483647) : -4611686018427387904 ≤ a * b ∧ a * b ≤ 4611686018427387904 := by
  have h : (a * b).natAbs ≤ 2147483648 * 2147483648 := by
    rw [Int.natAbs_mul]
    exact Nat.mul_le_mul (by omega) (by omega)
  omega

theorem tdiv_bd (a b : Int) (ha : -2147483648 ≤ a ∧ a ≤ 2147483647) : -2147483648 ≤ a.tdiv b ∧ a.tdiv b ≤ 2147483648 := by
  have h : (a.tdiv b).natAbs ≤ a.natAbs := by
    rw [Int.natAbs_tdiv]
    exact Nat.div_le_self _ _
  omega

theorem wrapW_bd (n : Int) : -2147483648 ≤ wrapW n ∧ wrapW n ≤ 2147483647 := by unfold wrapW; omega

/-- What is done of two words. -/
def doneV (kind a b : Int) : Int :=
  if (-2147483648 ≤ a ∧ a ≤ 2147483647) ∧ (-2147483648 ≤ b ∧ b ≤ 2147483647) then
    (if kind = 3 then wrapW (a + b) else if kind = 4 then wrapW (a - b) else if kind = 5 then wrapW (a * b) else if kind = 6 ∧ b ≠ 0 then wrapW (a.tdiv b) else 0)
  else 0

def doneB (kind a b : Int) : Bool :=
  decide (((-2147483648 ≤ a ∧ a ≤ 2147483647) ∧ (-2147483648 ≤ b ∧ b ≤ 2147483647)) ∧ (kind = 3 ∨ kind = 4 ∨ kind = 5 ∨ kind = 6 ∧ b ≠ 0))

theorem done_no (kind a b : Int) (h : ¬ ((-2147483648 ≤ a ∧ a ≤ 2147483647) ∧ (-2147483648 ≤ b ∧ b ≤ 2147483647))) : doneV kind a b = 0 ∧ doneB kind a b = false := by
  unfold doneV doneB
  exact ⟨if_neg h, decide_eq_false (fun e => h e.1)⟩

theorem done_in (kind a b : Int) (h : (-2147483648 ≤ a ∧ a ≤ 2147483647) ∧ (-2147483648 ≤ b ∧ b ≤ 2147483647)) :
    (kind = 3 → doneV kind a b = wrapW (a + b) ∧ doneB kind a b = true) ∧ (kind = 4 → doneV kind a b = wrapW (a - b) ∧ doneB kind a b = true) ∧ (kind = 5 → doneV kind a b = wrapW (a * b) ∧ doneB kind a b = true) ∧
    (kind = 6 → b ≠ 0 → doneV kind a b = wrapW (a.tdiv b) ∧ doneB kind a b = true) ∧ (kind ≠ 3 → kind ≠ 4 → kind ≠ 5 → ¬ (kind = 6 ∧ b ≠ 0) → doneV kind a b = 0 ∧ doneB kind a b = false) := by
  unfold doneV doneB
  rw [if_pos h]
  refine ⟨fun e => ?_, fun e => ?_, fun e => ?_, fun e hb => ?_, fun e3 e4 e5 e6 => ?_⟩
  · subst e; exact ⟨if_pos rfl, decide_eq_true ⟨h, Or.inl rfl⟩⟩
  · subst e; exact ⟨by simp, decide_eq_true ⟨h, Or.inr (Or.inl rfl)⟩⟩
  · subst e; exact ⟨by simp, decide_eq_true ⟨h, Or.inr (Or.inr (Or.inl rfl))⟩⟩
  · subst e; exact ⟨by simp [hb], decide_eq_true ⟨h, Or.inr (Or.inr (Or.inr ⟨rfl, hb⟩))⟩⟩
  · exact ⟨by rw [if_neg e3, if_neg e4, if_neg e5, if_neg e6], decide_eq_false (fun e => by rcases e.2 with h | h | h | h <;> first | exact e3 h | exact e4 h | exact e5 h | exact e6 h)⟩

theorem doneV_bd (kind a b : Int) : -2147483648 ≤ doneV kind a b ∧ doneV kind a b ≤ 2147483647 := by
  unfold doneV
  split
  · repeat' split
    all_goals first | exact wrapW_bd _ | omega
  · omega

end Go.Proofs.Ytnflkecnddbhoaa

/-! Plain facts for chapter 5 (texts): pieces between bytes, names, numbers. -/
namespace Go.Proofs.Ytnflkecnddbhoaa
open Go.RowKit

/-- The pieces between bytes b, where cur was read already. -/
def splitGo (b : UInt8) : List UInt8 → List UInt8 → List (List UInt8)
  | cur, [] => [cur]
  | cur, c :: r => if c = b then cur :: splitGo b [] r else splitGo b (cur ++ [c]) r

def splitL (b : UInt8) (l : List UInt8) : List (List UInt8) := splitGo b [] l

theorem splitGo_ne (b : UInt8) (l : List UInt8) : ∀ cur, splitGo b cur l ≠ [] := by
  induction l with
  | nil => intro cur; simp [splitGo]
  | cons c r ih => intro cur; rw [splitGo]; split <;> simp [ih]

theorem splitGo_flat (b : UInt8) (l : List UInt8) : ∀ cur, (splitGo b cur l).flatten.length ≤ cur.length + l.length := by
  induction l with
  | nil => intro cur; simp [splitGo]
  | cons c r ih =>
    intro cur
    rw [splitGo]
    split
    · have := ih []; rw [List.flatten_cons, List.length_append]; simp at this ⊢; omega
    · have := ih (cur ++ [c]); rw [List.length_append] at this; simp at this ⊢; omega

/-- Joined by that byte they are the text. -/
def joinBy (b : UInt8) : List (List UInt8) → List UInt8
  | [] => []
  | [x] => x
  | x :: y :: r => x ++ [b] ++ joinBy b (y :: r)

theorem joinBy_cons (b : UInt8) (x : List UInt8) (r : List (List UInt8)) (h : r ≠ []) : joinBy b (x :: r) = x ++ [b] ++ joinBy b r := by
  cases r with
  | nil => exact absurd rfl h
  | cons y q => rfl

theorem joinBy_split (b : UInt8) (l : List UInt8) : ∀ cur, joinBy b (splitGo b cur l) = cur ++ l := by
  induction l with
  | nil => intro cur; simp [splitGo, joinBy]
  | cons c r ih =>
    intro cur
    rw [splitGo]
    split
    · rename_i h
      rw [joinBy_cons b cur _ (splitGo_ne b r []), ih, h]
      simp
    · rw [ih]; simp

/-- Each with a byte 10 behind it. -/
def termJ (ls : List (List UInt8)) : List UInt8 := (ls.map (· ++ [10])).flatten

def linesL (l : List UInt8) : List (List UInt8) := if (splitL 10 l).getLastD [] = [] then (splitL 10 l).dropLast else splitL 10 l

def wordsL (l : List UInt8) : List (List UInt8) := if l = [] then [] else splitL 32 l

/-- One step over a text, from its left. -/
theorem split_hit (b : UInt8) (l : List UInt8) (out : List (List UInt8)) (cur : List UInt8) (i : Nat) (hi : i < l.length) (he : l[i] = b) (h : out ++ splitGo b cur (l.drop i) = splitL b l) : (out ++ [cur]) ++ splitGo b [] (l.drop (i + 1)) = splitL b l := by
  rw [List.drop_eq_getElem_cons hi, splitGo, if_pos he] at h
  rw [← h]; simp

theorem split_miss (b : UInt8) (l : List UInt8) (out : List (List UInt8)) (cur : List UInt8) (i : Nat) (hi : i < l.length) (he : ¬ l[i] = b) (h : out ++ splitGo b cur (l.drop i) = splitL b l) : out ++ splitGo b (cur ++ [l[i]]) (l.drop (i + 1)) = splitL b l := by
  rw [List.drop_eq_getElem_cons hi, splitGo, if_neg he] at h
  exact h

theorem split_end (b : UInt8) (l : List UInt8) (out : List (List UInt8)) (cur : List UInt8) (h : out ++ splitGo b cur (l.drop l.length) = splitL b l) : out ++ [cur] = splitL b l := by
  rw [List.drop_length, splitGo] at h
  exact h

/-- The text between two places. -/
theorem cut_snoc (l : List UInt8) (f i : Nat) (hf : f ≤ i) (hi : i < l.length) : (l.drop f).take (i + 1 - f) = (l.drop f).take (i - f) ++ [l[i]] := by
  have hlt : i - f < (l.drop f).length := by rw [List.length_drop]; omega
  rw [show i + 1 - f = i - f + 1 by omega, List.take_succ_eq_append_getElem hlt, List.getElem_drop]
  congr 2
  congr 1
  omega

/-- Names. -/
def nameB (l : List UInt8) : Bool := decide (1 ≤ l.length ∧ l.length ≤ 8) && l.all (fun c => decide (97 ≤ c.toNat ∧ c.toNat ≤ 122))

theorem name_bad (l : List UInt8) (k : Nat) (hk : k < l.length) (h : ¬ (97 ≤ l[k].toNat ∧ l[k].toNat ≤ 122)) : nameB l = false := by
  unfold nameB
  have : l.all (fun c => decide (97 ≤ c.toNat ∧ c.toNat ≤ 122)) = false := by
    rw [List.all_eq_false]
    exact ⟨l[k], List.getElem_mem hk, by simpa using h⟩
  rw [this, Bool.and_false]

theorem name_good (l : List UInt8) (h : ∀ k (hk : k < l.length), 97 ≤ l[k].toNat ∧ l[k].toNat ≤ 122) : nameB l = inB (l.length : Int) 1 8 := by
  have : l.all (fun c => decide (97 ≤ c.toNat ∧ c.toNat ≤ 122)) = true := by
    rw [List.all_eq_true]
    intro c hc
    obtain ⟨k, hk, rfl⟩ := List.getElem_of_mem hc
    exact decide_eq_true (h k hk)
  unfold nameB inB
  rw [this, Bool.and_true]
  exact decide_eq_decide.2 (by omega)

end Go.Proofs.Ytnflkecnddbhoaa

/-! Plain facts for chapter 5: a number, as it is written and as it is read. -/
namespace Go.Proofs.Ytnflkecnddbhoaa
open Go.RowKit

def digit (n : Nat) : UInt8 := UInt8.ofNat (48 + n % 10)

/-- The decimal digits, without noughts ahead. -/
def digL (n : Nat) : List UInt8 := if n < 10 then [digit n] else digL (n / 10) ++ [digit n]
termination_by n
decreasing_by omega

/-- What is still to be written ahead of s. -/
def digTo (n : Nat) (s : List UInt8) : List UInt8 := if n = 0 ∧ s ≠ [] then s else digL n ++ s

def isDig (c : UInt8) : Prop := 48 ≤ c.toNat ∧ c.toNat ≤ 57
instance (c : UInt8) : Decidable (isDig c) := by unfold isDig; infer_instance

/-- What digits say. -/
def valL (l : List UInt8) : Nat := l.foldl (fun v c => v * 10 + (c.toNat - 48)) 0

/-- Is it a minus ahead? -/
def negB (t : List UInt8) : Bool := t.head? == some 45
def bodyL (t : List UInt8) : List UInt8 := if negB t = true then t.tail else t

/-- The form of a number, and the number. -/
def formP (t : List UInt8) : Prop := (1 ≤ (bodyL t).length ∧ (bodyL t).length ≤ 10) ∧ (∀ c ∈ bodyL t, isDig c) ∧ ¬ ((bodyL t).head? = some 48 ∧ 1 < t.length)
open Classical in
noncomputable def readB (t : List UInt8) : Bool := decide (formP t)
noncomputable def readV (t : List UInt8) : Int := if readB t = true then (if negB t = true then -(valL (bodyL t) : Int) else (valL (bodyL t) : Int)) else 0
def intL (n : Int) : List UInt8 := if n < 0 then 45 :: digL n.natAbs else digL n.natAbs

noncomputable def numB (t : List UInt8) : Bool := readB t && inB (readV t) (-2147483648) 2147483647
noncomputable def numV (t : List UInt8) : Int := if numB t = true then readV t else 0

end Go.Proofs.Ytnflkecnddbhoaa

/-! Plain facts for chapter 5: lines and words joined, one by one. -/
namespace Go.Proofs.Ytnflkecnddbhoaa
open Go.RowKit

end Go.Proofs.Ytnflkecnddbhoaa

/-! Plain facts for chapter 6 (trees): nodes, where a tree ends, how it is shown and read. -/
namespace Go.Proofs.Ytnflkecnddbhoaa
open Go.RowKit

/-- A node: its kind, its number, its package, its function. -/
abbrev Nd := Int × Int × List UInt8 × List UInt8

def nodeP (n : Nd) : Prop :=
  (n.1 = 1 ∧ (-2147483648 ≤ n.2.1 ∧ n.2.1 ≤ 2147483647) ∧ n.2.2.1 = [] ∧ n.2.2.2 = []) ∨
  (n.1 = 2 ∧ (0 ≤ n.2.1 ∧ n.2.1 ≤ 2) ∧ n.2.2.1 = [] ∧ n.2.2.2 = []) ∨
  ((3 ≤ n.1 ∧ n.1 ≤ 7) ∧ n.2.1 = 0 ∧ n.2.2.1 = [] ∧ n.2.2.2 = []) ∨
  (n.1 = 8 ∧ (0 ≤ n.2.1 ∧ n.2.1 ≤ 3) ∧ nameB n.2.2.1 = true ∧ nameB n.2.2.2 = true)
instance (n : Nd) : Decidable (nodeP n) := by unfold nodeP; infer_instance
def nodeB (n : Nd) : Bool := decide (nodeP n)
theorem nodeB_iff {n : Nd} : nodeB n = true ↔ nodeP n := by unfold nodeB; simp
theorem nodeB_no {n : Nd} (h : ¬ nodeP n) : nodeB n = false := decide_eq_false h
/-- How many parts follow. -/
def kidsN (n : Nd) : Nat := if 3 ≤ n.1 ∧ n.1 ≤ 6 then 2 else if n.1 = 7 then 3 else if n.1 = 8 then n.2.1.toNat else 0
def kidsV (n : Nd) : Int := if 3 ≤ n.1 ∧ n.1 ≤ 6 then 2 else if n.1 = 7 then 3 else if n.1 = 8 then n.2.1 else 0
def kidsOfV (n : Nd) : Int := if nodeB n = true then kidsV n else -1

theorem kidsV_ok {n : Nd} (h : nodeB n = true) : kidsV n = (kidsN n : Int) ∧ kidsN n ≤ 3 := by
  have hp := nodeB_iff.1 h
  unfold nodeP at hp
  unfold kidsV kidsN
  rcases hp with ⟨h1, _⟩ | ⟨h1, _⟩ | ⟨h1, _⟩ | ⟨h1, h2, _⟩
  · rw [if_neg (by omega), if_neg (by omega), if_neg (by omega), if_neg (by omega), if_neg (by omega), if_neg (by omega)]; omega
  · rw [if_neg (by omega), if_neg (by omega), if_neg (by omega), if_neg (by omega), if_neg (by omega), if_neg (by omega)]; omega
  · by_cases e : n.1 = 7
    · rw [if_neg (by omega), if_pos e, if_neg (by omega), if_pos e]; omega
    · rw [if_pos (by omega), if_pos (by omega)]; omega
  · rw [if_neg (by omega), if_neg (by omega), if_pos h1, if_neg (by omega), if_neg (by omega), if_pos h1]; omega

/-- How many nodes are gone through till o are closed. -/
def endGo : List Nd → Nat → Option Nat
  | _, 0 => some 0
  | [], _ + 1 => none
  | n :: r, o + 1 => if nodeB n = true then (endGo r (o + kidsN n)).map (· + 1) else none

theorem endGo_zero (l : List Nd) : endGo l 0 = some 0 := by cases l <;> rfl
theorem endGo_nil (o : Nat) : endGo [] (o + 1) = none := rfl
theorem endGo_cons (n : Nd) (r : List Nd) (o : Nat) : endGo (n :: r) (o + 1) = if nodeB n = true then (endGo r (o + kidsN n)).map (· + 1) else none := rfl

theorem endGo_le : ∀ (l : List Nd) (o d : Nat), endGo l o = some d → d ≤ l.length
  | l, 0, d, h => by rw [endGo_zero] at h; injection h with h; omega
  | [], o + 1, d, h => by rw [endGo_nil] at h; cases h
  | n :: r, o + 1, d, h => by
    rw [endGo_cons] at h
    split at h
    · rw [Option.map_eq_some_iff] at h
      obtain ⟨e, he, rfl⟩ := h
      have := endGo_le r _ e he
      simp; omega
    · cases h

/-- Where the tree at a place ends; -1 where there is none. -/
def endN (l : List Nd) (k : Nat) : Int := if k < l.length then (match endGo (l.drop k) 1 with | some d => (k : Int) + d | none => -1) else -1
def endV (l : List Nd) (a : Int) : Int := if a < 0 then -1 else endN l a.toNat

theorem endV_nat (l : List Nd) (k : Nat) : endV l (k : Int) = endN l k := by unfold endV; rw [if_neg (by omega), Int.toNat_natCast]
theorem endV_out (l : List Nd) (a : Int) (h : a < 0 ∨ (l.length : Int) ≤ a) : endV l a = -1 := by
  unfold endV
  by_cases h0 : a < 0
  · rw [if_pos h0]
  · rw [if_neg h0]; unfold endN; rw [if_neg (by omega)]

def treeB (l : List Nd) : Bool := decide ((1 ≤ l.length ∧ l.length ≤ 60) ∧ endV l 0 = (l.length : Int))

/-- The loop: k nodes on, o still open. -/
theorem end_round {l : List Nd} {k o : Nat} (hk : k < l.length) (hn : nodeB l[k] = true) : endGo (l.drop k) (o + 1) = (endGo (l.drop (k + 1)) (o + kidsN l[k])).map (· + 1) := by
  rw [List.drop_eq_getElem_cons hk, endGo_cons, if_pos hn]
theorem end_bad {l : List Nd} {k o : Nat} (hk : k < l.length) (hn : nodeB l[k] = false) : endGo (l.drop k) (o + 1) = none := by
  rw [List.drop_eq_getElem_cons hk, endGo_cons, if_neg (by rw [hn]; simp)]
theorem end_over {l : List Nd} {k o : Nat} (hk : l.length ≤ k) : endGo (l.drop k) (o + 1) = none := by
  rw [List.drop_eq_nil_of_le hk, endGo_nil]

/-- A word for a node. -/
def showN (n : Nd) : List UInt8 :=
  if n.1 = 1 then intL n.2.1
  else if n.1 = 2 then 36 :: intL n.2.1
  else if n.1 = 3 then [43]
  else if n.1 = 4 then [45]
  else if n.1 = 5 then [42]
  else if n.1 = 6 then [47]
  else if n.1 = 7 then [63]
  else (64 :: n.2.2.1) ++ [46] ++ n.2.2.2 ++ [47] ++ intL n.2.1

def showL (l : List Nd) : List UInt8 := joinBy 32 (l.map showN)
def showT (l : List Nd) : List UInt8 := if treeB l = true then showL l else []

end Go.Proofs.Ytnflkecnddbhoaa

/-! Plain facts for chapter 6: what is shown is read. -/
namespace Go.Proofs.Ytnflkecnddbhoaa
open Go.RowKit

/-- Pieces of what holds no such byte. -/
theorem split_none (b : UInt8) (l : List UInt8) : ∀ cur, (∀ c ∈ l, c ≠ b) → splitGo b cur l = [cur ++ l] := by
  induction l with
  | nil => intro cur _; simp [splitGo]
  | cons c r ih =>
    intro cur h
    rw [splitGo, if_neg (h c (by simp)), ih _ (fun x hx => h x (by simp [hx]))]
    simp

theorem split_one (b : UInt8) (x y : List UInt8) : ∀ cur, (∀ c ∈ x, c ≠ b) → splitGo b cur (x ++ b :: y) = (cur ++ x) :: splitGo b [] y := by
  induction x with
  | nil => intro cur _; simp [splitGo]
  | cons c r ih =>
    intro cur h
    rw [List.cons_append, splitGo, if_neg (h c (by simp)), ih _ (fun z hz => h z (by simp [hz]))]
    simp

/-- The node of a word. -/
noncomputable def readN (s : List UInt8) : Nd :=
  if s = [] then (0, 0, [], [])
  else if s.head? = some 36 then (2, readV s.tail, [], [])
  else if s.head? = some 43 then (3, 0, [], [])
  else if s.head? = some 42 then (5, 0, [], [])
  else if s.head? = some 47 then (6, 0, [], [])
  else if s.head? = some 63 then (7, 0, [], [])
  else if s.head? = some 64 then
    (if (splitL 47 s.tail).length = 2 ∧ (splitL 46 ((splitL 47 s.tail).getD 0 [])).length = 2
     then (8, readV ((splitL 47 s.tail).getD 1 []), (splitL 46 ((splitL 47 s.tail).getD 0 [])).getD 0 [], (splitL 46 ((splitL 47 s.tail).getD 0 [])).getD 1 []) else (0, 0, [], []))
  else if s = [45] then (4, 0, [], [])
  else (1, readV s, [], [])

theorem name_letters {l : List UInt8} (h : nameB l = true) : (1 ≤ l.length ∧ l.length ≤ 8) ∧ ∀ c ∈ l, 97 ≤ c.toNat ∧ c.toNat ≤ 122 := by
  unfold nameB at h
  rw [Bool.and_eq_true, List.all_eq_true] at h
  exact ⟨of_decide_eq_true h.1, fun c hc => of_decide_eq_true (h.2 c hc)⟩

theorem tree_end {l : List Nd} (h : treeB l = true) : (1 ≤ l.length ∧ l.length ≤ 60) ∧ endGo l 1 = some l.length := by
  obtain ⟨h1, h2⟩ := of_decide_eq_true h
  refine ⟨h1, ?_⟩
  have e := endV_nat l 0
  rw [Int.natCast_zero] at e
  rw [e] at h2
  unfold endN at h2
  rw [if_pos (by omega), List.drop_zero] at h2
  cases hg : endGo l 1 with
  | none => rw [hg] at h2; simp at h2
  | some d => rw [hg] at h2; simp at h2; congr 1; omega

noncomputable def readT (s : List UInt8) : List Nd := (splitL 32 s).map readN
noncomputable def readOk (s : List UInt8) : Bool := decide (s.length ≤ 2000) && (treeB (readT s) && (showL (readT s) == s))
noncomputable def readTV (s : List UInt8) : List Nd := if readOk s = true then readT s else []

end Go.Proofs.Ytnflkecnddbhoaa

/-! Plain facts for chapter 6: parts are one behind the other. -/
namespace Go.Proofs.Ytnflkecnddbhoaa
open Go.RowKit

/-- To close a and b is to close a, and then b. -/
theorem endGo_add : ∀ (l : List Nd) (a b : Nat), endGo l (a + b) = (endGo l a).bind (fun d => (endGo (l.drop d) b).map (d + ·))
  | l, 0, b => by
    rw [Nat.zero_add, endGo_zero]
    simp
  | [], a + 1, b => by
    rw [show a + 1 + b = (a + b) + 1 by omega, endGo_nil, endGo_nil]; rfl
  | n :: r, a + 1, b => by
    rw [show a + 1 + b = (a + b) + 1 by omega, endGo_cons, endGo_cons]
    split
    · rw [show a + b + kidsN n = (a + kidsN n) + b by omega, endGo_add r (a + kidsN n) b]
      cases endGo r (a + kidsN n) with
      | none => rfl
      | some d =>
        simp only [Option.bind_some, Option.map_some, List.drop_succ_cons, Option.map_map]
        congr 1
        funext x
        simp only [Function.comp]
        omega
    · rfl

/-- Where the parts begin. -/
def partsGo (l : List Nd) : Nat → Int → List Int
  | 0, _ => []
  | k + 1, next => next :: partsGo l k (endV l next)
def partsV (l : List Nd) (a : Int) : List Int := if endV l a < 0 then [] else partsGo l (kidsN (l.getD a.toNat (0, 0, [], []))) (a + 1)

theorem partsGo_len (l : List Nd) : ∀ k next, (partsGo l k next).length = k
  | 0, _ => rfl
  | k + 1, next => by rw [partsGo, List.length_cons, partsGo_len l k]

/-- k trees one behind the other, from a place on. -/
def chain (l : List Nd) : Nat → Int → Int
  | 0, next => next
  | k + 1, next => chain l k (endV l next)

theorem endN_some {l : List Nd} {k d : Nat} (h : endGo (l.drop k) 1 = some d) (hk : k < l.length) : endN l k = (k : Int) + d := by
  unfold endN; rw [if_pos hk, h]

theorem endGo_pos {l : List Nd} {o d : Nat} (h : endGo l (o + 1) = some d) : 1 ≤ d ∧ l ≠ [] := by
  cases l with
  | nil => rw [endGo_nil] at h; cases h
  | cons n r =>
    rw [endGo_cons] at h
    split at h
    · rw [Option.map_eq_some_iff] at h
      obtain ⟨e, _, rfl⟩ := h
      exact ⟨by omega, by simp⟩
    · cases h

theorem chain_end (l : List Nd) : ∀ (o k d : Nat), endGo (l.drop k) o = some d → k + d ≤ l.length → chain l o (k : Int) = ((k + d : Nat) : Int)
  | 0, k, d, h, _ => by
    rw [endGo_zero] at h
    injection h with h
    subst h
    rfl
  | o + 1, k, d, h, hle => by
    have h2 := endGo_add (l.drop k) 1 o
    rw [show 1 + o = o + 1 by omega, h] at h2
    cases he : endGo (l.drop k) 1 with
    | none => rw [he] at h2; simp at h2
    | some e =>
      rw [he] at h2
      simp only [Option.bind_some] at h2
      cases hf : endGo ((l.drop k).drop e) o with
      | none => rw [hf] at h2; simp at h2
      | some f =>
        rw [hf] at h2
        simp only [Option.map_some, Option.some.injEq] at h2
        have hk : k < l.length := by
          have := (endGo_pos he).2
          rcases Nat.lt_or_ge k l.length with hx | hx
          · exact hx
          · exact absurd (List.drop_eq_nil_of_le hx) this
        rw [chain, endV_nat, endN_some he hk]
        have := chain_end l o (k + e) f (by rw [List.drop_drop] at hf; exact hf) (by omega)
        rw [show ((k : Int) + (e : Int)) = ((k + e : Nat) : Int) by omega, this]
        congr 1
        omega

/-- A node that ends: its parts go from behind it to its end. -/
theorem end_parts {l : List Nd} {k : Nat} (h : 0 ≤ endV l (k : Int)) : k < l.length ∧ nodeB (l.getD k (0, 0, [], [])) = true ∧ chain l (kidsN (l.getD k (0, 0, [], []))) ((k : Int) + 1) = endV l (k : Int) ∧ (k : Int) < endV l (k : Int) ∧ endV l (k : Int) ≤ l.length := by
  rw [endV_nat] at h ⊢
  unfold endN at h
  by_cases hk : k < l.length
  · rw [if_pos hk] at h
    cases he : endGo (l.drop k) 1 with
    | none => rw [he] at h; simp at h
    | some d =>
      have hd : l.drop k = l[k] :: l.drop (k + 1) := List.drop_eq_getElem_cons hk
      have hg : l.getD k (0, 0, [], []) = l[k] := by simp [List.getD, hk]
      rw [hg]
      have hle := endGo_le _ _ _ he
      rw [List.length_drop] at hle
      have he2 := he
      rw [hd, show (1 : Nat) = 0 + 1 from rfl, endGo_cons] at he2
      split at he2
      · rename_i hn
        rw [Option.map_eq_some_iff] at he2
        obtain ⟨e, hee, rfl⟩ := he2
        have hc := chain_end l (kidsN l[k]) (k + 1) e (by rw [← hee]; congr 1; omega) (by omega)
        rw [endN_some he hk]
        refine ⟨hk, hn, ?_, by omega, by omega⟩
        rw [show ((k : Int) + 1) = ((k + 1 : Nat) : Int) by omega, hc]
        omega
      · cases he2
  · rw [if_neg hk] at h; omega

end Go.Proofs.Ytnflkecnddbhoaa

/-! Plain facts on lists of bytes for Turned. -/
namespace Go.Proofs.Ytnflkecnddbhoaa

theorem ba_ext {a b : ByteArray} (h : a.data.toList = b.data.toList) : a = b := by
  cases a; cases b; simp_all

end Go.Proofs.Ytnflkecnddbhoaa

/-! Facts that every chapter leans on: rows that a call owns, lists of texts, the walk's own spellings. -/
namespace Go.Proofs.Ytnflkecnddbhoaa
open Go.RowKit

def strV (ls : List (List UInt8)) : List Value := ls.map (fun l => Value.string ⟨l.toArray⟩)

theorem strV_snoc (o : List (List UInt8)) (t : List UInt8) : strV o ++ [.string ⟨t.toArray⟩] = strV (o ++ [t]) := by simp [strV]

theorem strV_len (o : List (List UInt8)) : (strV o).length = o.length := by simp [strV]

theorem strV_at (ls : List (List UInt8)) (j : Nat) (h : j < ls.length) : (strV ls)[j]? = some (.string ⟨ls[j].toArray⟩) := by
  simp [strV, List.getElem?_eq_getElem h]

theorem info9 : (Try.prog.info? 9).map (fun i => (i.zero, i.size, i.bytes)) = some (some (.string ⟨#[]⟩), 1, 16) := by kernel_rfl

theorem own_str {w1 : World} {B : Nat} {v' : Value} {o : List (List UInt8)} {t : List UInt8} (hown' : w1.ownsRow B 9 1 v' (o.length + 1) (strV o ++ [.string ⟨t.toArray⟩])) :
    w1.ownsRow B 9 1 v' (o ++ [t]).length (strV (o ++ [t])) := by
  rw [← strV_snoc, List.length_append, List.length_singleton]
  exact hown'

theorem own_shape {w : World} {base e size n : Nat} {v : Value} {xs : List Value} (h : w.ownsRow base e size v n xs) (hv : v ≠ .slice none 0 0) : ∃ g cp, v = .slice (some ⟨g, 0, none⟩) n cp := by
  obtain ⟨_, ⟨e, _⟩ | ⟨g, cap, cur, rfl, _⟩⟩ := h
  · exact absurd e hv
  · exact ⟨g, cap, rfl⟩

theorem own_none {w w' : World} {base e size n : Nat} {v : Value} {xs : List Value} (h : w.ownsRow base e size v n xs) (hg : w.grownBy w' none) : w'.ownsRow base e size v n xs := by
  refine h.kept hg ?_
  rcases hv : v.ownBlock with _ | g
  · exact Or.inl rfl
  · exact Or.inr (by simp)

theorem own_below {w w' : World} {base e size n : Nat} {v : Value} {xs : List Value} (h : w.ownsRow base e size v n xs) (hb : Below w.heap.size w w') : w'.ownsRow base e size v n xs :=
  own_none h ⟨hb.os, hb.tape, hb.output, hb.size, fun k hk _ => hb.block k hk⟩

theorem own_other {w w' : World} {B base e size n : Nat} {v : Value} {xs : List Value} (h : w.ownsRow base e size v n xs) (hB : B < base) (hg : w.grownBy w' (some B)) : w'.ownsRow base e size v n xs := by
  refine h.kept hg ?_
  rcases hv : v.ownBlock with _ | g
  · exact Or.inl rfl
  · refine Or.inr fun e => ?_
    have := (h.lt g hv).1
    injection e with e
    omega

theorem own_forms {w : World} {base e size n : Nat} {v : Value} {xs : List Value} (h : w.ownsRow base e size v n xs) : (v = .slice none 0 0 ∧ n = 0 ∧ xs = []) ∨ ∃ g cp, v = .slice (some ⟨g, 0, none⟩) n cp := by
  have h0 := h.1
  obtain ⟨_, ⟨e, hn⟩ | ⟨g, cap, cur, rfl, _⟩⟩ := h
  · refine Or.inl ⟨e, hn, List.eq_nil_of_length_eq_zero ?_⟩
    rw [h0, hn, Nat.zero_mul]
  · exact Or.inr ⟨g, cap, rfl⟩

theorem own_some {w : World} {base e size n : Nat} {v : Value} {xs : List Value} (h : w.ownsRow base e size v n xs) (hn : n ≠ 0) : ∃ g cp, v = .slice (some ⟨g, 0, none⟩) n cp := by
  rcases own_forms h with ⟨_, h0, _⟩ | h1
  · exact absurd h0 hn
  · exact h1

theorem str_cellsD {w : World} {base g cp n : Nat} {ls : List (List UInt8)} (h : w.ownsRow base 9 1 (.slice (some ⟨g, 0, none⟩) n cp) n (strV ls)) (hn : ls.length = n) (j : Nat) (hj : j < n) :
    w.cell? ⟨g, j, none⟩ = some (.string ⟨(ls.getD j []).toArray⟩) := by
  rw [h.cellAt j (by omega), strV_at ls j (by omega), List.getD_eq_getElem?_getD, List.getElem?_eq_getElem (by omega)]; rfl

theorem ext_list (l : List UInt8) (i j : Nat) : (⟨l.toArray⟩ : ByteArray).extract i j = ⟨((l.drop i).take (j - i)).toArray⟩ := by
  apply ba_ext
  rw [ByteArray.data_extract, Array.toList_extract, List.extract_eq_take_drop]

theorem Below.by {w w' : World} (h : Below w.heap.size w w') : w.grownBy w' none := ⟨h.os, h.tape, h.output, h.size, fun k hk _ => h.block k hk⟩

theorem own_base {w : World} {base b2 e size n : Nat} {v : Value} {xs : List Value} (h : w.ownsRow base e size v n xs) (hb : b2 ≤ base) : w.ownsRow b2 e size v n xs := by
  refine ⟨h.1, ?_⟩
  rcases h.2 with h' | ⟨g, cap, cur, hv, hg, r⟩
  · exact Or.inl h'
  · exact Or.inr ⟨g, cap, cur, hv, Nat.le_trans hb hg, r⟩

theorem grown_set (w : World) (B o : Nat) (v : Value) : w.grownBy (w.setCell ⟨B, o, none⟩ v) (some B) :=
  ⟨rfl, rfl, rfl, by simp, fun k _ hne => Below.heap_setCell w _ v k (fun e => hne (by rw [e]))⟩

/-- The values news lie at x, in m elements: what 'append' reads, whosever it is. -/
def Src (w : World) (x : Value) (m size : Nat) (news : List Value) : Prop :=
  news.length = m * size ∧ (∀ u ∈ news, u.oneCell' = true) ∧ ((x = .slice none 0 0 ∧ m = 0) ∨ ∃ ad c, x = .slice (some ad) m c ∧ ∀ j u, news[j]? = some u → w.cell? (ad.add j) = some u)

theorem run_append_src {P : Program} (w : World) (base : Nat) (t ty e : TypeId) (i : TypeInfo) (z : Value) (size bytes : Nat) (ht : P.underlying t = some (.slice e)) (hi : P.info? e = some i) (hz : i.zero = some z)
    (hsize : i.size = size) (hby : i.bytes = bytes) (hzs : z.cells.size = size) (hsz : 0 < size)
    (v : Value) (n : Nat) (xs : List Value) (hown : w.ownsRow base e size v n xs) (x : Value) (m : Nat) (news : List Value) (hsrc : Src w x m size news)
    (h63 : n + m ≤ maxLen) (hbytes : (n + m) * bytes ≤ 140737488355328) (hbase : base ≤ w.heap.size) :
    ∃ v' w', (Builtin.append_ #[t, t] ty #[v, x]).run P w = .ok v' w' ∧ w'.ownsRow base e size v' (n + m) (xs ++ news) ∧ w.grownBy w' v.ownBlock ∧ (v' = .slice none 0 0 → v = .slice none 0 0) := by
  obtain ⟨hl, h1, ⟨rfl, rfl⟩ | ⟨ad, c, rfl, hc⟩⟩ := hsrc
  · have hn : news = [] := List.eq_nil_of_length_eq_zero (by omega)
    subst hn
    exact ⟨v, w, run_append_owned_none (P := P) (w := w) base t ty e i size ht hi v n xs hown, by simpa using hown, World.grownBy.refl w _, fun h => h⟩
  · obtain ⟨v', w', hr, h2, h3, h4⟩ := run_append_own (P := P) w base t ty e i z size bytes ht hi hz hsize hby hzs hsz v n xs hown ad m c news hl hc h1 h63 hbytes hbase
    exact ⟨v', w', hr, h2, h3, fun h => (h4.1 h).1⟩

/-- 'append' at a step of a region that draws. -/
theorem step_append_run {P : Program} {w w' : World} {ops : Array Oper} {o : Oper} {a : Act} {K : Act → World → Prop} {Q : Exit → Act → World → Prop} {E : Prop} (hgd : o.guard = none) (s x : Operand) (t : TypeId)
    (ho : o.op = .call { callee := .builtin .append, args := #[s, x], argTypes := #[t, t] }) (v u v' : Value) (hs : a.eval s = v) (hx : a.eval x = u)
    (hrun : (Builtin.append_ #[t, t] o.type #[v, u]).run P w = .ok v' w') (h : K (a.put o.dst v') w') :
    if Region.wanted o (yielded ops a.tmps) = true then Oper.wp P o a w K Q else E := by
  have hw : Region.wanted o (yielded ops a.tmps) = true := by simp [Region.wanted, hgd]
  rw [if_pos hw]
  unfold Oper.wp
  simp [execOp, ho, resolve, invoke, builtin, hs, hx, hrun, Result.andThen]
  exact h

/-- 'append' in a plain region. -/
theorem wpList_append_run {P : Program} {w w' : World} {ops : Array Oper} {rest : List Oper} {o : Oper} {a : Act} {Q : Exit → Act → World → Prop} (hgd : o.guard = none) (s x : Operand) (t : TypeId)
    (ho : o.op = .call { callee := .builtin .append, args := #[s, x], argTypes := #[t, t] }) (v u v' : Value) (hs : a.eval s = v) (hx : a.eval x = u)
    (hrun : (Builtin.append_ #[t, t] o.type #[v, u]).run P w = .ok v' w') (h : wpList P ops Q rest (a.put o.dst v') w') : wpList P ops Q (o :: rest) a w := by
  refine wpList_plain hgd fun K hK => ?_
  unfold Oper.wp
  simp [execOp, ho, resolve, invoke, builtin, hs, hx, hrun, Result.andThen]
  exact hK _ _ h

end Go.Proofs.Ytnflkecnddbhoaa

/-! The contracts of spec.HexOf and impl.HexOf. -/
namespace Go.Proofs.Ytnflkecnddbhoaa
open Go.RowKit

set_option maxHeartbeats 400000 in
set_option maxRecDepth 100000 in
theorem specIn (x lo hi : Int) (w : World) :
    Calls Try.prog 28 #[.int .i64 x, .int .i64 lo, .int .i64 hi] w fun e w' => e = .returned (.bool (inB x lo hi)) ∧ w' = w := by
  by_cases h1 : lo ≤ x
  · by_cases h2 : x ≤ hi
    · have hB : Hid (inB x lo hi = true) := inB_yes x lo hi h1 h2
      go_enter Try.func28, Try.ntmps28
      go_wp2
      go_ret
      exact ⟨by rw [hB.out]; rfl, rfl⟩
    · have hB : Hid (inB x lo hi = false) := inB_no x lo hi (Or.inr (by omega))
      go_enter Try.func28, Try.ntmps28
      go_wp2
      go_ret
      exact ⟨by rw [hB.out]; rfl, rfl⟩
  · have hB : Hid (inB x lo hi = false) := inB_no x lo hi (Or.inl (by omega))
    go_enter Try.func28, Try.ntmps28
    go_wp2
    go_ret
    exact ⟨by rw [hB.out]; rfl, rfl⟩



end Go.Proofs.Ytnflkecnddbhoaa

/-! The contracts of chapter 4's specification: WordOk, Wrap, Done. -/
namespace Go.Proofs.Ytnflkecnddbhoaa
open Go.RowKit

set_option maxHeartbeats 400000 in
set_option maxRecDepth 100000 in
theorem specWordOk (n : Int) (w : World) : Calls Try.prog 9 #[.int .i64 n] w fun e w' => e = .returned (.bool (inB n (-2147483648) 2147483647)) ∧ w' = w := by
  go_enter Try.func9, Try.ntmps9
  go_wp2_with (go_at_call 28; refine (specIn _ _ _ _).mono ?_; rintro e w' ⟨rfl, rfl⟩)
  go_ret
  exact ⟨rfl, rfl⟩

set_option maxHeartbeats 400000 in
set_option maxRecDepth 100000 in
theorem specWrap (n : Int) (w : World) : Calls Try.prog 78 #[.int .i64 n] w fun e w' => e = .returned (.int .i64 (wrapW n)) ∧ w' = w := by
  go_enter Try.func78, Try.ntmps78
  go_wp2
  go_ret
  exact ⟨ret_int (wrapWW n), rfl⟩

set_option maxHeartbeats 1000000 in
set_option maxRecDepth 100000 in
theorem specL4Done (kind a b : Int) (w : World) (ha : -2147483648 ≤ a ∧ a ≤ 2147483647) (hb : -2147483648 ≤ b ∧ b ≤ 2147483647) :
    Calls Try.prog 58 #[.int .i64 kind, .int .i64 a, .int .i64 b] w fun e w' => e = .returned (.tuple #[.int .i64 (doneV kind a b), .bool (doneB kind a b)]) ∧ w' = w := by
  obtain ⟨h3, h4, h5, h6, h0⟩ := done_in kind a b ⟨ha, hb⟩
  obtain ⟨hm1, hm2⟩ := mul_bd a b ha hb
  obtain ⟨ha1, ha2⟩ := ha
  obtain ⟨hb1, hb2⟩ := hb
  by_cases k3 : kind = 3
  · have HO : Hid (doneV kind a b = wrapW (a + b) ∧ doneB kind a b = true) := h3 k3
    clear h3 h4 h5 h6 h0
    subst k3
    go_enter Try.func58, Try.ntmps58
    go_wp2_with (go_at_call 78; refine (specWrap _ _).mono ?_; rintro e w' ⟨rfl, rfl⟩)
    go_ret2
    exact ⟨by rw [HO.out.1, HO.out.2]; rfl, rfl⟩
  · have d3 : (kind == 3) = false := beq_eq_false_iff_ne.2 k3
    by_cases k4 : kind = 4
    · have HO : Hid (doneV kind a b = wrapW (a - b) ∧ doneB kind a b = true) := h4 k4
      clear h3 h4 h5 h6 h0 d3 k3
      subst k4
      go_enter Try.func58, Try.ntmps58
      go_wp2_with (go_at_call 78; refine (specWrap _ _).mono ?_; rintro e w' ⟨rfl, rfl⟩)
      go_ret2
      exact ⟨by rw [HO.out.1, HO.out.2]; rfl, rfl⟩
    · have d4 : (kind == 4) = false := beq_eq_false_iff_ne.2 k4
      by_cases k5 : kind = 5
      · have HO : Hid (doneV kind a b = wrapW (a * b) ∧ doneB kind a b = true) := h5 k5
        clear h3 h4 h5 h6 h0 d3 k3 d4 k4
        subst k5
        go_enter Try.func58, Try.ntmps58
        go_wp2_with (go_at_call 78; refine (specWrap _ _).mono ?_; rintro e w' ⟨rfl, rfl⟩)
        go_ret2
        exact ⟨by rw [HO.out.1, HO.out.2]; rfl, rfl⟩
      · have d5 : (kind == 5) = false := beq_eq_false_iff_ne.2 k5
        by_cases k6 : kind = 6
        · by_cases kb : b = 0
          · have HO : Hid (doneV kind a b = 0 ∧ doneB kind a b = false) := h0 k3 k4 k5 (fun h => h.2 kb)
            clear h3 h4 h5 h6 h0 d3 k3 d4 k4 d5 k5
            subst k6 kb
            go_enter Try.func58, Try.ntmps58
            go_wp2
            go_ret2
            exact ⟨by rw [HO.out.1, HO.out.2]; rfl, rfl⟩
          · have HO : Hid (doneV kind a b = wrapW (a.tdiv b) ∧ doneB kind a b = true) := h6 k6 kb
            have db : (b != 0) = true := bne_iff_ne.2 kb
            have hq := tdiv_bd a b ⟨ha1, ha2⟩
            obtain ⟨hq1, hq2⟩ := hq
            clear h3 h4 h5 h6 h0 d3 k3 d4 k4 d5 k5
            subst k6
            go_enter Try.func58, Try.ntmps58
            go_wp2_with (go_at_call 78; refine (specWrap _ _).mono ?_; rintro e w' ⟨rfl, rfl⟩)
            go_ret2
            exact ⟨by rw [HO.out.1, HO.out.2]; rfl, rfl⟩
        · have HO : Hid (doneV kind a b = 0 ∧ doneB kind a b = false) := h0 k3 k4 k5 (fun h => k6 h.1)
          have d6 : (kind == 6) = false := beq_eq_false_iff_ne.2 k6
          clear h3 h4 h5 h6 h0 k3 k4 k5 k6
          go_enter Try.func58, Try.ntmps58
          go_wp2
          go_ret2
          exact ⟨by rw [HO.out.1, HO.out.2]; rfl, rfl⟩


end Go.Proofs.Ytnflkecnddbhoaa
