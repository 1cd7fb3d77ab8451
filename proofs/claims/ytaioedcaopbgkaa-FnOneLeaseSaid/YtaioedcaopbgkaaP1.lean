/-
  Parts of one proof, one behind the other: Math1, Math4, Math5, Math5N, Math5J, Math6, Math6R, Math6P, MathT, Own.
-/
import Derived.WalkKit
import Derived.IntWalk
import Derived.Laws.Bits128
import Derived.Test.YtaioedcaopbgkaaRows
import Derived.WalkLawsBesides
import Derived.Laws.OwnMore
import Derived.Laws.IdiomStrings
import Derived.Maps.AppendAt
import Derived.OpenShut
import Derived.Handy

/-! Plain facts on lists and numbers for chapter 1 (hashes): what Hash computes, and that it stays in its range. -/
namespace Go.Proofs.Ytaioedcaopbgkaa
open Go.RowKit

def hashStep (h : Int) (b : UInt8) : Int := (1000003 * h + (b.toNat : Int) + 1) % 2147483647

def hashL (l : List UInt8) : Int := l.foldl hashStep 17

theorem w64 (n : Int) (h : -9223372036854775808 ≤ n ∧ n ≤ 9223372036854775807) : wrap64 n = n := by unfold wrap64; omega

theorem stepW (h : Int) (b : UInt8) (h0 : 0 ≤ h ∧ h < 2147483647) : ((wrap64 (wrap64 (1000003 * h + wrap64 (b.toNat : Int)) + 1)).tmod 2147483647) = hashStep h b := by
 have hb := b.toNat_lt
 rw [w64 (b.toNat : Int) (by omega), w64 (1000003 * h + (b.toNat : Int)) (by omega), w64 _ (by omega), Int.tmod_eq_emod_of_nonneg (by omega)]
 rfl

theorem hashStep_bd (h : Int) (b : UInt8) : 0 ≤ hashStep h b ∧ hashStep h b < 2147483647 := by
 unfold hashStep; omega

theorem foldl_bd (l : List UInt8) (h : Int) (h0 : 0 ≤ h ∧ h < 2147483647) : 0 ≤ l.foldl hashStep h ∧ l.foldl hashStep h < 2147483647 := by
 induction l generalizing h with
 | nil => exact h0
 | cons b r ih => exact ih _ (hashStep_bd h b)

theorem hashL_bd (l : List UInt8) : 0 ≤ hashL l ∧ hashL l < 2147483647 := foldl_bd l 17 (by omega)

theorem hashL_snoc (l : List UInt8) (c : UInt8) : hashL (l ++ [c]) = hashStep (hashL l) c := by
 unfold hashL; rw [List.foldl_append]; rfl

theorem take_snoc (s : ByteArray) (k : Nat) (h : k < s.size) : s.data.toList.take (k + 1) = s.data.toList.take k ++ [s[k]] := by
 rw [List.take_succ_eq_append_getElem (by simpa using h)]; rfl

theorem hashL_take (s : ByteArray) (k : Nat) (h : k < s.size) : hashL (s.data.toList.take (k + 1)) = hashStep (hashL (s.data.toList.take k)) s[k] := by
 rw [take_snoc s k h, hashL_snoc]

theorem ret_int {k : IntKind} {a b : Int} (h : a = b) : Ending.returned (.int k a) = .returned (.int k b) := by rw [h]

def hexDs : List UInt8 := [48, 49, 50, 51, 52, 53, 54, 55, 56, 57, 97, 98, 99, 100, 101, 102]
def hexD (n : Nat) : UInt8 := hexDs.getD n 0
theorem hexD_at (m : Int) (h : m.toNat < (ByteArray.mk #[48, 49, 50, 51, 52, 53, 54, 55, 56, 57, 97, 98, 99, 100, 101, 102]).size) : (ByteArray.mk #[48, 49, 50, 51, 52, 53, 54, 55, 56, 57, 97, 98, 99, 100, 101, 102])[m.toNat] = hexD m.toNat := by
 have h' : m.toNat < 16 := h
 generalize m.toNat = k at *
 unfold hexD hexDs
 rw [List.getD_eq_getElem?_getD, List.getElem?_eq_getElem (by simpa using h')]
 rfl
def hexL (n : Nat) : List UInt8 := [hexD (n / 268435456 % 16), hexD (n / 16777216 % 16), hexD (n / 1048576 % 16), hexD (n / 65536 % 16), hexD (n / 4096 % 16), hexD (n / 256 % 16), hexD (n / 16 % 16), hexD (n % 16)]

theorem hexW (n : Int) (h0 : 0 ≤ n) : #[hexD (n / 16 / 16 / 16 / 16 / 16 / 16 / 16 % 16).toNat, hexD (n / 16 / 16 / 16 / 16 / 16 / 16 % 16).toNat, hexD (n / 16 / 16 / 16 / 16 / 16 % 16).toNat, hexD (n / 16 / 16 / 16 / 16 % 16).toNat, hexD (n / 16 / 16 / 16 % 16).toNat, hexD (n / 16 / 16 % 16).toNat, hexD (n / 16 % 16).toNat, hexD (n % 16).toNat] = (hexL n.toNat).toArray := by
 unfold hexL
 rw [show (n / 16 / 16 / 16 / 16 / 16 / 16 / 16 % 16).toNat = n.toNat / 268435456 % 16 by omega, show (n / 16 / 16 / 16 / 16 / 16 / 16 % 16).toNat = n.toNat / 16777216 % 16 by omega,
  show (n / 16 / 16 / 16 / 16 / 16 % 16).toNat = n.toNat / 1048576 % 16 by omega, show (n / 16 / 16 / 16 / 16 % 16).toNat = n.toNat / 65536 % 16 by omega,
  show (n / 16 / 16 / 16 % 16).toNat = n.toNat / 4096 % 16 by omega, show (n / 16 / 16 % 16).toNat = n.toNat / 256 % 16 by omega,
  show (n / 16 % 16).toNat = n.toNat / 16 % 16 by omega, show (n % 16).toNat = n.toNat % 16 by omega]

theorem ret_str {a b : Array UInt8} (h : a = b) : Ending.returned (.string ⟨a⟩) = .returned (.string ⟨b⟩) := by rw [h]

theorem and255 (n : Int) : bits .and .i64 n 255 = n % 256 := by
 have h15 : (BitVec.ofInt 64 255).toNat = 2 ^ 8 - 1 := by decide
 have key : (BitVec.ofInt 64 n &&& BitVec.ofInt 64 255).toNat = (n % ((2 ^ 64 : Nat) : Int)).toNat % 2 ^ 8 := by
  rw [BitVec.toNat_and, BitVec.toNat_ofInt, h15, Nat.and_two_pow_sub_one_eq_mod]
 show IntKind.i64.wrap ((BitVec.ofInt 64 n &&& BitVec.ofInt 64 255).toNat : Nat) = n % 256
 rw [key, IntKind.wrap_i64]
 omega

def hexS (n : Int) : List UInt8 := if 0 ≤ n ∧ n ≤ 4294967295 then hexL n.toNat else []
theorem hexS_yes (n : Int) (h0 : 0 ≤ n) (h1 : n ≤ 4294967295) : hexS n = hexL n.toNat := if_pos ⟨h0, h1⟩
def inB (x lo hi : Int) : Bool := decide (lo ≤ x ∧ x ≤ hi)
theorem inB_yes (x lo hi : Int) (h1 : lo ≤ x) (h2 : x ≤ hi) : inB x lo hi = true := decide_eq_true ⟨h1, h2⟩
theorem inB_no (x lo hi : Int) (h : x < lo ∨ hi < x) : inB x lo hi = false := decide_eq_false (by omega)

def turnedL (l : List UInt8) (at_ to : Int) : List UInt8 := if (0 ≤ at_ ∧ at_ < l.length) ∧ (0 ≤ to ∧ to ≤ 255) then l.set at_.toNat (UInt8.ofNat to.toNat) else l
end Go.Proofs.Ytaioedcaopbgkaa

/-! Plain facts for chapter 4 (words): numbers that go round. -/
namespace Go.Proofs.Ytaioedcaopbgkaa
open Go.RowKit

def wrapW (n : Int) : Int := (n + 2147483648) % 4294967296 - 2147483648

/-- What is done of two words. -/
def doneV (kind a b : Int) : Int :=
 if (-2147483648 ≤ a ∧ a ≤ 2147483647) ∧ (-2147483648 ≤ b ∧ b ≤ 2147483647) then
  (if kind = 3 then wrapW (a + b) else if kind = 4 then wrapW (a - b) else if kind = 5 then wrapW (a * b) else if kind = 6 ∧ b ≠ 0 then wrapW (a.tdiv b) else 0)
 else 0

def doneB (kind a b : Int) : Bool :=
 decide (((-2147483648 ≤ a ∧ a ≤ 2147483647) ∧ (-2147483648 ≤ b ∧ b ≤ 2147483647)) ∧ (kind = 3 ∨ kind = 4 ∨ kind = 5 ∨ kind = 6 ∧ b ≠ 0))

end Go.Proofs.Ytaioedcaopbgkaa

/-! Plain facts for chapter 5 (texts): pieces between bytes, names, numbers. -/
namespace Go.Proofs.Ytaioedcaopbgkaa
open Go.RowKit

/-- The pieces between bytes b, where cur was read already. -/
def splitGo (b : UInt8) : List UInt8 → List UInt8 → List (List UInt8)
 | cur, [] => [cur]
 | cur, c :: r => if c = b then cur :: splitGo b [] r else splitGo b (cur ++ [c]) r

def splitL (b : UInt8) (l : List UInt8) : List (List UInt8) := splitGo b [] l

theorem splitGo_ne (b : UInt8) (l : List UInt8) : ∀ cur, splitGo b cur l ≠ [] := by
 induction l with
 | nil => intro cur; simp [splitGo]
 | cons c r ih => intro cur; rw [splitGo]; split <;> simp [ih]

theorem splitGo_flat (b : UInt8) (l : List UInt8) : ∀ cur, (splitGo b cur l).flatten.length ≤ cur.length + l.length := by
 induction l with
 | nil => intro cur; simp [splitGo]
 | cons c r ih =>
  intro cur
  rw [splitGo]
  split
  ·
   have := ih []; rw [List.flatten_cons, List.length_append]; simp at this ⊢; omega
  ·
   have := ih (cur ++ [c]); rw [List.length_append] at this; simp at this ⊢; omega

/-- Joined by that byte they are the text. -/
def joinBy (b : UInt8) : List (List UInt8) → List UInt8
 | [] => []
 | [x] => x
 | x :: y :: r => x ++ [b] ++ joinBy b (y :: r)

theorem joinBy_cons (b : UInt8) (x : List UInt8) (r : List (List UInt8)) (h : r ≠ []) : joinBy b (x :: r) = x ++ [b] ++ joinBy b r := by
 cases r with
 | nil => exact absurd rfl h
 | cons y q => rfl

theorem joinBy_split (b : UInt8) (l : List UInt8) : ∀ cur, joinBy b (splitGo b cur l) = cur ++ l := by
 induction l with
 | nil => intro cur; simp [splitGo, joinBy]
 | cons c r ih =>
  intro cur
  rw [splitGo]
  split
  ·
   rename_i h
   rw [joinBy_cons b cur _ (splitGo_ne b r []), ih, h]
   simp
  ·
   rw [ih]; simp

/-- Each with a byte 10 behind it. -/
def termJ (ls : List (List UInt8)) : List UInt8 := (ls.map (· ++ [10])).flatten

def linesL (l : List UInt8) : List (List UInt8) := if (splitL 10 l).getLastD [] = [] then (splitL 10 l).dropLast else splitL 10 l

def wordsL (l : List UInt8) : List (List UInt8) := if l = [] then [] else splitL 32 l

/-- One step over a text, from its left. -/
theorem split_hit (b : UInt8) (l : List UInt8) (out : List (List UInt8)) (cur : List UInt8) (i : Nat) (hi : i < l.length) (he : l[i] = b) (h : out ++ splitGo b cur (l.drop i) = splitL b l) : (out ++ [cur]) ++ splitGo b [] (l.drop (i + 1)) = splitL b l := by
 rw [List.drop_eq_getElem_cons hi, splitGo, if_pos he] at h
 rw [← h]; simp

theorem split_miss (b : UInt8) (l : List UInt8) (out : List (List UInt8)) (cur : List UInt8) (i : Nat) (hi : i < l.length) (he : ¬ l[i] = b) (h : out ++ splitGo b cur (l.drop i) = splitL b l) : out ++ splitGo b (cur ++ [l[i]]) (l.drop (i + 1)) = splitL b l := by
 rw [List.drop_eq_getElem_cons hi, splitGo, if_neg he] at h
 exact h

theorem split_end (b : UInt8) (l : List UInt8) (out : List (List UInt8)) (cur : List UInt8) (h : out ++ splitGo b cur (l.drop l.length) = splitL b l) : out ++ [cur] = splitL b l := by
 rw [List.drop_length, splitGo] at h
 exact h

/-- The text between two places. -/
theorem cut_snoc (l : List UInt8) (f i : Nat) (hf : f ≤ i) (hi : i < l.length) : (l.drop f).take (i + 1 - f) = (l.drop f).take (i - f) ++ [l[i]] := by
 have hlt : i - f < (l.drop f).length := by rw [List.length_drop]; omega
 rw [show i + 1 - f = i - f + 1 by omega, List.take_succ_eq_append_getElem hlt, List.getElem_drop]
 congr 2
 congr 1
 omega

/-- Names. -/
def nameB (l : List UInt8) : Bool := decide (1 ≤ l.length ∧ l.length ≤ 8) && l.all (fun c => decide (97 ≤ c.toNat ∧ c.toNat ≤ 122))

theorem name_bad (l : List UInt8) (k : Nat) (hk : k < l.length) (h : ¬ (97 ≤ l[k].toNat ∧ l[k].toNat ≤ 122)) : nameB l = false := by
 unfold nameB
 have : l.all (fun c => decide (97 ≤ c.toNat ∧ c.toNat ≤ 122)) = false := by
  rw [List.all_eq_false]
  exact ⟨l[k], List.getElem_mem hk, by simpa using h⟩
 rw [this, Bool.and_false]

theorem name_good (l : List UInt8) (h : ∀ k (hk : k < l.length), 97 ≤ l[k].toNat ∧ l[k].toNat ≤ 122) : nameB l = inB (l.length : Int) 1 8 := by
 have : l.all (fun c => decide (97 ≤ c.toNat ∧ c.toNat ≤ 122)) = true := by
  rw [List.all_eq_true]
  intro c hc
  obtain ⟨k, hk, rfl⟩ := List.getElem_of_mem hc
  exact decide_eq_true (h k hk)
 unfold nameB inB
 rw [this, Bool.and_true]
 exact decide_eq_decide.2 (by omega)

end Go.Proofs.Ytaioedcaopbgkaa

/-! Plain facts for chapter 5: a number, as it is written and as it is read. -/
namespace Go.Proofs.Ytaioedcaopbgkaa
open Go.RowKit

theorem snoc_ind {motive : List UInt8 → Prop} (nil : motive []) (snoc : ∀ l c, motive l → motive (l ++ [c])) (l : List UInt8) : motive l := by
 have h : ∀ r : List UInt8, motive r.reverse := by
  intro r
  induction r with
  | nil => exact nil
  | cons c r ih => rw [List.reverse_cons]; exact snoc _ _ ih
 have := h l.reverse
 rwa [List.reverse_reverse] at this

def digit (n : Nat) : UInt8 := UInt8.ofNat (48 + n % 10)

theorem digit_nat (n : Nat) : (digit n).toNat = 48 + n % 10 := by
 unfold digit
 rw [UInt8.toNat_ofNat']
 omega

/-- The decimal digits, without noughts ahead. -/
def digL (n : Nat) : List UInt8 := if n < 10 then [digit n] else digL (n / 10) ++ [digit n]
termination_by n
decreasing_by omega

theorem digL_ne (n : Nat) : digL n ≠ [] := by
 rw [digL]
 split <;> simp

theorem digL_small {n : Nat} (h : n < 10) : digL n = [digit n] := by rw [digL, if_pos h]
theorem digL_big {n : Nat} (h : 10 ≤ n) : digL n = digL (n / 10) ++ [digit n] := by rw [digL, if_neg (by omega)]

/-- What is still to be written ahead of s. -/
def digTo (n : Nat) (s : List UInt8) : List UInt8 := if n = 0 ∧ s ≠ [] then s else digL n ++ s

theorem digTo_start (n : Nat) : digTo n [] = digL n := by simp [digTo]
theorem digTo_end {s : List UInt8} (h : s ≠ []) : digTo 0 s = s := by simp [digTo, h]
theorem digTo_step (n : Nat) (s : List UInt8) (h : s = [] ∨ n ≠ 0) : digTo (n / 10) (digit n :: s) = digTo n s := by
 unfold digTo
 rw [if_neg (c := n = 0 ∧ s ≠ []) (by rcases h with h | h <;> simp [h])]
 by_cases hn : n < 10
 ·
  rw [if_pos ⟨by omega, by simp⟩, digL_small hn]; rfl
 ·
  rw [if_neg (by omega), digL_big (n := n) (by omega)]; simp

theorem digL_len : ∀ (k n : Nat), n < 10 ^ (k + 1) → (digL n).length ≤ k + 1
 | 0, n, h => by rw [digL_small (by simpa using h)]; simp
 | k + 1, n, h => by
  by_cases hn : n < 10
  ·
   rw [digL_small hn]; simp
  ·
   rw [digL_big (by omega)]
   have := digL_len k (n / 10) (by rw [Nat.pow_succ] at h; omega)
   simp; omega

theorem digTo_len (k N : Nat) (s : List UInt8) (h : digTo k s = digL N) (hN : (N : Int) ≤ 9223372036854775808) : s.length ≤ 19 := by
 have h1 : (digL N).length ≤ 19 := digL_len 18 N (by omega)
 rw [← h] at h1
 unfold digTo at h1
 split at h1
 ·
  exact h1
 ·
  rw [List.length_append] at h1; omega

def isDig (c : UInt8) : Prop := 48 ≤ c.toNat ∧ c.toNat ≤ 57
instance (c : UInt8) : Decidable (isDig c) := by unfold isDig; infer_instance

/-- What digits say. -/
def valL (l : List UInt8) : Nat := l.foldl (fun v c => v * 10 + (c.toNat - 48)) 0

theorem valL_snoc (l : List UInt8) (c : UInt8) : valL (l ++ [c]) = valL l * 10 + (c.toNat - 48) := by simp [valL, List.foldl_append]

theorem valL_bd (l : List UInt8) (h : ∀ c ∈ l, isDig c) : valL l < 10 ^ l.length := by
 induction l using snoc_ind with
 | nil => simp [valL]
 | snoc l c ih =>
  have h1 := ih (fun x hx => h x (List.mem_append_left _ hx))
  have h2 := h c (by simp)
  unfold isDig at h2
  rw [valL_snoc, List.length_append, List.length_singleton, Nat.pow_succ]
  omega

theorem digit_of (c : UInt8) (h : isDig c) (v : Nat) : digit (v * 10 + (c.toNat - 48)) = c := by
 apply UInt8.toNat_inj.1
 rw [digit_nat]
 unfold isDig at h
 omega

/-- Digits without a nought ahead are written again as they were. -/
theorem digL_valL (l : List UInt8) (hl : l ≠ []) (h : ∀ c ∈ l, isDig c) (h0 : l.head? = some 48 → l.length = 1) : digL (valL l) = l ∧ (1 < l.length → 1 ≤ valL l) := by
 induction l using snoc_ind with
 | nil => exact absurd rfl hl
 | snoc l c ih =>
  have hc := h c (by simp)
  have hcb := hc
  unfold isDig at hcb
  rw [valL_snoc]
  by_cases e : l = []
  ·
   subst e
   have : valL [] = 0 := rfl
   rw [this, Nat.zero_mul, Nat.zero_add, digL_small (by omega)]
   refine ⟨?_, by simp⟩
   have := digit_of c hc 0
   rw [Nat.zero_mul, Nat.zero_add] at this
   rw [this]; rfl
  ·
   have hd : ∀ x ∈ l, isDig x := fun x hx => h x (List.mem_append_left _ hx)
   have hh : l.head? ≠ some 48 := fun e2 => by
    have := h0 (by rw [List.head?_append, e2]; rfl)
    rw [List.length_append, List.length_singleton] at this
    have := List.length_pos_iff.2 e
    omega
   obtain ⟨i1, i2⟩ := ih e hd (fun e2 => absurd e2 hh)
   have hv : 1 ≤ valL l := by
    by_cases hl1 : 1 < l.length
    ·
     exact i2 hl1
    ·
     obtain ⟨x, rfl⟩ : ∃ x, l = [x] := List.length_eq_one_iff.1 (by have := List.length_pos_iff.2 e; omega)
     have hx := hd x (by simp)
     unfold isDig at hx
     have hx2 : x.toNat ≠ 48 := fun e3 => hh (by simp; exact UInt8.toNat_inj.1 e3)
     have : valL [x] = x.toNat - 48 := by simp [valL]
     omega
   refine ⟨?_, fun _ => by omega⟩
   rw [digL_big (by omega), digit_of c hc, show (valL l * 10 + (c.toNat - 48)) / 10 = valL l by omega, i1]

/-- Is it a minus ahead? -/
def negB (t : List UInt8) : Bool := t.head? == some 45
def bodyL (t : List UInt8) : List UInt8 := if negB t = true then t.tail else t

/-- The form of a number, and the number. -/
def formP (t : List UInt8) : Prop := (1 ≤ (bodyL t).length ∧ (bodyL t).length ≤ 10) ∧ (∀ c ∈ bodyL t, isDig c) ∧ ¬ ((bodyL t).head? = some 48 ∧ 1 < t.length)
open Classical in
noncomputable def readB (t : List UInt8) : Bool := decide (formP t)
noncomputable def readV (t : List UInt8) : Int := if readB t = true then (if negB t = true then -(valL (bodyL t) : Int) else (valL (bodyL t) : Int)) else 0
theorem readB_yes {t : List UInt8} (h : formP t) : readB t = true := by simp [readB, h]
theorem readB_no {t : List UInt8} (h : ¬ formP t) : readB t = false := by simp [readB, h]
theorem readB_iff {t : List UInt8} : readB t = true ↔ formP t := by unfold readB; simp

def intL (n : Int) : List UInt8 := if n < 0 then 45 :: digL n.natAbs else digL n.natAbs

theorem readV_bd (t : List UInt8) : -10000000000 < readV t ∧ readV t < 10000000000 := by
 unfold readV
 by_cases h : readB t = true
 ·
  rw [if_pos h]
  obtain ⟨⟨_, h2⟩, h3, _⟩ := readB_iff.1 h
  have hv := valL_bd _ h3
  have : (10 : Nat) ^ (bodyL t).length ≤ 10 ^ 10 := Nat.pow_le_pow_right (by omega) h2
  split <;> omega
 ·
  rw [if_neg h]; omega

/-- A number that is read is written again as it was. -/
theorem read_int (t : List UInt8) (h : readB t = true) : (0 ≤ readV t → digL (readV t).natAbs = t) ∧ (readV t < 0 → (45 : UInt8) :: digL (readV t).natAbs = t) := by
 have hf := readB_iff.1 h
 obtain ⟨⟨h1, h2⟩, h3, h4⟩ := hf
 have hne : bodyL t ≠ [] := fun e => by rw [e] at h1; simp at h1
 unfold readV
 rw [if_pos h]
 by_cases hn : negB t = true
 ·
  rw [if_pos hn]
  have hb : bodyL t = t.tail := by unfold bodyL; rw [if_pos hn]
  have ht : t = 45 :: t.tail := by
   unfold negB at hn
   cases t with
   | nil => simp at hn
   | cons x r => simp at hn; rw [hn]; rfl
  have hlen : 1 < t.length := by rw [ht, ← hb]; simp; omega
  have hd := digL_valL (bodyL t) hne h3 (fun e => absurd ⟨e, hlen⟩ h4)
  have hpos : 1 ≤ valL (bodyL t) := by
   by_cases hl1 : 1 < (bodyL t).length
   ·
    exact hd.2 hl1
   ·
    obtain ⟨x, hx⟩ : ∃ x, bodyL t = [x] := List.length_eq_one_iff.1 (by omega)
    rw [hx]
    have hxd := h3 x (by rw [hx]; simp)
    unfold isDig at hxd
    have hx2 : x.toNat ≠ 48 := fun e => h4 ⟨by rw [hx]; simp; exact UInt8.toNat_inj.1 e, hlen⟩
    have : valL [x] = x.toNat - 48 := by simp [valL]
    omega
  refine ⟨fun h0 => by omega, fun _ => ?_⟩
  rw [show (-(valL (bodyL t) : Int)).natAbs = valL (bodyL t) by omega, hd.1, hb, ← ht]
 ·
  rw [if_neg hn]
  have hb : bodyL t = t := by unfold bodyL; rw [if_neg hn]
  have hd := digL_valL (bodyL t) hne h3 (fun e => by rw [hb] at e h1 ⊢; rw [hb] at h4; have : ¬ 1 < t.length := fun x => h4 ⟨e, x⟩; omega)
  refine ⟨fun _ => ?_, fun h0 => by omega⟩
  rw [show ((valL (bodyL t) : Int)).natAbs = valL (bodyL t) by omega, hd.1, hb]

noncomputable def numB (t : List UInt8) : Bool := readB t && inB (readV t) (-2147483648) 2147483647
noncomputable def numV (t : List UInt8) : Int := if numB t = true then readV t else 0

end Go.Proofs.Ytaioedcaopbgkaa

/-! Plain facts for chapter 5: lines and words joined, one by one. -/
namespace Go.Proofs.Ytaioedcaopbgkaa
open Go.RowKit

end Go.Proofs.Ytaioedcaopbgkaa

/-! Plain facts for chapter 6 (trees): nodes, where a tree ends, how it is shown and read. -/
namespace Go.Proofs.Ytaioedcaopbgkaa
open Go.RowKit

/-- A node: its kind, its number, its package, its function. -/
abbrev Nd := Int × Int × List UInt8 × List UInt8

def nodeP (n : Nd) : Prop :=
 (n.1 = 1 ∧ (-2147483648 ≤ n.2.1 ∧ n.2.1 ≤ 2147483647) ∧ n.2.2.1 = [] ∧ n.2.2.2 = []) ∨
 (n.1 = 2 ∧ (0 ≤ n.2.1 ∧ n.2.1 ≤ 2) ∧ n.2.2.1 = [] ∧ n.2.2.2 = []) ∨
 ((3 ≤ n.1 ∧ n.1 ≤ 7) ∧ n.2.1 = 0 ∧ n.2.2.1 = [] ∧ n.2.2.2 = []) ∨
 (n.1 = 8 ∧ (0 ≤ n.2.1 ∧ n.2.1 ≤ 3) ∧ nameB n.2.2.1 = true ∧ nameB n.2.2.2 = true)
instance (n : Nd) : Decidable (nodeP n) := by unfold nodeP; infer_instance
def nodeB (n : Nd) : Bool := decide (nodeP n)
theorem nodeB_iff {n : Nd} : nodeB n = true ↔ nodeP n := by unfold nodeB; simp
theorem nodeB_no {n : Nd} (h : ¬ nodeP n) : nodeB n = false := decide_eq_false h
/-- How many parts follow. -/
def kidsN (n : Nd) : Nat := if 3 ≤ n.1 ∧ n.1 ≤ 6 then 2 else if n.1 = 7 then 3 else if n.1 = 8 then n.2.1.toNat else 0
def kidsV (n : Nd) : Int := if 3 ≤ n.1 ∧ n.1 ≤ 6 then 2 else if n.1 = 7 then 3 else if n.1 = 8 then n.2.1 else 0
def kidsOfV (n : Nd) : Int := if nodeB n = true then kidsV n else -1

theorem kidsV_ok {n : Nd} (h : nodeB n = true) : kidsV n = (kidsN n : Int) ∧ kidsN n ≤ 3 := by
 have hp := nodeB_iff.1 h
 unfold nodeP at hp
 unfold kidsV kidsN
 rcases hp with ⟨h1, _⟩ | ⟨h1, _⟩ | ⟨h1, _⟩ | ⟨h1, h2, _⟩
 ·
  rw [if_neg (by omega), if_neg (by omega), if_neg (by omega), if_neg (by omega), if_neg (by omega), if_neg (by omega)]; omega
 ·
  rw [if_neg (by omega), if_neg (by omega), if_neg (by omega), if_neg (by omega), if_neg (by omega), if_neg (by omega)]; omega
 ·
  by_cases e : n.1 = 7
  ·
   rw [if_neg (by omega), if_pos e, if_neg (by omega), if_pos e]; omega
  ·
   rw [if_pos (by omega), if_pos (by omega)]; omega
 ·
  rw [if_neg (by omega), if_neg (by omega), if_pos h1, if_neg (by omega), if_neg (by omega), if_pos h1]; omega

/-- How many nodes are gone through till o are closed. -/
def endGo : List Nd → Nat → Option Nat
 | _, 0 => some 0
 | [], _ + 1 => none
 | n :: r, o + 1 => if nodeB n = true then (endGo r (o + kidsN n)).map (· + 1) else none

theorem endGo_zero (l : List Nd) : endGo l 0 = some 0 := by cases l <;> rfl
theorem endGo_nil (o : Nat) : endGo [] (o + 1) = none := rfl
theorem endGo_cons (n : Nd) (r : List Nd) (o : Nat) : endGo (n :: r) (o + 1) = if nodeB n = true then (endGo r (o + kidsN n)).map (· + 1) else none := rfl

/-- Where the tree at a place ends; -1 where there is none. -/
def endN (l : List Nd) (k : Nat) : Int := if k < l.length then (match endGo (l.drop k) 1 with | some d => (k : Int) + d | none => -1) else -1
def endV (l : List Nd) (a : Int) : Int := if a < 0 then -1 else endN l a.toNat

theorem endV_nat (l : List Nd) (k : Nat) : endV l (k : Int) = endN l k := by unfold endV; rw [if_neg (by omega), Int.toNat_natCast]
theorem endV_out (l : List Nd) (a : Int) (h : a < 0 ∨ (l.length : Int) ≤ a) : endV l a = -1 := by
 unfold endV
 by_cases h0 : a < 0
 ·
  rw [if_pos h0]
 ·
  rw [if_neg h0]; unfold endN; rw [if_neg (by omega)]

def treeB (l : List Nd) : Bool := decide ((1 ≤ l.length ∧ l.length ≤ 60) ∧ endV l 0 = (l.length : Int))

/-- The loop: k nodes on, o still open. -/
theorem end_round {l : List Nd} {k o : Nat} (hk : k < l.length) (hn : nodeB l[k] = true) : endGo (l.drop k) (o + 1) = (endGo (l.drop (k + 1)) (o + kidsN l[k])).map (· + 1) := by
 rw [List.drop_eq_getElem_cons hk, endGo_cons, if_pos hn]
theorem end_bad {l : List Nd} {k o : Nat} (hk : k < l.length) (hn : nodeB l[k] = false) : endGo (l.drop k) (o + 1) = none := by
 rw [List.drop_eq_getElem_cons hk, endGo_cons, if_neg (by rw [hn]; simp)]
theorem end_over {l : List Nd} {k o : Nat} (hk : l.length ≤ k) : endGo (l.drop k) (o + 1) = none := by
 rw [List.drop_eq_nil_of_le hk, endGo_nil]

/-- A word for a node. -/
def showN (n : Nd) : List UInt8 :=
 if n.1 = 1 then intL n.2.1
 else if n.1 = 2 then 36 :: intL n.2.1
 else if n.1 = 3 then [43]
 else if n.1 = 4 then [45]
 else if n.1 = 5 then [42]
 else if n.1 = 6 then [47]
 else if n.1 = 7 then [63]
 else (64 :: n.2.2.1) ++ [46] ++ n.2.2.2 ++ [47] ++ intL n.2.1

def showL (l : List Nd) : List UInt8 := joinBy 32 (l.map showN)
def showT (l : List Nd) : List UInt8 := if treeB l = true then showL l else []

end Go.Proofs.Ytaioedcaopbgkaa

/-! Plain facts for chapter 6: what is shown is read. -/
namespace Go.Proofs.Ytaioedcaopbgkaa
open Go.RowKit

theorem digit_dig (n : Nat) : isDig (digit n) := by unfold isDig; rw [digit_nat]; omega

theorem digL_dig : ∀ (k n : Nat), n < 10 ^ (k + 1) → ∀ c ∈ digL n, isDig c
 | 0, n, h, c, hc => by
  rw [digL_small (by simpa using h)] at hc
  simp at hc; subst hc; exact digit_dig n
 | k + 1, n, h, c, hc => by
  by_cases hn : n < 10
  ·
   rw [digL_small hn] at hc; simp at hc; subst hc; exact digit_dig n
  ·
   rw [digL_big (by omega)] at hc
   rcases List.mem_append.1 hc with hc | hc
   ·
    exact digL_dig k (n / 10) (by rw [Nat.pow_succ] at h; omega) c hc
   ·
    simp at hc; subst hc; exact digit_dig n

theorem valL_digL : ∀ (k n : Nat), n < 10 ^ (k + 1) → valL (digL n) = n
 | 0, n, h => by
  have h10 : n < 10 := by simpa using h
  rw [digL_small h10]
  have : valL [digit n] = (digit n).toNat - 48 := by simp [valL]
  rw [this, digit_nat]; omega
 | k + 1, n, h => by
  by_cases hn : n < 10
  ·
   rw [digL_small hn]
   have : valL [digit n] = (digit n).toNat - 48 := by simp [valL]
   rw [this, digit_nat]; omega
  ·
   rw [digL_big (by omega), valL_snoc, valL_digL k (n / 10) (by rw [Nat.pow_succ] at h; omega), digit_nat]; omega

theorem digL_head : ∀ (k n : Nat), n < 10 ^ (k + 1) → (digL n).head? = some 48 → n = 0
 | 0, n, h, hh => by
  have h10 : n < 10 := by simpa using h
  rw [digL_small h10] at hh
  simp at hh
  have := congrArg UInt8.toNat hh
  rw [digit_nat] at this
  have h48 : (48 : UInt8).toNat = 48 := rfl
  omega
 | k + 1, n, h, hh => by
  by_cases hn : n < 10
  ·
   rw [digL_small hn] at hh
   simp at hh
   have := congrArg UInt8.toNat hh
   rw [digit_nat] at this
   have h48 : (48 : UInt8).toNat = 48 := rfl
   omega
  ·
   rw [digL_big (by omega)] at hh
   have hne := digL_ne (n / 10)
   rw [List.head?_append] at hh
   cases hd : (digL (n / 10)).head? with
   | none => rw [List.head?_eq_none_iff] at hd; exact absurd hd hne
   | some x =>
    rw [hd] at hh
    have := digL_head k (n / 10) (by rw [Nat.pow_succ] at h; omega) (by rw [hd]; exact hh)
    omega

/-- A word that is written is read. -/
theorem read_of_int (a : Int) (h0 : -2147483648 ≤ a) (h1 : a ≤ 2147483647) : readB (intL a) = true ∧ readV (intL a) = a := by
 have hlt : a.natAbs < 10 ^ (9 + 1) := by omega
 have hdig := digL_dig 9 a.natAbs hlt
 have hval := valL_digL 9 a.natAbs hlt
 have hlen := digL_len 9 a.natAbs hlt
 have hne := digL_ne a.natAbs
 have hpos := List.length_pos_iff.2 hne
 have hhead := digL_head 9 a.natAbs hlt
 by_cases hn : a < 0
 ·
  have e : intL a = 45 :: digL a.natAbs := by unfold intL; rw [if_pos hn]
  rw [e]
  have hneg : negB (45 :: digL a.natAbs) = true := rfl
  have hbody : bodyL (45 :: digL a.natAbs) = digL a.natAbs := by unfold bodyL; rw [if_pos hneg]; rfl
  have hf : formP (45 :: digL a.natAbs) := ⟨by rw [hbody]; omega, by rw [hbody]; exact hdig, by rw [hbody]; intro hx; have := hhead hx.1; omega⟩
  have hb := readB_yes hf
  refine ⟨hb, ?_⟩
  unfold readV
  rw [if_pos hb, if_pos hneg, hbody, hval]
  omega
 ·
  have e : intL a = digL a.natAbs := by unfold intL; rw [if_neg hn]
  rw [e]
  have hneg : negB (digL a.natAbs) = false := by
   unfold negB
   rw [beq_eq_false_iff_ne]
   intro hx
   have hm : (45 : UInt8) ∈ digL a.natAbs := List.mem_of_mem_head? (by rw [hx]; rfl)
   have := hdig 45 hm
   unfold isDig at this
   have h45 : (45 : UInt8).toNat = 45 := rfl
   omega
  have hbody : bodyL (digL a.natAbs) = digL a.natAbs := by unfold bodyL; rw [if_neg (by rw [hneg]; simp)]
  have hf : formP (digL a.natAbs) := ⟨by rw [hbody]; omega, by rw [hbody]; exact hdig, by
   rw [hbody]; intro hx
   have h00 := hhead hx.1
   rw [h00, digL_small (by omega)] at hx
   simp at hx⟩
  have hb := readB_yes hf
  refine ⟨hb, ?_⟩
  unfold readV
  rw [if_pos hb, if_neg (by rw [hneg]; simp), hbody, hval]
  omega

/-- Pieces of what holds no such byte. -/
theorem split_none (b : UInt8) (l : List UInt8) : ∀ cur, (∀ c ∈ l, c ≠ b) → splitGo b cur l = [cur ++ l] := by
 induction l with
 | nil => intro cur _; simp [splitGo]
 | cons c r ih =>
  intro cur h
  rw [splitGo, if_neg (h c (by simp)), ih _ (fun x hx => h x (by simp [hx]))]
  simp

theorem split_one (b : UInt8) (x y : List UInt8) : ∀ cur, (∀ c ∈ x, c ≠ b) → splitGo b cur (x ++ b :: y) = (cur ++ x) :: splitGo b [] y := by
 induction x with
 | nil => intro cur _; simp [splitGo]
 | cons c r ih =>
  intro cur h
  rw [List.cons_append, splitGo, if_neg (h c (by simp)), ih _ (fun z hz => h z (by simp [hz]))]
  simp

theorem split_join (b : UInt8) (ws : List (List UInt8)) (hne : ws ≠ []) (h : ∀ x ∈ ws, ∀ c ∈ x, c ≠ b) : splitL b (joinBy b ws) = ws := by
 unfold splitL
 induction ws with
 | nil => exact absurd rfl hne
 | cons x r ih =>
  by_cases hr : r = []
  ·
   subst hr
   rw [show joinBy b [x] = x from rfl, split_none b x [] (h x (by simp))]
   simp
  ·
   rw [joinBy_cons b x r hr, List.append_assoc, List.singleton_append, split_one b x _ [] (h x (by simp)), ih hr (fun y hy => h y (by simp [hy]))]
   simp

/-- The node of a word. -/
noncomputable def readN (s : List UInt8) : Nd :=
 if s = [] then (0, 0, [], [])
 else if s.head? = some 36 then (2, readV s.tail, [], [])
 else if s.head? = some 43 then (3, 0, [], [])
 else if s.head? = some 42 then (5, 0, [], [])
 else if s.head? = some 47 then (6, 0, [], [])
 else if s.head? = some 63 then (7, 0, [], [])
 else if s.head? = some 64 then
  (if (splitL 47 s.tail).length = 2 ∧ (splitL 46 ((splitL 47 s.tail).getD 0 [])).length = 2
   then (8, readV ((splitL 47 s.tail).getD 1 []), (splitL 46 ((splitL 47 s.tail).getD 0 [])).getD 0 [], (splitL 46 ((splitL 47 s.tail).getD 0 [])).getD 1 []) else (0, 0, [], []))
 else if s = [45] then (4, 0, [], [])
 else (1, readV s, [], [])

theorem name_letters {l : List UInt8} (h : nameB l = true) : (1 ≤ l.length ∧ l.length ≤ 8) ∧ ∀ c ∈ l, 97 ≤ c.toNat ∧ c.toNat ≤ 122 := by
 unfold nameB at h
 rw [Bool.and_eq_true, List.all_eq_true] at h
 exact ⟨of_decide_eq_true h.1, fun c hc => of_decide_eq_true (h.2 c hc)⟩

theorem tree_end {l : List Nd} (h : treeB l = true) : (1 ≤ l.length ∧ l.length ≤ 60) ∧ endGo l 1 = some l.length := by
 obtain ⟨h1, h2⟩ := of_decide_eq_true h
 refine ⟨h1, ?_⟩
 have e := endV_nat l 0
 rw [Int.natCast_zero] at e
 rw [e] at h2
 unfold endN at h2
 rw [if_pos (by omega), List.drop_zero] at h2
 cases hg : endGo l 1 with
 | none => rw [hg] at h2; simp at h2
 | some d => rw [hg] at h2; simp at h2; congr 1; omega

noncomputable def readT (s : List UInt8) : List Nd := (splitL 32 s).map readN
noncomputable def readOk (s : List UInt8) : Bool := decide (s.length ≤ 2000) && (treeB (readT s) && (showL (readT s) == s))
noncomputable def readTV (s : List UInt8) : List Nd := if readOk s = true then readT s else []

end Go.Proofs.Ytaioedcaopbgkaa

/-! Plain facts for chapter 6: parts are one behind the other. -/
namespace Go.Proofs.Ytaioedcaopbgkaa
open Go.RowKit

/-- Where the parts begin. -/
def partsGo (l : List Nd) : Nat → Int → List Int
 | 0, _ => []
 | k + 1, next => next :: partsGo l k (endV l next)
def partsV (l : List Nd) (a : Int) : List Int := if endV l a < 0 then [] else partsGo l (kidsN (l.getD a.toNat (0, 0, [], []))) (a + 1)

/-- k trees one behind the other, from a place on. -/
def chain (l : List Nd) : Nat → Int → Int
 | 0, next => next
 | k + 1, next => chain l k (endV l next)

end Go.Proofs.Ytaioedcaopbgkaa

/-! Plain facts on lists of bytes for Turned. -/
namespace Go.Proofs.Ytaioedcaopbgkaa

theorem ba_ext {a b : ByteArray} (h : a.data.toList = b.data.toList) : a = b := by
 cases a; cases b; simp_all

end Go.Proofs.Ytaioedcaopbgkaa

/-! Facts that every chapter leans on: rows that a call owns, lists of texts, the walk's own spellings. -/
namespace Go.Proofs.Ytaioedcaopbgkaa
open Go.RowKit

def strV (ls : List (List UInt8)) : List Value := ls.map (fun l => Value.string ⟨l.toArray⟩)

theorem strV_snoc (o : List (List UInt8)) (t : List UInt8) : strV o ++ [.string ⟨t.toArray⟩] = strV (o ++ [t]) := by simp [strV]

theorem strV_len (o : List (List UInt8)) : (strV o).length = o.length := by simp [strV]

theorem strV_at (ls : List (List UInt8)) (j : Nat) (h : j < ls.length) : (strV ls)[j]? = some (.string ⟨ls[j].toArray⟩) := by
 simp [strV, List.getElem?_eq_getElem h]

theorem strV_take (ls : List (List UInt8)) (m : Nat) : (strV ls).take m = strV (ls.take m) := by simp [strV, List.map_take]

theorem info9 : (Try.prog.info? 9).map (fun i => (i.zero, i.size, i.bytes)) = some (some (.string ⟨#[]⟩), 1, 16) := by kernel_rfl

theorem own_str {w1 : World} {B : Nat} {v' : Value} {o : List (List UInt8)} {t : List UInt8} (hown' : w1.ownsRow B 9 1 v' (o.length + 1) (strV o ++ [.string ⟨t.toArray⟩])) :
 w1.ownsRow B 9 1 v' (o ++ [t]).length (strV (o ++ [t])) := by
 rw [← strV_snoc, List.length_append, List.length_singleton]
 exact hown'

theorem own_shape {w : World} {base e size n : Nat} {v : Value} {xs : List Value} (h : w.ownsRow base e size v n xs) (hv : v ≠ .slice none 0 0) : ∃ g cp, v = .slice (some ⟨g, 0, none⟩) n cp := by
 obtain ⟨_, ⟨e, _⟩ | ⟨g, cap, cur, rfl, _⟩⟩ := h
 ·
  exact absurd e hv
 ·
  exact ⟨g, cap, rfl⟩

theorem own_none {w w' : World} {base e size n : Nat} {v : Value} {xs : List Value} (h : w.ownsRow base e size v n xs) (hg : w.grownBy w' none) : w'.ownsRow base e size v n xs := by
 refine h.kept hg ?_
 rcases hv : v.ownBlock with _ | g
 ·
  exact Or.inl rfl
 ·
  exact Or.inr (by simp)

theorem own_below {w w' : World} {base e size n : Nat} {v : Value} {xs : List Value} (h : w.ownsRow base e size v n xs) (hb : Below w.heap.size w w') : w'.ownsRow base e size v n xs :=
 own_none h ⟨hb.os, hb.tape, hb.output, hb.size, fun k hk _ => hb.block k hk⟩

theorem own_forms {w : World} {base e size n : Nat} {v : Value} {xs : List Value} (h : w.ownsRow base e size v n xs) : (v = .slice none 0 0 ∧ n = 0 ∧ xs = []) ∨ ∃ g cp, v = .slice (some ⟨g, 0, none⟩) n cp := by
 have h0 := h.1
 obtain ⟨_, ⟨e, hn⟩ | ⟨g, cap, cur, rfl, _⟩⟩ := h
 ·
  refine Or.inl ⟨e, hn, List.eq_nil_of_length_eq_zero ?_⟩
  rw [h0, hn, Nat.zero_mul]
 ·
  exact Or.inr ⟨g, cap, rfl⟩

theorem own_cap {w : World} {base e g n cp : Nat} {xs : List Value} (h : w.ownsRow base e 1 (.slice (some ⟨g, 0, none⟩) n cp) n xs) : n ≤ cp ∧ cp ≤ maxLen := by
 rcases h.2 with ⟨h', _⟩ | ⟨g', cap', cur, h', hb, hg, hnc, hcm, hcs, htake⟩
 ·
  simp at h'
 ·
  simp only [Value.slice.injEq, Option.some.injEq, Addr.mk.injEq, and_true, true_and] at h'
  obtain ⟨rfl, rfl⟩ := h'
  exact ⟨hnc, hcm⟩

theorem own_some {w : World} {base e size n : Nat} {v : Value} {xs : List Value} (h : w.ownsRow base e size v n xs) (hn : n ≠ 0) : ∃ g cp, v = .slice (some ⟨g, 0, none⟩) n cp := by
 rcases own_forms h with ⟨_, h0, _⟩ | h1
 ·
  exact absurd h0 hn
 ·
  exact h1

theorem str_cellsD {w : World} {base g cp n : Nat} {ls : List (List UInt8)} (h : w.ownsRow base 9 1 (.slice (some ⟨g, 0, none⟩) n cp) n (strV ls)) (hn : ls.length = n) (j : Nat) (hj : j < n) :
 w.cell? ⟨g, j, none⟩ = some (.string ⟨(ls.getD j []).toArray⟩) := by
 rw [h.cellAt j (by omega), strV_at ls j (by omega), List.getD_eq_getElem?_getD, List.getElem?_eq_getElem (by omega)]; rfl

theorem cat_list (a b : List UInt8) : (⟨a.toArray⟩ ++ ⟨b.toArray⟩ : ByteArray) = ⟨(a ++ b).toArray⟩ := ba_ext (by simp)

theorem ext_list (l : List UInt8) (i j : Nat) : (⟨l.toArray⟩ : ByteArray).extract i j = ⟨((l.drop i).take (j - i)).toArray⟩ := by
 apply ba_ext
 rw [ByteArray.data_extract, Array.toList_extract, List.extract_eq_take_drop]

theorem ret_sib {a b : List UInt8} {m n : Int} {c d : Bool} (h : a = b) (k : m = n) (j : c = d) : Ending.returned (.tuple #[.string ⟨a.toArray⟩, .int .i64 m, .bool c]) = .returned (.tuple #[.string ⟨b.toArray⟩, .int .i64 n, .bool d]) := by rw [h, k, j]

theorem Below.by {w w' : World} (h : Below w.heap.size w w') : w.grownBy w' none := ⟨h.os, h.tape, h.output, h.size, fun k hk _ => h.block k hk⟩

theorem own_base {w : World} {base b2 e size n : Nat} {v : Value} {xs : List Value} (h : w.ownsRow base e size v n xs) (hb : b2 ≤ base) : w.ownsRow b2 e size v n xs := by
 refine ⟨h.1, ?_⟩
 rcases h.2 with h' | ⟨g, cap, cur, hv, hg, r⟩
 ·
  exact Or.inl h'
 ·
  exact Or.inr ⟨g, cap, cur, hv, Nat.le_trans hb hg, r⟩

theorem grown_set (w : World) (B o : Nat) (v : Value) : w.grownBy (w.setCell ⟨B, o, none⟩ v) (some B) :=
 ⟨rfl, rfl, rfl, by simp, fun k _ hne => Below.heap_setCell w _ v k (fun e => hne (by rw [e]))⟩

/-- The values news lie at x, in m elements: what 'append' reads, whosever it is. -/
def Src (w : World) (x : Value) (m size : Nat) (news : List Value) : Prop :=
 news.length = m * size ∧ (∀ u ∈ news, u.oneCell' = true) ∧ ((x = .slice none 0 0 ∧ m = 0) ∨ ∃ ad c, x = .slice (some ad) m c ∧ ∀ j u, news[j]? = some u → w.cell? (ad.add j) = some u)

theorem run_append_src {P : Program} (w : World) (base : Nat) (t ty e : TypeId) (i : TypeInfo) (z : Value) (size bytes : Nat) (ht : P.underlying t = some (.slice e)) (hi : P.info? e = some i) (hz : i.zero = some z)
 (hsize : i.size = size) (hby : i.bytes = bytes) (hzs : z.cells.size = size) (hsz : 0 < size)
 (v : Value) (n : Nat) (xs : List Value) (hown : w.ownsRow base e size v n xs) (x : Value) (m : Nat) (news : List Value) (hsrc : Src w x m size news)
 (h63 : n + m ≤ maxLen) (hbytes : (n + m) * bytes ≤ 140737488355328) (hbase : base ≤ w.heap.size) :
 ∃ v' w', (Builtin.append_ #[t, t] ty #[v, x]).run P w = .ok v' w' ∧ w'.ownsRow base e size v' (n + m) (xs ++ news) ∧ w.grownBy w' v.ownBlock ∧ (v' = .slice none 0 0 → v = .slice none 0 0) := by
 obtain ⟨hl, h1, ⟨rfl, rfl⟩ | ⟨ad, c, rfl, hc⟩⟩ := hsrc
 ·
  have hn : news = [] := List.eq_nil_of_length_eq_zero (by omega)
  subst hn
  exact ⟨v, w, run_append_owned_none (P := P) (w := w) base t ty e i size ht hi v n xs hown, by simpa using hown, World.grownBy.refl w _, fun h => h⟩
 ·
  obtain ⟨v', w', hr, h2, h3, h4⟩ := run_append_own (P := P) w base t ty e i z size bytes ht hi hz hsize hby hzs hsz v n xs hown ad m c news hl hc h1 h63 hbytes hbase
  exact ⟨v', w', hr, h2, h3, fun h => (h4.1 h).1⟩

/-- 'append' at a step of a region that draws. -/
theorem step_append_run {P : Program} {w w' : World} {ops : Array Oper} {o : Oper} {a : Act} {K : Act → World → Prop} {Q : Exit → Act → World → Prop} {E : Prop} (hgd : o.guard = none) (s x : Operand) (t : TypeId)
 (ho : o.op = .call { callee := .builtin .append, args := #[s, x], argTypes := #[t, t] }) (v u v' : Value) (hs : a.eval s = v) (hx : a.eval x = u)
 (hrun : (Builtin.append_ #[t, t] o.type #[v, u]).run P w = .ok v' w') (h : K (a.put o.dst v') w') :
 if Region.wanted o (yielded ops a.tmps) = true then Oper.wp P o a w K Q else E := by
 have hw : Region.wanted o (yielded ops a.tmps) = true := by simp [Region.wanted, hgd]
 rw [if_pos hw]
 unfold Oper.wp
 simp [execOp, ho, resolve, invoke, builtin, hs, hx, hrun, Result.andThen]
 exact h

/-- 'append' in a plain region. -/
theorem wpList_append_run {P : Program} {w w' : World} {ops : Array Oper} {rest : List Oper} {o : Oper} {a : Act} {Q : Exit → Act → World → Prop} (hgd : o.guard = none) (s x : Operand) (t : TypeId)
 (ho : o.op = .call { callee := .builtin .append, args := #[s, x], argTypes := #[t, t] }) (v u v' : Value) (hs : a.eval s = v) (hx : a.eval x = u)
 (hrun : (Builtin.append_ #[t, t] o.type #[v, u]).run P w = .ok v' w') (h : wpList P ops Q rest (a.put o.dst v') w') : wpList P ops Q (o :: rest) a w := by
 refine wpList_plain hgd fun K hK => ?_
 unfold Oper.wp
 simp [execOp, ho, resolve, invoke, builtin, hs, hx, hrun, Result.andThen]
 exact hK _ _ h

end Go.Proofs.Ytaioedcaopbgkaa
