/-
  Parts of one proof, one behind the other: Math5N, Math5J, Math6, Math6R, Math6P, MathT.
-/
import Derived.Test.YtnpbckgaeaameaaP1

/-! Plain facts for chapter 5: a number, as it is written and as it is read. -/
namespace Go.Proofs.Ytnpbckgaeaameaa
open Go.RowKit

theorem snoc_ind {motive : List UInt8 → Prop} (nil : motive []) (snoc : ∀ l c, motive l → motive (l ++ [c])) (l : List UInt8) : motive l := by
  have h : ∀ r : List UInt8, motive r.reverse := by
    intro r
    induction r with
    | nil => exact nil
    | cons c r ih => rw [List.reverse_cons]; exact snoc _ _ ih
  have := h l.reverse
  rwa [List.reverse_reverse] at this

def digit (n : Nat) : UInt8 := UInt8.ofNat (48 + n % 10)

theorem digit_nat (n : Nat) : (digit n).toNat = 48 + n % 10 := by
  unfold digit
  rw [UInt8.toNat_ofNat']
  omega

/-- The decimal digits, without noughts ahead. -/
def digL (n : Nat) : List UInt8 := if n < 10 then [digit n] else digL (n / 10) ++ [digit n]
termination_by n
decreasing_by omega

theorem digL_ne (n : Nat) : digL n ≠ [] := by
  rw [digL]
  split <;> simp

theorem digL_small {n : Nat} (h : n < 10) : digL n = [digit n] := by rw [digL, if_pos h]
theorem digL_big {n : Nat} (h : 10 ≤ n) : digL n = digL (n / 10) ++ [digit n] := by rw [digL, if_neg (by omega)]

/-- What is still to be written ahead of s. -/
def digTo (n : Nat) (s : List UInt8) : List UInt8 := if n = 0 ∧ s ≠ [] then s else digL n ++ s

theorem digTo_start (n : Nat) : digTo n [] = digL n := by simp [digTo]
theorem digTo_end {s : List UInt8} (h : s ≠ []) : digTo 0 s = s := by simp [digTo, h]
theorem digTo_step (n : Nat) (s : List UInt8) (h : s = [] ∨ n ≠ 0) : digTo (n / 10) (digit n :: s) = digTo n s := by
  unfold digTo
  rw [if_neg (c := n = 0 ∧ s ≠ []) (by rcases h with h | h <;> simp [h])]
  by_cases hn : n < 10
  · rw [if_pos ⟨by omega, by simp⟩, digL_small hn]; rfl
  · rw [if_neg (by omega), digL_big (n := n) (by omega)]; simp

theorem digL_len : ∀ (k n : Nat), n < 10 ^ (k + 1) → (digL n).length ≤ k + 1
  | 0, n, h => by rw [digL_small (by simpa using h)]; simp
  | k + 1, n, h => by
    by_cases hn : n < 10
    · rw [digL_small hn]; simp
    · rw [digL_big (by omega)]
      have := digL_len k (n / 10) (by rw [Nat.pow_succ] at h; omega)
      simp; omega

theorem digTo_len (k N : Nat) (s : List UInt8) (h : digTo k s = digL N) (hN : (N : Int) ≤ 9223372036854775808) : s.length ≤ 19 := by
  have h1 : (digL N).length ≤ 19 := digL_len 18 N (by omega)
  rw [← h] at h1
  unfold digTo at h1
  split at h1
  · exact h1
  · rw [List.length_append] at h1; omega

def isDig (c : UInt8) : Prop := 48 ≤ c.toNat ∧ c.toNat ≤ 57
instance (c : UInt8) : Decidable (isDig c) := by unfold isDig; infer_instance

/-- What digits say. -/
def valL (l : List UInt8) : Nat := l.foldl (fun v c => v * 10 + (c.toNat - 48)) 0

theorem valL_snoc (l : List UInt8) (c : UInt8) : valL (l ++ [c]) = valL l * 10 + (c.toNat - 48) := by simp [valL, List.foldl_append]

theorem valL_bd (l : List UInt8) (h : ∀ c ∈ l, isDig c) : valL l < 10 ^ l.length := by
  induction l using snoc_ind with
  | nil => simp [valL]
  | snoc l c ih =>
    have h1 := ih (fun x hx => h x (List.mem_append_left _ hx))
    have h2 := h c (by simp)
    unfold isDig at h2
    rw [valL_snoc, List.length_append, List.length_singleton, Nat.pow_succ]
    omega

theorem digit_of (c : UInt8) (h : isDig c) (v : Nat) : digit (v * 10 + (c.toNat - 48)) = c := by
  apply UInt8.toNat_inj.1
  rw [digit_nat]
  unfold isDig at h
  omega

/-- Digits without a nought ahead are written again as they were. -/
theorem digL_valL (l : List UInt8) (hl : l ≠ []) (h : ∀ c ∈ l, isDig c) (h0 : l.head? = some 48 → l.length = 1) : digL (valL l) = l ∧ (1 < l.length → 1 ≤ valL l) := by
  induction l using snoc_ind with
  | nil => exact absurd rfl hl
  | snoc l c ih =>
    have hc := h c (by simp)
    have hcb := hc
    unfold isDig at hcb
    rw [valL_snoc]
    by_cases e : l = []
    · subst e
      have : valL [] = 0 := rfl
      rw [this, Nat.zero_mul, Nat.zero_add, digL_small (by omega)]
      refine ⟨?_, by simp⟩
      have := digit_of c hc 0
      rw [Nat.zero_mul, Nat.zero_add] at this
      rw [this]; rfl
    · have hd : ∀ x ∈ l, isDig x := fun x hx => h x (List.mem_append_left _ hx)
      have hh : l.head? ≠ some 48 := fun e2 => by
        have := h0 (by rw [List.head?_append, e2]; rfl)
        rw [List.length_append, List.length_singleton] at this
        have := List.length_pos_iff.2 e
        omega
      obtain ⟨i1, i2⟩ := ih e hd (fun e2 => absurd e2 hh)
      have hv : 1 ≤ valL l := by
        by_cases hl1 : 1 < l.length
        · exact i2 hl1
        · obtain ⟨x, rfl⟩ : ∃ x, l = [x] := List.length_eq_one_iff.1 (by have := List.length_pos_iff.2 e; omega)
          have hx := hd x (by simp)
          unfold isDig at hx
          have hx2 : x.toNat ≠ 48 := fun e3 => hh (by simp; exact UInt8.toNat_inj.1 e3)
          have : valL [x] = x.toNat - 48 := by simp [valL]
          omega
      refine ⟨?_, fun _ => by omega⟩
      rw [digL_big (by omega), digit_of c hc, show (valL l * 10 + (c.toNat - 48)) / 10 = valL l by omega, i1]

/-- Is it a minus ahead? -/
def negB (t : List UInt8) : Bool := t.head? == some 45
def bodyL (t : List UInt8) : List UInt8 := if negB t = true then t.tail else t

/-- The form of a number, and the number. -/
def formP (t : List UInt8) : Prop := (1 ≤ (bodyL t).length ∧ (bodyL t).length ≤ 10) ∧ (∀ c ∈ bodyL t, isDig c) ∧ ¬ ((bodyL t).head? = some 48 ∧ 1 < t.length)
open Classical in
noncomputable def readB (t : List UInt8) : Bool := decide (formP t)
noncomputable def readV (t : List UInt8) : Int := if readB t = true then (if negB t = true then -(valL (bodyL t) : Int) else (valL (bodyL t) : Int)) else 0
theorem readB_yes {t : List UInt8} (h : formP t) : readB t = true := by simp [readB, h]
theorem readB_no {t : List UInt8} (h : ¬ formP t) : readB t = false := by simp [readB, h]
theorem readB_iff {t : List UInt8} : readB t = true ↔ formP t := by unfold readB; simp

def intL (n : Int) : List UInt8 := if n < 0 then 45 :: digL n.natAbs else digL n.natAbs

theorem readV_bd (t : List UInt8) : -10000000000 < readV t ∧ readV t < 10000000000 := by
  unfold readV
  by_cases h : readB t = true
  · rw [if_pos h]
    obtain ⟨⟨_, h2⟩, h3, _⟩ := readB_iff.1 h
    have hv := valL_bd _ h3
    have : (10 : Nat) ^ (bodyL t).length ≤ 10 ^ 10 := Nat.pow_le_pow_right (by omega) h2
    split <;> omega
  · rw [if_neg h]; omega

/-- A number that is read is written again as it was. -/
theorem read_int (t : List UInt8) (h : readB t = true) : (0 ≤ readV t → digL (readV t).natAbs = t) ∧ (readV t < 0 → (45 : UInt8) :: digL (readV t).natAbs = t) := by
  have hf := readB_iff.1 h
  obtain ⟨⟨h1, h2⟩, h3, h4⟩ := hf
  have hne : bodyL t ≠ [] := fun e => by rw [e] at h1; simp at h1
  unfold readV
  rw [if_pos h]
  by_cases hn : negB t = true
  · rw [if_pos hn]
    have hb : bodyL t = t.tail := by unfold bodyL; rw [if_pos hn]
    have ht : t = 45 :: t.tail := by
      unfold negB at hn
      cases t with
      | nil => simp at hn
      | cons x r => simp at hn; rw [hn]; rfl
    have hlen : 1 < t.length := by rw [ht, ← hb]; simp; omega
    have hd := digL_valL (bodyL t) hne h3 (fun e => absurd ⟨e, hlen⟩ h4)
    have hpos : 1 ≤ valL (bodyL t) := by
      by_cases hl1 : 1 < (bodyL t).length
      · exact hd.2 hl1
      · obtain ⟨x, hx⟩ : ∃ x, bodyL t = [x] := List.length_eq_one_iff.1 (by omega)
        rw [hx]
        have hxd := h3 x (by rw [hx]; simp)
        unfold isDig at hxd
        have hx2 : x.toNat ≠ 48 := fun e => h4 ⟨by rw [hx]; simp; exact UInt8.toNat_inj.1 e, hlen⟩
        have : valL [x] = x.toNat - 48 := by simp [valL]
        omega
    refine ⟨fun h0 => by omega, fun _ => ?_⟩
    rw [show (-(valL (bodyL t) : Int)).natAbs = valL (bodyL t) by omega, hd.1, hb, ← ht]
  · rw [if_neg hn]
    have hb : bodyL t = t := by unfold bodyL; rw [if_neg hn]
    have hd := digL_valL (bodyL t) hne h3 (fun e => by rw [hb] at e h1 ⊢; rw [hb] at h4; have : ¬ 1 < t.length := fun x => h4 ⟨e, x⟩; omega)
    refine ⟨fun _ => ?_, fun h0 => by omega⟩
    rw [show ((valL (bodyL t) : Int)).natAbs = valL (bodyL t) by omega, hd.1, hb]

noncomputable def numB (t : List UInt8) : Bool := readB t && inB (readV t) (-2147483648) 2147483647
noncomputable def numV (t : List UInt8) : Int := if numB t = true then readV t else 0

theorem num_yes {t : List UInt8} (h1 : readB t = true) (h2 : inB (readV t) (-2147483648) 2147483647 = true) : numB t = true ∧ numV t = readV t := by
  have : numB t = true := by unfold numB; rw [h1, h2]; rfl
  exact ⟨this, by unfold numV; rw [if_pos this]⟩

theorem num_no {t : List UInt8} (h : readB t = false ∨ inB (readV t) (-2147483648) 2147483647 = false) : numB t = false ∧ numV t = 0 := by
  have : numB t = false := by unfold numB; rcases h with h | h <;> rw [h] <;> simp
  exact ⟨this, by unfold numV; rw [if_neg (by rw [this]; simp)]⟩

theorem numV_bd (t : List UInt8) : -2147483648 ≤ numV t ∧ numV t ≤ 2147483647 := by
  unfold numV
  split
  · rename_i h
    unfold numB at h
    rw [Bool.and_eq_true] at h
    have := of_decide_eq_true h.2
    omega
  · omega

theorem num_int (t : List UInt8) (h : numB t = true) : (0 ≤ numV t → digL (numV t).natAbs = t) ∧ (numV t < 0 → (45 : UInt8) :: digL (numV t).natAbs = t) := by
  have h1 : readB t = true := by unfold numB at h; rw [Bool.and_eq_true] at h; exact h.1
  have hv : numV t = readV t := by unfold numV; rw [if_pos h]
  rw [hv]
  exact read_int t h1

end Go.Proofs.Ytnpbckgaeaameaa

/-! Plain facts for chapter 5: lines and words joined, one by one. -/
namespace Go.Proofs.Ytnpbckgaeaameaa
open Go.RowKit

theorem termJ_step (ls : List (List UInt8)) (k : Nat) (hk : k < ls.length) : termJ (ls.take (k + 1)) = termJ (ls.take k) ++ ls.getD k [] ++ [10] := by
  have hg : ls.getD k [] = ls[k] := by simp [List.getD, hk]
  rw [hg, List.take_succ_eq_append_getElem hk, termJ_snoc]

theorem termJ_append (x y : List (List UInt8)) : termJ (x ++ y) = termJ x ++ termJ y := by simp [termJ]

theorem termJ_take (ls : List (List UInt8)) (k : Nat) : (termJ (ls.take k)).length ≤ (termJ ls).length := by
  have h := congrArg (fun x => (termJ x).length) (List.take_append_drop k ls)
  simp only [termJ_append, List.length_append] at h
  omega

theorem lines_len (l : List UInt8) : (termJ (linesL l)).length ≤ l.length + 1 := by
  rcases lines_join l with h | h
  · rw [h]; omega
  · rw [h]; simp

theorem joinBy_snoc (b : UInt8) (ls : List (List UInt8)) (x : List UInt8) (h : ls ≠ []) : joinBy b (ls ++ [x]) = joinBy b ls ++ [b] ++ x := by
  induction ls with
  | nil => exact absurd rfl h
  | cons y r ih =>
    by_cases hr : r = []
    · subst hr; simp [joinBy]
    · rw [List.cons_append, joinBy_cons b y (r ++ [x]) (by simp), ih hr, joinBy_cons b y r hr]
      simp

theorem joinBy_step (b : UInt8) (ls : List (List UInt8)) (k : Nat) (hk : k < ls.length) : joinBy b (ls.take (k + 1)) = if k = 0 then ls.getD k [] else joinBy b (ls.take k) ++ [b] ++ ls.getD k [] := by
  have hg : ls.getD k [] = ls[k] := by simp [List.getD, hk]
  rw [hg, List.take_succ_eq_append_getElem hk]
  by_cases h : k = 0
  · subst h; simp [joinBy]
  · rw [if_neg h, joinBy_snoc b _ _ (fun e => by have := congrArg List.length e; rw [List.length_take, List.length_nil] at this; omega)]

theorem joinBy_take (b : UInt8) (ls : List (List UInt8)) : ∀ k, (joinBy b (ls.take k)).length ≤ (joinBy b ls).length := by
  have step : ∀ k, (joinBy b (ls.take k)).length ≤ (joinBy b (ls.take (k + 1))).length := by
    intro k
    by_cases hk : k < ls.length
    · rw [joinBy_step b ls k hk]
      split
      · rename_i h; subst h; simp [joinBy]
      · simp only [List.length_append]; omega
    · rw [List.take_of_length_le (by omega : ls.length ≤ k), List.take_of_length_le (by omega : ls.length ≤ k + 1)]
      exact Nat.le_refl _
  have far : ∀ d k, (joinBy b (ls.take k)).length ≤ (joinBy b (ls.take (k + d))).length := by
    intro d
    induction d with
    | zero => intro k; exact Nat.le_refl _
    | succ d ih => intro k; exact Nat.le_trans (ih k) (step (k + d))
  intro k
  have := far ls.length k
  rw [List.take_of_length_le (by omega : ls.length ≤ k + ls.length)] at this
  exact this

end Go.Proofs.Ytnpbckgaeaameaa

/-! Plain facts for chapter 6 (trees): nodes, where a tree ends, how it is shown and read. -/
namespace Go.Proofs.Ytnpbckgaeaameaa
open Go.RowKit

/-- A node: its kind, its number, its package, its function. -/
abbrev Nd := Int × Int × List UInt8 × List UInt8

def nodeP (n : Nd) : Prop :=
  (n.1 = 1 ∧ (-2147483648 ≤ n.2.1 ∧ n.2.1 ≤ 2147483647) ∧ n.2.2.1 = [] ∧ n.2.2.2 = []) ∨
  (n.1 = 2 ∧ (0 ≤ n.2.1 ∧ n.2.1 ≤ 2) ∧ n.2.2.1 = [] ∧ n.2.2.2 = []) ∨
  ((3 ≤ n.1 ∧ n.1 ≤ 7) ∧ n.2.1 = 0 ∧ n.2.2.1 = [] ∧ n.2.2.2 = []) ∨
  (n.1 = 8 ∧ (0 ≤ n.2.1 ∧ n.2.1 ≤ 3) ∧ nameB n.2.2.1 = true ∧ nameB n.2.2.2 = true)
instance (n : Nd) : Decidable (nodeP n) := by unfold nodeP; infer_instance
def nodeB (n : Nd) : Bool := decide (nodeP n)
theorem nodeB_iff {n : Nd} : nodeB n = true ↔ nodeP n := by unfold nodeB; simp
theorem nodeB_no {n : Nd} (h : ¬ nodeP n) : nodeB n = false := decide_eq_false h
theorem nodeB_yes {n : Nd} (h : nodeP n) : nodeB n = true := decide_eq_true h

/-- How many parts follow. -/
def kidsN (n : Nd) : Nat := if 3 ≤ n.1 ∧ n.1 ≤ 6 then 2 else if n.1 = 7 then 3 else if n.1 = 8 then n.2.1.toNat else 0
def kidsV (n : Nd) : Int := if 3 ≤ n.1 ∧ n.1 ≤ 6 then 2 else if n.1 = 7 then 3 else if n.1 = 8 then n.2.1 else 0
def kidsOfV (n : Nd) : Int := if nodeB n = true then kidsV n else -1

theorem kidsV_ok {n : Nd} (h : nodeB n = true) : kidsV n = (kidsN n : Int) ∧ kidsN n ≤ 3 := by
  have hp := nodeB_iff.1 h
  unfold nodeP at hp
  unfold kidsV kidsN
  rcases hp with ⟨h1, _⟩ | ⟨h1, _⟩ | ⟨h1, _⟩ | ⟨h1, h2, _⟩
  · rw [if_neg (by omega), if_neg (by omega), if_neg (by omega), if_neg (by omega), if_neg (by omega), if_neg (by omega)]; omega
  · rw [if_neg (by omega), if_neg (by omega), if_neg (by omega), if_neg (by omega), if_neg (by omega), if_neg (by omega)]; omega
  · by_cases e : n.1 = 7
    · rw [if_neg (by omega), if_pos e, if_neg (by omega), if_pos e]; omega
    · rw [if_pos (by omega), if_pos (by omega)]; omega
  · rw [if_neg (by omega), if_neg (by omega), if_pos h1, if_neg (by omega), if_neg (by omega), if_pos h1]; omega

/-- How many nodes are gone through till o are closed. -/
def endGo : List Nd → Nat → Option Nat
  | _, 0 => some 0
  | [], _ + 1 => none
  | n :: r, o + 1 => if nodeB n = true then (endGo r (o + kidsN n)).map (· + 1) else none

theorem endGo_zero (l : List Nd) : endGo l 0 = some 0 := by cases l <;> rfl
theorem endGo_nil (o : Nat) : endGo [] (o + 1) = none := rfl
theorem endGo_cons (n : Nd) (r : List Nd) (o : Nat) : endGo (n :: r) (o + 1) = if nodeB n = true then (endGo r (o + kidsN n)).map (· + 1) else none := rfl

theorem endGo_le : ∀ (l : List Nd) (o d : Nat), endGo l o = some d → d ≤ l.length
  | l, 0, d, h => by rw [endGo_zero] at h; injection h with h; omega
  | [], o + 1, d, h => by rw [endGo_nil] at h; cases h
  | n :: r, o + 1, d, h => by
    rw [endGo_cons] at h
    split at h
    · rw [Option.map_eq_some_iff] at h
      obtain ⟨e, he, rfl⟩ := h
      have := endGo_le r _ e he
      simp; omega
    · cases h

/-- Where the tree at a place ends; -1 where there is none. -/
def endN (l : List Nd) (k : Nat) : Int := if k < l.length then (match endGo (l.drop k) 1 with | some d => (k : Int) + d | none => -1) else -1
def endV (l : List Nd) (a : Int) : Int := if a < 0 then -1 else endN l a.toNat

theorem endV_nat (l : List Nd) (k : Nat) : endV l (k : Int) = endN l k := by unfold endV; rw [if_neg (by omega), Int.toNat_natCast]
theorem endV_out (l : List Nd) (a : Int) (h : a < 0 ∨ (l.length : Int) ≤ a) : endV l a = -1 := by
  unfold endV
  by_cases h0 : a < 0
  · rw [if_pos h0]
  · rw [if_neg h0]; unfold endN; rw [if_neg (by omega)]

def treeB (l : List Nd) : Bool := decide ((1 ≤ l.length ∧ l.length ≤ 60) ∧ endV l 0 = (l.length : Int))

/-- The loop: k nodes on, o still open. -/
theorem end_round {l : List Nd} {k o : Nat} (hk : k < l.length) (hn : nodeB l[k] = true) : endGo (l.drop k) (o + 1) = (endGo (l.drop (k + 1)) (o + kidsN l[k])).map (· + 1) := by
  rw [List.drop_eq_getElem_cons hk, endGo_cons, if_pos hn]
theorem end_bad {l : List Nd} {k o : Nat} (hk : k < l.length) (hn : nodeB l[k] = false) : endGo (l.drop k) (o + 1) = none := by
  rw [List.drop_eq_getElem_cons hk, endGo_cons, if_neg (by rw [hn]; simp)]
theorem end_over {l : List Nd} {k o : Nat} (hk : l.length ≤ k) : endGo (l.drop k) (o + 1) = none := by
  rw [List.drop_eq_nil_of_le hk, endGo_nil]

/-- A word for a node. -/
def showN (n : Nd) : List UInt8 :=
  if n.1 = 1 then intL n.2.1
  else if n.1 = 2 then 36 :: intL n.2.1
  else if n.1 = 3 then [43]
  else if n.1 = 4 then [45]
  else if n.1 = 5 then [42]
  else if n.1 = 6 then [47]
  else if n.1 = 7 then [63]
  else (64 :: n.2.2.1) ++ [46] ++ n.2.2.2 ++ [47] ++ intL n.2.1

def showL (l : List Nd) : List UInt8 := joinBy 32 (l.map showN)
def showT (l : List Nd) : List UInt8 := if treeB l = true then showL l else []

end Go.Proofs.Ytnpbckgaeaameaa

/-! Plain facts for chapter 6: what is shown is read. -/
namespace Go.Proofs.Ytnpbckgaeaameaa
open Go.RowKit

theorem digit_dig (n : Nat) : isDig (digit n) := by unfold isDig; rw [digit_nat]; omega

theorem digL_dig : ∀ (k n : Nat), n < 10 ^ (k + 1) → ∀ c ∈ digL n, isDig c
  | 0, n, h, c, hc => by
    rw [digL_small (by simpa using h)] at hc
    simp at hc; subst hc; exact digit_dig n
  | k + 1, n, h, c, hc => by
    by_cases hn : n < 10
    · rw [digL_small hn] at hc; simp at hc; subst hc; exact digit_dig n
    · rw [digL_big (by omega)] at hc
      rcases List.mem_append.1 hc with hc | hc
      · exact digL_dig k (n / 10) (by rw [Nat.pow_succ] at h; omega) c hc
      · simp at hc; subst hc; exact digit_dig n

theorem valL_digL : ∀ (k n : Nat), n < 10 ^ (k + 1) → valL (digL n) = n
  | 0, n, h => by
    have h10 : n < 10 := by simpa using h
    rw [digL_small h10]
    have : valL [digit n] = (digit n).toNat - 48 := by simp [valL]
    rw [this, digit_nat]; omega
  | k + 1, n, h => by
    by_cases hn : n < 10
    · rw [digL_small hn]
      have : valL [digit n] = (digit n).toNat - 48 := by simp [valL]
      rw [this, digit_nat]; omega
    · rw [digL_big (by omega), valL_snoc, valL_digL k (n / 10) (by rw [Nat.pow_succ] at h; omega), digit_nat]; omega

theorem digL_head : ∀ (k n : Nat), n < 10 ^ (k + 1) → (digL n).head? = some 48 → n = 0
  | 0, n, h, hh => by
    have h10 : n < 10 := by simpa using h
    rw [digL_small h10] at hh
    simp at hh
    have := congrArg UInt8.toNat hh
    rw [digit_nat] at this
    have h48 : (48 : UInt8).toNat = 48 := rfl
    omega
  | k + 1, n, h, hh => by
    by_cases hn : n < 10
    · rw [digL_small hn] at hh
      simp at hh
      have := congrArg UInt8.toNat hh
      rw [digit_nat] at this
      have h48 : (48 : UInt8).toNat = 48 := rfl
      omega
    · rw [digL_big (by omega)] at hh
      have hne := digL_ne (n / 10)
      rw [List.head?_append] at hh
      cases hd : (digL (n / 10)).head? with
      | none => rw [List.head?_eq_none_iff] at hd; exact absurd hd hne
      | some x =>
        rw [hd] at hh
        have := digL_head k (n / 10) (by rw [Nat.pow_succ] at h; omega) (by rw [hd]; exact hh)
        omega

/-- A word that is written is read. -/
theorem read_of_int (a : Int) (h0 : -2147483648 ≤ a) (h1 : a ≤ 2147483647) : readB (intL a) = true ∧ readV (intL a) = a := by
  have hlt : a.natAbs < 10 ^ (9 + 1) := by omega
  have hdig := digL_dig 9 a.natAbs hlt
  have hval := valL_digL 9 a.natAbs hlt
  have hlen := digL_len 9 a.natAbs hlt
  have hne := digL_ne a.natAbs
  have hpos := List.length_pos_iff.2 hne
  have hhead := digL_head 9 a.natAbs hlt
  by_cases hn : a < 0
  · have e : intL a = 45 :: digL a.natAbs := by unfold intL; rw [if_pos hn]
    rw [e]
    have hneg : negB (45 :: digL a.natAbs) = true := rfl
    have hbody : bodyL (45 :: digL a.natAbs) = digL a.natAbs := by unfold bodyL; rw [if_pos hneg]; rfl
    have hf : formP (45 :: digL a.natAbs) := ⟨by rw [hbody]; omega, by rw [hbody]; exact hdig, by rw [hbody]; intro hx; have := hhead hx.1; omega⟩
    have hb := readB_yes hf
    refine ⟨hb, ?_⟩
    unfold readV
    rw [if_pos hb, if_pos hneg, hbody, hval]
    omega
  · have e : intL a = digL a.natAbs := by unfold intL; rw [if_neg hn]
    rw [e]
    have hneg : negB (digL a.natAbs) = false := by
      unfold negB
      rw [beq_eq_false_iff_ne]
      intro hx
      have hm : (45 : UInt8) ∈ digL a.natAbs := List.mem_of_mem_head? (by rw [hx]; rfl)
      have := hdig 45 hm
      unfold isDig at this
      have h45 : (45 : UInt8).toNat = 45 := rfl
      omega
    have hbody : bodyL (digL a.natAbs) = digL a.natAbs := by unfold bodyL; rw [if_neg (by rw [hneg]; simp)]
    have hf : formP (digL a.natAbs) := ⟨by rw [hbody]; omega, by rw [hbody]; exact hdig, by
      rw [hbody]; intro hx
      have h00 := hhead hx.1
      rw [h00, digL_small (by omega)] at hx
      simp at hx⟩
    have hb := readB_yes hf
    refine ⟨hb, ?_⟩
    unfold readV
    rw [if_pos hb, if_neg (by rw [hneg]; simp), hbody, hval]
    omega

/-- Pieces of what holds no such byte. -/
theorem split_none (b : UInt8) (l : List UInt8) : ∀ cur, (∀ c ∈ l, c ≠ b) → splitGo b cur l = [cur ++ l] := by
  induction l with
  | nil => intro cur _; simp [splitGo]
  | cons c r ih =>
    intro cur h
    rw [splitGo, if_neg (h c (by simp)), ih _ (fun x hx => h x (by simp [hx]))]
    simp

theorem split_one (b : UInt8) (x y : List UInt8) : ∀ cur, (∀ c ∈ x, c ≠ b) → splitGo b cur (x ++ b :: y) = (cur ++ x) :: splitGo b [] y := by
  induction x with
  | nil => intro cur _; simp [splitGo]
  | cons c r ih =>
    intro cur h
    rw [List.cons_append, splitGo, if_neg (h c (by simp)), ih _ (fun z hz => h z (by simp [hz]))]
    simp

theorem split_join (b : UInt8) (ws : List (List UInt8)) (hne : ws ≠ []) (h : ∀ x ∈ ws, ∀ c ∈ x, c ≠ b) : splitL b (joinBy b ws) = ws := by
  unfold splitL
  induction ws with
  | nil => exact absurd rfl hne
  | cons x r ih =>
    by_cases hr : r = []
    · subst hr
      rw [show joinBy b [x] = x from rfl, split_none b x [] (h x (by simp))]
      simp
    · rw [joinBy_cons b x r hr, List.append_assoc, List.singleton_append, split_one b x _ [] (h x (by simp)), ih hr (fun y hy => h y (by simp [hy]))]
      simp

/-- The node of a word. -/
noncomputable def readN (s : List UInt8) : Nd :=
  if s = [] then (0, 0, [], [])
  else if s.head? = some 36 then (2, readV s.tail, [], [])
  else if s.head? = some 43 then (3, 0, [], [])
  else if s.head? = some 42 then (5, 0, [], [])
  else if s.head? = some 47 then (6, 0, [], [])
  else if s.head? = some 63 then (7, 0, [], [])
  else if s.head? = some 64 then
    (if (splitL 47 s.tail).length = 2 ∧ (splitL 46 ((splitL 47 s.tail).getD 0 [])).length = 2
     then (8, readV ((splitL 47 s.tail).getD 1 []), (splitL 46 ((splitL 47 s.tail).getD 0 [])).getD 0 [], (splitL 46 ((splitL 47 s.tail).getD 0 [])).getD 1 []) else (0, 0, [], []))
  else if s = [45] then (4, 0, [], [])
  else (1, readV s, [], [])

theorem name_letters {l : List UInt8} (h : nameB l = true) : (1 ≤ l.length ∧ l.length ≤ 8) ∧ ∀ c ∈ l, 97 ≤ c.toNat ∧ c.toNat ≤ 122 := by
  unfold nameB at h
  rw [Bool.and_eq_true, List.all_eq_true] at h
  exact ⟨of_decide_eq_true h.1, fun c hc => of_decide_eq_true (h.2 c hc)⟩

theorem intL_bytes (a : Int) (h0 : -2147483648 ≤ a) (h1 : a ≤ 2147483647) : ∀ c ∈ intL a, c.toNat = 45 ∨ (48 ≤ c.toNat ∧ c.toNat ≤ 57) := by
  intro c hc
  have hdig := digL_dig 9 a.natAbs (by omega)
  unfold intL at hc
  split at hc
  · rcases List.mem_cons.1 hc with rfl | hc
    · exact Or.inl rfl
    · exact Or.inr (hdig c hc)
  · exact Or.inr (hdig c hc)

theorem intL_ne (a : Int) : intL a ≠ [] ∧ intL a ≠ [45] := by
  have hne := digL_ne a.natAbs
  unfold intL
  split
  · refine ⟨by simp, fun e => hne (by injection e)⟩
  · refine ⟨hne, fun e => ?_⟩
    by_cases h : a.natAbs < 10
    · rw [digL_small h] at e
      injection e with e
      have := congrArg UInt8.toNat e
      rw [digit_nat] at this
      have h45 : (45 : UInt8).toNat = 45 := rfl
      omega
    · rw [digL_big (by omega)] at e
      have := congrArg List.length e
      have hp := List.length_pos_iff.2 (digL_ne (a.natAbs / 10))
      simp at this
      exact absurd this (digL_ne _)

theorem byte_ne {c d : UInt8} (h : c.toNat ≠ d.toNat) : c ≠ d := fun e => h (by rw [e])

/-- What is shown of a node is read as it. -/
theorem read_show (n : Nd) (h : nodeB n = true) : readN (showN n) = n := by
  obtain ⟨k, a, p, f⟩ := n
  have hp := nodeB_iff.1 h
  unfold nodeP at hp
  simp only at hp
  rcases hp with ⟨rfl, ⟨h0, h1⟩, rfl, rfl⟩ | ⟨rfl, ⟨h0, h1⟩, rfl, rfl⟩ | ⟨hk, rfl, rfl, rfl⟩ | ⟨rfl, ⟨h0, h1⟩, hpn, hfn⟩
  · have hs : showN (1, a, [], []) = intL a := by unfold showN; simp
    rw [hs]
    obtain ⟨e1, e2⟩ := intL_ne a
    have hb := intL_bytes a h0 h1
    have hr := (read_of_int a h0 h1).2
    obtain ⟨c, r, hcr⟩ : ∃ c r, intL a = c :: r := by
      cases hi : intL a with
      | nil => exact absurd hi e1
      | cons c r => exact ⟨c, r, rfl⟩
    have hc := hb c (by rw [hcr]; simp)
    have hh : (intL a).head? = some c := by rw [hcr]; rfl
    have hn : ∀ d : UInt8, d.toNat ≠ 45 → (d.toNat < 48 ∨ 57 < d.toNat) → ¬ (intL a).head? = some d := fun d hd1 hd2 e => by
      rw [hh] at e; injection e with e; subst e; omega
    unfold readN
    rw [if_neg e1, if_neg (hn 36 (by decide) (by decide)), if_neg (hn 43 (by decide) (by decide)), if_neg (hn 42 (by decide) (by decide)), if_neg (hn 47 (by decide) (by decide)), if_neg (hn 63 (by decide) (by decide)), if_neg (hn 64 (by decide) (by decide)), if_neg e2, hr]
  · have hs : showN (2, a, [], []) = 36 :: intL a := by unfold showN; simp
    rw [hs]
    have hr := (read_of_int a (by omega) (by omega)).2
    unfold readN
    rw [if_neg (by simp), if_pos (by rfl)]
    simp [hr]
  · rcases (show k = 3 ∨ k = 4 ∨ k = 5 ∨ k = 6 ∨ k = 7 by omega) with rfl | rfl | rfl | rfl | rfl <;> (unfold showN readN; simp)
  · have hs : showN (8, a, p, f) = 64 :: ((p ++ 46 :: f) ++ 47 :: intL a) := by unfold showN; simp
    rw [hs]
    have hr := (read_of_int a (by omega) (by omega)).2
    have hib := intL_bytes a (by omega) (by omega)
    obtain ⟨_, hpl⟩ := name_letters hpn
    obtain ⟨_, hfl⟩ := name_letters hfn
    have s1 : splitL 47 ((p ++ 46 :: f) ++ 47 :: intL a) = [p ++ 46 :: f, intL a] := by
      unfold splitL
      rw [split_one 47 _ _ [] (by
        intro c hc
        rcases List.mem_append.1 hc with hc | hc
        · exact byte_ne (by have := hpl c hc; have e : (47 : UInt8).toNat = 47 := rfl; omega)
        · rcases List.mem_cons.1 hc with rfl | hc
          · decide
          · exact byte_ne (by have := hfl c hc; have e : (47 : UInt8).toNat = 47 := rfl; omega)), split_none 47 (intL a) [] (by intro c hc; exact byte_ne (by have := hib c hc; have e : (47 : UInt8).toNat = 47 := rfl; omega))]
      simp
    have s2 : splitL 46 (p ++ 46 :: f) = [p, f] := by
      unfold splitL
      rw [split_one 46 p f [] (by intro c hc; exact byte_ne (by have := hpl c hc; have e : (46 : UInt8).toNat = 46 := rfl; omega)), split_none 46 f [] (by intro c hc; exact byte_ne (by have := hfl c hc; have e : (46 : UInt8).toNat = 46 := rfl; omega))]
      simp
    have e0 : (splitL 47 ((p ++ 46 :: f) ++ 47 :: intL a)).getD 0 [] = p ++ 46 :: f := by rw [s1]; rfl
    have e1 : (splitL 47 ((p ++ 46 :: f) ++ 47 :: intL a)).getD 1 [] = intL a := by rw [s1]; rfl
    unfold readN
    rw [if_neg (by simp), if_neg (by simp), if_neg (by simp), if_neg (by simp), if_neg (by simp), if_neg (by simp), if_pos (by rfl), List.tail_cons, e0, e1, s2, s1, if_pos ⟨rfl, rfl⟩, hr]
    rfl

/-- No word has a blank. -/
theorem show_noblank (n : Nd) (h : nodeB n = true) : ∀ c ∈ showN n, c ≠ 32 := by
  obtain ⟨k, a, p, f⟩ := n
  have hp := nodeB_iff.1 h
  unfold nodeP at hp
  simp only at hp
  intro c hc
  have e32 : (32 : UInt8).toNat = 32 := rfl
  rcases hp with ⟨rfl, ⟨h0, h1⟩, rfl, rfl⟩ | ⟨rfl, ⟨h0, h1⟩, rfl, rfl⟩ | ⟨hk, rfl, rfl, rfl⟩ | ⟨rfl, ⟨h0, h1⟩, hpn, hfn⟩
  · have hs : showN (1, a, [], []) = intL a := by unfold showN; simp
    rw [hs] at hc
    exact byte_ne (by have := intL_bytes a h0 h1 c hc; omega)
  · have hs : showN (2, a, [], []) = 36 :: intL a := by unfold showN; simp
    rw [hs] at hc
    rcases List.mem_cons.1 hc with rfl | hc
    · decide
    · exact byte_ne (by have := intL_bytes a (by omega) (by omega) c hc; omega)
  · rcases (show k = 3 ∨ k = 4 ∨ k = 5 ∨ k = 6 ∨ k = 7 by omega) with rfl | rfl | rfl | rfl | rfl <;> (unfold showN at hc; simp at hc; subst hc; decide)
  · have hs : showN (8, a, p, f) = 64 :: ((p ++ 46 :: f) ++ 47 :: intL a) := by unfold showN; simp
    rw [hs] at hc
    obtain ⟨_, hpl⟩ := name_letters hpn
    obtain ⟨_, hfl⟩ := name_letters hfn
    rcases List.mem_cons.1 hc with rfl | hc
    · decide
    · rcases List.mem_append.1 hc with hc | hc
      · rcases List.mem_append.1 hc with hc | hc
        · exact byte_ne (by have := hpl c hc; omega)
        · rcases List.mem_cons.1 hc with rfl | hc
          · decide
          · exact byte_ne (by have := hfl c hc; omega)
      · rcases List.mem_cons.1 hc with rfl | hc
        · decide
        · exact byte_ne (by have := intL_bytes a (by omega) (by omega) c hc; omega)

/-- A tree that ends has right nodes alone. -/
theorem endGo_nodes : ∀ (l : List Nd) (o d : Nat), endGo l o = some d → ∀ n ∈ l.take d, nodeB n = true
  | l, 0, d, h, n, hn => by rw [endGo_zero] at h; injection h with h; subst h; simp at hn
  | [], o + 1, d, h, n, hn => by rw [endGo_nil] at h; cases h
  | m :: r, o + 1, d, h, n, hn => by
    rw [endGo_cons] at h
    split at h
    · rename_i hm
      rw [Option.map_eq_some_iff] at h
      obtain ⟨e, he, rfl⟩ := h
      rw [List.take_succ_cons] at hn
      rcases List.mem_cons.1 hn with rfl | hn
      · exact hm
      · exact endGo_nodes r _ e he n hn
    · cases h

theorem tree_end {l : List Nd} (h : treeB l = true) : (1 ≤ l.length ∧ l.length ≤ 60) ∧ endGo l 1 = some l.length := by
  obtain ⟨h1, h2⟩ := of_decide_eq_true h
  refine ⟨h1, ?_⟩
  have e := endV_nat l 0
  rw [Int.natCast_zero] at e
  rw [e] at h2
  unfold endN at h2
  rw [if_pos (by omega), List.drop_zero] at h2
  cases hg : endGo l 1 with
  | none => rw [hg] at h2; simp at h2
  | some d => rw [hg] at h2; simp at h2; congr 1; omega

theorem tree_nodes {l : List Nd} (h : treeB l = true) : ∀ n ∈ l, nodeB n = true := by
  obtain ⟨_, h2⟩ := tree_end h
  intro n hn
  exact endGo_nodes l 1 l.length h2 n (by rw [List.take_length]; exact hn)

noncomputable def readT (s : List UInt8) : List Nd := (splitL 32 s).map readN
noncomputable def readOk (s : List UInt8) : Bool := decide (s.length ≤ 2000) && (treeB (readT s) && (showL (readT s) == s))
noncomputable def readTV (s : List UInt8) : List Nd := if readOk s = true then readT s else []

/-- What is shown of a tree is read as it. -/
theorem readT_show (l : List Nd) (h : treeB l = true) : readT (showL l) = l := by
  unfold readT showL
  have hn := tree_nodes h
  have hlen := (tree_end h).1
  rw [split_join 32 (l.map showN) (fun e => by have := congrArg List.length e; simp at this; rw [this] at hlen; simp at hlen) (by
    intro x hx
    obtain ⟨n, hm, rfl⟩ := List.mem_map.1 hx
    exact show_noblank n (hn n hm)), List.map_map]
  have : l.map (readN ∘ showN) = l.map id := List.map_congr_left (fun n hm => read_show n (hn n hm))
  rw [this, List.map_id]

end Go.Proofs.Ytnpbckgaeaameaa

/-! Plain facts for chapter 6: parts are one behind the other. -/
namespace Go.Proofs.Ytnpbckgaeaameaa
open Go.RowKit

/-- To close a and b is to close a, and then b. -/
theorem endGo_add : ∀ (l : List Nd) (a b : Nat), endGo l (a + b) = (endGo l a).bind (fun d => (endGo (l.drop d) b).map (d + ·))
  | l, 0, b => by
    rw [Nat.zero_add, endGo_zero]
    simp
  | [], a + 1, b => by
    rw [show a + 1 + b = (a + b) + 1 by omega, endGo_nil, endGo_nil]; rfl
  | n :: r, a + 1, b => by
    rw [show a + 1 + b = (a + b) + 1 by omega, endGo_cons, endGo_cons]
    split
    · rw [show a + b + kidsN n = (a + kidsN n) + b by omega, endGo_add r (a + kidsN n) b]
      cases endGo r (a + kidsN n) with
      | none => rfl
      | some d =>
        simp only [Option.bind_some, Option.map_some, List.drop_succ_cons, Option.map_map]
        congr 1
        funext x
        simp only [Function.comp]
        omega
    · rfl

/-- Where the parts begin. -/
def partsGo (l : List Nd) : Nat → Int → List Int
  | 0, _ => []
  | k + 1, next => next :: partsGo l k (endV l next)
def partsV (l : List Nd) (a : Int) : List Int := if endV l a < 0 then [] else partsGo l (kidsN (l.getD a.toNat (0, 0, [], []))) (a + 1)

theorem partsGo_len (l : List Nd) : ∀ k next, (partsGo l k next).length = k
  | 0, _ => rfl
  | k + 1, next => by rw [partsGo, List.length_cons, partsGo_len l k]

/-- k trees one behind the other, from a place on. -/
def chain (l : List Nd) : Nat → Int → Int
  | 0, next => next
  | k + 1, next => chain l k (endV l next)

theorem endN_some {l : List Nd} {k d : Nat} (h : endGo (l.drop k) 1 = some d) (hk : k < l.length) : endN l k = (k : Int) + d := by
  unfold endN; rw [if_pos hk, h]

theorem endGo_pos {l : List Nd} {o d : Nat} (h : endGo l (o + 1) = some d) : 1 ≤ d ∧ l ≠ [] := by
  cases l with
  | nil => rw [endGo_nil] at h; cases h
  | cons n r =>
    rw [endGo_cons] at h
    split at h
    · rw [Option.map_eq_some_iff] at h
      obtain ⟨e, _, rfl⟩ := h
      exact ⟨by omega, by simp⟩
    · cases h

theorem chain_end (l : List Nd) : ∀ (o k d : Nat), endGo (l.drop k) o = some d → k + d ≤ l.length → chain l o (k : Int) = ((k + d : Nat) : Int)
  | 0, k, d, h, _ => by
    rw [endGo_zero] at h
    injection h with h
    subst h
    rfl
  | o + 1, k, d, h, hle => by
    have h2 := endGo_add (l.drop k) 1 o
    rw [show 1 + o = o + 1 by omega, h] at h2
    cases he : endGo (l.drop k) 1 with
    | none => rw [he] at h2; simp at h2
    | some e =>
      rw [he] at h2
      simp only [Option.bind_some] at h2
      cases hf : endGo ((l.drop k).drop e) o with
      | none => rw [hf] at h2; simp at h2
      | some f =>
        rw [hf] at h2
        simp only [Option.map_some, Option.some.injEq] at h2
        have hk : k < l.length := by
          have := (endGo_pos he).2
          rcases Nat.lt_or_ge k l.length with hx | hx
          · exact hx
          · exact absurd (List.drop_eq_nil_of_le hx) this
        rw [chain, endV_nat, endN_some he hk]
        have := chain_end l o (k + e) f (by rw [List.drop_drop] at hf; exact hf) (by omega)
        rw [show ((k : Int) + (e : Int)) = ((k + e : Nat) : Int) by omega, this]
        congr 1
        omega

/-- A node that ends: its parts go from behind it to its end. -/
theorem end_parts {l : List Nd} {k : Nat} (h : 0 ≤ endV l (k : Int)) : k < l.length ∧ nodeB (l.getD k (0, 0, [], [])) = true ∧ chain l (kidsN (l.getD k (0, 0, [], []))) ((k : Int) + 1) = endV l (k : Int) ∧ (k : Int) < endV l (k : Int) ∧ endV l (k : Int) ≤ l.length := by
  rw [endV_nat] at h ⊢
  unfold endN at h
  by_cases hk : k < l.length
  · rw [if_pos hk] at h
    cases he : endGo (l.drop k) 1 with
    | none => rw [he] at h; simp at h
    | some d =>
      have hd : l.drop k = l[k] :: l.drop (k + 1) := List.drop_eq_getElem_cons hk
      have hg : l.getD k (0, 0, [], []) = l[k] := by simp [List.getD, hk]
      rw [hg]
      have hle := endGo_le _ _ _ he
      rw [List.length_drop] at hle
      have he2 := he
      rw [hd, show (1 : Nat) = 0 + 1 from rfl, endGo_cons] at he2
      split at he2
      · rename_i hn
        rw [Option.map_eq_some_iff] at he2
        obtain ⟨e, hee, rfl⟩ := he2
        have hc := chain_end l (kidsN l[k]) (k + 1) e (by rw [← hee]; congr 1; omega) (by omega)
        rw [endN_some he hk]
        refine ⟨hk, hn, ?_, by omega, by omega⟩
        rw [show ((k : Int) + 1) = ((k + 1 : Nat) : Int) by omega, hc]
        omega
      · cases he2
  · rw [if_neg hk] at h; omega

/-- What is cut out of a list from a node to its end is a tree, where it isn't too long. -/
theorem endGo_take : ∀ (l : List Nd) (o d : Nat), endGo l o = some d → endGo (l.take d) o = some d
  | l, 0, d, h => by rw [endGo_zero] at h ⊢; exact h
  | [], o + 1, d, h => by rw [endGo_nil] at h; cases h
  | n :: r, o + 1, d, h => by
    rw [endGo_cons] at h
    split at h
    · rename_i hn
      rw [Option.map_eq_some_iff] at h
      obtain ⟨e, he, rfl⟩ := h
      rw [List.take_succ_cons, endGo_cons, if_pos hn, endGo_take r _ e he]
      rfl
    · cases h

theorem cut_tree {l : List Nd} {k : Nat} (h : 0 ≤ endV l (k : Int)) (h60 : endV l (k : Int) - k ≤ 60) : treeB ((l.drop k).take (endV l (k : Int) - k).toNat) = true := by
  obtain ⟨hk, _, _, h1, h2⟩ := end_parts h
  rw [endV_nat] at h h60 h1 h2 ⊢
  unfold endN at h h60 h1 h2 ⊢
  rw [if_pos hk] at h h60 h1 h2 ⊢
  cases he : endGo (l.drop k) 1 with
  | none => rw [he] at h; simp at h
  | some d =>
    rw [he] at h60 h1 h2
    simp only at h60 h1 h2 ⊢
    rw [show ((k : Int) + (d : Int) - (k : Int)).toNat = d by omega]
    have ht := endGo_take _ _ _ he
    have hl : ((l.drop k).take d).length = d := by rw [List.length_take, List.length_drop]; omega
    refine decide_eq_true ⟨by omega, ?_⟩
    have e0 := endV_nat ((l.drop k).take d) 0
    rw [Int.natCast_zero] at e0
    rw [e0, hl]
    unfold endN
    rw [if_pos (by omega), List.drop_zero, ht]
    simp

end Go.Proofs.Ytnpbckgaeaameaa

/-! Plain facts on lists of bytes for Turned. -/
namespace Go.Proofs.Ytnpbckgaeaameaa

theorem ret_str2 {a b : ByteArray} (h : a = b) : Ending.returned (.string a) = .returned (.string b) := by rw [h]

theorem ba_ext {a b : ByteArray} (h : a.data.toList = b.data.toList) : a = b := by
  cases a; cases b; simp_all

theorem turned_cat (s : ByteArray) (a t : Int) (h0 : 0 ≤ a) (h1 : a < s.size) (h2 : 0 ≤ t) (h3 : t ≤ 255) :
    s.extract 0 a.toNat ++ ⟨#[UInt8.ofNat t.toNat]⟩ ++ s.extract (a + 1).toNat s.size = ⟨(turnedL s.data.toList a t).toArray⟩ := by
  have hl : s.data.toList.length = s.size := by simp
  rw [turnedL_yes _ _ _ h0 (by rw [hl]; exact h1) h2 h3]
  obtain ⟨k, rfl⟩ := Int.eq_ofNat_of_zero_le h0
  apply ba_ext
  have e : ((k : Int) + 1).toNat = k + 1 := by omega
  rw [e]
  simp only [ByteArray.data_append, ByteArray.data_extract, Array.toList_append, Array.toList_extract, Int.toNat_natCast, List.extract_eq_take_drop, List.drop_zero, Nat.sub_zero]
  rw [List.set_eq_take_append_cons_drop, if_pos (by rw [hl]; omega), List.take_of_length_le (l := List.drop (k + 1) s.data.toList) (by simp)]
  simp

end Go.Proofs.Ytnpbckgaeaameaa
