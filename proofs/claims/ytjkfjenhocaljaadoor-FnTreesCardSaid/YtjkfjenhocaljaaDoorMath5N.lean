/-
  Plain facts for chapter 5: a number, as it is written and as it is read.
-/
import Derived.Test.YtjkfjenhocaljaaDoorMath5
namespace Go.Proofs.YtjkfjenhocaljaaDoor
open Go.RowKit

theorem snoc_ind {motive : List UInt8 → Prop} (nil : motive []) (snoc : ∀ l c, motive l → motive (l ++ [c])) (l : List UInt8) : motive l := by
  have h : ∀ r : List UInt8, motive r.reverse := by
    intro r
    induction r with
    | nil => exact nil
    | cons c r ih => rw [List.reverse_cons]; exact snoc _ _ ih
  have := h l.reverse
  rwa [List.reverse_reverse] at this

def digit (n : Nat) : UInt8 := UInt8.ofNat (48 + n % 10)

theorem digit_nat (n : Nat) : (digit n).toNat = 48 + n % 10 := by
  unfold digit
  rw [UInt8.toNat_ofNat']
  omega

/-- The decimal digits, without noughts ahead. -/
def digL (n : Nat) : List UInt8 := if n < 10 then [digit n] else digL (n / 10) ++ [digit n]
termination_by n
decreasing_by omega

theorem digL_ne (n : Nat) : digL n ≠ [] := by
  rw [digL]
  split <;> simp

theorem digL_small {n : Nat} (h : n < 10) : digL n = [digit n] := by rw [digL, if_pos h]
theorem digL_big {n : Nat} (h : 10 ≤ n) : digL n = digL (n / 10) ++ [digit n] := by rw [digL, if_neg (by omega)]

/-- What is still to be written ahead of s. -/
def digTo (n : Nat) (s : List UInt8) : List UInt8 := if n = 0 ∧ s ≠ [] then s else digL n ++ s

theorem digTo_start (n : Nat) : digTo n [] = digL n := by simp [digTo]
theorem digTo_end {s : List UInt8} (h : s ≠ []) : digTo 0 s = s := by simp [digTo, h]
theorem digTo_step (n : Nat) (s : List UInt8) (h : s = [] ∨ n ≠ 0) : digTo (n / 10) (digit n :: s) = digTo n s := by
  unfold digTo
  rw [if_neg (c := n = 0 ∧ s ≠ []) (by rcases h with h | h <;> simp [h])]
  by_cases hn : n < 10
  · rw [if_pos ⟨by omega, by simp⟩, digL_small hn]; rfl
  · rw [if_neg (by omega), digL_big (n := n) (by omega)]; simp

theorem digL_len : ∀ (k n : Nat), n < 10 ^ (k + 1) → (digL n).length ≤ k + 1
  | 0, n, h => by rw [digL_small (by simpa using h)]; simp
  | k + 1, n, h => by
    by_cases hn : n < 10
    · rw [digL_small hn]; simp
    · rw [digL_big (by omega)]
      have := digL_len k (n / 10) (by rw [Nat.pow_succ] at h; omega)
      simp; omega

theorem digTo_len (k N : Nat) (s : List UInt8) (h : digTo k s = digL N) (hN : (N : Int) ≤ 9223372036854775808) : s.length ≤ 19 := by
  have h1 : (digL N).length ≤ 19 := digL_len 18 N (by omega)
  rw [← h] at h1
  unfold digTo at h1
  split at h1
  · exact h1
  · rw [List.length_append] at h1; omega

def isDig (c : UInt8) : Prop := 48 ≤ c.toNat ∧ c.toNat ≤ 57
instance (c : UInt8) : Decidable (isDig c) := by unfold isDig; infer_instance

/-- What digits say. -/
def valL (l : List UInt8) : Nat := l.foldl (fun v c => v * 10 + (c.toNat - 48)) 0

theorem valL_snoc (l : List UInt8) (c : UInt8) : valL (l ++ [c]) = valL l * 10 + (c.toNat - 48) := by simp [valL, List.foldl_append]

theorem valL_bd (l : List UInt8) (h : ∀ c ∈ l, isDig c) : valL l < 10 ^ l.length := by
  induction l using snoc_ind with
  | nil => simp [valL]
  | snoc l c ih =>
    have h1 := ih (fun x hx => h x (List.mem_append_left _ hx))
    have h2 := h c (by simp)
    unfold isDig at h2
    rw [valL_snoc, List.length_append, List.length_singleton, Nat.pow_succ]
    omega

theorem digit_of (c : UInt8) (h : isDig c) (v : Nat) : digit (v * 10 + (c.toNat - 48)) = c := by
  apply UInt8.toNat_inj.1
  rw [digit_nat]
  unfold isDig at h
  omega

/-- Digits without a nought ahead are written again as they were. -/
theorem digL_valL (l : List UInt8) (hl : l ≠ []) (h : ∀ c ∈ l, isDig c) (h0 : l.head? = some 48 → l.length = 1) : digL (valL l) = l ∧ (1 < l.length → 1 ≤ valL l) := by
  induction l using snoc_ind with
  | nil => exact absurd rfl hl
  | snoc l c ih =>
    have hc := h c (by simp)
    have hcb := hc
    unfold isDig at hcb
    rw [valL_snoc]
    by_cases e : l = []
    · subst e
      have : valL [] = 0 := rfl
      rw [this, Nat.zero_mul, Nat.zero_add, digL_small (by omega)]
      refine ⟨?_, by simp⟩
      have := digit_of c hc 0
      rw [Nat.zero_mul, Nat.zero_add] at this
      rw [this]; rfl
    · have hd : ∀ x ∈ l, isDig x := fun x hx => h x (List.mem_append_left _ hx)
      have hh : l.head? ≠ some 48 := fun e2 => by
        have := h0 (by rw [List.head?_append, e2]; rfl)
        rw [List.length_append, List.length_singleton] at this
        have := List.length_pos_iff.2 e
        omega
      obtain ⟨i1, i2⟩ := ih e hd (fun e2 => absurd e2 hh)
      have hv : 1 ≤ valL l := by
        by_cases hl1 : 1 < l.length
        · exact i2 hl1
        · obtain ⟨x, rfl⟩ : ∃ x, l = [x] := List.length_eq_one_iff.1 (by have := List.length_pos_iff.2 e; omega)
          have hx := hd x (by simp)
          unfold isDig at hx
          have hx2 : x.toNat ≠ 48 := fun e3 => hh (by simp; exact UInt8.toNat_inj.1 e3)
          have : valL [x] = x.toNat - 48 := by simp [valL]
          omega
      refine ⟨?_, fun _ => by omega⟩
      rw [digL_big (by omega), digit_of c hc, show (valL l * 10 + (c.toNat - 48)) / 10 = valL l by omega, i1]

/-- Is it a minus ahead? -/
def negB (t : List UInt8) : Bool := t.head? == some 45
def bodyL (t : List UInt8) : List UInt8 := if negB t = true then t.tail else t

/-- The form of a number, and the number. -/
def formP (t : List UInt8) : Prop := (1 ≤ (bodyL t).length ∧ (bodyL t).length ≤ 10) ∧ (∀ c ∈ bodyL t, isDig c) ∧ ¬ ((bodyL t).head? = some 48 ∧ 1 < t.length)
open Classical in
noncomputable def readB (t : List UInt8) : Bool := decide (formP t)
noncomputable def readV (t : List UInt8) : Int := if readB t = true then (if negB t = true then -(valL (bodyL t) : Int) else (valL (bodyL t) : Int)) else 0
theorem readB_yes {t : List UInt8} (h : formP t) : readB t = true := by simp [readB, h]
theorem readB_no {t : List UInt8} (h : ¬ formP t) : readB t = false := by simp [readB, h]
theorem readB_iff {t : List UInt8} : readB t = true ↔ formP t := by unfold readB; simp

def intL (n : Int) : List UInt8 := if n < 0 then 45 :: digL n.natAbs else digL n.natAbs

theorem readV_bd (t : List UInt8) : -10000000000 < readV t ∧ readV t < 10000000000 := by
  unfold readV
  by_cases h : readB t = true
  · rw [if_pos h]
    obtain ⟨⟨_, h2⟩, h3, _⟩ := readB_iff.1 h
    have hv := valL_bd _ h3
    have : (10 : Nat) ^ (bodyL t).length ≤ 10 ^ 10 := Nat.pow_le_pow_right (by omega) h2
    split <;> omega
  · rw [if_neg h]; omega

/-- A number that is read is written again as it was. -/
theorem read_int (t : List UInt8) (h : readB t = true) : (0 ≤ readV t → digL (readV t).natAbs = t) ∧ (readV t < 0 → (45 : UInt8) :: digL (readV t).natAbs = t) := by
  have hf := readB_iff.1 h
  obtain ⟨⟨h1, h2⟩, h3, h4⟩ := hf
  have hne : bodyL t ≠ [] := fun e => by rw [e] at h1; simp at h1
  unfold readV
  rw [if_pos h]
  by_cases hn : negB t = true
  · rw [if_pos hn]
    have hb : bodyL t = t.tail := by unfold bodyL; rw [if_pos hn]
    have ht : t = 45 :: t.tail := by
      unfold negB at hn
      cases t with
      | nil => simp at hn
      | cons x r => simp at hn; rw [hn]; rfl
    have hlen : 1 < t.length := by rw [ht, ← hb]; simp; omega
    have hd := digL_valL (bodyL t) hne h3 (fun e => absurd ⟨e, hlen⟩ h4)
    have hpos : 1 ≤ valL (bodyL t) := by
      by_cases hl1 : 1 < (bodyL t).length
      · exact hd.2 hl1
      · obtain ⟨x, hx⟩ : ∃ x, bodyL t = [x] := List.length_eq_one_iff.1 (by omega)
        rw [hx]
        have hxd := h3 x (by rw [hx]; simp)
        unfold isDig at hxd
        have hx2 : x.toNat ≠ 48 := fun e => h4 ⟨by rw [hx]; simp; exact UInt8.toNat_inj.1 e, hlen⟩
        have : valL [x] = x.toNat - 48 := by simp [valL]
        omega
    refine ⟨fun h0 => by omega, fun _ => ?_⟩
    rw [show (-(valL (bodyL t) : Int)).natAbs = valL (bodyL t) by omega, hd.1, hb, ← ht]
  · rw [if_neg hn]
    have hb : bodyL t = t := by unfold bodyL; rw [if_neg hn]
    have hd := digL_valL (bodyL t) hne h3 (fun e => by rw [hb] at e h1 ⊢; rw [hb] at h4; have : ¬ 1 < t.length := fun x => h4 ⟨e, x⟩; omega)
    refine ⟨fun _ => ?_, fun h0 => by omega⟩
    rw [show ((valL (bodyL t) : Int)).natAbs = valL (bodyL t) by omega, hd.1, hb]

noncomputable def numB (t : List UInt8) : Bool := readB t && inB (readV t) (-2147483648) 2147483647
noncomputable def numV (t : List UInt8) : Int := if numB t = true then readV t else 0

theorem num_yes {t : List UInt8} (h1 : readB t = true) (h2 : inB (readV t) (-2147483648) 2147483647 = true) : numB t = true ∧ numV t = readV t := by
  have : numB t = true := by unfold numB; rw [h1, h2]; rfl
  exact ⟨this, by unfold numV; rw [if_pos this]⟩

theorem num_no {t : List UInt8} (h : readB t = false ∨ inB (readV t) (-2147483648) 2147483647 = false) : numB t = false ∧ numV t = 0 := by
  have : numB t = false := by unfold numB; rcases h with h | h <;> rw [h] <;> simp
  exact ⟨this, by unfold numV; rw [if_neg (by rw [this]; simp)]⟩

theorem numV_bd (t : List UInt8) : -2147483648 ≤ numV t ∧ numV t ≤ 2147483647 := by
  unfold numV
  split
  · rename_i h
    unfold numB at h
    rw [Bool.and_eq_true] at h
    have := of_decide_eq_true h.2
    omega
  · omega

theorem num_int (t : List UInt8) (h : numB t = true) : (0 ≤ numV t → digL (numV t).natAbs = t) ∧ (numV t < 0 → (45 : UInt8) :: digL (numV t).natAbs = t) := by
  have h1 : readB t = true := by unfold numB at h; rw [Bool.and_eq_true] at h; exact h.1
  have hv : numV t = readV t := by unfold numV; rw [if_pos h]
  rw [hv]
  exact read_int t h1

end Go.Proofs.YtjkfjenhocaljaaDoor
