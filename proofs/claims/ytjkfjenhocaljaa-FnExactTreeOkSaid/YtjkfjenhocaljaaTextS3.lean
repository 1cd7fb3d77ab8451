/-
  The contracts of chapter 5's specification: a number is read; NumberOf.
-/
import Derived.Test.YtjkfjenhocaljaaTextS2
namespace Go.Proofs.Ytjkfjenhocaljaa
open Go.RowKit

/-- What is read of the digits from place i on, up to place k. -/
def valTo (t : List UInt8) (i k : Nat) : Nat := valL ((t.drop i).take (k - i))

theorem valTo_start (t : List UInt8) (i : Nat) : valTo t i i = 0 := by simp [valTo, valL]

theorem valTo_step (t : List UInt8) (i k : Nat) (hi : i ≤ k) (hk : k < t.length) : valTo t i (k + 1) = valTo t i k * 10 + (t[k].toNat - 48) := by
  unfold valTo
  rw [cut_snoc t i k hi hk, valL_snoc]

theorem valTo_end (t : List UInt8) (i : Nat) : valTo t i t.length = valL (t.drop i) := by
  unfold valTo
  rw [List.take_of_length_le (by rw [List.length_drop]; omega)]

theorem valTo_bd (t : List UInt8) (i k : Nat) (hi : i ≤ k) (hk : k ≤ t.length) (h10 : t.length - i ≤ 10) (h : ∀ j (hj : j < t.length), i ≤ j → j < k → isDig t[j]) : valTo t i k < 10000000000 := by
  unfold valTo
  have hd : ∀ c ∈ (t.drop i).take (k - i), isDig c := by
    intro c hc
    obtain ⟨j, hj, rfl⟩ := List.getElem_of_mem hc
    rw [List.length_take, List.length_drop] at hj
    rw [List.getElem_take, List.getElem_drop]
    exact h (i + j) (by omega) (by omega) (by omega)
  have h1 := valL_bd _ hd
  have h2 : ((t.drop i).take (k - i)).length ≤ 10 := by rw [List.length_take, List.length_drop]; omega
  have h3 : (10 : Nat) ^ ((t.drop i).take (k - i)).length ≤ 10 ^ 10 := Nat.pow_le_pow_right (by omega) h2
  omega

theorem body_drop (t : List UInt8) (i : Nat) (hi : (negB t = true ∧ i = 1) ∨ (negB t = false ∧ i = 0)) : bodyL t = t.drop i := by
  unfold bodyL
  rcases hi with ⟨h, rfl⟩ | ⟨h, rfl⟩
  · rw [if_pos h]; simp
  · rw [if_neg (by rw [h]; simp)]; simp

/-- The four ways in which a text is no number. -/
theorem form_short {t : List UInt8} {i : Nat} (hi : bodyL t = t.drop i) (h : ¬ (1 ≤ t.length - i ∧ t.length - i ≤ 10)) : ¬ formP t := fun hf => by
  have := hf.1
  rw [hi, List.length_drop] at this
  exact h this

theorem form_digit {t : List UInt8} {i k : Nat} (hi : bodyL t = t.drop i) (hik : i ≤ k) (hk : k < t.length) (h : ¬ isDig t[k]) : ¬ formP t := fun hf => by
  refine h (hf.2.1 t[k] ?_)
  rw [hi, List.mem_iff_getElem]
  exact ⟨k - i, by rw [List.length_drop]; omega, by rw [List.getElem_drop]; congr 1; omega⟩

theorem form_head {t : List UInt8} {i : Nat} (hi : bodyL t = t.drop i) (hl : i < t.length) : (bodyL t).head? = some t[i] := by
  rw [hi, List.head?_drop, List.getElem?_eq_getElem hl]

theorem form_yes {t : List UInt8} {i : Nat} (hi : bodyL t = t.drop i) (h1 : 1 ≤ t.length - i ∧ t.length - i ≤ 10) (h2 : ∀ j (hj : j < t.length), i ≤ j → isDig t[j]) (h3 : ¬ ((bodyL t).head? = some 48 ∧ 1 < t.length)) : formP t := by
  refine ⟨by rw [hi, List.length_drop]; exact h1, ?_, h3⟩
  intro c hc
  rw [hi] at hc
  obtain ⟨j, hj, rfl⟩ := List.getElem_of_mem hc
  rw [List.length_drop] at hj
  rw [List.getElem_drop]
  exact h2 (i + j) (by omega) (by omega)

theorem readV_no {t : List UInt8} (h : ¬ formP t) : readV t = 0 ∧ readB t = false := by
  unfold readV
  rw [readB_no h]
  exact ⟨if_neg (by simp), rfl⟩

theorem readV_yes {t : List UInt8} {i : Nat} (h : formP t) (hi : bodyL t = t.drop i) : readV t = (if negB t = true then -(valTo t i t.length : Int) else (valTo t i t.length : Int)) ∧ readB t = true := by
  unfold readV
  rw [if_pos (readB_yes h), hi, valTo_end]
  exact ⟨rfl, readB_yes h⟩


end Go.Proofs.Ytjkfjenhocaljaa
