/-
  Plain facts for chapter 3: a text in pieces.
-/
import Derived.Test.YtjkfjenhocaljaaDoorMath1
namespace Go.Proofs.YtjkfjenhocaljaaDoor
open Go.RowKit

def chunksGo : Nat → Nat → List UInt8 → List (List UInt8)
  | 0, _, _ => []
  | f + 1, n, l => if l = [] then [] else l.take n :: chunksGo f n (l.drop n)

def chunksL (l : List UInt8) (size : Int) : List (List UInt8) := if size < 1 then [] else chunksGo l.length size.toNat l

theorem chunksGo_nil (f n : Nat) : chunksGo f n [] = [] := by cases f <;> simp [chunksGo]

theorem chunksGo_fuel (n : Nat) (hn : 1 ≤ n) : ∀ (f g : Nat) (l : List UInt8), l.length ≤ f → l.length ≤ g → chunksGo f n l = chunksGo g n l
  | 0, g, l, h, _ => by
    have : l = [] := List.eq_nil_of_length_eq_zero (by omega)
    subst this; rw [chunksGo_nil, chunksGo_nil]
  | f + 1, 0, l, _, h => by
    have : l = [] := List.eq_nil_of_length_eq_zero (by omega)
    subst this; rw [chunksGo_nil, chunksGo_nil]
  | f + 1, g + 1, l, hf, hg => by
    by_cases hl : l = []
    · subst hl; rw [chunksGo_nil, chunksGo_nil]
    · have hp : 0 < l.length := List.length_pos_iff.2 hl
      rw [chunksGo, chunksGo, if_neg hl, if_neg hl, chunksGo_fuel n hn f g (l.drop n) (by rw [List.length_drop]; omega) (by rw [List.length_drop]; omega)]

/-- One round of the loop: m bytes are cut, n or what is left. -/
theorem chunk_step (n m : Nat) (r : List UInt8) (hn : 1 ≤ n) (hr : r ≠ []) (hm : m = n ∨ (m = r.length ∧ m ≤ n)) : chunksGo r.length n r = r.take m :: chunksGo (r.drop m).length n (r.drop m) := by
  have hp : 0 < r.length := List.length_pos_iff.2 hr
  obtain ⟨k, hk⟩ : ∃ k, r.length = k + 1 := ⟨r.length - 1, by omega⟩
  have e1 : r.take m = r.take n := by
    rcases hm with rfl | ⟨rfl, h⟩
    · rfl
    · rw [List.take_of_length_le (Nat.le_refl _), List.take_of_length_le h]
  have e2 : r.drop m = r.drop n := by
    rcases hm with rfl | ⟨rfl, h⟩
    · rfl
    · rw [List.drop_eq_nil_of_le (Nat.le_refl _), List.drop_eq_nil_of_le h]
  rw [hk, chunksGo, if_neg hr, e1, e2, chunksGo_fuel n hn k (r.drop n).length (r.drop n) (by rw [List.length_drop]; omega) (Nat.le_refl _)]

theorem chunks_len (n : Nat) : ∀ (f : Nat) (l : List UInt8), (chunksGo f n l).length ≤ f
  | 0, _ => by simp [chunksGo]
  | f + 1, l => by
    rw [chunksGo]
    split
    · simp
    · have := chunks_len n f (l.drop n)
      simp; omega

theorem chunksL_len (l : List UInt8) (size : Int) : (chunksL l size).length ≤ l.length := by
  unfold chunksL
  split
  · simp
  · exact chunks_len _ _ _

theorem chunks_join (n : Nat) (hn : 1 ≤ n) : ∀ (f : Nat) (l : List UInt8), l.length ≤ f → (chunksGo f n l).flatten = l
  | 0, l, h => by
    have : l = [] := List.eq_nil_of_length_eq_zero (by omega)
    subst this; rfl
  | f + 1, l, h => by
    by_cases hl : l = []
    · subst hl; rw [chunksGo_nil]; rfl
    · have hp : 0 < l.length := List.length_pos_iff.2 hl
      rw [chunksGo, if_neg hl, List.flatten_cons, chunks_join n hn f (l.drop n) (by rw [List.length_drop]; omega), List.take_append_drop]

/-- A piece is not empty, no longer than it should be, and just so long but for the last. -/
theorem chunks_at (n : Nat) (hn : 1 ≤ n) : ∀ (f : Nat) (l : List UInt8), l.length ≤ f → ∀ i, i < (chunksGo f n l).length →
    (chunksGo f n l).getD i [] ≠ [] ∧ ((chunksGo f n l).getD i []).length ≤ n ∧ (i + 1 < (chunksGo f n l).length → ((chunksGo f n l).getD i []).length = n)
  | 0, l, h, i, hi => by simp [chunksGo] at hi
  | f + 1, l, h, i, hi => by
    by_cases hl : l = []
    · subst hl; rw [chunksGo_nil] at hi; simp at hi
    · have hp : 0 < l.length := List.length_pos_iff.2 hl
      have hd : (l.drop n).length ≤ f := by rw [List.length_drop]; omega
      have e : chunksGo (f + 1) n l = l.take n :: chunksGo f n (l.drop n) := by rw [chunksGo, if_neg hl]
      rw [e] at hi ⊢
      cases i with
      | zero =>
        refine ⟨?_, ?_, fun h1 => ?_⟩
        · simp [List.getD]
          exact ⟨by omega, hl⟩
        · simp [List.getD]; omega
        · simp [List.getD]
          rcases Nat.lt_or_ge l.length n with h2 | h2
          · rw [List.drop_eq_nil_of_le (by omega), chunksGo_nil] at h1
            simp at h1
          · omega
      | succ i =>
        have := chunks_at n hn f (l.drop n) hd i (by simpa using hi)
        simpa [List.getD] using this

end Go.Proofs.YtjkfjenhocaljaaDoor
