/-
  Plain facts for chapter 5 (texts): pieces between bytes, names, numbers.
-/
import Derived.Test.YtjkfjenhocaljaaDoorMath4
namespace Go.Proofs.YtjkfjenhocaljaaDoor
open Go.RowKit

/-- The pieces between bytes b, where cur was read already. -/
def splitGo (b : UInt8) : List UInt8 → List UInt8 → List (List UInt8)
  | cur, [] => [cur]
  | cur, c :: r => if c = b then cur :: splitGo b [] r else splitGo b (cur ++ [c]) r

def splitL (b : UInt8) (l : List UInt8) : List (List UInt8) := splitGo b [] l

theorem splitGo_ne (b : UInt8) (l : List UInt8) : ∀ cur, splitGo b cur l ≠ [] := by
  induction l with
  | nil => intro cur; simp [splitGo]
  | cons c r ih => intro cur; rw [splitGo]; split <;> simp [ih]

theorem splitGo_len (b : UInt8) (l : List UInt8) : ∀ cur, (splitGo b cur l).length ≤ l.length + 1 := by
  induction l with
  | nil => intro cur; simp [splitGo]
  | cons c r ih =>
    intro cur
    rw [splitGo]
    split
    · have := ih []; simp; omega
    · have := ih (cur ++ [c]); simp; omega

theorem splitGo_flat (b : UInt8) (l : List UInt8) : ∀ cur, (splitGo b cur l).flatten.length ≤ cur.length + l.length := by
  induction l with
  | nil => intro cur; simp [splitGo]
  | cons c r ih =>
    intro cur
    rw [splitGo]
    split
    · have := ih []; rw [List.flatten_cons, List.length_append]; simp at this ⊢; omega
    · have := ih (cur ++ [c]); rw [List.length_append] at this; simp at this ⊢; omega

/-- Joined by that byte they are the text. -/
def joinBy (b : UInt8) : List (List UInt8) → List UInt8
  | [] => []
  | [x] => x
  | x :: y :: r => x ++ [b] ++ joinBy b (y :: r)

theorem joinBy_cons (b : UInt8) (x : List UInt8) (r : List (List UInt8)) (h : r ≠ []) : joinBy b (x :: r) = x ++ [b] ++ joinBy b r := by
  cases r with
  | nil => exact absurd rfl h
  | cons y q => rfl

theorem joinBy_split (b : UInt8) (l : List UInt8) : ∀ cur, joinBy b (splitGo b cur l) = cur ++ l := by
  induction l with
  | nil => intro cur; simp [splitGo, joinBy]
  | cons c r ih =>
    intro cur
    rw [splitGo]
    split
    · rename_i h
      rw [joinBy_cons b cur _ (splitGo_ne b r []), ih, h]
      simp
    · rw [ih]; simp

/-- Each with a byte 10 behind it. -/
def termJ (ls : List (List UInt8)) : List UInt8 := (ls.map (· ++ [10])).flatten

theorem termJ_snoc (ls : List (List UInt8)) (x : List UInt8) : termJ (ls ++ [x]) = termJ ls ++ x ++ [10] := by simp [termJ]

theorem joinBy_term (ls : List (List UInt8)) (x : List UInt8) : joinBy 10 (ls ++ [x]) = termJ ls ++ x := by
  induction ls with
  | nil => simp [joinBy, termJ]
  | cons y r ih =>
    rw [List.cons_append, joinBy_cons 10 y (r ++ [x]) (by simp), ih]
    simp [termJ]

def linesL (l : List UInt8) : List (List UInt8) := if (splitL 10 l).getLastD [] = [] then (splitL 10 l).dropLast else splitL 10 l

theorem lines_join (l : List UInt8) : termJ (linesL l) = l ∨ termJ (linesL l) = l ++ [10] := by
  have hne := splitGo_ne 10 l []
  have hj := joinBy_split 10 l []
  rw [List.nil_append] at hj
  have hs : splitL 10 l = (splitL 10 l).dropLast ++ [(splitL 10 l).getLastD []] := by
    have h : splitL 10 l ≠ [] := hne
    have h2 := List.dropLast_concat_getLast h
    rw [← h2]
    simp [List.getLastD_eq_getLast?]
  have hj2 : joinBy 10 (splitL 10 l) = l := hj
  rw [hs, joinBy_term] at hj2
  unfold linesL
  split
  · rename_i h
    rw [h, List.append_nil] at hj2
    exact Or.inl hj2
  · right
    rw [hs, termJ_snoc, hj2]

def wordsL (l : List UInt8) : List (List UInt8) := if l = [] then [] else splitL 32 l

theorem words_join (l : List UInt8) : joinBy 32 (wordsL l) = l := by
  unfold wordsL
  split
  · rename_i h; rw [h]; rfl
  · have := joinBy_split 32 l []; rw [List.nil_append] at this; exact this

theorem linesL_len (l : List UInt8) : (linesL l).length ≤ l.length + 1 := by
  have := splitGo_len 10 l []
  unfold linesL splitL
  split
  · rw [List.length_dropLast]; omega
  · exact this

theorem wordsL_len (l : List UInt8) : (wordsL l).length ≤ l.length + 1 := by
  have := splitGo_len 32 l []
  unfold wordsL splitL
  split
  · simp
  · exact this

/-- One step over a text, from its left. -/
theorem split_hit (b : UInt8) (l : List UInt8) (out : List (List UInt8)) (cur : List UInt8) (i : Nat) (hi : i < l.length) (he : l[i] = b) (h : out ++ splitGo b cur (l.drop i) = splitL b l) : (out ++ [cur]) ++ splitGo b [] (l.drop (i + 1)) = splitL b l := by
  rw [List.drop_eq_getElem_cons hi, splitGo, if_pos he] at h
  rw [← h]; simp

theorem split_miss (b : UInt8) (l : List UInt8) (out : List (List UInt8)) (cur : List UInt8) (i : Nat) (hi : i < l.length) (he : ¬ l[i] = b) (h : out ++ splitGo b cur (l.drop i) = splitL b l) : out ++ splitGo b (cur ++ [l[i]]) (l.drop (i + 1)) = splitL b l := by
  rw [List.drop_eq_getElem_cons hi, splitGo, if_neg he] at h
  exact h

theorem split_end (b : UInt8) (l : List UInt8) (out : List (List UInt8)) (cur : List UInt8) (h : out ++ splitGo b cur (l.drop l.length) = splitL b l) : out ++ [cur] = splitL b l := by
  rw [List.drop_length, splitGo] at h
  exact h

/-- The text between two places. -/
theorem cut_snoc (l : List UInt8) (f i : Nat) (hf : f ≤ i) (hi : i < l.length) : (l.drop f).take (i + 1 - f) = (l.drop f).take (i - f) ++ [l[i]] := by
  have hlt : i - f < (l.drop f).length := by rw [List.length_drop]; omega
  rw [show i + 1 - f = i - f + 1 by omega, List.take_succ_eq_append_getElem hlt, List.getElem_drop]
  congr 2
  congr 1
  omega

/-- Names. -/
def nameB (l : List UInt8) : Bool := decide (1 ≤ l.length ∧ l.length ≤ 8) && l.all (fun c => decide (97 ≤ c.toNat ∧ c.toNat ≤ 122))

theorem name_all (l : List UInt8) (k : Nat) (hk : k < l.length) : (l.take (k + 1)).all (fun c => decide (97 ≤ c.toNat ∧ c.toNat ≤ 122)) = ((l.take k).all (fun c => decide (97 ≤ c.toNat ∧ c.toNat ≤ 122)) && decide (97 ≤ l[k].toNat ∧ l[k].toNat ≤ 122)) := by
  rw [List.take_succ_eq_append_getElem hk, List.all_append]
  simp

theorem name_bad (l : List UInt8) (k : Nat) (hk : k < l.length) (h : ¬ (97 ≤ l[k].toNat ∧ l[k].toNat ≤ 122)) : nameB l = false := by
  unfold nameB
  have : l.all (fun c => decide (97 ≤ c.toNat ∧ c.toNat ≤ 122)) = false := by
    rw [List.all_eq_false]
    exact ⟨l[k], List.getElem_mem hk, by simpa using h⟩
  rw [this, Bool.and_false]

theorem name_good (l : List UInt8) (h : ∀ k (hk : k < l.length), 97 ≤ l[k].toNat ∧ l[k].toNat ≤ 122) : nameB l = inB (l.length : Int) 1 8 := by
  have : l.all (fun c => decide (97 ≤ c.toNat ∧ c.toNat ≤ 122)) = true := by
    rw [List.all_eq_true]
    intro c hc
    obtain ⟨k, hk, rfl⟩ := List.getElem_of_mem hc
    exact decide_eq_true (h k hk)
  unfold nameB inB
  rw [this, Bool.and_true]
  exact decide_eq_decide.2 (by omega)

end Go.Proofs.YtjkfjenhocaljaaDoor
