/-
  Plain facts for Frames: frames one right behind the other.
-/
import Derived.Test.YtdjbcjmnegjndaaMath2F
namespace Go.Proofs.Ytdjbcjmnegjndaa

def framesGo : Nat → List UInt8 → List (List UInt8)
  | 0, _ => []
  | k + 1, l => if firstB l = true then firstT l :: framesGo k (l.drop (16 + (firstT l).length)) else []

def framesU : List (List UInt8) → Nat
  | [] => 0
  | t :: r => 16 + t.length + framesU r

def framesL (l : List UInt8) : List (List UInt8) := framesGo 400 l

theorem framesGo_no (k : Nat) (l : List UInt8) (h : firstB l = false) : framesGo k l = [] := by
  cases k with
  | zero => rfl
  | succ k => unfold framesGo; rw [h]; rfl

theorem framesGo_yes (k : Nat) (l : List UInt8) (h : firstB l = true) : framesGo (k + 1) l = firstT l :: framesGo k (l.drop (16 + (firstT l).length)) := by
  conv => lhs; unfold framesGo
  rw [if_pos h]

theorem framesU_snoc (o : List (List UInt8)) (t : List UInt8) : framesU (o ++ [t]) = framesU o + (16 + t.length) := by
  induction o with
  | nil => simp [framesU]
  | cons a r ih => simp only [List.cons_append, framesU, ih]; omega

theorem first_fits (t : List UInt8) (h : firstB t = true) : 16 + (firstT t).length ≤ t.length := by
  have hf := first_is t h
  have e := congrArg List.length hf.2.2
  rw [List.length_append, framedL_len] at e
  omega

/-- One round of the loop. -/
theorem frames_step (l : List UInt8) (o : List (List UInt8)) (u : Nat) (ho : o.length < 400) (hu : u = framesU o) (hle : u ≤ l.length) (h : o ++ framesGo (400 - o.length) (l.drop u) = framesL l) (hb : firstB (l.drop u) = true) :
    (o ++ [firstT (l.drop u)]) ++ framesGo (400 - (o ++ [firstT (l.drop u)]).length) (l.drop (u + (16 + (firstT (l.drop u)).length))) = framesL l ∧ u + (16 + (firstT (l.drop u)).length) = framesU (o ++ [firstT (l.drop u)]) ∧ u + (16 + (firstT (l.drop u)).length) ≤ l.length := by
  have hfit := first_fits _ hb
  rw [List.length_drop] at hfit
  refine ⟨?_, by rw [framesU_snoc, ← hu], by omega⟩
  rw [← h, List.append_assoc, List.length_append, List.length_singleton]
  obtain ⟨k, hk⟩ : ∃ k, 400 - o.length = k + 1 := ⟨400 - o.length - 1, by omega⟩
  rw [hk, framesGo_yes k _ hb, List.drop_drop, show 400 - (o.length + 1) = k by omega]
  rfl

theorem framesGo_len (k : Nat) (l : List UInt8) : (framesGo k l).length ≤ k := by
  induction k generalizing l with
  | zero => exact Nat.le_refl _
  | succ k ih =>
    unfold framesGo
    split
    · rw [List.length_cons]; have := ih (l.drop (16 + (firstT l).length)); omega
    · exact Nat.zero_le _
theorem framesL_len (l : List UInt8) : (framesL l).length ≤ 400 := framesGo_len 400 l

def strV (ls : List (List UInt8)) : List Value := ls.map (fun l => Value.string ⟨l.toArray⟩)
theorem strV_snoc (o : List (List UInt8)) (t : List UInt8) : strV o ++ [.string ⟨t.toArray⟩] = strV (o ++ [t]) := by simp [strV]
theorem strV_len (o : List (List UInt8)) : (strV o).length = o.length := by simp [strV]

end Go.Proofs.Ytdjbcjmnegjndaa
