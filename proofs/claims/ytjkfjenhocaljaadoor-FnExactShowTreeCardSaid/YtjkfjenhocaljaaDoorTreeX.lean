/-
  Small facts for the walks of stage 6.
-/
import Derived.Test.YtjkfjenhocaljaaDoorTreeS6
namespace Go.Proofs.YtjkfjenhocaljaaDoor
open Go.RowKit

theorem own_ne3 {v v2 : Value} (hd : ∀ q, v.ownBlock = some q → v2.ownBlock = some q → False) : v.ownBlock = none ∨ v.ownBlock ≠ v2.ownBlock := by
  rcases hv : v.ownBlock with _ | q
  · exact Or.inl rfl
  · exact Or.inr (fun e => hd q hv e.symm)

theorem partsV_len (l : List Nd) (a : Int) : (partsV l a).length ≤ 3 := by
  unfold partsV
  split
  · simp
  · rename_i hneg
    have hin2 : ¬ (a < 0 ∨ (l.length : Int) ≤ a) := fun h => hneg (by rw [endV_out l a h]; omega)
    obtain ⟨k, rfl⟩ : ∃ k : Nat, a = (k : Int) := Int.eq_ofNat_of_zero_le (by omega)
    obtain ⟨_, hnb, _⟩ := end_parts (by omega : 0 ≤ endV l (k : Int))
    rw [partsGo_len]
    exact (@kidsV_ok _ hnb).2

theorem readTV_len (s : List UInt8) : (readTV s).length ≤ 60 := by
  unfold readTV
  split
  · rename_i h
    unfold readOk at h
    simp only [Bool.and_eq_true] at h
    exact (tree_end h.2.1).1.2
  · simp

end Go.Proofs.YtjkfjenhocaljaaDoor
