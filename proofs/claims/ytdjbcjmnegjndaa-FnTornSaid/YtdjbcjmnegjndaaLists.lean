/-
  The contracts of chapter 1 at texts that are told as lists of bytes.
-/
import Derived.Test.YtdjbcjmnegjndaaHash
import Derived.Test.YtdjbcjmnegjndaaTurned
namespace Go.Proofs.Ytdjbcjmnegjndaa
open Go.RowKit


theorem specTurnedX (l x : List UInt8) (p q : Int) (w : World) (hx : turnedL l p q = x) (hl : l.length ≤ 1048576) :
    Calls Try.prog 16 #[.string ⟨l.toArray⟩, .int .i64 p, .int .i64 q] w fun e w' => e = .returned (.string ⟨x.toArray⟩) ∧ Below w.heap.size w w' := by
  subst hx; exact specTurned ⟨l.toArray⟩ p q w hl

theorem implHashX (l : List UInt8) (w : World) (hl : l.length ≤ 1048576) :
    Calls Try.prog 29 #[.string ⟨l.toArray⟩] w fun e w' => e = .returned (.int .i64 (hashL l)) ∧ w' = w :=
  implHash ⟨l.toArray⟩ w (by unfold maxLen; exact Nat.le_trans hl (by decide))

theorem specHashX (l : List UInt8) (w : World) (hl : l.length ≤ 1048576) :
    Calls Try.prog 44 #[.string ⟨l.toArray⟩] w fun e w' => e = .returned (.int .i64 (hashL l)) ∧ w' = w :=
  specHash ⟨l.toArray⟩ w (by unfold maxLen; exact Nat.le_trans hl (by decide))

theorem implHashC (l : List UInt8) (c : UInt8) (w : World) (hl : l.length ≤ 1048575) :
    Calls Try.prog 29 #[.string (⟨l.toArray⟩ ++ ⟨#[c]⟩)] w fun e w' => e = .returned (.int .i64 (hashL (l ++ [c]))) ∧ w' = w := by
  have e : (⟨l.toArray⟩ ++ ⟨#[c]⟩ : ByteArray) = ⟨(l ++ [c]).toArray⟩ := ba_ext (by simp)
  rw [e]
  exact implHashX (l ++ [c]) w (by simp; omega)

end Go.Proofs.Ytdjbcjmnegjndaa
