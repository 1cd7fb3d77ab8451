/-
  The contracts of chapter 1 at texts that are told as lists of bytes.
-/
import Derived.Test.YtfjpbbacibfnmaaHash
import Derived.Test.YtfjpbbacibfnmaaTurned
namespace Go.Proofs.Ytfjpbbacibfnmaa
open Go.RowKit



theorem implHashX (l : List UInt8) (w : World) (hl : l.length ≤ 1048576) :
    Calls Try.prog 45 #[.string ⟨l.toArray⟩] w fun e w' => e = .returned (.int .i64 (hashL l)) ∧ w' = w :=
  implHash ⟨l.toArray⟩ w (by unfold maxLen; exact Nat.le_trans hl (by decide))

theorem specHashX (l : List UInt8) (w : World) (hl : l.length ≤ 1048576) :
    Calls Try.prog 23 #[.string ⟨l.toArray⟩] w fun e w' => e = .returned (.int .i64 (hashL l)) ∧ w' = w :=
  specHash ⟨l.toArray⟩ w (by unfold maxLen; exact Nat.le_trans hl (by decide))

theorem implHashC (l : List UInt8) (c : UInt8) (w : World) (hl : l.length ≤ 1048575) :
    Calls Try.prog 45 #[.string (⟨l.toArray⟩ ++ ⟨#[c]⟩)] w fun e w' => e = .returned (.int .i64 (hashL (l ++ [c]))) ∧ w' = w := by
  have e : (⟨l.toArray⟩ ++ ⟨#[c]⟩ : ByteArray) = ⟨(l ++ [c]).toArray⟩ := ba_ext (by simp)
  rw [e]
  exact implHashX (l ++ [c]) w (by simp; omega)

end Go.Proofs.Ytfjpbbacibfnmaa
