/-
  Chapter 2's contracts with their answers as letters.
-/
import Derived.Test.YtdjbcjmnegjndaaFrameS
import Derived.Test.YtdjbcjmnegjndaaFrameI
import Derived.Test.YtdjbcjmnegjndaaMath2F
namespace Go.Proofs.Ytdjbcjmnegjndaa
open Go.RowKit

theorem implFramedX (l f : List UInt8) (w : World) (hl : l.length ≤ 1048576) (hf : framedS l = f) :
    Calls Try.prog 10 #[.string ⟨l.toArray⟩] w fun e w' => e = .returned (.string ⟨f.toArray⟩) ∧ Below w.heap.size w w' := by
  subst hf; exact implFramed l w hl

theorem specFramedX (l f : List UInt8) (w : World) (hl : l.length ≤ 1048576) (hf : framedS l = f) :
    Calls Try.prog 14 #[.string ⟨l.toArray⟩] w fun e w' => e = .returned (.string ⟨f.toArray⟩) ∧ Below w.heap.size w w' := by
  subst hf; exact specFramed l w hl

theorem implUnframedX (t x : List UInt8) (b : Bool) (w : World) (hl : t.length ≤ 1048576) (hx : unframedT t = x) (hb : unframedB t = b) :
    Calls Try.prog 12 #[.string ⟨t.toArray⟩] w fun e w' => e = .returned (.tuple #[.string ⟨x.toArray⟩, .bool b]) ∧ Below w.heap.size w w' := by
  subst hx hb; exact implUnframed t w hl

theorem specUnframedX (t x : List UInt8) (b : Bool) (w : World) (hl : t.length ≤ 1048576) (hx : unframedT t = x) (hb : unframedB t = b) :
    Calls Try.prog 13 #[.string ⟨t.toArray⟩] w fun e w' => e = .returned (.tuple #[.string ⟨x.toArray⟩, .bool b]) ∧ w' = w := by
  subst hx hb; exact specUnframed t w hl

end Go.Proofs.Ytdjbcjmnegjndaa
