/-
  HexOf's and FromHex's contracts at texts that are told as lists of bytes.
-/
import Derived.Test.YtdjbcjmnegjndaaHexOf
import Derived.Test.YtdjbcjmnegjndaaFromHex
namespace Go.Proofs.Ytdjbcjmnegjndaa
open Go.RowKit

theorem implHexOfX (n : Int) (s : List UInt8) (w : World) (h : hexS n = s) :
    Calls Try.prog 28 #[.int .i64 n] w fun e w' => e = .returned (.string ⟨s.toArray⟩) ∧ Below w.heap.size w w' := by
  subst h; exact implHexOf n w


theorem implFromHexX (t : List UInt8) (x : Int) (b : Bool) (w : World) (hx : fromN t = x) (hb : fromB t = b) :
    Calls Try.prog 45 #[.string ⟨t.toArray⟩] w fun e w' => e = .returned (.tuple #[.int .i64 x, .bool b]) ∧ w' = w := by
  subst hx hb; exact implFromHex ⟨t.toArray⟩ w

theorem specFromHexX (t : List UInt8) (x : Int) (b : Bool) (w : World) (hx : fromN t = x) (hb : fromB t = b) :
    Calls Try.prog 47 #[.string ⟨t.toArray⟩] w fun e w' => e = .returned (.tuple #[.int .i64 x, .bool b]) ∧ w' = w := by
  subst hx hb; exact specFromHex ⟨t.toArray⟩ w

end Go.Proofs.Ytdjbcjmnegjndaa
