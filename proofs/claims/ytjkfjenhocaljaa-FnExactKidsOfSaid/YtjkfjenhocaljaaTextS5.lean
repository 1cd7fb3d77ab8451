/-
  The contract of l1Int: a number is written, with a minus ahead below 0.
-/
import Derived.Test.YtjkfjenhocaljaaTextS4
namespace Go.Proofs.Ytjkfjenhocaljaa
open Go.RowKit


end Go.Proofs.Ytjkfjenhocaljaa
