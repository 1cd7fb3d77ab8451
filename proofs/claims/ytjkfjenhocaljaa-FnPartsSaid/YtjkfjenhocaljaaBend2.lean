/-
  The contract of l1Bend: a text that is bent at most twice.
-/
import Derived.Test.YtjkfjenhocaljaaBend1
import Derived.Deep.DrawnRows
namespace Go.Proofs.Ytjkfjenhocaljaa
open Go.RowKit


end Go.Proofs.Ytjkfjenhocaljaa
