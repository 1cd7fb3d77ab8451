/-
  A text is drawn.
-/
import Derived.Test.YtjkfjenhocaljaaOwn
import Derived.Test.YtjkfjenhocaljaaDraw2
namespace Go.Proofs.Ytjkfjenhocaljaa
open Go.RowKit


end Go.Proofs.Ytjkfjenhocaljaa
