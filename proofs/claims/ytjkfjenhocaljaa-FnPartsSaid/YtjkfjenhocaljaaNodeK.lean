/-
  likeTree: two rows of nodes compared node by node.
-/
import Derived.Test.YtjkfjenhocaljaaNodeL
import Derived.Test.YtjkfjenhocaljaaDraw
namespace Go.Proofs.Ytjkfjenhocaljaa
open Go.RowKit


end Go.Proofs.Ytjkfjenhocaljaa
