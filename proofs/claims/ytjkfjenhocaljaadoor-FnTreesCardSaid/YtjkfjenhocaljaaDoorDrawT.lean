/-
  A text is drawn.
-/
import Derived.Test.YtjkfjenhocaljaaDoorOwn
import Derived.Test.YtjkfjenhocaljaaDoorDraw2
namespace Go.Proofs.YtjkfjenhocaljaaDoor
open Go.RowKit


end Go.Proofs.YtjkfjenhocaljaaDoor
