/-
  The contracts of chapter 5's specification: pieces, Lines, Words, NameOk.
-/
import Derived.Test.YtjkfjenhocaljaaMath5N
import Derived.Test.YtjkfjenhocaljaaOwn
import Derived.Test.YtjkfjenhocaljaaWordS
namespace Go.Proofs.Ytjkfjenhocaljaa
open Go.RowKit


end Go.Proofs.Ytjkfjenhocaljaa
