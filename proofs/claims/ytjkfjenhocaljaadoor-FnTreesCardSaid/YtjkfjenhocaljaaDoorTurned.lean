/-
  The contracts of spec.Turned and impl.Turned.
-/
import Derived.Test.YtjkfjenhocaljaaDoorRows
import Derived.Test.YtjkfjenhocaljaaDoorMath1
import Derived.Test.YtjkfjenhocaljaaDoorMathT
import Derived.Test.YtjkfjenhocaljaaDoorHexOf
import Derived.WalkKit
import Derived.WalkLawsBesides
import Derived.Laws.IdiomStrings
import Derived.Laws.Concat
import Derived.OpenShut
import Derived.Handy
namespace Go.Proofs.YtjkfjenhocaljaaDoor
open Go.RowKit

theorem back1 (t : Int) (h2 : 0 ≤ t) (h3 : t ≤ 255) (W : World) :
    (convert 22 9 (.slice (some ⟨W.heap.size, 0, none⟩) 1 1)).run Tryd.prog (W.alloc (.cells #[.int .u8 t] 5)).drew = .ok (.string ⟨#[UInt8.ofNat t.toNat]⟩) (W.alloc (.cells #[.int .u8 t] 5)).drew := by
  have ht : ((UInt8.ofNat t.toNat).toNat : Int) = t := by
    rw [UInt8.toNat_ofNat']; omega
  have h := run_convert_bytes_back (P := Tryd.prog) (W.alloc (.cells #[.int .u8 t] 5)).drew 22 9 5 ⟨W.heap.size, 0, none⟩ 1 [UInt8.ofNat t.toNat] Tryd.underlying22 Tryd.underlying5 Tryd.underlying9 (by
    intro j hj
    have hj' : j < 1 := by simpa using hj
    match j, hj' with
    | 0, _ => simp only [List.getElem_cons_zero, ht]; simp [Addr.add, go_sem])
  exact h



end Go.Proofs.YtjkfjenhocaljaaDoor
