/-
  The contracts of chapter 4's specification: WordOk, Wrap, Done.
-/
import Derived.Test.YtjkfjenhocaljaaDoorMath4
import Derived.Test.YtjkfjenhocaljaaDoorHexOf
namespace Go.Proofs.YtjkfjenhocaljaaDoor
open Go.RowKit

set_option maxHeartbeats 400000 in
set_option maxRecDepth 100000 in
theorem specWordOk (n : Int) (w : World) : Calls Tryd.prog 45 #[.int .i64 n] w fun e w' => e = .returned (.bool (inB n (-2147483648) 2147483647)) ∧ w' = w := by
  go_enter Tryd.func45, Tryd.ntmps45
  go_wp2_with (go_at_call 42; refine (specIn _ _ _ _).mono ?_; rintro e w' ⟨rfl, rfl⟩)
  go_ret
  exact ⟨rfl, rfl⟩


theorem ret_ib {m n : Int} {c d : Bool} (h : m = n) (j : c = d) : Ending.returned (.tuple #[.int .i64 m, .bool c]) = .returned (.tuple #[.int .i64 n, .bool d]) := by rw [h, j]



end Go.Proofs.YtjkfjenhocaljaaDoor
