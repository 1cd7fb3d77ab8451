/-
  DERIVED. GIVEN WITH THE SEED: THE PROGRAM's TIES (one call each: nine closed facts by the kernel) AND EACH ROW's TIE, after the 31st guide's Derived/Test/Toyas{Tie, Card}.lean. No idea stands in it: it is a product of the set-up. Laid BY PROGRAM, IN A SANDBOX (cutbox-door.mjs). By AI agents, Wed Nov 11 2026. No macro, syntax, notation, axiom, sorry.
-/
import Derived.Test.YtponeoijfaepnaaGreatDoorRows
import Derived.LaidByTextLater
import Derived.SevenTiedAt
import Derived.LaidSub
import Derived.LaidOnce
namespace Go.Proofs.YtponeoijfaepnaaGreatDoor
open Go
set_option maxRecDepth 100000
theorem seatTie1 : Tryz.prog.laidByTextLater [("math/bits.deBruijn32tab", Rows.laid_math_bits_deBruijn32tab), ("math/bits.deBruijn64tab", Rows.laid_math_bits_deBruijn64tab), ("internal/strconv.uint64pow10", Rows.laid_internal_strconv_uint64pow10), ("errors.errorType", Rows.laid_errors_errorType), ("loop.example/g00346/impl.errNotTold", Rows.laid_loop_example_g00346_impl_errNotTold), ("loop.example/g00346/impl.errFar", Rows.laid_loop_example_g00346_impl_errFar), ("loop.example/g00346/impl.errFunc", Rows.laid_loop_example_g00346_impl_errFunc), ("loop.example/g00346/impl.errCount", Rows.laid_loop_example_g00346_impl_errCount), ("loop.example/g00346/impl.errImport", Rows.laid_loop_example_g00346_impl_errImport), ("loop.example/g00346/impl.errRing", Rows.laid_loop_example_g00346_impl_errRing), ("loop.example/g00346/impl.errArg", Rows.laid_loop_example_g00346_impl_errArg), ("loop.example/g00346/impl.errMain", Rows.laid_loop_example_g00346_impl_errMain)] [.data, .data, .data, .handle, .sentinel, .sentinel, .sentinel, .sentinel, .sentinel, .sentinel, .sentinel, .sentinel] true :=
  Program.laidByTextLater_by_one 183 8 65 (by kernel_rfl) (by kernel_rfl) (by kernel_rfl) (by kernel_rfl) (by kernel_rfl) (by kernel_rfl) (fun _ _ => by kernel_rfl)
theorem noOwnUnsafe : Tryz.pinned.checked.prog.headLifts.contains "ownunsafe" = false := by kernel_rfl
theorem tie : Tryz.prog.laidByTextLater [("math/bits.deBruijn32tab", Rows.laid_math_bits_deBruijn32tab), ("math/bits.deBruijn64tab", Rows.laid_math_bits_deBruijn64tab), ("internal/strconv.uint64pow10", Rows.laid_internal_strconv_uint64pow10), ("errors.errorType", Rows.laid_errors_errorType), ("loop.example/g00346/impl.errNotTold", Rows.laid_loop_example_g00346_impl_errNotTold), ("loop.example/g00346/impl.errFar", Rows.laid_loop_example_g00346_impl_errFar), ("loop.example/g00346/impl.errFunc", Rows.laid_loop_example_g00346_impl_errFunc), ("loop.example/g00346/impl.errCount", Rows.laid_loop_example_g00346_impl_errCount), ("loop.example/g00346/impl.errImport", Rows.laid_loop_example_g00346_impl_errImport), ("loop.example/g00346/impl.errRing", Rows.laid_loop_example_g00346_impl_errRing), ("loop.example/g00346/impl.errArg", Rows.laid_loop_example_g00346_impl_errArg), ("loop.example/g00346/impl.errMain", Rows.laid_loop_example_g00346_impl_errMain)] [.data, .data, .data, .handle, .sentinel, .sentinel, .sentinel, .sentinel, .sentinel, .sentinel, .sentinel, .sentinel] true :=
  Program.laidByTextLater.sub seatTie1 ["math/bits.deBruijn32tab", "math/bits.deBruijn64tab", "internal/strconv.uint64pow10", "errors.errorType", "loop.example/g00346/impl.errNotTold", "loop.example/g00346/impl.errFar", "loop.example/g00346/impl.errFunc", "loop.example/g00346/impl.errCount", "loop.example/g00346/impl.errImport", "loop.example/g00346/impl.errRing", "loop.example/g00346/impl.errArg", "loop.example/g00346/impl.errMain"] (by kernel_rfl) (by kernel_rfl)
theorem fnDesk_row_tie : Rows.fnDeskRow.laidByTextAt .later Tryz.pinned [.data, .data, .data, .handle, .sentinel, .sentinel, .sentinel, .sentinel, .sentinel, .sentinel, .sentinel, .sentinel] true :=
  OpenClaim.laidByTextAt_later rfl rfl tie noOwnUnsafe
theorem fnDeskUpto_row_tie : Rows.fnDeskUptoRow.laidByTextAt .later Tryz.pinned [.data, .data, .data, .handle, .sentinel, .sentinel, .sentinel, .sentinel, .sentinel, .sentinel, .sentinel, .sentinel] true :=
  OpenClaim.laidByTextAt_later rfl rfl tie noOwnUnsafe
end Go.Proofs.YtponeoijfaepnaaGreatDoor
