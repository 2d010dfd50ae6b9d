/-
  DERIVED. GIVEN WITH THE SEED: THE PROGRAM's TIES (one call each: nine closed facts by the kernel) AND EACH ROW's TIE, after the 31st guide's Derived/Test/Toyas{Tie, Card}.lean. No idea stands in it: it is a product of the set-up. Laid BY PROGRAM, IN A SANDBOX (cutbox-door.mjs). By AI agents, Wed Nov 11 2026. No macro, syntax, notation, axiom, sorry.
-/
import Derived.Test.YtebkblmejkkhfaaGreatDoorRows
import Derived.LaidByTextLater
import Derived.SevenTiedAt
import Derived.LaidSub
import Derived.LaidOnce
namespace Go.Proofs.YtebkblmejkkhfaaGreatDoor
open Go
set_option maxRecDepth 100000
theorem seatTie1 : Tryz.prog.laidByTextLater [("math/bits.deBruijn32tab", Rows.laid_math_bits_deBruijn32tab), ("math/bits.deBruijn64tab", Rows.laid_math_bits_deBruijn64tab), ("internal/strconv.uint64pow10", Rows.laid_internal_strconv_uint64pow10), ("errors.errorType", Rows.laid_errors_errorType), ("strconv.ErrRange", Rows.laid_strconv_ErrRange), ("strconv.ErrSyntax", Rows.laid_strconv_ErrSyntax), ("loop.example/g00386/impl.errLongName", Rows.laid_loop_example_g00386_impl_errLongName), ("loop.example/g00386/impl.errBadFiles", Rows.laid_loop_example_g00386_impl_errBadFiles), ("loop.example/g00386/impl.errNoFile", Rows.laid_loop_example_g00386_impl_errNoFile), ("loop.example/g00386/impl.errBadSize", Rows.laid_loop_example_g00386_impl_errBadSize), ("loop.example/g00386/impl.errNoRoom", Rows.laid_loop_example_g00386_impl_errNoRoom), ("loop.example/g00386/impl.errBadSegment", Rows.laid_loop_example_g00386_impl_errBadSegment)] [.data, .data, .data, .handle, .sentinel, .sentinel, .sentinel, .sentinel, .sentinel, .sentinel, .sentinel, .sentinel] true :=
  Program.laidByTextLater_by_one 183 8 65 (by kernel_rfl) (by kernel_rfl) (by kernel_rfl) (by kernel_rfl) (by kernel_rfl) (by kernel_rfl) (fun _ _ => by kernel_rfl)
theorem noOwnUnsafe : Tryz.pinned.checked.prog.headLifts.contains "ownunsafe" = false := by kernel_rfl
theorem tie : Tryz.prog.laidByTextLater [("loop.example/g00386/impl.errLongName", Rows.laid_loop_example_g00386_impl_errLongName), ("loop.example/g00386/impl.errBadFiles", Rows.laid_loop_example_g00386_impl_errBadFiles), ("loop.example/g00386/impl.errNoFile", Rows.laid_loop_example_g00386_impl_errNoFile), ("loop.example/g00386/impl.errBadSize", Rows.laid_loop_example_g00386_impl_errBadSize), ("loop.example/g00386/impl.errNoRoom", Rows.laid_loop_example_g00386_impl_errNoRoom)] [.sentinel, .sentinel, .sentinel, .sentinel, .sentinel] true :=
  Program.laidByTextLater.sub seatTie1 ["loop.example/g00386/impl.errLongName", "loop.example/g00386/impl.errBadFiles", "loop.example/g00386/impl.errNoFile", "loop.example/g00386/impl.errBadSize", "loop.example/g00386/impl.errNoRoom"] (by kernel_rfl) (by kernel_rfl)
theorem fnFs_row_tie : Rows.fnFsRow.laidByTextAt .later Tryz.pinned [.sentinel, .sentinel, .sentinel, .sentinel, .sentinel] true :=
  OpenClaim.laidByTextAt_later rfl rfl tie noOwnUnsafe
theorem fnFsCrash_row_tie : Rows.fnFsCrashRow.laidByTextAt .later Tryz.pinned [.sentinel, .sentinel, .sentinel, .sentinel, .sentinel] true :=
  OpenClaim.laidByTextAt_later rfl rfl tie noOwnUnsafe
theorem tie2 : Tryz.prog.laidByTextLater [("math/bits.deBruijn32tab", Rows.laid_math_bits_deBruijn32tab), ("math/bits.deBruijn64tab", Rows.laid_math_bits_deBruijn64tab), ("internal/strconv.uint64pow10", Rows.laid_internal_strconv_uint64pow10), ("errors.errorType", Rows.laid_errors_errorType), ("loop.example/g00386/impl.errLongName", Rows.laid_loop_example_g00386_impl_errLongName), ("loop.example/g00386/impl.errBadFiles", Rows.laid_loop_example_g00386_impl_errBadFiles), ("loop.example/g00386/impl.errNoFile", Rows.laid_loop_example_g00386_impl_errNoFile), ("loop.example/g00386/impl.errBadSize", Rows.laid_loop_example_g00386_impl_errBadSize), ("loop.example/g00386/impl.errNoRoom", Rows.laid_loop_example_g00386_impl_errNoRoom), ("loop.example/g00386/impl.errBadSegment", Rows.laid_loop_example_g00386_impl_errBadSegment)] [.data, .data, .data, .handle, .sentinel, .sentinel, .sentinel, .sentinel, .sentinel, .sentinel] true :=
  Program.laidByTextLater.sub seatTie1 ["math/bits.deBruijn32tab", "math/bits.deBruijn64tab", "internal/strconv.uint64pow10", "errors.errorType", "loop.example/g00386/impl.errLongName", "loop.example/g00386/impl.errBadFiles", "loop.example/g00386/impl.errNoFile", "loop.example/g00386/impl.errBadSize", "loop.example/g00386/impl.errNoRoom", "loop.example/g00386/impl.errBadSegment"] (by kernel_rfl) (by kernel_rfl)
theorem fnExactSeglogAdd_row_tie : Rows.fnExactSeglogAddRow.laidByTextAt .later Tryz.pinned [.data, .data, .data, .handle, .sentinel, .sentinel, .sentinel, .sentinel, .sentinel, .sentinel] true :=
  OpenClaim.laidByTextAt_later rfl rfl tie2 noOwnUnsafe
theorem tie3 : Tryz.prog.laidByTextLater [("math/bits.deBruijn32tab", Rows.laid_math_bits_deBruijn32tab), ("math/bits.deBruijn64tab", Rows.laid_math_bits_deBruijn64tab), ("internal/strconv.uint64pow10", Rows.laid_internal_strconv_uint64pow10), ("errors.errorType", Rows.laid_errors_errorType), ("loop.example/g00386/impl.errBadSegment", Rows.laid_loop_example_g00386_impl_errBadSegment)] [.data, .data, .data, .handle, .sentinel] true :=
  Program.laidByTextLater.sub seatTie1 ["math/bits.deBruijn32tab", "math/bits.deBruijn64tab", "internal/strconv.uint64pow10", "errors.errorType", "loop.example/g00386/impl.errBadSegment"] (by kernel_rfl) (by kernel_rfl)
theorem fnExactSeglogSync_row_tie : Rows.fnExactSeglogSyncRow.laidByTextAt .later Tryz.pinned [.data, .data, .data, .handle, .sentinel] true :=
  OpenClaim.laidByTextAt_later rfl rfl tie3 noOwnUnsafe
theorem fnExactSeglogAll_row_tie : Rows.fnExactSeglogAllRow.laidByTextAt .later Tryz.pinned [.data, .data, .data, .handle, .sentinel] true :=
  OpenClaim.laidByTextAt_later rfl rfl tie3 noOwnUnsafe
theorem fnExactSeglogDrop_row_tie : Rows.fnExactSeglogDropRow.laidByTextAt .later Tryz.pinned [.data, .data, .data, .handle, .sentinel] true :=
  OpenClaim.laidByTextAt_later rfl rfl tie3 noOwnUnsafe
theorem tie4 : Tryz.prog.laidByTextLater [("math/bits.deBruijn32tab", Rows.laid_math_bits_deBruijn32tab), ("math/bits.deBruijn64tab", Rows.laid_math_bits_deBruijn64tab), ("internal/strconv.uint64pow10", Rows.laid_internal_strconv_uint64pow10), ("errors.errorType", Rows.laid_errors_errorType), ("strconv.ErrRange", Rows.laid_strconv_ErrRange), ("strconv.ErrSyntax", Rows.laid_strconv_ErrSyntax), ("loop.example/g00386/impl.errLongName", Rows.laid_loop_example_g00386_impl_errLongName), ("loop.example/g00386/impl.errBadFiles", Rows.laid_loop_example_g00386_impl_errBadFiles), ("loop.example/g00386/impl.errNoFile", Rows.laid_loop_example_g00386_impl_errNoFile), ("loop.example/g00386/impl.errBadSize", Rows.laid_loop_example_g00386_impl_errBadSize), ("loop.example/g00386/impl.errNoRoom", Rows.laid_loop_example_g00386_impl_errNoRoom), ("loop.example/g00386/impl.errBadSegment", Rows.laid_loop_example_g00386_impl_errBadSegment)] [.data, .data, .data, .handle, .sentinel, .sentinel, .sentinel, .sentinel, .sentinel, .sentinel, .sentinel, .sentinel] true :=
  Program.laidByTextLater.sub seatTie1 ["math/bits.deBruijn32tab", "math/bits.deBruijn64tab", "internal/strconv.uint64pow10", "errors.errorType", "strconv.ErrRange", "strconv.ErrSyntax", "loop.example/g00386/impl.errLongName", "loop.example/g00386/impl.errBadFiles", "loop.example/g00386/impl.errNoFile", "loop.example/g00386/impl.errBadSize", "loop.example/g00386/impl.errNoRoom", "loop.example/g00386/impl.errBadSegment"] (by kernel_rfl) (by kernel_rfl)
theorem fnExactSeglogOpen_row_tie : Rows.fnExactSeglogOpenRow.laidByTextAt .later Tryz.pinned [.data, .data, .data, .handle, .sentinel, .sentinel, .sentinel, .sentinel, .sentinel, .sentinel, .sentinel, .sentinel] true :=
  OpenClaim.laidByTextAt_later rfl rfl tie4 noOwnUnsafe
theorem fnExactSeglogCrash_row_tie : Rows.fnExactSeglogCrashRow.laidByTextAt .later Tryz.pinned [.data, .data, .data, .handle, .sentinel, .sentinel, .sentinel, .sentinel, .sentinel, .sentinel, .sentinel, .sentinel] true :=
  OpenClaim.laidByTextAt_later rfl rfl tie4 noOwnUnsafe
theorem fnFsUpto_row_tie : Rows.fnFsUptoRow.laidByTextAt .later Tryz.pinned [.sentinel, .sentinel, .sentinel, .sentinel, .sentinel] true :=
  OpenClaim.laidByTextAt_later rfl rfl tie noOwnUnsafe
theorem fnFsCrashUpto_row_tie : Rows.fnFsCrashUptoRow.laidByTextAt .later Tryz.pinned [.sentinel, .sentinel, .sentinel, .sentinel, .sentinel] true :=
  OpenClaim.laidByTextAt_later rfl rfl tie noOwnUnsafe
theorem fnExactSeglogAddUpto_row_tie : Rows.fnExactSeglogAddUptoRow.laidByTextAt .later Tryz.pinned [.data, .data, .data, .handle, .sentinel, .sentinel, .sentinel, .sentinel, .sentinel, .sentinel] true :=
  OpenClaim.laidByTextAt_later rfl rfl tie2 noOwnUnsafe
theorem fnExactSeglogSyncUpto_row_tie : Rows.fnExactSeglogSyncUptoRow.laidByTextAt .later Tryz.pinned [.data, .data, .data, .handle, .sentinel] true :=
  OpenClaim.laidByTextAt_later rfl rfl tie3 noOwnUnsafe
theorem fnExactSeglogAllUpto_row_tie : Rows.fnExactSeglogAllUptoRow.laidByTextAt .later Tryz.pinned [.data, .data, .data, .handle, .sentinel] true :=
  OpenClaim.laidByTextAt_later rfl rfl tie3 noOwnUnsafe
theorem fnExactSeglogDropUpto_row_tie : Rows.fnExactSeglogDropUptoRow.laidByTextAt .later Tryz.pinned [.data, .data, .data, .handle, .sentinel] true :=
  OpenClaim.laidByTextAt_later rfl rfl tie3 noOwnUnsafe
theorem fnExactSeglogOpenUpto_row_tie : Rows.fnExactSeglogOpenUptoRow.laidByTextAt .later Tryz.pinned [.data, .data, .data, .handle, .sentinel, .sentinel, .sentinel, .sentinel, .sentinel, .sentinel, .sentinel, .sentinel] true :=
  OpenClaim.laidByTextAt_later rfl rfl tie4 noOwnUnsafe
theorem fnExactSeglogCrashUpto_row_tie : Rows.fnExactSeglogCrashUptoRow.laidByTextAt .later Tryz.pinned [.data, .data, .data, .handle, .sentinel, .sentinel, .sentinel, .sentinel, .sentinel, .sentinel, .sentinel, .sentinel] true :=
  OpenClaim.laidByTextAt_later rfl rfl tie4 noOwnUnsafe
end Go.Proofs.YtebkblmejkkhfaaGreatDoor
