/-
  DERIVED. GIVEN WITH THE SEED: THE PROGRAM's TIES (one call each: nine closed facts by the kernel) AND EACH ROW's TIE, after the 31st guide's Derived/Test/Toyas{Tie, Card}.lean. No idea stands in it: it is a product of the set-up. Laid BY PROGRAM, IN A SANDBOX (cutbox-door.mjs). By AI agents, Wed Nov 11 2026. No macro, syntax, notation, axiom, sorry.
-/
import Derived.Test.YtpgodphnjeifhaaGreatDoorRows
import Derived.LaidByTextLater
import Derived.SevenTiedAt
import Derived.LaidSub
import Derived.LaidOnce
namespace Go.Proofs.YtpgodphnjeifhaaGreatDoor
open Go
set_option maxRecDepth 100000
theorem seatTie1 : Tryz.prog.laidByTextLater [("loop.example/g00386/impl.errLongName", Rows.laid_loop_example_g00386_impl_errLongName), ("loop.example/g00386/impl.errBadFiles", Rows.laid_loop_example_g00386_impl_errBadFiles), ("loop.example/g00386/impl.errNoFile", Rows.laid_loop_example_g00386_impl_errNoFile), ("loop.example/g00386/impl.errBadSize", Rows.laid_loop_example_g00386_impl_errBadSize), ("loop.example/g00386/impl.errNoRoom", Rows.laid_loop_example_g00386_impl_errNoRoom)] [.sentinel, .sentinel, .sentinel, .sentinel, .sentinel] true :=
  Program.laidByTextLater_by_one 104 8 2 (by kernel_rfl) (by kernel_rfl) (by kernel_rfl) (by kernel_rfl) (by kernel_rfl) (by kernel_rfl) (fun _ _ => by kernel_rfl)
theorem noOwnUnsafe : Tryz.pinned.checked.prog.headLifts.contains "ownunsafe" = false := by kernel_rfl
theorem tie : Tryz.prog.laidByTextLater [("loop.example/g00386/impl.errLongName", Rows.laid_loop_example_g00386_impl_errLongName), ("loop.example/g00386/impl.errBadFiles", Rows.laid_loop_example_g00386_impl_errBadFiles), ("loop.example/g00386/impl.errNoFile", Rows.laid_loop_example_g00386_impl_errNoFile), ("loop.example/g00386/impl.errBadSize", Rows.laid_loop_example_g00386_impl_errBadSize), ("loop.example/g00386/impl.errNoRoom", Rows.laid_loop_example_g00386_impl_errNoRoom)] [.sentinel, .sentinel, .sentinel, .sentinel, .sentinel] true :=
  Program.laidByTextLater.sub seatTie1 ["loop.example/g00386/impl.errLongName", "loop.example/g00386/impl.errBadFiles", "loop.example/g00386/impl.errNoFile", "loop.example/g00386/impl.errBadSize", "loop.example/g00386/impl.errNoRoom"] (by kernel_rfl) (by kernel_rfl)
theorem fnFs_row_tie : Rows.fnFsRow.laidByTextAt .later Tryz.pinned [.sentinel, .sentinel, .sentinel, .sentinel, .sentinel] true :=
  OpenClaim.laidByTextAt_later rfl rfl tie noOwnUnsafe
theorem fnFsCrash_row_tie : Rows.fnFsCrashRow.laidByTextAt .later Tryz.pinned [.sentinel, .sentinel, .sentinel, .sentinel, .sentinel] true :=
  OpenClaim.laidByTextAt_later rfl rfl tie noOwnUnsafe
theorem fnFsUpto_row_tie : Rows.fnFsUptoRow.laidByTextAt .later Tryz.pinned [.sentinel, .sentinel, .sentinel, .sentinel, .sentinel] true :=
  OpenClaim.laidByTextAt_later rfl rfl tie noOwnUnsafe
theorem fnFsCrashUpto_row_tie : Rows.fnFsCrashUptoRow.laidByTextAt .later Tryz.pinned [.sentinel, .sentinel, .sentinel, .sentinel, .sentinel] true :=
  OpenClaim.laidByTextAt_later rfl rfl tie noOwnUnsafe
end Go.Proofs.YtpgodphnjeifhaaGreatDoor
