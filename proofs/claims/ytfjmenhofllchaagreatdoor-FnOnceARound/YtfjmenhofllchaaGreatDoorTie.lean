/-
  DERIVED. GIVEN WITH THE SEED: THE PROGRAM's TIES (one call each: nine closed facts by the kernel) AND EACH ROW's TIE, after the 31st guide's Derived/Test/Toyas{Tie, Card}.lean. No idea stands in it: it is a product of the set-up. Laid BY PROGRAM, IN A SANDBOX (cutbox-door.mjs). By AI agents, Wed Nov 11 2026. No macro, syntax, notation, axiom, sorry.
-/
import Derived.Test.YtfjmenhofllchaaGreatDoorRows
import Derived.LaidByTextLater
import Derived.SevenTiedAt
import Derived.LaidSub
import Derived.LaidOnce
namespace Go.Proofs.YtfjmenhofllchaaGreatDoor
open Go
set_option maxRecDepth 100000
theorem seatTie1 : Tryz.prog.laidByTextLater [("errors.errorType", Rows.laid_errors_errorType), ("loop.example/g00418/impl.errNoHand", Rows.laid_loop_example_g00418_impl_errNoHand), ("loop.example/g00418/impl.errNoKnot", Rows.laid_loop_example_g00418_impl_errNoKnot), ("loop.example/g00418/impl.errThere", Rows.laid_loop_example_g00418_impl_errThere), ("loop.example/g00418/impl.errOwn", Rows.laid_loop_example_g00418_impl_errOwn), ("loop.example/g00418/impl.errLoose", Rows.laid_loop_example_g00418_impl_errLoose), ("loop.example/g00418/impl.errOnce", Rows.laid_loop_example_g00418_impl_errOnce), ("loop.example/g00418/impl.errNoWord", Rows.laid_loop_example_g00418_impl_errNoWord), ("loop.example/g00418/impl.errFull", Rows.laid_loop_example_g00418_impl_errFull)] [.handle, .sentinel, .sentinel, .sentinel, .sentinel, .sentinel, .sentinel, .sentinel, .sentinel] true :=
  Program.laidByTextLater_by_one 168 8 2 (by kernel_rfl) (by kernel_rfl) (by kernel_rfl) (by kernel_rfl) (by kernel_rfl) (by kernel_rfl) (fun _ _ => by kernel_rfl)
theorem noOwnUnsafe : Tryz.pinned.checked.prog.headLifts.contains "ownunsafe" = false := by kernel_rfl
theorem tie : Tryz.prog.laidByTextLater [("errors.errorType", Rows.laid_errors_errorType), ("loop.example/g00418/impl.errNoHand", Rows.laid_loop_example_g00418_impl_errNoHand), ("loop.example/g00418/impl.errNoKnot", Rows.laid_loop_example_g00418_impl_errNoKnot), ("loop.example/g00418/impl.errThere", Rows.laid_loop_example_g00418_impl_errThere), ("loop.example/g00418/impl.errOwn", Rows.laid_loop_example_g00418_impl_errOwn), ("loop.example/g00418/impl.errLoose", Rows.laid_loop_example_g00418_impl_errLoose)] [.handle, .sentinel, .sentinel, .sentinel, .sentinel, .sentinel] true :=
  Program.laidByTextLater.sub seatTie1 ["errors.errorType", "loop.example/g00418/impl.errNoHand", "loop.example/g00418/impl.errNoKnot", "loop.example/g00418/impl.errThere", "loop.example/g00418/impl.errOwn", "loop.example/g00418/impl.errLoose"] (by kernel_rfl) (by kernel_rfl)
theorem fnLearns_row_tie : Rows.fnLearnsRow.laidByTextAt .later Tryz.pinned [.handle, .sentinel, .sentinel, .sentinel, .sentinel, .sentinel] true :=
  OpenClaim.laidByTextAt_later rfl rfl tie noOwnUnsafe
theorem tie2 : Tryz.prog.laidByTextLater [("loop.example/g00418/impl.errNoHand", Rows.laid_loop_example_g00418_impl_errNoHand), ("loop.example/g00418/impl.errOnce", Rows.laid_loop_example_g00418_impl_errOnce), ("loop.example/g00418/impl.errNoWord", Rows.laid_loop_example_g00418_impl_errNoWord), ("loop.example/g00418/impl.errFull", Rows.laid_loop_example_g00418_impl_errFull)] [.sentinel, .sentinel, .sentinel, .sentinel] true :=
  Program.laidByTextLater.sub seatTie1 ["loop.example/g00418/impl.errNoHand", "loop.example/g00418/impl.errOnce", "loop.example/g00418/impl.errNoWord", "loop.example/g00418/impl.errFull"] (by kernel_rfl) (by kernel_rfl)
theorem fnTies_row_tie : Rows.fnTiesRow.laidByTextAt .later Tryz.pinned [.sentinel, .sentinel, .sentinel, .sentinel] true :=
  OpenClaim.laidByTextAt_later rfl rfl tie2 noOwnUnsafe
theorem fnOnceARound_row_tie : Rows.fnOnceARoundRow.laidByTextAt .later Tryz.pinned [.sentinel, .sentinel, .sentinel, .sentinel] true :=
  OpenClaim.laidByTextAt_later rfl rfl tie2 noOwnUnsafe
theorem fnLearnsUpto_row_tie : Rows.fnLearnsUptoRow.laidByTextAt .later Tryz.pinned [.handle, .sentinel, .sentinel, .sentinel, .sentinel, .sentinel] true :=
  OpenClaim.laidByTextAt_later rfl rfl tie noOwnUnsafe
theorem fnTiesUpto_row_tie : Rows.fnTiesUptoRow.laidByTextAt .later Tryz.pinned [.sentinel, .sentinel, .sentinel, .sentinel] true :=
  OpenClaim.laidByTextAt_later rfl rfl tie2 noOwnUnsafe
theorem fnOnceARoundUpto_row_tie : Rows.fnOnceARoundUptoRow.laidByTextAt .later Tryz.pinned [.sentinel, .sentinel, .sentinel, .sentinel] true :=
  OpenClaim.laidByTextAt_later rfl rfl tie2 noOwnUnsafe
end Go.Proofs.YtfjmenhofllchaaGreatDoor
