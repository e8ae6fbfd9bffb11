/-
  DERIVED. GIVEN WITH THE SEED: THE PROGRAM's TIES (one call each: nine closed facts by the kernel) AND EACH ROW's TIE, after the 31st guide's Derived/Test/Toyas{Tie, Card}.lean. No idea stands in it: it is a product of the set-up. Laid BY PROGRAM, IN A SANDBOX (cutbox-door.mjs). By AI agents, Wed Nov 11 2026. No macro, syntax, notation, axiom, sorry.
-/
import Derived.Test.YtapfmadnkaimeaaDoorRows
import Derived.LaidByTextLater
import Derived.SevenTiedAt
import Derived.LaidSub
import Derived.LaidOnce
namespace Go.Proofs.YtapfmadnkaimeaaDoor
open Go
set_option maxRecDepth 100000
theorem seatTie1 : Tryd.prog.laidByTextLater [("errors.errorType", Rows.laid_errors_errorType), ("loop.example/g00418/impl.errNoHand", Rows.laid_loop_example_g00418_impl_errNoHand), ("loop.example/g00418/impl.errNoKnot", Rows.laid_loop_example_g00418_impl_errNoKnot), ("loop.example/g00418/impl.errThere", Rows.laid_loop_example_g00418_impl_errThere), ("loop.example/g00418/impl.errOwn", Rows.laid_loop_example_g00418_impl_errOwn), ("loop.example/g00418/impl.errLoose", Rows.laid_loop_example_g00418_impl_errLoose), ("loop.example/g00418/impl.errOnce", Rows.laid_loop_example_g00418_impl_errOnce), ("loop.example/g00418/impl.errNoWord", Rows.laid_loop_example_g00418_impl_errNoWord), ("loop.example/g00418/impl.errFull", Rows.laid_loop_example_g00418_impl_errFull)] [.handle, .sentinel, .sentinel, .sentinel, .sentinel, .sentinel, .sentinel, .sentinel, .sentinel] true :=
  Program.laidByTextLater_by_one 168 8 2 (by kernel_rfl) (by kernel_rfl) (by kernel_rfl) (by kernel_rfl) (by kernel_rfl) (by kernel_rfl) (fun _ _ => by kernel_rfl)
theorem noOwnUnsafe : Tryd.pinned.checked.prog.headLifts.contains "ownunsafe" = false := by kernel_rfl
theorem tie : Tryd.prog.laidByTextLater [("loop.example/g00418/impl.errNoHand", Rows.laid_loop_example_g00418_impl_errNoHand), ("loop.example/g00418/impl.errNoKnot", Rows.laid_loop_example_g00418_impl_errNoKnot), ("loop.example/g00418/impl.errThere", Rows.laid_loop_example_g00418_impl_errThere), ("loop.example/g00418/impl.errOwn", Rows.laid_loop_example_g00418_impl_errOwn), ("loop.example/g00418/impl.errLoose", Rows.laid_loop_example_g00418_impl_errLoose)] [.sentinel, .sentinel, .sentinel, .sentinel, .sentinel] true :=
  Program.laidByTextLater.sub seatTie1 ["loop.example/g00418/impl.errNoHand", "loop.example/g00418/impl.errNoKnot", "loop.example/g00418/impl.errThere", "loop.example/g00418/impl.errOwn", "loop.example/g00418/impl.errLoose"] (by kernel_rfl) (by kernel_rfl)
theorem fnExactLearns_row_tie : Rows.fnExactLearnsRow.laidByTextAt .later Tryd.pinned [.sentinel, .sentinel, .sentinel, .sentinel, .sentinel] true :=
  OpenClaim.laidByTextAt_later rfl rfl tie noOwnUnsafe
theorem tie2 : Tryd.prog.laidByTextLater [("errors.errorType", Rows.laid_errors_errorType), ("loop.example/g00418/impl.errNoHand", Rows.laid_loop_example_g00418_impl_errNoHand), ("loop.example/g00418/impl.errNoKnot", Rows.laid_loop_example_g00418_impl_errNoKnot), ("loop.example/g00418/impl.errThere", Rows.laid_loop_example_g00418_impl_errThere), ("loop.example/g00418/impl.errOwn", Rows.laid_loop_example_g00418_impl_errOwn), ("loop.example/g00418/impl.errLoose", Rows.laid_loop_example_g00418_impl_errLoose)] [.handle, .sentinel, .sentinel, .sentinel, .sentinel, .sentinel] true :=
  Program.laidByTextLater.sub seatTie1 ["errors.errorType", "loop.example/g00418/impl.errNoHand", "loop.example/g00418/impl.errNoKnot", "loop.example/g00418/impl.errThere", "loop.example/g00418/impl.errOwn", "loop.example/g00418/impl.errLoose"] (by kernel_rfl) (by kernel_rfl)
theorem fnExactLearnsAll_row_tie : Rows.fnExactLearnsAllRow.laidByTextAt .later Tryd.pinned [.handle, .sentinel, .sentinel, .sentinel, .sentinel, .sentinel] true :=
  OpenClaim.laidByTextAt_later rfl rfl tie2 noOwnUnsafe
theorem tie3 : Tryd.prog.laidByTextLater [("loop.example/g00418/impl.errNoHand", Rows.laid_loop_example_g00418_impl_errNoHand), ("loop.example/g00418/impl.errOnce", Rows.laid_loop_example_g00418_impl_errOnce)] [.sentinel, .sentinel] true :=
  Program.laidByTextLater.sub seatTie1 ["loop.example/g00418/impl.errNoHand", "loop.example/g00418/impl.errOnce"] (by kernel_rfl) (by kernel_rfl)
theorem fnExactNextRound_row_tie : Rows.fnExactNextRoundRow.laidByTextAt .later Tryd.pinned [.sentinel, .sentinel] true :=
  OpenClaim.laidByTextAt_later rfl rfl tie3 noOwnUnsafe
theorem tie4 : Tryd.prog.laidByTextLater [("loop.example/g00418/impl.errNoHand", Rows.laid_loop_example_g00418_impl_errNoHand), ("loop.example/g00418/impl.errOnce", Rows.laid_loop_example_g00418_impl_errOnce), ("loop.example/g00418/impl.errNoWord", Rows.laid_loop_example_g00418_impl_errNoWord)] [.sentinel, .sentinel, .sentinel] true :=
  Program.laidByTextLater.sub seatTie1 ["loop.example/g00418/impl.errNoHand", "loop.example/g00418/impl.errOnce", "loop.example/g00418/impl.errNoWord"] (by kernel_rfl) (by kernel_rfl)
theorem fnExactDraft_row_tie : Rows.fnExactDraftRow.laidByTextAt .later Tryd.pinned [.sentinel, .sentinel, .sentinel] true :=
  OpenClaim.laidByTextAt_later rfl rfl tie4 noOwnUnsafe
theorem tie5 : Tryd.prog.laidByTextLater [("loop.example/g00418/impl.errNoHand", Rows.laid_loop_example_g00418_impl_errNoHand), ("loop.example/g00418/impl.errOnce", Rows.laid_loop_example_g00418_impl_errOnce), ("loop.example/g00418/impl.errNoWord", Rows.laid_loop_example_g00418_impl_errNoWord), ("loop.example/g00418/impl.errFull", Rows.laid_loop_example_g00418_impl_errFull)] [.sentinel, .sentinel, .sentinel, .sentinel] true :=
  Program.laidByTextLater.sub seatTie1 ["loop.example/g00418/impl.errNoHand", "loop.example/g00418/impl.errOnce", "loop.example/g00418/impl.errNoWord", "loop.example/g00418/impl.errFull"] (by kernel_rfl) (by kernel_rfl)
theorem fnExactTies_row_tie : Rows.fnExactTiesRow.laidByTextAt .later Tryd.pinned [.sentinel, .sentinel, .sentinel, .sentinel] true :=
  OpenClaim.laidByTextAt_later rfl rfl tie5 noOwnUnsafe
theorem fnExactLearnsUpto_row_tie : Rows.fnExactLearnsUptoRow.laidByTextAt .later Tryd.pinned [.sentinel, .sentinel, .sentinel, .sentinel, .sentinel] true :=
  OpenClaim.laidByTextAt_later rfl rfl tie noOwnUnsafe
theorem fnExactLearnsAllUpto_row_tie : Rows.fnExactLearnsAllUptoRow.laidByTextAt .later Tryd.pinned [.handle, .sentinel, .sentinel, .sentinel, .sentinel, .sentinel] true :=
  OpenClaim.laidByTextAt_later rfl rfl tie2 noOwnUnsafe
theorem fnExactNextRoundUpto_row_tie : Rows.fnExactNextRoundUptoRow.laidByTextAt .later Tryd.pinned [.sentinel, .sentinel] true :=
  OpenClaim.laidByTextAt_later rfl rfl tie3 noOwnUnsafe
theorem fnExactDraftUpto_row_tie : Rows.fnExactDraftUptoRow.laidByTextAt .later Tryd.pinned [.sentinel, .sentinel, .sentinel] true :=
  OpenClaim.laidByTextAt_later rfl rfl tie4 noOwnUnsafe
theorem fnExactTiesUpto_row_tie : Rows.fnExactTiesUptoRow.laidByTextAt .later Tryd.pinned [.sentinel, .sentinel, .sentinel, .sentinel] true :=
  OpenClaim.laidByTextAt_later rfl rfl tie5 noOwnUnsafe
end Go.Proofs.YtapfmadnkaimeaaDoor
