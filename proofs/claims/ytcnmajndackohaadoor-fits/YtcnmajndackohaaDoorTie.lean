/-
  DERIVED. GIVEN WITH THE SEED: THE PROGRAM's TIES (one call each: nine closed facts by the kernel) AND EACH ROW's TIE, after the 31st guide's Derived/Test/Toyas{Tie, Card}.lean. No idea stands in it: it is a product of the set-up. Laid BY PROGRAM, IN A SANDBOX (cutbox-door.mjs). By AI agents, Wed Nov 11 2026. No macro, syntax, notation, axiom, sorry.
-/
import Derived.Test.YtcnmajndackohaaDoorRows
import Derived.LaidByTextLater
import Derived.SevenTiedAt
import Derived.LaidSub
import Derived.LaidOnce
namespace Go.Proofs.YtcnmajndackohaaDoor
open Go
set_option maxRecDepth 100000
theorem seatTie1 : Tryd.prog.laidByTextLater [("math/bits.deBruijn32tab", Rows.laid_math_bits_deBruijn32tab), ("math/bits.deBruijn64tab", Rows.laid_math_bits_deBruijn64tab), ("internal/strconv.uint64pow10", Rows.laid_internal_strconv_uint64pow10), ("errors.errorType", Rows.laid_errors_errorType), ("towpath/fault.ErrArg", Rows.laid_towpath_fault_ErrArg), ("towpath/fault.ErrFull", Rows.laid_towpath_fault_ErrFull), ("towpath/fault.ErrLate", Rows.laid_towpath_fault_ErrLate), ("towpath/fault.ErrNone", Rows.laid_towpath_fault_ErrNone), ("towpath/fault.ErrSize", Rows.laid_towpath_fault_ErrSize), ("towpath/fault.ErrQuota", Rows.laid_towpath_fault_ErrQuota)] [.data, .data, .data, .handle, .sentinel, .sentinel, .sentinel, .sentinel, .sentinel, .sentinel] true :=
  Program.laidByTextLater_by_one 145 8 65 (by kernel_rfl) (by kernel_rfl) (by kernel_rfl) (by kernel_rfl) (by kernel_rfl) (by kernel_rfl) (fun _ _ => by kernel_rfl)
theorem noOwnUnsafe : Tryd.pinned.checked.prog.headLifts.contains "ownunsafe" = false := by kernel_rfl
theorem tie : Tryd.prog.laidByTextLater [("towpath/fault.ErrArg", Rows.laid_towpath_fault_ErrArg), ("towpath/fault.ErrFull", Rows.laid_towpath_fault_ErrFull), ("towpath/fault.ErrLate", Rows.laid_towpath_fault_ErrLate), ("towpath/fault.ErrNone", Rows.laid_towpath_fault_ErrNone), ("towpath/fault.ErrSize", Rows.laid_towpath_fault_ErrSize), ("towpath/fault.ErrQuota", Rows.laid_towpath_fault_ErrQuota)] [.sentinel, .sentinel, .sentinel, .sentinel, .sentinel, .sentinel] true :=
  Program.laidByTextLater.sub seatTie1 ["towpath/fault.ErrArg", "towpath/fault.ErrFull", "towpath/fault.ErrLate", "towpath/fault.ErrNone", "towpath/fault.ErrSize", "towpath/fault.ErrQuota"] (by kernel_rfl) (by kernel_rfl)
theorem bounds_row_tie : Rows.boundsRow.laidByTextAt .later Tryd.pinned [.sentinel, .sentinel, .sentinel, .sentinel, .sentinel, .sentinel] true :=
  OpenClaim.laidByTextAt_later rfl rfl tie noOwnUnsafe
theorem tie2 : Tryd.prog.laidByTextLater [("math/bits.deBruijn32tab", Rows.laid_math_bits_deBruijn32tab), ("math/bits.deBruijn64tab", Rows.laid_math_bits_deBruijn64tab), ("internal/strconv.uint64pow10", Rows.laid_internal_strconv_uint64pow10), ("errors.errorType", Rows.laid_errors_errorType), ("towpath/fault.ErrArg", Rows.laid_towpath_fault_ErrArg), ("towpath/fault.ErrFull", Rows.laid_towpath_fault_ErrFull), ("towpath/fault.ErrLate", Rows.laid_towpath_fault_ErrLate), ("towpath/fault.ErrNone", Rows.laid_towpath_fault_ErrNone), ("towpath/fault.ErrSize", Rows.laid_towpath_fault_ErrSize), ("towpath/fault.ErrQuota", Rows.laid_towpath_fault_ErrQuota)] [.data, .data, .data, .handle, .sentinel, .sentinel, .sentinel, .sentinel, .sentinel, .sentinel] true :=
  Program.laidByTextLater.sub seatTie1 ["math/bits.deBruijn32tab", "math/bits.deBruijn64tab", "internal/strconv.uint64pow10", "errors.errorType", "towpath/fault.ErrArg", "towpath/fault.ErrFull", "towpath/fault.ErrLate", "towpath/fault.ErrNone", "towpath/fault.ErrSize", "towpath/fault.ErrQuota"] (by kernel_rfl) (by kernel_rfl)
theorem fits_row_tie : Rows.fitsRow.laidByTextAt .later Tryd.pinned [.data, .data, .data, .handle, .sentinel, .sentinel, .sentinel, .sentinel, .sentinel, .sentinel] true :=
  OpenClaim.laidByTextAt_later rfl rfl tie2 noOwnUnsafe
theorem boundsUpto_row_tie : Rows.boundsUptoRow.laidByTextAt .later Tryd.pinned [.sentinel, .sentinel, .sentinel, .sentinel, .sentinel, .sentinel] true :=
  OpenClaim.laidByTextAt_later rfl rfl tie noOwnUnsafe
theorem fitsUpto_row_tie : Rows.fitsUptoRow.laidByTextAt .later Tryd.pinned [.data, .data, .data, .handle, .sentinel, .sentinel, .sentinel, .sentinel, .sentinel, .sentinel] true :=
  OpenClaim.laidByTextAt_later rfl rfl tie2 noOwnUnsafe
end Go.Proofs.YtcnmajndackohaaDoor
