/-
  NARROWER THAN 'FOR EVERY INPUT', by the rows' own cells (each row's printed sentence says how): Tests: laid · Lines: laid · InTime: laid · Late: laid · Orderly: laid · Changing: laid · All: laid.
  DERIVED. THE GIVEN ROWS OF THIS SEAT. 7 by the template 'for every input the law returns true; each argument reads behind the call as it read before'; 0 by the template 'total and deterministic' (their statements: YtcnmajndackohaaGreatDoorTotals.lean).
  GIVEN WITH THE SEED: the statements are not yours to turn. If you find one false, say at which input.
  Laid BY PROGRAM, IN A SANDBOX (cutbox-rows.mjs): the forced cells as the released guide's own fill.sh prints them over the translation af21efbbd5ed08e7… (all of the seat's roots in one cut). By AI agents, Wed Nov 11 2026. No macro, syntax, notation, axiom, sorry.
-/
import Derived.Test.YtcnmajndackohaaGreatDoorChecked
import GoSem.Claim
import GoSem.ClaimJoined
import GoSem.ClaimMapViews
import Derived.JoinedTies
import Derived.KernelRfl
namespace Go.Proofs.YtcnmajndackohaaGreatDoor
/- THE CELL 'sum', in the pinned program and in every row, IS THE sha256 OF THE DUMP (.gsa) THAT YtcnmajndackohaaGreatDoorProg.lean LOADS. Nothing in Lean hashes anything: it is a label: what it is worth is what the hold of that sum in a sandbox is worth. -/
noncomputable def Tryz.pinned : Pinned := { name := "ytcnmajndackohaagreatdoor", sum := "af21efbbd5ed08e72cf85e8df7bb4b5f027c56ef319a9d121b0717926f8a80d6", checked := Tryz.checked }
namespace Rows
def none {H : Type} : Left H := { results := [], args := [] }

/- WHAT THE LISTED PACKAGE-LEVEL VARIABLES READ AS WHEN THE CALL BEGINS. Each datum BY PROGRAM (the guide's laid-datum.mjs) off the statement by which the dump's own 'gosem.cut.vars' lays the variable. In a bare row this is a premise. The card (YtcnmajndackohaaGreatDoorCards.lean) ties it to the program's text. -/
def laid_math_bits_deBruijn32tab {H : Type} : DataW H := .agg [.lit (.int .u8 0), .lit (.int .u8 1), .lit (.int .u8 28), .lit (.int .u8 2), .lit (.int .u8 29), .lit (.int .u8 14), .lit (.int .u8 24), .lit (.int .u8 3), .lit (.int .u8 30), .lit (.int .u8 22), .lit (.int .u8 20), .lit (.int .u8 15), .lit (.int .u8 25), .lit (.int .u8 17), .lit (.int .u8 4), .lit (.int .u8 8), .lit (.int .u8 31), .lit (.int .u8 27), .lit (.int .u8 13), .lit (.int .u8 23), .lit (.int .u8 21), .lit (.int .u8 19), .lit (.int .u8 16), .lit (.int .u8 7), .lit (.int .u8 26), .lit (.int .u8 12), .lit (.int .u8 18), .lit (.int .u8 6), .lit (.int .u8 11), .lit (.int .u8 5), .lit (.int .u8 10), .lit (.int .u8 9)]
def laid_math_bits_deBruijn64tab {H : Type} : DataW H := .agg [.lit (.int .u8 0), .lit (.int .u8 1), .lit (.int .u8 56), .lit (.int .u8 2), .lit (.int .u8 57), .lit (.int .u8 49), .lit (.int .u8 28), .lit (.int .u8 3), .lit (.int .u8 61), .lit (.int .u8 58), .lit (.int .u8 42), .lit (.int .u8 50), .lit (.int .u8 38), .lit (.int .u8 29), .lit (.int .u8 17), .lit (.int .u8 4), .lit (.int .u8 62), .lit (.int .u8 47), .lit (.int .u8 59), .lit (.int .u8 36), .lit (.int .u8 45), .lit (.int .u8 43), .lit (.int .u8 51), .lit (.int .u8 22), .lit (.int .u8 53), .lit (.int .u8 39), .lit (.int .u8 33), .lit (.int .u8 30), .lit (.int .u8 24), .lit (.int .u8 18), .lit (.int .u8 12), .lit (.int .u8 5), .lit (.int .u8 63), .lit (.int .u8 55), .lit (.int .u8 48), .lit (.int .u8 27), .lit (.int .u8 60), .lit (.int .u8 41), .lit (.int .u8 37), .lit (.int .u8 16), .lit (.int .u8 46), .lit (.int .u8 35), .lit (.int .u8 44), .lit (.int .u8 21), .lit (.int .u8 52), .lit (.int .u8 32), .lit (.int .u8 23), .lit (.int .u8 11), .lit (.int .u8 54), .lit (.int .u8 26), .lit (.int .u8 40), .lit (.int .u8 15), .lit (.int .u8 34), .lit (.int .u8 20), .lit (.int .u8 31), .lit (.int .u8 10), .lit (.int .u8 25), .lit (.int .u8 14), .lit (.int .u8 19), .lit (.int .u8 9), .lit (.int .u8 13), .lit (.int .u8 8), .lit (.int .u8 7), .lit (.int .u8 6)]
def laid_internal_strconv_uint64pow10 {H : Type} : DataW H := .agg [.lit (.int .u64 1), .lit (.int .u64 10), .lit (.int .u64 100), .lit (.int .u64 1000), .lit (.int .u64 10000), .lit (.int .u64 100000), .lit (.int .u64 1000000), .lit (.int .u64 10000000), .lit (.int .u64 100000000), .lit (.int .u64 1000000000), .lit (.int .u64 10000000000), .lit (.int .u64 100000000000), .lit (.int .u64 1000000000000), .lit (.int .u64 10000000000000), .lit (.int .u64 100000000000000), .lit (.int .u64 1000000000000000), .lit (.int .u64 10000000000000000), .lit (.int .u64 100000000000000000), .lit (.int .u64 1000000000000000000), .lit (.int .u64 10000000000000000000)]
def laid_errors_errorType {H : Type} : DataW H := .iface "internal/reflectlite.rtype" (.agg [.ptr (.lit (.string [101, 114, 114, 111, 114]))])
def laid_towpath_fault_ErrArg {H : Type} : DataW H := .iface "*errors.errorString" (.ptr (.agg [.lit (.string [97, 32, 110, 117, 109, 98, 101, 114, 32, 116, 104, 97, 116, 32, 109, 97, 121, 32, 110, 111, 116, 32, 98, 101])]))
def laid_towpath_fault_ErrFull {H : Type} : DataW H := .iface "*errors.errorString" (.ptr (.agg [.lit (.string [116, 104, 101, 114, 101, 32, 97, 114, 101, 32, 97, 115, 32, 109, 97, 110, 121, 32, 102, 108, 111, 119, 115, 32, 97, 115, 32, 109, 97, 121])]))
def laid_towpath_fault_ErrLate {H : Type} : DataW H := .iface "*errors.errorString" (.ptr (.agg [.lit (.string [115, 111, 109, 101, 116, 104, 105, 110, 103, 32, 119, 111, 117, 108, 100, 32, 98, 101, 32, 108, 97, 116, 101])]))
def laid_towpath_fault_ErrNone {H : Type} : DataW H := .iface "*errors.errorString" (.ptr (.agg [.lit (.string [116, 104, 101, 114, 101, 32, 105, 115, 32, 110, 111, 32, 115, 117, 99, 104, 32, 102, 108, 111, 119])]))
def laid_towpath_fault_ErrSize {H : Type} : DataW H := .iface "*errors.errorString" (.ptr (.agg [.lit (.string [97, 32, 112, 97, 99, 107, 101, 116, 32, 111, 102, 32, 97, 32, 115, 105, 122, 101, 32, 116, 104, 97, 116, 32, 109, 97, 121, 32, 110, 111, 116, 32, 98, 101])]))
def laid_towpath_fault_ErrQuota {H : Type} : DataW H := .iface "*errors.errorString" (.ptr (.agg [.lit (.string [97, 115, 32, 109, 97, 110, 121, 32, 112, 97, 99, 107, 101, 116, 115, 32, 119, 97, 105, 116, 32, 97, 115, 32, 109, 97, 121])]))

/-- 'towpathlaw.Tests': WHATEVER THE INPUT: true; the input reads as it did. -/
def testsSpec : ChangeSpec := { name := "tests", fn := fun _ => fun
  | [d] => { results := [.lit (.bool true)], args := [d] }
  | _ => none }
def testsRow : OpenClaim := { program := "ytcnmajndackohaagreatdoor", sum := "af21efbbd5ed08e72cf85e8df7bb4b5f027c56ef319a9d121b0717926f8a80d6", func := "towpath/towpathlaw.Tests", spec := "tests", inPlace := ["internal/reflectlite.ValueOf", "(internal/reflectlite.Value).Type", "(internal/reflectlite.Value).IsNil", "internal/reflectlite.TypeOf", "(internal/reflectlite.Value).Elem", "(internal/reflectlite.Value).Set"], unfollowed := true, recurses := true, named := ["towpath/fault.ErrArg", "internal/strconv.uint64pow10", "math/bits.deBruijn32tab", "math/bits.deBruijn64tab", "errors.errorType", "towpath/fault.ErrFull", "towpath/fault.ErrLate", "towpath/fault.ErrNone", "towpath/fault.ErrSize", "towpath/fault.ErrQuota"], apart := false, laid := [("math/bits.deBruijn32tab", laid_math_bits_deBruijn32tab), ("math/bits.deBruijn64tab", laid_math_bits_deBruijn64tab), ("internal/strconv.uint64pow10", laid_internal_strconv_uint64pow10), ("errors.errorType", laid_errors_errorType), ("towpath/fault.ErrArg", laid_towpath_fault_ErrArg), ("towpath/fault.ErrFull", laid_towpath_fault_ErrFull), ("towpath/fault.ErrLate", laid_towpath_fault_ErrLate), ("towpath/fault.ErrNone", laid_towpath_fault_ErrNone), ("towpath/fault.ErrSize", laid_towpath_fault_ErrSize), ("towpath/fault.ErrQuota", laid_towpath_fault_ErrQuota)] }
def TestsSaid : Prop := testsRow.holds Tryz.pinned (OpenSpec.ofChange testsSpec)

/-- ITS FALSE NEIGHBOUR: 'it returns false'. Refute it at one input. -/
def testsWrong : ChangeSpec := { name := "tests", fn := fun _ => fun
  | [d] => { results := [.lit (.bool false)], args := [d] }
  | _ => none }
def TestsWrongFalsely : Prop := testsRow.holds Tryz.pinned (OpenSpec.ofChange testsWrong)

/-- 'towpathlaw.Lines': WHATEVER THE INPUT: true; the input reads as it did. -/
def linesSpec : ChangeSpec := { name := "lines", fn := fun _ => fun
  | [d1, d2] => { results := [.lit (.bool true)], args := [d1, d2] }
  | _ => none }
def linesRow : OpenClaim := { program := "ytcnmajndackohaagreatdoor", sum := "af21efbbd5ed08e72cf85e8df7bb4b5f027c56ef319a9d121b0717926f8a80d6", func := "towpath/towpathlaw.Lines", spec := "lines", inPlace := ["internal/reflectlite.TypeOf", "internal/reflectlite.ValueOf", "(internal/reflectlite.Value).Type", "(internal/reflectlite.Value).IsNil", "(internal/reflectlite.Value).Elem", "(internal/reflectlite.Value).Set"], unfollowed := true, recurses := true, named := ["towpath/fault.ErrArg", "internal/strconv.uint64pow10", "math/bits.deBruijn32tab", "math/bits.deBruijn64tab", "towpath/fault.ErrFull", "towpath/fault.ErrLate", "towpath/fault.ErrNone", "towpath/fault.ErrSize", "towpath/fault.ErrQuota", "errors.errorType"], apart := false, laid := [("math/bits.deBruijn32tab", laid_math_bits_deBruijn32tab), ("math/bits.deBruijn64tab", laid_math_bits_deBruijn64tab), ("internal/strconv.uint64pow10", laid_internal_strconv_uint64pow10), ("errors.errorType", laid_errors_errorType), ("towpath/fault.ErrArg", laid_towpath_fault_ErrArg), ("towpath/fault.ErrFull", laid_towpath_fault_ErrFull), ("towpath/fault.ErrLate", laid_towpath_fault_ErrLate), ("towpath/fault.ErrNone", laid_towpath_fault_ErrNone), ("towpath/fault.ErrSize", laid_towpath_fault_ErrSize), ("towpath/fault.ErrQuota", laid_towpath_fault_ErrQuota)] }
def LinesSaid : Prop := linesRow.holds Tryz.pinned (OpenSpec.ofChange linesSpec)

/-- ITS FALSE NEIGHBOUR: 'it returns false'. Refute it at one input. -/
def linesWrong : ChangeSpec := { name := "lines", fn := fun _ => fun
  | [d1, d2] => { results := [.lit (.bool false)], args := [d1, d2] }
  | _ => none }
def LinesWrongFalsely : Prop := linesRow.holds Tryz.pinned (OpenSpec.ofChange linesWrong)

/-- 'towpathkeep.InTime': WHATEVER THE INPUT: true; the input reads as it did. -/
def inTimeSpec : ChangeSpec := { name := "inTime", fn := fun _ => fun
  | [d1, d2] => { results := [.lit (.bool true)], args := [d1, d2] }
  | _ => none }
def inTimeRow : OpenClaim := { program := "ytcnmajndackohaagreatdoor", sum := "af21efbbd5ed08e72cf85e8df7bb4b5f027c56ef319a9d121b0717926f8a80d6", func := "towpath/towpathkeep.InTime", spec := "inTime", inPlace := ["internal/reflectlite.TypeOf", "internal/reflectlite.ValueOf", "(internal/reflectlite.Value).Type", "(internal/reflectlite.Value).IsNil", "(internal/reflectlite.Value).Elem", "(internal/reflectlite.Value).Set"], unfollowed := true, recurses := true, named := ["towpath/fault.ErrArg", "internal/strconv.uint64pow10", "math/bits.deBruijn32tab", "math/bits.deBruijn64tab", "towpath/fault.ErrFull", "towpath/fault.ErrLate", "towpath/fault.ErrNone", "towpath/fault.ErrSize", "towpath/fault.ErrQuota", "errors.errorType"], apart := false, laid := [("math/bits.deBruijn32tab", laid_math_bits_deBruijn32tab), ("math/bits.deBruijn64tab", laid_math_bits_deBruijn64tab), ("internal/strconv.uint64pow10", laid_internal_strconv_uint64pow10), ("errors.errorType", laid_errors_errorType), ("towpath/fault.ErrArg", laid_towpath_fault_ErrArg), ("towpath/fault.ErrFull", laid_towpath_fault_ErrFull), ("towpath/fault.ErrLate", laid_towpath_fault_ErrLate), ("towpath/fault.ErrNone", laid_towpath_fault_ErrNone), ("towpath/fault.ErrSize", laid_towpath_fault_ErrSize), ("towpath/fault.ErrQuota", laid_towpath_fault_ErrQuota)] }
def InTimeSaid : Prop := inTimeRow.holds Tryz.pinned (OpenSpec.ofChange inTimeSpec)

/-- ITS FALSE NEIGHBOUR: 'it returns false'. Refute it at one input. -/
def inTimeWrong : ChangeSpec := { name := "inTime", fn := fun _ => fun
  | [d1, d2] => { results := [.lit (.bool false)], args := [d1, d2] }
  | _ => none }
def InTimeWrongFalsely : Prop := inTimeRow.holds Tryz.pinned (OpenSpec.ofChange inTimeWrong)

/-- 'towpathkeep.Late': WHATEVER THE INPUT: true; the input reads as it did. -/
def lateSpec : ChangeSpec := { name := "late", fn := fun _ => fun
  | [d] => { results := [.lit (.bool true)], args := [d] }
  | _ => none }
def lateRow : OpenClaim := { program := "ytcnmajndackohaagreatdoor", sum := "af21efbbd5ed08e72cf85e8df7bb4b5f027c56ef319a9d121b0717926f8a80d6", func := "towpath/towpathkeep.Late", spec := "late", inPlace := ["internal/reflectlite.ValueOf", "(internal/reflectlite.Value).Type", "(internal/reflectlite.Value).IsNil", "internal/reflectlite.TypeOf", "(internal/reflectlite.Value).Elem", "(internal/reflectlite.Value).Set"], unfollowed := true, recurses := true, named := ["towpath/fault.ErrArg", "internal/strconv.uint64pow10", "math/bits.deBruijn32tab", "math/bits.deBruijn64tab", "errors.errorType", "towpath/fault.ErrFull", "towpath/fault.ErrLate", "towpath/fault.ErrNone", "towpath/fault.ErrSize", "towpath/fault.ErrQuota"], apart := false, laid := [("math/bits.deBruijn32tab", laid_math_bits_deBruijn32tab), ("math/bits.deBruijn64tab", laid_math_bits_deBruijn64tab), ("internal/strconv.uint64pow10", laid_internal_strconv_uint64pow10), ("errors.errorType", laid_errors_errorType), ("towpath/fault.ErrArg", laid_towpath_fault_ErrArg), ("towpath/fault.ErrFull", laid_towpath_fault_ErrFull), ("towpath/fault.ErrLate", laid_towpath_fault_ErrLate), ("towpath/fault.ErrNone", laid_towpath_fault_ErrNone), ("towpath/fault.ErrSize", laid_towpath_fault_ErrSize), ("towpath/fault.ErrQuota", laid_towpath_fault_ErrQuota)] }
def LateSaid : Prop := lateRow.holds Tryz.pinned (OpenSpec.ofChange lateSpec)

/-- ITS FALSE NEIGHBOUR: 'it returns false'. Refute it at one input. -/
def lateWrong : ChangeSpec := { name := "late", fn := fun _ => fun
  | [d] => { results := [.lit (.bool false)], args := [d] }
  | _ => none }
def LateWrongFalsely : Prop := lateRow.holds Tryz.pinned (OpenSpec.ofChange lateWrong)

/-- 'towpathkeep.Orderly': WHATEVER THE INPUT: true; the input reads as it did. -/
def orderlySpec : ChangeSpec := { name := "orderly", fn := fun _ => fun
  | [d1, d2] => { results := [.lit (.bool true)], args := [d1, d2] }
  | _ => none }
def orderlyRow : OpenClaim := { program := "ytcnmajndackohaagreatdoor", sum := "af21efbbd5ed08e72cf85e8df7bb4b5f027c56ef319a9d121b0717926f8a80d6", func := "towpath/towpathkeep.Orderly", spec := "orderly", inPlace := ["internal/reflectlite.TypeOf", "internal/reflectlite.ValueOf", "(internal/reflectlite.Value).Type", "(internal/reflectlite.Value).IsNil", "(internal/reflectlite.Value).Elem", "(internal/reflectlite.Value).Set"], unfollowed := true, recurses := true, named := ["towpath/fault.ErrArg", "internal/strconv.uint64pow10", "math/bits.deBruijn32tab", "math/bits.deBruijn64tab", "towpath/fault.ErrFull", "towpath/fault.ErrLate", "towpath/fault.ErrNone", "towpath/fault.ErrSize", "towpath/fault.ErrQuota", "errors.errorType"], apart := false, laid := [("math/bits.deBruijn32tab", laid_math_bits_deBruijn32tab), ("math/bits.deBruijn64tab", laid_math_bits_deBruijn64tab), ("internal/strconv.uint64pow10", laid_internal_strconv_uint64pow10), ("errors.errorType", laid_errors_errorType), ("towpath/fault.ErrArg", laid_towpath_fault_ErrArg), ("towpath/fault.ErrFull", laid_towpath_fault_ErrFull), ("towpath/fault.ErrLate", laid_towpath_fault_ErrLate), ("towpath/fault.ErrNone", laid_towpath_fault_ErrNone), ("towpath/fault.ErrSize", laid_towpath_fault_ErrSize), ("towpath/fault.ErrQuota", laid_towpath_fault_ErrQuota)] }
def OrderlySaid : Prop := orderlyRow.holds Tryz.pinned (OpenSpec.ofChange orderlySpec)

/-- ITS FALSE NEIGHBOUR: 'it returns false'. Refute it at one input. -/
def orderlyWrong : ChangeSpec := { name := "orderly", fn := fun _ => fun
  | [d1, d2] => { results := [.lit (.bool false)], args := [d1, d2] }
  | _ => none }
def OrderlyWrongFalsely : Prop := orderlyRow.holds Tryz.pinned (OpenSpec.ofChange orderlyWrong)

/-- 'towpathkeep.Changing': WHATEVER THE INPUT: true; the input reads as it did. -/
def changingSpec : ChangeSpec := { name := "changing", fn := fun _ => fun
  | [d1, d2] => { results := [.lit (.bool true)], args := [d1, d2] }
  | _ => none }
def changingRow : OpenClaim := { program := "ytcnmajndackohaagreatdoor", sum := "af21efbbd5ed08e72cf85e8df7bb4b5f027c56ef319a9d121b0717926f8a80d6", func := "towpath/towpathkeep.Changing", spec := "changing", inPlace := ["internal/reflectlite.TypeOf", "internal/reflectlite.ValueOf", "(internal/reflectlite.Value).Type", "(internal/reflectlite.Value).IsNil", "(internal/reflectlite.Value).Elem", "(internal/reflectlite.Value).Set"], unfollowed := true, recurses := true, named := ["towpath/fault.ErrArg", "internal/strconv.uint64pow10", "math/bits.deBruijn32tab", "math/bits.deBruijn64tab", "towpath/fault.ErrFull", "towpath/fault.ErrLate", "towpath/fault.ErrNone", "towpath/fault.ErrSize", "towpath/fault.ErrQuota", "errors.errorType"], apart := false, laid := [("math/bits.deBruijn32tab", laid_math_bits_deBruijn32tab), ("math/bits.deBruijn64tab", laid_math_bits_deBruijn64tab), ("internal/strconv.uint64pow10", laid_internal_strconv_uint64pow10), ("errors.errorType", laid_errors_errorType), ("towpath/fault.ErrArg", laid_towpath_fault_ErrArg), ("towpath/fault.ErrFull", laid_towpath_fault_ErrFull), ("towpath/fault.ErrLate", laid_towpath_fault_ErrLate), ("towpath/fault.ErrNone", laid_towpath_fault_ErrNone), ("towpath/fault.ErrSize", laid_towpath_fault_ErrSize), ("towpath/fault.ErrQuota", laid_towpath_fault_ErrQuota)] }
def ChangingSaid : Prop := changingRow.holds Tryz.pinned (OpenSpec.ofChange changingSpec)

/-- ITS FALSE NEIGHBOUR: 'it returns false'. Refute it at one input. -/
def changingWrong : ChangeSpec := { name := "changing", fn := fun _ => fun
  | [d1, d2] => { results := [.lit (.bool false)], args := [d1, d2] }
  | _ => none }
def ChangingWrongFalsely : Prop := changingRow.holds Tryz.pinned (OpenSpec.ofChange changingWrong)

/-- 'towpathlaw.All': WHATEVER THE INPUT: true; the input reads as it did. -/
def allSpec : ChangeSpec := { name := "all", fn := fun _ => fun
  | [d1, d2] => { results := [.lit (.bool true)], args := [d1, d2] }
  | _ => none }
def allRow : OpenClaim := { program := "ytcnmajndackohaagreatdoor", sum := "af21efbbd5ed08e72cf85e8df7bb4b5f027c56ef319a9d121b0717926f8a80d6", func := "towpath/towpathlaw.All", spec := "all", inPlace := ["internal/reflectlite.TypeOf", "internal/reflectlite.ValueOf", "(internal/reflectlite.Value).Type", "(internal/reflectlite.Value).IsNil", "(internal/reflectlite.Value).Elem", "(internal/reflectlite.Value).Set"], unfollowed := true, recurses := true, named := ["towpath/fault.ErrArg", "internal/strconv.uint64pow10", "math/bits.deBruijn32tab", "math/bits.deBruijn64tab", "towpath/fault.ErrFull", "towpath/fault.ErrLate", "towpath/fault.ErrNone", "towpath/fault.ErrSize", "towpath/fault.ErrQuota", "errors.errorType"], apart := false, laid := [("math/bits.deBruijn32tab", laid_math_bits_deBruijn32tab), ("math/bits.deBruijn64tab", laid_math_bits_deBruijn64tab), ("internal/strconv.uint64pow10", laid_internal_strconv_uint64pow10), ("errors.errorType", laid_errors_errorType), ("towpath/fault.ErrArg", laid_towpath_fault_ErrArg), ("towpath/fault.ErrFull", laid_towpath_fault_ErrFull), ("towpath/fault.ErrLate", laid_towpath_fault_ErrLate), ("towpath/fault.ErrNone", laid_towpath_fault_ErrNone), ("towpath/fault.ErrSize", laid_towpath_fault_ErrSize), ("towpath/fault.ErrQuota", laid_towpath_fault_ErrQuota)] }
def AllSaid : Prop := allRow.holds Tryz.pinned (OpenSpec.ofChange allSpec)

/-- ITS FALSE NEIGHBOUR: 'it returns false'. Refute it at one input. -/
def allWrong : ChangeSpec := { name := "all", fn := fun _ => fun
  | [d1, d2] => { results := [.lit (.bool false)], args := [d1, d2] }
  | _ => none }
def AllWrongFalsely : Prop := allRow.holds Tryz.pinned (OpenSpec.ofChange allWrong)

/- THE SECOND FORM. 'bulk': how many values and letters a reading holds, each counted each time it is reached (what is shared counts as often as it is met; a slice's spare places count too). A statement '..UptoSaid' is the law's where the arguments, and the package variables that the reading takes, are together of bulk at most 1048576: NARROWER than '..Said'. Prove '..Said' where nothing that the law and all that it calls make is longer than what came in: it says more and counts as full. Else prove '..UptoSaid'. A law counts once. -/
mutual
def uptoBulk {H : Type} : DataW H → Nat
  | .lit (.string bytes) => bytes.length + 1
  | .lit _ => 1
  | .nil => 1
  | .ptr d => uptoBulk d + 1
  | .slice elems spare => uptoBulkAll elems + uptoBulkAll spare + 1
  | .agg parts => uptoBulkAll parts + 1
  | .iface _ d => uptoBulk d + 1
  | .map entries => uptoBulkEntries entries + 1
  | .held _ => 1
def uptoBulkAll {H : Type} : List (DataW H) → Nat
  | [] => 0
  | d :: r => uptoBulk d + uptoBulkAll r
def uptoBulkEntries {H : Type} : List (Lit × DataW H) → Nat
  | [] => 0
  | x :: r => uptoBulkEntry x + uptoBulkEntries r
def uptoBulkEntry {H : Type} : Lit × DataW H → Nat
  | (.string bytes, d) => bytes.length + uptoBulk d + 1
  | (_, d) => uptoBulk d + 1
 end
def uptoSmall : (H : Type) → List (DataW H) → Bool := fun _ ds => decide (uptoBulkAll ds ≤ 1048576)
def OpenSpec.upto (s : _root_.Go.ChangeSpec) : _root_.Go.OpenSpec := { _root_.Go.OpenSpec.ofChange s with cond := some uptoSmall }

/-- 'towpathlaw.Tests', WHERE WHAT IT READS IS OF BULK AT MOST 1048576: true; the input reads as it did. -/
def testsUptoRow : OpenClaim := { program := "ytcnmajndackohaagreatdoor", sum := "af21efbbd5ed08e72cf85e8df7bb4b5f027c56ef319a9d121b0717926f8a80d6", func := "towpath/towpathlaw.Tests", spec := "tests", inPlace := ["internal/reflectlite.ValueOf", "(internal/reflectlite.Value).Type", "(internal/reflectlite.Value).IsNil", "internal/reflectlite.TypeOf", "(internal/reflectlite.Value).Elem", "(internal/reflectlite.Value).Set"], unfollowed := true, recurses := true, named := ["towpath/fault.ErrArg", "internal/strconv.uint64pow10", "math/bits.deBruijn32tab", "math/bits.deBruijn64tab", "errors.errorType", "towpath/fault.ErrFull", "towpath/fault.ErrLate", "towpath/fault.ErrNone", "towpath/fault.ErrSize", "towpath/fault.ErrQuota"], apart := false, laid := [("math/bits.deBruijn32tab", laid_math_bits_deBruijn32tab), ("math/bits.deBruijn64tab", laid_math_bits_deBruijn64tab), ("internal/strconv.uint64pow10", laid_internal_strconv_uint64pow10), ("errors.errorType", laid_errors_errorType), ("towpath/fault.ErrArg", laid_towpath_fault_ErrArg), ("towpath/fault.ErrFull", laid_towpath_fault_ErrFull), ("towpath/fault.ErrLate", laid_towpath_fault_ErrLate), ("towpath/fault.ErrNone", laid_towpath_fault_ErrNone), ("towpath/fault.ErrSize", laid_towpath_fault_ErrSize), ("towpath/fault.ErrQuota", laid_towpath_fault_ErrQuota)], narrowed := true }
def TestsUptoSaid : Prop := testsUptoRow.holds Tryz.pinned (OpenSpec.upto testsSpec)

/-- 'towpathlaw.Lines', WHERE WHAT IT READS IS OF BULK AT MOST 1048576: true; the input reads as it did. -/
def linesUptoRow : OpenClaim := { program := "ytcnmajndackohaagreatdoor", sum := "af21efbbd5ed08e72cf85e8df7bb4b5f027c56ef319a9d121b0717926f8a80d6", func := "towpath/towpathlaw.Lines", spec := "lines", inPlace := ["internal/reflectlite.TypeOf", "internal/reflectlite.ValueOf", "(internal/reflectlite.Value).Type", "(internal/reflectlite.Value).IsNil", "(internal/reflectlite.Value).Elem", "(internal/reflectlite.Value).Set"], unfollowed := true, recurses := true, named := ["towpath/fault.ErrArg", "internal/strconv.uint64pow10", "math/bits.deBruijn32tab", "math/bits.deBruijn64tab", "towpath/fault.ErrFull", "towpath/fault.ErrLate", "towpath/fault.ErrNone", "towpath/fault.ErrSize", "towpath/fault.ErrQuota", "errors.errorType"], apart := false, laid := [("math/bits.deBruijn32tab", laid_math_bits_deBruijn32tab), ("math/bits.deBruijn64tab", laid_math_bits_deBruijn64tab), ("internal/strconv.uint64pow10", laid_internal_strconv_uint64pow10), ("errors.errorType", laid_errors_errorType), ("towpath/fault.ErrArg", laid_towpath_fault_ErrArg), ("towpath/fault.ErrFull", laid_towpath_fault_ErrFull), ("towpath/fault.ErrLate", laid_towpath_fault_ErrLate), ("towpath/fault.ErrNone", laid_towpath_fault_ErrNone), ("towpath/fault.ErrSize", laid_towpath_fault_ErrSize), ("towpath/fault.ErrQuota", laid_towpath_fault_ErrQuota)], narrowed := true }
def LinesUptoSaid : Prop := linesUptoRow.holds Tryz.pinned (OpenSpec.upto linesSpec)

/-- 'towpathkeep.InTime', WHERE WHAT IT READS IS OF BULK AT MOST 1048576: true; the input reads as it did. -/
def inTimeUptoRow : OpenClaim := { program := "ytcnmajndackohaagreatdoor", sum := "af21efbbd5ed08e72cf85e8df7bb4b5f027c56ef319a9d121b0717926f8a80d6", func := "towpath/towpathkeep.InTime", spec := "inTime", inPlace := ["internal/reflectlite.TypeOf", "internal/reflectlite.ValueOf", "(internal/reflectlite.Value).Type", "(internal/reflectlite.Value).IsNil", "(internal/reflectlite.Value).Elem", "(internal/reflectlite.Value).Set"], unfollowed := true, recurses := true, named := ["towpath/fault.ErrArg", "internal/strconv.uint64pow10", "math/bits.deBruijn32tab", "math/bits.deBruijn64tab", "towpath/fault.ErrFull", "towpath/fault.ErrLate", "towpath/fault.ErrNone", "towpath/fault.ErrSize", "towpath/fault.ErrQuota", "errors.errorType"], apart := false, laid := [("math/bits.deBruijn32tab", laid_math_bits_deBruijn32tab), ("math/bits.deBruijn64tab", laid_math_bits_deBruijn64tab), ("internal/strconv.uint64pow10", laid_internal_strconv_uint64pow10), ("errors.errorType", laid_errors_errorType), ("towpath/fault.ErrArg", laid_towpath_fault_ErrArg), ("towpath/fault.ErrFull", laid_towpath_fault_ErrFull), ("towpath/fault.ErrLate", laid_towpath_fault_ErrLate), ("towpath/fault.ErrNone", laid_towpath_fault_ErrNone), ("towpath/fault.ErrSize", laid_towpath_fault_ErrSize), ("towpath/fault.ErrQuota", laid_towpath_fault_ErrQuota)], narrowed := true }
def InTimeUptoSaid : Prop := inTimeUptoRow.holds Tryz.pinned (OpenSpec.upto inTimeSpec)

/-- 'towpathkeep.Late', WHERE WHAT IT READS IS OF BULK AT MOST 1048576: true; the input reads as it did. -/
def lateUptoRow : OpenClaim := { program := "ytcnmajndackohaagreatdoor", sum := "af21efbbd5ed08e72cf85e8df7bb4b5f027c56ef319a9d121b0717926f8a80d6", func := "towpath/towpathkeep.Late", spec := "late", inPlace := ["internal/reflectlite.ValueOf", "(internal/reflectlite.Value).Type", "(internal/reflectlite.Value).IsNil", "internal/reflectlite.TypeOf", "(internal/reflectlite.Value).Elem", "(internal/reflectlite.Value).Set"], unfollowed := true, recurses := true, named := ["towpath/fault.ErrArg", "internal/strconv.uint64pow10", "math/bits.deBruijn32tab", "math/bits.deBruijn64tab", "errors.errorType", "towpath/fault.ErrFull", "towpath/fault.ErrLate", "towpath/fault.ErrNone", "towpath/fault.ErrSize", "towpath/fault.ErrQuota"], apart := false, laid := [("math/bits.deBruijn32tab", laid_math_bits_deBruijn32tab), ("math/bits.deBruijn64tab", laid_math_bits_deBruijn64tab), ("internal/strconv.uint64pow10", laid_internal_strconv_uint64pow10), ("errors.errorType", laid_errors_errorType), ("towpath/fault.ErrArg", laid_towpath_fault_ErrArg), ("towpath/fault.ErrFull", laid_towpath_fault_ErrFull), ("towpath/fault.ErrLate", laid_towpath_fault_ErrLate), ("towpath/fault.ErrNone", laid_towpath_fault_ErrNone), ("towpath/fault.ErrSize", laid_towpath_fault_ErrSize), ("towpath/fault.ErrQuota", laid_towpath_fault_ErrQuota)], narrowed := true }
def LateUptoSaid : Prop := lateUptoRow.holds Tryz.pinned (OpenSpec.upto lateSpec)

/-- 'towpathkeep.Orderly', WHERE WHAT IT READS IS OF BULK AT MOST 1048576: true; the input reads as it did. -/
def orderlyUptoRow : OpenClaim := { program := "ytcnmajndackohaagreatdoor", sum := "af21efbbd5ed08e72cf85e8df7bb4b5f027c56ef319a9d121b0717926f8a80d6", func := "towpath/towpathkeep.Orderly", spec := "orderly", inPlace := ["internal/reflectlite.TypeOf", "internal/reflectlite.ValueOf", "(internal/reflectlite.Value).Type", "(internal/reflectlite.Value).IsNil", "(internal/reflectlite.Value).Elem", "(internal/reflectlite.Value).Set"], unfollowed := true, recurses := true, named := ["towpath/fault.ErrArg", "internal/strconv.uint64pow10", "math/bits.deBruijn32tab", "math/bits.deBruijn64tab", "towpath/fault.ErrFull", "towpath/fault.ErrLate", "towpath/fault.ErrNone", "towpath/fault.ErrSize", "towpath/fault.ErrQuota", "errors.errorType"], apart := false, laid := [("math/bits.deBruijn32tab", laid_math_bits_deBruijn32tab), ("math/bits.deBruijn64tab", laid_math_bits_deBruijn64tab), ("internal/strconv.uint64pow10", laid_internal_strconv_uint64pow10), ("errors.errorType", laid_errors_errorType), ("towpath/fault.ErrArg", laid_towpath_fault_ErrArg), ("towpath/fault.ErrFull", laid_towpath_fault_ErrFull), ("towpath/fault.ErrLate", laid_towpath_fault_ErrLate), ("towpath/fault.ErrNone", laid_towpath_fault_ErrNone), ("towpath/fault.ErrSize", laid_towpath_fault_ErrSize), ("towpath/fault.ErrQuota", laid_towpath_fault_ErrQuota)], narrowed := true }
def OrderlyUptoSaid : Prop := orderlyUptoRow.holds Tryz.pinned (OpenSpec.upto orderlySpec)

/-- 'towpathkeep.Changing', WHERE WHAT IT READS IS OF BULK AT MOST 1048576: true; the input reads as it did. -/
def changingUptoRow : OpenClaim := { program := "ytcnmajndackohaagreatdoor", sum := "af21efbbd5ed08e72cf85e8df7bb4b5f027c56ef319a9d121b0717926f8a80d6", func := "towpath/towpathkeep.Changing", spec := "changing", inPlace := ["internal/reflectlite.TypeOf", "internal/reflectlite.ValueOf", "(internal/reflectlite.Value).Type", "(internal/reflectlite.Value).IsNil", "(internal/reflectlite.Value).Elem", "(internal/reflectlite.Value).Set"], unfollowed := true, recurses := true, named := ["towpath/fault.ErrArg", "internal/strconv.uint64pow10", "math/bits.deBruijn32tab", "math/bits.deBruijn64tab", "towpath/fault.ErrFull", "towpath/fault.ErrLate", "towpath/fault.ErrNone", "towpath/fault.ErrSize", "towpath/fault.ErrQuota", "errors.errorType"], apart := false, laid := [("math/bits.deBruijn32tab", laid_math_bits_deBruijn32tab), ("math/bits.deBruijn64tab", laid_math_bits_deBruijn64tab), ("internal/strconv.uint64pow10", laid_internal_strconv_uint64pow10), ("errors.errorType", laid_errors_errorType), ("towpath/fault.ErrArg", laid_towpath_fault_ErrArg), ("towpath/fault.ErrFull", laid_towpath_fault_ErrFull), ("towpath/fault.ErrLate", laid_towpath_fault_ErrLate), ("towpath/fault.ErrNone", laid_towpath_fault_ErrNone), ("towpath/fault.ErrSize", laid_towpath_fault_ErrSize), ("towpath/fault.ErrQuota", laid_towpath_fault_ErrQuota)], narrowed := true }
def ChangingUptoSaid : Prop := changingUptoRow.holds Tryz.pinned (OpenSpec.upto changingSpec)

/-- 'towpathlaw.All', WHERE WHAT IT READS IS OF BULK AT MOST 1048576: true; the input reads as it did. -/
def allUptoRow : OpenClaim := { program := "ytcnmajndackohaagreatdoor", sum := "af21efbbd5ed08e72cf85e8df7bb4b5f027c56ef319a9d121b0717926f8a80d6", func := "towpath/towpathlaw.All", spec := "all", inPlace := ["internal/reflectlite.TypeOf", "internal/reflectlite.ValueOf", "(internal/reflectlite.Value).Type", "(internal/reflectlite.Value).IsNil", "(internal/reflectlite.Value).Elem", "(internal/reflectlite.Value).Set"], unfollowed := true, recurses := true, named := ["towpath/fault.ErrArg", "internal/strconv.uint64pow10", "math/bits.deBruijn32tab", "math/bits.deBruijn64tab", "towpath/fault.ErrFull", "towpath/fault.ErrLate", "towpath/fault.ErrNone", "towpath/fault.ErrSize", "towpath/fault.ErrQuota", "errors.errorType"], apart := false, laid := [("math/bits.deBruijn32tab", laid_math_bits_deBruijn32tab), ("math/bits.deBruijn64tab", laid_math_bits_deBruijn64tab), ("internal/strconv.uint64pow10", laid_internal_strconv_uint64pow10), ("errors.errorType", laid_errors_errorType), ("towpath/fault.ErrArg", laid_towpath_fault_ErrArg), ("towpath/fault.ErrFull", laid_towpath_fault_ErrFull), ("towpath/fault.ErrLate", laid_towpath_fault_ErrLate), ("towpath/fault.ErrNone", laid_towpath_fault_ErrNone), ("towpath/fault.ErrSize", laid_towpath_fault_ErrSize), ("towpath/fault.ErrQuota", laid_towpath_fault_ErrQuota)], narrowed := true }
def AllUptoSaid : Prop := allUptoRow.holds Tryz.pinned (OpenSpec.upto allSpec)

end Rows
end Go.Proofs.YtcnmajndackohaaGreatDoor
