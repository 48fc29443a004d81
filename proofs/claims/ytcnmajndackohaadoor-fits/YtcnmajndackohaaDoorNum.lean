/-
  Numbers that an int holds, and flows of them.
-/
import Derived.Test.YtcnmajndackohaaDoorFlow
namespace Go.Proofs.YtcnmajndackohaaDoor

structure R64 (x : Int) : Prop where
  lo : -9223372036854775808 ≤ x
  hi : x ≤ 9223372036854775807
structure Raw (f : Fl) : Prop where
  s : R64 f.s
  p : R64 f.p
  b : R64 f.b
  r : R64 f.r
  d : R64 f.d
end Go.Proofs.YtcnmajndackohaaDoor
