import Derived.Test.YtddhacmaogaocaaK

/- Walks: a pointer as bytes, the program's and the reference's. -/
import Derived.Deep.RegionHeld3
set_option maxRecDepth 10000
namespace Go.Proofs.Ytddhacmaogaocaa
open Go.RowKit

/-- What a pointer is made of. -/
structure IsPtr (a b s : Int) : Prop where
  a0 : -9223372036854775808 ≤ a
  a1 : a ≤ 9223372036854775807
  b0 : 0 ≤ b
  b1 : b < 18446744073709551616
  s0 : 0 ≤ s
  s1 : s < 4294967296
end Go.Proofs.Ytddhacmaogaocaa
