import Derived.Test.YtgbghmgipnphkaaK

/- Piles as plain mathematics: a device that keeps its power, a map, two stamps; what each call does to them. No function of the program. -/
set_option maxRecDepth 10000
set_option maxRecDepth 10000
namespace Go.Proofs.Ytgbghmgipnphkaa
open Go.RowKit

abbrev PtrV := Int × Int × Int
def hole0 : PtrV := (0, 0, 0)
end Go.Proofs.Ytgbghmgipnphkaa
