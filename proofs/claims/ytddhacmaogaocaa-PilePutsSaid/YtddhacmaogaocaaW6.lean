
/- Walks: the reference's First and Has; the program's Count. -/
import Derived.Test.YtddhacmaogaocaaW5
set_option maxRecDepth 10000
namespace Go.Proofs.Ytddhacmaogaocaa
open Go.RowKit

end Go.Proofs.Ytddhacmaogaocaa
