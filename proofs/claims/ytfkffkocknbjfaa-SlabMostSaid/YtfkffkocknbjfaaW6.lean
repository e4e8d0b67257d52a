
/- Walks: the reference's First and Has; the program's Count. -/
import Derived.Test.YtfkffkocknbjfaaW5
set_option maxRecDepth 10000
namespace Go.Proofs.Ytfkffkocknbjfaa
open Go.RowKit

end Go.Proofs.Ytfkffkocknbjfaa
