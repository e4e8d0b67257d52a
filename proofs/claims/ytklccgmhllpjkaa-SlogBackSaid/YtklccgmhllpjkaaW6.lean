
/- Walks: the reference's First and Has; the program's Count. -/
import Derived.Test.YtklccgmhllpjkaaW5
set_option maxRecDepth 10000
namespace Go.Proofs.Ytklccgmhllpjkaa
open Go.RowKit

end Go.Proofs.Ytklccgmhllpjkaa
