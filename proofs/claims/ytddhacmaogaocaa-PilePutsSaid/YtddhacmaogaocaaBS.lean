
/- Bytes as a string. -/
import Derived.Test.YtddhacmaogaocaaB
import Derived.Laws.BytesArg
import Derived.Laws.Strings
set_option maxRecDepth 10000
namespace Go.Proofs.Ytddhacmaogaocaa
open Go.RowKit

def qstrF (l : List UInt8) : ByteArray := ⟨l.toArray⟩
theorem strF_list (l : List UInt8) : (qstrF l).toList = l := ByteArray.toList_mk l
theorem neq_self (x : List UInt8) : ((qstrF x).toList == (qstrF x).toList) = true := by simp
end Go.Proofs.Ytddhacmaogaocaa
