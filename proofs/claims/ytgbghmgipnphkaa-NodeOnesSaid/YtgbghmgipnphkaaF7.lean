
/- Walks: the numbers of bytes, the reference's. -/
import Derived.Test.YtgbghmgipnphkaaF6
set_option maxRecDepth 10000
namespace Go.Proofs.Ytgbghmgipnphkaa
open Go.RowKit

theorem get_any (A A' : Option Addr) (c c' : Nat) (ws : List Int) (b : List UInt8) (w : World) (hs : Rd w w.heap.size A (wds ws)) (ht : Rd w w.heap.size A' (bys b)) (hbc : b.length ≤ c') (hl : ws.length ≤ 17592186044416) :
    Calls Try.prog 30 #[.slice A ws.length c, .slice A' b.length c'] w (GivesU (getF ws b) w) := by
  rcases hb : wideB ws with _ | _
  · exact get_no A A' c c' ws b w hs (by omega) hb
  · by_cases hn : (b.length : Int) = sumF ws
    · exact get_like A A' c c' ws b w hs ht hbc hl hb hn
    · exact get_len A A' c c' ws b w hs (by omega) hb hn

/-- The number of the first k of some bytes. -/
theorem value_first (A : Option Addr) (c k : Nat) (l : List UInt8) (w : World) (hs : Rd w w.heap.size A (bys l)) (hk : k ≤ 8) (hl : k ≤ l.length) :
    Calls Try.prog 31 #[.slice A k c] w fun e w' => e = .returned (.int .u64 (numF (l.take k) : Int)) ∧ Below w.heap.size w w' := by
  have h := value_any A c (l.take k) w (by rw [← bys_take]; exact hs.take k) (by rw [List.length_take]; omega)
  rwa [List.length_take_of_le hl] at h

end Go.Proofs.Ytgbghmgipnphkaa
