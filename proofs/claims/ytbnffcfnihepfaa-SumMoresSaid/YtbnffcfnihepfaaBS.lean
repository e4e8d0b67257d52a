/- Bytes as a string. -/
import Derived.Test.YtbnffcfnihepfaaB
import Derived.Laws.BytesArg
import Derived.Laws.Strings
namespace Go.Proofs.Ytbnffcfnihepfaa
open Go.RowKit

def strF (l : List UInt8) : ByteArray := ⟨l.toArray⟩
theorem strF_list (l : List UInt8) : (strF l).toList = l := ByteArray.toList_mk l
/-- string(b). -/
theorem conv_bytes {w : World} {B : Nat} {A : Option Addr} {c : Nat} {l : List UInt8} (hs : Rd w B A (bys l)) :
    (convert 24 9 (.slice A l.length c)).run Try.prog w = .ok (.string (strF l)) w := by
  by_cases hn : 0 < l.length
  · obtain ⟨b, off, rfl, hbB, hc⟩ := hs (by rw [bys_len]; exact hn)
    have h := run_convert_bytes_arg (P := Try.prog) w 24 5 Try.underlying24 Try.underlying5 b off l.length c (l.map fun x => (x.toNat : Int)) (by simp) (fun i hi => by
      have h1 := hc i _ (bys_at l i hi)
      rw [h1]
      simp [List.getD, List.getElem?_map, List.getElem?_eq_getElem hi]) 9 Try.underlying9
    rw [h]
    congr 2
    simp only [strF, strOfNums, List.map_map]
    congr 2
    conv => rhs; rw [← List.map_id l]
    apply List.map_congr_left
    intro x _
    simp
  · obtain rfl : l = [] := List.eq_nil_of_length_eq_zero (by omega)
    rw [List.length_nil, run_convert_bytes_string w 24 9 5 A 0 c Try.underlying24 Try.underlying5 Try.underlying9]
    rcases A with _ | A <;> simp [Conv.bytesToString, loadCells, loadCellsFrom] <;> rfl
theorem neq_self (x : List UInt8) : ((strF x).toList == (strF x).toList) = true := by simp
end Go.Proofs.Ytbnffcfnihepfaa
