/- Walks: the same texts; bytes as a string; the chapter's examples. -/
import Derived.Test.YtccmannmbldghaaF12
import Derived.Laws.BytesArg
import Derived.Laws.Strings
namespace Go.Proofs.Ytccmannmbldghaa
open Go.RowKit

def strF (l : List UInt8) : ByteArray := ⟨l.toArray⟩
theorem strF_list (l : List UInt8) : (strF l).toList = l := ByteArray.toList_mk l
/-- string(b). -/
theorem conv_bytes {w : World} {B : Nat} {A : Option Addr} {c : Nat} {l : List UInt8} (hs : Rd w B A (bys l)) :
    (convert 26 9 (.slice A l.length c)).run Try.prog w = .ok (.string (strF l)) w := by
  by_cases hn : 0 < l.length
  · obtain ⟨b, off, rfl, hbB, hc⟩ := hs (by rw [bys_len]; exact hn)
    have h := run_convert_bytes_arg (P := Try.prog) w 26 5 Try.underlying26 Try.underlying5 b off l.length c (l.map fun x => (x.toNat : Int)) (by simp) (fun i hi => by
      have h1 := hc i _ (bys_at l i hi)
      rw [h1]
      simp [List.getD, List.getElem?_map, List.getElem?_eq_getElem hi]) 9 Try.underlying9
    rw [h]
    congr 2
    simp only [strF, strOfNums, List.map_map]
    congr 2
    conv => rhs; rw [← List.map_id l]
    apply List.map_congr_left
    intro x _
    simp
  · obtain rfl : l = [] := List.eq_nil_of_length_eq_zero (by omega)
    rw [List.length_nil, run_convert_bytes_string w 26 9 5 A 0 c Try.underlying26 Try.underlying5 Try.underlying9]
    rcases A with _ | A <;> simp [Conv.bytesToString, loadCells, loadCellsFrom] <;> rfl

set_option maxHeartbeats 1000000 in
theorem sametexts_any (A A' : Option Addr) (c c' : Nat) (l m : List Tx) (w : World) (hs : Rd w w.heap.size A (txs l)) (hin : TxIn w w.heap.size l) (ht : Rd w w.heap.size A' (txs m)) (hin' : TxIn w w.heap.size m) (hl : l.length ≤ 4611686018427387903) :
    Calls Try.prog 20 #[.slice A l.length c, .slice A' m.length c'] w fun e w' => e = .returned (.bool (decide (byt l = byt m))) ∧ ∃ n, w' = w.drewN n := by
  by_cases hlen : l.length = m.length
  · have hle : m.length ≤ l.length := by omega
    have hge : l.length ≤ m.length := by omega
    have hn : ((m.length : Int) != (m.length : Int)) = false := by simp
    have HI := Lib.hid hin
    have HI' := Lib.hid hin'
    clear hin hin'
    go_enter Try.func20, Try.ntmps20
    rw [hlen]
    have Hlen := Lib.hid hlen; clear hlen
    go_wp2
    go_loopw [13] (fun i wr => ∃ (k n : Nat), k ≤ m.length ∧ i = .int .i64 k ∧ Hid ((byt l).take k = (byt m).take k) ∧ wr = w.drewN n) (fun i _ => m.length - (intOf i).toNat)
    case atStart => exact ⟨0, 0, by omega, rfl, rfl, rfl⟩
    case round =>
      obtain ⟨k, n, hk, rfl, HR, rfl⟩ := hrel
      by_cases hlt : k < m.length
      · obtain ⟨b, off, rfl, hbB, hc1⟩ := tx_at hs k (by omega)
        obtain ⟨b', off', rfl, hbB', hc1'⟩ := tx_at ht k hlt
        have hlt' : k < l.length := by omega
        have hr1 : l[k].2.2 = m[k].2.2 → (byt l).take (k + 1) = (byt m).take (k + 1) := fun h => take_more (by rw [byt_len]; exact hlt') (by rw [byt_len]; exact hlt) HR.out (by rw [byt_get hlt', byt_get hlt]; exact h)
        have hr2 : l[k].2.2 ≠ m[k].2.2 → byt l ≠ byt m := fun h => take_ne (k := k) (by rw [byt_len]; exact hlt') (by rw [byt_len]; exact hlt) (by rw [byt_get hlt', byt_get hlt]; exact h)
        have hv1 := fun n => conv_bytes (w := w.drewN n) (c := l[k].2.1) (HI.out _ (List.getElem_mem hlt')).1
        have hv2 := fun n => conv_bytes (w := w.drewN n) (c := m[k].2.1) (HI'.out _ (List.getElem_mem hlt)).1
        clear HR
        generalize l[k].2.2 = p at *
        generalize m[k].2.2 = q at *
        generalize l[k].2.1 = c1 at *
        generalize m[k].2.1 = c2 at *
        generalize l[k].1 = A1 at *
        generalize m[k].1 = A2 at *
        by_cases he : p = q
        · subst he
          have Hr1 := Lib.hid (hr1 rfl); clear hr1 hr2
          have h2 : ((strF p).toList == (strF p).toList) = true := by simp
          go_wp2_with fail
          go_quiet (fail)
          go_wp2_with fail
          go_roundw
          case rel => exact ⟨k + 1, _, by omega, by go_num, Hr1.out, rfl⟩
          case measure => simp [intOf]; omega
        · have Hr2 := Lib.hid (hr2 he); clear hr1 hr2
          have h2 : ((strF p).toList == (strF q).toList) = false := by rw [strF_list, strF_list, beq_eq_false_iff_ne]; exact he
          clear he
          go_wp2_with fail
          go_quiet (fail)
          go_wp2_with fail
          go_ret
          exact ⟨ret_bool (by rw [decide_eq_false Hr2.out]), _, drew2 _ _⟩
      · have HE : Hid (byt l = byt m) := by
          have h := HR.out
          rw [List.take_of_length_le (by rw [byt_len]; omega), List.take_of_length_le (by rw [byt_len]; omega)] at h
          exact h
        go_wp2_with fail
        go_ret
        exact ⟨ret_bool (by rw [decide_eq_true HE.out]), _, rfl⟩
  · have hn : ((l.length : Int) != (m.length : Int)) = true := by rw [bne_iff_ne]; omega
    have HE : Hid (byt l ≠ byt m) := fun h => hlen (by have := congrArg List.length h; rwa [byt_len, byt_len] at this)
    clear hin hin'
    go_enter Try.func20, Try.ntmps20
    go_wp2
    go_ret
    exact ⟨ret_bool (by rw [decide_eq_false HE.out]), 0, rfl⟩
end Go.Proofs.Ytccmannmbldghaa
