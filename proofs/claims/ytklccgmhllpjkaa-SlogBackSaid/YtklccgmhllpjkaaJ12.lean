/- The laws on logs, walked over the calls' contracts: SlogBytes. -/
import Derived.Test.YtklccgmhllpjkaaJ11
import Derived.Laws.BytesArg
import Derived.Laws.Strings
set_option maxRecDepth 10000
namespace Go.Proofs.Ytklccgmhllpjkaa
open Go.RowKit

def txtF (l : List UInt8) : ByteArray := ⟨l.toArray⟩
theorem txtF_list (l : List UInt8) : (txtF l).toList = l := ByteArray.toList_mk l
/-- string(b). -/
theorem conv_bytes {w : World} {B : Nat} {A : Option Addr} {c : Nat} {l : List UInt8} (hs : Rd w B A (bys l)) :
    (convert 35 9 (.slice A l.length c)).run Try.prog w = .ok (.string (txtF l)) w := by
  by_cases hn : 0 < l.length
  · obtain ⟨b, off, rfl, hbB, hc⟩ := hs (by rw [bys_len]; exact hn)
    have h := run_convert_bytes_arg (P := Try.prog) w 35 5 Try.underlying35 Try.underlying5 b off l.length c (l.map fun x => (x.toNat : Int)) (by simp) (fun i hi => by
      have h1 := hc i _ (bys_at l i hi)
      rw [h1]
      simp [List.getD, List.getElem?_map, List.getElem?_eq_getElem hi]) 9 Try.underlying9
    rw [h]
    congr 2
    simp only [txtF, strOfNums, List.map_map]
    congr 2
    conv => rhs; rw [← List.map_id l]
    apply List.map_congr_left
    intro x _
    simp
  · obtain rfl : l = [] := List.eq_nil_of_length_eq_zero (by omega)
    rw [List.length_nil, run_convert_bytes_string w 35 9 5 A 0 c Try.underlying35 Try.underlying5 Try.underlying9]
    rcases A with _ | A <;> simp [Conv.bytesToString, loadCells, loadCellsFrom] <;> rfl
theorem neq_self (x : List UInt8) : ((txtF x).toList == (txtF x).toList) = true := by simp
set_option maxHeartbeats 2000000 in
theorem slogBytes_any (L : LogCalls) (w : World) (A0 : Option Addr) (c0 : Nat) (l0 : List Mv) (hR0 : Rd w w.heap.size A0 (mvs l0)) (hO0 : MvOk l0) (hc0 : l0.length ≤ c0) (_hN0 : A0 = none → c0 = 0) (_hL0 : l0.length * 24 ≤ 140737488351232)
    (A1 : Option Addr) (c1 : Nat) (l1 : List UInt8) (hR1 : Rd w w.heap.size A1 (bys l1)) (hc1 : l1.length ≤ c1) (_hN1 : A1 = none → c1 = 0) :
    Calls Try.prog 6 #[.slice A0 l0.length c0, .slice A1 l1.length c1] w fun e w' => e = .returned (.bool true) ∧ Below w.heap.size w w' := by
  have H0 := Lib.hid (fun h => MvL.mk hR0 hO0 hc0 h)
  have H1 := Lib.hid (fun h => ByL.mk hR1 hc1 h)
  clear hR0 hO0 hc0 hR1 hc1
  go_enter Try.func6, Try.ntmps6
  go_wp2_with fail
  refine Calls.mono (slogAlive_any L _) ?_
  rintro e w1 ⟨rfl, hb1⟩
  by_cases h5 : l0.length ≤ 5000
  · have h5i : ¬ (5000 : Int) < l0.length := by omega
    by_cases h3 : l1.length ≤ 30000
    · have h3i : ¬ (30000 : Int) < l1.length := by omega
      have H0 := Lib.hid (H0.out (by omega))
      have H1 := Lib.hid (H1.out (by omega))
      have H3 := Lib.hid h3
      clear h5 h3
      have HC := Lib.hid (bytes_call L (H0.out.later hb1))
      go_wp2_with fail
      refine Calls.mono HC.out ?_
      rintro e w2 ⟨B2, d2, rfl, r2, hb2⟩
      have t2 := below_next hb1 hb2
      have HC := Lib.hid (rbytes_call (H0.out.later t2))
      go_wp2_with fail
      refine Calls.mono HC.out ?_
      rintro e w3 ⟨B3, d3, rfl, r3, hb3⟩
      have t3 := below_next t2 hb3
      have r2 := r2.later hb3
      have k1 := Lib.hid (H1.out.later t3)
      clear HC hb1 hb2 hb3 t2
      have HR2 := Lib.hid r2
      have HR3 := Lib.hid r3
      have HT3 := Lib.hid t3
      clear r2 r3 t3
      go_wp2_with (at_builtin; refine app_copy rfl 34 35 rfl rfl w3.heap.size A1 l1.length l1.length c1 l1 rfl rfl rfl (k1.out.rd.below ((Below.refl _ _).alloc (Nat.le_refl _) _)) (by have := H3.out; omega) ?_; intro A4 d4 w4 ho4 hb4; have HO4 := Lib.hid ho4; have HB4 := Lib.hid hb4; clear ho4 hb4)
      obtain ⟨A4', d4', e4, r4, q4⟩ := own_rd HO4.out
      simp only [Value.slice.injEq, true_and] at e4
      obtain ⟨rfl, rfl⟩ := e4
      have k4 : ByL w4 A4 d4 l1 := ⟨r4, q4, H1.out.len⟩
      have t4 := below_next HT3.out HB4.out
      have HC := Lib.hid (read_call L k4)
      clear HO4 r4 q4 k4
      refine Calls.mono HC.out ?_
      rintro e w5 ⟨B5, d5, rfl, r5, hb5⟩
      have t5 := below_next t4 hb5
      have HC := Lib.hid (rread_call (H1.out.later t5))
      go_wp2_with fail
      refine Calls.mono HC.out ?_
      rintro e w6 ⟨B6, d6, rfl, r6, hb6⟩
      have t6 := below_next t5 hb6
      have hb36 := below_next (below_next HB4.out hb5) hb6
      have r2 := HR2.out.later hb36
      have r3 := HR3.out.later hb36
      have HS := jsame_call (r5.later hb6) r6
      rw [decide_eq_true rfl] at HS
      have HS := Lib.hid HS
      generalize (bytesM l0).getD [] = x at *
      generalize code8 (bytesM l0) = e1 at *
      generalize code8 (readM l1) = e2 at *
      generalize (readM l1).getD [] = y at *
      have hk1 := conv_bytes (c := d2) r2.rd
      have hk2 := conv_bytes (c := d3) r3.rd
      have hx := neq_self x
      have he1 : (e1 == e1) = true := by simp
      have he2 : (e2 == e2) = true := by simp
      clear HC r2 r3 HR2 HR3 hb36 r5 r6
      go_wp2_with fail
      refine Calls.mono HS.out ?_
      rintro e w7 ⟨rfl, hb7⟩
      go_wp2_with fail
      go_ret
      exact ⟨by simp, below_next t6 hb7⟩
    · have h3i : (30000 : Int) < l1.length := by omega
      clear h5 h3
      go_wp2_with fail
      go_ret
      exact ⟨rfl, hb1⟩
  · have h5i : (5000 : Int) < l0.length := by omega
    clear h5
    go_wp2_with fail
    go_ret
    exact ⟨rfl, hb1⟩
end Go.Proofs.Ytklccgmhllpjkaa
