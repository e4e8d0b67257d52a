/- The laws on logs, walked over the calls' contracts: SlogBack. Printed by mkj13.py. -/
import Derived.Test.YtklccgmhllpjkaaJ12
set_option maxRecDepth 10000
namespace Go.Proofs.Ytklccgmhllpjkaa
open Go.RowKit

set_option maxHeartbeats 2000000 in
theorem slogBack_any (L : LogCalls) (w : World) (A0 : Option Addr) (c0 : Nat) (l0 : List Sp) (hR0 : Rd w w.heap.size A0 (spc l0)) (hO0 : SpOk l0) (hc0 : l0.length ≤ c0) (_hN0 : A0 = none → c0 = 0) (hL0 : l0.length * 16 ≤ 140737488351232)
    (A1 : Option Addr) (c1 : Nat) (l1 : List Sp) (hR1 : Rd w w.heap.size A1 (spc l1)) (hO1 : SpOk l1) (hc1 : l1.length ≤ c1) (_hN1 : A1 = none → c1 = 0) (hL1 : l1.length * 16 ≤ 140737488351232)
    (A2 : Option Addr) (c2 : Nat) (l2 : List Mv) (hR2 : Rd w w.heap.size A2 (mvs l2)) (hO2 : MvOk l2) (hc2 : l2.length ≤ c2) (_hN2 : A2 = none → c2 = 0) (_hL2 : l2.length * 24 ≤ 140737488351232) :
    Calls Try.prog 9 #[.slice A0 l0.length c0, .slice A1 l1.length c1, .slice A2 l2.length c2] w fun e w' => e = .returned (.bool true) ∧ Below w.heap.size w w' := by
  have H0 := Lib.hid (SpL.mk hR0 hO0 hc0 (by omega))
  have H1 := Lib.hid (SpL.mk hR1 hO1 hc1 (by omega))
  have H2 := Lib.hid (fun h => MvL.mk hR2 hO2 hc2 h)
  clear hR0 hO0 hc0 hL0 hR1 hO1 hc1 hR2 hO2 hc2 hL1
  go_enter Try.func9, Try.ntmps9
  go_wp2_with fail
  refine Calls.mono (slogAlive_any L _) ?_
  rintro e w1 ⟨rfl, hb1⟩
  by_cases h4 : l2.length ≤ 4096
  · have h4i : ¬ (4096 : Int) < l2.length := by omega
    have h4j : (l2.length : Int) ≤ 4096 := by omega
    have H2 := Lib.hid (H2.out (by omega))
    clear h4
    have hc := bytes_call L (H2.out.later hb1)
    cases ho : bytesM l2 with
    | none =>
      rw [ho] at hc
      have HC : Hid (Calls Try.prog 18 #[.slice A2 l2.length c2] w1 fun e w' => ∃ B d, e = .returned (.tuple #[.slice B 0 d, .int .i64 81]) ∧ ByL w' B d [] ∧ Below w1.heap.size w1 w') := hc
      clear hc ho
      go_wp2_with fail
      refine Calls.mono HC.out ?_
      rintro e w2 ⟨B2, d2, rfl, r2, hb2⟩
      have t := below_next hb1 hb2
      clear HC hb1 hb2 r2
      have hr := right_call (H0.out.later t)
      cases h0 : rightF 0 l0 with
      | false =>
        rw [h0] at hr
        have HR := Lib.hid hr
        clear hr h0
        go_wp2_with fail
        refine Calls.mono HR.out ?_
        rintro e wa ⟨rfl, hba⟩
        go_wp2_with fail
        go_ret
        exact ⟨rfl, below_next t hba⟩
      | true =>
        rw [h0] at hr
        have HR := Lib.hid hr
        have HT0 := Lib.hid h0
        clear hr h0
        go_wp2_with fail
        refine Calls.mono HR.out ?_
        rintro e wa ⟨rfl, hba⟩
        have t := below_next t hba
        have hr := right_call (H1.out.later t)
        cases h1 : rightF 0 l1 with
        | false =>
          rw [h1] at hr
          have HR := Lib.hid hr
          clear hr h1
          go_wp2_with fail
          refine Calls.mono HR.out ?_
          rintro e wb ⟨rfl, hbb⟩
          go_wp2_with fail
          go_ret
          exact ⟨rfl, below_next t hbb⟩
        | true =>
          rw [h1] at hr
          have HR := Lib.hid hr
          have HT1 := Lib.hid h1
          clear hr h1
          go_wp2_with fail
          refine Calls.mono HR.out ?_
          rintro e wb ⟨rfl, hbb⟩
          have t := below_next t hbb
          have k0 := H0.out.later t
          have k1 := H1.out.later t
          have HD := Lib.hid (diff_call L k0 k1)
          clear HR hba hbb
          go_wp2_with fail
          refine Calls.mono HD.out ?_
          rintro e wc ⟨B4, d4, rfl, r4, hb4⟩
          have t := below_next t hb4
          have hp := rep_call L (k0.later hb4) r4
          rw [(rep_diff HT0.out HT1.out).1, (rep_diff HT0.out HT1.out).2] at hp
          have HP := Lib.hid hp
          clear hp HD
          go_wp2_with fail
          refine Calls.mono HP.out ?_
          rintro e wd ⟨B5, d5, rfl, r5, hb5⟩
          have t := below_next t hb5
          have HD := Lib.hid (diff_call L (H1.out.later t) (H0.out.later t))
          clear HP k0 k1 hb4 r4
          go_wp2_with fail
          refine Calls.mono HD.out ?_
          rintro e we ⟨B6, d6, rfl, r6, hb6⟩
          have t := below_next t hb6
          have hp := rep_call L (r5.later hb6) r6
          rw [(rep_diff HT1.out HT0.out).1, (rep_diff HT1.out HT0.out).2] at hp
          have HP := Lib.hid hp
          clear hp HD
          go_wp2_with fail
          refine Calls.mono HP.out ?_
          rintro e wf ⟨B7, d7, rfl, r7, hb7⟩
          have t := below_next t hb7
          have hs := ssame_call r7 (H0.out.later t)
          rw [decide_eq_true rfl] at hs
          have HS := Lib.hid hs
          clear hs HP hb6 r6
          go_wp2_with fail
          refine Calls.mono HS.out ?_
          rintro e wg ⟨rfl, hb8⟩
          go_wp2_with fail
          go_ret
          exact ⟨rfl, below_next t hb8⟩
    | some x =>
      obtain ⟨hx1, hx2⟩ := read_back ho
      rw [ho] at hc
      have HC : Hid (Calls Try.prog 18 #[.slice A2 l2.length c2] w1 fun e w' => ∃ B d, e = .returned (.tuple #[.slice B x.length d, .int .i64 0]) ∧ ByL w' B d x ∧ Below w1.heap.size w1 w') := hc
      have HX1 := Lib.hid hx1
      have hlen : ((x.length : Int) != 5 * (l2.length : Int)) = false := by rw [hx2]; simp
      clear hc ho hx1 hx2
      go_wp2_with fail
      refine Calls.mono HC.out ?_
      rintro e w2 ⟨B2, d2, rfl, r2, hb2⟩
      have t2 := below_next hb1 hb2
      have hc := read_call L r2
      rw [HX1.out] at hc
      have HD : Hid (Calls Try.prog 20 #[.slice B2 x.length d2] w2 fun e w' => ∃ B d, e = .returned (.tuple #[.slice B l2.length d, .int .i64 0]) ∧ MvL w' B d l2 ∧ Below w2.heap.size w2 w') := hc
      clear hc HX1 HC
      go_wp2_with fail
      refine Calls.mono HD.out ?_
      rintro e w3 ⟨B3, d3, rfl, r3, hb3⟩
      have t3 := below_next t2 hb3
      have hs := jsame_call r3 (H2.out.later t3)
      rw [decide_eq_true rfl] at hs
      have HS := Lib.hid hs
      clear hs HD
      go_wp2_with fail
      refine Calls.mono HS.out ?_
      rintro e w4 ⟨rfl, hb4⟩
      have t := below_next t3 hb4
      clear HS hb1 hb2 hb3 hb4 t2 t3 r2 r3
      have hr := right_call (H0.out.later t)
      cases h0 : rightF 0 l0 with
      | false =>
        rw [h0] at hr
        have HR := Lib.hid hr
        clear hr h0
        go_wp2_with fail
        refine Calls.mono HR.out ?_
        rintro e wa ⟨rfl, hba⟩
        go_wp2_with fail
        go_ret
        exact ⟨rfl, below_next t hba⟩
      | true =>
        rw [h0] at hr
        have HR := Lib.hid hr
        have HT0 := Lib.hid h0
        clear hr h0
        go_wp2_with fail
        refine Calls.mono HR.out ?_
        rintro e wa ⟨rfl, hba⟩
        have t := below_next t hba
        have hr := right_call (H1.out.later t)
        cases h1 : rightF 0 l1 with
        | false =>
          rw [h1] at hr
          have HR := Lib.hid hr
          clear hr h1
          go_wp2_with fail
          refine Calls.mono HR.out ?_
          rintro e wb ⟨rfl, hbb⟩
          go_wp2_with fail
          go_ret
          exact ⟨rfl, below_next t hbb⟩
        | true =>
          rw [h1] at hr
          have HR := Lib.hid hr
          have HT1 := Lib.hid h1
          clear hr h1
          go_wp2_with fail
          refine Calls.mono HR.out ?_
          rintro e wb ⟨rfl, hbb⟩
          have t := below_next t hbb
          have k0 := H0.out.later t
          have k1 := H1.out.later t
          have HD := Lib.hid (diff_call L k0 k1)
          clear HR hba hbb
          go_wp2_with fail
          refine Calls.mono HD.out ?_
          rintro e wc ⟨B4, d4, rfl, r4, hb4⟩
          have t := below_next t hb4
          have hp := rep_call L (k0.later hb4) r4
          rw [(rep_diff HT0.out HT1.out).1, (rep_diff HT0.out HT1.out).2] at hp
          have HP := Lib.hid hp
          clear hp HD
          go_wp2_with fail
          refine Calls.mono HP.out ?_
          rintro e wd ⟨B5, d5, rfl, r5, hb5⟩
          have t := below_next t hb5
          have HD := Lib.hid (diff_call L (H1.out.later t) (H0.out.later t))
          clear HP k0 k1 hb4 r4
          go_wp2_with fail
          refine Calls.mono HD.out ?_
          rintro e we ⟨B6, d6, rfl, r6, hb6⟩
          have t := below_next t hb6
          have hp := rep_call L (r5.later hb6) r6
          rw [(rep_diff HT1.out HT0.out).1, (rep_diff HT1.out HT0.out).2] at hp
          have HP := Lib.hid hp
          clear hp HD
          go_wp2_with fail
          refine Calls.mono HP.out ?_
          rintro e wf ⟨B7, d7, rfl, r7, hb7⟩
          have t := below_next t hb7
          have hs := ssame_call r7 (H0.out.later t)
          rw [decide_eq_true rfl] at hs
          have HS := Lib.hid hs
          clear hs HP hb6 r6
          go_wp2_with fail
          refine Calls.mono HS.out ?_
          rintro e wg ⟨rfl, hb8⟩
          go_wp2_with fail
          go_ret
          exact ⟨rfl, below_next t hb8⟩
  · have h4i : (4096 : Int) < l2.length := by omega
    clear h4
    go_wp2_with fail
    go_ret
    exact ⟨rfl, hb1⟩
end Go.Proofs.Ytklccgmhllpjkaa
