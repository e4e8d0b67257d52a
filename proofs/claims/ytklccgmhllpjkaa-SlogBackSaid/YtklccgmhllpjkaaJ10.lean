/- The laws on logs, walked over the calls' contracts: SlogLeads. -/
import Derived.Test.YtklccgmhllpjkaaJ9
set_option maxRecDepth 10000
namespace Go.Proofs.Ytklccgmhllpjkaa
open Go.RowKit

theorem rep_code (o : Option (Int → Bool)) : repC o = 0 ∨ repC o = 81 := by cases o <;> simp [repC]
set_option maxHeartbeats 2000000 in
theorem slogLeads_any (L : LogCalls) (w : World) (A0 : Option Addr) (c0 : Nat) (l0 : List Sp) (hR0 : Rd w w.heap.size A0 (spc l0)) (hO0 : SpOk l0) (hc0 : l0.length ≤ c0) (_hN0 : A0 = none → c0 = 0) (hL0 : l0.length * 16 ≤ 140737488351232)
    (A1 : Option Addr) (c1 : Nat) (l1 : List Sp) (hR1 : Rd w w.heap.size A1 (spc l1)) (hO1 : SpOk l1) (hc1 : l1.length ≤ c1) (_hN1 : A1 = none → c1 = 0) (hL1 : l1.length * 16 ≤ 140737488351232)
    (A2 : Option Addr) (c2 : Nat) (l2 : List Mv) (hR2 : Rd w w.heap.size A2 (mvs l2)) (hO2 : MvOk l2) (hc2 : l2.length ≤ c2) (_hN2 : A2 = none → c2 = 0) (_hL2 : l2.length * 24 ≤ 140737488351232) :
    Calls Try.prog 7 #[.slice A0 l0.length c0, .slice A1 l1.length c1, .slice A2 l2.length c2] w fun e w' => e = .returned (.bool true) ∧ Below w.heap.size w w' := by
  have H0 := Lib.hid (SpL.mk hR0 hO0 hc0 (by omega))
  have H1 := Lib.hid (SpL.mk hR1 hO1 hc1 (by omega))
  have H2 := Lib.hid (fun h => MvL.mk hR2 hO2 hc2 h)
  clear hR0 hO0 hc0 hL0 hR1 hO1 hc1 hR2 hO2 hc2 hL1
  go_enter Try.func7, Try.ntmps7
  go_wp2_with fail
  refine Calls.mono (slogAlive_any L _) ?_
  rintro e w1 ⟨rfl, hb1⟩
  have hr := right_call (H0.out.later hb1)
  cases h0 : rightF 0 l0 with
  | false =>
    rw [h0] at hr
    have HR := Lib.hid hr
    clear hr h0
    go_wp2_with fail
    refine Calls.mono HR.out ?_
    rintro e w2 ⟨rfl, hb2⟩
    go_wp2_with fail
    go_ret
    exact ⟨rfl, below_next hb1 hb2⟩
  | true =>
    rw [h0] at hr
    have HR := Lib.hid hr
    have HT0 := Lib.hid h0
    clear hr h0
    go_wp2_with fail
    refine Calls.mono HR.out ?_
    rintro e w2 ⟨rfl, hb2⟩
    have t2 := below_next hb1 hb2
    have hr := right_call (H1.out.later t2)
    cases h1 : rightF 0 l1 with
    | false =>
      rw [h1] at hr
      have HR := Lib.hid hr
      clear hr h1
      go_wp2_with fail
      refine Calls.mono HR.out ?_
      rintro e w3 ⟨rfl, hb3⟩
      go_wp2_with fail
      go_ret
      exact ⟨rfl, below_next t2 hb3⟩
    | true =>
      rw [h1] at hr
      have HR := Lib.hid hr
      have HT1 := Lib.hid h1
      clear hr h1
      go_wp2_with fail
      refine Calls.mono HR.out ?_
      rintro e w3 ⟨rfl, hb3⟩
      have t3 := below_next t2 hb3
      clear hb1 hb2 hb3 t2 HR
      by_cases h2 : l2.length ≤ 200
      · have h2i : ¬ (200 : Int) < l2.length := by omega
        have H2 := Lib.hid (H2.out (by omega))
        clear h2
        have k0 := H0.out.later t3
        have k1 := H1.out.later t3
        have HD := Lib.hid (diff_call L k0 k1)
        go_wp2_with fail
        refine Calls.mono HD.out ?_
        rintro e w4 ⟨B4, d4, rfl, r4, hb4⟩
        have t4 := below_next t3 hb4
        have hp := rep_call L (k0.later hb4) r4
        rw [(rep_diff HT0.out HT1.out).1, (rep_diff HT0.out HT1.out).2] at hp
        have HP := Lib.hid hp
        clear hp HD
        go_wp2_with fail
        refine Calls.mono HP.out ?_
        rintro e w5 ⟨B5, d5, rfl, r5, hb5⟩
        have t5 := below_next t4 hb5
        have hs := ssame_call r5 (H1.out.later t5)
        rw [decide_eq_true rfl] at hs
        have HS := Lib.hid hs
        clear hs HP k0 k1 t3 hb4 r4
        go_wp2_with fail
        refine Calls.mono HS.out ?_
        rintro e w6 ⟨rfl, hb6⟩
        have t6 := below_next t5 hb6
        have hp := rep_call L (SpL.nil (w := w6)) (H2.out.later t6)
        cases ho : repF [] l2 with
        | none =>
          rw [ho] at hp
          have HP : Hid (Calls Try.prog 10 #[.slice none 0 0, .slice A2 l2.length c2] w6 fun e w' => ∃ B d, e = .returned (.tuple #[.slice B 0 d, .int .i64 81]) ∧ SpL w' B d [] ∧ Below w6.heap.size w6 w') := hp
          clear hp ho HS t5 hb6 r5
          go_wp2_with fail
          refine Calls.mono HP.out ?_
          rintro e w7 ⟨B7, d7, rfl, r7, hb7⟩
          go_wp2_with fail
          go_ret
          exact ⟨rfl, below_next t6 hb7⟩
        | some S =>
          rw [ho] at hp
          have HP : Hid (Calls Try.prog 10 #[.slice none 0 0, .slice A2 l2.length c2] w6 fun e w' => ∃ B d, e = .returned (.tuple #[.slice B (canon S).length d, .int .i64 0]) ∧ SpL w' B d (canon S) ∧ Below w6.heap.size w6 w') := hp
          have HC := Lib.hid (canon_right S)
          generalize canon S = s at *
          clear hp ho HS t5 hb6 r5
          go_wp2_with fail
          refine Calls.mono HP.out ?_
          rintro e w7 ⟨B7, d7, rfl, r7, hb7⟩
          have t7 := below_next t6 hb7
          have HD := Lib.hid (cond_call L r7)
          clear HP
          go_wp2_with fail
          refine Calls.mono HD.out ?_
          rintro e w8 ⟨B8, d8, rfl, r8, hb8⟩
          have t8 := below_next t7 hb8
          have hp := rep_call L (SpL.nil (w := w8)) r8
          rw [(rep_diff (a := []) rfl HC.out).1, (rep_diff (a := []) rfl HC.out).2] at hp
          have HP := Lib.hid hp
          clear hp HD
          go_wp2_with fail
          refine Calls.mono HP.out ?_
          rintro e w9 ⟨B9, d9, rfl, r9, hb9⟩
          have t9 := below_next t8 hb9
          have hs := ssame_call r9 (r7.later (below_next hb8 hb9))
          rw [decide_eq_true rfl] at hs
          have HS := Lib.hid hs
          have hlen : (((diffF [] s).length : Int) == (s.length : Int)) = true := by rw [diff_nil_len HC.out]; simp
          clear hs HP
          go_wp2_with fail
          refine Calls.mono HS.out ?_
          rintro e w10 ⟨rfl, hb10⟩
          go_wp2_with fail
          go_ret
          exact ⟨rfl, below_next t9 hb10⟩
      · have h2i : (200 : Int) < l2.length := by omega
        clear h2
        go_wp2_with fail
        go_ret
        exact ⟨rfl, t3⟩
end Go.Proofs.Ytklccgmhllpjkaa
