/- The laws on slabs, walked over the calls' contracts: SlabMost. -/
import Derived.Test.YtfkffkocknbjfaaN5
set_option maxRecDepth 10000
namespace Go.Proofs.Ytfkffkocknbjfaa
open Go.RowKit

section
variable {At : World → (Nat → Prop) → Nat → Mp → Prop}
theorem Has.beside (L : SlabCalls At) {w0 w w' : World} {O O' O2 : Nat → Prop} {g g2 : Nat} {m m' m2 : Mp} (h : Has At w0 w O2 g2 m2) (k : Has At w0 w O g m) (p : At w' O' g m') (s : Step w w' O O') (hd : ∀ k, O2 k → ¬ O k) : Has At w0 w' O2 g2 m2 :=
  ⟨L.stay h.at_ s.chg hd, h.lo, (k.step p s).below⟩
set_option maxHeartbeats 4000000 in
theorem slabMost_any (L : SlabCalls At) (w : World) (x0 : Int) (hx0 : I64 x0) (A1 : Option Addr) (c1 : Nat) (l1 : List Sp) (hR1 : Rd w w.heap.size A1 (spc l1)) (hO1 : SpOk l1) :
    Calls Try.prog 7 #[.int .i64 x0, .slice A1 l1.length c1] w fun e w' => e = .returned (.bool true) ∧ Below w.heap.size w w' := by
  have HR1 := Lib.hid hR1
  have HO1 := Lib.hid hO1
  have HX := Lib.hid hx0
  clear hR1 hO1 hx0
  go_enter Try.func7, Try.ntmps7
  go_wp2_with fail
  refine Calls.mono (slabAlive_any L _) ?_
  rintro e w1 ⟨rfl, hb1⟩
  go_wp2_with fail
  refine Calls.mono (L.new x0 w1 HX.out) ?_
  rintro e w2 ⟨O2, g, rfl, h2, hO2, hb2⟩
  have m2 := Has.first hb1 h2 hO2 hb2
  have hn2 := no2_new x0
  clear h2 hO2 hb2 hb1
  generalize newMp x0 = m0 at *
  by_cases h1 : l1.length ≤ 100
  · have h1i : ¬ (100 : Int) < l1.length := by omega
    have M2 := Lib.hid m2
    have HL := Lib.hid h1
    have HN2 := Lib.hid (no2_takes l1 hn2)
    clear h1 m2 hn2
    go_upto_region 7 with fail
    go_loopw [28] (fun i wr => ∃ (k : Nat) (O : Nat → Prop), k ≤ l1.length ∧ i = .int .i64 k ∧ Has At w wr O g (takesF (l1.take k) m0)) (fun i _ => l1.length - (intOf i).toNat)
    case atStart => exact ⟨0, O2, Nat.zero_le _, rfl, M2.out⟩
    case round =>
      clear M2
      obtain ⟨k, O, hk, rfl, hH⟩ := hrel
      have HH := Lib.hid hH
      clear hH
      by_cases hlt : k < l1.length
      · have hki : (k : Int) < l1.length := by omega
        obtain ⟨b, off, rfl, hbl, hc1, hc2⟩ := sp_at HR1.out k hlt
        have hc1 := (HH.out.below.cell (p := ⟨b, off + k * 2, none⟩) hbl).trans hc1
        have hc2 := (HH.out.below.cell (p := ⟨b, off + k * 2 + 1, none⟩) hbl).trans hc2
        have HS := Lib.hid (takes_step l1 m0 k hlt)
        have HI := Lib.hid (HO1.out _ (List.getElem_mem hlt)).2
        have HK := Lib.hid hlt
        generalize l1[k].1 = kd at *
        generalize l1[k].2 = nn at *
        clear hlt hk hbl
        go_upto_region 9 with fail
        have H6 := Lib.hid (HH.out.far L ((Below.refl _ _).alloc (Nat.le_refl _) (.cells #[.int .i64 kd, .int .i64 nn] 31)))
        have d2 : (wr.alloc (.cells #[.int .i64 kd, .int .i64 nn] 31)).cell? ⟨wr.heap.size, 1, none⟩ = some (.int .i64 nn) := (Blk.new wr _ _).cell 1
        clear hc1 hc2 HH
        generalize wr.alloc (.cells #[.int .i64 kd, .int .i64 nn] 31) = w6 at *
        generalize wr.heap.size = g6 at *
        have HT := Lib.hid (L.take nn HI.out H6.out.at_)
        go_wp2_with (go_at_call 20; refine Calls.mono HT.out ?_; rintro e w7 ⟨O7, rfl, h7, s7⟩; have H7 := Lib.hid (H6.out.step h7 s7); clear h7 s7)
        go_roundw
        case rel => exact ⟨k + 1, O7, HK.out, by go_num, by rw [HS.out]; exact H7.out⟩
        case measure => have := HK.out; simp [intOf]; omega
      · obtain rfl : k = l1.length := by omega
        rw [List.take_of_length_le (Nat.le_refl _)] at HH
        generalize takesF l1 m0 = m at *
        clear hk hlt
        have HSM := Lib.hid (L.small HH.out.at_)
        have HC := Lib.hid (L.copy HH.out.at_)
        go_wp2_with fail
        refine Calls.mono HC.out ?_
        rintro e w3 ⟨O3, P3, g2, rfl, h3, p3, d3, s3⟩
        have M := Lib.hid (HH.out.step h3 s3)
        have C := Lib.hid (⟨p3, (fun k hk => Nat.le_trans HH.out.below.size (d3 k hk).1), M.out.below⟩ : Has At w w3 P3 g2 m)
        have HD := Lib.hid (fun k hk => (d3 k hk).2)
        clear HC HH h3 p3 d3 s3
        have ha := L.alloc M.out.at_
        cases hx : m.next with
        | none =>
          have e1 : nextN m = 0 ∧ nextC m = 71 := by unfold nextN nextC; rw [hx]; exact ⟨rfl, rfl⟩
          rw [e1.1, e1.2] at ha
          have HA := Lib.hid ha
          have HZ := Lib.hid (next_none.1 hx)
          clear ha hx e1
          go_wp2_with fail
          refine Calls.mono HA.out ?_
          rintro e w4 ⟨O4, rfl, h4, s4⟩
          have C := Lib.hid (C.out.beside L M.out h4 s4 HD.out)
          have hk := L.count C.out.at_
          rw [HZ.out] at hk
          have HK := Lib.hid hk
          clear hk HA h4 s4
          go_wp2_with fail
          refine Calls.mono HK.out ?_
          rintro e w5 ⟨O5, rfl, h5, s5⟩
          go_wp2_with fail
          go_ret
          exact ⟨rfl, (C.out.step h5 s5).below⟩
        | some i =>
          have e1 : nextN m = i ∧ nextC m = 0 := by unfold nextN nextC; rw [hx]; exact ⟨rfl, rfl⟩
          rw [e1.1, e1.2] at ha
          have HA := Lib.hid ha
          have HZ := Lib.hid (next_some hx)
          clear ha hx e1
          have hi : (i : Int) ≤ 1023 := by have := HZ.out.2.1; omega
          obtain ⟨b, hb⟩ : ∃ b, b = i / 64 := ⟨_, rfl⟩
          have HBE := Lib.hid hb
          have hq : (i : Int) / 64 = (b : Int) := by rw [hb]; omega
          have hbi : (b : Int) ≤ 15 := by omega
          clear hb
          go_wp2_with fail
          refine Calls.mono HA.out ?_
          rintro e w4 ⟨O4, rfl, h4, s4⟩
          have C := Lib.hid (C.out.beside L M.out h4 s4 HD.out)
          clear HA h4 s4 M HD
          go_upto_region 16 with fail
          go_loopw [11] (fun x wr => ∃ (k : Nat) (P : Nat → Prop), k ≤ 16 ∧ x = .int .i64 k ∧ Has At w wr P g2 m) (fun x _ => 16 - (intOf x).toNat)
          case atStart => exact ⟨0, P3, by omega, rfl, C.out⟩
          case round =>
            clear C
            obtain ⟨k, P, hk, rfl, hC⟩ := hrel
            have C := Lib.hid hC
            clear hC
            by_cases hlt : k < 16
            · have hki : (k : Int) < 16 := by omega
              have hrk : m.roomI (k : Int) = m.room k := by unfold Mp.roomI; rw [if_pos ⟨by omega, hki⟩, Int.toNat_natCast]
              have hrb : m.roomI (b : Int) = m.room b := by unfold Mp.roomI; rw [if_pos ⟨by omega, by omega⟩, Int.toNat_natCast]
              have h1 := HZ.out.2.2.2.1 k hlt
              have h2 := HZ.out.2.2.2.2.1 k
              rw [← HBE.out] at h1 h2
              have HRK := Lib.hid hrk
              have HRB := Lib.hid hrb
              have HK := Lib.hid hlt
              clear hrk hrb hk
              generalize m.room k = rk at *
              generalize m.room b = rb at *
              have hg : ¬ (rb : Int) < rk := by omega
              by_cases he : rk = rb
              · have hl : ¬ (k : Int) < b := by intro h; have := h2 (by omega); omega
                subst he
                clear h1 h2 hlt
                have HL := Lib.hid hl
                have hr := L.room (k : Int) (by unfold I64; omega) C.out.at_
                rw [HRK.out] at hr
                have HR := Lib.hid hr
                clear hr
                go_wp2_with fail
                refine Calls.mono HR.out ?_
                rintro e w' ⟨P', rfl, h', s'⟩
                have C := Lib.hid (C.out.step h' s')
                clear HR h' s'
                have hr := L.room (b : Int) (by unfold I64; omega) C.out.at_
                rw [HRB.out] at hr
                have HR := Lib.hid hr
                clear hr
                go_wp2_with fail
                refine Calls.mono HR.out ?_
                rintro e w' ⟨P', rfl, h', s'⟩
                have C := Lib.hid (C.out.step h' s')
                clear HR h' s'
                have hr := L.room (k : Int) (by unfold I64; omega) C.out.at_
                rw [HRK.out] at hr
                have HR := Lib.hid hr
                clear hr
                go_wp2_with fail
                refine Calls.mono HR.out ?_
                rintro e w' ⟨P', rfl, h', s'⟩
                have C := Lib.hid (C.out.step h' s')
                clear HR h' s'
                have hr := L.room (b : Int) (by unfold I64; omega) C.out.at_
                rw [HRB.out] at hr
                have HR := Lib.hid hr
                clear hr
                go_wp2_with fail
                refine Calls.mono HR.out ?_
                rintro e w' ⟨P', rfl, h', s'⟩
                have C := Lib.hid (C.out.step h' s')
                clear HR h' s'
                go_wp2_with fail
                go_roundw
                case rel => exact ⟨k + 1, _, HK.out, by go_num, C.out⟩
                case measure => have := HK.out; simp [intOf]; omega
              · have hne : ((rk : Int) == rb) = false := by rw [beq_eq_false_iff_ne]; omega
                clear h1 h2 hlt he
                have hr := L.room (k : Int) (by unfold I64; omega) C.out.at_
                rw [HRK.out] at hr
                have HR := Lib.hid hr
                clear hr
                go_wp2_with fail
                refine Calls.mono HR.out ?_
                rintro e w' ⟨P', rfl, h', s'⟩
                have C := Lib.hid (C.out.step h' s')
                clear HR h' s'
                have hr := L.room (b : Int) (by unfold I64; omega) C.out.at_
                rw [HRB.out] at hr
                have HR := Lib.hid hr
                clear hr
                go_wp2_with fail
                refine Calls.mono HR.out ?_
                rintro e w' ⟨P', rfl, h', s'⟩
                have C := Lib.hid (C.out.step h' s')
                clear HR h' s'
                have hr := L.room (k : Int) (by unfold I64; omega) C.out.at_
                rw [HRK.out] at hr
                have HR := Lib.hid hr
                clear hr
                go_wp2_with fail
                refine Calls.mono HR.out ?_
                rintro e w' ⟨P', rfl, h', s'⟩
                have C := Lib.hid (C.out.step h' s')
                clear HR h' s'
                have hr := L.room (b : Int) (by unfold I64; omega) C.out.at_
                rw [HRB.out] at hr
                have HR := Lib.hid hr
                clear hr
                go_wp2_with fail
                refine Calls.mono HR.out ?_
                rintro e w' ⟨P', rfl, h', s'⟩
                have C := Lib.hid (C.out.step h' s')
                clear HR h' s'
                go_wp2_with fail
                go_roundw
                case rel => exact ⟨k + 1, _, HK.out, by go_num, C.out⟩
                case measure => have := HK.out; simp [intOf]; omega
            · obtain rfl : k = 16 := by omega
              clear hk hlt
              go_upto_region 21 with fail
              obtain ⟨wo, hwo⟩ : ∃ wo : World, wo = wr := ⟨_, rfl⟩
              clear hwo
              go_loopw [12] (fun x wr => ∃ (k : Nat) (P : Nat → Prop), b * 64 ≤ k ∧ k ≤ i ∧ x = .int .i64 k ∧ Has At w wr P g2 m) (fun x _ => i - (intOf x).toNat)
              case atStart => exact ⟨b * 64, P, Nat.le_refl _, by have := HBE.out; omega, by go_num, C.out⟩
              case round =>
                clear C
                obtain ⟨k, P, hk1, hk2, rfl, hC⟩ := hrel
                have C := Lib.hid hC
                clear hC
                by_cases hlt : k < i
                · have hki : (k : Int) < i := by omega
                  have hno := HZ.out.2.2.2.2.2 k (by have := HBE.out; omega) hlt
                  have HK := Lib.hid (And.intro hk1 hlt)
                  have hcc : turnC m (k : Int) 0 1 = 72 := by
                    rcases turn_cases m (k : Int) 0 1 with ⟨e, _⟩ | ⟨n, e, hn, _⟩
                    · exact e
                    · obtain rfl : k = n := by omega
                      rw [hno] at hn
                      cases hn
                  have HCC := Lib.hid hcc
                  clear hno hk1 hk2 hlt hcc
                  have HC := Lib.hid (L.copy C.out.at_)
                  go_wp2_with fail
                  refine Calls.mono HC.out ?_
                  rintro e w5 ⟨P5, Q5, g5, rfl, h5, q5, d5, s5⟩
                  have C5 := Lib.hid (C.out.step h5 s5)
                  have D5 := Lib.hid (⟨q5, (fun k hk => Nat.le_trans C.out.below.size (d5 k hk).1), C5.out.below⟩ : Has At w w5 Q5 g5 m)
                  have HD := Lib.hid (fun k hk hq => (d5 k hq).2 hk)
                  have ht := L.take (k : Int) (by unfold I64; omega) D5.out.at_
                  rw [HCC.out] at ht
                  have HT := Lib.hid ht
                  clear HC h5 q5 d5 s5 ht C
                  go_wp2_with fail
                  refine Calls.mono HT.out ?_
                  rintro e w6 ⟨O6, rfl, h6, s6⟩
                  have C6 := Lib.hid (C5.out.beside L D5.out h6 s6 HD.out)
                  clear HT h6 s6
                  go_wp2_with fail
                  go_roundw
                  case rel =>
                    refine ⟨_, _, _, _, _, _, _, _, _, _, _, _, ?_, rfl⟩
                    exact ⟨k + 1, P5, by have := HK.out; omega, HK.out.2, by go_num, C6.out⟩
                  case measure => have := HK.out; simp [intOf]; omega
                · obtain rfl : k = i := by omega
                  have ht := L.take (k : Int) (by unfold I64; omega) C.out.at_
                  rw [(turn_yes HZ.out.1).1] at ht
                  have HT := Lib.hid ht
                  clear ht hk1 hk2 hlt
                  go_wp2_with fail
                  refine Calls.mono HT.out ?_
                  rintro e w6 ⟨O6, rfl, h6, s6⟩
                  go_wp2_with fail
                  go_ret
                  exact ⟨rfl, (C.out.step h6 s6).below⟩
  · have h1i : (100 : Int) < l1.length := by omega
    clear h1
    go_wp2_with fail
    go_ret
    exact ⟨rfl, m2.below⟩
end
end Go.Proofs.Ytfkffkocknbjfaa
