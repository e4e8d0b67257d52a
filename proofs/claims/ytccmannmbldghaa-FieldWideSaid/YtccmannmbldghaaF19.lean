/- Walks: the law on widths. -/
import Derived.Test.YtccmannmbldghaaF18
namespace Go.Proofs.Ytccmannmbldghaa
open Go.RowKit

theorem samenums_quiet (A A' : Option Addr) (c c' : Nat) (l m : List Nat) (w : World) (hs : Rd w w.heap.size A (uns l)) (ht : Rd w w.heap.size A' (uns m)) (hl : l.length ≤ 4611686018427387903) (t : Bool) (h : decide (l = m) = t) (n : Nat) :
    Calls Try.prog 15 #[.slice A l.length c, .slice A' m.length c'] (w.drewN n) fun e w'' => e = .returned (.bool t) ∧ ∃ k, w'' = w.drewN k := by
  subst h
  exact Calls.quiet_of (samenums_any A A' c c' l m (w.drewN n) hs ht hl)

section
variable (w : World) (A : Option Addr) (c : Nat) (ws : List Int) (hs : Rd w w.heap.size A (wds ws)) (hl : ws.length ≤ 17592186044416) (A' : Option Addr) (c' : Nat) (ns : List Nat) (ht : Rd w w.heap.size A' (uns ns)) (hN : ∀ n ∈ ns, n < 18446744073709551616)
  (A'' : Option Addr) (c'' : Nat) (ms : List Nat) (hu : Rd w w.heap.size A'' (uns ms)) (hM : ∀ n ∈ ms, n < 18446744073709551616)
include hs hl ht hN hu hM
set_option maxHeartbeats 1000000 in
theorem fieldWide_nn (hp : putF ws ns = none) (hq : putF ws ms = none) :
    Calls Try.prog 9 #[.slice A ws.length c, .slice A' ns.length c', .slice A'' ms.length c''] w fun e w' => e = .returned (.bool true) ∧ Below w.heap.size w w' := by
  have HN := Lib.hid hN; have HM := Lib.hid hM; have HP := Lib.hid hp; have HQ := Lib.hid hq
  clear hN hM hp hq
  go_enter Try.func9, Try.ntmps9
  go_wp2_with fail
  refine (alive_any _).mono ?_
  rintro e w1 ⟨rfl, hb1⟩
  have HB1 := Lib.hid hb1; clear hb1
  go_wp2_with fail
  refine (put_is_none A A' c c' ws ns _ ((hs.below HB1.out).mono HB1.out.size) hl ((ht.below HB1.out).mono HB1.out.size) HN.out HP.out).mono ?_
  rintro e w2 ⟨A2, c2, rfl, hb2⟩
  have HB2 := Lib.hid (HB1.out.trans (hb2.mono HB1.out.size)); clear hb2
  go_wp2_with fail
  refine (put_is_none A A'' c c'' ws ms _ ((hs.below HB2.out).mono HB2.out.size) hl ((hu.below HB2.out).mono HB2.out.size) HM.out HQ.out).mono ?_
  rintro e w3 ⟨A3, c3, rfl, hb3⟩
  have HB3 := Lib.hid (HB2.out.trans (hb3.mono HB2.out.size)); clear hb3
  go_wp2_with fail
  go_ret
  exact ⟨rfl, HB3.out⟩
set_option maxHeartbeats 1000000 in
theorem fieldWide_ns (hp : putF ws ns = none) {y : List UInt8} (hq : putF ws ms = some y) :
    Calls Try.prog 9 #[.slice A ws.length c, .slice A' ns.length c', .slice A'' ms.length c''] w fun e w' => e = .returned (.bool true) ∧ Below w.heap.size w w' := by
  have HN := Lib.hid hN; have HM := Lib.hid hM; have HP := Lib.hid hp; have HQ := Lib.hid hq
  have hml := (put_some hq).2.1
  have hmb : ((ws.length : Int) == ms.length) = true := by rw [beq_iff_eq]; omega
  clear hN hM hp hq hml
  go_enter Try.func9, Try.ntmps9
  go_wp2_with fail
  refine (alive_any _).mono ?_
  rintro e w1 ⟨rfl, hb1⟩
  have HB1 := Lib.hid hb1; clear hb1
  go_wp2_with fail
  refine (put_is_none A A' c c' ws ns _ ((hs.below HB1.out).mono HB1.out.size) hl ((ht.below HB1.out).mono HB1.out.size) HN.out HP.out).mono ?_
  rintro e w2 ⟨A2, c2, rfl, hb2⟩
  have HB2 := Lib.hid (HB1.out.trans (hb2.mono HB1.out.size)); clear hb2
  go_wp2_with fail
  refine (put_is_some A A'' c c'' ws ms _ ((hs.below HB2.out).mono HB2.out.size) hl ((hu.below HB2.out).mono HB2.out.size) HM.out HQ.out).mono ?_
  rintro e w3 ⟨A3, c3, rfl, h3, hc3, hb3⟩
  have HB3 := Lib.hid (HB2.out.trans (hb3.mono HB2.out.size)); clear hb3
  go_wp2_with fail
  go_ret
  exact ⟨rfl, HB3.out⟩
set_option maxHeartbeats 1000000 in
theorem fieldWide_sn {x : List UInt8} (hp : putF ws ns = some x) (hq : putF ws ms = none) :
    Calls Try.prog 9 #[.slice A ws.length c, .slice A' ns.length c', .slice A'' ms.length c''] w fun e w' => e = .returned (.bool true) ∧ Below w.heap.size w w' := by
  have HN := Lib.hid hN; have HM := Lib.hid hM; have HP := Lib.hid hp; have HQ := Lib.hid hq
  have hml := (put_some hp).2.1
  have hmb : ((ws.length : Int) == ns.length) = true := by rw [beq_iff_eq]; omega
  clear hN hM hp hq hml
  go_enter Try.func9, Try.ntmps9
  go_wp2_with fail
  refine (alive_any _).mono ?_
  rintro e w1 ⟨rfl, hb1⟩
  have HB1 := Lib.hid hb1; clear hb1
  go_wp2_with fail
  refine (put_is_some A A' c c' ws ns _ ((hs.below HB1.out).mono HB1.out.size) hl ((ht.below HB1.out).mono HB1.out.size) HN.out HP.out).mono ?_
  rintro e w2 ⟨A2, c2, rfl, h2, hc2, hb2⟩
  have HB2 := Lib.hid (HB1.out.trans (hb2.mono HB1.out.size)); clear hb2
  go_wp2_with fail
  refine (put_is_none A A'' c c'' ws ms _ ((hs.below HB2.out).mono HB2.out.size) hl ((hu.below HB2.out).mono HB2.out.size) HM.out HQ.out).mono ?_
  rintro e w3 ⟨A3, c3, rfl, hb3⟩
  have HB3 := Lib.hid (HB2.out.trans (hb3.mono HB2.out.size)); clear hb3
  go_wp2_with fail
  go_ret
  exact ⟨rfl, HB3.out⟩

set_option maxHeartbeats 2000000 in
theorem fieldWide_ss {x y : List UInt8} (hp : putF ws ns = some x) (hq : putF ws ms = some y) :
    Calls Try.prog 9 #[.slice A ws.length c, .slice A' ns.length c', .slice A'' ms.length c''] w fun e w' => e = .returned (.bool true) ∧ Below w.heap.size w w' := by
  obtain ⟨hw, hnl, hx⟩ := put_some hp
  obtain ⟨_, hml, hy⟩ := put_some hq
  have hnl' : ns.length ≤ 4611686018427387903 := by omega
  have hxy : y.length = x.length := by omega
  have HXY := Lib.hid hxy
  have HX := Lib.hid hx
  have HW := Lib.hid (wideB_mem hw)
  have HE : Hid (∃ t : Bool, decide (ns = ms) = t ∧ ((strF x).toList == (strF y).toList) = t) := by
    by_cases he : ns = ms
    · subst he
      rw [hp] at hq
      have hxy' : x = y := Option.some.inj hq
      exact ⟨true, by simp, by rw [hxy', beq_self_eq_true]⟩
    · refine ⟨false, decide_eq_false he, ?_⟩
      rw [strF_list, strF_list, beq_eq_false_iff_ne]
      intro h
      rw [h] at hp
      exact he (put_inj hp hq)
  have HN := Lib.hid hN; have HM := Lib.hid hM; have HP := Lib.hid hp; have HQ := Lib.hid hq
  have hxl : (x.length : Int) ≤ 140737488355328 := by have := (sum_bd (wideB_mem hw)).2.2; omega
  clear hN hM hp hq hnl hml hx hy hxy hw
  go_enter Try.func9, Try.ntmps9
  go_wp2_with fail
  refine (alive_any _).mono ?_
  rintro e w1 ⟨rfl, hb1⟩
  have HB1 := Lib.hid hb1; clear hb1
  go_wp2_with fail
  refine (put_is_some A A' c c' ws ns _ ((hs.below HB1.out).mono HB1.out.size) hl ((ht.below HB1.out).mono HB1.out.size) HN.out HP.out).mono ?_
  rintro e w2 ⟨A2, c2, rfl, h2, hc2, hb2⟩
  have HB2 := Lib.hid (HB1.out.trans (hb2.mono HB1.out.size)); clear hb2
  go_wp2_with fail
  refine (put_is_some A A'' c c'' ws ms _ ((hs.below HB2.out).mono HB2.out.size) hl ((hu.below HB2.out).mono HB2.out.size) HM.out HQ.out).mono ?_
  rintro e w3 ⟨A3, c3, rfl, h3, hc3, hb3⟩
  have HB3 := Lib.hid (HB2.out.trans (hb3.mono HB2.out.size))
  have HK1 := Lib.hid (fun n => conv_bytes (w := w3.drewN n) (c := c2) (h2.below (below_draws hb3 n)))
  have HK2 := Lib.hid (fun n => conv_bytes (w := w3.drewN n) (c := c3) h3)
  clear hb3 h2 h3
  rw [HXY.out]
  go_wp2_with fail
  go_loop [11, 56] (fun q i => ∃ (k : Nat) (s : Int), k ≤ ws.length ∧ i = .int .i64 k ∧ q = .int .i64 s ∧ 0 ≤ s ∧ s ≤ 8 * k ∧ Hid (s = sumF (ws.take k))) (fun _ i => ws.length - (intOf i).toNat)
  case atStart => exact ⟨0, 0, by omega, rfl, rfl, by omega, by omega, rfl⟩
  case round =>
    obtain ⟨k, s, hk, rfl, rfl, hs0, hs8, HS⟩ := hrel
    by_cases hlt : k < ws.length
    · obtain ⟨b, off, rfl, hbB, hc1⟩ := wd_at hs k hlt
      obtain ⟨hc, hf⟩ := bcell HB3.out
      have HST := Lib.hid (sum_take k hlt)
      have hwk := HW.out _ (List.getElem_mem hlt)
      generalize ws[k] = z at *
      obtain ⟨hz1, hz8⟩ := hwk
      go_wp2_with fail
      go_round
      case rel => exact ⟨k + 1, s + z, by omega, by go_num, by go_num, by omega, by omega, by show _ = _; rw [HST.out, HS.out]⟩
      case measure => simp [intOf]; omega
    · have hsx : s = (x.length : Int) := by rw [HX.out, HS.out, List.take_of_length_le (by omega)]
      subst hsx
      obtain ⟨t, ht1, ht2⟩ := HE.out
      have HT1 := Lib.hid ht1
      clear ht1
      have hq1 := HK1.out
      have hq2 := HK2.out
      rw [HXY.out] at hq2
      have hle : ((x.length : Int) == x.length) = true := by simp
      go_wp2_with fail
      go_quiet ((go_at_call 15; exact samenums_quiet A' A'' c' c'' ns ms w3 ((ht.below HB3.out).mono HB3.out.size) ((hu.below HB3.out).mono HB3.out.size) hnl' t HT1.out _))
      clear hq1 hq2
      have ht3 : (t == t) = true := by simp
      go_wp2_with fail
      go_ret
      exact ⟨rfl, below_draws HB3.out _⟩

theorem fieldWide_any :
    Calls Try.prog 9 #[.slice A ws.length c, .slice A' ns.length c', .slice A'' ms.length c''] w fun e w' => e = .returned (.bool true) ∧ Below w.heap.size w w' := by
  rcases hp : putF ws ns with _ | x <;> rcases hq : putF ws ms with _ | y
  · exact fieldWide_nn w A c ws hs hl A' c' ns ht hN A'' c'' ms hu hM hp hq
  · exact fieldWide_ns w A c ws hs hl A' c' ns ht hN A'' c'' ms hu hM hp hq
  · exact fieldWide_sn w A c ws hs hl A' c' ns ht hN A'' c'' ms hu hM hp hq
  · exact fieldWide_ss w A c ws hs hl A' c' ns ht hN A'' c'' ms hu hM hp hq
end
end Go.Proofs.Ytccmannmbldghaa
