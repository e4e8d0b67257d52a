/- Walks: numbers as bytes, the reference's; the numbers of bytes, the program's. -/
import Derived.Test.YtccmannmbldghaaF4
namespace Go.Proofs.Ytccmannmbldghaa
open Go.RowKit

theorem putr_wide {ws : List Int} {ns : List Nat} {l : List UInt8} {k : Nat} {z : Int} {o : Option (List UInt8)} (h1 : k < ws.length) (h2 : k < ns.length) (hx : ws[k] = z) (hf : ¬ (1 ≤ z ∧ z ≤ 8)) (h : o = (putF (ws.drop k) (ns.drop k)).map fun r => l ++ r) : o = none := by
  rw [put_step h1 h2, if_neg] at h
  · exact h
  · rw [hx]
    intro ⟨a, b, _⟩
    exact hf ⟨a, b⟩
theorem fitB_yes {x n : Nat} (h : n < 256 ^ x) : fitB x n = true := decide_eq_true h
theorem fitB_no {x n : Nat} (h : ¬ n < 256 ^ x) : fitB x n = false := decide_eq_false h

theorem rput_len (A A' : Option Addr) (c c' : Nat) (ws : List Int) (ns : List Nat) (w : World) (hn : ws.length ≠ ns.length) :
    Calls Try.prog 13 #[.slice A ws.length c, .slice A' ns.length c'] w (GivesB (putF ws ns) w) := by
  have HN := Lib.hid (put_unlike hn)
  have hne : ((ws.length : Int) != (ns.length : Int)) = true := by rw [bne_iff_ne]; omega
  clear hn
  go_enter Try.func13, Try.ntmps13
  go_wp2_with fail
  go_ret2
  exact givesB_none HN.out rfl (Below.refl _ _)

set_option maxHeartbeats 1000000 in
theorem rput_like (A A' : Option Addr) (c c' : Nat) (ws : List Int) (ns : List Nat) (w : World) (hs : Rd w w.heap.size A (wds ws)) (ht : Rd w w.heap.size A' (uns ns)) (hN : ∀ n ∈ ns, n < 18446744073709551616) (hl : ws.length ≤ 17592186044416) (hn : ws.length = ns.length) :
    Calls Try.prog 13 #[.slice A ws.length c, .slice A' ns.length c'] w (GivesB (putF ws ns) w) := by
  have hl1 : ns.length ≤ ws.length := by omega
  have hl2 : ws.length ≤ ns.length := by omega
  have HN := Lib.hid hN
  have hne : ((ws.length : Int) != (ns.length : Int)) = false := by rw [bne_eq_false_iff_eq]; omega
  obtain ⟨o, ho⟩ : ∃ o, o = putF ws ns := ⟨_, rfl⟩
  rw [← ho]
  have HO := Lib.hid ho
  clear hn ho hN
  go_enter Try.func13, Try.ntmps13
  go_wp2_with fail
  go_loopw [6, 19] (fun v i wr => ∃ (k : Nat) (l : List UInt8), k ≤ ws.length ∧ i = .int .i64 k ∧ l.length ≤ 8 * k ∧ Hid (o = (putF (ws.drop k) (ns.drop k)).map fun r => l ++ r) ∧ OwnB wr w.heap.size v l ∧ Below w.heap.size w wr) (fun _ i _ => ws.length - (intOf i).toNat)
  case atStart => exact ⟨0, [], by omega, rfl, by simp, by show _ = _; rw [HO.out]; simp, ownB_nil w _ (by omega), (Below.refl _ _).alloc (by omega) _⟩
  case round =>
    obtain ⟨k, l, hk, rfl, hll, HR, hown, hb⟩ := hrel
    have hsz := hb.size
    have HV := Lib.hid hown; clear hown
    by_cases hlt : k < ws.length
    · have hk' : k < ns.length := by omega
      obtain ⟨b, off, rfl, hbB, hc1⟩ := wd_at hs k hlt
      obtain ⟨b', off', rfl, hbB', hc1'⟩ := un_at ht k hk'
      obtain ⟨hc, hf⟩ := bcell hb
      have HNk := Lib.hid (HN.out _ (List.getElem_mem hk'))
      have hy := fun x n => putr_yes (l := l) (k := k) (x := x) (n := n) (o := o) (ws := ws) (ns := ns) hlt hk'
      have hz := fun x n => putr_no (l := l) (k := k) (x := x) (n := n) (o := o) (ws := ws) (ns := ns) hlt hk'
      have hw := fun z => putr_wide (l := l) (k := k) (z := z) (o := o) (ws := ws) (ns := ns) hlt hk'
      generalize ws[k] = z at *
      generalize ns[k] = n at *
      by_cases hx : 1 ≤ z ∧ z ≤ 8
      · obtain ⟨hx1, hx8⟩ := hx
        obtain ⟨x, rfl⟩ := Int.eq_ofNat_of_zero_le (show 0 ≤ z by omega)
        have hxn : x ≤ 8 := by omega
        have hm : l.length + (bytesF x n).length ≤ 140737488355328 := by rw [bytesF_len]; omega
        have HM := Lib.hid hm; clear hm
        by_cases hfit : n < 256 ^ x
        · have HY := Lib.hid (hy x n rfl rfl (by omega) (by omega) hfit HR.out)
          have hF := fitB_yes hfit
          clear hy hz hfit HR hw
          go_wp2_with (first
            | (go_at_call 24; refine (rnumber_any x n _ hxn HNk.out).mono ?_; rintro e w2 ⟨v2, rfl, hv2, hb2⟩; have HV2 := Lib.hid (own_far HV.out hb2); obtain ⟨A2, c2, rfl, hr2, hc2⟩ := own_rd hv2; have hsz2 := hb2.size; clear hc2)
            | (at_builtin; go_loud (refine app_all Try.underlying26 infoByte rfl rfl 41 42 rfl w.heap.size u6 _ _ rfl HV2.out _ A2 _ c2 _ rfl (bys_len _) hr2 bys_one (by omega) (by omega) (by have := HM.out; omega) ?_); intro v3 w3 hown3 hgr))
          go_roundw
          case rel => exact ⟨k + 1, l ++ bytesF x n, by omega, by go_num, by rw [List.length_append, bytesF_len]; omega, HY.out, ownB_app hown3, below_own (hb.trans (hb2.mono hsz)) HV2.out (Nat.le_refl _) (by omega) hgr⟩
          case measure => simp [intOf]; omega
        · have HZ := Lib.hid (hz x n rfl rfl (fun h => hfit h.2.2) HR.out)
          have hF := fitB_no hfit
          clear hy hz hfit HR hw
          go_wp2_with (go_at_call 24; refine (rnumber_any x n _ hxn HNk.out).mono ?_; rintro e w2 ⟨v2, rfl, hv2, hb2⟩)
          go_ret2
          exact givesB_none HZ.out rfl (hb.trans (hb2.mono hsz))
      · have HZ := Lib.hid (hw z rfl hx HR.out)
        clear hy hz hw
        by_cases hx1 : z < 1
        · go_wp2_with fail
          go_ret2
          exact givesB_none HZ.out rfl hb
        · have hx2 : 8 < z := by omega
          clear hx
          go_wp2_with fail
          go_ret2
          exact givesB_none HZ.out rfl hb
    · have HZ := Lib.hid (putr_end (by omega) (by omega) HR.out)
      go_wp2_with fail
      go_ret2
      exact givesB_some HZ.out HV.out rfl hb

theorem rput_any (A A' : Option Addr) (c c' : Nat) (ws : List Int) (ns : List Nat) (w : World) (hs : Rd w w.heap.size A (wds ws)) (ht : Rd w w.heap.size A' (uns ns)) (hN : ∀ n ∈ ns, n < 18446744073709551616) (hl : ws.length ≤ 17592186044416) :
    Calls Try.prog 13 #[.slice A ws.length c, .slice A' ns.length c'] w (GivesB (putF ws ns) w) := by
  by_cases hn : ws.length = ns.length
  · exact rput_like A A' c c' ws ns w hs ht hN hl hn
  · exact rput_len A A' c c' ws ns w hn
end Go.Proofs.Ytccmannmbldghaa
