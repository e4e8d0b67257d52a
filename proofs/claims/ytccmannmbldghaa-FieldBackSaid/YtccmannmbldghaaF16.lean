/- Walks: the laws on the numbers of bytes, on texts, and on widths. -/
import Derived.Test.YtccmannmbldghaaF15
namespace Go.Proofs.Ytccmannmbldghaa
open Go.RowKit

theorem get_len_le (ws : List Int) (b : List UInt8) : ((getF ws b).getD []).length ≤ ws.length := by
  rcases h : getF ws b with _ | ns
  · simp
  · simp only [Option.getD_some]
    rw [(get_some h).2.1]
    exact Nat.le_refl _
theorem sameself_nums (A A' : Option Addr) (c c' : Nat) (l : List Nat) (w : World) (hs : Rd w w.heap.size A (uns l)) (ht : Rd w w.heap.size A' (uns l)) (hl : l.length ≤ 4611686018427387903) :
    Calls Try.prog 15 #[.slice A l.length c, .slice A' l.length c'] w fun e w' => e = .returned (.bool true) ∧ ∃ n, w' = w.drewN n := by
  have h := samenums_any A A' c c' l l w hs ht hl
  simpa using h

set_option maxHeartbeats 1000000 in
theorem fieldGets_any (w : World) (A : Option Addr) (c : Nat) (ws : List Int) (hs : Rd w w.heap.size A (wds ws)) (hl : ws.length * 8 ≤ 140737488351232) (A' : Option Addr) (c' : Nat) (b : List UInt8) (ht : Rd w w.heap.size A' (bys b)) (hc' : b.length ≤ c') (hl' : b.length ≤ 140737488351232) :
    Calls Try.prog 5 #[.slice A ws.length c, .slice A' b.length c'] w fun e w' => e = .returned (.bool true) ∧ Below w.heap.size w w' := by
  have hb0 : Below w.heap.size w (w.alloc (.cells #[] 3)) := (Below.refl _ _).alloc (Nat.le_refl _) _
  have HB0 := Lib.hid hb0
  have hl1 : ws.length ≤ 17592186044416 := by omega
  have HLE := Lib.hid (get_len_le ws b)
  clear hb0
  go_enter Try.func5, Try.ntmps5
  go_wp2_with (first
    | (at_builtin; go_loud (refine app_fresh Try.underlying28 infoInt rfl rfl 10 11 rfl rfl w.heap.size A ws.length c (wds ws) rfl (wds_len _) (hs.below HB0.out) wds_one (by omega) (by omega) ?_); intro A1 c1 w1 hr1 hc1 hb1; have HR1 := Lib.hid hr1; have HB1 := Lib.hid hb1; clear hr1 hb1)
    | (at_builtin; go_loud (refine app_fresh Try.underlying26 infoByte rfl rfl 13 14 rfl rfl w.heap.size A' b.length c' (bys b) rfl (bys_len _) (ht.below (HB1.out.alloc HB1.out.size _)) bys_one (by omega) (by omega) ?_); intro A2 c2 w2 hr2 hc2 hb2; have HR2 := Lib.hid hr2; have HB2 := Lib.hid hb2; clear hr2 hb2)
    | (go_at_call 10; go_loud (refine (get_any A1 A2 c1 c2 ws b w2 ((HR1.out.below HB2.out).mono HB2.out.size) HR2.out hc2 hl1).mono ?_); rintro e w3 ⟨A3, c3, rfl, h3, hc3, hb3⟩; have HR3 := Lib.hid h3; have HB3 := Lib.hid ((HB1.out.trans (HB2.out.mono HB1.out.size)).trans (hb3.mono (Nat.le_trans HB1.out.size HB2.out.size))); clear h3 hb3)
    | (go_at_call 14; go_loud (refine (rget_any A A' c c' ws b w3 ((hs.below HB3.out).mono HB3.out.size) ((ht.below HB3.out).mono HB3.out.size) hc' hl1 (by omega)).mono ?_); rintro e w4 ⟨A4, c4, rfl, h4, hc4, hb4⟩; have HR4 := Lib.hid h4; have HB4 := Lib.hid hb4; clear h4 hb4)
    | (go_at_call 11; go_loud (refine (alive_any w4).mono ?_); rintro e w5 ⟨rfl, hb5⟩; have HB5 := Lib.hid hb5; clear hb5)
    | (go_at_call 15; go_loud (refine (sameself_nums A3 A4 c3 c4 _ w5 (((HR3.out.below HB4.out).below (HB5.out.mono HB4.out.size)).mono (Nat.le_trans HB4.out.size HB5.out.size)) ((HR4.out.below HB5.out).mono HB5.out.size) (by have := HLE.out; omega)).mono ?_); rintro e w6 ⟨rfl, n6, rfl⟩))
  go_ret
  exact ⟨rfl, below_draws ((HB3.out.trans (HB4.out.mono HB3.out.size)).trans (HB5.out.mono (Nat.le_trans HB3.out.size HB4.out.size))) _⟩

theorem split_len_le (b : List UInt8) : ((splitF b).getD []).length ≤ 65535 := by
  rcases h : splitF b with _ | ts
  · simp
  · have hj := join_split h
    unfold joinF at hj
    split at hj
    · rename_i hc
      simpa using hc.1
    · cases hj
theorem sameself_texts (A A' : Option Addr) (c c' : Nat) (l m : List Tx) (w : World) (hs : Rd w w.heap.size A (txs l)) (hin : TxIn w w.heap.size l) (ht : Rd w w.heap.size A' (txs m)) (hin' : TxIn w w.heap.size m) (hl : l.length ≤ 4611686018427387903) (he : byt l = byt m) :
    Calls Try.prog 20 #[.slice A l.length c, .slice A' m.length c'] w fun e w' => e = .returned (.bool true) ∧ ∃ n, w' = w.drewN n := by
  have h := sametexts_any A A' c c' l m w hs hin ht hin' hl
  rwa [decide_eq_true he] at h

set_option maxHeartbeats 1000000 in
theorem fieldTexts_any (w : World) (A : Option Addr) (c : Nat) (l : List Tx) (hs : Rd w w.heap.size A (txs l)) (hin : TxIn w w.heap.size l) (hl : l.length ≤ 140737488351232) (A' : Option Addr) (c' : Nat) (b : List UInt8) (ht : Rd w w.heap.size A' (bys b)) (hc' : b.length ≤ c') (hl' : b.length ≤ 140737488351232) :
    Calls Try.prog 6 #[.slice A l.length c, .slice A' b.length c'] w fun e w' => e = .returned (.bool true) ∧ Below w.heap.size w w' := by
  have HI := Lib.hid hin; clear hin
  have HLE := Lib.hid (split_len_le b)
  by_cases hm : (70000 : Int) < l.length
  · go_enter Try.func6, Try.ntmps6
    go_wp2_with (go_at_call 11; go_loud (refine (alive_any _).mono ?_); rintro e w1 ⟨rfl, hb1⟩)
    go_ret
    exact ⟨rfl, hb1⟩
  · have hm' : (l.length : Int) ≤ 70000 := by omega
    clear hm
    go_enter Try.func6, Try.ntmps6
    go_wp2_with (first
      | (go_at_call 11; go_loud (refine (alive_any _).mono ?_); rintro e w1 ⟨rfl, hb1⟩; have HB1 := Lib.hid hb1; clear hb1)
      | (go_at_call 16; go_loud (refine (join_any A c l w1 ((hs.below HB1.out).mono HB1.out.size) ((HI.out.below HB1.out).mono HB1.out.size)).mono ?_); rintro e w2 ⟨A2, c2, rfl, h2, hc2, hb2⟩; have HR2 := Lib.hid h2; have HB2 := Lib.hid (HB1.out.trans (hb2.mono HB1.out.size)); clear h2 hb2)
      | (go_at_call 17; go_loud (refine (rjoin_any A c l w2 ((hs.below HB2.out).mono HB2.out.size) ((HI.out.below HB2.out).mono HB2.out.size)).mono ?_); rintro e w3 ⟨A3, c3, rfl, h3, hc3, hb3⟩; have HR3 := Lib.hid h3; have HB3 := Lib.hid hb3; clear h3 hb3)
      | (at_builtin; go_loud (refine app_fresh Try.underlying26 infoByte rfl rfl 29 30 rfl rfl w.heap.size A' b.length c' (bys b) rfl (bys_len _) (ht.below ((HB2.out.trans (HB3.out.mono HB2.out.size)).alloc (Nat.le_trans HB2.out.size HB3.out.size) _)) bys_one (by omega) (by omega) ?_); intro A4 c4 w4 hr4 hc4 hb4; have HR4 := Lib.hid hr4; have HB4 := Lib.hid hb4; clear hr4 hb4)
      | (go_at_call 18; go_loud (refine (split_any A4 c4 b w4 HR4.out hc4 (by omega)).mono ?_); rintro e w5 ⟨A5, c5, l5, rfl, he5, h5, hi5, hc5, hb5⟩; have HE5 := Lib.hid he5; have HR5 := Lib.hid h5; have HI5 := Lib.hid hi5; have HB5 := Lib.hid hb5; clear he5 h5 hi5 hb5; have HB25 := Lib.hid ((HB3.out.trans (HB4.out.mono HB3.out.size)).trans (HB5.out.mono (Nat.le_trans HB3.out.size HB4.out.size))); have HB05 := Lib.hid (HB2.out.trans (HB25.out.mono HB2.out.size)))
      | (go_at_call 19; go_loud (refine (rsplit_any A' c' b w5 ((ht.below HB05.out).mono HB05.out.size) hc' (by omega)).mono ?_); rintro e w6 ⟨A6, c6, l6, rfl, he6, h6, hi6, hc6, hb6⟩; have HE6 := Lib.hid he6; have HR6 := Lib.hid h6; have HI6 := Lib.hid hi6; have HB6 := Lib.hid hb6; clear he6 h6 hi6 hb6; have HB26 := Lib.hid (HB25.out.trans (HB6.out.mono HB25.out.size)); have HB36 := Lib.hid (((HB4.out).trans (HB5.out.mono HB4.out.size)).trans (HB6.out.mono (Nat.le_trans HB4.out.size HB5.out.size)));
          have hk1 := conv_bytes (c := c2) (HR2.out.below HB26.out); have hk2 := conv_bytes (c := c3) (HR3.out.below HB36.out))
      | (go_at_call 20; go_loud (refine (sameself_texts A5 A6 c5 c6 l5 l6 w6 ((HR5.out.below HB6.out).mono HB6.out.size) ((HI5.out.below HB6.out).mono HB6.out.size) HR6.out HI6.out (by have h1 := HLE.out; have h2 := congrArg List.length HE5.out; rw [byt_len] at h2; omega) (by rw [HE5.out, HE6.out])).mono ?_); rintro e w7 ⟨rfl, n7, rfl⟩))
    go_ret
    exact ⟨rfl, below_draws (HB05.out.trans (HB6.out.mono HB05.out.size)) _⟩
end Go.Proofs.Ytccmannmbldghaa
