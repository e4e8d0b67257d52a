/- Walks: the law there and back. -/
import Derived.Test.YtccmannmbldghaaF16
namespace Go.Proofs.Ytccmannmbldghaa
open Go.RowKit

section
variable (A A' : Option Addr) (c c' : Nat) (ws : List Int) (ns : List Nat) (b : List UInt8) (w : World) (hs : Rd w w.heap.size A (wds ws)) (hl : ws.length ≤ 17592186044416)
include hs hl
theorem put_is_some (ht : Rd w w.heap.size A' (uns ns)) (hN : ∀ n ∈ ns, n < 18446744073709551616) {x : List UInt8} (h : putF ws ns = some x) :
    Calls Try.prog 12 #[.slice A ws.length c, .slice A' ns.length c'] w fun e w' => ∃ A1 c1, e = .returned (.tuple #[.slice A1 x.length c1, .int .i64 0]) ∧ Rd w' w'.heap.size A1 (bys x) ∧ x.length ≤ c1 ∧ Below w.heap.size w w' := by
  have h1 := put_any A A' c c' ws ns w hs ht hN hl
  rw [h] at h1
  exact h1
theorem put_is_none (ht : Rd w w.heap.size A' (uns ns)) (hN : ∀ n ∈ ns, n < 18446744073709551616) (h : putF ws ns = none) :
    Calls Try.prog 12 #[.slice A ws.length c, .slice A' ns.length c'] w fun e w' => ∃ A1 c1, e = .returned (.tuple #[.slice A1 0 c1, .int .i64 21]) ∧ Below w.heap.size w w' := by
  have h1 := put_any A A' c c' ws ns w hs ht hN hl
  rw [h] at h1
  exact h1.mono fun e w' ⟨A1, c1, he, _, _, hb⟩ => ⟨A1, c1, he, hb⟩
theorem get_is_some (ht : Rd w w.heap.size A' (bys b)) (hbc : b.length ≤ c') {l : List Nat} (h : getF ws b = some l) :
    Calls Try.prog 10 #[.slice A ws.length c, .slice A' b.length c'] w fun e w' => ∃ A1 c1, e = .returned (.tuple #[.slice A1 l.length c1, .int .i64 0]) ∧ Rd w' w'.heap.size A1 (uns l) ∧ l.length ≤ c1 ∧ Below w.heap.size w w' := by
  have h1 := get_any A A' c c' ws b w hs ht hbc hl
  rw [h] at h1
  exact h1
theorem get_is_none (ht : Rd w w.heap.size A' (bys b)) (hbc : b.length ≤ c') (h : getF ws b = none) :
    Calls Try.prog 10 #[.slice A ws.length c, .slice A' b.length c'] w fun e w' => ∃ A1 c1, e = .returned (.tuple #[.slice A1 0 c1, .int .i64 21]) ∧ Below w.heap.size w w' := by
  have h1 := get_any A A' c c' ws b w hs ht hbc hl
  rw [h] at h1
  exact h1.mono fun e w' ⟨A1, c1, he, _, _, hb⟩ => ⟨A1, c1, he, hb⟩
end
section
variable (A : Option Addr) (c : Nat) (b : List UInt8) (w : World) (hs : Rd w w.heap.size A (bys b)) (hc : b.length ≤ c) (hl : b.length ≤ 140737488355328)
include hs hc hl
theorem split_is_some {ts : List (List UInt8)} (h : splitF b = some ts) :
    Calls Try.prog 18 #[.slice A b.length c] w fun e w' => ∃ A1 c1, ∃ l : List Tx, e = .returned (.tuple #[.slice A1 l.length c1, .int .i64 0]) ∧ byt l = ts ∧ Rd w' w'.heap.size A1 (txs l) ∧ TxIn w' w'.heap.size l ∧ Below w.heap.size w w' := by
  have h1 := split_any A c b w hs hc hl
  rw [h] at h1
  exact h1.mono fun e w' ⟨A1, c1, l, he, h2, h3, h4, _, hb⟩ => ⟨A1, c1, l, he, h2, h3, h4, hb⟩
theorem split_is_none (h : splitF b = none) :
    Calls Try.prog 18 #[.slice A b.length c] w fun e w' => ∃ A1 c1, e = .returned (.tuple #[.slice A1 0 c1, .int .i64 21]) ∧ Below w.heap.size w w' := by
  have h1 := split_any A c b w hs hc hl
  rw [h] at h1
  exact h1.mono fun e w' ⟨A1, c1, l, he, h2, h3, h4, _, hb⟩ => ⟨A1, c1, by
    have h5 : l = [] := by
      rcases l with _ | ⟨t, r⟩
      · rfl
      · simp [byt] at h2
    subst h5
    exact he, hb⟩
end
theorem join_is_some (A : Option Addr) (c : Nat) (l : List Tx) (w : World) (hs : Rd w w.heap.size A (txs l)) (hin : TxIn w w.heap.size l) {x : List UInt8} (h : joinF (byt l) = some x) :
    Calls Try.prog 16 #[.slice A l.length c] w fun e w' => ∃ A1 c1, e = .returned (.tuple #[.slice A1 x.length c1, .int .i64 0]) ∧ Rd w' w'.heap.size A1 (bys x) ∧ x.length ≤ c1 ∧ Below w.heap.size w w' := by
  have h1 := join_any A c l w hs hin
  rw [h] at h1
  exact h1
theorem join_is_none (A : Option Addr) (c : Nat) (l : List Tx) (w : World) (hs : Rd w w.heap.size A (txs l)) (hin : TxIn w w.heap.size l) (h : joinF (byt l) = none) :
    Calls Try.prog 16 #[.slice A l.length c] w fun e w' => ∃ A1 c1, e = .returned (.tuple #[.slice A1 0 c1, .int .i64 21]) ∧ Below w.heap.size w w' := by
  have h1 := join_any A c l w hs hin
  rw [h] at h1
  exact h1.mono fun e w' ⟨A1, c1, he, _, _, hb⟩ => ⟨A1, c1, he, hb⟩
theorem neq_self (x : List UInt8) : ((strF x).toList == (strF x).toList) = true := by simp

section
variable (w : World) (A : Option Addr) (c : Nat) (ws : List Int) (hs : Rd w w.heap.size A (wds ws)) (hl : ws.length * 8 ≤ 140737488351232) (A' : Option Addr) (c' : Nat) (ns : List Nat) (ht : Rd w w.heap.size A' (uns ns)) (hN : ∀ n ∈ ns, n < 18446744073709551616)
  (A'' : Option Addr) (c'' : Nat) (b : List UInt8) (hu : Rd w w.heap.size A'' (bys b)) (hc'' : b.length ≤ c'') (hl'' : b.length ≤ 140737488351232)
include hs hl ht hN hu hc'' hl''

set_option maxHeartbeats 1000000 in
theorem fieldBack_nnn (hp : putF ws ns = none) (hg : getF ws b = none) (hsp : splitF b = none) :
    Calls Try.prog 7 #[.slice A ws.length c, .slice A' ns.length c', .slice A'' b.length c''] w fun e w' => e = .returned (.bool true) ∧ Below w.heap.size w w' := by
  have HN := Lib.hid hN; clear hN
  have hl1 : ws.length ≤ 17592186044416 := by omega
  have HP := Lib.hid hp; have HG := Lib.hid hg; have HS := Lib.hid hsp
  clear hp hg hsp
  go_enter Try.func7, Try.ntmps7
  go_wp2_with fail
  refine (alive_any _).mono ?_
  rintro e w1 ⟨rfl, hb1⟩
  have HB1 := Lib.hid hb1; clear hb1
  go_wp2_with fail
  refine (put_is_none A A' c c' ws ns _ ((hs.below HB1.out).mono HB1.out.size) hl1 ((ht.below HB1.out).mono HB1.out.size) HN.out HP.out).mono ?_
  rintro e w2 ⟨A2, c2, rfl, hb2⟩
  have HB2 := Lib.hid (HB1.out.trans (hb2.mono HB1.out.size)); clear hb2
  go_wp2_with fail
  refine (get_is_none A A'' c c'' ws b _ ((hs.below HB2.out).mono HB2.out.size) hl1 ((hu.below HB2.out).mono HB2.out.size) hc'' HG.out).mono ?_
  rintro e w3 ⟨A5, c5, rfl, hb3⟩
  have HB3 := Lib.hid (HB2.out.trans (hb3.mono HB2.out.size)); clear hb3
  go_wp2_with (at_builtin; refine app_fresh Try.underlying26 infoByte rfl rfl 67 68 rfl rfl w.heap.size A'' b.length c'' (bys b) rfl (bys_len _) (hu.below (HB3.out.alloc HB3.out.size _)) bys_one (by omega) (by omega) ?_; intro A7 c7 w7 hr7 hc7 hb7; have HR7 := Lib.hid hr7; have HB7 := Lib.hid (HB3.out.trans (hb7.mono HB3.out.size)); clear hr7 hb7)
  go_wp2_with fail
  refine (split_is_none A7 c7 b _ HR7.out hc7 (by omega) HS.out).mono ?_
  rintro e w8 ⟨A8, c8, rfl, hb8⟩
  have HB8 := Lib.hid (HB7.out.trans (hb8.mono HB7.out.size)); clear hb8
  go_wp2_with fail
  go_ret
  exact ⟨rfl, HB8.out⟩
set_option maxHeartbeats 1000000 in
theorem fieldBack_nns (hp : putF ws ns = none) (hg : getF ws b = none) {ts : List (List UInt8)} (hsp : splitF b = some ts) :
    Calls Try.prog 7 #[.slice A ws.length c, .slice A' ns.length c', .slice A'' b.length c''] w fun e w' => e = .returned (.bool true) ∧ Below w.heap.size w w' := by
  have HN := Lib.hid hN; clear hN
  have hl1 : ws.length ≤ 17592186044416 := by omega
  have HP := Lib.hid hp; have HG := Lib.hid hg; have HS := Lib.hid hsp
  have HSJ := Lib.hid (join_split hsp)
  clear hp hg hsp
  go_enter Try.func7, Try.ntmps7
  go_wp2_with fail
  refine (alive_any _).mono ?_
  rintro e w1 ⟨rfl, hb1⟩
  have HB1 := Lib.hid hb1; clear hb1
  go_wp2_with fail
  refine (put_is_none A A' c c' ws ns _ ((hs.below HB1.out).mono HB1.out.size) hl1 ((ht.below HB1.out).mono HB1.out.size) HN.out HP.out).mono ?_
  rintro e w2 ⟨A2, c2, rfl, hb2⟩
  have HB2 := Lib.hid (HB1.out.trans (hb2.mono HB1.out.size)); clear hb2
  go_wp2_with fail
  refine (get_is_none A A'' c c'' ws b _ ((hs.below HB2.out).mono HB2.out.size) hl1 ((hu.below HB2.out).mono HB2.out.size) hc'' HG.out).mono ?_
  rintro e w3 ⟨A5, c5, rfl, hb3⟩
  have HB3 := Lib.hid (HB2.out.trans (hb3.mono HB2.out.size)); clear hb3
  go_wp2_with (at_builtin; refine app_fresh Try.underlying26 infoByte rfl rfl 67 68 rfl rfl w.heap.size A'' b.length c'' (bys b) rfl (bys_len _) (hu.below (HB3.out.alloc HB3.out.size _)) bys_one (by omega) (by omega) ?_; intro A7 c7 w7 hr7 hc7 hb7; have HR7 := Lib.hid hr7; have HB7 := Lib.hid (HB3.out.trans (hb7.mono HB3.out.size)); clear hr7 hb7)
  go_wp2_with fail
  refine (split_is_some A7 c7 b _ HR7.out hc7 (by omega) HS.out).mono ?_
  rintro e w8 ⟨A8, c8, l8, rfl, he8, h8, hi8, hb8⟩
  have HB8 := Lib.hid (HB7.out.trans (hb8.mono HB7.out.size)); clear hb8
  have HJ : Hid (joinF (byt l8) = some b) := by show _ = _; rw [he8]; exact HSJ.out
  clear he8
  go_wp2_with fail
  refine (join_is_some A8 c8 l8 _ h8 hi8 HJ.out).mono ?_
  rintro e w9 ⟨A9, c9, rfl, h9, hc9, hb9⟩
  have HB9 := Lib.hid (HB8.out.trans (hb9.mono HB8.out.size)); clear hb9
  clear h8 hi8
  have hk1 := conv_bytes (c := c9) h9
  have hk2 := conv_bytes (c := c'') (hu.below HB9.out)
  have hk3 := neq_self b
  go_wp2_with fail
  go_ret
  exact ⟨rfl, HB9.out⟩
set_option maxHeartbeats 1000000 in
theorem fieldBack_nsn (hp : putF ws ns = none) {q : List Nat} (hg : getF ws b = some q) (hsp : splitF b = none) :
    Calls Try.prog 7 #[.slice A ws.length c, .slice A' ns.length c', .slice A'' b.length c''] w fun e w' => e = .returned (.bool true) ∧ Below w.heap.size w w' := by
  have HN := Lib.hid hN; clear hN
  have hl1 : ws.length ≤ 17592186044416 := by omega
  have HP := Lib.hid hp; have HG := Lib.hid hg; have HS := Lib.hid hsp
  have HGP := Lib.hid (put_get hg)
  have HQ := Lib.hid (get_lt hg)
  clear hp hg hsp
  go_enter Try.func7, Try.ntmps7
  go_wp2_with fail
  refine (alive_any _).mono ?_
  rintro e w1 ⟨rfl, hb1⟩
  have HB1 := Lib.hid hb1; clear hb1
  go_wp2_with fail
  refine (put_is_none A A' c c' ws ns _ ((hs.below HB1.out).mono HB1.out.size) hl1 ((ht.below HB1.out).mono HB1.out.size) HN.out HP.out).mono ?_
  rintro e w2 ⟨A2, c2, rfl, hb2⟩
  have HB2 := Lib.hid (HB1.out.trans (hb2.mono HB1.out.size)); clear hb2
  go_wp2_with fail
  refine (get_is_some A A'' c c'' ws b _ ((hs.below HB2.out).mono HB2.out.size) hl1 ((hu.below HB2.out).mono HB2.out.size) hc'' HG.out).mono ?_
  rintro e w3 ⟨A5, c5, rfl, h5, hc5, hb3⟩
  have HB3 := Lib.hid (HB2.out.trans (hb3.mono HB2.out.size)); clear hb3
  go_wp2_with fail
  refine (put_is_some A A5 c c5 ws q _ ((hs.below HB3.out).mono HB3.out.size) hl1 h5 HQ.out HGP.out).mono ?_
  rintro e w4 ⟨A6, c6, rfl, h6, hc6, hb4⟩
  have HB4 := Lib.hid (HB3.out.trans (hb4.mono HB3.out.size)); clear hb4
  clear h5
  have hk1 := conv_bytes (c := c6) h6
  have hk2 := conv_bytes (c := c'') (hu.below HB4.out)
  have hk3 := neq_self b
  go_wp2_with (at_builtin; refine app_fresh Try.underlying26 infoByte rfl rfl 67 68 rfl rfl w.heap.size A'' b.length c'' (bys b) rfl (bys_len _) (hu.below (HB4.out.alloc HB4.out.size _)) bys_one (by omega) (by omega) ?_; intro A7 c7 w7 hr7 hc7 hb7; have HR7 := Lib.hid hr7; have HB7 := Lib.hid (HB4.out.trans (hb7.mono HB4.out.size)); clear hr7 hb7)
  all_goals clear hk1 hk2 hk3 h6
  go_wp2_with fail
  refine (split_is_none A7 c7 b _ HR7.out hc7 (by omega) HS.out).mono ?_
  rintro e w8 ⟨A8, c8, rfl, hb8⟩
  have HB8 := Lib.hid (HB7.out.trans (hb8.mono HB7.out.size)); clear hb8
  go_wp2_with fail
  go_ret
  exact ⟨rfl, HB8.out⟩
set_option maxHeartbeats 1000000 in
theorem fieldBack_nss (hp : putF ws ns = none) {q : List Nat} (hg : getF ws b = some q) {ts : List (List UInt8)} (hsp : splitF b = some ts) :
    Calls Try.prog 7 #[.slice A ws.length c, .slice A' ns.length c', .slice A'' b.length c''] w fun e w' => e = .returned (.bool true) ∧ Below w.heap.size w w' := by
  have HN := Lib.hid hN; clear hN
  have hl1 : ws.length ≤ 17592186044416 := by omega
  have HP := Lib.hid hp; have HG := Lib.hid hg; have HS := Lib.hid hsp
  have HGP := Lib.hid (put_get hg)
  have HQ := Lib.hid (get_lt hg)
  have HSJ := Lib.hid (join_split hsp)
  clear hp hg hsp
  go_enter Try.func7, Try.ntmps7
  go_wp2_with fail
  refine (alive_any _).mono ?_
  rintro e w1 ⟨rfl, hb1⟩
  have HB1 := Lib.hid hb1; clear hb1
  go_wp2_with fail
  refine (put_is_none A A' c c' ws ns _ ((hs.below HB1.out).mono HB1.out.size) hl1 ((ht.below HB1.out).mono HB1.out.size) HN.out HP.out).mono ?_
  rintro e w2 ⟨A2, c2, rfl, hb2⟩
  have HB2 := Lib.hid (HB1.out.trans (hb2.mono HB1.out.size)); clear hb2
  go_wp2_with fail
  refine (get_is_some A A'' c c'' ws b _ ((hs.below HB2.out).mono HB2.out.size) hl1 ((hu.below HB2.out).mono HB2.out.size) hc'' HG.out).mono ?_
  rintro e w3 ⟨A5, c5, rfl, h5, hc5, hb3⟩
  have HB3 := Lib.hid (HB2.out.trans (hb3.mono HB2.out.size)); clear hb3
  go_wp2_with fail
  refine (put_is_some A A5 c c5 ws q _ ((hs.below HB3.out).mono HB3.out.size) hl1 h5 HQ.out HGP.out).mono ?_
  rintro e w4 ⟨A6, c6, rfl, h6, hc6, hb4⟩
  have HB4 := Lib.hid (HB3.out.trans (hb4.mono HB3.out.size)); clear hb4
  clear h5
  have hk1 := conv_bytes (c := c6) h6
  have hk2 := conv_bytes (c := c'') (hu.below HB4.out)
  have hk3 := neq_self b
  go_wp2_with (at_builtin; refine app_fresh Try.underlying26 infoByte rfl rfl 67 68 rfl rfl w.heap.size A'' b.length c'' (bys b) rfl (bys_len _) (hu.below (HB4.out.alloc HB4.out.size _)) bys_one (by omega) (by omega) ?_; intro A7 c7 w7 hr7 hc7 hb7; have HR7 := Lib.hid hr7; have HB7 := Lib.hid (HB4.out.trans (hb7.mono HB4.out.size)); clear hr7 hb7)
  all_goals clear hk1 hk2 hk3 h6
  go_wp2_with fail
  refine (split_is_some A7 c7 b _ HR7.out hc7 (by omega) HS.out).mono ?_
  rintro e w8 ⟨A8, c8, l8, rfl, he8, h8, hi8, hb8⟩
  have HB8 := Lib.hid (HB7.out.trans (hb8.mono HB7.out.size)); clear hb8
  have HJ : Hid (joinF (byt l8) = some b) := by show _ = _; rw [he8]; exact HSJ.out
  clear he8
  go_wp2_with fail
  refine (join_is_some A8 c8 l8 _ h8 hi8 HJ.out).mono ?_
  rintro e w9 ⟨A9, c9, rfl, h9, hc9, hb9⟩
  have HB9 := Lib.hid (HB8.out.trans (hb9.mono HB8.out.size)); clear hb9
  clear h8 hi8
  have hk1 := conv_bytes (c := c9) h9
  have hk2 := conv_bytes (c := c'') (hu.below HB9.out)
  have hk3 := neq_self b
  go_wp2_with fail
  go_ret
  exact ⟨rfl, HB9.out⟩
set_option maxHeartbeats 1000000 in
theorem fieldBack_snn {x : List UInt8} (hp : putF ws ns = some x) (hg : getF ws b = none) (hsp : splitF b = none) :
    Calls Try.prog 7 #[.slice A ws.length c, .slice A' ns.length c', .slice A'' b.length c''] w fun e w' => e = .returned (.bool true) ∧ Below w.heap.size w w' := by
  have HN := Lib.hid hN; clear hN
  have hl1 : ws.length ≤ 17592186044416 := by omega
  have HP := Lib.hid hp; have HG := Lib.hid hg; have HS := Lib.hid hsp
  have HPG := Lib.hid (get_put hp)
  have hnl : ns.length ≤ ws.length := by rw [(put_some hp).2.1]; exact Nat.le_refl _
  clear hp hg hsp
  go_enter Try.func7, Try.ntmps7
  go_wp2_with fail
  refine (alive_any _).mono ?_
  rintro e w1 ⟨rfl, hb1⟩
  have HB1 := Lib.hid hb1; clear hb1
  go_wp2_with fail
  refine (put_is_some A A' c c' ws ns _ ((hs.below HB1.out).mono HB1.out.size) hl1 ((ht.below HB1.out).mono HB1.out.size) HN.out HP.out).mono ?_
  rintro e w2 ⟨A2, c2, rfl, h2, hc2, hb2⟩
  have HB2 := Lib.hid (HB1.out.trans (hb2.mono HB1.out.size)); clear hb2
  go_wp2_with fail
  refine (get_is_some A A2 c c2 ws x _ ((hs.below HB2.out).mono HB2.out.size) hl1 h2 hc2 HPG.out).mono ?_
  rintro e w3 ⟨A3, c3, rfl, h3, hc3, hb3⟩
  have HB3 := Lib.hid (HB2.out.trans (hb3.mono HB2.out.size)); clear hb3
  clear h2
  go_wp2_with fail
  refine (sameself_nums A3 A' c3 c' ns _ h3 ((ht.below HB3.out).mono HB3.out.size) (by omega)).mono ?_
  rintro e w4 ⟨rfl, n4, rfl⟩
  have HB4 := Lib.hid (below_draws HB3.out n4)
  clear h3
  go_wp2_with fail
  refine (get_is_none A A'' c c'' ws b _ ((hs.below HB4.out).mono HB4.out.size) hl1 ((hu.below HB4.out).mono HB4.out.size) hc'' HG.out).mono ?_
  rintro e w5 ⟨A5, c5, rfl, hb5⟩
  have HB5 := Lib.hid (HB4.out.trans (hb5.mono HB4.out.size)); clear hb5
  go_wp2_with (at_builtin; refine app_fresh Try.underlying26 infoByte rfl rfl 67 68 rfl rfl w.heap.size A'' b.length c'' (bys b) rfl (bys_len _) (hu.below (HB5.out.alloc HB5.out.size _)) bys_one (by omega) (by omega) ?_; intro A7 c7 w7 hr7 hc7 hb7; have HR7 := Lib.hid hr7; have HB7 := Lib.hid (HB5.out.trans (hb7.mono HB5.out.size)); clear hr7 hb7)
  go_wp2_with fail
  refine (split_is_none A7 c7 b _ HR7.out hc7 (by omega) HS.out).mono ?_
  rintro e w8 ⟨A8, c8, rfl, hb8⟩
  have HB8 := Lib.hid (HB7.out.trans (hb8.mono HB7.out.size)); clear hb8
  go_wp2_with fail
  go_ret
  exact ⟨rfl, HB8.out⟩
set_option maxHeartbeats 1000000 in
theorem fieldBack_sns {x : List UInt8} (hp : putF ws ns = some x) (hg : getF ws b = none) {ts : List (List UInt8)} (hsp : splitF b = some ts) :
    Calls Try.prog 7 #[.slice A ws.length c, .slice A' ns.length c', .slice A'' b.length c''] w fun e w' => e = .returned (.bool true) ∧ Below w.heap.size w w' := by
  have HN := Lib.hid hN; clear hN
  have hl1 : ws.length ≤ 17592186044416 := by omega
  have HP := Lib.hid hp; have HG := Lib.hid hg; have HS := Lib.hid hsp
  have HPG := Lib.hid (get_put hp)
  have hnl : ns.length ≤ ws.length := by rw [(put_some hp).2.1]; exact Nat.le_refl _
  have HSJ := Lib.hid (join_split hsp)
  clear hp hg hsp
  go_enter Try.func7, Try.ntmps7
  go_wp2_with fail
  refine (alive_any _).mono ?_
  rintro e w1 ⟨rfl, hb1⟩
  have HB1 := Lib.hid hb1; clear hb1
  go_wp2_with fail
  refine (put_is_some A A' c c' ws ns _ ((hs.below HB1.out).mono HB1.out.size) hl1 ((ht.below HB1.out).mono HB1.out.size) HN.out HP.out).mono ?_
  rintro e w2 ⟨A2, c2, rfl, h2, hc2, hb2⟩
  have HB2 := Lib.hid (HB1.out.trans (hb2.mono HB1.out.size)); clear hb2
  go_wp2_with fail
  refine (get_is_some A A2 c c2 ws x _ ((hs.below HB2.out).mono HB2.out.size) hl1 h2 hc2 HPG.out).mono ?_
  rintro e w3 ⟨A3, c3, rfl, h3, hc3, hb3⟩
  have HB3 := Lib.hid (HB2.out.trans (hb3.mono HB2.out.size)); clear hb3
  clear h2
  go_wp2_with fail
  refine (sameself_nums A3 A' c3 c' ns _ h3 ((ht.below HB3.out).mono HB3.out.size) (by omega)).mono ?_
  rintro e w4 ⟨rfl, n4, rfl⟩
  have HB4 := Lib.hid (below_draws HB3.out n4)
  clear h3
  go_wp2_with fail
  refine (get_is_none A A'' c c'' ws b _ ((hs.below HB4.out).mono HB4.out.size) hl1 ((hu.below HB4.out).mono HB4.out.size) hc'' HG.out).mono ?_
  rintro e w5 ⟨A5, c5, rfl, hb5⟩
  have HB5 := Lib.hid (HB4.out.trans (hb5.mono HB4.out.size)); clear hb5
  go_wp2_with (at_builtin; refine app_fresh Try.underlying26 infoByte rfl rfl 67 68 rfl rfl w.heap.size A'' b.length c'' (bys b) rfl (bys_len _) (hu.below (HB5.out.alloc HB5.out.size _)) bys_one (by omega) (by omega) ?_; intro A7 c7 w7 hr7 hc7 hb7; have HR7 := Lib.hid hr7; have HB7 := Lib.hid (HB5.out.trans (hb7.mono HB5.out.size)); clear hr7 hb7)
  go_wp2_with fail
  refine (split_is_some A7 c7 b _ HR7.out hc7 (by omega) HS.out).mono ?_
  rintro e w8 ⟨A8, c8, l8, rfl, he8, h8, hi8, hb8⟩
  have HB8 := Lib.hid (HB7.out.trans (hb8.mono HB7.out.size)); clear hb8
  have HJ : Hid (joinF (byt l8) = some b) := by show _ = _; rw [he8]; exact HSJ.out
  clear he8
  go_wp2_with fail
  refine (join_is_some A8 c8 l8 _ h8 hi8 HJ.out).mono ?_
  rintro e w9 ⟨A9, c9, rfl, h9, hc9, hb9⟩
  have HB9 := Lib.hid (HB8.out.trans (hb9.mono HB8.out.size)); clear hb9
  clear h8 hi8
  have hk1 := conv_bytes (c := c9) h9
  have hk2 := conv_bytes (c := c'') (hu.below HB9.out)
  have hk3 := neq_self b
  go_wp2_with fail
  go_ret
  exact ⟨rfl, HB9.out⟩
set_option maxHeartbeats 1000000 in
theorem fieldBack_ssn {x : List UInt8} (hp : putF ws ns = some x) {q : List Nat} (hg : getF ws b = some q) (hsp : splitF b = none) :
    Calls Try.prog 7 #[.slice A ws.length c, .slice A' ns.length c', .slice A'' b.length c''] w fun e w' => e = .returned (.bool true) ∧ Below w.heap.size w w' := by
  have HN := Lib.hid hN; clear hN
  have hl1 : ws.length ≤ 17592186044416 := by omega
  have HP := Lib.hid hp; have HG := Lib.hid hg; have HS := Lib.hid hsp
  have HPG := Lib.hid (get_put hp)
  have hnl : ns.length ≤ ws.length := by rw [(put_some hp).2.1]; exact Nat.le_refl _
  have HGP := Lib.hid (put_get hg)
  have HQ := Lib.hid (get_lt hg)
  clear hp hg hsp
  go_enter Try.func7, Try.ntmps7
  go_wp2_with fail
  refine (alive_any _).mono ?_
  rintro e w1 ⟨rfl, hb1⟩
  have HB1 := Lib.hid hb1; clear hb1
  go_wp2_with fail
  refine (put_is_some A A' c c' ws ns _ ((hs.below HB1.out).mono HB1.out.size) hl1 ((ht.below HB1.out).mono HB1.out.size) HN.out HP.out).mono ?_
  rintro e w2 ⟨A2, c2, rfl, h2, hc2, hb2⟩
  have HB2 := Lib.hid (HB1.out.trans (hb2.mono HB1.out.size)); clear hb2
  go_wp2_with fail
  refine (get_is_some A A2 c c2 ws x _ ((hs.below HB2.out).mono HB2.out.size) hl1 h2 hc2 HPG.out).mono ?_
  rintro e w3 ⟨A3, c3, rfl, h3, hc3, hb3⟩
  have HB3 := Lib.hid (HB2.out.trans (hb3.mono HB2.out.size)); clear hb3
  clear h2
  go_wp2_with fail
  refine (sameself_nums A3 A' c3 c' ns _ h3 ((ht.below HB3.out).mono HB3.out.size) (by omega)).mono ?_
  rintro e w4 ⟨rfl, n4, rfl⟩
  have HB4 := Lib.hid (below_draws HB3.out n4)
  clear h3
  go_wp2_with fail
  refine (get_is_some A A'' c c'' ws b _ ((hs.below HB4.out).mono HB4.out.size) hl1 ((hu.below HB4.out).mono HB4.out.size) hc'' HG.out).mono ?_
  rintro e w5 ⟨A5, c5, rfl, h5, hc5, hb5⟩
  have HB5 := Lib.hid (HB4.out.trans (hb5.mono HB4.out.size)); clear hb5
  go_wp2_with fail
  refine (put_is_some A A5 c c5 ws q _ ((hs.below HB5.out).mono HB5.out.size) hl1 h5 HQ.out HGP.out).mono ?_
  rintro e w6 ⟨A6, c6, rfl, h6, hc6, hb6⟩
  have HB6 := Lib.hid (HB5.out.trans (hb6.mono HB5.out.size)); clear hb6
  clear h5
  have hk1 := conv_bytes (c := c6) h6
  have hk2 := conv_bytes (c := c'') (hu.below HB6.out)
  have hk3 := neq_self b
  go_wp2_with (at_builtin; refine app_fresh Try.underlying26 infoByte rfl rfl 67 68 rfl rfl w.heap.size A'' b.length c'' (bys b) rfl (bys_len _) (hu.below (HB6.out.alloc HB6.out.size _)) bys_one (by omega) (by omega) ?_; intro A7 c7 w7 hr7 hc7 hb7; have HR7 := Lib.hid hr7; have HB7 := Lib.hid (HB6.out.trans (hb7.mono HB6.out.size)); clear hr7 hb7)
  all_goals clear hk1 hk2 hk3 h6
  go_wp2_with fail
  refine (split_is_none A7 c7 b _ HR7.out hc7 (by omega) HS.out).mono ?_
  rintro e w8 ⟨A8, c8, rfl, hb8⟩
  have HB8 := Lib.hid (HB7.out.trans (hb8.mono HB7.out.size)); clear hb8
  go_wp2_with fail
  go_ret
  exact ⟨rfl, HB8.out⟩
set_option maxHeartbeats 1000000 in
theorem fieldBack_sss {x : List UInt8} (hp : putF ws ns = some x) {q : List Nat} (hg : getF ws b = some q) {ts : List (List UInt8)} (hsp : splitF b = some ts) :
    Calls Try.prog 7 #[.slice A ws.length c, .slice A' ns.length c', .slice A'' b.length c''] w fun e w' => e = .returned (.bool true) ∧ Below w.heap.size w w' := by
  have HN := Lib.hid hN; clear hN
  have hl1 : ws.length ≤ 17592186044416 := by omega
  have HP := Lib.hid hp; have HG := Lib.hid hg; have HS := Lib.hid hsp
  have HPG := Lib.hid (get_put hp)
  have hnl : ns.length ≤ ws.length := by rw [(put_some hp).2.1]; exact Nat.le_refl _
  have HGP := Lib.hid (put_get hg)
  have HQ := Lib.hid (get_lt hg)
  have HSJ := Lib.hid (join_split hsp)
  clear hp hg hsp
  go_enter Try.func7, Try.ntmps7
  go_wp2_with fail
  refine (alive_any _).mono ?_
  rintro e w1 ⟨rfl, hb1⟩
  have HB1 := Lib.hid hb1; clear hb1
  go_wp2_with fail
  refine (put_is_some A A' c c' ws ns _ ((hs.below HB1.out).mono HB1.out.size) hl1 ((ht.below HB1.out).mono HB1.out.size) HN.out HP.out).mono ?_
  rintro e w2 ⟨A2, c2, rfl, h2, hc2, hb2⟩
  have HB2 := Lib.hid (HB1.out.trans (hb2.mono HB1.out.size)); clear hb2
  go_wp2_with fail
  refine (get_is_some A A2 c c2 ws x _ ((hs.below HB2.out).mono HB2.out.size) hl1 h2 hc2 HPG.out).mono ?_
  rintro e w3 ⟨A3, c3, rfl, h3, hc3, hb3⟩
  have HB3 := Lib.hid (HB2.out.trans (hb3.mono HB2.out.size)); clear hb3
  clear h2
  go_wp2_with fail
  refine (sameself_nums A3 A' c3 c' ns _ h3 ((ht.below HB3.out).mono HB3.out.size) (by omega)).mono ?_
  rintro e w4 ⟨rfl, n4, rfl⟩
  have HB4 := Lib.hid (below_draws HB3.out n4)
  clear h3
  go_wp2_with fail
  refine (get_is_some A A'' c c'' ws b _ ((hs.below HB4.out).mono HB4.out.size) hl1 ((hu.below HB4.out).mono HB4.out.size) hc'' HG.out).mono ?_
  rintro e w5 ⟨A5, c5, rfl, h5, hc5, hb5⟩
  have HB5 := Lib.hid (HB4.out.trans (hb5.mono HB4.out.size)); clear hb5
  go_wp2_with fail
  refine (put_is_some A A5 c c5 ws q _ ((hs.below HB5.out).mono HB5.out.size) hl1 h5 HQ.out HGP.out).mono ?_
  rintro e w6 ⟨A6, c6, rfl, h6, hc6, hb6⟩
  have HB6 := Lib.hid (HB5.out.trans (hb6.mono HB5.out.size)); clear hb6
  clear h5
  have hk1 := conv_bytes (c := c6) h6
  have hk2 := conv_bytes (c := c'') (hu.below HB6.out)
  have hk3 := neq_self b
  go_wp2_with (at_builtin; refine app_fresh Try.underlying26 infoByte rfl rfl 67 68 rfl rfl w.heap.size A'' b.length c'' (bys b) rfl (bys_len _) (hu.below (HB6.out.alloc HB6.out.size _)) bys_one (by omega) (by omega) ?_; intro A7 c7 w7 hr7 hc7 hb7; have HR7 := Lib.hid hr7; have HB7 := Lib.hid (HB6.out.trans (hb7.mono HB6.out.size)); clear hr7 hb7)
  all_goals clear hk1 hk2 hk3 h6
  go_wp2_with fail
  refine (split_is_some A7 c7 b _ HR7.out hc7 (by omega) HS.out).mono ?_
  rintro e w8 ⟨A8, c8, l8, rfl, he8, h8, hi8, hb8⟩
  have HB8 := Lib.hid (HB7.out.trans (hb8.mono HB7.out.size)); clear hb8
  have HJ : Hid (joinF (byt l8) = some b) := by show _ = _; rw [he8]; exact HSJ.out
  clear he8
  go_wp2_with fail
  refine (join_is_some A8 c8 l8 _ h8 hi8 HJ.out).mono ?_
  rintro e w9 ⟨A9, c9, rfl, h9, hc9, hb9⟩
  have HB9 := Lib.hid (HB8.out.trans (hb9.mono HB8.out.size)); clear hb9
  clear h8 hi8
  have hk1 := conv_bytes (c := c9) h9
  have hk2 := conv_bytes (c := c'') (hu.below HB9.out)
  have hk3 := neq_self b
  go_wp2_with fail
  go_ret
  exact ⟨rfl, HB9.out⟩

theorem fieldBack_any :
    Calls Try.prog 7 #[.slice A ws.length c, .slice A' ns.length c', .slice A'' b.length c''] w fun e w' => e = .returned (.bool true) ∧ Below w.heap.size w w' := by
  rcases hp : putF ws ns with _ | x <;> rcases hg : getF ws b with _ | q <;> rcases hsp : splitF b with _ | ts
  · exact fieldBack_nnn w A c ws hs hl A' c' ns ht hN A'' c'' b hu hc'' hl'' hp hg hsp
  · exact fieldBack_nns w A c ws hs hl A' c' ns ht hN A'' c'' b hu hc'' hl'' hp hg hsp
  · exact fieldBack_nsn w A c ws hs hl A' c' ns ht hN A'' c'' b hu hc'' hl'' hp hg hsp
  · exact fieldBack_nss w A c ws hs hl A' c' ns ht hN A'' c'' b hu hc'' hl'' hp hg hsp
  · exact fieldBack_snn w A c ws hs hl A' c' ns ht hN A'' c'' b hu hc'' hl'' hp hg hsp
  · exact fieldBack_sns w A c ws hs hl A' c' ns ht hN A'' c'' b hu hc'' hl'' hp hg hsp
  · exact fieldBack_ssn w A c ws hs hl A' c' ns ht hN A'' c'' b hu hc'' hl'' hp hg hsp
  · exact fieldBack_sss w A c ws hs hl A' c' ns ht hN A'' c'' b hu hc'' hl'' hp hg hsp
end
end Go.Proofs.Ytccmannmbldghaa
