/- Walks: bytes out of a number, the reference's; the same numbers; a clone; a first part of bytes. -/
import Derived.Test.YtccmannmbldghaaF2
namespace Go.Proofs.Ytccmannmbldghaa
open Go.RowKit

theorem ownB_nil (w : World) (base : Nat) (hb : base ≤ w.heap.size) : OwnB (w.alloc (.cells #[] 5)) base (.slice (some ⟨w.heap.size, 0, none⟩) 0 0) [] := by
  have h := World.ownsRow_lit (base := base) (e := 5) (size := 1) w #[] 0 hb (by simp [maxLen]) rfl
  simpa [OwnB, bys] using h
theorem ownU_nil (w : World) (base : Nat) (hb : base ≤ w.heap.size) : OwnU (w.alloc (.cells #[] 52)) base (.slice (some ⟨w.heap.size, 0, none⟩) 0 0) [] := by
  have h := World.ownsRow_lit (base := base) (e := 52) (size := 1) w #[] 0 hb (by simp [maxLen]) rfl
  simpa [OwnU, uns] using h

theorem div_wrap {m n k : Nat} (hm : m = n / 256 ^ k) (hn : n < 18446744073709551616) : Value.int .u64 (IntKind.u64.wrap ((m : Int) / 256)) = .int .u64 ((m / 256 : Nat) : Int) := by
  have h : m ≤ n := by rw [hm]; exact Nat.div_le_self _ _
  rw [IntKind.wrap_u64]
  congr 1
  omega
def fitB (x n : Nat) : Bool := decide (n < 256 ^ x)
theorem fit_yes {x n m : Nat} (hm : m = n / 256 ^ x) (h0 : m = 0) : fitB x n = true := by
  unfold fitB
  rw [decide_eq_true_eq]
  rw [h0] at hm
  rcases Nat.lt_or_ge n (256 ^ x) with h | h
  · exact h
  · have := Nat.div_pos h (Nat.pow_pos (by omega))
    omega
theorem fit_no {x n m : Nat} (hm : m = n / 256 ^ x) (h0 : 0 < m) : fitB x n = false := by
  unfold fitB
  rw [decide_eq_false_iff_not]
  intro h
  rw [Nat.div_eq_of_lt h] at hm
  omega
theorem byte_mod {m n k : Nat} (hm : m = n / 256 ^ k) : (m : Int) % 256 = ((UInt8.ofNat (n / 256 ^ k)).toNat : Int) := by
  rw [UInt8.toNat_ofNat', hm]
  simp
theorem div_next {m n k : Nat} (hm : m = n / 256 ^ k) : m / 256 = n / 256 ^ (k + 1) := by
  rw [hm, Nat.div_div_eq_div_mul, Nat.pow_succ]

set_option maxHeartbeats 400000 in
theorem rnumber_any (x n : Nat) (w : World) (hx : x ≤ 8) (hn : n < 18446744073709551616) :
    Calls Try.prog 24 #[.int .u64 n, .int .i64 x] w fun e w' => ∃ v, e = .returned (.tuple #[v, .bool (fitB x n)]) ∧ OwnB w' w.heap.size v (bytesF x n) ∧ Below w.heap.size w w' := by
  have HN := Lib.hid hn; clear hn
  go_enter Try.func24, Try.ntmps24
  go_wp2_with fail
  go_loopw [0, 6, 7] (fun q s i wr => ∃ (k m : Nat), k ≤ x ∧ Hid (m = n / 256 ^ k) ∧ q = .int .u64 (m : Int) ∧ i = .int .i64 k ∧ OwnB wr w.heap.size s (bytesF k n) ∧ Below w.heap.size w wr) (fun _ _ i _ => x - (intOf i).toNat)
  case atStart => exact ⟨0, n, by omega, by show _ = _; simp, rfl, rfl, ownB_nil w _ (by omega), (Below.refl _ _).alloc (by omega) _⟩
  case round =>
    obtain ⟨k, m, hk, HM, rfl, rfl, hown, hb⟩ := hrel
    have hsz := hb.size
    have HO := Lib.hid hown; clear hown
    by_cases hlt : k < x
    · have HL : Hid ((bytesF k n).length = k) := bytesF_len k n
      have HB : Hid (bytesF k n ++ [UInt8.ofNat (n / 256 ^ k)] = bytesF (k + 1) n) := (bytesF_snoc k n).symm
      go_wp2_with (at_builtin; go_loud (refine app_one Try.underlying26 infoByte rfl rfl 14 18 rfl w.heap.size u6 _ _ rfl HO.out _ rfl rfl (by omega) (by omega) (by rw [HL.out]; omega) ?_); intro v' w' hown' hgr)
      go_roundw
      case rel => exact ⟨k + 1, m / 256, by omega, div_next HM.out, div_wrap HM.out HN.out, by go_num, by rw [← HB.out]; exact ownB_snoc rfl (byte_mod HM.out) hown', below_own (hb.alloc (by omega) _) (World.ownsRow.alloc HO.out _) (Nat.le_refl _) (by simp; omega) hgr⟩
      case measure => simp [intOf]; omega
    · obtain rfl : k = x := by omega
      by_cases h0 : m = 0
      · have HF : Hid (fitB k n = true) := fit_yes HM.out h0
        subst h0
        go_wp2_with fail
        go_ret2
        exact ⟨u6, ret_val (by rw [HF.out]; rfl), HO.out, hb⟩
      · have HF : Hid (fitB k n = false) := fit_no HM.out (by omega)
        have h0' : ((m : Int) == 0) = false := by rw [beq_eq_false_iff_ne]; omega
        go_wp2_with fail
        go_ret2
        exact ⟨u6, ret_val (by rw [HF.out]; rfl), HO.out, hb⟩

theorem drew2 {w : World} (n m : Nat) : (w.drewN n).drewN m = w.drewN (n + m) := by simp
theorem number_quiet (A : Option Addr) (c B k : Nat) (l : List UInt8) (w : World) (hs : Rd w B A (bys l)) (hk : k ≤ 8) (hl : k ≤ l.length) (n : Nat) :
    Calls Try.prog 22 #[.slice A k c] (w.drewN n) fun e w'' => e = .returned (.int .u64 (numF (l.take k) : Int)) ∧ ∃ m, w'' = w.drewN m :=
  Calls.quiet_of_same (number_first A c B k l (w.drewN n) hs hk hl)
theorem take_more {α : Type} {l m : List α} {k : Nat} (h1 : k < l.length) (h2 : k < m.length) (hr : l.take k = m.take k) (h : l[k] = m[k]) : l.take (k + 1) = m.take (k + 1) := by
  rw [List.take_succ_eq_append_getElem h1, List.take_succ_eq_append_getElem h2, hr, h]
theorem take_ne {α : Type} {l m : List α} {k : Nat} (h1 : k < l.length) (h2 : k < m.length) (h : l[k] ≠ m[k]) : l ≠ m := by
  rintro rfl
  exact h rfl

set_option maxHeartbeats 400000 in
theorem samenums_any (A A' : Option Addr) (c c' : Nat) (l m : List Nat) (w : World) (hs : Rd w w.heap.size A (uns l)) (ht : Rd w w.heap.size A' (uns m)) (hl : l.length ≤ 4611686018427387903) :
    Calls Try.prog 15 #[.slice A l.length c, .slice A' m.length c'] w fun e w' => e = .returned (.bool (decide (l = m))) ∧ ∃ n, w' = w.drewN n := by
  by_cases hlen : l.length = m.length
  · have hle : m.length ≤ l.length := by omega
    have hge : l.length ≤ m.length := by omega
    have hn : ((m.length : Int) != (m.length : Int)) = false := by simp
    go_enter Try.func15, Try.ntmps15
    rw [hlen]
    have Hlen := Lib.hid hlen; clear hlen
    go_wp2
    go_loopw [13] (fun i wr => ∃ (k n : Nat), k ≤ m.length ∧ i = .int .i64 k ∧ l.take k = m.take k ∧ wr = w.drewN n) (fun i _ => m.length - (intOf i).toNat)
    case atStart => exact ⟨0, 0, by omega, rfl, rfl, rfl⟩
    case round =>
      obtain ⟨k, n, hk, rfl, hr, rfl⟩ := hrel
      by_cases hlt : k < m.length
      · obtain ⟨b, off, rfl, hbB, hc1⟩ := un_at hs k (by omega)
        obtain ⟨b', off', rfl, hbB', hc1'⟩ := un_at ht k hlt
        have hlt' : k < l.length := by omega
        have hr1 : l[k] = m[k] → l.take (k + 1) = m.take (k + 1) := fun h => take_more hlt' hlt hr h
        have hr2 : l[k] ≠ m[k] → l ≠ m := fun h => take_ne hlt' hlt h
        clear hr
        generalize l[k] = p at *
        generalize m[k] = q at *
        by_cases he : p = q
        · subst he
          have Hr1 := Lib.hid (hr1 rfl); clear hr1 hr2
          have h2 : (p != p) = false := by simp
          have h3 : ((p : Int) != p) = false := by simp
          go_wp2_with fail
          go_quiet (fail)
          go_wp2_with fail
          go_roundw
          case rel => exact ⟨k + 1, _, by omega, by go_num, Hr1.out, rfl⟩
          case measure => simp [intOf]; omega
        · have Hr2 := Lib.hid (hr2 he); clear hr1 hr2
          have h2 : (p != q) = true := by rw [bne_iff_ne]; exact he
          have h3 : ((p : Int) != q) = true := by rw [bne_iff_ne]; omega
          clear he
          go_wp2_with fail
          go_quiet (fail)
          go_wp2_with fail
          go_ret
          exact ⟨ret_bool (by rw [decide_eq_false Hr2.out]), _, drew2 _ _⟩
      · go_wp2_with fail
        go_ret
        rw [List.take_of_length_le (by omega), List.take_of_length_le (by omega)] at hr
        exact ⟨ret_bool (by rw [decide_eq_true hr]), _, rfl⟩
  · have hn : ((l.length : Int) != (m.length : Int)) = true := by rw [bne_iff_ne]; omega
    go_enter Try.func15, Try.ntmps15
    go_wp2
    go_ret
    exact ⟨ret_bool (by rw [decide_eq_false (fun h => hlen (by rw [h]))]), 0, rfl⟩

theorem lead_short (A : Option Addr) (c : Nat) (l : List UInt8) (w : World) (hl : l.length < 2) :
    Calls Try.prog 26 #[.slice A l.length c] w fun e w' => e = .returned (.tuple #[.int .i64 0, .slice none 0 0, .bool false]) ∧ w' = w := by
  go_enter Try.func26, Try.ntmps26
  go_wp2_with fail
  go_ret3
  exact ⟨rfl, rfl⟩

set_option maxHeartbeats 400000 in
theorem lead_long (A : Option Addr) (c B : Nat) (l : List UInt8) (w : World) (hs : Rd w B A (bys l)) (hl : 2 ≤ l.length) (hc : l.length ≤ c) (hm : l.length ≤ 4611686018427387903) :
    Calls Try.prog 26 #[.slice A l.length c] w fun e w' => ∃ A', e = .returned (.tuple #[.int .i64 (numF (l.take 2) : Int), .slice A' (l.length - 2) (c - 2), .bool true]) ∧ Rd w B A' (bys (l.drop 2)) ∧ ∃ n, w' = w.drewN n := by
  obtain ⟨b, off, rfl, hbB, hc1⟩ := by_at hs 0 (by omega)
  clear hc1
  have hn := num2_lt l
  have h2c : 2 ≤ c := by omega
  have h2c' : (2 : Int) ≤ c := by omega
  have Hn := Lib.hid (num2_lt l); clear hn
  have hn : (numF (l.take 2) : Int) ≤ 65535 := by have := Hn.out; omega
  by_cases h2 : c = 2
  · subst h2
    have H0 : Hid (l.length - 2 = 0) := by show _ = _; omega
    go_enter Try.func26, Try.ntmps26
    go_wp2_with fail
    go_quiet ((go_at_call 22; exact number_quiet _ _ B 2 l w hs (by omega) hl _))
    go_wp2_with fail
    go_ret3
    exact ⟨some ⟨b, off, none⟩, ret_val (by rw [H0.out]; rfl), (fun h => absurd h (by have := H0.out; rw [bys_len, List.length_drop]; omega)), _, rfl⟩
  · go_enter Try.func26, Try.ntmps26
    go_wp2_with fail
    go_quiet ((go_at_call 22; exact number_quiet _ _ B 2 l w hs (by omega) hl _))
    go_wp2_with fail
    go_ret3
    exact ⟨some ⟨b, off + 2, none⟩, rfl, by rw [← bys_drop]; exact hs.drop, _, rfl⟩
end Go.Proofs.Ytccmannmbldghaa
