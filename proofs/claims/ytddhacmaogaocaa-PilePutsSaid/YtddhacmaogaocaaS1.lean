
/- Walks: eight bits leave; the sum with more bytes. -/
import Derived.Test.YtddhacmaogaocaaSP
import Derived.Test.YtddhacmaogaocaaB
set_option maxRecDepth 10000
namespace Go.Proofs.Ytddhacmaogaocaa
open Go.RowKit

theorem u32v {n : Nat} {x : Int} (h : x = (n : Int)) : Value.int .u32 x = Value.int .u32 (n : Int) := by rw [h]
theorem and_one (n : Nat) (h : n < 4294967296) : bits .and .u32 (n : Int) 1 = ((n % 2 : Nat) : Int) := by
  have := u32_and_nat n 1 h (by omega)
  rwa [Nat.and_one_is_mod] at this
theorem xor_pol (n : Nat) (h : n < 4294967296) : bits .xor .u32 (n : Int) 2197175160 = ((n ^^^ 2197175160 : Nat) : Int) := u32_xor_nat n 2197175160 h (by omega)
theorem xor_half (m : Nat) (h : m < 4294967296) : bits .xor .u32 ((m : Int) / 2) 2197175160 = ((m / 2 ^^^ 2197175160 : Nat) : Int) := xor_pol (m / 2) (by omega)
set_option maxHeartbeats 400000 in
theorem eight_any (n : Nat) (w : World) (hn : n < 4294967296) :
    Calls Try.prog 46 #[.int .u32 (n : Int)] w fun e w' => e = .returned (.int .u32 (stepsF 8 n : Int)) ∧ w' = w := by
  have HN := Lib.hid hn; clear hn
  go_enter Try.func46, Try.ntmps46
  go_wp2_with fail
  go_loop [0, 4] (fun s i => ∃ (k m : Nat), k ≤ 8 ∧ i = .int .i64 k ∧ s = .int .u32 (m : Int) ∧ Hid (m = stepsF k n)) (fun _ i => 8 - (intOf i).toNat)
  case atStart => exact ⟨0, n, by omega, rfl, rfl, rfl⟩
  case round =>
    obtain ⟨k, m, hk, rfl, rfl, hm⟩ := hrel
    have HM : Hid (m < 4294967296) := by show _ < _; rw [hm.out]; exact steps_lt HN.out
    by_cases hlt : k < 8
    · have hS : Hid (stepsF (k + 1) n = stepF m) := by show _ = _; rw [hm.out]; rfl
      have ha := and_one m HM.out
      by_cases ho : m % 2 = 1
      · have hb : bits .and .u32 (m : Int) 1 = 1 := by rw [ha, ho]; rfl
        clear ha
        go_wp2_with fail
        go_round
        case rel => exact ⟨k + 1, m / 2 ^^^ 2197175160, by omega, by go_num, u32v (xor_half m HM.out), by show _ = _; rw [hS.out, step_odd ho]⟩
        case measure => simp [intOf]; omega
      · have hb : bits .and .u32 (m : Int) 1 = 0 := by rw [ha, show m % 2 = 0 by omega]; rfl
        clear ha
        go_wp2_with fail
        go_round
        case rel => exact ⟨k + 1, m / 2, by omega, by go_num, u32v rfl, by show _ = _; rw [hS.out, step_even ho]⟩
        case measure => simp [intOf]; omega
    · obtain rfl : k = 8 := by omega
      go_wp2_with fail
      go_ret
      exact ⟨ret_int (by rw [hm.out]), rfl⟩

theorem not_bits (s : Nat) (h : s < 4294967296) : bits .xor .u32 IntKind.u32.max (s : Int) = (notF s : Int) := by
  have hm : IntKind.u32.max = ((4294967295 : Nat) : Int) := by decide
  rw [hm, u32_xor_nat _ _ (by omega) h, Nat.xor_comm, ← not_xor h]
theorem byte_bits (n : Nat) (b : UInt8) (h : n < 4294967296) : bits .xor .u32 (n : Int) (b.toNat : Int) = ((n ^^^ b.toNat : Nat) : Int) := u32_xor_nat _ _ h (by have := b.toNat_lt; omega)
set_option maxHeartbeats 400000 in
theorem more_any (A : Option Addr) (c B s : Nat) (l : List UInt8) (w : World) (hs : Rd w B A (bys l)) (hl : l.length ≤ 140737488355328) (hsum : s < 4294967296) :
    Calls Try.prog 38 #[.int .u32 (s : Int), .slice A l.length c] w fun e w' => e = .returned (.int .u32 (moreF s l : Int)) ∧ w' = w := by
  have hnb := not_bits s hsum
  have hsg : IntKind.u32.signed = false := rfl
  clear hsum
  go_enter Try.func38, Try.ntmps38
  go_wp2_with fail
  clear hnb
  go_loop [5, 12] (fun q i => ∃ (k m : Nat), k ≤ l.length ∧ i = .int .i64 k ∧ q = .int .u32 (m : Int) ∧ Hid (m = crcF (notF s) (l.take k))) (fun _ i => l.length - (intOf i).toNat)
  case atStart => exact ⟨0, _, by omega, rfl, rfl, rfl⟩
  case round =>
    obtain ⟨k, m, hk, rfl, rfl, hm⟩ := hrel
    have HM : Hid (m < 4294967296) := by show _ < _; rw [hm.out]; exact crc_lt (not_lt _)
    by_cases hlt : k < l.length
    · obtain ⟨b, off, rfl, hbB, hc1⟩ := by_at hs k hlt
      have HC := Lib.hid (crc_snoc (notF s) l k hlt)
      have hbt := l[k].toNat_lt
      have hx := byte_bits m l[k] HM.out
      have HX : Hid (m ^^^ l[k].toNat < 4294967296) := xor_lt HM.out (by omega)
      have HY : Hid (byteF m l[k] = stepsF 8 (m ^^^ l[k].toNat)) := rfl
      generalize l[k] = x at *
      generalize x.toNat = y at *
      go_wp2_with (go_at_call 46; go_loud (refine (eight_any _ _ HX.out).mono ?_); rintro e w' ⟨rfl, rfl⟩)
      go_round
      case rel => exact ⟨k + 1, _, by omega, by go_num, rfl, by show _ = _; rw [HC.out, ← hm.out, HY.out]⟩
      case measure => simp [intOf]; omega
    · have hnb := not_bits m HM.out
      have HT : Hid (l.take k = l) := List.take_of_length_le (by omega)
      go_wp2_with fail
      go_ret
      exact ⟨ret_int (by rw [hm.out, HT.out]; rfl), rfl⟩

theorem sum_of_any (A : Option Addr) (c B : Nat) (l : List UInt8) (w : World) (hs : Rd w B A (bys l)) (hl : l.length ≤ 140737488355328) :
    Calls Try.prog 26 #[.slice A l.length c] w fun e w' => e = .returned (.int .u32 (moreF 0 l : Int)) ∧ w' = w := by
  go_enter Try.func26, Try.ntmps26
  go_wp2_with (go_at_call 38; go_loud (refine (more_any A c B 0 l _ hs hl (by omega)).mono ?_); rintro e w' ⟨rfl, rfl⟩)
  go_ret
  exact ⟨rfl, rfl⟩

theorem bit_bits (r y j : Nat) (hr : r < 4294967296) (hy : y < 4294967296) : bits .xor .u32 (r : Int) (bits .and .u32 ((y : Int) / 2 ^ j) 1) = ((r ^^^ y / 2 ^ j % 2 : Nat) : Int) := by
  have h1 := and_one (y / 2 ^ j) (Nat.lt_of_le_of_lt (Nat.div_le_self _ _) hy)
  have h2 : (((y / 2 ^ j : Nat)) : Int) = (y : Int) / 2 ^ j := by simp
  rw [← h2, h1]
  exact u32_xor_nat _ _ hr (by omega)
end Go.Proofs.Ytddhacmaogaocaa
