
/- Walks: bytes out of a number, the reference's; the same numbers; a clone; a first part of bytes. -/
import Derived.Test.YtgbghmgipnphkaaF2
set_option maxRecDepth 10000
namespace Go.Proofs.Ytgbghmgipnphkaa
open Go.RowKit

theorem ownB_nil (w : World) (base : Nat) (hb : base ≤ w.heap.size) : OwnB (w.alloc (.cells #[] 5)) base (.slice (some ⟨w.heap.size, 0, none⟩) 0 0) [] := by
  have h := World.ownsRow_lit (base := base) (e := 5) (size := 1) w #[] 0 hb (by simp [maxLen]) rfl
  simpa [OwnB, bys] using h
theorem ownU_nil (w : World) (base : Nat) (hb : base ≤ w.heap.size) : OwnU (w.alloc (.cells #[] 27)) base (.slice (some ⟨w.heap.size, 0, none⟩) 0 0) [] := by
  have h := World.ownsRow_lit (base := base) (e := 27) (size := 1) w #[] 0 hb (by simp [maxLen]) rfl
  simpa [OwnU, uns] using h

theorem div_wrap {m n k : Nat} (hm : m = n / 256 ^ k) (hn : n < 18446744073709551616) : Value.int .u64 (IntKind.u64.wrap ((m : Int) / 256)) = .int .u64 ((m / 256 : Nat) : Int) := by
  have h : m ≤ n := by rw [hm]; exact Nat.div_le_self _ _
  rw [IntKind.wrap_u64]
  congr 1
  omega
def fitB (x n : Nat) : Bool := decide (n < 256 ^ x)
theorem fit_yes {x n m : Nat} (hm : m = n / 256 ^ x) (h0 : m = 0) : fitB x n = true := by
  unfold fitB
  rw [decide_eq_true_eq]
  rw [h0] at hm
  rcases Nat.lt_or_ge n (256 ^ x) with h | h
  · exact h
  · have := Nat.div_pos h (Nat.pow_pos (by omega))
    omega
theorem fit_no {x n m : Nat} (hm : m = n / 256 ^ x) (h0 : 0 < m) : fitB x n = false := by
  unfold fitB
  rw [decide_eq_false_iff_not]
  intro h
  rw [Nat.div_eq_of_lt h] at hm
  omega
theorem byte_mod {m n k : Nat} (hm : m = n / 256 ^ k) : (m : Int) % 256 = ((UInt8.ofNat (n / 256 ^ k)).toNat : Int) := by
  rw [UInt8.toNat_ofNat', hm]
  simp
theorem div_next {m n k : Nat} (hm : m = n / 256 ^ k) : m / 256 = n / 256 ^ (k + 1) := by
  rw [hm, Nat.div_div_eq_div_mul, Nat.pow_succ]

set_option maxHeartbeats 400000 in
theorem rnumber_any (x n : Nat) (w : World) (hx : x ≤ 8) (hn : n < 18446744073709551616) :
    Calls Try.prog 29 #[.int .u64 n, .int .i64 x] w fun e w' => ∃ v, e = .returned (.tuple #[v, .bool (fitB x n)]) ∧ OwnB w' w.heap.size v (bytesF x n) ∧ Below w.heap.size w w' := by
  have HN := Lib.hid hn; clear hn
  go_enter Try.func29, Try.ntmps29
  go_wp2_with fail
  go_loopw [0, 6, 7] (fun q s i wr => ∃ (k m : Nat), k ≤ x ∧ Hid (m = n / 256 ^ k) ∧ q = .int .u64 (m : Int) ∧ i = .int .i64 k ∧ OwnB wr w.heap.size s (bytesF k n) ∧ Below w.heap.size w wr) (fun _ _ i _ => x - (intOf i).toNat)
  case atStart => exact ⟨0, n, by omega, by show _ = _; simp, rfl, rfl, ownB_nil w _ (by omega), (Below.refl _ _).alloc (by omega) _⟩
  case round =>
    obtain ⟨k, m, hk, HM, rfl, rfl, hown, hb⟩ := hrel
    have hsz := hb.size
    have HO := Lib.hid hown; clear hown
    by_cases hlt : k < x
    · have HL : Hid ((bytesF k n).length = k) := bytesF_len k n
      have HB : Hid (bytesF k n ++ [UInt8.ofNat (n / 256 ^ k)] = bytesF (k + 1) n) := (bytesF_snoc k n).symm
      go_wp2_with (at_builtin; go_loud (refine app_one Try.underlying46 infoByte rfl rfl 14 18 rfl w.heap.size u6 _ _ rfl HO.out _ rfl rfl (by omega) (by omega) (by rw [HL.out]; omega) ?_); intro v' w' hown' hgr)
      go_roundw
      case rel => exact ⟨k + 1, m / 256, by omega, div_next HM.out, div_wrap HM.out HN.out, by go_num, by rw [← HB.out]; exact ownB_snoc rfl (byte_mod HM.out) hown', below_own (hb.alloc (by omega) _) (World.ownsRow.alloc HO.out _) (Nat.le_refl _) (by simp; omega) hgr⟩
      case measure => simp [intOf]; omega
    · obtain rfl : k = x := by omega
      by_cases h0 : m = 0
      · have HF : Hid (fitB k n = true) := fit_yes HM.out h0
        subst h0
        go_wp2_with fail
        go_ret2
        exact ⟨u6, ret_val (by rw [HF.out]; rfl), HO.out, hb⟩
      · have HF : Hid (fitB k n = false) := fit_no HM.out (by omega)
        have h0' : ((m : Int) == 0) = false := by rw [beq_eq_false_iff_ne]; omega
        go_wp2_with fail
        go_ret2
        exact ⟨u6, ret_val (by rw [HF.out]; rfl), HO.out, hb⟩

theorem drew2 {w : World} (n m : Nat) : (w.drewN n).drewN m = w.drewN (n + m) := by simp
theorem number_quiet (A : Option Addr) (c B k : Nat) (l : List UInt8) (w : World) (hs : Rd w B A (bys l)) (hk : k ≤ 8) (hl : k ≤ l.length) (n : Nat) :
    Calls Try.prog 34 #[.slice A k c] (w.drewN n) fun e w'' => e = .returned (.int .u64 (numF (l.take k) : Int)) ∧ ∃ m, w'' = w.drewN m :=
  Calls.quiet_of_same (number_first A c B k l (w.drewN n) hs hk hl)
end Go.Proofs.Ytgbghmgipnphkaa
