
/- Walks: bytes out of a number, the reference's; the same numbers; a clone; a first part of bytes. -/
import Derived.Test.YtklccgmhllpjkaaF2
set_option maxRecDepth 10000
namespace Go.Proofs.Ytklccgmhllpjkaa
open Go.RowKit

theorem ownB_nil (w : World) (base : Nat) (hb : base ≤ w.heap.size) : OwnB (w.alloc (.cells #[] 5)) base (.slice (some ⟨w.heap.size, 0, none⟩) 0 0) [] := by
  have h := World.ownsRow_lit (base := base) (e := 5) (size := 1) w #[] 0 hb (by simp [maxLen]) rfl
  simpa [OwnB, bys] using h
theorem ownU_nil (w : World) (base : Nat) (hb : base ≤ w.heap.size) : OwnU (w.alloc (.cells #[] 66)) base (.slice (some ⟨w.heap.size, 0, none⟩) 0 0) [] := by
  have h := World.ownsRow_lit (base := base) (e := 66) (size := 1) w #[] 0 hb (by simp [maxLen]) rfl
  simpa [OwnU, uns] using h

theorem div_wrap {m n k : Nat} (hm : m = n / 256 ^ k) (hn : n < 18446744073709551616) : Value.int .u64 (IntKind.u64.wrap ((m : Int) / 256)) = .int .u64 ((m / 256 : Nat) : Int) := by
  have h : m ≤ n := by rw [hm]; exact Nat.div_le_self _ _
  rw [IntKind.wrap_u64]
  congr 1
  omega
def fitB (x n : Nat) : Bool := decide (n < 256 ^ x)
theorem fit_yes {x n m : Nat} (hm : m = n / 256 ^ x) (h0 : m = 0) : fitB x n = true := by
  unfold fitB
  rw [decide_eq_true_eq]
  rw [h0] at hm
  rcases Nat.lt_or_ge n (256 ^ x) with h | h
  · exact h
  · have := Nat.div_pos h (Nat.pow_pos (by omega))
    omega
theorem fit_no {x n m : Nat} (hm : m = n / 256 ^ x) (h0 : 0 < m) : fitB x n = false := by
  unfold fitB
  rw [decide_eq_false_iff_not]
  intro h
  rw [Nat.div_eq_of_lt h] at hm
  omega
theorem byte_mod {m n k : Nat} (hm : m = n / 256 ^ k) : (m : Int) % 256 = ((UInt8.ofNat (n / 256 ^ k)).toNat : Int) := by
  rw [UInt8.toNat_ofNat', hm]
  simp
theorem div_next {m n k : Nat} (hm : m = n / 256 ^ k) : m / 256 = n / 256 ^ (k + 1) := by
  rw [hm, Nat.div_div_eq_div_mul, Nat.pow_succ]

theorem drew2 {w : World} (n m : Nat) : (w.drewN n).drewN m = w.drewN (n + m) := by simp
theorem number_quiet (A : Option Addr) (c B k : Nat) (l : List UInt8) (w : World) (hs : Rd w B A (bys l)) (hk : k ≤ 8) (hl : k ≤ l.length) (n : Nat) :
    Calls Try.prog 51 #[.slice A k c] (w.drewN n) fun e w'' => e = .returned (.int .u64 (numF (l.take k) : Int)) ∧ ∃ m, w'' = w.drewN m :=
  Calls.quiet_of_same (number_first A c B k l (w.drewN n) hs hk hl)
end Go.Proofs.Ytklccgmhllpjkaa
