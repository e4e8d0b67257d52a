
/- Slabs as plain mathematics: what adds up; what is put back. -/
import Derived.Test.YtddhacmaogaocaaN1
set_option maxRecDepth 10000
set_option maxRecDepth 10000
namespace Go.Proofs.Ytddhacmaogaocaa

/-- The sectors of one state, as a set of numbers. -/
def stS (m : Mp) (s : Nat) (n : Int) : Bool := decide (0 ≤ n) && m.is s n.toNat
theorem stS_nat (m : Mp) (s n : Nat) : stS m s (n : Int) = m.is s n := by
  unfold stS
  rw [decide_eq_true (by omega), Bool.true_and, Int.toNat_natCast]
theorem cnt_cntR {p : Nat → Bool} {S : Int → Bool} (h : ∀ n : Nat, S n = p n) : ∀ k : Nat, cnt S k = (cntR p 0 k : Int)
  | 0 => rfl
  | k + 1 => by
    show cnt S k + (if S k = true then 1 else 0) = ((cntR p 0 k + if p (0 + k) = true then 1 else 0 : Nat) : Int)
    rw [cnt_cntR h k, h k, Nat.zero_add]
    split <;> simp
theorem is_far {m : Mp} {s i : Nat} (ht : m.tot ≤ 1024) (h : 1024 ≤ i) : m.is s i = false := by
  cases hi : m.is s i with
  | false => rfl
  | true =>
    have := Mp.is_iff.1 hi
    omega
theorem cntR_far {m : Mp} {s : Nat} (ht : m.tot ≤ 1024) : cntR (m.is s) 0 4096 = cntR (m.is s) 0 1024 := by
  rw [show (4096 : Nat) = 1024 + 3072 from rfl, cntR_add, (cntR_zero (p := m.is s) (lo := 0 + 1024) (n := 3072)).2 fun i h1 _ => is_far ht (by omega)]
  rfl
theorem parts3 (m : Mp) (h2 : ∀ i, m.st i ≤ 2) : ∀ n, cntR (m.is 0) 0 n + cntR (m.is 1) 0 n + cntR (m.is 2) 0 n = min n m.tot - 4
  | 0 => by simp [cntR]
  | n + 1 => by
    have ih := parts3 m h2 n
    show (cntR (m.is 0) 0 n + if m.is 0 (0 + n) = true then 1 else 0) + (cntR (m.is 1) 0 n + if m.is 1 (0 + n) = true then 1 else 0) + (cntR (m.is 2) 0 n + if m.is 2 (0 + n) = true then 1 else 0) = _
    rw [Nat.zero_add]
    have h := h2 n
    by_cases hin : 4 ≤ n ∧ n < m.tot
    · have e : ∀ s, m.is s n = (m.st n == s) := fun s => by
        unfold Mp.is
        rw [decide_eq_true hin.1, decide_eq_true hin.2]
        rfl
      rw [e, e, e]
      rcases (by omega : m.st n = 0 ∨ m.st n = 1 ∨ m.st n = 2) with h | h | h <;> rw [h] <;> simp <;> omega
    · have e : ∀ s, m.is s n = false := fun s => by
        cases hi : m.is s n with
        | false => rfl
        | true =>
          have := Mp.is_iff.1 hi
          omega
      rw [e, e, e]
      simp only [Bool.false_eq_true, if_false]
      omega
/-- Free, taken and waiting are all. -/
theorem parts_all {m : Mp} (h2 : ∀ i, m.st i ≤ 2) (ht : m.tot ≤ 1024) (h4 : 4 ≤ m.tot) : cnt (stS m 1) 4096 + cnt (stS m 2) 4096 + (m.count : Int) = (m.tot : Int) - 4 := by
  rw [cnt_cntR (p := m.is 1) (S := stS m 1) (fun n => stS_nat m 1 n) 4096, cnt_cntR (p := m.is 2) (S := stS m 2) (fun n => stS_nat m 2 n) 4096, cntR_far ht, cntR_far ht]
  have h := parts3 m h2 1024
  have hc : m.count = cntR (m.is 0) 0 1024 := rfl
  omega
theorem put_put {m : Mp} {i s t : Nat} (h : m.st i = t) : (m.put i s).put i t = m := by
  cases m with
  | mk tot st =>
    unfold Mp.put
    refine congrArg (Mp.mk tot) (funext fun j => ?_)
    by_cases hj : j = i
    · subst hj
      simp only [if_true]
      exact h.symm
    · simp only [if_neg hj]
theorem put_same {m : Mp} {i s t : Nat} : (m.put i s).put i t = m.put i t := by
  unfold Mp.put
  refine congrArg (Mp.mk m.tot) (funext fun j => ?_)
  by_cases hj : j = i
  · simp only [if_pos hj]
  · simp only [if_neg hj]
theorem commit_one {m : Mp} {i : Nat} (h0 : m.st i = 0) (h2 : ∀ j, m.st j ≠ 2) : (m.put i 2).commit = m := by
  cases m with
  | mk tot st =>
    unfold Mp.commit Mp.put
    refine congrArg (Mp.mk tot) (funext fun j => ?_)
    by_cases hj : j = i
    · subst hj
      simp only [if_true]
      exact h0.symm
    · simp only [if_neg hj, if_neg (h2 j)]
theorem commit_none {m : Mp} (h2 : ∀ j, m.st j ≠ 2) : m.commit = m := by
  cases m with
  | mk tot st =>
    unfold Mp.commit
    exact congrArg (Mp.mk tot) (funext fun j => if_neg (h2 j))
theorem canon_one {S : Int → Bool} {i : Nat} (hi : i < 4096) (h : ∀ n : Int, S n = true ↔ n = i) : canon S = [((i : Int), 1)] := by
  refine canon_eq (right_mk (by omega) (by omega) (by omega) rfl) fun n _ _ => ?_
  rw [Bool.eq_iff_iff, h, mem_cons_iff]
  constructor
  · intro e; left; simp only; omega
  · intro e
    rcases e with e | e
    · simp only at e; omega
    · cases e
theorem canon_none {S : Int → Bool} (h : ∀ n : Int, 0 ≤ n → n < 4096 → S n = false) : canon S = [] := canon_eq rfl fun n h1 h2 => h n h1 h2
theorem stS_iff {m : Mp} {s : Nat} {n : Int} : stS m s n = true ↔ 0 ≤ n ∧ m.is s n.toNat = true := by simp [stS]
/-- Just one waits. -/
theorem wait_one {m : Mp} {i : Nat} (h4 : 4 ≤ i) (hi : i < m.tot) (ht : m.tot ≤ 1024) (h2 : ∀ j, m.st j ≠ 2) : canon (stS (m.put i 2) 2) = [((i : Int), 1)] := by
  refine canon_one (by omega) fun n => ?_
  rw [stS_iff, Mp.is_iff]
  show 0 ≤ n ∧ 4 ≤ n.toNat ∧ n.toNat < m.tot ∧ (if n.toNat = i then 2 else m.st n.toNat) = 2 ↔ _
  constructor
  · rintro ⟨h0, _, _, h⟩
    by_cases hn : n.toNat = i
    · omega
    · rw [if_neg hn] at h
      exact absurd h (h2 _)
  · intro e
    subst e
    rw [Int.toNat_natCast, if_pos rfl]
    exact ⟨by omega, h4, hi, rfl⟩
/-- Where all is free that can be, as many as there are sectors. -/
theorem count_new (total : Int) : (newMp total).count = (newMp total).tot - 4 := by
  have h := parts3 (newMp total) (fun _ => Nat.zero_le _) 1024
  have ht := newMp_tot total
  have hz : ∀ s, s ≠ 0 → cntR ((newMp total).is s) 0 1024 = 0 := fun s hs => cntR_zero.2 fun i _ _ => by
    unfold Mp.is
    show (decide (4 ≤ i) && decide (i < (newMp total).tot) && (0 == s)) = false
    rw [beq_eq_false_iff_ne.2 (Ne.symm hs), Bool.and_false]
  rw [hz 1 (by omega), hz 2 (by omega)] at h
  have hc : (newMp total).count = cntR ((newMp total).is 0) 0 1024 := rfl
  omega
/-- How many are free of a slab is not more than of one that has the most. -/
theorem gives_succ {m : Mp} {n i : Nat} (h : (m.gives n).2.next = some i) : m.gives (n + 1) = ((m.gives n).1 ++ [i], (m.gives n).2.put i 1) := by
  show (match (Mp.gives n m).2.next with
    | none => Mp.gives n m
    | some i => ((Mp.gives n m).1 ++ [i], (Mp.gives n m).2.put i 1)) = _
  rw [h]
theorem gives_next {m : Mp} {n : Nat} (h : n < m.count) : ∃ i, (m.gives n).2.next = some i := by
  cases hx : (m.gives n).2.next with
  | some i => exact ⟨i, rfl⟩
  | none =>
    have := (gave m n (by omega)).count
    have := next_none.1 hx
    omega
theorem gives_full (m : Mp) : (m.gives m.count).2.count = 0 := by
  have := (gave m m.count (Nat.le_refl _)).count
  omega
end Go.Proofs.Ytddhacmaogaocaa
