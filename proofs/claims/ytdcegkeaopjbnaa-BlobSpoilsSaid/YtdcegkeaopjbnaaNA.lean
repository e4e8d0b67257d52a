/- The texts N1 N2 N3 N10 N11 N12 N13 N14 N15. -/
import Derived.Test.YtdcegkeaopjbnaaBA
import Derived.Test.YtdcegkeaopjbnaaVA
import Derived.Deep.WholeRow
import Derived.Deep.Cut
set_option maxRecDepth 10000
namespace Go.Proofs.Ytdcegkeaopjbnaa

section
/-! ### How many, which first -/
/-- How many of the n numbers from lo on. -/
def cntR (p : Nat → Bool) (lo : Nat) : Nat → Nat
  | 0 => 0
  | n + 1 => cntR p lo n + if p (lo + n) = true then 1 else 0
theorem cntR_add (p : Nat → Bool) (lo a : Nat) : ∀ b, cntR p lo (a + b) = cntR p lo a + cntR p (lo + a) b
  | 0 => rfl
  | b + 1 => by
    show cntR p lo (a + b) + (if p (lo + (a + b)) = true then 1 else 0) = cntR p lo a + (cntR p (lo + a) b + if p (lo + a + b) = true then 1 else 0)
    rw [cntR_add p lo a b, show lo + (a + b) = lo + a + b by omega]
    omega
theorem cntR_congr {p q : Nat → Bool} {lo : Nat} : ∀ {n : Nat}, (∀ i, lo ≤ i → i < lo + n → p i = q i) → cntR p lo n = cntR q lo n
  | 0, _ => rfl
  | n + 1, h => by
    show cntR p lo n + _ = cntR q lo n + _
    rw [cntR_congr fun i h1 h2 => h i h1 (by omega), h (lo + n) (by omega) (by omega)]
theorem cntR_le (p : Nat → Bool) (lo : Nat) : ∀ n, cntR p lo n ≤ n
  | 0 => Nat.le_refl _
  | n + 1 => by
    have := cntR_le p lo n
    show cntR p lo n + _ ≤ _
    split <;> omega
theorem cntR_zero {p : Nat → Bool} {lo : Nat} : ∀ {n : Nat}, cntR p lo n = 0 ↔ ∀ i, lo ≤ i → i < lo + n → p i = false
  | 0 => ⟨fun _ i h1 h2 => by omega, fun _ => rfl⟩
  | n + 1 => by
    show cntR p lo n + _ = 0 ↔ _
    constructor
    · intro h i h1 h2
      by_cases hi : i = lo + n
      · subst hi
        cases hp : p (lo + n) with
        | false => rfl
        | true => rw [hp] at h; simp at h
      · exact (cntR_zero (p := p) (lo := lo) (n := n)).1 (by omega) i h1 (by omega)
    · intro h
      rw [cntR_zero.2 fun i h1 h2 => h i h1 (by omega), h (lo + n) (by omega) (by omega)]
      rfl
/-- One number less. -/
theorem cntR_flip {p q : Nat → Bool} {lo i : Nat} (hp : p i = true) (hq : q i = false) (he : ∀ j, j ≠ i → p j = q j) : ∀ {n : Nat}, lo ≤ i → i < lo + n → cntR p lo n = cntR q lo n + 1
  | 0, h1, h2 => by omega
  | n + 1, h1, h2 => by
    show cntR p lo n + _ = cntR q lo n + _ + 1
    by_cases hi : i = lo + n
    · subst hi
      rw [hp, hq, cntR_congr (p := p) (q := q) fun j _ _ => he j (by omega)]
      simp
    · rw [cntR_flip hp hq he h1 (by omega), he (lo + n) (by omega)]
      omega
/-- The first of the n numbers from lo on. -/
def firstR (p : Nat → Bool) (lo : Nat) : Nat → Option Nat
  | 0 => none
  | n + 1 => match firstR p lo n with
    | some i => some i
    | none => if p (lo + n) = true then some (lo + n) else none
theorem firstR_some {p : Nat → Bool} {lo : Nat} : ∀ {n i : Nat}, firstR p lo n = some i → lo ≤ i ∧ i < lo + n ∧ p i = true ∧ ∀ j, lo ≤ j → j < i → p j = false
  | 0, _, h => by cases h
  | n + 1, i, h => by
    unfold firstR at h
    cases hf : firstR p lo n with
    | some k =>
      rw [hf] at h
      obtain rfl : k = i := by injection h
      obtain ⟨h1, h2, h3, h4⟩ := firstR_some hf
      exact ⟨h1, by omega, h3, h4⟩
    | none =>
      rw [hf] at h
      simp only at h
      by_cases hp : p (lo + n) = true
      · rw [if_pos hp] at h
        obtain rfl : lo + n = i := by injection h
        exact ⟨by omega, by omega, hp, fun j h1 h2 => firstR_none hf j h1 h2⟩
      · rw [if_neg hp] at h
        cases h
where firstR_none {p : Nat → Bool} {lo : Nat} : ∀ {n : Nat}, firstR p lo n = none → ∀ j, lo ≤ j → j < lo + n → p j = false
  | 0, _, j, h1, h2 => by omega
  | n + 1, h, j, h1, h2 => by
    unfold firstR at h
    cases hf : firstR p lo n with
    | some k => rw [hf] at h; cases h
    | none =>
      rw [hf] at h
      simp only at h
      by_cases hp : p (lo + n) = true
      · rw [if_pos hp] at h; cases h
      · by_cases hj : j = lo + n
        · subst hj; simpa using hp
        · exact firstR_none hf j h1 (by omega)
theorem firstR_none_iff {p : Nat → Bool} {lo n : Nat} : firstR p lo n = none ↔ cntR p lo n = 0 := by
  constructor
  · intro h
    exact cntR_zero.2 (firstR_some.firstR_none h)
  · intro h
    cases hf : firstR p lo n with
    | none => rfl
    | some i =>
      obtain ⟨h1, h2, h3, _⟩ := firstR_some hf
      rw [cntR_zero.1 h i h1 h2] at h3
      cases h3

/-! ### Maps -/
/-- How many sectors; what each of them is: 0 free, 1 taken, 2 later. -/
structure Mp where
  tot : Nat
  st : Nat → Nat
/-- A sector that has a state has this one. -/
def Mp.is (m : Mp) (s : Nat) (i : Nat) : Bool := decide (4 ≤ i) && decide (i < m.tot) && m.st i == s
theorem Mp.is_iff {m : Mp} {s i : Nat} : m.is s i = true ↔ 4 ≤ i ∧ i < m.tot ∧ m.st i = s := by
  simp [Mp.is, and_assoc]
def Mp.put (m : Mp) (i s : Nat) : Mp := ⟨m.tot, fun j => if j = i then s else m.st j⟩
theorem Mp.put_is_ne {m : Mp} {i s s' j : Nat} (h : j ≠ i) : (m.put i s).is s' j = m.is s' j := by
  unfold Mp.is Mp.put
  simp only [if_neg h]
theorem Mp.put_is_self {m : Mp} {i s s' : Nat} : (m.put i s).is s' i = (decide (4 ≤ i) && decide (i < m.tot) && s == s') := by
  unfold Mp.is Mp.put
  simp only [if_true]
def newMp (total : Int) : Mp := ⟨(min (max total 0) 1024).toNat, fun _ => 0⟩
theorem newMp_tot (total : Int) : (newMp total).tot ≤ 1024 := by
  show (min (max total 0) 1024).toNat ≤ 1024
  omega
/-- Take, Free, Later: a sector that was one thing is another; none, where it can't be. -/
def Mp.turn (m : Mp) (i : Int) (was now : Nat) : Option Mp := if 0 ≤ i ∧ m.is was i.toNat = true then some (m.put i.toNat now) else none
def Mp.commit (m : Mp) : Mp := ⟨m.tot, fun j => if m.st j = 2 then 0 else m.st j⟩
/-- How many are free of a slab; of all. -/
def Mp.room (m : Mp) (k : Nat) : Nat := cntR (m.is 0) (64 * k) 64
def Mp.roomI (m : Mp) (k : Int) : Nat := if 0 ≤ k ∧ k < 16 then m.room k.toNat else 0
def Mp.count (m : Mp) : Nat := cntR (m.is 0) 0 1024
def sumR (m : Mp) : Nat → Nat
  | 0 => 0
  | k + 1 => sumR m k + m.room k
theorem sumR_eq (m : Mp) : ∀ k, sumR m k = cntR (m.is 0) 0 (64 * k)
  | 0 => rfl
  | k + 1 => by
    show sumR m k + m.room k = _
    rw [sumR_eq m k, show 64 * (k + 1) = 64 * k + 64 by omega, cntR_add, Nat.zero_add]
    rfl
theorem sum_count (m : Mp) : sumR m 16 = m.count := sumR_eq m 16
theorem count_le (m : Mp) : m.count ≤ 1024 := cntR_le _ _ _
theorem room_le (m : Mp) (k : Nat) : m.room k ≤ 64 := cntR_le _ _ _
/-- The first of the slabs up to k that have the most room. -/
def bestR (m : Mp) : Nat → Nat
  | 0 => 0
  | k + 1 => if m.room (bestR m k) < m.room (k + 1) then k + 1 else bestR m k
theorem best_le (m : Mp) : ∀ k, bestR m k ≤ k
  | 0 => Nat.le_refl _
  | k + 1 => by
    have := best_le m k
    unfold bestR
    split <;> omega
theorem best_most (m : Mp) : ∀ k j, j ≤ k → m.room j ≤ m.room (bestR m k)
  | 0, j, h => by
    obtain rfl : j = 0 := by omega
    exact Nat.le_refl _
  | k + 1, j, h => by
    unfold bestR
    by_cases hc : m.room (bestR m k) < m.room (k + 1)
    · rw [if_pos hc]
      by_cases hj : j = k + 1
      · subst hj; exact Nat.le_refl _
      · have := best_most m k j (by omega); omega
    · rw [if_neg hc]
      by_cases hj : j = k + 1
      · subst hj; omega
      · exact best_most m k j (by omega)
theorem best_first (m : Mp) : ∀ k j, j < bestR m k → m.room j < m.room (bestR m k)
  | 0, j, h => by simp [bestR] at h
  | k + 1, j, h => by
    unfold bestR at h ⊢
    by_cases hc : m.room (bestR m k) < m.room (k + 1)
    · rw [if_pos hc] at h ⊢
      have := best_most m k j (by omega)
      omega
    · rw [if_neg hc] at h ⊢
      exact best_first m k j h
def Mp.best (m : Mp) : Nat := bestR m 15
/-- The sector that Alloc gives. -/
def Mp.next (m : Mp) : Option Nat := firstR (m.is 0) (64 * m.best) 64
theorem next_none {m : Mp} : m.next = none ↔ m.count = 0 := by
  unfold Mp.next
  rw [firstR_none_iff]
  constructor
  · intro h
    rw [← sum_count]
    have hz : ∀ k, k < 16 → m.room k = 0 := fun k hk => by
      have h1 := best_most m 15 k (by omega)
      have h2 : m.room (bestR m 15) = 0 := h
      omega
    simp only [sumR]
    rw [hz 0, hz 1, hz 2, hz 3, hz 4, hz 5, hz 6, hz 7, hz 8, hz 9, hz 10, hz 11, hz 12, hz 13, hz 14, hz 15] <;> omega
  · intro h
    have hb := best_le m 15
    exact cntR_zero.2 fun i h1 h2 => cntR_zero.1 h i (by omega) (by have : m.best = bestR m 15 := rfl; omega)
theorem next_some {m : Mp} {i : Nat} (h : m.next = some i) : m.is 0 i = true ∧ i < 1024 ∧ i / 64 = m.best ∧ (∀ k, k < 16 → m.room k ≤ m.room (i / 64)) ∧ (∀ k, k < i / 64 → m.room k < m.room (i / 64)) ∧ ∀ j, i / 64 * 64 ≤ j → j < i → m.is 0 j = false := by
  obtain ⟨h1, h2, h3, h4⟩ := firstR_some h
  have hb := best_le m 15
  have hbb : m.best = bestR m 15 := rfl
  have hd : i / 64 = m.best := by omega
  rw [hd]
  exact ⟨h3, by omega, rfl, fun k hk => best_most m 15 k (by omega), fun k hk => best_first m 15 k hk, fun j hj1 hj2 => h4 j (by omega) hj2⟩
theorem count_take {m : Mp} {i s : Nat} (h : m.is 0 i = true) (hi : i < 1024) (hs : s ≠ 0) : m.count = (m.put i s).count + 1 :=
  cntR_flip h (by rw [Mp.put_is_self, beq_eq_false_iff_ne.2 hs, Bool.and_false]) (fun _ hj => (Mp.put_is_ne hj).symm) (by omega) (by omega)
theorem count_free {m : Mp} {i s : Nat} (h : m.is s i = true) (hi : i < 1024) (hs : s ≠ 0) : (m.put i 0).count = m.count + 1 := by
  obtain ⟨h1, h2, h3⟩ := Mp.is_iff.1 h
  refine cntR_flip (i := i) ?_ ?_ (fun j hj => Mp.put_is_ne hj) (by omega) (by omega)
  · rw [Mp.put_is_self, decide_eq_true h1, decide_eq_true h2]; rfl
  · unfold Mp.is
    rw [h3, beq_eq_false_iff_ne.2 hs, Bool.and_false]
theorem count_same {m : Mp} {i s t : Nat} (h : m.is s i = true) (hs : s ≠ 0) (ht : t ≠ 0) : (m.put i t).count = m.count := by
  refine cntR_congr fun j _ _ => ?_
  by_cases hj : j = i
  · subst hj
    rw [Mp.put_is_self, beq_eq_false_iff_ne.2 ht, Bool.and_false]
    unfold Mp.is
    rw [(Mp.is_iff.1 h).2.2, beq_eq_false_iff_ne.2 hs, Bool.and_false]
  · exact Mp.put_is_ne hj

/-! ### Many -/
/-- So many Allocs, one after the other. -/
def Mp.gives : Nat → Mp → List Nat × Mp
  | 0, m => ([], m)
  | n + 1, m => match (Mp.gives n m).2.next with
    | none => Mp.gives n m
    | some i => ((Mp.gives n m).1 ++ [i], (Mp.gives n m).2.put i 1)
/-- What n Allocs leave, where there is room for n. -/
structure Gave (m : Mp) (n : Nat) (r : List Nat × Mp) : Prop where
  len : r.1.length = n
  nodup : r.1.Nodup
  was : ∀ i ∈ r.1, m.is 0 i = true ∧ i < 1024
  tot : r.2.tot = m.tot
  st : ∀ i, r.2.st i = if i ∈ r.1 then 1 else m.st i
  count : r.2.count + n = m.count
theorem gave (m : Mp) : ∀ n, n ≤ m.count → Gave m n (m.gives n)
  | 0, _ => ⟨rfl, List.nodup_nil, (fun i hi => (List.not_mem_nil hi).elim), rfl, (fun i => (if_neg List.not_mem_nil).symm), Nat.add_zero _⟩
  | n + 1, hn => by
    have h := gave m n (by omega)
    cases hx : (m.gives n).2.next with
    | none =>
      have := next_none.1 hx
      have := h.count
      omega
    | some i =>
      have he : m.gives (n + 1) = ((m.gives n).1 ++ [i], (m.gives n).2.put i 1) := by
        show (match (Mp.gives n m).2.next with
          | none => Mp.gives n m
          | some i => ((Mp.gives n m).1 ++ [i], (Mp.gives n m).2.put i 1)) = _
        rw [hx]
      obtain ⟨h1, h2, _⟩ := next_some hx
      obtain ⟨g1, g2, g3⟩ := Mp.is_iff.1 h1
      have hni : i ∉ (m.gives n).1 := fun hm => by
        rw [h.st, if_pos hm] at g3
        cases g3
      rw [h.st, if_neg hni] at g3
      rw [h.tot] at g2
      rw [he]
      refine ⟨by simp [h.len], ?_, ?_, h.tot, ?_, ?_⟩
      · rw [List.nodup_append]
        refine ⟨h.nodup, List.nodup_cons.2 ⟨by simp, List.nodup_nil⟩, ?_⟩
        intro a ha b hb
        rw [List.mem_singleton] at hb
        subst hb
        intro e
        subst e
        exact hni ha
      · intro j hj
        rw [List.mem_append, List.mem_singleton] at hj
        rcases hj with hj | rfl
        · exact h.was j hj
        · exact ⟨Mp.is_iff.2 ⟨g1, g2, g3⟩, h2⟩
      · intro j
        show (if j = i then 1 else (m.gives n).2.st j) = _
        rw [h.st]
        by_cases hj : j = i
        · subst hj
          rw [if_pos rfl, if_pos (by simp)]
        · rw [if_neg hj]
          by_cases hm : j ∈ (m.gives n).1
          · rw [if_pos hm, if_pos (by simp [hm])]
          · rw [if_neg hm, if_neg (by simp [hm, hj])]
      · have := count_take h1 h2 (s := 1) (by omega)
        have := h.count
        show ((m.gives n).2.put i 1).count + (n + 1) = _
        omega
/-- Many: none, where there is no room for so many. -/
def Mp.many (m : Mp) (n : Int) : Option (List Nat × Mp) := if (m.count : Int) < n then none else some (m.gives n.toNat)
end
section
/-- The sectors of one state, as a set of numbers. -/
def stS (m : Mp) (s : Nat) (n : Int) : Bool := decide (0 ≤ n) && m.is s n.toNat
theorem stS_nat (m : Mp) (s n : Nat) : stS m s (n : Int) = m.is s n := by
  unfold stS
  rw [decide_eq_true (by omega), Bool.true_and, Int.toNat_natCast]
theorem cnt_cntR {p : Nat → Bool} {S : Int → Bool} (h : ∀ n : Nat, S n = p n) : ∀ k : Nat, cnt S k = (cntR p 0 k : Int)
  | 0 => rfl
  | k + 1 => by
    show cnt S k + (if S k = true then 1 else 0) = ((cntR p 0 k + if p (0 + k) = true then 1 else 0 : Nat) : Int)
    rw [cnt_cntR h k, h k, Nat.zero_add]
    split <;> simp
theorem is_far {m : Mp} {s i : Nat} (ht : m.tot ≤ 1024) (h : 1024 ≤ i) : m.is s i = false := by
  cases hi : m.is s i with
  | false => rfl
  | true =>
    have := Mp.is_iff.1 hi
    omega
theorem cntR_far {m : Mp} {s : Nat} (ht : m.tot ≤ 1024) : cntR (m.is s) 0 4096 = cntR (m.is s) 0 1024 := by
  rw [show (4096 : Nat) = 1024 + 3072 from rfl, cntR_add, (cntR_zero (p := m.is s) (lo := 0 + 1024) (n := 3072)).2 fun i h1 _ => is_far ht (by omega)]
  rfl
theorem parts3 (m : Mp) (h2 : ∀ i, m.st i ≤ 2) : ∀ n, cntR (m.is 0) 0 n + cntR (m.is 1) 0 n + cntR (m.is 2) 0 n = min n m.tot - 4
  | 0 => by simp [cntR]
  | n + 1 => by
    have ih := parts3 m h2 n
    show (cntR (m.is 0) 0 n + if m.is 0 (0 + n) = true then 1 else 0) + (cntR (m.is 1) 0 n + if m.is 1 (0 + n) = true then 1 else 0) + (cntR (m.is 2) 0 n + if m.is 2 (0 + n) = true then 1 else 0) = _
    rw [Nat.zero_add]
    have h := h2 n
    by_cases hin : 4 ≤ n ∧ n < m.tot
    · have e : ∀ s, m.is s n = (m.st n == s) := fun s => by
        unfold Mp.is
        rw [decide_eq_true hin.1, decide_eq_true hin.2]
        rfl
      rw [e, e, e]
      rcases (by omega : m.st n = 0 ∨ m.st n = 1 ∨ m.st n = 2) with h | h | h <;> rw [h] <;> simp <;> omega
    · have e : ∀ s, m.is s n = false := fun s => by
        cases hi : m.is s n with
        | false => rfl
        | true =>
          have := Mp.is_iff.1 hi
          omega
      rw [e, e, e]
      simp only [Bool.false_eq_true, if_false]
      omega
/-- Free, taken and waiting are all. -/
theorem parts_all {m : Mp} (h2 : ∀ i, m.st i ≤ 2) (ht : m.tot ≤ 1024) (h4 : 4 ≤ m.tot) : cnt (stS m 1) 4096 + cnt (stS m 2) 4096 + (m.count : Int) = (m.tot : Int) - 4 := by
  rw [cnt_cntR (p := m.is 1) (S := stS m 1) (fun n => stS_nat m 1 n) 4096, cnt_cntR (p := m.is 2) (S := stS m 2) (fun n => stS_nat m 2 n) 4096, cntR_far ht, cntR_far ht]
  have h := parts3 m h2 1024
  have hc : m.count = cntR (m.is 0) 0 1024 := rfl
  omega
theorem put_put {m : Mp} {i s t : Nat} (h : m.st i = t) : (m.put i s).put i t = m := by
  cases m with
  | mk tot st =>
    unfold Mp.put
    refine congrArg (Mp.mk tot) (funext fun j => ?_)
    by_cases hj : j = i
    · subst hj
      simp only [if_true]
      exact h.symm
    · simp only [if_neg hj]
theorem put_same {m : Mp} {i s t : Nat} : (m.put i s).put i t = m.put i t := by
  unfold Mp.put
  refine congrArg (Mp.mk m.tot) (funext fun j => ?_)
  by_cases hj : j = i
  · simp only [if_pos hj]
  · simp only [if_neg hj]
theorem commit_one {m : Mp} {i : Nat} (h0 : m.st i = 0) (h2 : ∀ j, m.st j ≠ 2) : (m.put i 2).commit = m := by
  cases m with
  | mk tot st =>
    unfold Mp.commit Mp.put
    refine congrArg (Mp.mk tot) (funext fun j => ?_)
    by_cases hj : j = i
    · subst hj
      simp only [if_true]
      exact h0.symm
    · simp only [if_neg hj, if_neg (h2 j)]
theorem commit_none {m : Mp} (h2 : ∀ j, m.st j ≠ 2) : m.commit = m := by
  cases m with
  | mk tot st =>
    unfold Mp.commit
    exact congrArg (Mp.mk tot) (funext fun j => if_neg (h2 j))
theorem canon_one {S : Int → Bool} {i : Nat} (hi : i < 4096) (h : ∀ n : Int, S n = true ↔ n = i) : canon S = [((i : Int), 1)] := by
  refine canon_eq (right_mk (by omega) (by omega) (by omega) rfl) fun n _ _ => ?_
  rw [Bool.eq_iff_iff, h, mem_cons_iff]
  constructor
  · intro e; left; simp only; omega
  · intro e
    rcases e with e | e
    · simp only at e; omega
    · cases e
theorem canon_none {S : Int → Bool} (h : ∀ n : Int, 0 ≤ n → n < 4096 → S n = false) : canon S = [] := canon_eq rfl fun n h1 h2 => h n h1 h2
theorem stS_iff {m : Mp} {s : Nat} {n : Int} : stS m s n = true ↔ 0 ≤ n ∧ m.is s n.toNat = true := by simp [stS]
/-- Just one waits. -/
theorem wait_one {m : Mp} {i : Nat} (h4 : 4 ≤ i) (hi : i < m.tot) (ht : m.tot ≤ 1024) (h2 : ∀ j, m.st j ≠ 2) : canon (stS (m.put i 2) 2) = [((i : Int), 1)] := by
  refine canon_one (by omega) fun n => ?_
  rw [stS_iff, Mp.is_iff]
  show 0 ≤ n ∧ 4 ≤ n.toNat ∧ n.toNat < m.tot ∧ (if n.toNat = i then 2 else m.st n.toNat) = 2 ↔ _
  constructor
  · rintro ⟨h0, _, _, h⟩
    by_cases hn : n.toNat = i
    · omega
    · rw [if_neg hn] at h
      exact absurd h (h2 _)
  · intro e
    subst e
    rw [Int.toNat_natCast, if_pos rfl]
    exact ⟨by omega, h4, hi, rfl⟩
/-- Where all is free that can be, as many as there are sectors. -/
theorem count_new (total : Int) : (newMp total).count = (newMp total).tot - 4 := by
  have h := parts3 (newMp total) (fun _ => Nat.zero_le _) 1024
  have ht := newMp_tot total
  have hz : ∀ s, s ≠ 0 → cntR ((newMp total).is s) 0 1024 = 0 := fun s hs => cntR_zero.2 fun i _ _ => by
    unfold Mp.is
    show (decide (4 ≤ i) && decide (i < (newMp total).tot) && (0 == s)) = false
    rw [beq_eq_false_iff_ne.2 (Ne.symm hs), Bool.and_false]
  rw [hz 1 (by omega), hz 2 (by omega)] at h
  have hc : (newMp total).count = cntR ((newMp total).is 0) 0 1024 := rfl
  omega
/-- How many are free of a slab is not more than of one that has the most. -/
theorem gives_succ {m : Mp} {n i : Nat} (h : (m.gives n).2.next = some i) : m.gives (n + 1) = ((m.gives n).1 ++ [i], (m.gives n).2.put i 1) := by
  show (match (Mp.gives n m).2.next with
    | none => Mp.gives n m
    | some i => ((Mp.gives n m).1 ++ [i], (Mp.gives n m).2.put i 1)) = _
  rw [h]
theorem gives_next {m : Mp} {n : Nat} (h : n < m.count) : ∃ i, (m.gives n).2.next = some i := by
  cases hx : (m.gives n).2.next with
  | some i => exact ⟨i, rfl⟩
  | none =>
    have := (gave m n (by omega)).count
    have := next_none.1 hx
    omega
theorem gives_full (m : Mp) : (m.gives m.count).2.count = 0 := by
  have := (gave m m.count (Nat.le_refl _)).count
  omega
end
section
open Go.RowKit

/-- A step that turns blocks of O alone; the blocks that it leaves are of O or new. -/
structure Step (w w' : World) (O O' : Nat → Prop) : Prop where
  chg : Chg w w' O
  new : ∀ k, O' k → O k ∨ w.heap.size ≤ k
/-- Cells that are read, in no block of O. -/
structure RdA (w : World) (O : Nat → Prop) (A : Option Addr) (xs : List Value) : Prop where
  rd : Rd w w.heap.size A xs
  apart : ∀ b off, A = some ⟨b, off, none⟩ → 0 < xs.length → ¬ O b
section
variable {w w' : World} {O O' : Nat → Prop} {A : Option Addr} {xs : List Value}
theorem RdA.step (h : RdA w O A xs) (s : Step w w' O O') : RdA w' O' A xs := by
  refine ⟨fun hn => ?_, fun b off e hn => ?_⟩
  · obtain ⟨b, off, e, hl, hc⟩ := h.rd hn
    exact ⟨b, off, e, Nat.lt_of_lt_of_le hl s.chg.size, fun j v hv => (s.chg.cell hl (h.apart b off e hn) (off + j)).trans (hc j v hv)⟩
  · intro ho
    obtain ⟨b', off', e', hl, _⟩ := h.rd hn
    rw [e] at e'
    simp only [Option.some.injEq, Addr.mk.injEq, and_true] at e'
    obtain ⟨rfl, rfl⟩ := e'
    rcases s.new b ho with h1 | h1
    · exact h.apart b off e hn h1
    · omega
theorem RdA.far (h : RdA w O A xs) (hb : Below w.heap.size w w') : RdA w' O A xs := ⟨(h.rd.below hb).mono hb.size, h.apart⟩
theorem Rd.apart (h : Rd w w.heap.size A xs) (hO : ∀ k, O k → w.heap.size ≤ k) : RdA w O A xs := by
  refine ⟨h, fun b off e hn ho => ?_⟩
  obtain ⟨b', off', e', hl, _⟩ := h hn
  rw [e] at e'
  simp only [Option.some.injEq, Addr.mk.injEq, and_true] at e'
  obtain ⟨rfl, rfl⟩ := e'
  have := hO b ho
  omega
end
/-- Cells that a call has laid: new ones. -/
structure RdF (w w' : World) (O : Nat → Prop) (A : Option Addr) (xs : List Value) : Prop extends RdA w' O A xs where
  fresh : ∀ b off, A = some ⟨b, off, none⟩ → 0 < xs.length → w.heap.size ≤ b
theorem RdF.beside {w w' w'' : World} {O O2 O2' : Nat → Prop} {A : Option Addr} {xs : List Value} (h : RdF w w' O A xs) (hO : ∀ k, O2 k → k < w.heap.size) (s : Step w' w'' O2 O2') : Rd w'' w''.heap.size A xs :=
  ((⟨h.rd, fun b off e hn ho => by have := h.fresh b off e hn; have := hO b ho; omega⟩ : RdA w' O2 A xs).step s).rd
def turnC (m : Mp) (i : Int) (was now : Nat) : Int := match m.turn i was now with
  | none => 72
  | some _ => 0
def turnM (m : Mp) (i : Int) (was now : Nat) : Mp := match m.turn i was now with
  | none => m
  | some m' => m'
def nextN (m : Mp) : Nat := match m.next with
  | none => 0
  | some i => i
def nextC (m : Mp) : Int := match m.next with
  | none => 71
  | some _ => 0
def nextM (m : Mp) : Mp := match m.next with
  | none => m
  | some i => m.put i 1
def natI (l : List Nat) : List Int := l.map fun n : Nat => (n : Int)
def manyL (m : Mp) (n : Int) : List Nat := match m.many n with
  | none => []
  | some r => r.1
def manyC (m : Mp) (n : Int) : Int := match m.many n with
  | none => 71
  | some _ => 0
def manyM (m : Mp) (n : Int) : Mp := match m.many n with
  | none => m
  | some r => r.2
section
variable {At : World → (Nat → Prop) → Nat → Mp → Prop}
variable {w0 w w' : World} {O O' : Nat → Prop} {g : Nat} {m m' : Mp}
end
end
section
open Go.RowKit

/-- An array of 1024 small numbers. -/
def narr (f : Nat → Nat) : Array Value := (Array.range 1024).map fun n : Nat => .int .u8 ((f n : Nat) : Int)
theorem narr_size (f : Nat → Nat) : (narr f).size = 1024 := by simp [narr]
theorem narr_at (f : Nat → Nat) (k : Nat) (hk : k < 1024) : (narr f)[k]? = some (.int .u8 ((f k : Nat) : Int)) := by simp [narr, hk]
theorem narr_congr {f g : Nat → Nat} (h : ∀ n, n < 1024 → f n = g n) : narr f = narr g := by
  unfold narr
  refine Array.map_congr_left fun n hn => ?_
  rw [Array.mem_range] at hn
  rw [h n hn]
theorem narr_set {f g : Nat → Nat} {b : Nat} (k : Nat) (hk : k < 1024) (h1 : g k = b) (h : ∀ n, n < 1024 → n ≠ k → f n = g n) : (narr f).setIfInBounds k (.int .u8 (b : Int)) = narr g := by
  refine Array.ext_getElem? fun i => ?_
  rw [Array.getElem?_setIfInBounds]
  rcases Nat.lt_or_ge i 1024 with hi | hi
  · rw [narr_at g i hi, narr_at f i hi]
    split
    · rename_i e; subst e; rw [h1]; simp [narr_size, hk]
    · rename_i e; rw [h i hi (by omega)]
  · rw [if_neg (by omega)]
    simp [narr, hi]
theorem narr_one (f : Nat → Nat) : (narr f).all (·.oneCell') = true := by
  rw [Array.all_eq_true_iff_forall_mem]
  intro v hv
  simp only [narr, Array.mem_map] at hv
  obtain ⟨n, _, rfl⟩ := hv
  rfl
def zerosN : Array Value := Array.replicate 1024 (.int .u8 0)
theorem zerosN_eq : zerosN = narr fun _ => 0 := by
  refine Array.ext ?_ fun i h2 h3 => ?_
  · simp [zerosN, narr]
  · simp [zerosN, narr]
theorem buildMap : ∀ w, (Instr.build 89 #[]).run Try.prog w = .ok (.agg zerosN) w := by
  intro w
  exact run_build w _ _ _ (by kernel_rfl)
theorem zeroMap : ∀ w, Sem.run Try.prog (zeroValue 89) w = .ok (.agg zerosN) w := by
  intro w
  have h : (Try.prog.info? 89).map (fun i => i.zero) = some (some (.agg zerosN)) := by kernel_rfl
  obtain ⟨i, hi, hz⟩ := Option.map_eq_some_iff.1 h
  simp [zeroValue, typeInfo, hi, hz]
theorem sizeMap : (Try.prog.info? 89).map (·.size) = some 1024 := by kernel_rfl
theorem sizeMap' (f : Nat → Nat) : (Try.prog.info? 89).map (·.size) = some (narr f).size := by rw [narr_size]; exact sizeMap
theorem sizeIs : (Try.prog.info? 87).map (·.size) = some 1024 := by kernel_rfl
theorem sizeIs' (f : Nat → Nat) : (Try.prog.info? 87).map (·.size) = some (narr f).size := by rw [narr_size]; exact sizeIs

/-- The program's number of what a sector is. -/
def ncodeF (m : Mp) (i : Nat) : Nat := if 4 ≤ i ∧ i < m.tot then m.st i + 1 else 0
theorem codeF_is {m : Mp} {i s : Nat} : ncodeF m i = s + 1 ↔ m.is s i = true := by
  rw [Mp.is_iff]
  unfold ncodeF
  by_cases h : 4 ≤ i ∧ i < m.tot
  · rw [if_pos h]
    constructor
    · intro e; exact ⟨h.1, h.2, by omega⟩
    · intro e; omega
  · rw [if_neg h]
    constructor
    · intro e; omega
    · intro e; exact absurd ⟨e.1, e.2.1⟩ h
theorem codeF_le {m : Mp} (h2 : ∀ i, m.st i ≤ 2) (i : Nat) : ncodeF m i ≤ 3 := by
  have := h2 i
  unfold ncodeF
  split <;> omega
theorem codeF_put {m : Mp} {i s j : Nat} (hi : 4 ≤ i ∧ i < m.tot) : ncodeF (m.put i s) j = if j = i then s + 1 else ncodeF m j := by
  by_cases hj : j = i
  · subst hj
    rw [if_pos rfl]
    unfold ncodeF Mp.put
    simp only [if_true]
    rw [if_pos hi]
  · rw [if_neg hj]
    unfold ncodeF Mp.put
    simp only [if_neg hj]
theorem codeF_commit {m : Mp} {j : Nat} : ncodeF m.commit j = if ncodeF m j = 3 then 1 else ncodeF m j := by
  unfold ncodeF Mp.commit
  by_cases h : 4 ≤ j ∧ j < m.tot
  · simp only [if_pos h]
    by_cases h2 : m.st j = 2
    · simp [h2]
    · rw [if_neg h2, if_neg (by omega)]
  · simp only [if_neg h]
    rw [if_neg (by omega)]
/-- The block g of w is a map that is m. -/
structure MapAt (w : World) (O : Nat → Prop) (g : Nat) (m : Mp) : Prop where
  blk : Blk w g 89 (narr (ncodeF m))
  own : ∀ k, O k ↔ k = g
  tot : m.tot ≤ 1024
  two : ∀ i, m.st i ≤ 2
section
variable {w w' : World} {O O2 : Nat → Prop} {g : Nat} {m : Mp}
theorem MapAt.foot (h : MapAt w O g m) (k : Nat) (hk : O k) : k < w.heap.size := by
  rw [(h.own k).1 hk]
  exact h.blk.lt
theorem MapAt.stay (h : MapAt w O g m) (c : Chg w w' O2) (hO : ∀ k, O k → ¬ O2 k) : MapAt w' O g m := ⟨h.blk.chg c (hO g ((h.own g).2 rfl)), h.own, h.tot, h.two⟩
theorem MapAt.far (h : MapAt w O g m) (hb : Below w.heap.size w w') : MapAt w' O g m := ⟨h.blk.below hb h.blk.lt, h.own, h.tot, h.two⟩
/-- Nothing that was there has turned. -/
theorem MapAt.quiet (h : MapAt w O g m) (hb : Below w.heap.size w w') : MapAt w' O g m ∧ Step w w' O O := ⟨h.far hb, Chg.of_below hb, fun _ hk => .inl hk⟩
theorem step_refl (w : World) (O : Nat → Prop) : Step w w O O := ⟨Chg.refl w O, fun _ hk => .inl hk⟩
end
end
section
open Go.RowKit

def newK (k j : Nat) : Nat := if 4 ≤ j ∧ j < k then 1 else 0
theorem newK_code (x : Int) (k : Nat) (h2 : (k : Int) ≤ max 4 (min x 1024)) (h3 : min x 1024 ≤ k) : narr (newK k) = narr (ncodeF (newMp x)) :=
  narr_congr fun j hj => by
    have ht : (newMp x).tot = (min (max x 0) 1024).toNat := rfl
    have hs : (newMp x).st j = 0 := rfl
    unfold newK ncodeF
    rw [ht, hs]
    by_cases h : 4 ≤ j ∧ j < k
    · rw [if_pos h, if_pos (by omega)]
    · rw [if_neg h, if_neg (by omega)]
set_option maxHeartbeats 1000000 in
theorem mnew_any (x : Int) (w : World) (hx : I64 x) : Calls Try.prog 24 #[.int .i64 x] w fun e w' => ∃ O g, e = .returned (.pointer (some ⟨g, 0, none⟩)) ∧ MapAt w' O g (newMp x) ∧ (∀ k, O k → w.heap.size ≤ k) ∧ Below w.heap.size w w' := by
  have hz := zeroMap
  obtain ⟨hx1, hx2⟩ := hx
  go_enter Try.func24, Try.ntmps24
  go_wp2_with fail

  clear hz
  go_loopw [4] (fun i wr => ∃ (k : Nat), 4 ≤ k ∧ (k : Int) ≤ max 4 (min x 1024) ∧ i = .int .i64 k ∧ Blk wr w.heap.size 89 (narr (newK k)) ∧ Below w.heap.size w wr) (fun i _ => (1024 - intOf i).toNat)
  case atStart => exact ⟨4, by omega, by omega, rfl, by rw [show narr (newK 4) = zerosN from (narr_congr fun n _ => by unfold newK; rw [if_neg (by omega)]).trans zerosN_eq.symm]; exact Blk.new w _ _, (Below.refl _ _).alloc (Nat.le_refl _) _⟩
  case round =>
    obtain ⟨k, hk4, hk, rfl, hbl, hb⟩ := hrel
    have hsz := hbl.lt
    by_cases hlt : (k : Int) < min x 1024
    · have h1 : (k : Int) < x := by omega
      have h2 : (k : Int) < 1024 := by omega
      have hcell : wr.cell? ⟨w.heap.size, k, none⟩ = some (.int .u8 ((newK k k : Nat) : Int)) := (hbl.cell k).trans (narr_at _ k (by omega))
      rw [show newK k k = 0 from by unfold newK; rw [if_neg (by omega)]] at hcell
      have hfz := hbl.frozen k
      have HS := Lib.hid (narr_set (f := newK k) (g := newK (k + 1)) (b := 1) k (by omega) (by unfold newK; rw [if_pos (by omega)]) (fun n _ hn => by
        unfold newK
        by_cases h : 4 ≤ n ∧ n < k
        · rw [if_pos h, if_pos (by omega)]
        · rw [if_neg h, if_neg (by omega)]))
      have HK := Lib.hid (And.intro hk4 hk)
      clear hk hk4
      go_wp2_with fail
      go_roundw
      case rel => exact ⟨k + 1, by have := HK.out; omega, by have := HK.out; omega, by go_num, by rw [← HS.out]; exact hbl.set_ k _, hb.setCell (Nat.le_refl _) _⟩
      case measure => simp [intOf]; omega
    · have HE := Lib.hid (newK_code x k hk (by omega))
      rcases Int.lt_or_le 1024 x with h1 | h1
      all_goals
        have h2 : ¬ (k : Int) < min x 1024 := hlt
        have h3 : min x 1024 ≤ (k : Int) := by omega
        go_wp2_with fail
        go_ret
        exact ⟨fun j => j = w.heap.size, _, rfl, ⟨by rw [← HE.out]; exact hbl, fun _ => Iff.rfl, newMp_tot x, fun _ => Nat.zero_le _⟩, fun j hj => by rw [hj]; exact Nat.le_refl _, hb⟩
end
section
open Go.RowKit

/-- Cells of states. -/
structure Cel (w : World) (g lo n : Nat) (f : Nat → Nat) : Prop where
  lt : g < w.heap.size
  at_ : ∀ j, j < n → w.cell? ⟨g, lo + j, none⟩ = some (.int .u8 ((f (lo + j) : Nat) : Int))
theorem cntR_at {p : Nat → Bool} {lo k : Nat} : cntR p lo (k + 1) = cntR p lo k + if p (lo + k) = true then 1 else 0 := rfl
def isN (f : Nat → Nat) (s i : Nat) : Bool := f i == s
set_option maxHeartbeats 1000000 in
theorem room0_any (g lo n c : Nat) (f : Nat → Nat) (w : World) (hs : Cel w g lo n f) (hn : n ≤ 1024) :
    Calls Try.prog 41 #[.slice (some ⟨g, lo, none⟩) n c] w fun e w' => e = .returned (.int .i64 (cntR (isN f 1) lo n : Int)) ∧ Below w.heap.size w w' := by
  go_enter Try.func41, Try.ntmps41
  go_wp2_with fail
  go_loopw [3, 8] (fun s i wr => ∃ (k : Nat), k ≤ n ∧ i = .int .i64 k ∧ s = .int .i64 (cntR (isN f 1) lo k : Int) ∧ Below w.heap.size w wr) (fun _ i _ => n - (intOf i).toNat)
  case atStart => exact ⟨0, by omega, rfl, rfl, Below.refl _ _⟩
  case round =>
    obtain ⟨k, hk, rfl, rfl, hb⟩ := hrel
    obtain ⟨hc, hf⟩ := bcell hb
    by_cases hlt : k < n
    · have hcell := (hc g (lo + k) hs.lt).trans (hs.at_ k hlt)
      have hle := cntR_le (isN f 1) lo k
      have hst : cntR (isN f 1) lo (k + 1) = cntR (isN f 1) lo k + if (f (lo + k) == 1) = true then 1 else 0 := rfl
      generalize f (lo + k) = x at hcell hst
      generalize cntR (isN f 1) lo k = q at *
      have HK := Lib.hid (And.intro hk hle); clear hk hle
      have hq : (q : Int) ≤ 1024 := by have := HK.out; omega
      by_cases hx : x = 1
      · subst hx
        rw [if_pos (by rfl)] at hst
        have HS := Lib.hid hst; clear hst
        go_wp2_with fail
        go_roundw
        case rel => exact ⟨k + 1, hlt, by go_num, by rw [HS.out]; go_num, hb⟩
        case measure => simp [intOf]; omega
      · rw [if_neg (by simpa using hx)] at hst
        have HS := Lib.hid hst; clear hst
        have hx' : ((x : Int) == 1) = false := by rw [beq_eq_false_iff_ne]; omega
        clear hx
        go_wp2_with fail
        go_roundw
        case rel => exact ⟨k + 1, hlt, by go_num, by rw [HS.out, Nat.add_zero], hb⟩
        case measure => simp [intOf]; omega
    · obtain rfl : k = n := by omega
      go_wp2_with fail
      go_ret
      exact ⟨rfl, hb⟩
theorem addr_flat (b off j : Nat) : (⟨b, off, none⟩ : Addr).add j = ⟨b, off + j, none⟩ := by unfold Addr.add; split <;> simp_all
theorem sizeSt : (Try.prog.info? 86).map (·.size) = some 1 := by kernel_rfl
theorem run_sizeSt (w : World) : (sizeOf (Try.prog.elem 87)).run Try.prog w = .ok 1 w := by
  obtain ⟨i, hi, hz⟩ := Option.map_eq_some_iff.1 sizeSt
  have he : Try.prog.elem 87 = 86 := by simp [Program.elem, Try.underlying87]
  rw [he]
  simp [sizeOf, typeInfo, hi, hz]
theorem arrLenSt : Try.prog.arrayLen 87 = 1024 := by simp [Program.arrayLen, Try.underlying87]
theorem run_cut (g k : Nat) (hk : k < 16) (w : World) :
    (Instr.sliceAt 87 (.pointer (some ⟨g, 0, none⟩)) (some (.int .i64 ((k : Int) * 64))) (some (.int .i64 ((k : Int) * 64 + 64))) none).run Try.prog w = .ok (.slice (some ⟨g, 64 * k, none⟩) 64 (1024 - 64 * k)) w := by
  rw [run_sliceAt_array_lh w _ ⟨g, 0, none⟩ (by simp [Program.arrayLen, Program.elem, Try.underlying87]) .i64 .i64 ((k : Int) * 64) ((k : Int) * 64 + 64) (by omega) (by omega) (by rw [arrLenSt]; omega), run_sizeSt]
  have e1 : ((k : Int) * 64).toNat = 64 * k := by omega
  have e2 : ((k : Int) * 64 + 64).toNat = 64 * k + 64 := by omega
  simp only [Result.andThen_ok, slicedAt, arrLenSt, e1, e2, Nat.mul_one]
  rw [if_neg (by omega), show 64 * k + 64 - 64 * k = 64 by omega, addr_flat, Nat.zero_add]
theorem run_whole (g : Nat) (w : World) :
    (Instr.sliceAt 87 (.pointer (some ⟨g, 0, none⟩)) none none none).run Try.prog w = .ok (.slice (some ⟨g, 0, none⟩) 1024 1024) w := by
  rw [run_sliceAt_array_all w _ ⟨g, 0, none⟩ (by simp [Program.arrayLen, Program.elem, Try.underlying87]), run_sizeSt]
  simp only [Result.andThen_ok, slicedAt, arrLenSt, Nat.zero_mul]
  rw [if_neg (by omega), addr_flat, Nat.zero_add]
/-- The slice that a slab is. -/
theorem slab0_any (g : Nat) (k : Nat) (hk : k < 16) (w : World) (hc0 : ∃ v, w.cell? ⟨g, 0, none⟩ = some v) :
    Calls Try.prog 44 #[.pointer (some ⟨g, 0, none⟩), .int .i64 (k : Int)] w fun e w' => e = .returned (.slice (some ⟨g, 64 * k, none⟩) 64 (1024 - 64 * k)) ∧ Below w.heap.size w w' := by
  have hs := run_cut g k hk
  have hk' : (k : Int) < 16 := by omega
  obtain ⟨v, hc0⟩ := hc0
  clear hk
  go_enter Try.func44, Try.ntmps44
  go_wp2_with fail
  go_ret
  exact ⟨rfl, Below.refl _ _⟩
theorem MapAt.cel {w : World} {O : Nat → Prop} {g : Nat} {m : Mp} (h : MapAt w O g m) (lo n : Nat) (hn : lo + n ≤ 1024) : Cel w g lo n (ncodeF m) := ⟨h.blk.lt, fun j hj => (h.blk.cell _).trans (narr_at _ _ (by omega))⟩
theorem isN_code {m : Mp} {s : Nat} : ∀ i, isN (ncodeF m) (s + 1) i = m.is s i := fun i => by
  unfold isN
  cases h : m.is s i with
  | true => rw [codeF_is.2 h]; simp
  | false =>
    rw [beq_eq_false_iff_ne]
    intro e
    rw [codeF_is.1 e] at h
    cases h
theorem cnt_code (m : Mp) (lo n : Nat) : cntR (isN (ncodeF m) 1) lo n = cntR (m.is 0) lo n := cntR_congr fun i _ _ => isN_code (s := 0) i
section
variable {w : World} {O : Nat → Prop} {g : Nat} {m : Mp}
theorem mcount_any (h : MapAt w O g m) : Calls Try.prog 27 #[.pointer (some ⟨g, 0, none⟩)] w fun e w' => e = .returned (.int .i64 (m.count : Int)) ∧ Below w.heap.size w w' := by
  have hs := run_whole g
  have hlt := h.blk.lt
  have hc0 := (h.blk.cell 0).trans (narr_at _ 0 (by omega))
  have HC := Lib.hid (room0_any g 0 1024 1024 (ncodeF m) w (h.cel 0 1024 (by omega)) (by omega))
  rw [cnt_code] at HC
  go_enter Try.func27, Try.ntmps27
  go_wp2_with fail
  refine Calls.mono HC.out ?_
  rintro e w1 ⟨rfl, hb⟩
  go_wp2_with fail
  go_ret
  exact ⟨rfl, hb⟩
theorem mroom_any (k : Int) (hk : I64 k) (h : MapAt w O g m) : Calls Try.prog 53 #[.pointer (some ⟨g, 0, none⟩), .int .i64 k] w fun e w' => e = .returned (.int .i64 (m.roomI k : Int)) ∧ Below w.heap.size w w' := by
  have hlt := h.blk.lt
  obtain ⟨hk1, hk2⟩ := hk
  by_cases hr : 0 ≤ k ∧ k < 16
  · obtain ⟨n, rfl⟩ := Int.eq_ofNat_of_zero_le hr.1
    have hn : n < 16 := by omega
    have HS := Lib.hid (slab0_any g n hn w ⟨_, (h.blk.cell 0).trans (narr_at _ 0 (by omega))⟩)
    have hm : m.roomI (n : Int) = cntR (isN (ncodeF m) 1) (64 * n) 64 := by
      unfold Mp.roomI
      rw [if_pos hr, cnt_code]
      rfl
    have HM := Lib.hid hm
    have h0 : (0 : Int) ≤ n := hr.1
    have h1 : (n : Int) < 16 := hr.2
    clear hr hm
    go_enter Try.func53, Try.ntmps53
    go_wp2_with fail
    refine Calls.mono HS.out ?_
    rintro e w1 ⟨rfl, hb⟩
    have HC := Lib.hid (room0_any g (64 * n) 64 (1024 - 64 * n) (ncodeF m) w1 ((h.far hb).cel (64 * n) 64 (by omega)) (by omega))
    go_wp2_with fail
    refine Calls.mono HC.out ?_
    rintro e w2 ⟨rfl, hb2⟩
    go_wp2_with fail
    go_ret
    exact ⟨ret_int (by rw [HM.out]), hb.trans (hb2.mono hb.size)⟩
  · have hm : m.roomI k = 0 := by unfold Mp.roomI; rw [if_neg hr]
    rw [hm]
    rcases (by omega : k < 0 ∨ 16 ≤ k) with h1 | h1
    · go_enter Try.func53, Try.ntmps53
      go_wp2_with fail
      go_ret
      exact ⟨rfl, Below.refl _ _⟩
    · have h0 : ¬ k < 0 := by omega
      go_enter Try.func53, Try.ntmps53
      go_wp2_with fail
      go_ret
      exact ⟨rfl, Below.refl _ _⟩
end
end
section
open Go.RowKit

section
variable {w : World} {O : Nat → Prop} {g : Nat} {m : Mp}
theorem turn_no {m : Mp} {i : Int} {was now : Nat} (h : ¬ (0 ≤ i ∧ m.is was i.toNat = true)) : turnC m i was now = 72 ∧ turnM m i was now = m := by
  unfold turnC turnM Mp.turn
  rw [if_neg h]
  exact ⟨rfl, rfl⟩
theorem turn_yes {m : Mp} {i was now : Nat} (h : m.is was i = true) : turnC m i was now = 0 ∧ turnM m i was now = m.put i now := by
  unfold turnC turnM Mp.turn
  rw [if_pos ⟨by omega, h⟩]
  exact ⟨rfl, rfl⟩
theorem MapAt.put {w' : World} (h : MapAt w O g m) {i s t : Nat} (hi : m.is s i = true) (ht : t ≤ 2) (hw : w' = w.setCell ⟨g, i, none⟩ (.int .u8 ((t + 1 : Nat) : Int))) : MapAt w' O g (m.put i t) ∧ Step w w' O O := by
  obtain ⟨h4, hl, _⟩ := Mp.is_iff.1 hi
  have h10 := h.tot
  subst hw
  refine ⟨⟨?_, h.own, h.tot, fun j => ?_⟩, (Chg.refl w O).setCell (.inl ((h.own g).2 rfl)) _, fun _ hk => .inl hk⟩
  · rw [← narr_set (f := ncodeF m) (g := ncodeF (m.put i t)) (b := t + 1) i (by omega) (by rw [codeF_put ⟨h4, hl⟩, if_pos rfl]) fun n _ hn => by rw [codeF_put ⟨h4, hl⟩, if_neg hn]]
    exact h.blk.set_ i _
  · show (if j = i then t else m.st j) ≤ 2
    split
    · exact ht
    · exact h.two j
def comK (m : Mp) (k j : Nat) : Nat := if j < k then ncodeF m.commit j else ncodeF m j
theorem comK_self (m : Mp) (k : Nat) : comK m k k = ncodeF m k := by unfold comK; rw [if_neg (by omega)]
theorem comK_ne {m : Mp} {k j : Nat} (hj : j ≠ k) : comK m k j = comK m (k + 1) j := by
  unfold comK
  by_cases h : j < k
  · rw [if_pos h, if_pos (by omega)]
  · rw [if_neg h, if_neg (by omega)]
theorem comK_next (m : Mp) (k : Nat) : comK m (k + 1) k = if ncodeF m k = 3 then 1 else ncodeF m k := by
  unfold comK
  rw [if_pos (by omega), codeF_commit]
end
end
section
open Go.RowKit

/-- A whole map is loaded, stored; its array is loaded. -/
theorem ld_map {ops : Array Oper} {rest : List Oper} {o : Oper} {a : Act} {w : World} {Q : Exit → Act → World → Prop} (hgd : o.guard = none) (x : Operand) (ho : o.op = .load 89 x)
    (g : Nat) (f : Nat → Nat) (hx : a.eval x = .pointer (some ⟨g, 0, none⟩)) (hg : Blk w g 89 (narr f))
    (h : wpList Try.prog ops Q rest (a.put o.dst (.agg (narr f))) w) : wpList Try.prog ops Q (o :: rest) a w :=
  wpList_load_row hgd _ x ho g hx 89 (narr f) (0, 0) _ hg Try.underlying89 rfl (sizeMap' f) h
theorem ld_is {ops : Array Oper} {rest : List Oper} {o : Oper} {a : Act} {w : World} {Q : Exit → Act → World → Prop} (hgd : o.guard = none) (x : Operand) (ho : o.op = .load 87 x)
    (g : Nat) (f : Nat → Nat) (hx : a.eval x = .pointer (some ⟨g, 0, none⟩)) (hg : Blk w g 89 (narr f))
    (h : wpList Try.prog ops Q rest (a.put o.dst (.agg (narr f))) w) : wpList Try.prog ops Q (o :: rest) a w :=
  wpList_load_row hgd _ x ho g hx 89 (narr f) (0, 0) _ hg Try.underlying87 rfl (sizeIs' f) h
theorem st_map {ops : Array Oper} {rest : List Oper} {o : Oper} {a : Act} {w : World} {Q : Exit → Act → World → Prop} (hgd : o.guard = none) (x y : Operand) (ho : o.op = .store 89 x y)
    (g : Nat) (f f' : Nat → Nat) (hx : a.eval x = .pointer (some ⟨g, 0, none⟩)) (hy : a.eval y = .agg (narr f')) (hg : Blk w g 89 (narr f))
    (h : ∀ w', Blk w' g 89 (narr f') → w'.heap.size = w.heap.size → (∀ B, B ≤ g → Below B w w') → wpList Try.prog ops Q rest (a.put o.dst undef) w') : wpList Try.prog ops Q (o :: rest) a w :=
  wpList_store_row hgd _ x y ho g (narr f') hx hy 89 (narr f) hg (sizeMap' f') (by rw [narr_size, narr_size]) (narr_one f')
    (h _ (by unfold Blk at hg ⊢; simp [World.setRow, Array.getElem?_modify, hg]) (by simp) fun B hB => ⟨rfl, rfl, rfl, by simp, fun k hk => by
      simp only [World.setRow, Array.getElem?_modify]
      rw [if_neg (by omega)]⟩)
theorem run_index_arr {P : Program} {T E : TypeId} {n : Nat} (hT : P.underlying T = some (.array n E)) (hE : ∀ w, (isAgg E).run P w = .ok false w) (hs : (P.info? E).map (·.size) = some 1)
    (cs : Array Value) (k : Nat) (hk : k < n) (v : Value) (hv : cs[k]? = some v) (w : World) : (Instr.index T (.agg cs) (.int .i64 (k : Int))).run P w = .ok v w := by
  obtain ⟨i, hi, hz⟩ := Option.map_eq_some_iff.1 hs
  simp [Instr.index, asIntOf, run_underlying hT, hE, part, sizeOf, typeInfo, hi, hz, hk, hv, go_sem]
theorem isAggSt (w : World) : (isAgg 86).run Try.prog w = .ok false w := by
  simp [isAgg, run_underlying Try.underlying86]
theorem run_idx (f : Nat → Nat) (k : Nat) (hk : k < 1024) (w : World) : (Instr.index 87 (.agg (narr f)) (.int .i64 (k : Int))).run Try.prog w = .ok (.int .u8 ((f k : Nat) : Int)) w :=
  run_index_arr Try.underlying87 isAggSt sizeSt (narr f) k hk _ (narr_at f k hk) w
theorem zeroMap' : ∀ w, Sem.run Try.prog (zeroValue 89) w = .ok (.agg (narr fun _ => 0)) w := by rw [← zerosN_eq]; exact zeroMap
section
variable {w : World} {O : Nat → Prop} {g : Nat} {m : Mp}
set_option maxHeartbeats 1000000 in
theorem set0_any (s : Nat) (h : MapAt w O g m) : Calls Try.prog 57 #[.pointer (some ⟨g, 0, none⟩), .int .u8 ((s + 1 : Nat) : Int)] w fun e w' => ∃ A c, e = .returned (.slice A (canon (stS m s)).length c) ∧ RdF w w' O A (spc (canon (stS m s))) ∧ Below w.heap.size w w' := by
  have HH := Lib.hid h
  have hlt := h.blk.lt
  clear h
  obtain ⟨S, hS⟩ : ∃ S, S = stS m s := ⟨_, rfl⟩
  have HSS := Lib.hid hS
  clear hS
  go_enter Try.func57, Try.ntmps57
  go_wp2_with (with_reducible refine ld_is rfl _ rfl g (ncodeF m) rfl HH.out.blk ?_)
  go_loopw [5, 12] (fun v i wr => ∃ (k : Nat), k ≤ 1024 ∧ i = .int .i64 k ∧ OwnI wr w.heap.size v (numsTo S k) ∧ Below w.heap.size w wr) (fun _ i _ => 1024 - (intOf i).toNat)
  case atStart => exact ⟨0, by omega, rfl, World.ownsRow_nil _ _ _ _, Below.refl _ _⟩
  case round =>
    obtain ⟨k, hk, rfl, hown, hb⟩ := hrel
    have hsz := hb.size
    by_cases hlt : k < 1024
    · have hcell := run_idx (ncodeF m) k hlt
      have hlen := numsTo_len S k
      have hst : numsTo S (k + 1) = if S k then numsTo S k ++ [(k : Int)] else numsTo S k := rfl
      have hlt' : (k : Int) < 1024 := by omega
      have HL : Hid ((numsTo S k).length ≤ 1048576) := Nat.le_trans hlen (by omega)
      have HK := Lib.hid (And.intro hk hlt); clear hk hlt hlen
      have HO := Lib.hid hown; clear hown
      have hcd := codeF_is (m := m) (i := k) (s := s)
      rw [← stS_nat, ← HSS.out] at hcd
      generalize ncodeF m k = x at hcell hcd
      by_cases hx : x = s + 1
      · rw [if_pos (hcd.1 hx)] at hst
        have HS := Lib.hid hst
        have HC := Lib.hid hcd
        subst hx
        clear hst hcd
        go_wp2_with (at_builtin; refine app_int rfl 19 21 rfl w.heap.size _ (numsTo S k) rfl HO.out k rfl hsz HL.out ?_; intro v' w' hown' hgr)
        go_roundw
        case rel => exact ⟨k + 1, HK.out.2, by go_num, by rw [HS.out]; exact hown', below_own (hb.alloc hsz _) (World.ownsRow.alloc HO.out _) (Nat.le_refl _) (by simp; omega) hgr⟩
        case measure => simp [intOf]; have := HK.out; omega
      · rw [if_neg (fun e => hx (hcd.2 e))] at hst
        have HS := Lib.hid hst; clear hst hcd
        have hne : ((x : Int) == ((s + 1 : Nat) : Int)) = false := by rw [beq_eq_false_iff_ne]; omega
        clear hx
        go_wp2_with fail
        go_roundw
        case rel => exact ⟨k + 1, HK.out.2, by go_num, by rw [HS.out]; exact HO.out, hb⟩
        case measure => simp [intOf]; have := HK.out; omega
    · obtain rfl : k = 1024 := by omega
      have HO := Lib.hid hown; clear hown
      obtain ⟨A, c, rfl, hr, _⟩ := own_rd HO.out
      have HOf := Lib.hid (of_any A c (numsTo S 1024) wr hr (Nat.le_trans (numsTo_len S 1024) (by omega)))
      go_wp2_with fail
      refine Calls.mono HOf.out ?_
      rintro e w1 ⟨v1, rfl, ho1, hb1⟩
      go_wp2_with fail
      go_ret
      have hcan : canon (inI (numsTo S 1024)) = canon (stS m s) := canon_congr fun n h0 h1 => by
        rw [← HSS.out, Bool.eq_iff_iff]
        unfold inI
        rw [decide_eq_true_iff, mem_numsTo]
        constructor
        · exact fun h => h.2.2
        · intro h
          refine ⟨h0, ?_, h⟩
          rw [HSS.out, stS_iff, Mp.is_iff] at h
          have := HH.out.tot
          omega
      rw [hcan] at ho1
      obtain ⟨A2, c2, rfl, hr2, _⟩ := own_slice ho1
      refine ⟨A2, c2, rfl, ⟨⟨hr2, fun b off e hn ho => ?_⟩, fun b off e hn => ?_⟩, hb.trans (hb1.mono hb.size)⟩
      all_goals
        rw [spc_len] at hn
        obtain ⟨g2, cap2, e2, hN, _⟩ := own_form ho1 (by simp; omega)
        rw [e] at e2
        simp only [Value.slice.injEq, Option.some.injEq, Addr.mk.injEq] at e2
      · have := (HH.out.own b).1 ho
        have := hb.size
        omega
      · have := hb.size
        omega
theorem taken_any (h : MapAt w O g m) : Calls Try.prog 49 #[.pointer (some ⟨g, 0, none⟩)] w fun e w' => ∃ A c, e = .returned (.slice A (canon (stS m 1)).length c) ∧ RdF w w' O A (spc (canon (stS m 1))) ∧ Below w.heap.size w w' := by
  have HT : Hid (Calls Try.prog 57 #[.pointer (some ⟨g, 0, none⟩), .int .u8 2] w fun e w' => ∃ A c, e = .returned (.slice A (canon (stS m 1)).length c) ∧ RdF w w' O A (spc (canon (stS m 1))) ∧ Below w.heap.size w w') := Lib.hid (set0_any 1 h)
  go_enter Try.func49, Try.ntmps49
  go_wp2_with fail
  refine Calls.mono HT.out ?_
  rintro e w1 ⟨A, c, rfl, h1, hb⟩
  go_wp2_with fail
  go_ret
  exact ⟨A, c, rfl, h1, hb⟩
end
end
section
open Go.RowKit

theorem firstR_at {p : Nat → Bool} {lo k : Nat} : firstR p lo (k + 1) = match firstR p lo k with
    | some i => some i
    | none => if p (lo + k) = true then some (lo + k) else none := rfl
theorem firstR_grow {p : Nat → Bool} {lo k i : Nat} (h : firstR p lo k = some i) : ∀ n, k ≤ n → firstR p lo n = some i
  | 0, hn => by
    obtain rfl : k = 0 := by omega
    exact h
  | n + 1, hn => by
    by_cases hk : k = n + 1
    · subst hk; exact h
    · rw [firstR_at, firstR_grow h n (by omega)]
def idxF (o : Option Nat) (lo : Nat) : Int := match o with
  | none => -1
  | some i => (i : Int) - (lo : Int)
set_option maxHeartbeats 1000000 in
theorem index_any (g lo n c : Nat) (f : Nat → Nat) (s : Nat) (w : World) (hs : Cel w g lo n f) (hn : n ≤ 1024) :
    Calls Try.prog 43 #[.slice (some ⟨g, lo, none⟩) n c, .int .u8 (s : Int)] w fun e w' => e = .returned (.int .i64 (idxF (firstR (isN f s) lo n) lo)) ∧ Below w.heap.size w w' := by
  go_enter Try.func43, Try.ntmps43
  go_wp2_with fail
  go_loopw [8] (fun i wr => ∃ (k : Nat), k ≤ n ∧ i = .int .i64 k ∧ firstR (isN f s) lo k = none ∧ Below w.heap.size w wr) (fun i _ => n - (intOf i).toNat)
  case atStart => exact ⟨0, by omega, rfl, rfl, Below.refl _ _⟩
  case round =>
    obtain ⟨k, hk, rfl, hno, hb⟩ := hrel
    obtain ⟨hc, hf⟩ := bcell hb
    by_cases hlt : k < n
    · have hcell := (hc g (lo + k) hs.lt).trans (hs.at_ k hlt)
      have hst : firstR (isN f s) lo (k + 1) = if (f (lo + k) == s) = true then some (lo + k) else none := by rw [firstR_at, hno]; rfl
      have HG := Lib.hid (fun i (h : firstR (isN f s) lo (k + 1) = some i) => firstR_grow h n hlt)
      generalize f (lo + k) = x at hcell hst
      have HK := Lib.hid hk; clear hk hno
      have hk1 : (k : Int) < 1024 := by omega
      by_cases hx : x = s
      · subst hx
        rw [if_pos (by simp)] at hst
        have HS := Lib.hid (HG.out _ hst); clear hst HG
        go_wp2_with fail
        go_ret
        exact ⟨ret_int (by rw [HS.out]; unfold idxF; simp only; omega), hb⟩
      · rw [if_neg (by simpa using hx)] at hst
        have HS := Lib.hid hst; clear hst HG
        have hx' : ((s : Int) == (x : Int)) = false := by rw [beq_eq_false_iff_ne]; omega
        clear hx
        go_wp2_with fail
        go_roundw
        case rel => exact ⟨k + 1, hlt, by go_num, HS.out, hb⟩
        case measure => simp [intOf]; omega
    · obtain rfl : k = n := by omega
      have HN := Lib.hid hno; clear hno
      go_wp2_with fail
      go_ret
      exact ⟨ret_int (by rw [HN.out]; rfl), hb⟩
section
variable {w : World} {O : Nat → Prop} {g : Nat} {m : Mp}
set_option maxHeartbeats 1000000 in
theorem roomiest_any (h : MapAt w O g m) : Calls Try.prog 42 #[.pointer (some ⟨g, 0, none⟩)] w fun e w' => e = .returned (.int .i64 (m.best : Int)) ∧ Below w.heap.size w w' := by
  have HH := Lib.hid h
  clear h
  go_enter Try.func42, Try.ntmps42
  go_wp2_with fail
  go_loopw [3, 5] (fun b i wr => ∃ (k : Nat), k ≤ 16 ∧ i = .int .i64 k ∧ b = .int .i64 (bestR m (k - 1) : Int) ∧ Below w.heap.size w wr) (fun _ i _ => 16 - (intOf i).toNat)
  case atStart => exact ⟨0, by omega, rfl, rfl, Below.refl _ _⟩
  case round =>
    obtain ⟨k, hk, rfl, rfl, hb⟩ := hrel
    by_cases hlt : k < 16
    · have HB : Hid (bestR m (k + 1 - 1) = if m.room (bestR m (k - 1)) < m.room k then k else bestR m (k - 1)) := by
        rcases Nat.eq_zero_or_pos k with rfl | h0
        · refine (if_neg (Nat.lt_irrefl _)).symm
        · obtain ⟨j, rfl⟩ : ∃ j, k = j + 1 := ⟨k - 1, by omega⟩
          rfl
      have hbl := best_le m (k - 1)
      have hR : ∀ j : Nat, j < 16 → m.roomI (j : Int) = m.room j := fun j hj => by unfold Mp.roomI; rw [if_pos (by omega), Int.toNat_natCast]
      generalize bestR m (k - 1) = q at *
      have HA : Hid (∀ w', Below w.heap.size w w' → Calls Try.prog 53 #[.pointer (some ⟨g, 0, none⟩), .int .i64 (k : Int)] w' fun e w2 => e = .returned (.int .i64 (m.room k : Int)) ∧ Below w'.heap.size w' w2) := fun w' hb' => by
        have := mroom_any (k : Int) (by unfold I64; omega) (HH.out.far hb')
        rwa [hR k hlt] at this
      have HC : Hid (∀ w', Below w.heap.size w w' → Calls Try.prog 53 #[.pointer (some ⟨g, 0, none⟩), .int .i64 (q : Int)] w' fun e w2 => e = .returned (.int .i64 (m.room q : Int)) ∧ Below w'.heap.size w' w2) := fun w' hb' => by
        have := mroom_any (q : Int) (by unfold I64; omega) (HH.out.far hb')
        rwa [hR q (by omega)] at this
      clear hR hbl
      have HK := Lib.hid hk
      have hk1 : (k : Int) < 16 := by omega
      clear hk
      go_wp2_with fail
      refine Calls.mono (HA.out _ hb) ?_
      rintro e w1 ⟨rfl, hb1⟩
      have hb2 := hb.trans (hb1.mono hb.size)
      go_wp2_with fail
      refine Calls.mono (HC.out _ hb2) ?_
      rintro e w2 ⟨rfl, hb3⟩
      have hb4 := hb2.trans (hb3.mono hb2.size)
      clear hb hb1 hb2 hb3 HA HC
      by_cases hg : m.room q < m.room k
      · have HE := Lib.hid (HB.out.trans (if_pos hg))
        have hg' : (m.room q : Int) < (m.room k : Int) := by omega
        clear HB hg
        go_wp2_with fail
        go_roundw
        case rel => exact ⟨k + 1, by have := HK.out; omega, by go_num, by rw [HE.out], hb4⟩
        case measure => simp [intOf]; omega
      · have HE := Lib.hid (HB.out.trans (if_neg hg))
        have hg' : ¬ (m.room q : Int) < (m.room k : Int) := by omega
        clear HB hg
        go_wp2_with fail
        go_roundw
        case rel => exact ⟨k + 1, by have := HK.out; omega, by go_num, by rw [HE.out], hb4⟩
        case measure => simp [intOf]; omega
    · obtain rfl : k = 16 := by omega
      go_wp2_with fail
      go_ret
      exact ⟨rfl, hb⟩
theorem first_code (m : Mp) (lo n : Nat) : firstR (isN (ncodeF m) 1) lo n = firstR (m.is 0) lo n := by
  rw [show isN (ncodeF m) 1 = m.is 0 from funext fun i => isN_code (s := 0) i]
set_option maxHeartbeats 1000000 in
theorem malloc_any (h : MapAt w O g m) : Calls Try.prog 28 #[.pointer (some ⟨g, 0, none⟩)] w fun e w' => e = .returned (.tuple #[.int .i64 (nextN m : Int), .int .i64 (nextC m)]) ∧ MapAt w' O g (nextM m) ∧ Step w w' O O := by
  have HR := Lib.hid (roomiest_any h)
  have hbest : m.best < 16 := by have := best_le m 15; have : m.best = bestR m 15 := rfl; omega
  have hnx : m.next = firstR (m.is 0) (64 * m.best) 64 := rfl
  have HSm := Lib.hid (fun (i : Nat) (hi : m.next = some i) => next_some hi)
  have HH := Lib.hid h
  clear h
  have HS := Lib.hid (fun (w' : World) (hb : Below w.heap.size w w') => slab0_any g m.best hbest w' ⟨_, ((HH.out.far hb).blk.cell 0).trans (narr_at _ 0 (by omega))⟩)
  have HI := Lib.hid (fun (w' : World) (hb : Below w.heap.size w w') => index_any g (64 * m.best) 64 (1024 - 64 * m.best) (ncodeF m) 1 w' ((HH.out.far hb).cel (64 * m.best) 64 (by omega)) (by omega))
  rw [first_code, ← hnx] at HI
  have HN := Lib.hid hnx
  clear hnx
  generalize m.best = b at *
  have hb16 : (b : Int) < 16 := by omega
  have hlt := HH.out.blk.lt
  go_enter Try.func28, Try.ntmps28
  go_wp2_with fail
  refine Calls.mono HR.out ?_
  rintro e w1 ⟨rfl, hb1⟩
  go_wp2_with fail
  refine Calls.mono (HS.out _ hb1) ?_
  rintro e w2 ⟨rfl, hb2⟩
  have hb2 := hb1.trans (hb2.mono hb1.size)
  go_wp2_with fail
  refine Calls.mono (HI.out _ hb2) ?_
  rintro e w3 ⟨rfl, hb3⟩
  have hb3 := hb2.trans (hb3.mono hb2.size)
  clear HI HR hb1
  cases hx : m.next with
  | none =>
    have hi : idxF none (64 * b) = -1 := rfl
    rw [hi]
    have HX := Lib.hid hx
    clear hi hx
    go_wp2_with fail
    refine bodyPost_ret (results_tmp2 rfl _ _ _) rfl ?_
    have e1 : nextN m = 0 ∧ nextC m = 71 ∧ nextM m = m := by unfold nextN nextC nextM; rw [HX.out]; exact ⟨rfl, rfl, rfl⟩
    rw [e1.1, e1.2.1, e1.2.2]
    exact ⟨rfl, (HH.out.quiet hb3).1, (HH.out.quiet hb3).2⟩
  | some i =>
    obtain ⟨hz, h10, hd, _⟩ := HSm.out i hx
    obtain ⟨j, rfl⟩ : ∃ j, i = 64 * b + j := ⟨i - 64 * b, by omega⟩
    have hi : idxF (some (64 * b + j)) (64 * b) = (j : Int) := by unfold idxF; simp only; omega
    rw [hi]
    have HX := Lib.hid hx
    have HZ := Lib.hid hz
    have hj : (j : Int) < 64 := by omega
    have H3 := Lib.hid (HH.out.far hb3)
    have hcell := (H3.out.blk.cell (64 * b + j)).trans (narr_at (ncodeF m) (64 * b + j) h10)
    have hfz := H3.out.blk.frozen (64 * b + j)
    have HS3 := Lib.hid (HS.out _ hb3)
    clear hi hx hz hd h10 HN HS HSm
    go_wp2_with fail
    refine Calls.mono HS3.out ?_
    rintro e w4 ⟨rfl, hb4⟩
    have H4 := Lib.hid (H3.out.far hb4)
    have hlt4 := H4.out.blk.lt
    have hcell4 := (H4.out.blk.cell (64 * b + j)).trans ((H3.out.blk.cell (64 * b + j)).symm.trans hcell)
    have hfz4 := H4.out.blk.frozen (64 * b + j)
    clear hcell hfz
    go_wp2_with fail
    refine bodyPost_ret (results_tmp2 rfl _ _ _) rfl ?_
    have e1 : nextN m = 64 * b + j ∧ nextC m = 0 ∧ nextM m = m.put (64 * b + j) 1 := by unfold nextN nextC nextM; rw [HX.out]; exact ⟨rfl, rfl, rfl⟩
    rw [e1.1, e1.2.1, e1.2.2]
    obtain ⟨p1, p2⟩ := H4.out.put HZ.out (t := 1) (by omega) rfl
    have hb5 := hb3.trans (hb4.mono hb3.size)
    clear e1
    refine ⟨?_, p1, (Chg.of_below hb5).trans p2.chg fun _ _ => id, fun k hk => .inl hk⟩
    show Ending.returned (.tuple #[.int .i64 ((b : Int) * 64 + (j : Int)), .int .i64 0]) = _
    rw [show ((64 * b + j : Nat) : Int) = (b : Int) * 64 + (j : Int) by omega]
end
end
end Go.Proofs.Ytdcegkeaopjbnaa
