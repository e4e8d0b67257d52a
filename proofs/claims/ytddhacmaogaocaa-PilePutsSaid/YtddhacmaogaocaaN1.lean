import Derived.Test.YtddhacmaogaocaaK
import Derived.Test.YtddhacmaogaocaaP

/- Slabs as plain mathematics: a map of sectors, what is done with it. No function of the program. -/
set_option maxRecDepth 10000
set_option maxRecDepth 10000
namespace Go.Proofs.Ytddhacmaogaocaa

/-! ### How many, which first -/
/-- How many of the n numbers from lo on. -/
def cntR (p : Nat → Bool) (lo : Nat) : Nat → Nat
  | 0 => 0
  | n + 1 => cntR p lo n + if p (lo + n) = true then 1 else 0
theorem cntR_add (p : Nat → Bool) (lo a : Nat) : ∀ b, cntR p lo (a + b) = cntR p lo a + cntR p (lo + a) b
  | 0 => rfl
  | b + 1 => by
    show cntR p lo (a + b) + (if p (lo + (a + b)) = true then 1 else 0) = cntR p lo a + (cntR p (lo + a) b + if p (lo + a + b) = true then 1 else 0)
    rw [cntR_add p lo a b, show lo + (a + b) = lo + a + b by omega]
    omega
theorem cntR_congr {p q : Nat → Bool} {lo : Nat} : ∀ {n : Nat}, (∀ i, lo ≤ i → i < lo + n → p i = q i) → cntR p lo n = cntR q lo n
  | 0, _ => rfl
  | n + 1, h => by
    show cntR p lo n + _ = cntR q lo n + _
    rw [cntR_congr fun i h1 h2 => h i h1 (by omega), h (lo + n) (by omega) (by omega)]
theorem cntR_le (p : Nat → Bool) (lo : Nat) : ∀ n, cntR p lo n ≤ n
  | 0 => Nat.le_refl _
  | n + 1 => by
    have := cntR_le p lo n
    show cntR p lo n + _ ≤ _
    split <;> omega
theorem cntR_zero {p : Nat → Bool} {lo : Nat} : ∀ {n : Nat}, cntR p lo n = 0 ↔ ∀ i, lo ≤ i → i < lo + n → p i = false
  | 0 => ⟨fun _ i h1 h2 => by omega, fun _ => rfl⟩
  | n + 1 => by
    show cntR p lo n + _ = 0 ↔ _
    constructor
    · intro h i h1 h2
      by_cases hi : i = lo + n
      · subst hi
        cases hp : p (lo + n) with
        | false => rfl
        | true => rw [hp] at h; simp at h
      · exact (cntR_zero (p := p) (lo := lo) (n := n)).1 (by omega) i h1 (by omega)
    · intro h
      rw [cntR_zero.2 fun i h1 h2 => h i h1 (by omega), h (lo + n) (by omega) (by omega)]
      rfl
/-- One number less. -/
theorem cntR_flip {p q : Nat → Bool} {lo i : Nat} (hp : p i = true) (hq : q i = false) (he : ∀ j, j ≠ i → p j = q j) : ∀ {n : Nat}, lo ≤ i → i < lo + n → cntR p lo n = cntR q lo n + 1
  | 0, h1, h2 => by omega
  | n + 1, h1, h2 => by
    show cntR p lo n + _ = cntR q lo n + _ + 1
    by_cases hi : i = lo + n
    · subst hi
      rw [hp, hq, cntR_congr (p := p) (q := q) fun j _ _ => he j (by omega)]
      simp
    · rw [cntR_flip hp hq he h1 (by omega), he (lo + n) (by omega)]
      omega
/-- The first of the n numbers from lo on. -/
def firstR (p : Nat → Bool) (lo : Nat) : Nat → Option Nat
  | 0 => none
  | n + 1 => match firstR p lo n with
    | some i => some i
    | none => if p (lo + n) = true then some (lo + n) else none
theorem firstR_some {p : Nat → Bool} {lo : Nat} : ∀ {n i : Nat}, firstR p lo n = some i → lo ≤ i ∧ i < lo + n ∧ p i = true ∧ ∀ j, lo ≤ j → j < i → p j = false
  | 0, _, h => by cases h
  | n + 1, i, h => by
    unfold firstR at h
    cases hf : firstR p lo n with
    | some k =>
      rw [hf] at h
      obtain rfl : k = i := by injection h
      obtain ⟨h1, h2, h3, h4⟩ := firstR_some hf
      exact ⟨h1, by omega, h3, h4⟩
    | none =>
      rw [hf] at h
      simp only at h
      by_cases hp : p (lo + n) = true
      · rw [if_pos hp] at h
        obtain rfl : lo + n = i := by injection h
        exact ⟨by omega, by omega, hp, fun j h1 h2 => firstR_none hf j h1 h2⟩
      · rw [if_neg hp] at h
        cases h
where firstR_none {p : Nat → Bool} {lo : Nat} : ∀ {n : Nat}, firstR p lo n = none → ∀ j, lo ≤ j → j < lo + n → p j = false
  | 0, _, j, h1, h2 => by omega
  | n + 1, h, j, h1, h2 => by
    unfold firstR at h
    cases hf : firstR p lo n with
    | some k => rw [hf] at h; cases h
    | none =>
      rw [hf] at h
      simp only at h
      by_cases hp : p (lo + n) = true
      · rw [if_pos hp] at h; cases h
      · by_cases hj : j = lo + n
        · subst hj; simpa using hp
        · exact firstR_none hf j h1 (by omega)
theorem firstR_none_iff {p : Nat → Bool} {lo n : Nat} : firstR p lo n = none ↔ cntR p lo n = 0 := by
  constructor
  · intro h
    exact cntR_zero.2 (firstR_some.firstR_none h)
  · intro h
    cases hf : firstR p lo n with
    | none => rfl
    | some i =>
      obtain ⟨h1, h2, h3, _⟩ := firstR_some hf
      rw [cntR_zero.1 h i h1 h2] at h3
      cases h3

/-! ### Maps -/
/-- How many sectors; what each of them is: 0 free, 1 taken, 2 later. -/
structure Mp where
  tot : Nat
  st : Nat → Nat
/-- A sector that has a state has this one. -/
def Mp.is (m : Mp) (s : Nat) (i : Nat) : Bool := decide (4 ≤ i) && decide (i < m.tot) && m.st i == s
theorem Mp.is_iff {m : Mp} {s i : Nat} : m.is s i = true ↔ 4 ≤ i ∧ i < m.tot ∧ m.st i = s := by
  simp [Mp.is, and_assoc]
def Mp.put (m : Mp) (i s : Nat) : Mp := ⟨m.tot, fun j => if j = i then s else m.st j⟩
theorem Mp.put_is_ne {m : Mp} {i s s' j : Nat} (h : j ≠ i) : (m.put i s).is s' j = m.is s' j := by
  unfold Mp.is Mp.put
  simp only [if_neg h]
theorem Mp.put_is_self {m : Mp} {i s s' : Nat} : (m.put i s).is s' i = (decide (4 ≤ i) && decide (i < m.tot) && s == s') := by
  unfold Mp.is Mp.put
  simp only [if_true]
def newMp (total : Int) : Mp := ⟨(min (max total 0) 1024).toNat, fun _ => 0⟩
theorem newMp_tot (total : Int) : (newMp total).tot ≤ 1024 := by
  show (min (max total 0) 1024).toNat ≤ 1024
  omega
/-- Take, Free, Later: a sector that was one thing is another; none, where it can't be. -/
def Mp.turn (m : Mp) (i : Int) (was now : Nat) : Option Mp := if 0 ≤ i ∧ m.is was i.toNat = true then some (m.put i.toNat now) else none
def Mp.commit (m : Mp) : Mp := ⟨m.tot, fun j => if m.st j = 2 then 0 else m.st j⟩
/-- How many are free of a slab; of all. -/
def Mp.room (m : Mp) (k : Nat) : Nat := cntR (m.is 0) (64 * k) 64
def Mp.roomI (m : Mp) (k : Int) : Nat := if 0 ≤ k ∧ k < 16 then m.room k.toNat else 0
def Mp.count (m : Mp) : Nat := cntR (m.is 0) 0 1024
def sumR (m : Mp) : Nat → Nat
  | 0 => 0
  | k + 1 => sumR m k + m.room k
theorem sumR_eq (m : Mp) : ∀ k, sumR m k = cntR (m.is 0) 0 (64 * k)
  | 0 => rfl
  | k + 1 => by
    show sumR m k + m.room k = _
    rw [sumR_eq m k, show 64 * (k + 1) = 64 * k + 64 by omega, cntR_add, Nat.zero_add]
    rfl
theorem sum_count (m : Mp) : sumR m 16 = m.count := sumR_eq m 16
theorem count_le (m : Mp) : m.count ≤ 1024 := cntR_le _ _ _
theorem room_le (m : Mp) (k : Nat) : m.room k ≤ 64 := cntR_le _ _ _
/-- The first of the slabs up to k that have the most room. -/
def bestR (m : Mp) : Nat → Nat
  | 0 => 0
  | k + 1 => if m.room (bestR m k) < m.room (k + 1) then k + 1 else bestR m k
theorem best_le (m : Mp) : ∀ k, bestR m k ≤ k
  | 0 => Nat.le_refl _
  | k + 1 => by
    have := best_le m k
    unfold bestR
    split <;> omega
theorem best_most (m : Mp) : ∀ k j, j ≤ k → m.room j ≤ m.room (bestR m k)
  | 0, j, h => by
    obtain rfl : j = 0 := by omega
    exact Nat.le_refl _
  | k + 1, j, h => by
    unfold bestR
    by_cases hc : m.room (bestR m k) < m.room (k + 1)
    · rw [if_pos hc]
      by_cases hj : j = k + 1
      · subst hj; exact Nat.le_refl _
      · have := best_most m k j (by omega); omega
    · rw [if_neg hc]
      by_cases hj : j = k + 1
      · subst hj; omega
      · exact best_most m k j (by omega)
theorem best_first (m : Mp) : ∀ k j, j < bestR m k → m.room j < m.room (bestR m k)
  | 0, j, h => by simp [bestR] at h
  | k + 1, j, h => by
    unfold bestR at h ⊢
    by_cases hc : m.room (bestR m k) < m.room (k + 1)
    · rw [if_pos hc] at h ⊢
      have := best_most m k j (by omega)
      omega
    · rw [if_neg hc] at h ⊢
      exact best_first m k j h
def Mp.best (m : Mp) : Nat := bestR m 15
/-- The sector that Alloc gives. -/
def Mp.next (m : Mp) : Option Nat := firstR (m.is 0) (64 * m.best) 64
theorem next_none {m : Mp} : m.next = none ↔ m.count = 0 := by
  unfold Mp.next
  rw [firstR_none_iff]
  constructor
  · intro h
    rw [← sum_count]
    have hz : ∀ k, k < 16 → m.room k = 0 := fun k hk => by
      have h1 := best_most m 15 k (by omega)
      have h2 : m.room (bestR m 15) = 0 := h
      omega
    simp only [sumR]
    rw [hz 0, hz 1, hz 2, hz 3, hz 4, hz 5, hz 6, hz 7, hz 8, hz 9, hz 10, hz 11, hz 12, hz 13, hz 14, hz 15] <;> omega
  · intro h
    have hb := best_le m 15
    exact cntR_zero.2 fun i h1 h2 => cntR_zero.1 h i (by omega) (by have : m.best = bestR m 15 := rfl; omega)
theorem next_some {m : Mp} {i : Nat} (h : m.next = some i) : m.is 0 i = true ∧ i < 1024 ∧ i / 64 = m.best ∧ (∀ k, k < 16 → m.room k ≤ m.room (i / 64)) ∧ (∀ k, k < i / 64 → m.room k < m.room (i / 64)) ∧ ∀ j, i / 64 * 64 ≤ j → j < i → m.is 0 j = false := by
  obtain ⟨h1, h2, h3, h4⟩ := firstR_some h
  have hb := best_le m 15
  have hbb : m.best = bestR m 15 := rfl
  have hd : i / 64 = m.best := by omega
  rw [hd]
  exact ⟨h3, by omega, rfl, fun k hk => best_most m 15 k (by omega), fun k hk => best_first m 15 k hk, fun j hj1 hj2 => h4 j (by omega) hj2⟩
theorem count_take {m : Mp} {i s : Nat} (h : m.is 0 i = true) (hi : i < 1024) (hs : s ≠ 0) : m.count = (m.put i s).count + 1 :=
  cntR_flip h (by rw [Mp.put_is_self, beq_eq_false_iff_ne.2 hs, Bool.and_false]) (fun _ hj => (Mp.put_is_ne hj).symm) (by omega) (by omega)
theorem count_free {m : Mp} {i s : Nat} (h : m.is s i = true) (hi : i < 1024) (hs : s ≠ 0) : (m.put i 0).count = m.count + 1 := by
  obtain ⟨h1, h2, h3⟩ := Mp.is_iff.1 h
  refine cntR_flip (i := i) ?_ ?_ (fun j hj => Mp.put_is_ne hj) (by omega) (by omega)
  · rw [Mp.put_is_self, decide_eq_true h1, decide_eq_true h2]; rfl
  · unfold Mp.is
    rw [h3, beq_eq_false_iff_ne.2 hs, Bool.and_false]
theorem count_same {m : Mp} {i s t : Nat} (h : m.is s i = true) (hs : s ≠ 0) (ht : t ≠ 0) : (m.put i t).count = m.count := by
  refine cntR_congr fun j _ _ => ?_
  by_cases hj : j = i
  · subst hj
    rw [Mp.put_is_self, beq_eq_false_iff_ne.2 ht, Bool.and_false]
    unfold Mp.is
    rw [(Mp.is_iff.1 h).2.2, beq_eq_false_iff_ne.2 hs, Bool.and_false]
  · exact Mp.put_is_ne hj

/-! ### Many -/
/-- So many Allocs, one after the other. -/
def Mp.gives : Nat → Mp → List Nat × Mp
  | 0, m => ([], m)
  | n + 1, m => match (Mp.gives n m).2.next with
    | none => Mp.gives n m
    | some i => ((Mp.gives n m).1 ++ [i], (Mp.gives n m).2.put i 1)
/-- What n Allocs leave, where there is room for n. -/
structure Gave (m : Mp) (n : Nat) (r : List Nat × Mp) : Prop where
  len : r.1.length = n
  nodup : r.1.Nodup
  was : ∀ i ∈ r.1, m.is 0 i = true ∧ i < 1024
  tot : r.2.tot = m.tot
  st : ∀ i, r.2.st i = if i ∈ r.1 then 1 else m.st i
  count : r.2.count + n = m.count
theorem gave (m : Mp) : ∀ n, n ≤ m.count → Gave m n (m.gives n)
  | 0, _ => ⟨rfl, List.nodup_nil, (fun i hi => (List.not_mem_nil hi).elim), rfl, (fun i => (if_neg List.not_mem_nil).symm), Nat.add_zero _⟩
  | n + 1, hn => by
    have h := gave m n (by omega)
    cases hx : (m.gives n).2.next with
    | none =>
      have := next_none.1 hx
      have := h.count
      omega
    | some i =>
      have he : m.gives (n + 1) = ((m.gives n).1 ++ [i], (m.gives n).2.put i 1) := by
        show (match (Mp.gives n m).2.next with
          | none => Mp.gives n m
          | some i => ((Mp.gives n m).1 ++ [i], (Mp.gives n m).2.put i 1)) = _
        rw [hx]
      obtain ⟨h1, h2, _⟩ := next_some hx
      obtain ⟨g1, g2, g3⟩ := Mp.is_iff.1 h1
      have hni : i ∉ (m.gives n).1 := fun hm => by
        rw [h.st, if_pos hm] at g3
        cases g3
      rw [h.st, if_neg hni] at g3
      rw [h.tot] at g2
      rw [he]
      refine ⟨by simp [h.len], ?_, ?_, h.tot, ?_, ?_⟩
      · rw [List.nodup_append]
        refine ⟨h.nodup, List.nodup_cons.2 ⟨by simp, List.nodup_nil⟩, ?_⟩
        intro a ha b hb
        rw [List.mem_singleton] at hb
        subst hb
        intro e
        subst e
        exact hni ha
      · intro j hj
        rw [List.mem_append, List.mem_singleton] at hj
        rcases hj with hj | rfl
        · exact h.was j hj
        · exact ⟨Mp.is_iff.2 ⟨g1, g2, g3⟩, h2⟩
      · intro j
        show (if j = i then 1 else (m.gives n).2.st j) = _
        rw [h.st]
        by_cases hj : j = i
        · subst hj
          rw [if_pos rfl, if_pos (by simp)]
        · rw [if_neg hj]
          by_cases hm : j ∈ (m.gives n).1
          · rw [if_pos hm, if_pos (by simp [hm])]
          · rw [if_neg hm, if_neg (by simp [hm, hj])]
      · have := count_take h1 h2 (s := 1) (by omega)
        have := h.count
        show ((m.gives n).2.put i 1).count + (n + 1) = _
        omega
/-- Many: none, where there is no room for so many. -/
def Mp.many (m : Mp) (n : Int) : Option (List Nat × Mp) := if (m.count : Int) < n then none else some (m.gives n.toNat)
end Go.Proofs.Ytddhacmaogaocaa
