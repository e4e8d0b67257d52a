/- The laws on piles, walked over the calls' contracts: PileLives. -/
import Derived.Test.YtddhacmaogaocaaO7
set_option maxRecDepth 10000
namespace Go.Proofs.Ytddhacmaogaocaa
open Go.RowKit

/-- The sectors is are taken, just these, none waits: each holds what its pointer tells. -/
structure Olds (is : List Nat) (P : Pw) (qs : List PtrV) : Prop where
  nwl : P.nw.length = 64
  tot : P.m.tot = 64
  st : P.st = 1
  cnt : P.m.count + is.length = 60
  N : P.N = is.length
  nodup : is.Nodup
  taken : ∀ s, P.m.is 1 s = true ↔ s ∈ is
  wait : ∀ s, P.m.is 2 s = false
  len : qs.length = is.length
  each : ∀ j, j < is.length → ∃ S : Nat, S < 4294967296 ∧ qs.getD j hole0 = ((is.getD j 0 : Int), 1, (S : Int))
theorem newP_is {s i : Nat} (hs : s ≠ 0) : (newPw 64).m.is s i = false := by
  show (newMp 64).is s i = false
  unfold Mp.is
  show (decide (4 ≤ i) && decide (i < (newMp 64).tot) && (0 == s)) = false
  rw [beq_eq_false_iff_ne.2 (Ne.symm hs), Bool.and_false]
theorem olds_zero : Olds [] (newPw 64) [] :=
  ⟨new64_len, rfl, rfl, count_new 64, rfl, List.nodup_nil, (fun s => by rw [newP_is (by omega)]; simp), (fun s => newP_is (by omega)), rfl, fun j h => by simp at h⟩
theorem Olds.next {is : List Nat} {P : Pw} {qs : List PtrV} (h : Olds is P qs) (hk : is.length < 60) : ∃ i, P.m.next = some i := by
  cases hx : P.m.next with
  | some i => exact ⟨i, rfl⟩
  | none =>
    have := next_none.1 hx
    have := h.cnt
    omega
theorem Olds.put {is : List Nat} {P : Pw} {qs : List PtrV} (h : Olds is P qs) {i : Nat} (hi : P.m.next = some i) (l : List UInt8) :
    Olds (is ++ [i]) ⟨P.nw.set i (blockS l), P.m.put i 1, P.st, P.ba, P.N + 1⟩ (qs ++ [((i : Int), 1, (sumS (blockS l) : Int))]) := by
  obtain ⟨h0, h1024, _⟩ := next_some hi
  obtain ⟨g4, gt, g0⟩ := Mp.is_iff.1 h0
  have hni : i ∉ is := fun hm => by
    have := (Mp.is_iff.1 ((h.taken i).2 hm)).2.2
    omega
  have := count_take h0 h1024 (s := 1) (by omega)
  have hc := h.cnt
  refine ⟨by show (P.nw.set i _).length = 64; rw [List.length_set, h.nwl], h.tot, h.st, ?_, by show P.N + 1 = _; rw [h.N, List.length_append]; rfl, ?_, fun s => ?_, fun s => ?_, by rw [List.length_append, List.length_append, h.len]; rfl, fun j hj => ?_⟩
  · show (P.m.put i 1).count + (is ++ [i]).length = 60
    rw [List.length_append]
    show (P.m.put i 1).count + (is.length + 1) = 60
    omega
  · rw [List.nodup_append]
    refine ⟨h.nodup, List.nodup_cons.2 ⟨by simp, List.nodup_nil⟩, ?_⟩
    intro a ha b hb
    rw [List.mem_singleton] at hb
    subst hb
    intro e
    subst e
    exact hni ha
  · show (P.m.put i 1).is 1 s = true ↔ _
    by_cases hs : s = i
    · subst hs
      rw [Mp.put_is_self, decide_eq_true g4, decide_eq_true gt]
      simp
    · rw [Mp.put_is_ne hs, h.taken]
      simp [hs]
  · show (P.m.put i 1).is 2 s = false
    by_cases hs : s = i
    · subst hs
      rw [Mp.put_is_self]
      simp
    · rw [Mp.put_is_ne hs]
      exact h.wait s
  · rw [List.length_append] at hj
    by_cases hjl : j < is.length
    · obtain ⟨S, hS, hq⟩ := h.each j hjl
      refine ⟨S, hS, ?_⟩
      have e1 : (qs ++ [((i : Int), 1, (sumS (blockS l) : Int))]).getD j hole0 = qs.getD j hole0 := by
        simp only [List.getD]
        rw [List.getElem?_append_left (by rw [h.len]; exact hjl)]
      have e2 : (is ++ [i]).getD j 0 = is.getD j 0 := by
        simp only [List.getD]
        rw [List.getElem?_append_left hjl]
      rw [e1, e2]
      exact hq
    · have hjl2 : j = is.length := by
        have : j < is.length + 1 := hj
        omega
      subst hjl2
      refine ⟨sumS (blockS l), sum_lt _, ?_⟩
      have e1 : (qs ++ [((i : Int), 1, (sumS (blockS l) : Int))]).getD is.length hole0 = ((i : Int), 1, (sumS (blockS l) : Int)) := by simp [List.getD, ← h.len]
      have e2 : (is ++ [i]).getD is.length 0 = i := by simp [List.getD]
      rw [e1, e2]
/-- Behind a commit: the first k of the sectors is wait, the others are taken. -/
structure Drops (is : List Nat) (k b : Nat) (P : Pw) : Prop where
  nwl : P.nw.length = 64
  tot : P.m.tot = 64
  st : P.st = 2
  ba : P.ba = 1
  cnt : P.m.count + is.length = 60
  N : P.N ≤ b
  taken : ∀ s, P.m.is 1 s = true ↔ s ∈ is.drop k
  wait : ∀ s, P.m.is 2 s = true ↔ s ∈ is.take k
theorem com_is {m : Mp} {s i : Nat} (hs : s = 1) : m.commit.is s i = m.is s i := by
  subst hs
  unfold Mp.is Mp.commit
  simp only
  by_cases h : m.st i = 2
  · rw [if_pos h, h]
    simp
  · rw [if_neg h]
theorem com_none {m : Mp} (h2 : ∀ s, m.is 2 s = false) : m.commit.is 2 = m.is 2 ∧ m.commit.is 0 = m.is 0 := by
  have key : ∀ i, ¬ (4 ≤ i ∧ i < m.tot) ∨ m.st i ≠ 2 := fun i => by
    by_cases h : 4 ≤ i ∧ i < m.tot
    · right
      intro e
      have := h2 i
      rw [Mp.is_iff.2 ⟨h.1, h.2, e⟩] at this
      cases this
    · exact .inl h
  constructor <;> funext i <;> unfold Mp.is Mp.commit <;> simp only <;> rcases key i with h | h
  · by_cases h4 : 4 ≤ i
    · rw [decide_eq_false (p := i < m.tot) (by omega)]
      simp
    · rw [decide_eq_false h4]
      simp
  · rw [if_neg h]
  · by_cases h4 : 4 ≤ i
    · rw [decide_eq_false (p := i < m.tot) (by omega)]
      simp
    · rw [decide_eq_false h4]
      simp
  · rw [if_neg h]
theorem Olds.com {is : List Nat} {P : Pw} {qs : List PtrV} (h : Olds is P qs) (hk : is.length ≤ 50) : Drops is 0 60 (comP P) := by
  obtain ⟨e2, e0⟩ := com_none h.wait
  refine ⟨h.nwl, h.tot, by show P.st + 1 = 2; rw [h.st], h.st, ?_, by show P.N ≤ 60; rw [h.N]; omega, fun s => ?_, fun s => ?_⟩
  · show cntR (P.m.commit.is 0) 0 1024 + is.length = 60
    rw [e0]
    exact h.cnt
  · show P.m.commit.is 1 s = true ↔ _
    rw [com_is rfl, h.taken]
    simp
  · show P.m.commit.is 2 s = true ↔ _
    rw [e2, h.wait]
    simp
theorem Drops.drop {is : List Nat} {k b : Nat} {P : Pw} (h : Drops is k b P) (hn : is.Nodup) (hk : k < is.length) (S : Int) :
    dropC P ((is.getD k 0 : Int), 1, S) = 0 ∧ Drops is (k + 1) b (dropP P ((is.getD k 0 : Int), 1, S)) ∧ dropC (dropP P ((is.getD k 0 : Int), 1, S)) ((is.getD k 0 : Int), 1, S) = 72 ∧ dropP (dropP P ((is.getD k 0 : Int), 1, S)) ((is.getD k 0 : Int), 1, S) = dropP P ((is.getD k 0 : Int), 1, S) := by
  have hg : is.getD k 0 = is[k] := by simp [List.getD, hk]
  rw [hg]
  have hd : is.drop k = is[k] :: is.drop (k + 1) := List.drop_eq_getElem_cons hk
  have h1 : P.m.is 1 is[k] = true := (h.taken _).2 (by rw [hd]; exact List.mem_cons_self)
  have hq : ((is[k] : Int), (1 : Int), S) ≠ hole0 := hole_ne (by decide)
  obtain ⟨e1, e2⟩ := drop_yes (P := P) (i := is[k]) (b := 1) (s := S) hq h1
  rw [if_neg (by rw [h.ba]; decide)] at e2
  obtain ⟨g4, gt, _⟩ := Mp.is_iff.1 h1
  have hin : is[k] ∉ is.drop (k + 1) := by
    intro hm
    have := hn.sublist (List.drop_sublist k is)
    rw [hd, List.nodup_cons] at this
    exact this.1 hm
  have hD : Drops is (k + 1) b ⟨P.nw, P.m.put is[k] 2, P.st, P.ba, P.N⟩ := by
    refine ⟨h.nwl, h.tot, h.st, h.ba, ?_, h.N, fun s => ?_, fun s => ?_⟩
    · have := count_same h1 (t := 2) (by omega) (by omega)
      have := h.cnt
      show (P.m.put is[k] 2).count + is.length = 60
      omega
    · show (P.m.put is[k] 2).is 1 s = true ↔ _
      by_cases hs : s = is[k]
      · subst hs
        rw [Mp.put_is_self]
        simp [hin]
      · rw [Mp.put_is_ne hs, h.taken, hd, List.mem_cons]
        simp only [hs, false_or]
    · show (P.m.put is[k] 2).is 2 s = true ↔ _
      rw [List.take_succ_eq_append_getElem hk, List.mem_append, List.mem_singleton]
      by_cases hs : s = is[k]
      · subst hs
        rw [Mp.put_is_self, decide_eq_true g4, decide_eq_true gt]
        exact ⟨fun _ => .inr rfl, fun _ => rfl⟩
      · rw [Mp.put_is_ne hs, h.wait]
        simp only [hs, or_false]
  rw [e1, e2]
  have h72 : (P.m.put is[k] 2).is 1 is[k] = false := by rw [Mp.put_is_self]; simp
  obtain ⟨f1, f2⟩ := drop_no (P := ⟨P.nw, P.m.put is[k] 2, P.st, P.ba, P.N⟩) (i := is[k]) (b := 1) (s := S) hq h72
  exact ⟨rfl, hD, f1, f2⟩
/-- All of them wait. -/
theorem Drops.com {is : List Nat} {b : Nat} {P : Pw} (h : Drops is is.length b P) (h2 : ∀ i, P.m.st i ≤ 2) : (comP P).m.count = 60 := by
  have hp := parts3 P.m.commit (fun i => by
    have := h2 i
    show (if P.m.st i = 2 then 0 else P.m.st i) ≤ 2
    split <;> omega) 1024
  have z1 : cntR (P.m.commit.is 1) 0 1024 = 0 := cntR_zero.2 fun i _ _ => by
    rw [com_is rfl, Bool.eq_false_iff]
    intro e
    have := (h.taken i).1 e
    rw [List.drop_length] at this
    simp at this
  have z2 : cntR (P.m.commit.is 2) 0 1024 = 0 := cntR_zero.2 fun i _ _ => by
    rw [Bool.eq_false_iff]
    intro e
    have := (Mp.is_iff.1 e).2.2
    have h3 : P.m.commit.st i = if P.m.st i = 2 then 0 else P.m.st i := rfl
    rw [h3] at this
    split at this <;> omega
  rw [z1, z2] at hp
  have ht : P.m.commit.tot = 64 := h.tot
  rw [ht] at hp
  show cntR (P.m.commit.is 0) 0 1024 = 60
  omega
theorem Drops.next {is : List Nat} {k b : Nat} {P : Pw} (h : Drops is k b P) (hk : is.length ≤ 50) : ∃ i, P.m.next = some i := by
  cases hx : P.m.next with
  | some i => exact ⟨i, rfl⟩
  | none =>
    have := next_none.1 hx
    have := h.cnt
    omega
/-- What is put and dropped between two commits leaves the map as it was. -/
theorem Drops.pass {is : List Nat} {b : Nat} {P : Pw} (h : Drops is is.length b P) {i : Nat} (hi : P.m.next = some i) (l : List UInt8) (hl : ¬ 128 < l.length) :
    putC P l = 0 ∧ putQ P l = ((i : Int), 2, (sumS (blockS l) : Int)) ∧ i < 64 ∧ i ∉ is ∧ dropC (putP P l) ((i : Int), 2, (sumS (blockS l) : Int)) = 0 ∧
      Drops is is.length (b + 1) (dropP (putP P l) ((i : Int), 2, (sumS (blockS l) : Int))) := by
  obtain ⟨e1, e2, e3⟩ := pput_yes (P := P) hl hi
  obtain ⟨h0, h1024, _⟩ := next_some hi
  obtain ⟨g4, gt, g0⟩ := Mp.is_iff.1 h0
  have hi64 : i < 64 := by have := h.tot; omega
  have hni : i ∉ is := fun hm => by
    have := (Mp.is_iff.1 ((h.wait i).2 (by rw [List.take_length]; exact hm))).2.2
    omega
  rw [h.st] at e2
  refine ⟨e1, e2, hi64, hni, ?_⟩
  rw [e3]
  have hq : ((i : Int), (2 : Int), (sumS (blockS l) : Int)) ≠ hole0 := hole_ne (by decide)
  have h1 : (P.m.put i 1).is 1 i = true := by rw [Mp.put_is_self, decide_eq_true g4, decide_eq_true gt]; rfl
  obtain ⟨f1, f2⟩ := drop_yes (P := ⟨P.nw.set i (blockS l), P.m.put i 1, P.st, P.ba, P.N + 1⟩) (i := i) (b := 2) (s := (sumS (blockS l) : Int)) hq h1
  refine ⟨f1, ?_⟩
  rw [f2]
  have e : (P.m.put i 1).put i (if (P.ba : Int) < 2 then 0 else 2) = P.m := by rw [h.ba, if_pos (by decide), put_put g0]
  refine ⟨by show (P.nw.set i _).length = 64; rw [List.length_set, h.nwl], h.tot, h.st, h.ba, ?_, Nat.succ_le_succ h.N, fun s => ?_, fun s => ?_⟩
  · show ((P.m.put i 1).put i (if (P.ba : Int) < 2 then 0 else 2)).count + is.length = 60
    rw [e]
    exact h.cnt
  · show ((P.m.put i 1).put i (if (P.ba : Int) < 2 then 0 else 2)).is 1 s = true ↔ _
    rw [e]
    exact h.taken s
  · show ((P.m.put i 1).put i (if (P.ba : Int) < 2 then 0 else 2)).is 2 s = true ↔ _
    rw [e]
    exact h.wait s
end Go.Proofs.Ytddhacmaogaocaa
