/- Eight pointers: there and back, the newest, one alone: mathematics. -/
import Derived.Test.YtgbghmgipnphkaaH3
import Derived.Test.YtgbghmgipnphkaaH4
import Derived.Test.YtgbghmgipnphkaaH5
import Derived.Test.YtgbghmgipnphkaaH7
set_option maxRecDepth 10000
namespace Go.Proofs.Ytgbghmgipnphkaa
open Go.RowKit

theorem flat_part : ∀ {l : List PtrV} (j : Nat) (hj : j < l.length), l.all rightQ = true → ((l.flatMap bsQ).drop (16 * j)).take 16 = bsQ l[j]
  | q :: r, 0, _, h => by
    simp only [List.all_cons, Bool.and_eq_true] at h
    rw [List.flatMap_cons, Nat.mul_zero, List.drop_zero, List.take_append_of_le_length (by rw [bsQ_len h.1]; omega), List.take_of_length_le (by rw [bsQ_len h.1]; omega)]
    rfl
  | q :: r, j + 1, hj, h => by
    simp only [List.all_cons, Bool.and_eq_true] at h
    have hj' : j < r.length := by simp at hj; omega
    have e : (bsQ q ++ r.flatMap bsQ).drop (16 * (j + 1)) = (r.flatMap bsQ).drop (16 * j) := by
      rw [List.drop_append, List.drop_of_length_le (by rw [bsQ_len h.1]; omega), List.nil_append, bsQ_len h.1, show 16 * (j + 1) - 16 = 16 * j by omega]
    rw [List.flatMap_cons, e]
    exact flat_part j hj' h.2
section
variable {p : P8} {s : Sec}
theorem nb_part (h : all8 p = true) (j : Nat) (hj : j < 8) : part8 (nbS p) j = bsQ (p.at_ j) := by
  have hl : j < p.l.length := by rw [p.h]; exact hj
  unfold part8
  rw [nbS_yes h, flat_part j hl h, at_eq p j hj]
theorem all8_at (h : all8 p = true) (j : Nat) (hj : j < 8) : rightQ (p.at_ j) = true := List.all_eq_true.1 h _ (p.at_mem j hj)
theorem all8_iff : all8 p = true ↔ ∀ j, j < 8 → rightQ (p.at_ j) = true := by
  constructor
  · exact fun h j hj => all8_at h j hj
  · intro h
    refine List.all_eq_true.2 fun q hq => ?_
    obtain ⟨j, hj, rfl⟩ := List.getElem_of_mem hq
    have hj8 : j < 8 := by rw [p.h] at hj; exact hj
    have := h j hj8
    rwa [at_eq p j hj8] at this
theorem ok_iff : p.ok ↔ ∀ j, j < 8 → PtrOk (p.at_ j) := by
  constructor
  · exact fun h j hj => h _ (p.at_mem j hj)
  · intro h q hq
    obtain ⟨j, hj, rfl⟩ := List.getElem_of_mem hq
    have hj8 : j < 8 := by rw [p.h] at hj; exact hj
    have := h j hj8
    rwa [at_eq p j hj8] at this
theorem nrP_at (h : okP s = true) (j : Nat) (hj : j < 8) : (nrP s).at_ j = rdQ (part8 s j) := by
  rw [at_eq _ j hj]
  unfold nrP
  simp only [if_pos h, List.getElem_map, List.getElem_range]
/-- Bytes, read again. -/
theorem back8 (hp : p.ok) (h : all8 p = true) : okP (nbS p) = true ∧ nrP (nbS p) = p ∧ nrC (nbS p) = 0 := by
  have e : ∀ j, j < 8 → okF (part8 (nbS p) j) = true ∧ rdQ (part8 (nbS p) j) = p.at_ j := fun j hj => by
    rw [nb_part h j hj]
    obtain ⟨h1, h2, h3, h4, -⟩ := back_ptr (hp _ (p.at_mem j hj)) (all8_at h j hj)
    refine ⟨h1, ?_⟩
    show (_, _, _) = p.at_ j
    unfold bsQ
    rw [h2, h3, h4]
  have ho : okP (nbS p) = true := List.all_eq_true.2 fun j hj => (e j (List.mem_range.1 hj)).1
  exact ⟨ho, P8.ext fun j hj => by rw [nrP_at ho j hj, (e j hj).2], if_pos ho⟩
theorem part_all (s : Sec) : (List.range 8).flatMap (part8 s) = s.l := by
  have g : ∀ n, n ≤ 8 → (List.range n).flatMap (part8 s) = s.l.take (16 * n) := by
    intro n
    induction n with
    | zero => intro _; simp
    | succ n ih =>
      intro hn
      rw [List.range_succ, List.flatMap_append, ih (by omega), show 16 * (n + 1) = 16 * n + 16 by omega, List.take_add]
      simp [part8]
  rw [g 8 (by omega), List.take_of_length_le (by rw [s.h]; omega)]
theorem nr_ok (s : Sec) : (nrP s).ok := by
  rcases ho : okP s with _ | _
  · unfold nrP
    rw [if_neg (by simp [ho])]
    exact zp8_ok
  · refine ok_iff.2 fun j hj => ?_
    rw [nrP_at ho j hj]
    exact rd_is _
/-- A sector, read, as Bytes. -/
theorem read8 (h : okP s = true) : all8 (nrP s) = true ∧ nbS (nrP s) = s ∧ nbC (nrP s) = 0 ∧ nrC s = 0 := by
  have e : ∀ j, j < 8 → rightQ (rdQ (part8 s j)) = true ∧ bsQ (rdQ (part8 s j)) = part8 s j := fun j hj => by
    have ho : okF (part8 s j) = true := List.all_eq_true.1 h j (List.mem_range.2 hj)
    obtain ⟨h1, h2⟩ := back_bys ho
    refine ⟨?_, h1⟩
    show rightF (rdA (part8 s j)) (rdB (part8 s j)) (rdS (part8 s j)) = true
    cases hr : rightF (rdA (part8 s j)) (rdB (part8 s j)) (rdS (part8 s j)) with
    | true => rfl
    | false =>
      unfold bsC at h2
      rw [if_neg (by simp [hr])] at h2
      exact absurd h2 (by decide)
  have ha : all8 (nrP s) = true := all8_iff.2 fun j hj => by rw [nrP_at h j hj]; exact (e j hj).1
  refine ⟨ha, Sec.eq ?_, if_pos ha, if_pos h⟩
  rw [nbS_yes ha]
  have hl : (nrP s).l = (List.range 8).map fun j => rdQ (part8 s j) := by unfold nrP; rw [if_pos h]
  rw [hl, List.flatMap_map, ← part_all s]
  have g : ∀ is : List Nat, (∀ j ∈ is, j < 8) → is.flatMap (fun j => bsQ (rdQ (part8 s j))) = is.flatMap (part8 s) := by
    intro is
    induction is with
    | nil => intro _; rfl
    | cons j r ih =>
      intro hj
      rw [List.flatMap_cons, List.flatMap_cons, (e j (hj j List.mem_cons_self)).2, ih fun k hk => hj k (List.mem_cons_of_mem _ hk)]
  exact g _ fun j hj => List.mem_range.1 hj
theorem read8_no (h : okP s = false) : nrP s = zp8 ∧ nrC s = 51 := ⟨if_neg (by simp [h]), if_neg (by simp [h])⟩
theorem maxB_le : ∀ {l : List PtrV} {q : PtrV}, q ∈ l → q.2.1 ≤ maxB l
  | x :: r, q, h => by
    show _ ≤ max x.2.1 (maxB r)
    rcases List.mem_cons.1 h with rfl | h
    · omega
    · have := maxB_le h
      omega
theorem newest_le (j : Nat) (hj : j < 8) : (p.at_ j).2.1 ≤ newestF p := maxB_le (p.at_mem j hj)
theorem since_no {q : PtrV} {t : Int} (h : q.2.1 ≤ t) : sinceF q.1 q.2.1 q.2.2 t = false := by
  unfold sinceF
  rw [decide_eq_false (by omega), Bool.and_false]
theorem nbC_iff : nbC p = 0 ↔ all8 p = true := by
  unfold nbC
  split
  · simp [*]
  · simp [*]
theorem set_ok (hp : p.ok) {q : PtrV} (hq : PtrOk q) (i : Nat) : (p.set i q).ok := ok_iff.2 fun j hj => by
  rw [P8.set_at _ _ _ _ hj]
  split
  · exact hq
  · exact hp _ (p.at_mem j hj)
theorem set_same (q : PtrV) {i : Nat} (hi : i < 8) : p.set i q = p ↔ p.at_ i = q := by
  constructor
  · intro h
    rw [← h, P8.set_at _ _ _ _ hi, if_pos rfl]
  · intro h
    exact P8.ext fun j hj => by
      rw [P8.set_at _ _ _ _ hj]
      split
      · subst_vars; rfl
      · rfl
theorem nbS_inj {k : P8} (hp : p.ok) (hk : k.ok) (h1 : all8 p = true) (h2 : all8 k = true) : nbS p = nbS k ↔ p = k := by
  constructor
  · intro h
    rw [← (back8 hp h1).2.1, ← (back8 hk h2).2.1, h]
  · rintro rfl
    rfl
theorem set_newest (q : PtrV) {i : Nat} (hi : i < 8) : q.2.1 ≤ newestF (p.set i q) := by
  have := newest_le (p := p.set i q) i hi
  rwa [P8.set_at _ _ _ _ hi, if_pos rfl] at this
/-- One alone. -/
theorem one_right {q : PtrV} (hq : rightQ q = true) (i : Nat) : all8 (zp8.set i q) = true := all8_iff.2 fun j hj => by
  rw [P8.set_at _ _ _ _ hj]
  split
  · exact hq
  · have h : all8 zp8 = true := zp8_s.1
    exact all8_at h j hj
theorem one_at {q : PtrV} (hq : rightQ q = true) (i k : Nat) (hk : k < 128) : (nbS (zp8.set i q)).l.getD k 0 = if k / 16 = i then (bsQ q).getD (k % 16) 0 else 0 := by
  have h1 := nb_part (one_right hq i) (k / 16) (by omega)
  have h2 : (part8 (nbS (zp8.set i q)) (k / 16)).getD (k % 16) 0 = (nbS (zp8.set i q)).l.getD k 0 := by
    unfold part8
    simp only [List.getD, List.getElem?_take, List.getElem?_drop]
    rw [if_pos (by omega), show 16 * (k / 16) + k % 16 = k by omega]
  rw [← h2, h1, P8.set_at _ _ _ _ (by omega)]
  by_cases h : i = k / 16
  · rw [if_pos h, if_pos h.symm]
  · rw [if_neg h, if_neg (fun e => h e.symm)]
    have hz : zp8.at_ (k / 16) = hole0 := by
      rw [at_eq _ _ (by omega)]
      exact List.getElem_replicate ..
    rw [hz]
    have h3 : ∀ j, j < 16 → (bsQ hole0).getD j 0 = 0 := by decide +kernel
    exact h3 _ (by omega)
theorem one_empty (q : PtrV) {i : Nat} (hi : i < 8) : emptyF (zp8.set i q) = holeF q.1 q.2.1 q.2.2 := by
  have h : ∀ l : List PtrV, (∀ x ∈ l, holeF x.1 x.2.1 x.2.2 = true) → ∀ i, i < l.length → (l.set i q).all (fun x => holeF x.1 x.2.1 x.2.2) = holeF q.1 q.2.1 q.2.2 := by
    intro l
    induction l with
    | nil => intro _ i h; simp at h
    | cons x r ih =>
      intro hx i hi
      cases i with
      | zero =>
        simp only [List.set_cons_zero, List.all_cons]
        rw [List.all_eq_true.2 fun y hy => hx y (List.mem_cons_of_mem _ hy), Bool.and_true]
      | succ i =>
        simp only [List.set_cons_succ, List.all_cons]
        rw [hx x List.mem_cons_self, Bool.true_and]
        exact ih (fun y hy => hx y (List.mem_cons_of_mem _ hy)) i (by simp at hi; omega)
  exact h (List.replicate 8 hole0) (fun x hx => by rw [List.eq_of_mem_replicate hx]; rfl) i (by rw [List.length_replicate]; exact hi)
end
end Go.Proofs.Ytgbghmgipnphkaa
