/- The reference's Hole, Empty, Newest walked. -/
import Derived.Test.YtgbghmgipnphkaaH1
set_option maxRecDepth 10000
namespace Go.Proofs.Ytgbghmgipnphkaa
open Go.RowKit

theorem rhole_any (a b s : Int) (w : World) : Calls Try.prog 22 #[ptv a b s] w fun e w' => e = .returned (.bool (holeF a b s)) ∧ Below w.heap.size w w' := by
  go_enter Try.func22, Try.ntmps22
  by_cases ha : a = 0
  · subst ha
    by_cases hb : b = 0
    · subst hb
      go_wp2_with fail
      go_ret
      exact ⟨ret_bool (by unfold holeF; simp), (Below.refl _ _).alloc (Nat.le_refl _) _⟩
    · have hb' : (b == 0) = false := by rw [beq_eq_false_iff_ne]; exact hb
      go_wp2_with fail
      go_ret
      exact ⟨ret_bool (by unfold holeF; simp [hb']), (Below.refl _ _).alloc (Nat.le_refl _) _⟩
  · have ha' : (a == 0) = false := by rw [beq_eq_false_iff_ne]; exact ha
    go_wp2_with fail
    go_ret
    exact ⟨ret_bool (by unfold holeF; simp [ha']), (Below.refl _ _).alloc (Nat.le_refl _) _⟩
theorem at_eq (p : P8) (k : Nat) (hk : k < 8) : p.at_ k = p.l[k]'(by rw [p.h]; exact hk) := by
  have h : k < p.l.length := by rw [p.h]; exact hk
  simp [P8.at_, List.getD, h]
theorem take8 {α : Type} (p : List α) (k : Nat) (hk : k < p.length) : p.take (k + 1) = p.take k ++ [p[k]] := List.take_succ_eq_append_getElem hk
set_option maxHeartbeats 1000000 in
theorem rempty_any (p : P8) (w : World) : Calls Try.prog 13 #[.agg p.cs.toArray] w fun e w' => e = .returned (.bool (emptyF p)) ∧ Below w.heap.size w w' := by
  go_enter Try.func13, Try.ntmps13
  have hbl : Blk (w.alloc (.cells p.cs.toArray 31)) w.heap.size 31 p.cs.toArray := Blk.new w _ _
  have hb0 : Below w.heap.size w (w.alloc (.cells p.cs.toArray 31)) := (Below.refl _ _).alloc (Nat.le_refl _) _
  have H0 := Lib.hid (And.intro hbl hb0)
  clear hbl hb0
  go_wp2_with fail
  go_loopw [3] (fun i wr => ∃ k : Nat, k ≤ 8 ∧ i = .int .i64 k ∧ (p.l.take k).all (fun q => holeF q.1 q.2.1 q.2.2) = true ∧ Blk wr w.heap.size 31 p.cs.toArray ∧ Below w.heap.size w wr) (fun i _ => 8 - (intOf i).toNat)
  case atStart => exact ⟨0, by omega, rfl, rfl, H0.out.1, H0.out.2⟩
  case round =>
    obtain ⟨k, hk, rfl, hall, hbl, hb⟩ := hrel
    by_cases hlt : k < 8
    · have hat := hbl.p8At k hlt
      have hst : (p.l.take (k + 1)).all (fun q => holeF q.1 q.2.1 q.2.2) = holeF (p.at_ k).1 (p.at_ k).2.1 (p.at_ k).2.2 := by
        rw [take8 p.l k (by rw [p.h]; exact hlt), List.all_append, hall, at_eq p k hlt]
        simp
      have hem : holeF (p.at_ k).1 (p.at_ k).2.1 (p.at_ k).2.2 = false → emptyF p = false := fun h => by
        unfold emptyF
        rw [Bool.eq_false_iff]
        intro e
        have := List.all_eq_true.1 e _ (p.at_mem k hlt)
        rw [h] at this
        cases this
      have HB := Lib.hid (And.intro hbl hb)
      have HH := Lib.hid (rhole_any (p.at_ k).1 (p.at_ k).2.1 (p.at_ k).2.2 wr)
      generalize p.at_ k = q at *
      obtain ⟨q1, q2, q3⟩ := q
      simp only at hat hst hem HH
      have hk8 : (k : Int) < 8 := by omega
      have hsz : w.heap.size < wr.heap.size := HB.out.1.lt
      clear hbl hb hall
      go_wp2_with ((with_reducible refine ld_pq rfl _ rfl w.heap.size (k * 3) (q1, q2, q3) rfl hat ?_))
      refine Calls.mono HH.out ?_
      rintro e w1 ⟨rfl, hb1⟩
      have HB1 := Lib.hid (And.intro (HB.out.1.below hb1 HB.out.1.lt) (HB.out.2.trans (hb1.mono HB.out.2.size)))
      cases hx : holeF q1 q2 q3 with
      | true =>
        rw [hx] at hst
        have HS := Lib.hid hst
        clear hst hem hx hat
        go_wp2_with fail
        go_roundw
        case rel => exact ⟨k + 1, hlt, by go_num, HS.out, HB1.out.1, HB1.out.2⟩
        case measure => simp [intOf]; omega
      | false =>
        have HE := Lib.hid (hem hx)
        clear hst hem hx hat
        go_wp2_with fail
        go_ret
        exact ⟨ret_bool (by rw [HE.out]), HB1.out.2⟩
    · obtain rfl : k = 8 := by omega
      rw [List.take_of_length_le (by rw [p.h]; omega)] at hall
      have HE : Hid (emptyF p = true) := hall
      clear hall
      go_wp2_with fail
      go_ret
      exact ⟨ret_bool (by rw [HE.out]), hb⟩
def maxTo (l : List PtrV) : Int := l.foldl (fun n q => if n < q.2.1 then q.2.1 else n) 0
theorem foldl_max : ∀ (l : List PtrV) (n : Int), l.foldl (fun n q => if n < q.2.1 then q.2.1 else n) n = max n (l.foldl (fun n q => if n < q.2.1 then q.2.1 else n) 0) ∨ n < 0 ∨ ∃ q ∈ l, q.2.1 < 0
  | [], n => by
    by_cases h : n < 0
    · exact .inr (.inl h)
    · left
      show n = max n 0
      omega
  | q :: r, n => by
    by_cases h : n < 0
    · exact .inr (.inl h)
    · by_cases hq : q.2.1 < 0
      · exact .inr (.inr ⟨q, List.mem_cons_self, hq⟩)
      · rcases foldl_max r (if n < q.2.1 then q.2.1 else n) with h1 | h1 | ⟨q', h1, h2⟩
        · rcases foldl_max r (if (0 : Int) < q.2.1 then q.2.1 else 0) with h2 | h2 | ⟨q', h2, h3⟩
          · left
            show r.foldl _ (if n < q.2.1 then q.2.1 else n) = max n (r.foldl _ (if (0 : Int) < q.2.1 then q.2.1 else 0))
            rw [h1, h2]
            split <;> split <;> omega
          · exfalso
            split at h2 <;> omega
          · exact .inr (.inr ⟨q', List.mem_cons_of_mem _ h2, h3⟩)
        · exfalso
          split at h1 <;> omega
        · exact .inr (.inr ⟨q', List.mem_cons_of_mem _ h1, h2⟩)
theorem maxTo_eq : ∀ {l : List PtrV}, (∀ q ∈ l, 0 ≤ q.2.1) → maxTo l = maxB l
  | [], _ => rfl
  | q :: r, h => by
    have hq := h q List.mem_cons_self
    have ih := maxTo_eq (l := r) fun x hx => h x (List.mem_cons_of_mem _ hx)
    unfold maxTo at ih ⊢
    show r.foldl _ (if (0 : Int) < q.2.1 then q.2.1 else 0) = max q.2.1 (maxB r)
    have e : (if (0 : Int) < q.2.1 then q.2.1 else 0) = q.2.1 := by split <;> omega
    rw [e, ← ih]
    rcases foldl_max r q.2.1 with h1 | h1 | ⟨q', h1, h2⟩
    · exact h1
    · omega
    · have := h q' (List.mem_cons_of_mem _ h1)
      omega
set_option maxHeartbeats 1000000 in
theorem rnewest_any (p : P8) (hp : p.ok) (w : World) : Calls Try.prog 15 #[.agg p.cs.toArray] w fun e w' => e = .returned (.int .u64 (newestF p)) ∧ Below w.heap.size w w' := by
  go_enter Try.func15, Try.ntmps15
  have hbl : Blk (w.alloc (.cells p.cs.toArray 31)) w.heap.size 31 p.cs.toArray := Blk.new w _ _
  have hb0 : Below w.heap.size w (w.alloc (.cells p.cs.toArray 31)) := (Below.refl _ _).alloc (Nat.le_refl _) _
  have H0 := Lib.hid (And.intro hbl hb0)
  clear hbl hb0
  go_wp2_with fail
  go_loopw [3, 4] (fun n i wr => ∃ k : Nat, k ≤ 8 ∧ i = .int .i64 k ∧ n = .int .u64 (maxTo (p.l.take k)) ∧ Blk wr w.heap.size 31 p.cs.toArray ∧ Below w.heap.size w wr) (fun _ i _ => 8 - (intOf i).toNat)
  case atStart => exact ⟨0, by omega, rfl, rfl, H0.out.1, H0.out.2⟩
  case round =>
    obtain ⟨k, hk, rfl, rfl, hbl, hb⟩ := hrel
    by_cases hlt : k < 8
    · obtain ⟨_, hc, _⟩ := p.cell k hlt
      have hcell : wr.cell? ⟨w.heap.size, k * 3 + 1, none⟩ = some (.int .u64 (p.at_ k).2.1) := (hbl.cell (k * 3 + 1)).trans (by rw [List.getElem?_toArray]; exact hc)
      have hst : maxTo (p.l.take (k + 1)) = if maxTo (p.l.take k) < (p.at_ k).2.1 then (p.at_ k).2.1 else maxTo (p.l.take k) := by
        rw [take8 p.l k (by rw [p.h]; exact hlt), at_eq p k hlt]
        unfold maxTo
        rw [List.foldl_append]
        rfl
      have HB := Lib.hid (And.intro hbl hb)
      generalize (p.at_ k).2.1 = b at *
      generalize maxTo (p.l.take k) = n at *
      have hk8 : (k : Int) < 8 := by omega
      have hsz : w.heap.size < wr.heap.size := HB.out.1.lt
      clear hbl hb hc
      by_cases hx : n < b
      · rw [if_pos hx] at hst
        have HS := Lib.hid hst
        clear hst
        go_wp2_with fail
        go_roundw
        case rel => exact ⟨k + 1, hlt, by go_num, by rw [HS.out], HB.out.1, HB.out.2⟩
        case measure => simp [intOf]; omega
      · rw [if_neg hx] at hst
        have HS := Lib.hid hst
        clear hst
        go_wp2_with fail
        go_roundw
        case rel => exact ⟨k + 1, hlt, by go_num, by rw [HS.out], HB.out.1, HB.out.2⟩
        case measure => simp [intOf]; omega
    · obtain rfl : k = 8 := by omega
      have HE : Hid (maxTo (p.l.take 8) = newestF p) := by
        show _ = _
        rw [List.take_of_length_le (by rw [p.h]; omega)]
        exact maxTo_eq fun q hq => (hp q hq).b0
      go_wp2_with fail
      go_ret
      exact ⟨ret_int HE.out, hb⟩
end Go.Proofs.Ytgbghmgipnphkaa
