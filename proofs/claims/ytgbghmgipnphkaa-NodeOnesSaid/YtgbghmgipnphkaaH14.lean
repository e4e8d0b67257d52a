/- The node's calls: Empty, Newest (of a node as one may write it). -/
import Derived.Test.YtgbghmgipnphkaaH6
import Derived.Test.YtgbghmgipnphkaaH10
set_option maxRecDepth 10000
namespace Go.Proofs.Ytgbghmgipnphkaa
open Go.RowKit

theorem same_zero (p : P8) : p.same zp8 = emptyF p := by
  have h : ∀ j, j < 8 → sameQ (p.at_ j) (zp8.at_ j) = holeF (p.at_ j).1 (p.at_ j).2.1 (p.at_ j).2.2 := fun j hj => by
    have hz : zp8.at_ j = hole0 := by
      rw [at_eq _ _ hj]
      exact List.getElem_replicate ..
    rw [hz]
    rfl
  have h2 : p.same zp8 = true ↔ emptyF p = true := by
    unfold P8.same emptyF
    rw [List.all_eq_true, List.all_eq_true]
    constructor
    · intro g q hq
      obtain ⟨j, hj, rfl⟩ := List.getElem_of_mem hq
      have hj8 : j < 8 := by rw [p.h] at hj; exact hj
      have := g j (List.mem_range.2 hj8)
      rw [h j hj8, at_eq p j hj8] at this
      exact this
    · intro g j hj
      have hj8 := List.mem_range.1 hj
      rw [h j hj8]
      exact g _ (p.at_mem j hj8)
  cases h3 : p.same zp8 <;> cases h4 : emptyF p <;> simp_all
theorem nempty_any (p : P8) (w : World) : Calls Try.prog 11 #[.agg p.cs.toArray] w fun e w' => e = .returned (.bool (emptyF p)) ∧ Below w.heap.size w w' := by
  have hs := Lib.hid (same_zero p)
  have h0 : Hid (Blk (w.alloc (.cells p.cs.toArray 31)) w.heap.size 31 p.cs.toArray ∧ Below w.heap.size w (w.alloc (.cells p.cs.toArray 31))) := ⟨Blk.new _ _ _, (Below.refl _ _).alloc (Nat.le_refl _) _⟩
  go_enter Try.func11, Try.ntmps11
  go_wp2_with (first
    | (refine wpList_val (by rfl) _ (ex_buildP8 rfl) ?_)
    | (with_reducible refine ld_p8 rfl _ rfl w.heap.size 0 p rfl h0.out.1.p8Is ?_)
    | (refine wpList_val (by rfl) _ (ex_eqP8 (.tmp 3) (.tmp 4) rfl p zp8 rfl rfl) ?_; rw [hs.out]))
  go_ret
  exact ⟨rfl, h0.out.2⟩
set_option maxHeartbeats 1000000 in
theorem nnewest_any (p : P8) (hp : p.ok) (w : World) : Calls Try.prog 14 #[.agg p.cs.toArray] w fun e w' => e = .returned (.int .u64 (newestF p)) ∧ Below w.heap.size w w' := by
  have h0 : Hid (Blk (w.alloc (.cells p.cs.toArray 31)) w.heap.size 31 p.cs.toArray ∧ Below w.heap.size w (w.alloc (.cells p.cs.toArray 31))) := ⟨Blk.new _ _ _, (Below.refl _ _).alloc (Nat.le_refl _) _⟩
  have hz := zeroPtr8
  go_enter Try.func14, Try.ntmps14
  go_wp2_with (first
    | (with_reducible refine ld_p8 rfl _ rfl w.heap.size 0 p rfl h0.out.1.p8Is ?_))
  go_loopw [3, 7] (fun n i wr => ∃ k : Nat, k ≤ 8 ∧ i = .int .i64 k ∧ n = .int .u64 (maxTo (p.l.take k)) ∧ Below w.heap.size w wr) (fun _ i _ => 8 - (intOf i).toNat)
  case atStart => exact ⟨0, by omega, rfl, rfl, h0.out.2⟩
  case round =>
    clear h0
    obtain ⟨k, hk, rfl, rfl, hb⟩ := hrel
    by_cases hlt : k < 8
    · have hst : maxTo (p.l.take (k + 1)) = if maxTo (p.l.take k) < (p.at_ k).2.1 then (p.at_ k).2.1 else maxTo (p.l.take k) := by
        rw [take8 p.l k (by rw [p.h]; exact hlt), at_eq p k hlt]
        unfold maxTo
        rw [List.foldl_append]
        rfl
      have HI := Lib.hid (fun (o : Oper) (a : Act) (w : World) (ho : o.op = .index 31 (.tmp 6) (.tmp 7)) => ex_ixP8 (o := o) (a := a) (w := w) (.tmp 6) (.tmp 7) ho p k hlt)
      have HB := Lib.hid hb
      have HS := Lib.hid hst
      generalize p.at_ k = q at *
      obtain ⟨q1, q2, q3⟩ := q
      simp only at HS HI
      generalize maxTo (p.l.take k) = n at *
      have hk8 : (k : Int) < 8 := by omega
      clear hb hst
      go_wp2_with (refine wpList_val (by rfl) _ (HI.out _ _ _ rfl rfl rfl) ?_)
      go_roundw
      case rel => exact ⟨k + 1, hlt, by go_num, by rw [HS.out], HB.out.alloc (by have := HB.out.size; omega) _⟩
      case measure => simp [intOf]; omega
    · obtain rfl : k = 8 := by omega
      have HE : Hid (maxTo (p.l.take 8) = newestF p) := by
        show _ = _
        rw [List.take_of_length_le (by rw [p.h]; omega)]
        exact maxTo_eq fun q hq => (hp q hq).b0
      go_wp2_with fail
      go_ret
      exact ⟨ret_int HE.out, hb⟩
end Go.Proofs.Ytgbghmgipnphkaa
