/- Walks: the laws' small uber; the laws' example. -/
import Derived.Test.YtegcknloemgndaaU11
set_option maxRecDepth 10000
namespace Go.Proofs.Ytegcknloemgndaa
open Go.RowKit

def smallU (k : Nat) (hk : k < 18446744073709551616) : Ub := ⟨k, 1, 9, 1, 0, 1, 64, by omega, by unfold I64; omega⟩
theorem buildS (k : Nat) (hk : k < 18446744073709551616) (w : World) : (Instr.build 27 #[(0, .int .u64 (k : Int)), (1, .int .u64 1), (2, ptv 9 1 0), (3, .int .i64 1), (4, .int .i64 64)]).run Try.prog w = .ok (.agg (smallU k hk).cs.toArray) w := buildU (smallU k hk) w
theorem small_any (k : Nat) (hk : k < 18446744073709551616) (w : World) : Calls Try.prog 30 #[.int .u64 (k : Int)] w fun e w' => e = .returned (.agg (smallU k hk).cs.toArray) ∧ Below w.heap.size w w' := by
  have hz : ∀ w, Sem.run Try.prog (zeroValue 27) w = .ok (.agg zub.cs.toArray) w := zeroUb
  have hb0 : ∀ w, (Instr.build 25 #[(0, .int .i64 9), (1, .int .u64 1)]).run Try.prog w = .ok (ptv 9 1 0) w := fun w => run_build w _ _ _ (by kernel_rfl)
  have HB := Lib.hid (buildS k hk)
  have HZ := Lib.hid (Blk.new w 27 zub.cs.toArray)
  go_enter Try.func30, Try.ntmps30
  go_wp2_with (refine wpList_val (by rfl) (.agg (smallU k hk).cs.toArray) (ex_build5 (.tmp 3) (.const (.int .u64 1)) (.tmp 4) (.const (.int .i64 1)) (.const (.int .i64 64)) rfl (.int .u64 (k : Int)) (.int .u64 1) (ptv 9 1 0) (.int .i64 1) (.int .i64 64) _ rfl rfl rfl rfl rfl (HB.out _)) ?_; refine st_ub rfl (.tmp 2) (.tmp 5) rfl w.heap.size 0 (smallU k hk) rfl rfl HZ.out.ubHas ?_; intro w2 hw2; simp [Act.put])
  have hb2 : Blk w2 w.heap.size 27 (smallU k hk).cs.toArray := by rw [hw2.out]; exact HZ.out.ubAll _
  exact bodyPost_ret (results_cell_row rfl _ _ _ _ _ _ _ rfl hb2 Try.underlying27 rfl (sizeUb'' _)) rfl ⟨rfl, by rw [hw2.out]; exact Below.setCells _ (Nat.le_refl _) _ _ ((Below.refl _ _).alloc (Nat.le_refl _) _)⟩
theorem small_right (k : Nat) (hk : k < 18446744073709551616) (h : 1 ≤ k ∧ k ≤ 281474976710655) : rightU (smallU k hk) = true := by
  refine rightU_t ⟨h, ?_, ?_, ?_, ?_⟩
  · show 1 ≤ 1 ∧ 1 ≤ 281474976710655; omega
  · show 4 ≤ (9 : Int) ∧ (9 : Int) ≤ 1023 ∧ 1 ≤ 1 ∧ 1 ≤ 281474976710655; omega
  · show 1 ≤ (1 : Int) ∧ (1 : Int) ≤ 65535; omega
  · show 64 ≤ (64 : Int) ∧ (64 : Int) ≤ 1024; omega
def sm1 : Ub := smallU 1 (by omega)
def sm2 : Ub := smallU 2 (by omega)
theorem sm1_r : rightU sm1 = true := small_right 1 _ (by omega)
theorem sm2_r : rightU sm2 = true := small_right 2 _ (by omega)
def ex0 : St := newSt 4
def ex1 : St := (ex0.commit 4 sm1).1
def ex2 : St := (ex1.commit 4 sm2).1
theorem ex1_all : (ex0.commit 4 sm1).2 = 0 ∧ Ring 4 ex1 ∧ ex1.nw = ex0.nw.set 1 (secU sm1) := ring_commit (ring_new 4) sm1_r (by decide)
theorem ex2_all : (ex1.commit 4 sm2).2 = 0 ∧ Ring 4 ex2 ∧ ex2.nw = ex1.nw.set 2 (secU sm2) := ring_commit ex1_all.2.1 sm2_r (by decide)
theorem new_slot (n i : Nat) (hi : i < n) : slotF n (newSt n) i = none := by
  rw [ring_slot (ring_new n) hi]
  have : (newSt n).nw.getD i zsec = zsec := by simp [newSt, List.getD, hi]
  rw [this, tell_zero]
theorem ex2_slots : slotsF 4 ex2 4 = [sm1, sm2] := by
  have h : ∀ i, i < 4 → slotF 4 ex2 i = if 2 = i then some sm2 else if 1 = i then some sm1 else none := fun i hi => by
    rw [ring_set ex1_all.2.1 ex2_all.2.1 sm2_r (by omega) hi ex2_all.2.2, ring_set (ring_new 4) ex1_all.2.1 sm1_r (by omega) hi ex1_all.2.2, new_slot 4 i hi]
    rfl
  simp [slotsF, List.range_succ, h]
theorem ex2_list : listF 4 ex2 = [sm1, sm2] := by
  rw [listF, ex2_slots]
  rfl
theorem ex2_best : bestO 4 ex2 = some sm2 := by
  rw [bestO, ex2_list]
  rfl
end Go.Proofs.Ytegcknloemgndaa
