/- Walks: the laws on names and on ubers apart. -/
import Derived.Test.YtegcknloemgndaaU14
set_option maxRecDepth 10000
namespace Go.Proofs.Ytegcknloemgndaa
open Go.RowKit

theorem ex0_best : bestO 4 ex0 = none := by
  have h : slotsF 4 ex0 4 = [] := by
    have hs : ∀ i, i < 4 → slotF 4 ex0 i = none := fun i hi => new_slot 4 i hi
    simp [slotsF, List.range_succ, hs]
  rw [bestO, listF, h]
  rfl
theorem best0 {w : World} {B : Nat} {D : Dev} {pv : Value} (h : At w B 4 D pv ex0) : Calls Try.prog 9 #[.pointer (some ⟨D.g, 0, none⟩)] w fun e w' => e = .returned (.tuple #[.agg zub.cs.toArray, .bool false]) ∧ At w' B 4 D pv (ex0.counts 4) ∧ Goes D w pv w' pv := by
  have h1 := best_any h
  rw [ex0_best] at h1
  exact h1
theorem names_any (w : World) : Calls Try.prog 3 #[] w fun e w' => e = .returned (.bool true) ∧ Below w.heap.size w w' := by
  have hz : ∀ w, Sem.run Try.prog (zeroValue 27) w = .ok (.agg zub.cs.toArray) w := zeroUb
  have HN := new_any 4 w
  rw [many4] at HN
  have HNE := Lib.hid HN
  have HAL := Lib.hid alive_any
  have HW : Hid (w.heap.size ≤ w.heap.size) := Nat.le_refl _
  clear HN
  go_enter Try.func3, Try.ntmps3
  go_wp2_with (first
    | (go_at_call 10; refine (HNE.out).mono ?_; rintro e w1 ⟨D, rfl, hA1, hb1⟩; have HA1 : Hid (At w1 w.heap.size 4 D (.slice none 0 0) ex0) := hA1; have HB1 := Lib.hid hb1; clear hA1 hb1)
    | (go_at_call 9; with_reducible refine Calls.mono (best0 HA1.out) ?_; rintro e w2 ⟨rfl, hA2, hG2⟩; have HB2 := Lib.hid (HA1.out.below_goes HB1.out HW.out hG2); clear hA2 hG2)
    | (with_reducible refine st_ub rfl _ _ rfl w2.heap.size 0 zub rfl rfl (Blk.ubHas (u := zub) (Blk.new w2 _ _)) ?_; intro w3 hw3
       have HB3 := Lib.hid (HB2.out.trans (show Below w.heap.size w2 w3 from (by rw [hw3.out]; exact Below.setCells _ HB2.out.size _ _ ((Below.refl _ _).alloc HB2.out.size _)))))
    | (go_at_call 11; with_reducible refine Calls.mono (HAL.out _) ?_; rintro e w4 ⟨rfl, hb4⟩; have HB4 := Lib.hid (HB3.out.trans (hb4.mono HB3.out.size)); clear hb4))
  go_ret
  exact ⟨rfl, HB4.out⟩
end Go.Proofs.Ytegcknloemgndaa
