/- Walks: the uber of a sector. -/
import Derived.Test.YtegcknloemgndaaU5
import Derived.Test.YtegcknloemgndaaV11
set_option maxRecDepth 10000
namespace Go.Proofs.Ytegcknloemgndaa
open Go.RowKit

def readB (s : Sec) : Bool := rightU (partsU s) && (secU (partsU s)).same s
def readV (s : Sec) : Ub := if readB s then partsU s else zub
theorem run_neSec (s t : Sec) (w : World) : (binOp .neq 34 (.agg s.cs.toArray) (.agg t.cs.toArray)).run Try.prog w = .ok (.bool (!s.same t)) w := by
  have h := run_eqSec s t w
  unfold Op.equal Op.maxDepth at h
  rw [run_neq_struct, h]
  rfl
theorem ex_neS {o : Oper} {a : Act} {w : World} (x y : Operand) (ho : o.op = .binOp .neq 34 x y 34) (s t : Sec) (hx : a.eval x = .agg s.cs.toArray) (hy : a.eval y = .agg t.cs.toArray) :
    (execOp a.eval o).run Try.prog w = .ok (.value (.bool (!s.same t))) w := by
  unfold execOp
  simp [ho, hx, hy, eqGuard, run_neSec]
section
variable (s : Sec) (w : World)
theorem read_err (h : rightU (partsU s) = false) : Calls Try.prog 14 #[.agg s.cs.toArray] w fun e w' => e = .returned (.tuple #[.agg zub.cs.toArray, .bool false]) ∧ Below w.heap.size w w' := by
  have hz : ∀ w, Sem.run Try.prog (zeroValue 27) w = .ok (.agg zub.cs.toArray) w := zeroUb
  have hzs : ∀ w, Sem.run Try.prog (zeroValue 34) w = .ok (.agg zsec.cs.toArray) w := zeroSec
  have hbz : ∀ w, (Instr.build 27 #[]).run Try.prog w = .ok (.agg zub.cs.toArray) w := buildZU
  have HP := Lib.hid (parts_any s)
  have HY := Lib.hid (ubytes_any (partsU s))
  rw [bytesS_f h, bytesC_f h] at HY
  have HB0 := Lib.hid (baseS_new w s)
  clear h
  generalize partsU s = p at *
  go_enter Try.func14, Try.ntmps14
  go_wp2_with (first
    | (with_reducible refine st_ub rfl _ _ rfl (w.heap.size + 1) 0 zub rfl rfl HB4.out.ub.ubHas ?_; intro w5 hw5)
    | (with_reducible refine ld_sec rfl _ rfl w.heap.size 0 s rfl HB0.out.sec.secIs ?_)
    | (go_at_call 42; refine (HP.out _).mono ?_; rintro e w1 ⟨rfl, hb1⟩; have HB1 := Lib.hid (HB0.out.next hb1); clear hb1)
    | (with_reducible refine st_ub rfl _ _ rfl w1.heap.size 0 p rfl rfl (Blk.ubHas (u := zub) (Blk.new w1 _ _)) ?_; intro w2 hw2
       have HU2 : Hid (Blk w2 w1.heap.size 27 p.cs.toArray) := by rw [hw2.out]; exact Blk.ubAll (u := zub) (Blk.new w1 _ _) p
       have HB2 := Lib.hid (HB1.out.next (w'' := w2) (by rw [hw2.out]; exact Below.setCells _ (Nat.le_refl _) _ _ ((Below.refl _ _).alloc (Nat.le_refl _) _))))
    | (with_reducible refine ld_ub rfl _ rfl w1.heap.size 0 p rfl HU2.out.ubIs ?_)
    | (go_at_call 12; refine (HY.out _).mono ?_; rintro e w3 ⟨rfl, hb3⟩; have HB3 := Lib.hid (HB2.out.next hb3); clear hb3)
    | (with_reducible refine st_sec rfl _ _ rfl w3.heap.size 0 zsec rfl rfl (Blk.secHas (s := zsec) (Blk.new w3 _ _)) ?_; intro w4 hw4
       have HB4 := Lib.hid (HB3.out.next (w'' := w4) (by rw [hw4.out]; exact Below.setCells _ (Nat.le_refl _) _ _ ((Below.refl _ _).alloc (Nat.le_refl _) _)))))
  have hb2 : Blk w5 (w.heap.size + 1) 27 zub.cs.toArray := by rw [hw5.out]; exact HB4.out.ub.ubAll _
  exact bodyPost_ret (results_row_tmp rfl _ _ _ _ _ _ _ rfl hb2 Try.underlying27 rfl (sizeUb'' zub)) rfl ⟨rfl, by rw [hw5.out]; exact Below.setCells _ (by omega) _ _ HB4.out.below⟩
theorem uread_yes (h : rightU (partsU s) = true) (hs : (secU (partsU s)).same s = true) : Calls Try.prog 14 #[.agg s.cs.toArray] w fun e w' => e = .returned (.tuple #[.agg (partsU s).cs.toArray, .bool true]) ∧ Below w.heap.size w w' := by
  have hz : ∀ w, Sem.run Try.prog (zeroValue 27) w = .ok (.agg zub.cs.toArray) w := zeroUb
  have hzs : ∀ w, Sem.run Try.prog (zeroValue 34) w = .ok (.agg zsec.cs.toArray) w := zeroSec
  have hbz : ∀ w, (Instr.build 27 #[]).run Try.prog w = .ok (.agg zub.cs.toArray) w := buildZU
  have HP := Lib.hid (parts_any s)
  have HY := Lib.hid (ubytes_any (partsU s))
  rw [bytesS_t h, bytesC_t h] at HY
  have HB0 := Lib.hid (baseS_new w s)
  clear h
  have HSM := Lib.hid hs
  clear hs
  generalize secU (partsU s) = x at *
  generalize partsU s = p at *
  go_enter Try.func14, Try.ntmps14
  go_wp2_with (first
    | (with_reducible refine st_ub rfl _ _ rfl (w.heap.size + 1) 0 p rfl rfl HB4.out.ub.ubHas ?_; intro w5 hw5)
    | (with_reducible refine ld_sec rfl _ rfl w.heap.size 0 s rfl HB0.out.sec.secIs ?_)
    | (go_at_call 42; refine (HP.out _).mono ?_; rintro e w1 ⟨rfl, hb1⟩; have HB1 := Lib.hid (HB0.out.next hb1); clear hb1)
    | (with_reducible refine st_ub rfl _ _ rfl w1.heap.size 0 p rfl rfl (Blk.ubHas (u := zub) (Blk.new w1 _ _)) ?_; intro w2 hw2
       have HU2 : Hid (Blk w2 w1.heap.size 27 p.cs.toArray) := by rw [hw2.out]; exact Blk.ubAll (u := zub) (Blk.new w1 _ _) p
       have HB2 := Lib.hid (HB1.out.next (w'' := w2) (by rw [hw2.out]; exact Below.setCells _ (Nat.le_refl _) _ _ ((Below.refl _ _).alloc (Nat.le_refl _) _))))
    | (with_reducible refine ld_ub rfl _ rfl w1.heap.size 0 p rfl HU2.out.ubIs ?_)
    | (go_at_call 12; refine (HY.out _).mono ?_; rintro e w3 ⟨rfl, hb3⟩; have HB3 := Lib.hid (HB2.out.next hb3); have hb3' := hb3; clear hb3)
    | (with_reducible refine st_sec rfl _ _ rfl w3.heap.size 0 x rfl rfl (Blk.secHas (s := zsec) (Blk.new w3 _ _)) ?_; intro w4 hw4
       have HB4 := Lib.hid (HB3.out.next (w'' := w4) (by rw [hw4.out]; exact Below.setCells _ (Nat.le_refl _) _ _ ((Below.refl _ _).alloc (Nat.le_refl _) _)))
       have HU4 := Lib.hid (HU2.out.below hb3' (HU2.out.lt) |>.below (w' := w4) (B := w3.heap.size) (by rw [hw4.out]; exact Below.setCells _ (Nat.le_refl _) _ _ ((Below.refl _ _).alloc (Nat.le_refl _) _)) (Nat.lt_of_lt_of_le HU2.out.lt hb3'.size))
       have HS4 : Hid (Blk w4 w3.heap.size 34 x.cs.toArray) := by rw [hw4.out]; exact Blk.secAll (s := zsec) (Blk.new w3 _ _) x)
    | (refine wpList_val (by rfl) _ (ex_ld (.tmp 5) rfl w3.heap.size 0 x rfl HS4.out.secIs) ?_)
    | (refine wpList_val (by rfl) _ (ex_ld (.tmp 1) rfl w.heap.size 0 s rfl HB4.out.sec.secIs) ?_)
    | (refine wpList_val (by rfl) _ (ex_neS (.tmp 17) (.tmp 18) rfl x s rfl rfl) ?_; rw [HSM.out])
    | (with_reducible refine ld_ub rfl _ rfl w1.heap.size 0 p rfl HU4.out.ubIs ?_))
  have hb2 : Blk w5 (w.heap.size + 1) 27 p.cs.toArray := by rw [hw5.out]; exact HB4.out.ub.ubAll _
  exact bodyPost_ret (results_row_tmp rfl _ _ _ _ _ _ _ rfl hb2 Try.underlying27 rfl (sizeUb'' p)) rfl ⟨rfl, by rw [hw5.out]; exact Below.setCells _ (by omega) _ _ HB4.out.below⟩
theorem uread_un (h : rightU (partsU s) = true) (hs : (secU (partsU s)).same s = false) : Calls Try.prog 14 #[.agg s.cs.toArray] w fun e w' => e = .returned (.tuple #[.agg zub.cs.toArray, .bool false]) ∧ Below w.heap.size w w' := by
  have hz : ∀ w, Sem.run Try.prog (zeroValue 27) w = .ok (.agg zub.cs.toArray) w := zeroUb
  have hzs : ∀ w, Sem.run Try.prog (zeroValue 34) w = .ok (.agg zsec.cs.toArray) w := zeroSec
  have hbz : ∀ w, (Instr.build 27 #[]).run Try.prog w = .ok (.agg zub.cs.toArray) w := buildZU
  have HP := Lib.hid (parts_any s)
  have HY := Lib.hid (ubytes_any (partsU s))
  rw [bytesS_t h, bytesC_t h] at HY
  have HB0 := Lib.hid (baseS_new w s)
  clear h
  have HSM := Lib.hid hs
  clear hs
  generalize secU (partsU s) = x at *
  generalize partsU s = p at *
  go_enter Try.func14, Try.ntmps14
  go_wp2_with (first
    | (with_reducible refine st_ub rfl _ _ rfl (w.heap.size + 1) 0 zub rfl rfl HB4.out.ub.ubHas ?_; intro w5 hw5)
    | (with_reducible refine ld_sec rfl _ rfl w.heap.size 0 s rfl HB0.out.sec.secIs ?_)
    | (go_at_call 42; refine (HP.out _).mono ?_; rintro e w1 ⟨rfl, hb1⟩; have HB1 := Lib.hid (HB0.out.next hb1); clear hb1)
    | (with_reducible refine st_ub rfl _ _ rfl w1.heap.size 0 p rfl rfl (Blk.ubHas (u := zub) (Blk.new w1 _ _)) ?_; intro w2 hw2
       have HU2 : Hid (Blk w2 w1.heap.size 27 p.cs.toArray) := by rw [hw2.out]; exact Blk.ubAll (u := zub) (Blk.new w1 _ _) p
       have HB2 := Lib.hid (HB1.out.next (w'' := w2) (by rw [hw2.out]; exact Below.setCells _ (Nat.le_refl _) _ _ ((Below.refl _ _).alloc (Nat.le_refl _) _))))
    | (with_reducible refine ld_ub rfl _ rfl w1.heap.size 0 p rfl HU2.out.ubIs ?_)
    | (go_at_call 12; refine (HY.out _).mono ?_; rintro e w3 ⟨rfl, hb3⟩; have HB3 := Lib.hid (HB2.out.next hb3); have hb3' := hb3; clear hb3)
    | (with_reducible refine st_sec rfl _ _ rfl w3.heap.size 0 x rfl rfl (Blk.secHas (s := zsec) (Blk.new w3 _ _)) ?_; intro w4 hw4
       have HB4 := Lib.hid (HB3.out.next (w'' := w4) (by rw [hw4.out]; exact Below.setCells _ (Nat.le_refl _) _ _ ((Below.refl _ _).alloc (Nat.le_refl _) _)))
       have HU4 := Lib.hid (HU2.out.below hb3' (HU2.out.lt) |>.below (w' := w4) (B := w3.heap.size) (by rw [hw4.out]; exact Below.setCells _ (Nat.le_refl _) _ _ ((Below.refl _ _).alloc (Nat.le_refl _) _)) (Nat.lt_of_lt_of_le HU2.out.lt hb3'.size))
       have HS4 : Hid (Blk w4 w3.heap.size 34 x.cs.toArray) := by rw [hw4.out]; exact Blk.secAll (s := zsec) (Blk.new w3 _ _) x)
    | (refine wpList_val (by rfl) _ (ex_ld (.tmp 5) rfl w3.heap.size 0 x rfl HS4.out.secIs) ?_)
    | (refine wpList_val (by rfl) _ (ex_ld (.tmp 1) rfl w.heap.size 0 s rfl HB4.out.sec.secIs) ?_)
    | (refine wpList_val (by rfl) _ (ex_neS (.tmp 17) (.tmp 18) rfl x s rfl rfl) ?_; rw [HSM.out])
    | (with_reducible refine ld_ub rfl _ rfl w1.heap.size 0 p rfl HU4.out.ubIs ?_))
  have hb2 : Blk w5 (w.heap.size + 1) 27 zub.cs.toArray := by rw [hw5.out]; exact HB4.out.ub.ubAll _
  exact bodyPost_ret (results_row_tmp rfl _ _ _ _ _ _ _ rfl hb2 Try.underlying27 rfl (sizeUb'' zub)) rfl ⟨rfl, by rw [hw5.out]; exact Below.setCells _ (by omega) _ _ HB4.out.below⟩
theorem uread_any : Calls Try.prog 14 #[.agg s.cs.toArray] w fun e w' => e = .returned (.tuple #[.agg (readV s).cs.toArray, .bool (readB s)]) ∧ Below w.heap.size w w' := by
  unfold readV
  rcases h : rightU (partsU s) with _ | _
  · have e : readB s = false := by simp [readB, h]
    rw [e, if_neg (by simp)]
    exact read_err s w h
  · rcases hs : (secU (partsU s)).same s with _ | _
    · have e : readB s = false := by simp [readB, hs]
      rw [e, if_neg (by simp)]
      exact uread_un s w h hs
    · have e : readB s = true := by simp [readB, h, hs]
      rw [e, if_pos rfl]
      exact uread_yes s w h hs
end
end Go.Proofs.Ytegcknloemgndaa
