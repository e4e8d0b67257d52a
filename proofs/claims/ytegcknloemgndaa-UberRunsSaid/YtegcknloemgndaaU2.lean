/- Walks: whether an uber can be, program and reference. Printed by genu2.py. -/
import Derived.Test.YtegcknloemgndaaU1
set_option maxRecDepth 10000
namespace Go.Proofs.Ytegcknloemgndaa
open Go.RowKit

theorem right_can {a b s : Int} (h : rightF a b s = true) (hh : holeF a b s = false) : 4 ≤ a ∧ a ≤ 1023 ∧ 1 ≤ b ∧ b ≤ 281474976710655 := by
  simp only [rightF, hh, Bool.false_or, canF, Bool.and_eq_true, decide_eq_true_eq] at h
  omega
theorem right_cannot {a b s : Int} (h : rightF a b s = false) : ¬ (4 ≤ a ∧ a ≤ 1023 ∧ 1 ≤ b ∧ b ≤ 281474976710655) := by
  intro hc
  have := can_yes (a := a) (b := b) (by omega)
  simp [rightF, this] at h
theorem hole_at {a b s : Int} (h : holeF a b s = true) : a = 0 := by
  simp only [holeF, Bool.and_eq_true, beq_iff_eq] at h
  omega
theorem stampF_t {n : Nat} (h : stampF n = true) : 1 ≤ n ∧ n ≤ 281474976710655 := by simpa [stampF] using h
theorem stampF_f {n : Nat} (h : stampF n = false) : ¬ (1 ≤ n ∧ n ≤ 281474976710655) := by
  intro hc
  simp [stampF] at h
  omega
theorem rightU_t {u : Ub} (h : okU u) : rightU u = true := decide_eq_true h
theorem rightU_f {u : Ub} (h : ¬ okU u) : rightU u = false := decide_eq_false h
theorem ok_of {u : Ub} (h : rightU u = true) : okU u := of_decide_eq_true h
/-- '!=' of two pointers. -/
theorem run_neP (a b s a' b' s' : Int) (w : World) : (binOp .neq 25 (ptv a b s) (ptv a' b' s')).run Try.prog w = .ok (.bool (!(a == a' && b == b' && s == s'))) w := by
  have u1 := Try.underlying3
  have u2 := Try.underlying22
  have u3 := Try.underlying23
  have c1 : Try.prog.cellsOf 3 = 1 := by kernel_rfl
  have c2 : Try.prog.cellsOf 22 = 1 := by kernel_rfl
  have c3 : Try.prog.cellsOf 23 = 1 := by kernel_rfl
  rw [run_neq_struct, show (10000 : Nat) = 9999 + 1 from rfl, run_equalIn_agg w 9999 25 _ _ ptr_struct ptr_plain]
  simp only [Program.fieldsOf, Try.underlying25]
  go_simp
  by_cases h1 : a = a' <;> by_cases h2 : b = b' <;> by_cases h3 : s = s' <;> simp [h1, h2, h3]
theorem run_neHole (a b s : Int) (x : Bool) (hx : holeF a b s = x) (w : World) : (binOp .neq 25 (ptv a b s) (ptv 0 0 0)).run Try.prog w = .ok (.bool (!x)) w := by
  rw [run_neP, ← hx]
  rfl
theorem ub_here {w w1 : World} {u : Ub} (h : Below (w.alloc (.cells u.cs.toArray 27)).heap.size (w.alloc (.cells u.cs.toArray 27)) w1) : Blk w1 w.heap.size 27 u.cs.toArray :=
  (ub_new w u).below h (by simp)
theorem ub_below {w w1 : World} {o : Obj} (h : Below (w.alloc o).heap.size (w.alloc o) w1) : Below w.heap.size w w1 :=
  (((Below.refl w.heap.size w).alloc (by omega) _).trans (h.mono (by simp)))

section
variable (u : Ub)
/-- Its Right, way 0. -/
theorem right_way0 (h0 : stampF u.txg = false) (w : World) : Calls Try.prog 16 #[.agg u.cs.toArray] w fun e w' => e = .returned (.bool false) ∧ Below w.heap.size w w' := by
  have HS := Lib.hid stamp_any
  have st0 := Lib.hid (stamp_any u.txg)
  rw [h0] at st0
  have HB := Lib.hid (ub_new w u)
  obtain ⟨c0, c1, c2, c3, c4, c5, c6⟩ := (ub_new w u).ubF
  clear h0 HS
  go_enter Try.func16, Try.ntmps16
  go_wp2_with (first
    | (go_at_call 45; first | (with_reducible refine Calls.mono (st0.out _) ?_; rintro e w' ⟨rfl, rfl⟩)))
  go_ret
  exact ⟨ret_bool (by first | rfl | (simp; omega) | simp), (Below.refl _ _).alloc (by omega) _⟩
/-- Its Right, way 1. -/
theorem right_way1 (h0 : stampF u.txg = true) (h1 : stampF u.stamp = false) (w : World) : Calls Try.prog 16 #[.agg u.cs.toArray] w fun e w' => e = .returned (.bool false) ∧ Below w.heap.size w w' := by
  have HS := Lib.hid stamp_any
  have st0 := Lib.hid (stamp_any u.txg)
  rw [h0] at st0
  have st1 := Lib.hid (stamp_any u.stamp)
  rw [h1] at st1
  have HB := Lib.hid (ub_new w u)
  obtain ⟨c0, c1, c2, c3, c4, c5, c6⟩ := (ub_new w u).ubF
  clear h0 h1 HS
  go_enter Try.func16, Try.ntmps16
  go_wp2_with (first
    | (go_at_call 45; first | (with_reducible refine Calls.mono (st0.out _) ?_; rintro e w' ⟨rfl, rfl⟩) | (with_reducible refine Calls.mono (st1.out _) ?_; rintro e w' ⟨rfl, rfl⟩)))
  go_ret
  exact ⟨ret_bool (by first | rfl | (simp; omega) | simp), (Below.refl _ _).alloc (by omega) _⟩
/-- Its Right, way 2. -/
theorem right_way2 (h0 : stampF u.txg = true) (h1 : stampF u.stamp = true) (h2 : rightF u.at_ u.birth u.sum = false) (w : World) : Calls Try.prog 16 #[.agg u.cs.toArray] w fun e w' => e = .returned (.bool false) ∧ Below w.heap.size w w' := by
  have HS := Lib.hid stamp_any
  have st0 := Lib.hid (stamp_any u.txg)
  rw [h0] at st0
  have st1 := Lib.hid (stamp_any u.stamp)
  rw [h1] at st1
  have rt := Lib.hid (right_any u.at_ u.birth u.sum)
  rw [h2] at rt
  have HB := Lib.hid (ub_new w u)
  obtain ⟨c0, c1, c2, c3, c4, c5, c6⟩ := (ub_new w u).ubF
  clear h0 h1 h2 HS
  go_enter Try.func16, Try.ntmps16
  go_wp2_with (first
    | (go_at_call 45; first | (with_reducible refine Calls.mono (st0.out _) ?_; rintro e w' ⟨rfl, rfl⟩) | (with_reducible refine Calls.mono (st1.out _) ?_; rintro e w' ⟨rfl, rfl⟩))
    | (with_reducible refine ld_ptrU rfl _ rfl w.heap.size _ u rfl HB.out ?_)
    | (go_at_call 46; with_reducible refine Calls.mono (rt.out _) ?_; rintro e w1 ⟨rfl, hb1⟩; have hB1 := Lib.hid (ub_here hb1); obtain ⟨d0, d1, d2, d3, d4, d5, d6⟩ := (ub_here hb1).ubF))
  go_ret
  exact ⟨ret_bool (by first | rfl | (simp; omega) | simp), ub_below hb1⟩
/-- Its Right, way 3. -/
theorem right_way3 (h0 : stampF u.txg = true) (h1 : stampF u.stamp = true) (h2 : rightF u.at_ u.birth u.sum = true) (h3 : holeF u.at_ u.birth u.sum = true) (w : World) : Calls Try.prog 16 #[.agg u.cs.toArray] w fun e w' => e = .returned (.bool false) ∧ Below w.heap.size w w' := by
  have HS := Lib.hid stamp_any
  have st0 := Lib.hid (stamp_any u.txg)
  rw [h0] at st0
  have st1 := Lib.hid (stamp_any u.stamp)
  rw [h1] at st1
  have rt := Lib.hid (right_any u.at_ u.birth u.sum)
  rw [h2] at rt
  have hne := run_neHole u.at_ u.birth u.sum _ h3
  have hbz : ∀ w, (Instr.build 25 #[]).run Try.prog w = .ok (ptv 0 0 0) w := fun w => run_build w _ _ _ (by kernel_rfl)
  have HB := Lib.hid (ub_new w u)
  obtain ⟨c0, c1, c2, c3, c4, c5, c6⟩ := (ub_new w u).ubF
  clear h0 h1 h2 h3 HS
  go_enter Try.func16, Try.ntmps16
  go_wp2_with (first
    | (go_at_call 45; first | (with_reducible refine Calls.mono (st0.out _) ?_; rintro e w' ⟨rfl, rfl⟩) | (with_reducible refine Calls.mono (st1.out _) ?_; rintro e w' ⟨rfl, rfl⟩))
    | (with_reducible refine ld_ptrU rfl _ rfl w.heap.size _ u rfl HB.out ?_)
    | (go_at_call 46; with_reducible refine Calls.mono (rt.out _) ?_; rintro e w1 ⟨rfl, hb1⟩; have hB1 := Lib.hid (ub_here hb1); obtain ⟨d0, d1, d2, d3, d4, d5, d6⟩ := (ub_here hb1).ubF)
    | (with_reducible refine ld_ptrU rfl _ rfl w.heap.size _ u rfl hB1.out ?_))
  go_ret
  exact ⟨ret_bool (by first | rfl | (simp; omega) | simp), ub_below hb1⟩
/-- Its Right, way 4. -/
theorem right_way4 (h0 : stampF u.txg = true) (h1 : stampF u.stamp = true) (h2 : rightF u.at_ u.birth u.sum = true) (h3 : holeF u.at_ u.birth u.sum = false) (h4 : ¬ 1 ≤ u.len) (w : World) : Calls Try.prog 16 #[.agg u.cs.toArray] w fun e w' => e = .returned (.bool false) ∧ Below w.heap.size w w' := by
  have HS := Lib.hid stamp_any
  have st0 := Lib.hid (stamp_any u.txg)
  rw [h0] at st0
  have st1 := Lib.hid (stamp_any u.stamp)
  rw [h1] at st1
  have rt := Lib.hid (right_any u.at_ u.birth u.sum)
  rw [h2] at rt
  have hne := run_neHole u.at_ u.birth u.sum _ h3
  have hbz : ∀ w, (Instr.build 25 #[]).run Try.prog w = .ok (ptv 0 0 0) w := fun w => run_build w _ _ _ (by kernel_rfl)
  have HB := Lib.hid (ub_new w u)
  obtain ⟨c0, c1, c2, c3, c4, c5, c6⟩ := (ub_new w u).ubF
  clear h0 h1 h2 h3 HS
  go_enter Try.func16, Try.ntmps16
  go_wp2_with (first
    | (go_at_call 45; first | (with_reducible refine Calls.mono (st0.out _) ?_; rintro e w' ⟨rfl, rfl⟩) | (with_reducible refine Calls.mono (st1.out _) ?_; rintro e w' ⟨rfl, rfl⟩))
    | (with_reducible refine ld_ptrU rfl _ rfl w.heap.size _ u rfl HB.out ?_)
    | (go_at_call 46; with_reducible refine Calls.mono (rt.out _) ?_; rintro e w1 ⟨rfl, hb1⟩; have hB1 := Lib.hid (ub_here hb1); obtain ⟨d0, d1, d2, d3, d4, d5, d6⟩ := (ub_here hb1).ubF)
    | (with_reducible refine ld_ptrU rfl _ rfl w.heap.size _ u rfl hB1.out ?_))
  go_ret
  exact ⟨ret_bool (by first | rfl | (simp; omega) | simp), ub_below hb1⟩
/-- Its Right, way 5. -/
theorem right_way5 (h0 : stampF u.txg = true) (h1 : stampF u.stamp = true) (h2 : rightF u.at_ u.birth u.sum = true) (h3 : holeF u.at_ u.birth u.sum = false) (h4 : 1 ≤ u.len) (h5 : ¬ u.len ≤ 65535) (w : World) : Calls Try.prog 16 #[.agg u.cs.toArray] w fun e w' => e = .returned (.bool false) ∧ Below w.heap.size w w' := by
  have HS := Lib.hid stamp_any
  have st0 := Lib.hid (stamp_any u.txg)
  rw [h0] at st0
  have st1 := Lib.hid (stamp_any u.stamp)
  rw [h1] at st1
  have rt := Lib.hid (right_any u.at_ u.birth u.sum)
  rw [h2] at rt
  have hne := run_neHole u.at_ u.birth u.sum _ h3
  have hbz : ∀ w, (Instr.build 25 #[]).run Try.prog w = .ok (ptv 0 0 0) w := fun w => run_build w _ _ _ (by kernel_rfl)
  have HB := Lib.hid (ub_new w u)
  obtain ⟨c0, c1, c2, c3, c4, c5, c6⟩ := (ub_new w u).ubF
  clear h0 h1 h2 h3 HS
  go_enter Try.func16, Try.ntmps16
  go_wp2_with (first
    | (go_at_call 45; first | (with_reducible refine Calls.mono (st0.out _) ?_; rintro e w' ⟨rfl, rfl⟩) | (with_reducible refine Calls.mono (st1.out _) ?_; rintro e w' ⟨rfl, rfl⟩))
    | (with_reducible refine ld_ptrU rfl _ rfl w.heap.size _ u rfl HB.out ?_)
    | (go_at_call 46; with_reducible refine Calls.mono (rt.out _) ?_; rintro e w1 ⟨rfl, hb1⟩; have hB1 := Lib.hid (ub_here hb1); obtain ⟨d0, d1, d2, d3, d4, d5, d6⟩ := (ub_here hb1).ubF)
    | (with_reducible refine ld_ptrU rfl _ rfl w.heap.size _ u rfl hB1.out ?_))
  go_ret
  exact ⟨ret_bool (by first | rfl | (simp; omega) | simp), ub_below hb1⟩
/-- Its Right, way 6. -/
theorem right_way6 (h0 : stampF u.txg = true) (h1 : stampF u.stamp = true) (h2 : rightF u.at_ u.birth u.sum = true) (h3 : holeF u.at_ u.birth u.sum = false) (h4 : 1 ≤ u.len) (h5 : u.len ≤ 65535) (h6 : ¬ 64 ≤ u.secs) (w : World) : Calls Try.prog 16 #[.agg u.cs.toArray] w fun e w' => e = .returned (.bool false) ∧ Below w.heap.size w w' := by
  have HS := Lib.hid stamp_any
  have st0 := Lib.hid (stamp_any u.txg)
  rw [h0] at st0
  have st1 := Lib.hid (stamp_any u.stamp)
  rw [h1] at st1
  have rt := Lib.hid (right_any u.at_ u.birth u.sum)
  rw [h2] at rt
  have hne := run_neHole u.at_ u.birth u.sum _ h3
  have hbz : ∀ w, (Instr.build 25 #[]).run Try.prog w = .ok (ptv 0 0 0) w := fun w => run_build w _ _ _ (by kernel_rfl)
  have HB := Lib.hid (ub_new w u)
  obtain ⟨c0, c1, c2, c3, c4, c5, c6⟩ := (ub_new w u).ubF
  clear h0 h1 h2 h3 HS
  go_enter Try.func16, Try.ntmps16
  go_wp2_with (first
    | (go_at_call 45; first | (with_reducible refine Calls.mono (st0.out _) ?_; rintro e w' ⟨rfl, rfl⟩) | (with_reducible refine Calls.mono (st1.out _) ?_; rintro e w' ⟨rfl, rfl⟩))
    | (with_reducible refine ld_ptrU rfl _ rfl w.heap.size _ u rfl HB.out ?_)
    | (go_at_call 46; with_reducible refine Calls.mono (rt.out _) ?_; rintro e w1 ⟨rfl, hb1⟩; have hB1 := Lib.hid (ub_here hb1); obtain ⟨d0, d1, d2, d3, d4, d5, d6⟩ := (ub_here hb1).ubF)
    | (with_reducible refine ld_ptrU rfl _ rfl w.heap.size _ u rfl hB1.out ?_))
  go_ret
  exact ⟨ret_bool (by first | rfl | (simp; omega) | simp), ub_below hb1⟩
/-- Its Right, way 7. -/
theorem right_way7 (h0 : stampF u.txg = true) (h1 : stampF u.stamp = true) (h2 : rightF u.at_ u.birth u.sum = true) (h3 : holeF u.at_ u.birth u.sum = false) (h4 : 1 ≤ u.len) (h5 : u.len ≤ 65535) (h6 : 64 ≤ u.secs) (h7 : ¬ u.secs ≤ 1024) (w : World) : Calls Try.prog 16 #[.agg u.cs.toArray] w fun e w' => e = .returned (.bool false) ∧ Below w.heap.size w w' := by
  have HS := Lib.hid stamp_any
  have st0 := Lib.hid (stamp_any u.txg)
  rw [h0] at st0
  have st1 := Lib.hid (stamp_any u.stamp)
  rw [h1] at st1
  have rt := Lib.hid (right_any u.at_ u.birth u.sum)
  rw [h2] at rt
  have hne := run_neHole u.at_ u.birth u.sum _ h3
  have hbz : ∀ w, (Instr.build 25 #[]).run Try.prog w = .ok (ptv 0 0 0) w := fun w => run_build w _ _ _ (by kernel_rfl)
  have HB := Lib.hid (ub_new w u)
  obtain ⟨c0, c1, c2, c3, c4, c5, c6⟩ := (ub_new w u).ubF
  clear h0 h1 h2 h3 HS
  go_enter Try.func16, Try.ntmps16
  go_wp2_with (first
    | (go_at_call 45; first | (with_reducible refine Calls.mono (st0.out _) ?_; rintro e w' ⟨rfl, rfl⟩) | (with_reducible refine Calls.mono (st1.out _) ?_; rintro e w' ⟨rfl, rfl⟩))
    | (with_reducible refine ld_ptrU rfl _ rfl w.heap.size _ u rfl HB.out ?_)
    | (go_at_call 46; with_reducible refine Calls.mono (rt.out _) ?_; rintro e w1 ⟨rfl, hb1⟩; have hB1 := Lib.hid (ub_here hb1); obtain ⟨d0, d1, d2, d3, d4, d5, d6⟩ := (ub_here hb1).ubF)
    | (with_reducible refine ld_ptrU rfl _ rfl w.heap.size _ u rfl hB1.out ?_))
  go_ret
  exact ⟨ret_bool (by first | rfl | (simp; omega) | simp), ub_below hb1⟩
/-- Its Right, way 8. -/
theorem right_way8 (h0 : stampF u.txg = true) (h1 : stampF u.stamp = true) (h2 : rightF u.at_ u.birth u.sum = true) (h3 : holeF u.at_ u.birth u.sum = false) (h4 : 1 ≤ u.len) (h5 : u.len ≤ 65535) (h6 : 64 ≤ u.secs) (h7 : u.secs ≤ 1024) (w : World) : Calls Try.prog 16 #[.agg u.cs.toArray] w fun e w' => e = .returned (.bool true) ∧ Below w.heap.size w w' := by
  have HS := Lib.hid stamp_any
  have st0 := Lib.hid (stamp_any u.txg)
  rw [h0] at st0
  have st1 := Lib.hid (stamp_any u.stamp)
  rw [h1] at st1
  have rt := Lib.hid (right_any u.at_ u.birth u.sum)
  rw [h2] at rt
  have hne := run_neHole u.at_ u.birth u.sum _ h3
  have hbz : ∀ w, (Instr.build 25 #[]).run Try.prog w = .ok (ptv 0 0 0) w := fun w => run_build w _ _ _ (by kernel_rfl)
  have HB := Lib.hid (ub_new w u)
  obtain ⟨c0, c1, c2, c3, c4, c5, c6⟩ := (ub_new w u).ubF
  clear h0 h1 h2 h3 HS
  go_enter Try.func16, Try.ntmps16
  go_wp2_with (first
    | (go_at_call 45; first | (with_reducible refine Calls.mono (st0.out _) ?_; rintro e w' ⟨rfl, rfl⟩) | (with_reducible refine Calls.mono (st1.out _) ?_; rintro e w' ⟨rfl, rfl⟩))
    | (with_reducible refine ld_ptrU rfl _ rfl w.heap.size _ u rfl HB.out ?_)
    | (go_at_call 46; with_reducible refine Calls.mono (rt.out _) ?_; rintro e w1 ⟨rfl, hb1⟩; have hB1 := Lib.hid (ub_here hb1); obtain ⟨d0, d1, d2, d3, d4, d5, d6⟩ := (ub_here hb1).ubF)
    | (with_reducible refine ld_ptrU rfl _ rfl w.heap.size _ u rfl hB1.out ?_))
  go_ret
  exact ⟨ret_bool (by first | rfl | (simp; omega) | simp), ub_below hb1⟩
theorem uright_any (w : World) : Calls Try.prog 16 #[.agg u.cs.toArray] w fun e w' => e = .returned (.bool (rightU u)) ∧ Below w.heap.size w w' := by
  rcases h0 : stampF u.txg with _ | _
  · rw [rightU_f (fun h => stampF_f h0 h.1)]; exact right_way0 u h0 w
  rcases h1 : stampF u.stamp with _ | _
  · rw [rightU_f (fun h => stampF_f h1 h.2.1)]; exact right_way1 u h0 h1 w
  rcases h2 : rightF u.at_ u.birth u.sum with _ | _
  · rw [rightU_f (fun h => right_cannot h2 (by have := h.2.2.1; omega))]; exact right_way2 u h0 h1 h2 w
  rcases h3 : holeF u.at_ u.birth u.sum with _ | _
  case true => rw [rightU_f (fun h => by have := h.2.2.1; have := hole_at h3; omega)]; exact right_way3 u h0 h1 h2 h3 w
  have g0 := stampF_t h0
  have g1 := stampF_t h1
  have g2 := right_can h2 h3
  by_cases h4 : 1 ≤ u.len
  case neg => rw [rightU_f (fun h => h4 h.2.2.2.1.1)]; exact right_way4 u h0 h1 h2 h3 h4 w
  by_cases h5 : u.len ≤ 65535
  case neg => rw [rightU_f (fun h => h5 h.2.2.2.1.2)]; exact right_way5 u h0 h1 h2 h3 h4 h5 w
  by_cases h6 : 64 ≤ u.secs
  case neg => rw [rightU_f (fun h => h6 h.2.2.2.2.1)]; exact right_way6 u h0 h1 h2 h3 h4 h5 h6 w
  by_cases h7 : u.secs ≤ 1024
  case neg => rw [rightU_f (fun h => h7 h.2.2.2.2.2)]; exact right_way7 u h0 h1 h2 h3 h4 h5 h6 h7 w
  rw [rightU_t ⟨g0, g1, by omega, ⟨h4, h5⟩, h6, h7⟩]
  exact right_way8 u h0 h1 h2 h3 h4 h5 h6 h7 w

theorem rright_way0 (h0 : ¬ 1 ≤ (u.txg : Int)) (w : World) : Calls Try.prog 17 #[.agg u.cs.toArray] w fun e w' => e = .returned (.bool false) ∧ Below w.heap.size w w' := by
  have HB := Lib.hid (ub_new w u)
  obtain ⟨c0, c1, c2, c3, c4, c5, c6⟩ := (ub_new w u).ubF
  go_enter Try.func17, Try.ntmps17
  go_wp2_with fail
  go_ret
  exact ⟨ret_bool (by first | rfl | (simp; omega) | simp), (Below.refl _ _).alloc (by omega) _⟩
theorem rright_way1 (h0 : 1 ≤ (u.txg : Int)) (h1 : ¬ (u.txg : Int) < 281474976710656) (w : World) : Calls Try.prog 17 #[.agg u.cs.toArray] w fun e w' => e = .returned (.bool false) ∧ Below w.heap.size w w' := by
  have HB := Lib.hid (ub_new w u)
  obtain ⟨c0, c1, c2, c3, c4, c5, c6⟩ := (ub_new w u).ubF
  go_enter Try.func17, Try.ntmps17
  go_wp2_with fail
  go_ret
  exact ⟨ret_bool (by first | rfl | (simp; omega) | simp), (Below.refl _ _).alloc (by omega) _⟩
theorem rright_way2 (h0 : 1 ≤ (u.txg : Int)) (h1 : (u.txg : Int) < 281474976710656) (h2 : ¬ 1 ≤ (u.stamp : Int)) (w : World) : Calls Try.prog 17 #[.agg u.cs.toArray] w fun e w' => e = .returned (.bool false) ∧ Below w.heap.size w w' := by
  have HB := Lib.hid (ub_new w u)
  obtain ⟨c0, c1, c2, c3, c4, c5, c6⟩ := (ub_new w u).ubF
  go_enter Try.func17, Try.ntmps17
  go_wp2_with fail
  go_ret
  exact ⟨ret_bool (by first | rfl | (simp; omega) | simp), (Below.refl _ _).alloc (by omega) _⟩
theorem rright_way3 (h0 : 1 ≤ (u.txg : Int)) (h1 : (u.txg : Int) < 281474976710656) (h2 : 1 ≤ (u.stamp : Int)) (h3 : ¬ (u.stamp : Int) < 281474976710656) (w : World) : Calls Try.prog 17 #[.agg u.cs.toArray] w fun e w' => e = .returned (.bool false) ∧ Below w.heap.size w w' := by
  have HB := Lib.hid (ub_new w u)
  obtain ⟨c0, c1, c2, c3, c4, c5, c6⟩ := (ub_new w u).ubF
  go_enter Try.func17, Try.ntmps17
  go_wp2_with fail
  go_ret
  exact ⟨ret_bool (by first | rfl | (simp; omega) | simp), (Below.refl _ _).alloc (by omega) _⟩
theorem rright_way4 (h0 : 1 ≤ (u.txg : Int)) (h1 : (u.txg : Int) < 281474976710656) (h2 : 1 ≤ (u.stamp : Int)) (h3 : (u.stamp : Int) < 281474976710656) (h4 : ¬ 1 ≤ u.len) (w : World) : Calls Try.prog 17 #[.agg u.cs.toArray] w fun e w' => e = .returned (.bool false) ∧ Below w.heap.size w w' := by
  have HB := Lib.hid (ub_new w u)
  obtain ⟨c0, c1, c2, c3, c4, c5, c6⟩ := (ub_new w u).ubF
  go_enter Try.func17, Try.ntmps17
  go_wp2_with fail
  go_ret
  exact ⟨ret_bool (by first | rfl | (simp; omega) | simp), (Below.refl _ _).alloc (by omega) _⟩
theorem rright_way5 (h0 : 1 ≤ (u.txg : Int)) (h1 : (u.txg : Int) < 281474976710656) (h2 : 1 ≤ (u.stamp : Int)) (h3 : (u.stamp : Int) < 281474976710656) (h4 : 1 ≤ u.len) (h5 : ¬ u.len ≤ 65535) (w : World) : Calls Try.prog 17 #[.agg u.cs.toArray] w fun e w' => e = .returned (.bool false) ∧ Below w.heap.size w w' := by
  have HB := Lib.hid (ub_new w u)
  obtain ⟨c0, c1, c2, c3, c4, c5, c6⟩ := (ub_new w u).ubF
  go_enter Try.func17, Try.ntmps17
  go_wp2_with fail
  go_ret
  exact ⟨ret_bool (by first | rfl | (simp; omega) | simp), (Below.refl _ _).alloc (by omega) _⟩
theorem rright_way6 (h0 : 1 ≤ (u.txg : Int)) (h1 : (u.txg : Int) < 281474976710656) (h2 : 1 ≤ (u.stamp : Int)) (h3 : (u.stamp : Int) < 281474976710656) (h4 : 1 ≤ u.len) (h5 : u.len ≤ 65535) (h6 : ¬ 64 ≤ u.secs) (w : World) : Calls Try.prog 17 #[.agg u.cs.toArray] w fun e w' => e = .returned (.bool false) ∧ Below w.heap.size w w' := by
  have HB := Lib.hid (ub_new w u)
  obtain ⟨c0, c1, c2, c3, c4, c5, c6⟩ := (ub_new w u).ubF
  go_enter Try.func17, Try.ntmps17
  go_wp2_with fail
  go_ret
  exact ⟨ret_bool (by first | rfl | (simp; omega) | simp), (Below.refl _ _).alloc (by omega) _⟩
theorem rright_way7 (h0 : 1 ≤ (u.txg : Int)) (h1 : (u.txg : Int) < 281474976710656) (h2 : 1 ≤ (u.stamp : Int)) (h3 : (u.stamp : Int) < 281474976710656) (h4 : 1 ≤ u.len) (h5 : u.len ≤ 65535) (_h6 : 64 ≤ u.secs) (h7 : ¬ u.secs ≤ 1024) (w : World) : Calls Try.prog 17 #[.agg u.cs.toArray] w fun e w' => e = .returned (.bool false) ∧ Below w.heap.size w w' := by
  have HB := Lib.hid (ub_new w u)
  obtain ⟨c0, c1, c2, c3, c4, c5, c6⟩ := (ub_new w u).ubF
  have e0 : decide ((u.txg : Int) < 1) = false := decide_eq_false (by omega)
  have e1 : decide (281474976710656 ≤ (u.txg : Int)) = false := decide_eq_false (by omega)
  have e2 : decide ((u.stamp : Int) < 1) = false := decide_eq_false (by omega)
  have e3 : decide (281474976710656 ≤ (u.stamp : Int)) = false := decide_eq_false (by omega)
  have e4 : decide (u.len < 1) = false := decide_eq_false (by omega)
  have e5 : decide (65535 < u.len) = false := decide_eq_false (by omega)
  have e6 : decide (u.secs < 64) = false := decide_eq_false (by omega)
  have e7 : decide (1024 < u.secs) = true := decide_eq_true (by omega)
  clear h0 h1 h2 h3 h4 h5 _h6 h7
  go_enter Try.func17, Try.ntmps17
  go_wp2_with fail
  go_ret
  exact ⟨ret_bool (by first | rfl | (simp; omega) | simp), (Below.refl _ _).alloc (by omega) _⟩
theorem rright_way8 (h0 : 1 ≤ (u.txg : Int)) (h1 : (u.txg : Int) < 281474976710656) (h2 : 1 ≤ (u.stamp : Int)) (h3 : (u.stamp : Int) < 281474976710656) (h4 : 1 ≤ u.len) (h5 : u.len ≤ 65535) (h6 : 64 ≤ u.secs) (h7 : u.secs ≤ 1024) (hr : rightF u.at_ u.birth u.sum = false) (w : World) : Calls Try.prog 17 #[.agg u.cs.toArray] w fun e w' => e = .returned (.bool false) ∧ Below w.heap.size w w' := by
  have rt := Lib.hid (rright_any u.at_ u.birth u.sum (by omega))
  rw [hr] at rt
  clear hr
  have HB := Lib.hid (ub_new w u)
  obtain ⟨c0, c1, c2, c3, c4, c5, c6⟩ := (ub_new w u).ubF
  have e0 : decide ((u.txg : Int) < 1) = false := decide_eq_false (by omega)
  have e1 : decide (281474976710656 ≤ (u.txg : Int)) = false := decide_eq_false (by omega)
  have e2 : decide ((u.stamp : Int) < 1) = false := decide_eq_false (by omega)
  have e3 : decide (281474976710656 ≤ (u.stamp : Int)) = false := decide_eq_false (by omega)
  have e4 : decide (u.len < 1) = false := decide_eq_false (by omega)
  have e5 : decide (65535 < u.len) = false := decide_eq_false (by omega)
  have e6 : decide (u.secs < 64) = false := decide_eq_false (by omega)
  have e7 : decide (1024 < u.secs) = false := decide_eq_false (by omega)
  clear h0 h1 h2 h3 h4 h5 h6 h7
  go_enter Try.func17, Try.ntmps17
  go_wp2_with (first
    | (with_reducible refine ld_ptrU rfl _ rfl w.heap.size _ u rfl HB.out ?_)
    | (go_at_call 47; with_reducible refine Calls.mono (rt.out _) ?_; rintro e w1 ⟨rfl, hb1⟩; obtain ⟨d0, d1, d2, d3, d4, d5, d6⟩ := (ub_here hb1).ubF))
  go_ret
  exact ⟨ret_bool (by first | rfl | (simp; omega) | simp), ub_below hb1⟩
theorem rright_way9 (h0 : 1 ≤ (u.txg : Int)) (h1 : (u.txg : Int) < 281474976710656) (h2 : 1 ≤ (u.stamp : Int)) (h3 : (u.stamp : Int) < 281474976710656) (h4 : 1 ≤ u.len) (h5 : u.len ≤ 65535) (h6 : 64 ≤ u.secs) (h7 : u.secs ≤ 1024) (hr : rightF u.at_ u.birth u.sum = true) (ha : ¬ 0 < u.at_) (w : World) : Calls Try.prog 17 #[.agg u.cs.toArray] w fun e w' => e = .returned (.bool false) ∧ Below w.heap.size w w' := by
  have rt := Lib.hid (rright_any u.at_ u.birth u.sum (by omega))
  rw [hr] at rt
  clear hr
  have HB := Lib.hid (ub_new w u)
  obtain ⟨c0, c1, c2, c3, c4, c5, c6⟩ := (ub_new w u).ubF
  have e0 : decide ((u.txg : Int) < 1) = false := decide_eq_false (by omega)
  have e1 : decide (281474976710656 ≤ (u.txg : Int)) = false := decide_eq_false (by omega)
  have e2 : decide ((u.stamp : Int) < 1) = false := decide_eq_false (by omega)
  have e3 : decide (281474976710656 ≤ (u.stamp : Int)) = false := decide_eq_false (by omega)
  have e4 : decide (u.len < 1) = false := decide_eq_false (by omega)
  have e5 : decide (65535 < u.len) = false := decide_eq_false (by omega)
  have e6 : decide (u.secs < 64) = false := decide_eq_false (by omega)
  have e7 : decide (1024 < u.secs) = false := decide_eq_false (by omega)
  clear h0 h1 h2 h3 h4 h5 h6 h7
  go_enter Try.func17, Try.ntmps17
  go_wp2_with (first
    | (with_reducible refine ld_ptrU rfl _ rfl w.heap.size _ u rfl HB.out ?_)
    | (go_at_call 47; with_reducible refine Calls.mono (rt.out _) ?_; rintro e w1 ⟨rfl, hb1⟩; obtain ⟨d0, d1, d2, d3, d4, d5, d6⟩ := (ub_here hb1).ubF))
  go_ret
  exact ⟨ret_bool (by first | rfl | (simp; omega) | simp), ub_below hb1⟩
theorem rright_way10 (h0 : 1 ≤ (u.txg : Int)) (h1 : (u.txg : Int) < 281474976710656) (h2 : 1 ≤ (u.stamp : Int)) (h3 : (u.stamp : Int) < 281474976710656) (h4 : 1 ≤ u.len) (h5 : u.len ≤ 65535) (h6 : 64 ≤ u.secs) (h7 : u.secs ≤ 1024) (hr : rightF u.at_ u.birth u.sum = true) (ha : 0 < u.at_) (w : World) : Calls Try.prog 17 #[.agg u.cs.toArray] w fun e w' => e = .returned (.bool true) ∧ Below w.heap.size w w' := by
  have rt := Lib.hid (rright_any u.at_ u.birth u.sum (by omega))
  rw [hr] at rt
  clear hr
  have HB := Lib.hid (ub_new w u)
  obtain ⟨c0, c1, c2, c3, c4, c5, c6⟩ := (ub_new w u).ubF
  have e0 : decide ((u.txg : Int) < 1) = false := decide_eq_false (by omega)
  have e1 : decide (281474976710656 ≤ (u.txg : Int)) = false := decide_eq_false (by omega)
  have e2 : decide ((u.stamp : Int) < 1) = false := decide_eq_false (by omega)
  have e3 : decide (281474976710656 ≤ (u.stamp : Int)) = false := decide_eq_false (by omega)
  have e4 : decide (u.len < 1) = false := decide_eq_false (by omega)
  have e5 : decide (65535 < u.len) = false := decide_eq_false (by omega)
  have e6 : decide (u.secs < 64) = false := decide_eq_false (by omega)
  have e7 : decide (1024 < u.secs) = false := decide_eq_false (by omega)
  clear h0 h1 h2 h3 h4 h5 h6 h7
  go_enter Try.func17, Try.ntmps17
  go_wp2_with (first
    | (with_reducible refine ld_ptrU rfl _ rfl w.heap.size _ u rfl HB.out ?_)
    | (go_at_call 47; with_reducible refine Calls.mono (rt.out _) ?_; rintro e w1 ⟨rfl, hb1⟩; obtain ⟨d0, d1, d2, d3, d4, d5, d6⟩ := (ub_here hb1).ubF))
  go_ret
  exact ⟨ret_bool (by first | rfl | (simp; omega) | simp), ub_below hb1⟩
theorem urright_any (w : World) : Calls Try.prog 17 #[.agg u.cs.toArray] w fun e w' => e = .returned (.bool (rightU u)) ∧ Below w.heap.size w w' := by
  by_cases h0 : 1 ≤ (u.txg : Int)
  case neg => rw [rightU_f (fun h => by obtain ⟨⟨_, _⟩, ⟨_, _⟩, _, ⟨_, _⟩, _, _⟩ := h; omega)]; exact rright_way0 u h0 w
  by_cases h1 : (u.txg : Int) < 281474976710656
  case neg => rw [rightU_f (fun h => by obtain ⟨⟨_, _⟩, ⟨_, _⟩, _, ⟨_, _⟩, _, _⟩ := h; omega)]; exact rright_way1 u h0 h1 w
  by_cases h2 : 1 ≤ (u.stamp : Int)
  case neg => rw [rightU_f (fun h => by obtain ⟨⟨_, _⟩, ⟨_, _⟩, _, ⟨_, _⟩, _, _⟩ := h; omega)]; exact rright_way2 u h0 h1 h2 w
  by_cases h3 : (u.stamp : Int) < 281474976710656
  case neg => rw [rightU_f (fun h => by obtain ⟨⟨_, _⟩, ⟨_, _⟩, _, ⟨_, _⟩, _, _⟩ := h; omega)]; exact rright_way3 u h0 h1 h2 h3 w
  by_cases h4 : 1 ≤ u.len
  case neg => rw [rightU_f (fun h => by obtain ⟨⟨_, _⟩, ⟨_, _⟩, _, ⟨_, _⟩, _, _⟩ := h; omega)]; exact rright_way4 u h0 h1 h2 h3 h4 w
  by_cases h5 : u.len ≤ 65535
  case neg => rw [rightU_f (fun h => by obtain ⟨⟨_, _⟩, ⟨_, _⟩, _, ⟨_, _⟩, _, _⟩ := h; omega)]; exact rright_way5 u h0 h1 h2 h3 h4 h5 w
  by_cases h6 : 64 ≤ u.secs
  case neg => rw [rightU_f (fun h => by obtain ⟨⟨_, _⟩, ⟨_, _⟩, _, ⟨_, _⟩, _, _⟩ := h; omega)]; exact rright_way6 u h0 h1 h2 h3 h4 h5 h6 w
  by_cases h7 : u.secs ≤ 1024
  case neg => rw [rightU_f (fun h => by obtain ⟨⟨_, _⟩, ⟨_, _⟩, _, ⟨_, _⟩, _, _⟩ := h; omega)]; exact rright_way7 u h0 h1 h2 h3 h4 h5 h6 h7 w
  rcases hr : rightF u.at_ u.birth u.sum with _ | _
  case false => rw [rightU_f (fun h => right_cannot hr (by have := h.2.2.1; omega))]; exact rright_way8 u h0 h1 h2 h3 h4 h5 h6 h7 hr w
  by_cases ha : 0 < u.at_
  case neg => rw [rightU_f (fun h => by have := h.2.2.1; omega)]; exact rright_way9 u h0 h1 h2 h3 h4 h5 h6 h7 hr ha w
  have hh : holeF u.at_ u.birth u.sum = false := hole_no (by omega)
  have hc := right_can hr hh
  rw [rightU_t ⟨by omega, by omega, by omega, ⟨h4, h5⟩, h6, h7⟩]
  exact rright_way10 u h0 h1 h2 h3 h4 h5 h6 h7 hr ha w
end
end Go.Proofs.Ytegcknloemgndaa
