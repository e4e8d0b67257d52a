/- Two ubers held against each other. -/
import Derived.Test.YtegcknloemgndaaU12
set_option maxRecDepth 10000
namespace Go.Proofs.Ytegcknloemgndaa
open Go.RowKit

theorem ub_struct : Try.prog.underlying 27 = some (.struct (Try.prog.fieldsOf 27)) := by kernel_rfl
theorem ub_plain : Try.prog.stoodInHeld 27 = false := by kernel_rfl
theorem run_eqPin (a b s a' b' s' : Int) (w : World) : (Op.equalIn 9999 25 (.agg #[.int .i64 a, .int .u64 b, .int .u32 s]) (.agg #[.int .i64 a', .int .u64 b', .int .u32 s'])).run Try.prog w = .ok (a == a' && b == b' && s == s') w := by
  have u1 := Try.underlying3
  have u2 := Try.underlying22
  have u3 := Try.underlying23
  have c1 : Try.prog.cellsOf 3 = 1 := by kernel_rfl
  have c2 : Try.prog.cellsOf 22 = 1 := by kernel_rfl
  have c3 : Try.prog.cellsOf 23 = 1 := by kernel_rfl
  rw [show (9999 : Nat) = 9998 + 1 from rfl, run_equalIn_agg w 9998 25 _ _ ptr_struct ptr_plain]
  simp only [Program.fieldsOf, Try.underlying25]
  go_simp
  by_cases h1 : a = a' <;> by_cases h2 : b = b' <;> by_cases h3 : s = s' <;> simp [h1, h2, h3]
/-- '==' of two ubers. -/
theorem run_eqUb (u v : Ub) (w : World) : (binOp .eql 27 (.agg u.cs.toArray) (.agg v.cs.toArray)).run Try.prog w = .ok (.bool (u.same v)) w := by
  have u1 := Try.underlying3
  have u2 := Try.underlying22
  have c1 : Try.prog.cellsOf 3 = 1 := by kernel_rfl
  have c2 : Try.prog.cellsOf 22 = 1 := by kernel_rfl
  have c4 : ∀ w, (isAgg 25).run Try.prog w = .ok true w := Try.isAgg25
  have c5 : ∀ w, (Go.sizeOf 25).run Try.prog w = .ok 3 w := Try.sizeOf25
  have hin := run_eqPin u.at_ u.birth u.sum v.at_ v.birth v.sum
  rw [run_eql_struct, show (10000 : Nat) = 9999 + 1 from rfl, run_equalIn_agg w 9999 27 _ _ ub_struct ub_plain]
  simp only [Program.fieldsOf, Try.underlying27]
  unfold Ub.cs
  go_simp
  unfold Ub.same
  by_cases h0 : u.txg = v.txg
  case neg =>
    have hz : ¬ (u.txg : Int) = (v.txg : Int) := by omega
    simp [h0, hz]
  by_cases h1 : u.stamp = v.stamp
  case neg =>
    have hz : ¬ (u.stamp : Int) = (v.stamp : Int) := by omega
    simp [h0, h1, hz]
  by_cases h2 : u.at_ = v.at_
  case neg => simp [h0, h1, h2]
  by_cases h3 : u.birth = v.birth
  case neg =>
    have hz : ¬ (u.birth : Int) = (v.birth : Int) := by omega
    simp [h0, h1, h2, h3, hz]
  by_cases h4 : u.sum = v.sum
  case neg =>
    have hz : ¬ (u.sum : Int) = (v.sum : Int) := by omega
    simp [h0, h1, h2, h3, h4, hz]
  by_cases h5 : u.len = v.len
  case neg => simp [h0, h1, h2, h3, h4, h5]
  by_cases h6 : u.secs = v.secs
  case neg => simp [h0, h1, h2, h3, h4, h5, h6]
  simp [h0, h1, h2, h3, h4, h5, h6]
theorem ex_eqU {o : Oper} {a : Act} {w : World} (x y : Operand) (ho : o.op = .binOp .eql 27 x y 27) (s t : Ub) (hx : a.eval x = .agg s.cs.toArray) (hy : a.eval y = .agg t.cs.toArray) :
    (execOp a.eval o).run Try.prog w = .ok (.value (.bool (s.same t))) w := by
  have hg : ∀ x y w, (eqGuard .eql 27 x y (.agg s.cs.toArray) (.agg t.cs.toArray)).run Try.prog w = .ok () w := fun x y w => run_eqGuard_agg w _ _ _ _ _ _ (by kernel_rfl)
  unfold execOp
  simp only [ho, hx, hy, hg, run_eqUb, Sem.run_bind, Sem.run_pure, Result.andThen_ok]
theorem run_neUb (u v : Ub) (w : World) : (binOp .neq 27 (.agg u.cs.toArray) (.agg v.cs.toArray)).run Try.prog w = .ok (.bool (!u.same v)) w := by
  have h := run_eqUb u v w
  rw [run_eql_struct] at h
  rw [run_neq_struct]
  revert h
  generalize (Op.equalIn 10000 27 (.agg u.cs.toArray) (.agg v.cs.toArray)).run Try.prog w = r
  intro h
  cases r with
  | ok b w' =>
    simp only [Result.andThen_ok, Result.ok.injEq, Value.bool.injEq] at h ⊢
    exact ⟨by rw [h.1], h.2⟩
  | halt x w' => simp [Result.andThen] at h
theorem ex_neU {o : Oper} {a : Act} {w : World} (x y : Operand) (ho : o.op = .binOp .neq 27 x y 27) (s t : Ub) (hx : a.eval x = .agg s.cs.toArray) (hy : a.eval y = .agg t.cs.toArray) :
    (execOp a.eval o).run Try.prog w = .ok (.value (.bool (!s.same t))) w := by
  have hg : ∀ x y w, (eqGuard .neq 27 x y (.agg s.cs.toArray) (.agg t.cs.toArray)).run Try.prog w = .ok () w := fun x y w => run_eqGuard_agg w _ _ _ _ _ _ (by kernel_rfl)
  unfold execOp
  simp only [ho, hx, hy, hg, run_neUb, Sem.run_bind, Sem.run_pure, Result.andThen_ok]
end Go.Proofs.Ytegcknloemgndaa
