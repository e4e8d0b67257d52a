import Derived.Test.YtgbghmgipnphkaaV4

/- Walks: the uber of a sector. -/
set_option maxRecDepth 10000
set_option maxRecDepth 10000
namespace Go.Proofs.Ytgbghmgipnphkaa
open Go.RowKit

theorem run_neSec (s t : Sec) (w : World) : (binOp .neq 23 (.agg s.cs.toArray) (.agg t.cs.toArray)).run Try.prog w = .ok (.bool (!s.same t)) w := by
  have h := run_eqSec s t w
  unfold Op.equal Op.maxDepth at h
  rw [run_neq_struct, h]
  rfl
theorem ex_neS {o : Oper} {a : Act} {w : World} (x y : Operand) (ho : o.op = .binOp .neq 23 x y 23) (s t : Sec) (hx : a.eval x = .agg s.cs.toArray) (hy : a.eval y = .agg t.cs.toArray) :
    (execOp a.eval o).run Try.prog w = .ok (.value (.bool (!s.same t))) w := by
  unfold execOp
  simp [ho, hx, hy, eqGuard, run_neSec]
section
variable (s : Sec) (w : World)
end
end Go.Proofs.Ytgbghmgipnphkaa
