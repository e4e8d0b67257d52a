import Derived.Test.YtgbghmgipnphkaaV4

/- Walks: the law's example, VdevNames. -/
set_option maxRecDepth 10000
namespace Go.Proofs.Ytgbghmgipnphkaa
open Go.RowKit
/-! ### Steps of a plain region, guarded or not -/
theorem wpList_val {P : Program} {ops : Array Oper} {rest : List Oper} {o : Oper} {a : Act} {w w' : World} {Q : Exit → Act → World → Prop} (hw : Region.wanted o (yielded ops a.tmps) = true) (v : Value)
    (hrun : (execOp a.eval o).run P w = .ok (.value v) w') (h : wpList P ops Q rest (a.put o.dst v) w') : wpList P ops Q (o :: rest) a w := by
  unfold wpList
  rw [if_pos hw]
  unfold Oper.wp
  rw [hrun]
  exact .inl h
theorem ex_build1 {o : Oper} {a : Act} {w : World} (x : Operand) (ho : o.op = .build 23 #[(0, x)]) (v : Value) (hx : a.eval x = v) (s : Sec) (hb : ∀ w, (Instr.build 23 #[(0, v)]).run Try.prog w = .ok (.agg s.cs.toArray) w) :
    (execOp a.eval o).run Try.prog w = .ok (.value (.agg s.cs.toArray)) w := by
  have hb := hb w
  unfold execOp
  simp only [ho, hx, List.map_toArray, List.map_cons, List.map_nil, Sem.run_bind, hb, Sem.run_pure, Result.andThen_ok]
theorem ex_build0 {o : Oper} {a : Act} {w : World} (ho : o.op = .build 23 #[]) :
    (execOp a.eval o).run Try.prog w = .ok (.value (.agg zsec.cs.toArray)) w := by
  have hb := buildZ w
  unfold execOp
  simp only [ho, List.map_toArray, List.map_nil, Sem.run_bind, hb, Sem.run_pure, Result.andThen_ok]
theorem ex_eqS {o : Oper} {a : Act} {w : World} (x y : Operand) (ho : o.op = .binOp .eql 23 x y 23) (s t : Sec) (hx : a.eval x = .agg s.cs.toArray) (hy : a.eval y = .agg t.cs.toArray) :
    (execOp a.eval o).run Try.prog w = .ok (.value (.bool (s.same t))) w := by
  unfold execOp
  simp [ho, hx, hy, eqGuard, binOp, run_eqSec]
end Go.Proofs.Ytgbghmgipnphkaa
