
/- Walks: the law's example, VdevNames. -/
import Derived.Test.YtddhacmaogaocaaV10
set_option maxRecDepth 10000
namespace Go.Proofs.Ytddhacmaogaocaa
open Go.RowKit
/-! ### Steps of a plain region, guarded or not -/
theorem wpList_val {P : Program} {ops : Array Oper} {rest : List Oper} {o : Oper} {a : Act} {w w' : World} {Q : Exit → Act → World → Prop} (hw : Region.wanted o (yielded ops a.tmps) = true) (v : Value)
    (hrun : (execOp a.eval o).run P w = .ok (.value v) w') (h : wpList P ops Q rest (a.put o.dst v) w') : wpList P ops Q (o :: rest) a w := by
  unfold wpList
  rw [if_pos hw]
  unfold Oper.wp
  rw [hrun]
  exact .inl h
theorem ex_build1 {o : Oper} {a : Act} {w : World} (x : Operand) (ho : o.op = .build 23 #[(0, x)]) (v : Value) (hx : a.eval x = v) (s : Sec) (hb : ∀ w, (Instr.build 23 #[(0, v)]).run Try.prog w = .ok (.agg s.cs.toArray) w) :
    (execOp a.eval o).run Try.prog w = .ok (.value (.agg s.cs.toArray)) w := by
  have hb := hb w
  unfold execOp
  simp only [ho, hx, List.map_toArray, List.map_cons, List.map_nil, Sem.run_bind, hb, Sem.run_pure, Result.andThen_ok]
theorem ex_build0 {o : Oper} {a : Act} {w : World} (ho : o.op = .build 23 #[]) :
    (execOp a.eval o).run Try.prog w = .ok (.value (.agg zsec.cs.toArray)) w := by
  have hb := buildZ w
  unfold execOp
  simp only [ho, List.map_toArray, List.map_nil, Sem.run_bind, hb, Sem.run_pure, Result.andThen_ok]
theorem ex_eqS {o : Oper} {a : Act} {w : World} (x y : Operand) (ho : o.op = .binOp .eql 23 x y 23) (s t : Sec) (hx : a.eval x = .agg s.cs.toArray) (hy : a.eval y = .agg t.cs.toArray) :
    (execOp a.eval o).run Try.prog w = .ok (.value (.bool (s.same t))) w := by
  unfold execOp
  simp [ho, hx, hy, eqGuard, binOp, run_eqSec]
def st0 : St := newSt 4
def st1 : St := (st0.write 4 0 (osec 1)).1
def st2 : St := (st1.write 4 1 (osec 2)).1
def st3 : St := st2.count
def st4 : St := st3.crash [false, true]
theorem st0_e : (st0.write 4 0 (osec 1)).2 = 0 := by kernel_rfl
theorem st1_e : (st1.write 4 1 (osec 2)).2 = 0 := by kernel_rfl
theorem st1_p : st1.pend.length = 1 := by kernel_rfl
theorem st2_p : st2.pend.length = 2 := by kernel_rfl
theorem st3_e : (st2.read 4 0).2 = 0 := by kernel_rfl
theorem st3_s : (st2.read 4 0).1 = osec 1 := by kernel_rfl
theorem st4_0 : st4.stable 4 0 = zsec := by kernel_rfl
theorem st4_1 : st4.stable 4 1 = osec 2 := by kernel_rfl
theorem st4_p : st4.pend.length = 0 := by kernel_rfl
theorem st4_o : st4.ops = 3 := by kernel_rfl
theorem many4 : manyF 4 = 4 := by kernel_rfl
theorem set1 : zsec.cs.toArray.setIfInBounds 0 (.int .u8 1) = (osec 1).cs.toArray := by kernel_rfl
theorem set2 : zsec.cs.toArray.setIfInBounds 0 (.int .u8 2) = (osec 2).cs.toArray := by kernel_rfl
theorem manyMinus : manyF (-1) = 0 := by kernel_rfl
theorem many9 : manyF 9999 = 1024 := by kernel_rfl
end Go.Proofs.Ytddhacmaogaocaa
