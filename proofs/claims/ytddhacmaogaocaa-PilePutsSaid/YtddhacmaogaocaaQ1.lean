import Derived.Test.YtddhacmaogaocaaB

/- Pointers to blocks: a pointer as a value; which can be, which stands ahead: plain mathematics. Walks: no hole, whether it can be. -/
import Derived.Laws.StructEq
set_option maxRecDepth 10000
namespace Go.Proofs.Ytddhacmaogaocaa
open Go.RowKit

/-- A pointer's value. -/
abbrev ptv (a b s : Int) : Value := .agg #[.int .i64 a, .int .u64 b, .int .u32 s]
def holeF (a b s : Int) : Bool := a == 0 && b == 0 && s == 0
theorem ptr_struct : Try.prog.underlying 32 = some (.struct (Try.prog.fieldsOf 32)) := by kernel_rfl
theorem ptr_plain : Try.prog.stoodInHeld 32 = false := by kernel_rfl
/-- '==' of two pointers. -/
theorem run_eqP (a b s a' b' s' : Int) (w : World) : (binOp .eql 32 (ptv a b s) (ptv a' b' s')).run Try.prog w = .ok (.bool (a == a' && b == b' && s == s')) w := by
  have u1 := Try.underlying3
  have u2 := Try.underlying29
  have u3 := Try.underlying30
  have c1 : Try.prog.cellsOf 3 = 1 := by kernel_rfl
  have c2 : Try.prog.cellsOf 29 = 1 := by kernel_rfl
  have c3 : Try.prog.cellsOf 30 = 1 := by kernel_rfl
  rw [run_eql_struct, show (10000 : Nat) = 9999 + 1 from rfl, run_equalIn_agg w 9999 32 _ _ ptr_struct ptr_plain]
  simp only [Program.fieldsOf, Try.underlying32]
  go_simp
  by_cases h1 : a = a' <;> by_cases h2 : b = b' <;> by_cases h3 : s = s' <;> simp [h1, h2, h3]
theorem hole_yes : holeF 0 0 0 = true := rfl
theorem hole_no {a b s : Int} (h : ¬ (a = 0 ∧ b = 0 ∧ s = 0)) : holeF a b s = false := by
  simp only [holeF, Bool.and_eq_false_iff, beq_eq_false_iff_ne]
  omega
end Go.Proofs.Ytddhacmaogaocaa
