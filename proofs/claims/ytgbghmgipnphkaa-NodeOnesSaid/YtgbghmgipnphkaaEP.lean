import Derived.Test.YtgbghmgipnphkaaEB
import Derived.Test.YtgbghmgipnphkaaQ8


/- Arguments opened: integers of any kind, bytes, pointers to blocks. -/
import Derived.Lib.SmallJoins
set_option maxRecDepth 10000
set_option maxRecDepth 10000
namespace Go.Proofs.Ytgbghmgipnphkaa
open Go.ChangeShapes Go.WideShapes Go.ChangeAt Go.RowKit Go.Deep

section
variable {H : Type} {enc : TypeId × Value → H} {P : Program} {W : World} {r : Reach} {b0 : Nat} {v : Value} {d : DataW H} {p : List MemPlace}
theorem open_ptr {H : Type} {enc : TypeId × Value → H} {W : World} {r : Reach} {b0 : Nat} {v : Value} {d : DataW H} {p : List MemPlace}
    (hv : Value.okWide Try.prog W r b0 30 v) (h : DataW.Trod enc Try.prog W 0 (fun _ => true) true 30 v d p) : ∃ a b s, v = ptv a b s ∧ IsPtr a b s := by
  obtain ⟨v0, v1, v2, y0, y1, y2, n, rfl, -, -, h0, h1, h2⟩ := Go.Joins.open_agg3 Try.underlying30 (by kernel_rfl) (by kernel_rfl) hv h
  obtain ⟨x0, e0, _, w0⟩ := DataW.trod_int Try.underlying3 h0
  obtain ⟨x1, e1, _, w1⟩ := DataW.trod_int Try.underlying27 h1
  obtain ⟨x2, e2, _, w2⟩ := DataW.trod_int Try.underlying28 h2
  simp only [List.cons.injEq, and_true] at e0 e1 e2
  subst e0 e1 e2
  have i0 := wf_i64 w0
  have i1 := wf_u64 w1
  have i2 := wf_u32 w2
  exact ⟨x0, x1, x2, rfl, i0.1, i0.2, i1.1, i1.2, i2.1, i2.2⟩
end
end Go.Proofs.Ytgbghmgipnphkaa
