import Derived.Test.YtddhacmaogaocaaQ1
import Derived.Test.YtddhacmaogaocaaV10

/- Walks: the pointer of bytes, the program's. -/
import Derived.Laws.ResultCell
import Derived.Deep.MidRow
set_option maxRecDepth 10000
namespace Go.Proofs.Ytddhacmaogaocaa
open Go.RowKit

theorem Below.setCells {B : Nat} {a : World} (b : Nat) (hB : B ≤ b) : ∀ (vs : List Value) (o : Nat) {w : World}, Below B a w → Below B a (w.setCells b o vs)
  | [], _, _, h => h
  | _ :: vs, o, _, h => Below.setCells b hB vs (o + 1) (h.setCell hB _)
/-- The cells of a pointer. -/
abbrev pcs (a b s : Int) : Array Value := #[.int .i64 a, .int .u64 b, .int .u32 s]
theorem ptr_size : (Try.prog.info? 32).map (·.size) = some 3 := by kernel_rfl
/-- A pointer is stored in a block of its own. -/
theorem st_ptr {ops : Array Oper} {rest : List Oper} {o : Oper} {act : Act} {w : World} {Q : Exit → Act → World → Prop} (hgd : o.guard = none) (x y : Operand) (ho : o.op = .store 32 x y)
    (g : Nat) (t : TypeId) (cs : Array Value) (a b s : Int) (hx : act.eval x = .pointer (some ⟨g, 0, none⟩)) (hy : act.eval y = ptv a b s) (hB : Blk w g t cs) (h3 : cs.size = 3)
    (h : ∀ w', Blk w' g t (pcs a b s) → (∀ B a0, Below B a0 w → B ≤ g → Below B a0 w') → wpList Try.prog ops Q rest (act.put o.dst undef) w') : wpList Try.prog ops Q (o :: rest) act w := by
  refine wpList_store_mid hgd _ x y ho g 0 (pcs a b s) hx hy (hB.there 0 3 (by omega)) ptr_size (by simp [Value.oneCell']) ?_
  exact h _ (hB.setAll [.int .i64 a, .int .u64 b, .int .u32 s] (by rw [h3]; rfl)) fun B a0 hb hg => Below.setCells g hg _ _ hb
theorem ld_ptr {ops : Array Oper} {rest : List Oper} {o : Oper} {act : Act} {w : World} {Q : Exit → Act → World → Prop} (hgd : o.guard = none) (x : Operand) (ho : o.op = .load 32 x)
    (g : Nat) (t : TypeId) (a b s : Int) (hx : act.eval x = .pointer (some ⟨g, 0, none⟩)) (hB : Blk w g t (pcs a b s))
    (h : wpList Try.prog ops Q rest (act.put o.dst (ptv a b s)) w) : wpList Try.prog ops Q (o :: rest) act w :=
  wpList_load_mid hgd _ x ho g 0 hx [.int .i64 a, .int .u64 b, .int .u32 s] _ (hB.range 0 _ fun j v hv => by rw [Nat.zero_add, List.getElem?_toArray]; exact hv) Try.underlying32 rfl ptr_size h
theorem ret_ptr {w : World} {g : Nat} {t : TypeId} {a b s : Int} {fn : Func} {p u : Tmp} {tmps : Array Value} (hf : fn.results = #[.cell p 32, .tmp u]) (hB : Blk w g t (pcs a b s)) (hp : tmps.getD p undef = .pointer (some ⟨g, 0, none⟩)) :
    (results fn tmps).run Try.prog w = .ok (.tuple #[ptv a b s, tmps.getD u undef]) w :=
  results_row_tmp hf tmps w g t (pcs a b s) (0, 0) _ hp hB Try.underlying32 rfl ptr_size
end Go.Proofs.Ytddhacmaogaocaa
