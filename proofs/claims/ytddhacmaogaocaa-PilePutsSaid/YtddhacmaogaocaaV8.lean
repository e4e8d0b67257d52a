
/- Walks: Flush. -/
import Derived.Test.YtddhacmaogaocaaV7
set_option maxRecDepth 10000
namespace Go.Proofs.Ytddhacmaogaocaa
open Go.RowKit
/-- A pending write is loaded, wherever it lies. -/
theorem ld_w {ops : Array Oper} {rest : List Oper} {o : Oper} {a : Act} {w : World} {Q : Exit → Act → World → Prop} (hgd : o.guard = none) (x : Operand) (ho : o.op = .load 70 x)
    (b k : Nat) (p : Nat × Sec) (hx : a.eval x = .pointer (some ⟨b, k, none⟩)) (hr : w.rangeAt b k (wcs p))
    (h : wpList Try.prog ops Q rest (a.put o.dst (.agg (wcs p).toArray)) w) : wpList Try.prog ops Q (o :: rest) a w :=
  wpList_load_mid hgd _ x ho b k hx (wcs p) _ hr Try.underlying70 rfl (sizeW' p) h
/-- A pending write is stored, wherever there is room for it. -/
theorem st_w {ops : Array Oper} {rest : List Oper} {o : Oper} {a : Act} {w : World} {Q : Exit → Act → World → Prop} (hgd : o.guard = none) (x y : Operand) (ho : o.op = .store 70 x y)
    (b k : Nat) (p : Nat × Sec) (hx : a.eval x = .pointer (some ⟨b, k, none⟩)) (hy : a.eval y = .agg (wcs p).toArray) (ht : w.there b k 129)
    (h : ∀ w', Hid (w' = w.setCells b k (wcs p)) → wpList Try.prog ops Q rest (a.put o.dst undef) w') : wpList Try.prog ops Q (o :: rest) a w :=
  wpList_store_mid hgd _ x y ho b k (wcs p).toArray hx hy (by rw [List.size_toArray, wcs_len]; exact ht) (sizeW'' p) (all_one (wcs_one p)) (h _ rfl)
theorem Blk.wHas {w : World} {g : Nat} {t : TypeId} {p : Nat × Sec} (h : Blk w g t (wcs p).toArray) : w.there g 0 129 := h.there 0 129 (by rw [List.size_toArray, wcs_len]; omega)
theorem Blk.wAll {w : World} {g : Nat} {t : TypeId} {p : Nat × Sec} (h : Blk w g t (wcs p).toArray) (q : Nat × Sec) : Blk (w.setCells g 0 (wcs q)) g t (wcs q).toArray := h.setAll _ (by rw [List.size_toArray, wcs_len, wcs_len])
theorem Blk.wSec {w : World} {g : Nat} {t : TypeId} {p : Nat × Sec} (h : Blk w g t (wcs p).toArray) : w.rangeAt g 1 p.2.cs := h.range 1 p.2.cs fun j v hv => by
  have e : (wcs p).toArray[1 + j]? = (wcs p)[1 + j]? := List.getElem?_toArray ..
  rw [e, Nat.add_comm]
  exact hv
theorem Blk.wNum {w : World} {g : Nat} {t : TypeId} {p : Nat × Sec} (h : Blk w g t (wcs p).toArray) : w.cell? ⟨g, 0, none⟩ = some (.int .i64 (p.1 : Int)) := h.cell 0
section
variable {w : World} {B n : Nat} {D : Dev} {pv : Value} {s : St}
theorem Goes.chgd {w0 w w' : World} {O : Nat → Prop} (h : Goes D w0 pv w pv) (c : Chg w w' O) (hO : ∀ k, k < w0.heap.size → O k → D.own pv k) : Goes D w0 pv w' pv := ⟨h.chg.trans c hO, h.row⟩
end
end Go.Proofs.Ytddhacmaogaocaa
