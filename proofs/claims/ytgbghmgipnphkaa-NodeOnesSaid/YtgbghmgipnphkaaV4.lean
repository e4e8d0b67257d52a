import Derived.Test.YtgbghmgipnphkaaV2
import Derived.Test.YtgbghmgipnphkaaQ8

/- Walks: Stable. -/
set_option maxRecDepth 10000
namespace Go.Proofs.Ytgbghmgipnphkaa
open Go.RowKit

/-- A sector is loaded, wherever it lies. -/
theorem ld_sec {ops : Array Oper} {rest : List Oper} {o : Oper} {a : Act} {w : World} {Q : Exit → Act → World → Prop} (hgd : o.guard = none) (x : Operand) (ho : o.op = .load 23 x)
    (b k : Nat) (s : Sec) (hx : a.eval x = .pointer (some ⟨b, k, none⟩)) (hr : w.rangeAt b k s.cs)
    (h : wpList Try.prog ops Q rest (a.put o.dst (.agg s.cs.toArray)) w) : wpList Try.prog ops Q (o :: rest) a w :=
  wpList_load_mid hgd _ x ho b k hx s.cs _ hr Try.underlying23 rfl (sizeSec' s) h
/-- A sector is stored, wherever there is room for it. -/
theorem st_sec {ops : Array Oper} {rest : List Oper} {o : Oper} {a : Act} {w : World} {Q : Exit → Act → World → Prop} (hgd : o.guard = none) (x y : Operand) (ho : o.op = .store 23 x y)
    (b k : Nat) (s : Sec) (hx : a.eval x = .pointer (some ⟨b, k, none⟩)) (hy : a.eval y = .agg s.cs.toArray) (ht : w.there b k 128)
    (h : ∀ w', Hid (w' = w.setCells b k s.cs) → wpList Try.prog ops Q rest (a.put o.dst undef) w') : wpList Try.prog ops Q (o :: rest) a w :=
  wpList_store_mid hgd _ x y ho b k s.cs.toArray hx hy (by rw [List.size_toArray, Sec.cs_len]; exact ht) (sizeSec'' s) (all_one s.one) (h _ rfl)
theorem Blk.secAll {w : World} {g : Nat} {t : TypeId} {s : Sec} (h : Blk w g t s.cs.toArray) (u : Sec) : Blk (w.setCells g 0 u.cs) g t u.cs.toArray := h.setAll _ (by rw [List.size_toArray, Sec.cs_len, Sec.cs_len])
theorem Blk.secHas {w : World} {g : Nat} {t : TypeId} {s : Sec} (h : Blk w g t s.cs.toArray) : w.there g 0 128 := h.there 0 128 (by rw [List.size_toArray, Sec.cs_len]; omega)
theorem Blk.secIs {w : World} {g : Nat} {t : TypeId} {s : Sec} (h : Blk w g t s.cs.toArray) : w.rangeAt g 0 s.cs := h.range 0 s.cs fun j v hv => by rw [Nat.zero_add, List.getElem?_toArray]; exact hv
section
variable {w : World} {B n : Nat} {pv : Value}
theorem chg_new {g : Nat} (w : World) (cs : Array Value) (t : TypeId) (k : Nat) (vs : List Value) (hg : g = w.heap.size) : Chg w ((w.alloc (.cells cs t)).setCells g k vs) (fun _ => False) :=
  Chg.setCells (.inr (by omega)) vs k ((Chg.refl _ _).alloc _)

end
end Go.Proofs.Ytgbghmgipnphkaa
