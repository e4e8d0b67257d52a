
/- Walks: Stable. -/
import Derived.Test.YtddhacmaogaocaaV3
set_option maxRecDepth 10000
namespace Go.Proofs.Ytddhacmaogaocaa
open Go.RowKit

/-- A sector is loaded, wherever it lies. -/
theorem ld_sec {ops : Array Oper} {rest : List Oper} {o : Oper} {a : Act} {w : World} {Q : Exit → Act → World → Prop} (hgd : o.guard = none) (x : Operand) (ho : o.op = .load 23 x)
    (b k : Nat) (s : Sec) (hx : a.eval x = .pointer (some ⟨b, k, none⟩)) (hr : w.rangeAt b k s.cs)
    (h : wpList Try.prog ops Q rest (a.put o.dst (.agg s.cs.toArray)) w) : wpList Try.prog ops Q (o :: rest) a w :=
  wpList_load_mid hgd _ x ho b k hx s.cs _ hr Try.underlying23 rfl (sizeSec' s) h
/-- A sector is stored, wherever there is room for it. -/
theorem st_sec {ops : Array Oper} {rest : List Oper} {o : Oper} {a : Act} {w : World} {Q : Exit → Act → World → Prop} (hgd : o.guard = none) (x y : Operand) (ho : o.op = .store 23 x y)
    (b k : Nat) (s : Sec) (hx : a.eval x = .pointer (some ⟨b, k, none⟩)) (hy : a.eval y = .agg s.cs.toArray) (ht : w.there b k 128)
    (h : ∀ w', Hid (w' = w.setCells b k s.cs) → wpList Try.prog ops Q rest (a.put o.dst undef) w') : wpList Try.prog ops Q (o :: rest) a w :=
  wpList_store_mid hgd _ x y ho b k s.cs.toArray hx hy (by rw [List.size_toArray, Sec.cs_len]; exact ht) (sizeSec'' s) (all_one s.one) (h _ rfl)
theorem Blk.setAll {w : World} {g : Nat} {t : TypeId} {cs : Array Value} (h : Blk w g t cs) (vs : List Value) (hl : vs.length = cs.size) : Blk (w.setCells g 0 vs) g t vs.toArray :=
  h.setTo 0 vs (by omega) fun k => by
    by_cases hk : k < vs.length
    · rw [if_pos (by omega), List.getElem?_toArray]; rfl
    · rw [if_neg (by omega), List.getElem?_toArray, List.getElem?_eq_none (by omega), Array.getElem?_eq_none (by omega)]
theorem Blk.secAll {w : World} {g : Nat} {t : TypeId} {s : Sec} (h : Blk w g t s.cs.toArray) (u : Sec) : Blk (w.setCells g 0 u.cs) g t u.cs.toArray := h.setAll _ (by rw [List.size_toArray, Sec.cs_len, Sec.cs_len])
theorem Blk.secHas {w : World} {g : Nat} {t : TypeId} {s : Sec} (h : Blk w g t s.cs.toArray) : w.there g 0 128 := h.there 0 128 (by rw [List.size_toArray, Sec.cs_len]; omega)
theorem Blk.secIs {w : World} {g : Nat} {t : TypeId} {s : Sec} (h : Blk w g t s.cs.toArray) : w.rangeAt g 0 s.cs := h.range 0 s.cs fun j v hv => by rw [Nat.zero_add, List.getElem?_toArray]; exact hv
theorem results_row_tmp {P : Program} {fn : Func} {p u : Tmp} {ty : TypeId} (h : fn.results = #[.cell p ty, .tmp u]) (tmps : Array Value) (w : World) (g : Nat) (t : TypeId) (cs : Array Value) (fr : Nat × Nat) (d : TypeDesc)
    (hp : tmps.getD p undef = .pointer (some ⟨g, 0, none⟩)) (hg : w.heap[g]? = some (.cells cs t fr))
    (hu : P.underlying ty = some d) (hd : (match d with | .struct _ | .array _ _ => true | _ => false) = true) (hi : (P.info? ty).map (·.size) = some cs.size) :
    (results fn tmps).run P w = .ok (.tuple #[.agg cs, tmps.getD u undef]) w := by
  have hp' : tmps[p]?.getD undef = .pointer (some ⟨g, 0, none⟩) := by simpa using hp
  simp [results, h, hp', asAddr, run_loadVar_row w g t ty cs fr d hg hu hd hi]

section
variable {w : World} {B n : Nat} {D : Dev} {pv : Value} {s : St}
theorem At.alloc (h : At w B n D pv s) (o : Obj) : At (w.alloc o) B n D pv s := h.chg (O := fun _ => False) ((Chg.refl _ _).alloc o) fun _ _ h => h
theorem At.new_far (h : At w B n D pv s) : ¬ D.own pv w.heap.size := fun hk => by have := h.lt _ hk; omega
theorem At.st_at (h : At w B n D pv s) (k : Nat) (hk : k < n) : w.rangeAt D.gs (k * 128) (s.st.getD k zsec).cs := by
  have hl : k < s.st.length := by rw [h.ls]; exact hk
  have := h.st.sec k hl
  rwa [show s.st.getD k zsec = s.st[k] from by simp [List.getD, hl]]
theorem At.nw_at (h : At w B n D pv s) (k : Nat) (hk : k < n) : w.rangeAt D.gn (k * 128) (s.nw.getD k zsec).cs := by
  have hl : k < s.nw.length := by rw [h.ln]; exact hk
  have := h.nw.sec k hl
  rwa [show s.nw.getD k zsec = s.nw[k] from by simp [List.getD, hl]]
theorem chg_new {g : Nat} (w : World) (cs : Array Value) (t : TypeId) (k : Nat) (vs : List Value) (hg : g = w.heap.size) : Chg w ((w.alloc (.cells cs t)).setCells g k vs) (fun _ => False) :=
  Chg.setCells (.inr (by omega)) vs k ((Chg.refl _ _).alloc _)

end
end Go.Proofs.Ytddhacmaogaocaa
