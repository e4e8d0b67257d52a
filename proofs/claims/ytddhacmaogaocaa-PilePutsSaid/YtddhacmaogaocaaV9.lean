
/- Walks: Crash. -/
import Derived.Test.YtddhacmaogaocaaV8
set_option maxRecDepth 10000
namespace Go.Proofs.Ytddhacmaogaocaa
open Go.RowKit
theorem run_copy_sec {w : World} {gn gs n : Nat} {t t' : TypeId} {l m : List Sec} (hn : Blk w gn t (flat m).toArray) (hs : Blk w gs t' (flat l).toArray) (hm : m.length = n) (hl : l.length = n) (ty : TypeId) :
    (Builtin.copy_ #[65, 65] ty #[.slice (some ⟨gn, 0, none⟩) n n, .slice (some ⟨gs, 0, none⟩) n n]).run Try.prog w = .ok (goInt n) (w.setCells gn 0 (flat l)) := by
  have hsrc : ∀ j v, (flat l)[j]? = some v → w.cell? ((⟨gs, 0, none⟩ : Addr).add j) = some v := fun j v hv => by
    rw [Addr.add_mid, hs.cell, Nat.zero_add]
    have e : (flat l).toArray[j]? = (flat l)[j]? := List.getElem?_toArray ..
    rw [e]
    exact hv
  have hll : (flat l).length = n * 128 := by rw [flat_len, hl]
  have hml : (flat m).toArray.size = n * 128 := by rw [List.size_toArray, flat_len, hm]
  have h1 := run_loadCells_list (P := Try.prog) w ⟨gs, 0, none⟩ (flat l) hsrc
  have ht := hn.there 0 (n * 128) (by omega)
  have h2 := run_storeCells_cells (P := Try.prog) gn 0 (flat l) 0 w (fun j hj => by have := ht j (by omega); simpa using this.1) (fun j hj => by have := ht j (by omega); simpa using this.2) (flat_one l)
  obtain ⟨i, hi, _, hsz, _⟩ := info_parts infoSec
  rw [hll] at h1
  simp only [Nat.add_zero] at h2
  simp [Builtin.copy_, run_underlying Try.underlying65, Builtin.lenOf, Builtin.firstCells, sizeOf, typeInfo, hi, hsz, h1, h2]
theorem copy_sec {ops : Array Oper} {rest : List Oper} {o : Oper} {a : Act} {w : World} {Q : Exit → Act → World → Prop} (hgd : o.guard = none) (x y : Operand)
    (ho : o.op = .call { callee := .builtin .copy, args := #[x, y], argTypes := #[65, 65] }) (gn gs n : Nat) {t t' : TypeId} {l m : List Sec}
    (hx : a.eval x = .slice (some ⟨gn, 0, none⟩) n n) (hy : a.eval y = .slice (some ⟨gs, 0, none⟩) n n) (hn : Blk w gn t (flat m).toArray) (hs : Blk w gs t' (flat l).toArray) (hm : m.length = n) (hl : l.length = n)
    (h : ∀ w', Hid (w' = w.setCells gn 0 (flat l)) → wpList Try.prog ops Q rest (a.put o.dst (goInt n)) w') : wpList Try.prog ops Q (o :: rest) a w := by
  refine wpList_plain hgd fun _ hK => ?_
  unfold Oper.wp execOp
  simp only [ho, resolve, invoke, builtin, Sem.run_bind, Sem.run_pure, Result.andThen_ok, List.map_toArray, List.map_cons, List.map_nil, hx, hy, run_copy_sec hn hs hm hl]
  exact hK _ _ (h _ rfl)
theorem Blk.copied {w : World} {g : Nat} {t : TypeId} {l m : List Sec} (h : Blk w g t (flat m).toArray) (hl : l.length = m.length) : Blk (w.setCells g 0 (flat l)) g t (flat l).toArray := h.setAll _ (by rw [List.size_toArray, flat_len, flat_len, hl])
/-- Bools that a call reads, and that the device doesn't own. -/
def RdK (w : World) (D : Dev) (pv : Value) (A : Option Addr) (ks : List Bool) : Prop := 0 < ks.length → ∃ b off, A = some ⟨b, off, none⟩ ∧ b < w.heap.size ∧ ¬ D.own pv b ∧ ∀ j (h : j < ks.length), w.cell? ⟨b, off + j, none⟩ = some (.bool ks[j])
section
variable {w : World} {B n : Nat} {D : Dev} {pv : Value} {s : St}
theorem At.copy (h : At w B n D pv s) : At (w.setCells D.gn 0 (flat s.st)) B n D pv { s with nw := s.st } := by
  have hc : Chg w (w.setCells D.gn 0 (flat s.st)) (· = D.gn) := Chg.setCells (O := (· = D.gn)) (.inl rfl) _ _ (Chg.refl _ _)
  obtain ⟨h1, h2, h3⟩ := h.own_gn _ rfl
  exact { h with
    dev := h.dev.chg hc (Ne.symm h1)
    st := h.st.chg hc (Ne.symm h2)
    nw := h.nw.copied (by rw [h.ls, h.ln])
    pend := own_chg h.pend hc fun g hg e => h3 (e ▸ hg)
    ln := h.ls }
end
end Go.Proofs.Ytddhacmaogaocaa
