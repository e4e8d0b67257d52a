/- Generic: arrays put together, a slice of one element written out, steps of a plain region. Laid together out of the texts on devices. -/
import Derived.Test.YtklccgmhllpjkaaZ
namespace Go.Proofs.Ytklccgmhllpjkaa
open Go.RowKit

theorem foldl_zip (off : Nat) : ∀ (l : List Value) (m : Nat) (z : Array Value), off + m + l.length ≤ z.size →
    ((l.zipIdx m).foldl (fun cs x => cs.setIfInBounds (off + x.2) x.1) z).size = z.size ∧
    ∀ k, ((l.zipIdx m).foldl (fun cs x => cs.setIfInBounds (off + x.2) x.1) z)[k]? = if off + m ≤ k ∧ k < off + m + l.length then l[k - (off + m)]? else z[k]?
  | [], m, z, _ => ⟨rfl, fun k => by rw [if_neg (by simp)]; rfl⟩
  | v :: r, m, z, hl => by
    simp only [List.length_cons] at hl
    obtain ⟨h1, h2⟩ := foldl_zip off r (m + 1) (z.setIfInBounds (off + m) v) (by simp; omega)
    simp only [List.zipIdx_cons, List.foldl_cons, List.length_cons]
    refine ⟨by rw [h1]; simp, fun k => ?_⟩
    rw [h2 k]
    rcases Nat.lt_trichotomy k (off + m) with hk | hk | hk
    · rw [if_neg (by omega), if_neg (by omega), Array.getElem?_setIfInBounds_ne (by omega)]
    · subst hk
      rw [if_neg (by omega), if_pos (by omega)]
      simp only [Nat.sub_self, List.getElem?_cons_zero]
      rw [Array.getElem?_setIfInBounds_self_of_lt (by omega)]
    · by_cases hk2 : k < off + m + (r.length + 1)
      · rw [if_pos (by omega), if_pos (by omega), show k - (off + m) = (k - (off + (m + 1))) + 1 by omega, List.getElem?_cons_succ]
      · rw [if_neg (by omega), if_neg (by omega), Array.getElem?_setIfInBounds_ne (by omega)]
/-- A slice of one element, written out, its cells whatever. -/
theorem run_bsl1 {P : Program} {t e : TypeId} {z : Value} {sz bytes : Nat} (hT : P.underlying t = some (.slice e)) (hinfo : (P.info? e).map (fun i => (i.zero, i.size, i.bytes)) = some (some z, sz, bytes)) (h0 : 0 < sz) (h1 : sz ≤ 16777216)
    (l : List Value) (hl : l.length = sz) (v : Value) (hv : v.cells = l.toArray) (w : World) : (Instr.buildSlice t 1 #[(0, v)]).run P w = .ok (.slice (some ⟨w.heap.size, 0, none⟩) 1 1) (w.alloc (.cells l.toArray e)) := by
  obtain ⟨i, hi, hz, hsz, _⟩ := info_parts hinfo
  have hf : ∀ cs : Array Value, cs.size = sz → Instr.fill (fun i => some (i * sz, sz)) cs [(0, v)] = some l.toArray := by
    intro cs hcs
    have h2 : l.toArray.size = sz := by rw [List.size_toArray, hl]
    unfold Instr.fill
    simp only [hv, h2, hcs, Nat.zero_mul, Nat.zero_add, ne_eq, not_true_eq_false, decide_false, Bool.false_or, Nat.lt_irrefl, gt_iff_lt]
    rw [if_neg (by simp)]
    unfold Instr.fill
    refine congrArg some (Array.ext_getElem? fun k => ?_)
    have e2 : l.toArray.zipIdx.foldl (fun cs (c, j) => cs.setIfInBounds j c) cs = (l.zipIdx 0).foldl (fun cs x => cs.setIfInBounds (0 + x.2) x.1) cs := by
      rw [← Array.foldl_toList, Array.toList_zipIdx]
      simp only [Nat.zero_add]
    have e3 : l.toArray[k]? = l[k]? := List.getElem?_toArray ..
    rw [e2, (foldl_zip 0 l 0 cs (by omega)).2 k, e3]
    by_cases hk : k < l.length
    · rw [if_pos (by omega)]; rfl
    · rw [if_neg (by omega), List.getElem?_eq_none (Nat.le_of_not_lt hk), Array.getElem?_eq_none (by omega)]
  have hne : ¬ sz = 0 := by omega
  have hlt : ¬ 2 ^ 24 < sz := by omega
  have hf' := hf ((Array.range (1 * sz)).map (z.cells[· % z.cells.size]!)) (by simp)
  rw [Nat.one_mul] at hf'
  simp [Instr.buildSlice, run_underlying hT, sizeOf, typeInfo, zeroValue, hi, hz, hsz, hne, hlt, hf', newRow, newObj]
  rfl
theorem wpList_val {P : Program} {ops : Array Oper} {rest : List Oper} {o : Oper} {a : Act} {w w' : World} {Q : Exit → Act → World → Prop} (hw : Region.wanted o (yielded ops a.tmps) = true) (v : Value)
    (hrun : (execOp a.eval o).run P w = .ok (.value v) w') (h : wpList P ops Q rest (a.put o.dst v) w') : wpList P ops Q (o :: rest) a w := by
  unfold wpList
  rw [if_pos hw]
  unfold Oper.wp
  rw [hrun]
  exact .inl h
theorem ex_build01 {o : Oper} {a : Act} {w : World} {T : TypeId} (x0 x1 : Operand) (ho : o.op = .build T #[(0, x0), (1, x1)]) (v0 v1 r : Value) (h0 : a.eval x0 = v0) (h1 : a.eval x1 = v1)
    (h : (Instr.build T #[(0, v0), (1, v1)]).run Try.prog w = .ok r w) : (execOp a.eval o).run Try.prog w = .ok (.value r) w := by
  unfold execOp
  subst h0 h1
  simp only [ho, List.map_toArray, List.map_cons, List.map_nil, h, Sem.run_bind, Sem.run_pure, Result.andThen_ok]
end Go.Proofs.Ytklccgmhllpjkaa
