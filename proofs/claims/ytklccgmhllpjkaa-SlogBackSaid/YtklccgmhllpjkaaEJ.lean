/- Arguments opened: lists of spans, of moves. -/
import Derived.Test.YtklccgmhllpjkaaD
import Derived.Test.YtklccgmhllpjkaaJ3
set_option maxRecDepth 10000
namespace Go.Proofs.Ytklccgmhllpjkaa
open Go.ChangeShapes Go.WideShapes Go.ChangeAt Go.RowKit Go.Deep

theorem spc_cases : ∀ {l : List Sp} {j : Nat} {v : Value}, (spc l)[j]? = some v → ∃ i, ∃ h : i < l.length, (j = i * 2 ∧ v = .int .i64 l[i].1) ∨ (j = i * 2 + 1 ∧ v = .int .i64 l[i].2)
  | [], j, v, h => by simp [spc] at h
  | p :: r, j, v, h => by
    rw [spc_cons] at h
    match j with
    | 0 => exact ⟨0, by simp, .inl ⟨rfl, by simpa using h.symm⟩⟩
    | 1 => exact ⟨0, by simp, .inr ⟨rfl, by simpa using h.symm⟩⟩
    | j + 2 =>
      obtain ⟨i, hi, h'⟩ := spc_cases (l := r) (j := j) (v := v) (by simpa using h)
      exact ⟨i + 1, by simpa using hi, h'.elim (fun h => .inl ⟨by omega, by simpa using h.2⟩) (fun h => .inr ⟨by omega, by simpa using h.2⟩)⟩
theorem cells_span : Try.prog.cellsOf 52 = 2 := by kernel_rfl
theorem bytes_span : Try.prog.bytesOf 52 = 16 := by kernel_rfl
theorem cells_intJ : Try.prog.cellsOf 3 = 1 := by kernel_rfl
theorem cells_boolJ : Try.prog.cellsOf 4 = 1 := by kernel_rfl
theorem cells_move : Try.prog.cellsOf 54 = 3 := by kernel_rfl
theorem bytes_move : Try.prog.bytesOf 54 = 24 := by kernel_rfl

section
variable {H : Type} {enc : TypeId × Value → H} {W : World} {r : Reach} {b0 : Nat} {v : Value} {d : DataW H} {p : List MemPlace}
theorem open_spans (hv : Value.okWide Try.prog W r b0 22 v) (h : DataW.Trod enc Try.prog W 0 (fun _ => true) true 22 v d p) (hlt : ∀ x ∈ p, x.block < W.heap.size) :
    ∃ A c, ∃ l : List Sp, v = .slice A l.length c ∧ Rd W W.heap.size A (spc l) ∧ SpOk l ∧ l.length ≤ c ∧ (A = none → c = 0) ∧
      ((∀ elems spare, d = .slice elems spare → (elems.length + spare.length) * Try.prog.bytesOf 52 ≤ reachBytes) → l.length * 16 ≤ 140737488351232) := by
  obtain ⟨a, len, cap, rfl⟩ := okWide_slice Try.underlying22 hv
  obtain ⟨fuel, hf⟩ := h
  rcases open_slice Try.underlying22 hf with ⟨hcs, hx⟩ | ⟨a', len', cap', m, n, D, Pl, hcs, _, hl, _, hmm, hx, hi⟩
  · simp [Value.cells] at hcs
    obtain ⟨rfl, rfl, rfl⟩ := hcs
    exact ⟨none, 0, [], rfl, Rd.nil, by simp [SpOk], by simp, fun _ => rfl, fun _ => by simp⟩
  · simp [Value.cells] at hcs
    obtain ⟨rfl, rfl, rfl⟩ := hcs
    simp only [Prod.mk.injEq] at hx
    obtain ⟨rfl, rfl⟩ := hx
    simp only [if_true] at hmm
    subst hmm
    have hone : ∀ i, i < len → ∃ q : Sp, W.cell? ((a'.add (i * 2)).add 0) = some (.int .i64 q.1) ∧ W.cell? ((a'.add (i * 2)).add 1) = some (.int .i64 q.2) ∧ I64 q.1 ∧ I64 q.2 := by
      intro i him
      obtain ⟨cs', hc, ht'⟩ := hi i (by omega)
      rw [cells_span] at hc
      obtain ⟨ys, n', _, _, _, hyl, hfl⟩ := DataW.trod_struct Try.underlying52 ht'
      obtain ⟨_, hcl, hat⟩ := World.cells?_some hc
      have hyl' : ys.length = 2 := hyl
      have g0 : DataW.trod enc Try.prog W 0 (fun _ => true) true n' 3 ((cs'.drop 0).take (Try.prog.cellsOf 3)) = ys[0]? := hfl 0 _ rfl
      have g1 : DataW.trod enc Try.prog W 0 (fun _ => true) true n' 3 ((cs'.drop 1).take (Try.prog.cellsOf 3)) = ys[1]? := hfl 1 _ rfl
      simp only [cells_intJ] at g0 g1
      match cs', hcl with
      | [c0, c1], _ =>
        simp only [List.drop_zero, List.take_succ_cons, List.take_zero, List.drop_succ_cons] at g0 g1
        obtain ⟨x, hx, _, wx⟩ := DataW.trod_int Try.underlying3 (g0.trans (List.getElem?_eq_getElem (by omega)))
        obtain ⟨y, hy, _, wy⟩ := DataW.trod_int Try.underlying3 (g1.trans (List.getElem?_eq_getElem (by omega)))
        simp only [List.cons.injEq, and_true] at hx hy
        subst hx hy
        have q0 := hat 0 (by omega)
        have q1 := hat 1 (by omega)
        exact ⟨(x, y), by simpa using q0, by simpa using q1, wf_i64 wx, wf_i64 wy⟩
    obtain ⟨l, hll, hq⟩ := list_of len hone
    refine ⟨some a', _, l, by rw [hll], fun hn => ?_, fun q hq' => ?_, by omega, (fun h => by cases h), fun hb => ?_⟩
    · rw [spc_len] at hn
      obtain ⟨b, off, spot⟩ := a'
      have h0 := (hq 0 (by omega)).1
      have hspot : spot = none := by simpa [Addr.add] using World.cell?_spot h0
      subst hspot
      refine ⟨b, off, rfl, hlt (.cell b off) (List.mem_append_left _ (MemPlace.mem_row.2 ⟨0, by rw [cells_span]; omega, by simp⟩)), fun j u hu => ?_⟩
      obtain ⟨i, hil, ⟨rfl, rfl⟩ | ⟨rfl, rfl⟩⟩ := spc_cases hu
      · have := (hq i hil).1
        rwa [add_plain, add_plain, Nat.add_zero] at this
      · have := (hq i hil).2.1
        rwa [add_plain, add_plain, Nat.add_assoc] at this
    · obtain ⟨i, hil, rfl⟩ := List.getElem_of_mem hq'
      exact (hq i hil).2.2
    · have := hb _ _ rfl
      rw [bytes_span] at this
      simp [reachBytes] at this
      omega

theorem open_move {fuel : Nat} {cs : List Value} {x : DataW H × List MemPlace} (h : DataW.trod enc Try.prog W 0 (fun _ => true) true fuel 54 cs = some x) : ∃ m : Mv, cs = m.cs ∧ m.ok := by
  obtain ⟨ys, n', _, _, hl, hyl, hfl⟩ := DataW.trod_struct Try.underlying54 h
  rw [cells_move] at hl
  have hyl' : ys.length = 2 := hyl
  have g0 : DataW.trod enc Try.prog W 0 (fun _ => true) true n' 4 ((cs.drop 0).take (Try.prog.cellsOf 4)) = ys[0]? := hfl 0 _ rfl
  have g1 : DataW.trod enc Try.prog W 0 (fun _ => true) true n' 52 ((cs.drop 1).take (Try.prog.cellsOf 52)) = ys[1]? := hfl 1 _ rfl
  obtain ⟨zs, n2, _, _, _, hzl, hgl⟩ := DataW.trod_struct Try.underlying52 (g1.trans (List.getElem?_eq_getElem (by omega)))
  have hzl' : zs.length = 2 := hzl
  have k0 : DataW.trod enc Try.prog W 0 (fun _ => true) true n2 3 ((((cs.drop 1).take (Try.prog.cellsOf 52)).drop 0).take (Try.prog.cellsOf 3)) = zs[0]? := hgl 0 _ rfl
  have k1 : DataW.trod enc Try.prog W 0 (fun _ => true) true n2 3 ((((cs.drop 1).take (Try.prog.cellsOf 52)).drop 1).take (Try.prog.cellsOf 3)) = zs[1]? := hgl 1 _ rfl
  simp only [cells_boolJ] at g0
  simp only [cells_intJ, cells_span] at k0 k1
  obtain ⟨c0, c1, c2, rfl⟩ : ∃ c0 c1 c2, cs = [c0, c1, c2] := by
    rcases cs with _ | ⟨c0, _ | ⟨c1, _ | ⟨c2, _ | ⟨c3, t⟩⟩⟩⟩ <;> simp at hl
    exact ⟨c0, c1, c2, rfl⟩
  simp only [List.drop_zero, List.take_succ_cons, List.take_zero, List.drop_succ_cons] at g0 k0 k1
  obtain ⟨t, ht, _⟩ := DataW.trod_bool Try.underlying4 (g0.trans (List.getElem?_eq_getElem (by omega)))
  obtain ⟨x, hx, _, wx⟩ := DataW.trod_int Try.underlying3 (k0.trans (List.getElem?_eq_getElem (by omega)))
  obtain ⟨y, hy, _, wy⟩ := DataW.trod_int Try.underlying3 (k1.trans (List.getElem?_eq_getElem (by omega)))
  simp only [List.cons.injEq, and_true] at ht hx hy
  subst ht hx hy
  exact ⟨⟨t, x, y⟩, rfl, wf_i64 wx, wf_i64 wy⟩
theorem open_moves (hv : Value.okWide Try.prog W r b0 27 v) (h : DataW.Trod enc Try.prog W 0 (fun _ => true) true 27 v d p) (hlt : ∀ x ∈ p, x.block < W.heap.size) :
    ∃ A c, ∃ l : List Mv, v = .slice A l.length c ∧ Rd W W.heap.size A (mvs l) ∧ MvOk l ∧ l.length ≤ c ∧ (A = none → c = 0) ∧
      ((∀ elems spare, d = .slice elems spare → (elems.length + spare.length) * Try.prog.bytesOf 54 ≤ reachBytes) → l.length * 24 ≤ 140737488351232) := by
  obtain ⟨a, len, cap, rfl⟩ := okWide_slice Try.underlying27 hv
  obtain ⟨fuel, hf⟩ := h
  rcases open_slice Try.underlying27 hf with ⟨hcs, hx⟩ | ⟨a', len', cap', m, n, D, Pl, hcs, _, hl, _, hmm, hx, hcell⟩
  · simp [Value.cells] at hcs
    obtain ⟨rfl, rfl, rfl⟩ := hcs
    exact ⟨none, 0, [], rfl, Rd.nil, (fun _ h => by cases h), by simp, fun _ => rfl, fun _ => by simp⟩
  · simp [Value.cells] at hcs
    obtain ⟨rfl, rfl, rfl⟩ := hcs
    simp only [Prod.mk.injEq] at hx
    obtain ⟨rfl, rfl⟩ := hx
    simp only [if_true] at hmm
    have each : ∀ i, i < len → ∃ d : Mv, (∀ j, j < 3 → W.cell? (a'.add (i * 3 + j)) = d.cs[j]?) ∧ d.ok := fun i hi => by
      obtain ⟨cs', h1, h2⟩ := hcell i (by omega)
      rw [cells_move] at h1
      obtain ⟨_, hlen, hc⟩ := World.cells?_some h1
      obtain ⟨d, rfl, hk⟩ := open_move h2
      refine ⟨d, fun j hj => ?_, hk⟩
      have := hc j hj
      rwa [add_add] at this
    obtain ⟨l, hll, hl2⟩ := list_of len each
    refine ⟨some a', cap, l, by rw [hll], fun hn => ?_, fun x hx => ?_, by omega, (fun h => by cases h), fun hb => ?_⟩
    · rw [mvs_len] at hn
      obtain ⟨b, off, spot⟩ := a'
      have h00 := (hl2 0 (by omega)).1 0 (by omega)
      have hspot : spot = none := by
        have h00' : W.cell? (({ block := b, off := off, spot := spot } : Addr).add (0 * 3 + 0)) = some (.bool (l[0]'(by omega)).t) := h00
        simpa [Addr.add] using World.cell?_spot h00'
      subst hspot
      refine ⟨b, off, rfl, hlt (.cell b off) (List.mem_append_left _ (MemPlace.mem_row.2 ⟨0, by rw [cells_move]; omega, by simp⟩)), fun j u hu => ?_⟩
      have hj : j < l.length * 3 := by have := (List.getElem?_eq_some_iff.1 hu).1; rwa [mvs_len] at this
      have h1 : j = j / 3 * 3 + j % 3 := by omega
      have h2 : j / 3 < l.length := by omega
      have h3 : j % 3 < 3 := by omega
      generalize j / 3 = q at *
      generalize j % 3 = t at *
      subst h1
      rw [mvs_at l q h2 t h3] at hu
      have := (hl2 q h2).1 t h3
      rw [add_plain] at this
      rw [this, hu]
    · obtain ⟨i, hi, rfl⟩ := List.getElem_of_mem hx
      exact (hl2 i hi).2
    · have := hb _ _ rfl
      rw [bytes_move] at this
      simp [reachBytes] at this
      omega
end
end Go.Proofs.Ytklccgmhllpjkaa
