/- Arguments opened: lists of acts of two numbers. -/
import Derived.Test.YtfkffkocknbjfaaD
import Derived.Test.YtfkffkocknbjfaaW10
set_option maxRecDepth 10000
namespace Go.Proofs.Ytfkffkocknbjfaa
open Go.ChangeShapes Go.WideShapes Go.ChangeAt Go.RowKit Go.Deep

theorem spc_cases : ∀ {l : List Sp} {j : Nat} {v : Value}, (spc l)[j]? = some v → ∃ i, ∃ h : i < l.length, (j = i * 2 ∧ v = .int .i64 l[i].1) ∨ (j = i * 2 + 1 ∧ v = .int .i64 l[i].2)
  | [], j, v, h => by simp [spc] at h
  | p :: r, j, v, h => by
    rw [spc_cons] at h
    match j with
    | 0 => exact ⟨0, by simp, .inl ⟨rfl, by simpa using h.symm⟩⟩
    | 1 => exact ⟨0, by simp, .inr ⟨rfl, by simpa using h.symm⟩⟩
    | j + 2 =>
      obtain ⟨i, hi, h'⟩ := spc_cases (l := r) (j := j) (v := v) (by simpa using h)
      exact ⟨i + 1, by simpa using hi, h'.elim (fun h => .inl ⟨by omega, by simpa using h.2⟩) (fun h => .inr ⟨by omega, by simpa using h.2⟩)⟩
theorem cells_nact : Try.prog.cellsOf 31 = 2 := by kernel_rfl
theorem bytes_nact : Try.prog.bytesOf 31 = 16 := by kernel_rfl
theorem cells_intN : Try.prog.cellsOf 3 = 1 := by kernel_rfl

section
variable {H : Type} {enc : TypeId × Value → H} {W : World} {r : Reach} {b0 : Nat} {v : Value} {d : DataW H} {p : List MemPlace}
theorem open_nacts (hv : Value.okWide Try.prog W r b0 28 v) (h : DataW.Trod enc Try.prog W 0 (fun _ => true) true 28 v d p) (hlt : ∀ x ∈ p, x.block < W.heap.size) :
    ∃ A c, ∃ l : List Sp, v = .slice A l.length c ∧ Rd W W.heap.size A (spc l) ∧ SpOk l ∧ l.length ≤ c ∧ (A = none → c = 0) ∧
      ((∀ elems spare, d = .slice elems spare → (elems.length + spare.length) * Try.prog.bytesOf 31 ≤ reachBytes) → l.length * 16 ≤ 140737488351232) := by
  obtain ⟨a, len, cap, rfl⟩ := okWide_slice Try.underlying28 hv
  obtain ⟨fuel, hf⟩ := h
  rcases open_slice Try.underlying28 hf with ⟨hcs, hx⟩ | ⟨a', len', cap', m, n, D, Pl, hcs, _, hl, _, hmm, hx, hi⟩
  · simp [Value.cells] at hcs
    obtain ⟨rfl, rfl, rfl⟩ := hcs
    exact ⟨none, 0, [], rfl, Rd.nil, by simp [SpOk], by simp, fun _ => rfl, fun _ => by simp⟩
  · simp [Value.cells] at hcs
    obtain ⟨rfl, rfl, rfl⟩ := hcs
    simp only [Prod.mk.injEq] at hx
    obtain ⟨rfl, rfl⟩ := hx
    simp only [if_true] at hmm
    subst hmm
    have hone : ∀ i, i < len → ∃ q : Sp, W.cell? ((a'.add (i * 2)).add 0) = some (.int .i64 q.1) ∧ W.cell? ((a'.add (i * 2)).add 1) = some (.int .i64 q.2) ∧ I64 q.1 ∧ I64 q.2 := by
      intro i him
      obtain ⟨cs', hc, ht'⟩ := hi i (by omega)
      rw [cells_nact] at hc
      obtain ⟨ys, n', _, _, _, hyl, hfl⟩ := DataW.trod_struct Try.underlying31 ht'
      obtain ⟨_, hcl, hat⟩ := World.cells?_some hc
      have hyl' : ys.length = 2 := hyl
      have g0 : DataW.trod enc Try.prog W 0 (fun _ => true) true n' 3 ((cs'.drop 0).take (Try.prog.cellsOf 3)) = ys[0]? := hfl 0 _ rfl
      have g1 : DataW.trod enc Try.prog W 0 (fun _ => true) true n' 3 ((cs'.drop 1).take (Try.prog.cellsOf 3)) = ys[1]? := hfl 1 _ rfl
      simp only [cells_intN] at g0 g1
      match cs', hcl with
      | [c0, c1], _ =>
        simp only [List.drop_zero, List.take_succ_cons, List.take_zero, List.drop_succ_cons] at g0 g1
        obtain ⟨x, hx, _, wx⟩ := DataW.trod_int Try.underlying3 (g0.trans (List.getElem?_eq_getElem (by omega)))
        obtain ⟨y, hy, _, wy⟩ := DataW.trod_int Try.underlying3 (g1.trans (List.getElem?_eq_getElem (by omega)))
        simp only [List.cons.injEq, and_true] at hx hy
        subst hx hy
        have q0 := hat 0 (by omega)
        have q1 := hat 1 (by omega)
        exact ⟨(x, y), by simpa using q0, by simpa using q1, wf_i64 wx, wf_i64 wy⟩
    obtain ⟨l, hll, hq⟩ := list_of len hone
    refine ⟨some a', _, l, by rw [hll], fun hn => ?_, fun q hq' => ?_, by omega, (fun h => by cases h), fun hb => ?_⟩
    · rw [spc_len] at hn
      obtain ⟨b, off, spot⟩ := a'
      have h0 := (hq 0 (by omega)).1
      have hspot : spot = none := by simpa [Addr.add] using World.cell?_spot h0
      subst hspot
      refine ⟨b, off, rfl, hlt (.cell b off) (List.mem_append_left _ (MemPlace.mem_row.2 ⟨0, by rw [cells_nact]; omega, by simp⟩)), fun j u hu => ?_⟩
      obtain ⟨i, hil, ⟨rfl, rfl⟩ | ⟨rfl, rfl⟩⟩ := spc_cases hu
      · have := (hq i hil).1
        rwa [add_plain, add_plain, Nat.add_zero] at this
      · have := (hq i hil).2.1
        rwa [add_plain, add_plain, Nat.add_assoc] at this
    · obtain ⟨i, hil, rfl⟩ := List.getElem_of_mem hq'
      exact (hq i hil).2.2
    · have := hb _ _ rfl
      rw [bytes_nact] at this
      simp [reachBytes] at this
      omega

end
end Go.Proofs.Ytfkffkocknbjfaa
