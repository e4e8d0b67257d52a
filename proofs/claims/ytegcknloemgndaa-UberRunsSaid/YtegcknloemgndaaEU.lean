/- Arguments opened: ubers, sectors by value. -/
import Derived.Test.YtegcknloemgndaaEV
import Derived.Test.YtegcknloemgndaaU1
set_option maxRecDepth 10000
namespace Go.Proofs.Ytegcknloemgndaa
open Go.ChangeShapes Go.WideShapes Go.ChangeAt Go.RowKit Go.Deep

theorem cells_ptr : Try.prog.cellsOf 25 = 3 := by kernel_rfl
theorem cells_ub : Try.prog.cellsOf 27 = 7 := by kernel_rfl
theorem cells_u64 : Try.prog.cellsOf 22 = 1 := by kernel_rfl
theorem cells_u32 : Try.prog.cellsOf 23 = 1 := by kernel_rfl
theorem cut3 {cs : List Value} (h : cs.length = 3) : cs = cs.take 1 ++ ((cs.drop 1).take 1 ++ (cs.drop 2).take 1) := by
  have e2 : (cs.drop 2).take 1 = cs.drop 2 := List.take_of_length_le (by rw [List.length_drop]; omega)
  have e1 : (cs.drop 1).take 1 ++ cs.drop 2 = cs.drop 1 := by
    have := List.take_append_drop 1 (cs.drop 1)
    rwa [List.drop_drop] at this
  rw [e2, e1, List.take_append_drop]
section
variable {H : Type} {enc : TypeId × Value → H} {W : World} {r : Reach} {b0 : Nat} {v : Value} {d : DataW H} {p : List MemPlace}
theorem open_ptrc {fuel : Nat} {cs : List Value} {x : DataW H × List MemPlace} (h : DataW.trod enc Try.prog W 0 (fun _ => true) true fuel 25 cs = some x) : ∃ a b s : Int, cs = [.int .i64 a, .int .u64 b, .int .u32 s] ∧ I64 a ∧ (0 ≤ b ∧ b < 18446744073709551616) ∧ (0 ≤ s ∧ s < 4294967296) := by
  obtain ⟨xs, m, _, _, hl, hn, hx⟩ := DataW.trod_struct Try.underlying25 h
  rw [cells_ptr] at hl
  have hn3 : xs.length = 3 := hn
  have g0 := hx 0 _ rfl
  have g1 := hx 1 _ rfl
  have g2 := hx 2 _ rfl
  have h0 : DataW.trod enc Try.prog W 0 (fun _ => true) true m 3 ((cs.drop 0).take (Try.prog.cellsOf 3)) = some (xs[0]'(by omega)) := g0.trans (List.getElem?_eq_getElem (by omega))
  have h1 : DataW.trod enc Try.prog W 0 (fun _ => true) true m 22 ((cs.drop 1).take (Try.prog.cellsOf 22)) = some (xs[1]'(by omega)) := g1.trans (List.getElem?_eq_getElem (by omega))
  have h2 : DataW.trod enc Try.prog W 0 (fun _ => true) true m 23 ((cs.drop 2).take (Try.prog.cellsOf 23)) = some (xs[2]'(by omega)) := g2.trans (List.getElem?_eq_getElem (by omega))
  obtain ⟨a, ha, _, wa⟩ := DataW.trod_int Try.underlying3 h0
  obtain ⟨b, hb, _, wb⟩ := DataW.trod_int Try.underlying22 h1
  obtain ⟨s, hs, _, ws⟩ := DataW.trod_int Try.underlying23 h2
  simp only [cells_int, List.drop_zero] at ha
  simp only [cells_u64] at hb
  simp only [cells_u32] at hs
  refine ⟨a, b, s, ?_, wf_i64 wa, wf_u64 wb, wf_u32 ws⟩
  rw [cut3 hl, ha, hb, hs]
  rfl
theorem open_ubc {fuel : Nat} {cs : List Value} {x : DataW H × List MemPlace} (h : DataW.trod enc Try.prog W 0 (fun _ => true) true fuel 27 cs = some x) : ∃ u : Ub, cs = u.cs := by
  obtain ⟨xs, m, _, _, hl, hn, hx⟩ := DataW.trod_struct Try.underlying27 h
  rw [cells_ub] at hl
  have hn5 : xs.length = 5 := hn
  have g0 := hx 0 _ rfl
  have g1 := hx 1 _ rfl
  have g2 := hx 2 _ rfl
  have g3 := hx 3 _ rfl
  have g4 := hx 4 _ rfl
  have h0 : DataW.trod enc Try.prog W 0 (fun _ => true) true m 22 ((cs.drop 0).take (Try.prog.cellsOf 22)) = some (xs[0]'(by omega)) := g0.trans (List.getElem?_eq_getElem (by omega))
  have h1 : DataW.trod enc Try.prog W 0 (fun _ => true) true m 22 ((cs.drop 1).take (Try.prog.cellsOf 22)) = some (xs[1]'(by omega)) := g1.trans (List.getElem?_eq_getElem (by omega))
  have h2 : DataW.trod enc Try.prog W 0 (fun _ => true) true m 25 ((cs.drop 2).take (Try.prog.cellsOf 25)) = some (xs[2]'(by omega)) := g2.trans (List.getElem?_eq_getElem (by omega))
  have h3 : DataW.trod enc Try.prog W 0 (fun _ => true) true m 3 ((cs.drop 5).take (Try.prog.cellsOf 3)) = some (xs[3]'(by omega)) := g3.trans (List.getElem?_eq_getElem (by omega))
  have h4 : DataW.trod enc Try.prog W 0 (fun _ => true) true m 3 ((cs.drop 6).take (Try.prog.cellsOf 3)) = some (xs[4]'(by omega)) := g4.trans (List.getElem?_eq_getElem (by omega))
  obtain ⟨t, ht, _, wt⟩ := DataW.trod_int Try.underlying22 h0
  obtain ⟨st, hst, _, wst⟩ := DataW.trod_int Try.underlying22 h1
  obtain ⟨a, b, s, hp, ia, ib, is⟩ := open_ptrc h2
  obtain ⟨ln, hln, _, wln⟩ := DataW.trod_int Try.underlying3 h3
  obtain ⟨sc, hsc, _, wsc⟩ := DataW.trod_int Try.underlying3 h4
  simp only [cells_u64, List.drop_zero] at ht
  simp only [cells_u64] at hst
  simp only [cells_ptr] at hp
  simp only [cells_int] at hln hsc
  have it := wf_u64 wt
  have ist := wf_u64 wst
  refine ⟨⟨t.toNat, st.toNat, a, b.toNat, s.toNat, ln, sc, by omega, ia, wf_i64 wln, wf_i64 wsc⟩, ?_⟩
  have e : cs = cs.take 1 ++ ((cs.drop 1).take 1 ++ ((cs.drop 2).take 3 ++ ((cs.drop 5).take 1 ++ (cs.drop 6).take 1))) := by
    have e4 : (cs.drop 6).take 1 = cs.drop 6 := List.take_of_length_le (by rw [List.length_drop]; omega)
    have e3 : (cs.drop 5).take 1 ++ cs.drop 6 = cs.drop 5 := by
      have := List.take_append_drop 1 (cs.drop 5)
      rwa [List.drop_drop] at this
    have e2 : (cs.drop 2).take 3 ++ cs.drop 5 = cs.drop 2 := by
      have := List.take_append_drop 3 (cs.drop 2)
      rwa [List.drop_drop] at this
    have e1 : (cs.drop 1).take 1 ++ cs.drop 2 = cs.drop 1 := by
      have := List.take_append_drop 1 (cs.drop 1)
      rwa [List.drop_drop] at this
    rw [e4, e3, e2, e1, List.take_append_drop]
  rw [e, ht, hst, hp, hln, hsc]
  show _ = Ub.cs _
  simp only [Ub.cs, Int.toNat_of_nonneg it.1, Int.toNat_of_nonneg ist.1, Int.toNat_of_nonneg ib.1, Int.toNat_of_nonneg is.1]
  rfl
theorem open_ub (hv : Value.okWide Try.prog W r b0 27 v) (h : DataW.Trod enc Try.prog W 0 (fun _ => true) true 27 v d p) : ∃ u : Ub, v = .agg u.cs.toArray := by
  obtain ⟨cs, rfl, _⟩ := okWide_struct Try.underlying27 hv
  obtain ⟨fuel, hf⟩ := h
  obtain ⟨u, hu⟩ := open_ubc hf
  refine ⟨u, ?_⟩
  have : cs.toList = u.cs := hu
  rw [← this]
theorem okWide_arr' {k e : TypeId} {n : Nat} (hu : Try.prog.underlying k = some (.array n e)) (h : Value.okWide Try.prog W r b0 k v) : ∃ xs : Array Value, v = .agg xs := by
  simp only [Value.okWide, hu] at h
  obtain ⟨cs, h1, _, _⟩ := h
  exact ⟨cs, h1⟩
theorem open_secv (hv : Value.okWide Try.prog W r b0 34 v) (h : DataW.Trod enc Try.prog W 0 (fun _ => true) true 34 v d p) : ∃ s : Sec, v = .agg s.cs.toArray := by
  obtain ⟨cs, rfl⟩ := okWide_arr' Try.underlying34 hv
  obtain ⟨fuel, hf⟩ := h
  obtain ⟨s, hs⟩ := open_sec hf
  refine ⟨s, ?_⟩
  have : cs.toList = s.cs := hs
  rw [← this]
end
end Go.Proofs.Ytegcknloemgndaa
