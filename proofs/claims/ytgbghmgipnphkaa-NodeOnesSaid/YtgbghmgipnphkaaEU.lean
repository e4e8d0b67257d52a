import Derived.Test.YtgbghmgipnphkaaEV
import Derived.Test.YtgbghmgipnphkaaEB
import Derived.Test.YtgbghmgipnphkaaQ8

/- Arguments opened: ubers, sectors by value. -/
set_option maxRecDepth 10000
set_option maxRecDepth 10000
namespace Go.Proofs.Ytgbghmgipnphkaa
open Go.ChangeShapes Go.WideShapes Go.ChangeAt Go.RowKit Go.Deep

theorem cells_ptr : Try.prog.cellsOf 30 = 3 := by kernel_rfl
theorem cells_u64 : Try.prog.cellsOf 27 = 1 := by kernel_rfl
theorem cells_u32 : Try.prog.cellsOf 28 = 1 := by kernel_rfl
theorem cut3 {cs : List Value} (h : cs.length = 3) : cs = cs.take 1 ++ ((cs.drop 1).take 1 ++ (cs.drop 2).take 1) := by
  have e2 : (cs.drop 2).take 1 = cs.drop 2 := List.take_of_length_le (by rw [List.length_drop]; omega)
  have e1 : (cs.drop 1).take 1 ++ cs.drop 2 = cs.drop 1 := by
    have := List.take_append_drop 1 (cs.drop 1)
    rwa [List.drop_drop] at this
  rw [e2, e1, List.take_append_drop]
section
variable {H : Type} {enc : TypeId × Value → H} {W : World} {r : Reach} {b0 : Nat} {v : Value} {d : DataW H} {p : List MemPlace}
theorem open_ptrc {fuel : Nat} {cs : List Value} {x : DataW H × List MemPlace} (h : DataW.trod enc Try.prog W 0 (fun _ => true) true fuel 30 cs = some x) : ∃ a b s : Int, cs = [.int .i64 a, .int .u64 b, .int .u32 s] ∧ I64 a ∧ (0 ≤ b ∧ b < 18446744073709551616) ∧ (0 ≤ s ∧ s < 4294967296) := by
  obtain ⟨xs, m, _, _, hl, hn, hx⟩ := DataW.trod_struct Try.underlying30 h
  rw [cells_ptr] at hl
  have hn3 : xs.length = 3 := hn
  have g0 := hx 0 _ rfl
  have g1 := hx 1 _ rfl
  have g2 := hx 2 _ rfl
  have h0 : DataW.trod enc Try.prog W 0 (fun _ => true) true m 3 ((cs.drop 0).take (Try.prog.cellsOf 3)) = some (xs[0]'(by omega)) := g0.trans (List.getElem?_eq_getElem (by omega))
  have h1 : DataW.trod enc Try.prog W 0 (fun _ => true) true m 27 ((cs.drop 1).take (Try.prog.cellsOf 27)) = some (xs[1]'(by omega)) := g1.trans (List.getElem?_eq_getElem (by omega))
  have h2 : DataW.trod enc Try.prog W 0 (fun _ => true) true m 28 ((cs.drop 2).take (Try.prog.cellsOf 28)) = some (xs[2]'(by omega)) := g2.trans (List.getElem?_eq_getElem (by omega))
  obtain ⟨a, ha, _, wa⟩ := DataW.trod_int Try.underlying3 h0
  obtain ⟨b, hb, _, wb⟩ := DataW.trod_int Try.underlying27 h1
  obtain ⟨s, hs, _, ws⟩ := DataW.trod_int Try.underlying28 h2
  simp only [cells_int, List.drop_zero] at ha
  simp only [cells_u64] at hb
  simp only [cells_u32] at hs
  refine ⟨a, b, s, ?_, wf_i64 wa, wf_u64 wb, wf_u32 ws⟩
  rw [cut3 hl, ha, hb, hs]
  rfl
theorem okWide_arr' {k e : TypeId} {n : Nat} (hu : Try.prog.underlying k = some (.array n e)) (h : Value.okWide Try.prog W r b0 k v) : ∃ xs : Array Value, v = .agg xs := by
  simp only [Value.okWide, hu] at h
  obtain ⟨cs, h1, _, _⟩ := h
  exact ⟨cs, h1⟩
theorem open_secv (hv : Value.okWide Try.prog W r b0 23 v) (h : DataW.Trod enc Try.prog W 0 (fun _ => true) true 23 v d p) : ∃ s : Sec, v = .agg s.cs.toArray := by
  obtain ⟨cs, rfl⟩ := okWide_arr' Try.underlying23 hv
  obtain ⟨fuel, hf⟩ := h
  obtain ⟨s, hs⟩ := open_sec hf
  refine ⟨s, ?_⟩
  have : cs.toList = s.cs := hs
  rw [← this]
end
end Go.Proofs.Ytgbghmgipnphkaa
