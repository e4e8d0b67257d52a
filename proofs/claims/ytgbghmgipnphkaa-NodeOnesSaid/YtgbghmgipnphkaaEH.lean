import Derived.Test.YtgbghmgipnphkaaEU
import Derived.Test.YtgbghmgipnphkaaH1

/- Arguments opened: eight pointers by value. -/
set_option maxRecDepth 10000
namespace Go.Proofs.Ytgbghmgipnphkaa
open Go.ChangeShapes Go.WideShapes Go.ChangeAt Go.RowKit Go.Deep

theorem cells_p8 : Try.prog.cellsOf 31 = 24 := by kernel_rfl
section
variable {H : Type} {enc : TypeId × Value → H} {W : World} {r : Reach} {b0 : Nat} {v : Value} {d : DataW H} {p : List MemPlace}
theorem open_p8c {fuel : Nat} {cs : List Value} {x : DataW H × List MemPlace} (h : DataW.trod enc Try.prog W 0 (fun _ => true) true fuel 31 cs = some x) : ∃ s : P8, cs = s.cs ∧ s.ok := by
  obtain ⟨xs, m, _, _, hl, hn, hx⟩ := DataW.trod_array Try.underlying31 h
  rw [cells_p8] at hl
  have each : ∀ i, i < 8 → ∃ q : PtrV, (cs.drop (i * 3)).take 3 = [.int .i64 q.1, .int .u64 q.2.1, .int .u32 q.2.2] ∧ PtrOk q := fun i hi => by
    have h1 := hx i hi
    rw [cells_ptr] at h1
    obtain ⟨a, b, s, hc, ha, hb, hs⟩ := open_ptrc (h1.trans (List.getElem?_eq_getElem (by omega)))
    exact ⟨(a, b, s), hc, ⟨ha.1, ha.2, hb.1, hb.2, hs.1, hs.2⟩⟩
  obtain ⟨l, hll, hl2⟩ := list_of 8 each
  refine ⟨⟨l, hll⟩, List.ext_getElem? fun i => ?_, fun q hq => ?_⟩
  · by_cases hi : i < 24
    · have hj : i / 3 < l.length := by omega
      obtain ⟨e0, e1, e2⟩ := pqs_at l (i / 3) hj
      have hc := (hl2 (i / 3) hj).1
      have get : ∀ k, k < 3 → cs[i / 3 * 3 + k]? = ((cs.drop (i / 3 * 3)).take 3)[k]? := fun k hk => by
        rw [List.getElem?_take_of_lt hk, List.getElem?_drop]
      have hr : i % 3 = 0 ∨ i % 3 = 1 ∨ i % 3 = 2 := by omega
      show cs[i]? = (pqs l)[i]?
      rcases hr with hr | hr | hr
      · have ei : i = i / 3 * 3 + 0 := by omega
        have g := get 0 (by omega)
        rw [hc] at g
        rw [ei, g, Nat.add_zero, e0]
        rfl
      · have ei : i = i / 3 * 3 + 1 := by omega
        have g := get 1 (by omega)
        rw [hc] at g
        rw [ei, g, e1]
        rfl
      · have ei : i = i / 3 * 3 + 2 := by omega
        have g := get 2 (by omega)
        rw [hc] at g
        rw [ei, g, e2]
        rfl
    · rw [List.getElem?_eq_none (by omega), List.getElem?_eq_none (by rw [P8.cs_len]; omega)]
  · obtain ⟨i, hi, rfl⟩ := List.getElem_of_mem hq
    exact (hl2 i hi).2
theorem open_p8 (hv : Value.okWide Try.prog W r b0 31 v) (h : DataW.Trod enc Try.prog W 0 (fun _ => true) true 31 v d p) : ∃ s : P8, v = .agg s.cs.toArray ∧ s.ok := by
  obtain ⟨cs, rfl⟩ := okWide_arr' Try.underlying31 hv
  obtain ⟨fuel, hf⟩ := h
  obtain ⟨s, hs, ho⟩ := open_p8c hf
  refine ⟨s, ?_, ho⟩
  have : cs.toList = s.cs := hs
  rw [← this]
end
end Go.Proofs.Ytgbghmgipnphkaa
