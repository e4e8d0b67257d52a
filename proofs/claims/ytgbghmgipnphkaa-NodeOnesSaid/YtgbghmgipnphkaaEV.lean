import Derived.Test.YtgbghmgipnphkaaD
import Derived.Test.YtgbghmgipnphkaaV2

/- Arguments opened: bools; what is done with a device (a struct of two numbers, a sector, bools). -/
set_option maxRecDepth 10000
set_option maxRecDepth 10000
namespace Go.Proofs.Ytgbghmgipnphkaa
open Go.ChangeShapes Go.WideShapes Go.ChangeAt Go.RowKit Go.Deep

theorem cells_sec : Try.prog.cellsOf 23 = 128 := by kernel_rfl
theorem cells_u8 : Try.prog.cellsOf 5 = 1 := by kernel_rfl
theorem cells_int : Try.prog.cellsOf 3 = 1 := by kernel_rfl
section
variable {H : Type} {enc : TypeId × Value → H} {W : World} {r : Reach} {b0 : Nat} {v : Value} {d : DataW H} {p : List MemPlace}
theorem open_sec {fuel : Nat} {cs : List Value} {x : DataW H × List MemPlace} (h : DataW.trod enc Try.prog W 0 (fun _ => true) true fuel 23 cs = some x) : ∃ s : Sec, cs = s.cs := by
  obtain ⟨xs, m, _, _, hl, hn, hx⟩ := DataW.trod_array Try.underlying23 h
  rw [cells_sec] at hl
  have each : ∀ i, i < 128 → ∃ b : UInt8, cs[i]? = some (.int .u8 (b.toNat : Int)) := fun i hi => by
    have h1 := hx i hi
    rw [cells_u8, Nat.mul_one] at h1
    have hi2 : i < cs.length := by omega
    rw [List.drop_eq_getElem_cons hi2, List.take_succ_cons, List.take_zero] at h1
    obtain ⟨n, hc, _, hw⟩ := DataW.trod_int Try.underlying5 (h1.trans (List.getElem?_eq_getElem (by omega)))
    simp only [List.cons.injEq, and_true] at hc
    obtain ⟨hn1, hn2⟩ := wf_u8 hw
    refine ⟨UInt8.ofNat n.toNat, ?_⟩
    rw [List.getElem?_eq_getElem hi2, hc, UInt8.toNat_ofNat']
    congr 2
    omega
  obtain ⟨l, hll, hl2⟩ := list_of 128 each
  refine ⟨⟨l, hll⟩, List.ext_getElem? fun i => ?_⟩
  by_cases hi : i < 128
  · rw [hl2 i (by omega)]
    exact (bys_at l i (by omega)).symm
  · rw [List.getElem?_eq_none (by omega), List.getElem?_eq_none (by rw [Sec.cs_len]; omega)]
end
end Go.Proofs.Ytgbghmgipnphkaa
