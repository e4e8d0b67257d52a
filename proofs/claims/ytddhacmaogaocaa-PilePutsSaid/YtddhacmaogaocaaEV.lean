
/- Arguments opened: bools; what is done with a device (a struct of two numbers, a sector, bools). -/
import Derived.Test.YtddhacmaogaocaaD
import Derived.Test.YtddhacmaogaocaaV2
set_option maxRecDepth 10000
set_option maxRecDepth 10000
namespace Go.Proofs.Ytddhacmaogaocaa
open Go.ChangeShapes Go.WideShapes Go.ChangeAt Go.RowKit Go.Deep

/-- Something that is done with a device: 'keep' is a slice of bools, whatever it holds. -/
structure Deed where
  kind : Int
  at_ : Int
  data : Sec
  keep : Value
  hk : I64 kind
  ha : I64 at_
  h1 : keep.oneCell' = true
def Deed.cs (d : Deed) : List Value := .int .i64 d.kind :: .int .i64 d.at_ :: (d.data.cs ++ [d.keep])
theorem Deed.cs_len (d : Deed) : d.cs.length = 131 := by simp [Deed.cs, Sec.cs_len]
theorem Deed.one (d : Deed) : ∀ u ∈ d.cs, u.oneCell' = true := by
  intro u hu
  simp only [Deed.cs, List.mem_cons, List.mem_append, List.not_mem_nil, or_false] at hu
  rcases hu with rfl | rfl | hu | rfl
  · rfl
  · rfl
  · exact d.data.one u hu
  · exact d.h1
def flatD (l : List Deed) : List Value := l.flatMap Deed.cs
theorem flatD_len : ∀ l : List Deed, (flatD l).length = l.length * 131
  | [] => rfl
  | s :: r => by
    have := flatD_len r
    simp only [flatD, List.flatMap_cons, List.length_append, Deed.cs_len, List.length_cons] at this ⊢
    omega
theorem flatD_at : ∀ (l : List Deed) (i : Nat) (h : i < l.length) (j : Nat), j < 131 → (flatD l)[i * 131 + j]? = (l[i].cs)[j]?
  | s :: r, 0, _, j, hj => by
    simp only [flatD, List.flatMap_cons, Nat.zero_mul, Nat.zero_add, List.getElem_cons_zero]
    rw [List.getElem?_append_left (by rw [Deed.cs_len]; exact hj)]
  | s :: r, i + 1, h, j, hj => by
    have := flatD_at r i (by simpa using h) j hj
    simp only [flatD, List.flatMap_cons, List.getElem_cons_succ] at this ⊢
    rw [List.getElem?_append_right (by rw [Deed.cs_len]; omega), Deed.cs_len, show (i + 1) * 131 + j - 131 = i * 131 + j by omega]
    exact this
theorem rd_deed {w : World} {B : Nat} {A : Option Addr} {l : List Deed} (h : Rd w B A (flatD l)) (k : Nat) (hk : k < l.length) : ∃ b off, A = some ⟨b, off, none⟩ ∧ b < B ∧ w.rangeAt b (off + k * 131) l[k].cs := by
  obtain ⟨b, off, e, hl, hc⟩ := h (by rw [flatD_len]; omega)
  refine ⟨b, off, e, hl, fun j v hv => ?_⟩
  have hj : j < 131 := by have := (List.getElem?_eq_some_iff.1 hv).1; rwa [Deed.cs_len] at this
  rw [Nat.add_assoc]
  exact hc _ v (by rw [flatD_at l k hk j hj]; exact hv)

theorem cells_bool : Try.prog.cellsOf 4 = 1 := by kernel_rfl
theorem bytes_bool : Try.prog.bytesOf 4 = 1 := by kernel_rfl
theorem cells_sec : Try.prog.cellsOf 23 = 128 := by kernel_rfl
theorem cells_u8 : Try.prog.cellsOf 5 = 1 := by kernel_rfl
theorem cells_int : Try.prog.cellsOf 3 = 1 := by kernel_rfl
section
variable {H : Type} {enc : TypeId × Value → H} {W : World} {r : Reach} {b0 : Nat} {v : Value} {d : DataW H} {p : List MemPlace}
theorem open_sec {fuel : Nat} {cs : List Value} {x : DataW H × List MemPlace} (h : DataW.trod enc Try.prog W 0 (fun _ => true) true fuel 23 cs = some x) : ∃ s : Sec, cs = s.cs := by
  obtain ⟨xs, m, _, _, hl, hn, hx⟩ := DataW.trod_array Try.underlying23 h
  rw [cells_sec] at hl
  have each : ∀ i, i < 128 → ∃ b : UInt8, cs[i]? = some (.int .u8 (b.toNat : Int)) := fun i hi => by
    have h1 := hx i hi
    rw [cells_u8, Nat.mul_one] at h1
    have hi2 : i < cs.length := by omega
    rw [List.drop_eq_getElem_cons hi2, List.take_succ_cons, List.take_zero] at h1
    obtain ⟨n, hc, _, hw⟩ := DataW.trod_int Try.underlying5 (h1.trans (List.getElem?_eq_getElem (by omega)))
    simp only [List.cons.injEq, and_true] at hc
    obtain ⟨hn1, hn2⟩ := wf_u8 hw
    refine ⟨UInt8.ofNat n.toNat, ?_⟩
    rw [List.getElem?_eq_getElem hi2, hc, UInt8.toNat_ofNat']
    congr 2
    omega
  obtain ⟨l, hll, hl2⟩ := list_of 128 each
  refine ⟨⟨l, hll⟩, List.ext_getElem? fun i => ?_⟩
  by_cases hi : i < 128
  · rw [hl2 i (by omega)]
    exact (bys_at l i (by omega)).symm
  · rw [List.getElem?_eq_none (by omega), List.getElem?_eq_none (by rw [Sec.cs_len]; omega)]
end
end Go.Proofs.Ytddhacmaogaocaa
