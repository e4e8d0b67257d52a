/- Walks: the law's example; the law on names; the law on what pointers tell. -/
import Derived.Test.YtolinaijldmpnaaQ8
import Derived.Lib.SlBytesConst
namespace Go.Proofs.Ytolinaijldmpnaa
open Go.RowKit

def exB : List UInt8 := [9, 0, 0, 0, 2, 0, 0, 0, 0, 0, 0, 0, 7, 0, 0, 0]
theorem exB_A : rdA exB = 9 := by kernel_rfl
theorem exB_B : rdB exB = 2 := by kernel_rfl
theorem exB_S : rdS exB = 7 := by kernel_rfl
theorem exB_C : rdC exB = 0 := by kernel_rfl
theorem bs0_len : (bsF 0 0 0).length = 16 := by kernel_rfl
theorem bs0_C : bsC 0 0 0 = 0 := by kernel_rfl
theorem right_ex : rightF 9 2 7 = true := by kernel_rfl
theorem isPtr0 : IsPtr 0 0 0 := ⟨by omega, by omega, by omega, by omega, by omega, by omega⟩
theorem bytes_ex (w : World) : Calls Try.prog 16 #[ptv 0 0 0] w fun e w' => ∃ A c, e = .returned (.tuple #[.slice A 16 c, .int .i64 0]) ∧ Below w.heap.size w w' := by
  refine (bytes_any isPtr0 w).mono ?_
  rintro e w' ⟨A, c, rfl, -, -, hb⟩
  rw [bs0_len, bs0_C]
  exact ⟨A, c, rfl, hb⟩
theorem read_ex (A : Option Addr) (c : Nat) (w : World) (hc : 16 ≤ c) (hs : Rd w w.heap.size A (bys exB)) : Calls Try.prog 18 #[.slice A 16 c] w fun e w' => e = .returned (.tuple #[ptv 9 2 7, .int .i64 0]) ∧ Below w.heap.size w w' := by
  have h := read_any A c exB hc w hs
  rw [exB_A, exB_B, exB_S, exB_C] at h
  exact h
theorem right_97 (w : World) : Calls Try.prog 10 #[ptv 9 2 7] w fun e w' => e = .returned (.bool true) ∧ Below w.heap.size w w' := by
  have h := right_any 9 2 7 w
  rwa [right_ex] at h
abbrev exC : Array Value := #[.int .u8 9, .int .u8 0, .int .u8 0, .int .u8 0, .int .u8 2, .int .u8 0, .int .u8 0, .int .u8 0, .int .u8 0, .int .u8 0, .int .u8 0, .int .u8 0, .int .u8 7, .int .u8 0, .int .u8 0, .int .u8 0]
theorem exC_eq : exC.toList = bys exB := by kernel_rfl
theorem ex_rd (w : World) : Rd (w.alloc (.cells exC 5)) (w.alloc (.cells exC 5)).heap.size (some ⟨w.heap.size, 0, none⟩) (bys exB) := by
  rw [← exC_eq]
  exact rd_new w exC 5
theorem alive_any (w : World) : Calls Try.prog 9 #[] w fun e w' => e = .returned (.bool true) ∧ Below w.heap.size w w' := by
  have HE := Lib.hid read_ex
  have HR := Lib.hid right_97
  have hq := fun w => run_eqP 9 2 7 9 2 7 w
  go_enter Try.func9, Try.ntmps9
  go_wp2_with fail
  refine (bytes_ex _).mono ?_
  rintro e w1 ⟨A1, c1, rfl, hb1⟩
  have HB1 := Lib.hid hb1
  clear hb1
  go_wp2_with fail
  refine (HE.out _ 16 _ (by omega) (ex_rd w1)).mono ?_
  rintro e w2 ⟨rfl, hb2⟩
  have HB2 := Lib.hid (HB1.out.trans (((Below.refl _ _).alloc HB1.out.size _).trans (hb2.mono (by have := HB1.out.size; simp; omega))))
  clear hb2 HB1
  go_wp2_with (go_at_call 10; refine (HR.out _).mono ?_; rintro e w3 ⟨rfl, hb3⟩)
  go_ret
  exact ⟨rfl, (HB2.out.alloc HB2.out.size _).trans (hb3.mono (by have := HB2.out.size; simp; omega))⟩
theorem ptrNames_any (w : World) : Calls Try.prog 3 #[] w fun e w' => e = .returned (.bool true) ∧ Below w.heap.size w w' := by
  have HA := Lib.hid alive_any
  go_enter Try.func3, Try.ntmps3
  go_wp2_with (go_at_call 9; refine (HA.out _).mono ?_; rintro e w1 ⟨rfl, hb1⟩)
  go_ret
  exact ⟨rfl, hb1⟩
end Go.Proofs.Ytolinaijldmpnaa
