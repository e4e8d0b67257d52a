/- Walks: the law on zeros. -/
import Derived.Test.YtbnffcfnihepfaaS3
import Derived.Deep.RegionWith
import Derived.Deep.RegionHeld3
namespace Go.Proofs.Ytbnffcfnihepfaa
open Go.RowKit

theorem run_make_u8 (n : Nat) (hn : n ≤ 3000) (w : World) :
    (Instr.makeSlice 24 (.int .i64 (n : Int)) (.int .i64 (n : Int))).run Try.prog w = .ok (.slice (some ⟨w.heap.size, 0, none⟩) n n) (w.alloc (.cells (madeCells #[.int .u8 0] n) 5)) := by
  obtain ⟨i, hi, hz, hsz, hb⟩ := info_parts infoByte
  have hr := run_make (P := Try.prog) w 24 5 i _ Try.underlying24 hi hz .i64 .i64 n n (by omega) (by omega) (by rw [hb]; omega) (by omega)
  simp only [Int.toNat_natCast, hsz, Nat.mul_one] at hr
  exact hr

theorem Blk.at_ {g : Nat} (w : World) (t : TypeId) {cs : Array Value} (h : g = w.heap.size) : Blk (w.alloc (.cells cs t)) g t cs := by subst h; exact Blk.new w t cs
theorem Blk.drew {w : World} {g : Nat} {t : TypeId} {cs : Array Value} (h : Blk w g t cs) : Blk w.drew g t cs := h
theorem Blk.alloc {w : World} {g : Nat} {t : TypeId} {cs : Array Value} (h : Blk w g t cs) (o : Obj) : Blk (w.alloc o) g t cs := (Below.heap_alloc w o g h.lt).trans h
theorem below_drew {B : Nat} {a w : World} (h : Below B a w) : Below B a w.drew := ⟨h.os, h.tape, h.output, h.size, h.block⟩
def zsF (n : Nat) : Nat := notF (zerosF n 4294967295)
theorem zeros_in (n g : Nat) (W : World) (h : Blk W g 5 (madeCells #[.int .u8 0] n)) (hn : n ≤ 3000) :
    Calls Try.prog 9 #[.slice (some ⟨g, 0, none⟩) n n] W fun e w' => e = .returned (.int .u32 (zsF n : Int)) ∧ w' = W := by
  refine zeros_of n W g n (base := 0) ⟨by simp [madeCells], .inr ⟨g, n, _, rfl, Nat.zero_le _, h, Nat.le_refl _, by simp [maxLen]; omega, by simp [madeCells], ?_⟩⟩ hn
  rw [List.take_of_length_le (by simp [madeCells])]
  simp [Value.cells]

set_option maxHeartbeats 1000000 in
theorem sumZeros_in (n m : Nat) (hn : n ≤ 3000) (hm : m ≤ 3000) (t : Bool) (w : World) (h1 : ((zsF n : Int) == (zsF m : Int)) = t) (h2 : ((n : Int) == (m : Int)) = t) :
    Calls Try.prog 8 #[.int .i64 (n : Int), .int .i64 (m : Int)] w fun e w' => e = .returned (.bool true) ∧ Below w.heap.size w w' := by
  have HN := Lib.hid hn; have HM := Lib.hid hm
  have hni : (n : Int) ≤ 3000 := by omega
  have hmi : (m : Int) ≤ 3000 := by omega
  have hn0 : ¬ (n : Int) < 0 := by omega
  have hm0 : ¬ (m : Int) < 0 := by omega
  have hn1 : ¬ (3000 : Int) < n := by omega
  have hm1 : ¬ (3000 : Int) < m := by omega
  clear hn hm
  go_enter Try.func8, Try.ntmps8
  go_wp2_with fail
  refine (sumNames_any _).mono ?_
  rintro e w1 ⟨rfl, hb1⟩
  have HB1 := Lib.hid hb1; clear hb1
  have hk1 := fun W => run_make_u8 n HN.out W
  have hk2 := fun W => run_make_u8 m HM.out W
  go_wp2_with fail
  go_region_with (go_at_call 9; (refine (zeros_in _ _ _ ?_ ?_).mono ?_); rotate_left; rotate_left; (rintro e w' ⟨rfl, rfl⟩); rotate_left; (repeat (first | with_reducible exact Blk.new _ _ _ | (with_reducible refine Blk.at_ (g := w1.heap.size + 1) _ _ (by simp; done)) | with_reducible refine Blk.drew ?_ | with_reducible refine Blk.alloc ?_ _)); (first | exact HN.out | exact HM.out))
  all_goals (go_wp2_with fail)
  all_goals go_ret
  all_goals exact ⟨rfl, by
    repeat (first | exact HB1.out | with_reducible refine below_drew ?_ | with_reducible refine Below.alloc ?_ (by first | exact HB1.out.size | (have := HB1.out.size; simp; omega)) _)⟩
theorem sumZeros_out (x y : Int) (w : World) (h : x < 0 ∨ 3000 < x ∨ y < 0 ∨ 3000 < y) :
    Calls Try.prog 8 #[.int .i64 x, .int .i64 y] w fun e w' => e = .returned (.bool true) ∧ Below w.heap.size w w' := by
  have H := Lib.hid h; clear h
  go_enter Try.func8, Try.ntmps8
  go_wp2_with fail
  refine (sumNames_any _).mono ?_
  rintro e w1 ⟨rfl, hb1⟩
  have HB1 := Lib.hid hb1; clear hb1
  by_cases h1 : x < 0
  · go_wp2_with fail
    go_ret
    exact ⟨rfl, HB1.out⟩
  by_cases h2 : 3000 < x
  · go_wp2_with fail
    go_ret
    exact ⟨rfl, HB1.out⟩
  by_cases h3 : y < 0
  · go_wp2_with fail
    go_ret
    exact ⟨rfl, HB1.out⟩
  have h4 : 3000 < y := by rcases H.out with h | h | h | h <;> first | exact absurd h h1 | exact absurd h h2 | exact absurd h h3 | exact h
  go_wp2_with fail
  go_ret
  exact ⟨rfl, HB1.out⟩
theorem sumZeros_any (x y : Int) (w : World) :
    Calls Try.prog 8 #[.int .i64 x, .int .i64 y] w fun e w' => e = .returned (.bool true) ∧ Below w.heap.size w w' := by
  by_cases h : x < 0 ∨ 3000 < x ∨ y < 0 ∨ 3000 < y
  · exact sumZeros_out x y w h
  · simp only [not_or] at h
    obtain ⟨n, rfl⟩ := Int.eq_ofNat_of_zero_le (show 0 ≤ x by omega)
    obtain ⟨m, rfl⟩ := Int.eq_ofNat_of_zero_le (show 0 ≤ y by omega)
    have hn : n ≤ 3000 := by omega
    have hm : m ≤ 3000 := by omega
    by_cases he : n = m
    · subst he
      exact sumZeros_in n n hn hn true w (by simp) (by simp)
    · refine sumZeros_in n m hn hm false w ?_ (by rw [beq_eq_false_iff_ne]; omega)
      rw [beq_eq_false_iff_ne]
      intro h2
      have h3 : zsF n = zsF m := by omega
      exact he (zeros_ne hn hm h3)
end Go.Proofs.Ytbnffcfnihepfaa
