
/- Walks: the pointer of sixteen bytes, the program's. -/
import Derived.Test.YtgbghmgipnphkaaQ5
import Derived.Deep.RegionHeld3
set_option maxRecDepth 10000
namespace Go.Proofs.Ytgbghmgipnphkaa
open Go.RowKit

theorem un3_at {w : World} {B : Nat} {A : Option Addr} {n b s : Nat} (h : Rd w B A (uns [n, b, s])) : ∃ g off, A = some ⟨g, off, none⟩ ∧ g < B ∧
    w.cell? ⟨g, off, none⟩ = some (.int .u64 n) ∧ w.cell? ⟨g, off + 1, none⟩ = some (.int .u64 b) ∧ w.cell? ⟨g, off + 2, none⟩ = some (.int .u64 s) := by
  obtain ⟨g, off, rfl, hg, hc⟩ := h (by simp [uns])
  exact ⟨g, off, rfl, hg, hc 0 _ rfl, hc 1 _ rfl, hc 2 _ rfl⟩
theorem wrapI {n : Nat} (h : n < 4294967296) : IntKind.i64.wrap (n : Int) = n := by
  simp [IntKind.wrap, IntKind.signed, IntKind.bits]; omega
theorem wrapW {n : Nat} (h : n < 4294967296) : IntKind.u32.wrap (n : Int) = n := by
  simp [IntKind.wrap, IntKind.signed, IntKind.bits]; omega
theorem read_yes (A : Option Addr) (c : Nat) (l : List UInt8) (h : l.length = 16) (hc : 16 ≤ c) (w : World) (hs : Rd w w.heap.size A (bys l)) (hr : rightF (atN l) (bornN l) (sumN l) = true) :
    Calls Try.prog 23 #[.slice A 16 c] w fun e w' => e = .returned (.tuple #[ptv (atN l) (bornN l) (sumN l), .int .i64 0]) ∧ Below w.heap.size w w' := by
  have HG := Lib.hid (fun A2 c2 => get_yes A2 A c2 c l h hc)
  have HW := Lib.hid widths_any
  have right := right_any (atN l) (bornN l) (sumN l)
  rw [hr] at right
  have HR := Lib.hid right
  have H1 := at_lt h
  have H2 := born_lt h
  have H3 := sum_lt h
  clear h hc hr right
  generalize atN l = n at *
  generalize bornN l = b at *
  generalize sumN l = s at *
  have hn' : (n : Int) ≤ 4294967295 := by omega
  have hb' : (b : Int) ≤ 18446744073709551615 := by omega
  have hs' : (s : Int) ≤ 4294967295 := by omega
  have W1 := Lib.hid (wrapI H1)
  have W3 := Lib.hid (wrapW H3)
  clear H1 H2 H3
  go_enter Try.func23, Try.ntmps23
  go_wp2_with (go_at_call 27; refine (HW.out _).mono ?_; rintro e w1 ⟨rfl, rfl⟩)
  refine (HG.out _ _ _ (wid_rd2 w _) (((hs.below (below_two' w _ _)).mono (by simp; omega)))).mono ?_
  rintro e w3 ⟨A2, c2, rfl, hrd, hc2, hb3⟩
  have hB : Blk w3 w.heap.size 30 (pcs 0 0 0) := ((Blk.new w _ _).below ((Below.refl _ _).alloc (Nat.le_refl _) _) (by simp)).below hb3 (by simp; omega)
  have hb := (below_two' w _ _).trans (hb3.mono (by simp; omega))
  have hlt : w.heap.size < w3.heap.size := by have := hb3.size; simp at this; omega
  have HB := Lib.hid hb
  have hB' := Lib.hid hB
  clear hb hB hb3
  obtain ⟨g, off, rfl, hg, g0, g1, g2⟩ := un3_at hrd
  clear hrd
  go_wp2_with fail
  go_region_held3 (fun w' => w'.cell? ⟨g, off, none⟩ = some (.int .u64 n) ∧ w'.cell? ⟨g, off + 1, none⟩ = some (.int .u64 b) ∧ w'.cell? ⟨g, off + 2, none⟩ = some (.int .u64 s))
    (first
      | go_keep)
    (first
      | fail)
  rw [W1.out, W3.out]
  have P4 := Lib.hid (show Blk (w3.alloc (pto n b s)).drew w3.heap.size 30 (pcs n b s) from Blk.new _ _ _)
  have Z4 := Lib.hid (show Blk (w3.alloc (pto n b s)).drew w.heap.size 30 (pcs 0 0 0) from hB'.out.below (((Below.refl _ _).alloc (Nat.le_refl _) _).drew) hlt)
  have HB4 := Lib.hid (show Below w.heap.size w (w3.alloc (pto n b s)).drew from (HB.out.alloc HB.out.size _).drew)
  have hlt4 : w3.heap.size < (w3.alloc (pto n b s)).drew.heap.size := by simp
  have c0 := P4.out.cell 0
  have c1 := P4.out.cell 1
  have c2' := P4.out.cell 2
  clear g0 g1 g2 W1 W3
  generalize (w3.alloc (pto n b s)).drew = w4 at *
  go_wp2_with fail
  refine (HR.out _).mono ?_
  rintro e w5 ⟨rfl, hb5⟩
  have P5 := Lib.hid (P4.out.below hb5 hlt4)
  have Z5 := Lib.hid (Z4.out.below hb5 (Nat.lt_trans hlt hlt4))
  have HB5 := Lib.hid (HB4.out.trans (hb5.mono HB4.out.size))
  clear hb5 P4 Z4 HB4 c0 c1 c2' HB hB'
  go_wp2_with (first
    | (with_reducible refine ld_ptr rfl (.tmp 6) rfl w3.heap.size 30 n b s rfl P5.out ?_)
    | (refine st_ptr rfl (.tmp 2) (.tmp 32) rfl w.heap.size 30 _ n b s rfl rfl Z5.out rfl ?_; intro w6 hB6 hk6))
  refine bodyPost_ret (ret_ptr rfl hB6 rfl) rfl ⟨rfl, hk6 _ _ HB5.out (Nat.le_refl _)⟩
theorem read_bad (A : Option Addr) (c : Nat) (l : List UInt8) (h : l.length = 16) (hc : 16 ≤ c) (w : World) (hs : Rd w w.heap.size A (bys l)) (hr : rightF (atN l) (bornN l) (sumN l) = false) :
    Calls Try.prog 23 #[.slice A 16 c] w fun e w' => e = .returned (.tuple #[ptv 0 0 0, .int .i64 51]) ∧ Below w.heap.size w w' := by
  have HG := Lib.hid (fun A2 c2 => get_yes A2 A c2 c l h hc)
  have HW := Lib.hid widths_any
  have right := right_any (atN l) (bornN l) (sumN l)
  rw [hr] at right
  have HR := Lib.hid right
  have H1 := at_lt h
  have H2 := born_lt h
  have H3 := sum_lt h
  clear h hc hr right
  generalize atN l = n at *
  generalize bornN l = b at *
  generalize sumN l = s at *
  have hn' : (n : Int) ≤ 4294967295 := by omega
  have hb' : (b : Int) ≤ 18446744073709551615 := by omega
  have hs' : (s : Int) ≤ 4294967295 := by omega
  have W1 := Lib.hid (wrapI H1)
  have W3 := Lib.hid (wrapW H3)
  clear H1 H2 H3
  go_enter Try.func23, Try.ntmps23
  go_wp2_with (go_at_call 27; refine (HW.out _).mono ?_; rintro e w1 ⟨rfl, rfl⟩)
  refine (HG.out _ _ _ (wid_rd2 w _) (((hs.below (below_two' w _ _)).mono (by simp; omega)))).mono ?_
  rintro e w3 ⟨A2, c2, rfl, hrd, hc2, hb3⟩
  have hB : Blk w3 w.heap.size 30 (pcs 0 0 0) := ((Blk.new w _ _).below ((Below.refl _ _).alloc (Nat.le_refl _) _) (by simp)).below hb3 (by simp; omega)
  have hb := (below_two' w _ _).trans (hb3.mono (by simp; omega))
  have hlt : w.heap.size < w3.heap.size := by have := hb3.size; simp at this; omega
  have HB := Lib.hid hb
  have hB' := Lib.hid hB
  clear hb hB hb3
  obtain ⟨g, off, rfl, hg, g0, g1, g2⟩ := un3_at hrd
  clear hrd
  go_wp2_with fail
  go_region_held3 (fun w' => w'.cell? ⟨g, off, none⟩ = some (.int .u64 n) ∧ w'.cell? ⟨g, off + 1, none⟩ = some (.int .u64 b) ∧ w'.cell? ⟨g, off + 2, none⟩ = some (.int .u64 s))
    (first
      | go_keep)
    (first
      | fail)
  rw [W1.out, W3.out]
  have P4 := Lib.hid (show Blk (w3.alloc (pto n b s)).drew w3.heap.size 30 (pcs n b s) from Blk.new _ _ _)
  have Z4 := Lib.hid (show Blk (w3.alloc (pto n b s)).drew w.heap.size 30 (pcs 0 0 0) from hB'.out.below (((Below.refl _ _).alloc (Nat.le_refl _) _).drew) hlt)
  have HB4 := Lib.hid (show Below w.heap.size w (w3.alloc (pto n b s)).drew from (HB.out.alloc HB.out.size _).drew)
  have hlt4 : w3.heap.size < (w3.alloc (pto n b s)).drew.heap.size := by simp
  have c0 := P4.out.cell 0
  have c1 := P4.out.cell 1
  have c2' := P4.out.cell 2
  clear g0 g1 g2 W1 W3
  generalize (w3.alloc (pto n b s)).drew = w4 at *
  go_wp2_with fail
  refine (HR.out _).mono ?_
  rintro e w5 ⟨rfl, hb5⟩
  have Z5 := Lib.hid (Z4.out.below hb5 (Nat.lt_trans hlt hlt4))
  have HB5 := Lib.hid (HB4.out.trans (hb5.mono HB4.out.size))
  clear hb5 P4 Z4 HB4 c0 c1 c2' HB hB'
  go_wp2_with (refine st_ptr rfl (.tmp 2) (.tmp 31) rfl w.heap.size 30 _ 0 0 0 rfl rfl Z5.out rfl ?_; intro w6 hB6 hk6)
  refine bodyPost_ret (ret_ptr rfl hB6 rfl) rfl ⟨rfl, hk6 _ _ HB5.out (Nat.le_refl _)⟩
end Go.Proofs.Ytgbghmgipnphkaa
