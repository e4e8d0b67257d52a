
/- Walks: the pointer of sixteen bytes, the reference's. -/
import Derived.Test.YtgbghmgipnphkaaQ6
set_option maxRecDepth 10000
namespace Go.Proofs.Ytgbghmgipnphkaa
open Go.RowKit

set_option maxHeartbeats 400000 in
theorem value_same (A : Option Addr) (c B : Nat) (l : List UInt8) (w : World) (hs : Rd w B A (bys l)) (hl : l.length ≤ 8) :
    Calls Try.prog 31 #[.slice A l.length c] w fun e w' => e = .returned (.int .u64 (numF l : Int)) ∧ w' = w := by
  go_enter Try.func31, Try.ntmps31
  go_wp2_with fail
  go_loop [3, 4] (fun s i => ∃ (k : Nat) (z : Int), k ≤ l.length ∧ i = .int .i64 z ∧ z + 1 ≤ k ∧ k ≤ z + 1 ∧ s = .int .u64 (numF (l.drop k) : Int)) (fun _ i => (intOf i + 1).toNat)
  case atStart => exact ⟨l.length, (l.length : Int) - 1, by omega, rfl, by omega, by omega, by rw [List.drop_length]; rfl⟩
  case round =>
    obtain ⟨k, z, hk, rfl, hz1, hz2, rfl⟩ := hrel
    rcases k with _ | j
    · obtain rfl : z = -1 := by omega
      go_wp2_with fail
      go_ret
      exact ⟨rfl, rfl⟩
    · obtain rfl : z = (j : Int) := by omega
      obtain ⟨b, off, rfl, hbB, hc1⟩ := by_at hs j (by omega)
      have hst := val_step l j (by omega) hl _ rfl
      have HO := Lib.hid hst; clear hst
      have hbt := l[j].toNat_lt
      generalize l[j].toNat = x at *
      go_wp2_with fail
      go_round
      case rel => exact ⟨j, (j : Int) - 1, by omega, by go_num, by omega, by omega, by rw [← HO.out]⟩
      case measure => simp [intOf]
theorem val_at {w : World} {g off : Nat} {l : List UInt8} (h : l.length = 16) (hs : Rd w w.heap.size (some ⟨g, off, none⟩) (bys l)) : ∀ c W, Below w.heap.size w W →
    Calls Try.prog 31 #[.slice (some ⟨g, off, none⟩) 4 c] W fun e w' => e = .returned (.int .u64 (atN l : Int)) ∧ w' = W := by
  intro c W hb
  have := value_same (some ⟨g, off, none⟩) c w.heap.size (l.take 4) W (by rw [← bys_take]; exact (hs.below hb).take 4) (by rw [List.length_take]; omega)
  rwa [List.length_take, h] at this
theorem val_born {w : World} {g off : Nat} {l : List UInt8} (h : l.length = 16) (hs : Rd w w.heap.size (some ⟨g, off, none⟩) (bys l)) : ∀ c W, Below w.heap.size w W →
    Calls Try.prog 31 #[.slice (some ⟨g, off + 4, none⟩) 8 c] W fun e w' => e = .returned (.int .u64 (bornN l : Int)) ∧ w' = W := by
  intro c W hb
  have := value_same (some ⟨g, off + 4, none⟩) c w.heap.size ((l.drop 4).take 8) W (by rw [← bys_take, ← bys_drop]; exact ((hs.below hb).drop).take 8) (by rw [List.length_take]; omega)
  rwa [List.length_take, List.length_drop, h] at this
theorem val_sum {w : World} {g off : Nat} {l : List UInt8} (h : l.length = 16) (hs : Rd w w.heap.size (some ⟨g, off, none⟩) (bys l)) : ∀ c W, Below w.heap.size w W →
    Calls Try.prog 31 #[.slice (some ⟨g, off + 12, none⟩) 4 c] W fun e w' => e = .returned (.int .u64 (sumN l : Int)) ∧ w' = W := by
  intro c W hb
  have := value_same (some ⟨g, off + 12, none⟩) c w.heap.size (l.drop 12) W (by rw [← bys_drop]; exact (hs.below hb).drop) (by rw [List.length_drop]; omega)
  rwa [List.length_drop, h] at this
set_option maxHeartbeats 1000000 in
theorem rread_yes (A : Option Addr) (c : Nat) (l : List UInt8) (h : l.length = 16) (hc : 16 ≤ c) (w : World) (hs : Rd w w.heap.size A (bys l)) (hr : rightF (atN l) (bornN l) (sumN l) = true) :
    Calls Try.prog 24 #[.slice A 16 c] w fun e w' => e = .returned (.tuple #[ptv (atN l) (bornN l) (sumN l), .int .i64 0]) ∧ Below w.heap.size w w' := by
  have right := rright_any (atN l) (bornN l) (sumN l) (by omega)
  rw [hr] at right
  have HR := Lib.hid right
  obtain ⟨g, off, rfl, -, -⟩ := hs (by rw [bys_len, h]; omega)
  have V1 := Lib.hid (val_at h hs)
  have V2 := Lib.hid (val_born h hs)
  have V3 := Lib.hid (val_sum h hs)
  have W1 := Lib.hid (wrapI (at_lt h))
  have W3 := Lib.hid (wrapW (sum_lt h))
  have hB := Lib.hid (Blk.new w 30 (pcs 0 0 0))
  have hb : Below w.heap.size w (w.alloc (pto 0 0 0)) := (Below.refl w.heap.size w).alloc (by omega) _
  have hc4 : (4 : Int) ≤ c := by omega
  have hc12 : (12 : Int) ≤ c := by omega
  have hc16 : (16 : Int) ≤ c := by omega
  have hne4 : c ≠ 4 := by omega
  have hne12 : c ≠ 12 := by omega
  clear h hc hr right hs
  generalize atN l = n at *
  generalize bornN l = b at *
  generalize sumN l = s at *
  go_enter Try.func24, Try.ntmps24
  go_wp2_with fail
  go_region_held3 (fun w' => Below w.heap.size w w')
    (first
      | assumption
      | exact (‹Below w.heap.size w _›).alloc (‹Below w.heap.size w _›).size _
      | exact ((‹Below w.heap.size w _›).alloc (‹Below w.heap.size w _›).size _).drew
      | exact (‹Below w.heap.size w _›).drew)
    (first
      | (go_at_call 31; with_reducible refine Calls.mono (V1.out _ _ ‹Below w.heap.size w _›) ?_; rintro e w1 ⟨rfl, rfl⟩)
      | (go_at_call 31; with_reducible refine Calls.mono (V2.out _ _ ‹Below w.heap.size w _›) ?_; rintro e w1 ⟨rfl, rfl⟩)
      | (go_at_call 31; with_reducible refine Calls.mono (V3.out _ _ ‹Below w.heap.size w _›) ?_; rintro e w1 ⟨rfl, rfl⟩))
  all_goals
    rw [W1.out, W3.out]
    have P4 := Lib.hid (show Blk ((w.alloc (pto 0 0 0)).alloc (pto n b s)).drew (w.heap.size + 1) 30 (pcs n b s) from by have h := Blk.new (w.alloc (pto 0 0 0)) 30 (pcs n b s); rwa [show (w.alloc (pto 0 0 0)).heap.size = w.heap.size + 1 by simp] at h)
    have Z4 := Lib.hid (show Blk ((w.alloc (pto 0 0 0)).alloc (pto n b s)).drew w.heap.size 30 (pcs 0 0 0) from hB.out.below (((Below.refl _ _).alloc (Nat.le_refl _) _).drew) (by simp))
    have HB4 := Lib.hid (show Below w.heap.size w ((w.alloc (pto 0 0 0)).alloc (pto n b s)).drew from (hb.alloc hb.size _).drew)
    have hlt4 : w.heap.size + 1 < ((w.alloc (pto 0 0 0)).alloc (pto n b s)).drew.heap.size := by simp
    have c0 := P4.out.cell 0
    have c1 := P4.out.cell 1
    have c2' := P4.out.cell 2
    clear W1 W3 hb hB
    generalize ((w.alloc (pto 0 0 0)).alloc (pto n b s)).drew = w4 at *
    go_wp2_with fail
    refine (HR.out _).mono ?_
    rintro e w5 ⟨rfl, hb5⟩
    have P5 := Lib.hid (P4.out.below hb5 hlt4)
    have Z5 := Lib.hid (Z4.out.below hb5 (by omega))
    have HB5 := Lib.hid (HB4.out.trans (hb5.mono HB4.out.size))
    clear hb5 P4 Z4 HB4 c0 c1 c2'
    go_wp2_with (first
      | (with_reducible refine ld_ptr rfl (.tmp 4) rfl (w.heap.size + 1) 30 n b s rfl P5.out ?_)
      | (refine st_ptr rfl (.tmp 2) (.tmp 25) rfl w.heap.size 30 _ n b s rfl rfl Z5.out rfl ?_; intro w6 hB6 hk6))
    refine bodyPost_ret (ret_ptr rfl hB6 rfl) rfl ⟨rfl, hk6 _ _ HB5.out (Nat.le_refl _)⟩
set_option maxHeartbeats 1000000 in
theorem rread_bad (A : Option Addr) (c : Nat) (l : List UInt8) (h : l.length = 16) (hc : 16 ≤ c) (w : World) (hs : Rd w w.heap.size A (bys l)) (hr : rightF (atN l) (bornN l) (sumN l) = false) :
    Calls Try.prog 24 #[.slice A 16 c] w fun e w' => e = .returned (.tuple #[ptv 0 0 0, .int .i64 51]) ∧ Below w.heap.size w w' := by
  have right := rright_any (atN l) (bornN l) (sumN l) (by omega)
  rw [hr] at right
  have HR := Lib.hid right
  obtain ⟨g, off, rfl, -, -⟩ := hs (by rw [bys_len, h]; omega)
  have V1 := Lib.hid (val_at h hs)
  have V2 := Lib.hid (val_born h hs)
  have V3 := Lib.hid (val_sum h hs)
  have W1 := Lib.hid (wrapI (at_lt h))
  have W3 := Lib.hid (wrapW (sum_lt h))
  have hB := Lib.hid (Blk.new w 30 (pcs 0 0 0))
  have hb : Below w.heap.size w (w.alloc (pto 0 0 0)) := (Below.refl w.heap.size w).alloc (by omega) _
  have hc4 : (4 : Int) ≤ c := by omega
  have hc12 : (12 : Int) ≤ c := by omega
  have hc16 : (16 : Int) ≤ c := by omega
  have hne4 : c ≠ 4 := by omega
  have hne12 : c ≠ 12 := by omega
  clear h hc hr right hs
  generalize atN l = n at *
  generalize bornN l = b at *
  generalize sumN l = s at *
  go_enter Try.func24, Try.ntmps24
  go_wp2_with fail
  go_region_held3 (fun w' => Below w.heap.size w w')
    (first
      | assumption
      | exact (‹Below w.heap.size w _›).alloc (‹Below w.heap.size w _›).size _
      | exact ((‹Below w.heap.size w _›).alloc (‹Below w.heap.size w _›).size _).drew
      | exact (‹Below w.heap.size w _›).drew)
    (first
      | (go_at_call 31; with_reducible refine Calls.mono (V1.out _ _ ‹Below w.heap.size w _›) ?_; rintro e w1 ⟨rfl, rfl⟩)
      | (go_at_call 31; with_reducible refine Calls.mono (V2.out _ _ ‹Below w.heap.size w _›) ?_; rintro e w1 ⟨rfl, rfl⟩)
      | (go_at_call 31; with_reducible refine Calls.mono (V3.out _ _ ‹Below w.heap.size w _›) ?_; rintro e w1 ⟨rfl, rfl⟩))
  all_goals
    rw [W1.out, W3.out]
    have P4 := Lib.hid (show Blk ((w.alloc (pto 0 0 0)).alloc (pto n b s)).drew (w.heap.size + 1) 30 (pcs n b s) from by have h := Blk.new (w.alloc (pto 0 0 0)) 30 (pcs n b s); rwa [show (w.alloc (pto 0 0 0)).heap.size = w.heap.size + 1 by simp] at h)
    have Z4 := Lib.hid (show Blk ((w.alloc (pto 0 0 0)).alloc (pto n b s)).drew w.heap.size 30 (pcs 0 0 0) from hB.out.below (((Below.refl _ _).alloc (Nat.le_refl _) _).drew) (by simp))
    have HB4 := Lib.hid (show Below w.heap.size w ((w.alloc (pto 0 0 0)).alloc (pto n b s)).drew from (hb.alloc hb.size _).drew)
    have hlt4 : w.heap.size + 1 < ((w.alloc (pto 0 0 0)).alloc (pto n b s)).drew.heap.size := by simp
    have c0 := P4.out.cell 0
    have c1 := P4.out.cell 1
    have c2' := P4.out.cell 2
    clear W1 W3 hb hB
    generalize ((w.alloc (pto 0 0 0)).alloc (pto n b s)).drew = w4 at *
    go_wp2_with fail
    refine (HR.out _).mono ?_
    rintro e w5 ⟨rfl, hb5⟩
    have Z5 := Lib.hid (Z4.out.below hb5 (by omega))
    have HB5 := Lib.hid (HB4.out.trans (hb5.mono HB4.out.size))
    clear hb5 P4 Z4 HB4 c0 c1 c2'
    go_wp2_with (refine st_ptr rfl (.tmp 2) (.tmp 24) rfl w.heap.size 30 _ 0 0 0 rfl rfl Z5.out rfl ?_; intro w6 hB6 hk6)
    refine bodyPost_ret (ret_ptr rfl hB6 rfl) rfl ⟨rfl, hk6 _ _ HB5.out (Nat.le_refl _)⟩
end Go.Proofs.Ytgbghmgipnphkaa
