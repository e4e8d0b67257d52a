/- Walks: the law on three texts. -/
import Derived.Test.YtbnffcfnihepfaaS3
import Derived.Deep.RegionHeld3
import Derived.Deep.AppendLies
namespace Go.Proofs.Ytbnffcfnihepfaa
open Go.RowKit

theorem xor_u8 (a b : UInt8) : bits .xor .u8 (a.toNat : Int) (b.toNat : Int) = ((a ^^^ b).toNat : Int) := by
  rw [UInt8.toNat_xor]
  exact u8_xor_nat _ _ (by have := a.toNat_lt; omega) (by have := b.toNat_lt; omega)
theorem below_drew {B : Nat} {a w : World} (h : Below B a w) : Below B a w.drew := ⟨h.os, h.tape, h.output, h.size, h.block⟩
set_option maxHeartbeats 1000000 in
theorem sumThree_out (A A' A'' : Option Addr) (c c' c'' : Nat) (l m n : List UInt8) (w : World) (h : l.length ≠ m.length ∨ m.length ≠ n.length ∨ (5000 : Int) < l.length) :
    Calls Try.prog 7 #[.slice A l.length c, .slice A' m.length c', .slice A'' n.length c''] w fun e w' => e = .returned (.bool true) ∧ Below w.heap.size w w' := by
  have H := Lib.hid h; clear h
  go_enter Try.func7, Try.ntmps7
  go_wp2_with fail
  refine (sumNames_any _).mono ?_
  rintro e w1 ⟨rfl, hb1⟩
  have HB1 := Lib.hid hb1; clear hb1
  generalize l.length = x at *
  generalize m.length = y at *
  generalize n.length = z at *
  by_cases h1 : x = y
  · subst h1
    have hb1 : ((x : Int) != x) = false := by simp
    by_cases h2 : x = z
    · subst h2
      have h4 : (5000 : Int) < x := by rcases H.out with h | h | h <;> first | exact absurd rfl h | exact h
      go_wp2_with fail
      go_ret
      exact ⟨rfl, HB1.out⟩
    · have hb2 : ((x : Int) != z) = true := by rw [bne_iff_ne]; omega
      clear h2
      go_wp2_with fail
      go_ret
      exact ⟨rfl, HB1.out⟩
  · have hb2 : ((x : Int) != y) = true := by rw [bne_iff_ne]; omega
    clear h1
    go_wp2_with fail
    go_ret
    exact ⟨rfl, HB1.out⟩

section
variable (A A' A'' : Option Addr) (c c' c'' : Nat) (l m n : List UInt8) (w : World) (hs : Rd w w.heap.size A (bys l)) (ht : Rd w w.heap.size A' (bys m)) (hu : Rd w w.heap.size A'' (bys n))
include hs ht hu
set_option maxHeartbeats 4000000 in
theorem sumThree_in (h1 : l.length = m.length) (h2 : m.length = n.length) (h5 : (l.length : Int) ≤ 5000) :
    Calls Try.prog 7 #[.slice A l.length c, .slice A' m.length c', .slice A'' n.length c''] w fun e w' => e = .returned (.bool true) ∧ Below w.heap.size w w' := by
  have H1 := Lib.hid h1; have H2 := Lib.hid h2
  rw [← h2, ← h1]
  clear h1 h2
  have hle : ((l.length : Int) != l.length) = false := by simp
  have HB0 : ∀ w1 : World, Hid (Below w.heap.size w w1 → Below w.heap.size w (w1.alloc (.cells #[] 5))) := fun w1 h => h.alloc h.size _
  have HO0 : ∀ w1 : World, Hid (Below w.heap.size w w1 → OwnB (w1.alloc (.cells #[] 5)) w.heap.size (.slice (some ⟨w1.heap.size, 0, none⟩) 0 0) []) := fun w1 h => ownB_nil w1 w.heap.size h.size
  go_enter Try.func7, Try.ntmps7
  go_wp2_with fail
  refine (sumNames_any _).mono ?_
  rintro e w1 ⟨rfl, hb1⟩
  have HO1 := Lib.hid ((HO0 w1).out hb1)
  have HB1 := Lib.hid ((HB0 w1).out hb1); clear hb1 HB0 HO0
  go_wp2_with fail
  go_loopw [7, 31] (fun q i wr => ∃ (k : Nat), k ≤ l.length ∧ i = .int .i64 k ∧ OwnB wr w.heap.size q (xor3L (l.take k) (m.take k) (n.take k)) ∧ Below w.heap.size w wr) (fun _ i _ => l.length - (intOf i).toNat)
  case atStart => exact ⟨0, by omega, rfl, by simpa [xor3L] using HO1.out, HB1.out⟩
  case round =>
    obtain ⟨k, hk, rfl, hown, hb⟩ := hrel
    have HW := Lib.hid hown; clear hown
    have HB := Lib.hid hb
    by_cases hlt : k < l.length
    · obtain ⟨b, off, rfl, hbB, hc1⟩ := by_at hs k hlt
      obtain ⟨b', off', rfl, hbB', hc2⟩ := by_at ht k (by rw [← H1.out]; exact hlt)
      obtain ⟨b'', off'', rfl, hbB'', hc3⟩ := by_at hu k (by rw [← H2.out, ← H1.out]; exact hlt)
      obtain ⟨hc, hf⟩ := bcell hb
      have hd1 := (hc b (off + k) hbB).trans hc1
      have hd2 := (hc b' (off' + k) hbB').trans hc2
      have hd3 := (hc b'' (off'' + k) hbB'').trans hc3
      clear hc hf hc1 hc2 hc3
      have hki : (k : Int) < l.length := by omega
      have hsz := hb.size
      obtain ⟨i0, hi0, hz0, hz1, hz2⟩ := info_parts infoByte
      have HL := Lib.hid (xor3_len k l m n (by omega) (by rw [← H1.out]; omega) (by rw [← H2.out, ← H1.out]; omega))
      have HS := Lib.hid (xor3_snoc k l m n hlt (by rw [← H1.out]; exact hlt) (by rw [← H2.out, ← H1.out]; exact hlt))
      have hx1 : bits .xor .u8 (l[k].toNat : Int) ((m[k]'(by rw [← H1.out]; exact hlt)).toNat : Int) = ((l[k] ^^^ m[k]'(by rw [← H1.out]; exact hlt)).toNat : Int) := xor_u8 _ _
      have hx2 : bits .xor .u8 ((l[k] ^^^ m[k]'(by rw [← H1.out]; exact hlt)).toNat : Int) ((n[k]'(by rw [← H2.out, ← H1.out]; exact hlt)).toNat : Int) = ((l[k] ^^^ m[k]'(by rw [← H1.out]; exact hlt) ^^^ n[k]'(by rw [← H2.out, ← H1.out]; exact hlt)).toNat : Int) := xor_u8 _ _
      have hne : ∀ g, g < w.heap.size → u7.ownBlock ≠ some g := fun g hg he => by have := (HW.out.lt g he).1; omega
      have hn1 := hne _ hbB
      have hn2 := hne _ hbB'
      have hn3 := hne _ hbB''
      clear hne
      generalize (l[k] ^^^ m[k]'(by rw [← H1.out]; exact hlt) ^^^ n[k]'(by rw [← H2.out, ← H1.out]; exact hlt)) = x at *
      generalize ((l[k] ^^^ m[k]'(by rw [← H1.out]; exact hlt)).toNat : Int) = pq at *
      generalize (l[k].toNat : Int) = p1 at *
      generalize ((m[k]'(by rw [← H1.out]; exact hlt)).toNat : Int) = p2 at *
      generalize ((n[k]'(by rw [← H2.out, ← H1.out]; exact hlt)).toNat : Int) = p3 at *
      go_wp2_with fail
      go_region_held3 (fun w' => w'.cell? ⟨b, off + k, none⟩ = some (.int .u8 p1) ∧ w'.cell? ⟨b', off' + k, none⟩ = some (.int .u8 p2) ∧ w'.cell? ⟨b'', off'' + k, none⟩ = some (.int .u8 p3))
        (first
          | go_keep
          | (go_split_ands
             refine ⟨?_, ?_, ?_⟩
             · (rw [hgrow.cell_far _ (by simp; omega) (Ne.symm hn1)]; assumption)
             · (rw [hgrow.cell_far _ (by simp; omega) (Ne.symm hn2)]; assumption)
             · (rw [hgrow.cell_far _ (by simp; omega) (Ne.symm hn3)]; assumption)))
        ((refine step_append_lies _ (by rfl) _ _ _ (by rfl) w.heap.size 5 i0 _ 1 1 Try.underlying24 hi0 hz0 hz1 hz2 rfl (by omega) u7 _ _ (by rfl) ((World.ownsRow.alloc HW.out _).drew)
            ⟨wr.heap.size, 0, none⟩ 1 1 [.int .u8 (x.toNat : Int)] (by rfl) (by rfl) (World.news_of_block (cs := #[.int .u8 (x.toNat : Int)]) (t := 5) (fr := (0, 0)) (heap_alloc_new wr _)) (by simp [Value.oneCell'])
            (by omega) (by rw [HL.out]; simp only [maxLen]; omega) (by rw [HL.out]; omega) (by simp; omega) (wr.heap.size + 1) (by simp) ?_; intro gg cap w2 hown1 hgrow hat hlt2))
      go_wp2_with fail
      go_roundw
      case rel =>
        refine ⟨k + 1, by omega, by go_num, ?_, ?_⟩
        · rw [HS.out]
          exact ownB_snoc rfl rfl hown1
        · exact below_own ((HB.out.alloc HB.out.size _).trans (below_drew (Below.refl _ _))) (World.ownsRow.drew (World.ownsRow.alloc HW.out _)) (Nat.le_refl _) (by simp; omega) hgrow
      case measure => simp [intOf]; omega
    · have hkl : l.length ≤ k := by omega
      have HT : Hid (xor3L (l.take k) (m.take k) (n.take k) = xor3L l m n) := by
        show _ = _
        rw [List.take_of_length_le hkl, List.take_of_length_le (by rw [← H1.out]; exact hkl), List.take_of_length_le (by rw [← H2.out, ← H1.out]; exact hkl)]
      have HLL : Hid ((xor3L l m n).length = l.length) := by
        have h := xor3_len l.length l m n (by omega) (by rw [← H1.out]; omega) (by rw [← H2.out, ← H1.out]; omega)
        rw [List.take_of_length_le (by omega), List.take_of_length_le (by rw [← H1.out]; omega), List.take_of_length_le (by rw [← H2.out, ← H1.out]; omega)] at h
        exact h
      rw [HT.out] at HW
      obtain ⟨A4, c4, rfl, hr4, _⟩ := own_rd HW.out
      rw [HLL.out]
      have hof := of_any A4 c4 _ (xor3L l m n) _ hr4 (by rw [HLL.out]; omega)
      rw [HLL.out] at hof
      have HO4 := Lib.hid hof
      clear hof hr4
      go_wp2_with fail
      refine HO4.out.mono ?_
      rintro e w5 ⟨rfl, rfl⟩
      go_wp2_with fail
      refine (of_any A c _ l _ (hs.below HB.out) (by omega)).mono ?_
      rintro e w6 ⟨rfl, rfl⟩
      go_wp2_with fail
      have hof := of_any A' c' _ m _ (ht.below HB.out) (by rw [← H1.out]; omega)
      rw [← H1.out] at hof
      refine hof.mono ?_
      clear hof
      rintro e w7 ⟨rfl, rfl⟩
      go_wp2_with fail
      have hof := of_any A'' c'' _ n _ (hu.below HB.out) (by rw [← H2.out, ← H1.out]; omega)
      rw [← H2.out, ← H1.out] at hof
      refine hof.mono ?_
      clear hof
      rintro e w8 ⟨rfl, rfl⟩
      have hy1 := u32_xor_nat _ _ (more_lt 0 l) (more_lt 0 m)
      have hy2 := u32_xor_nat _ _ (xor_lt (more_lt 0 l) (more_lt 0 m)) (more_lt 0 n)
      rw [← more3 H1.out H2.out] at hy2
      have hy3 : ((moreF 0 (xor3L l m n) : Int) == (moreF 0 (xor3L l m n) : Int)) = true := by simp
      go_wp2_with fail
      go_ret
      exact ⟨rfl, HB.out⟩
theorem sumThree_any :
    Calls Try.prog 7 #[.slice A l.length c, .slice A' m.length c', .slice A'' n.length c''] w fun e w' => e = .returned (.bool true) ∧ Below w.heap.size w w' := by
  by_cases h : l.length ≠ m.length ∨ m.length ≠ n.length ∨ (5000 : Int) < l.length
  · exact sumThree_out A A' A'' c c' c'' l m n w h
  · simp only [not_or, ne_eq, Decidable.not_not] at h
    exact sumThree_in A A' A'' c c' c'' l m n w hs ht hu h.1 h.2.1 (by omega)
end
end Go.Proofs.Ytbnffcfnihepfaa
