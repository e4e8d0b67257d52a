/- Walks: the laws on one byte turned, on three texts, on zeros. -/
import Derived.Test.YtbnffcfnihepfaaS2
import Derived.OwnWalk
namespace Go.Proofs.Ytbnffcfnihepfaa
open Go.RowKit

section
variable (w : World) (A : Option Addr) (c : Nat) (l : List UInt8) (hs : Rd w w.heap.size A (bys l)) (z : Int) (t : UInt8)
set_option maxHeartbeats 1000000 in
theorem sumFinds_out (h : z < 0 ∨ (l.length : Int) ≤ z ∨ (t.toNat : Int) = 0 ∨ (5000 : Int) < l.length) :
    Calls Try.prog 6 #[.slice A l.length c, .int .i64 z, .int .u8 (t.toNat : Int)] w fun e w' => e = .returned (.bool true) ∧ Below w.heap.size w w' := by
  have H := Lib.hid h; clear h
  go_enter Try.func6, Try.ntmps6
  go_wp2_with fail
  refine (sumNames_any _).mono ?_
  rintro e w1 ⟨rfl, hb1⟩
  have HB1 := Lib.hid hb1; clear hb1
  generalize (t.toNat : Int) = y at *
  by_cases h1 : z < 0
  · go_wp2_with fail
    go_ret
    exact ⟨rfl, HB1.out⟩
  by_cases h2 : (l.length : Int) ≤ z
  · go_wp2_with fail
    go_ret
    exact ⟨rfl, HB1.out⟩
  by_cases h3 : y = 0
  · subst h3
    go_wp2_with fail
    go_ret
    exact ⟨rfl, HB1.out⟩
  have h4 : (5000 : Int) < l.length := by rcases H.out with h | h | h | h <;> first | exact absurd h h1 | exact absurd h h2 | exact absurd h h3 | exact h
  have h3' : (y == 0) = false := by rw [beq_eq_false_iff_ne]; exact h3
  clear h3
  go_wp2_with fail
  go_ret
  exact ⟨rfl, HB1.out⟩

include hs
set_option maxHeartbeats 1000000 in
theorem sumFinds_in (k : Nat) (hk : k < l.length) (ht : t ≠ 0) (hl : (l.length : Int) ≤ 5000) :
    Calls Try.prog 6 #[.slice A l.length c, .int .i64 (k : Int), .int .u8 (t.toNat : Int)] w fun e w' => e = .returned (.bool true) ∧ Below w.heap.size w w' := by
  have ht0 : ((t.toNat : Int) == 0) = false := by
    rw [beq_eq_false_iff_ne]
    intro h
    exact ht (UInt8.toNat_inj.1 (by simpa using h))
  have htb := t.toNat_lt
  have HT := Lib.hid ht; clear ht
  have HX : Hid (bits .xor .u8 (l[k].toNat : Int) (t.toNat : Int) = ((l[k] ^^^ t).toNat : Int)) := by
    show _ = _
    rw [UInt8.toNat_xor]
    exact u8_xor_nat _ _ (by have := l[k].toNat_lt; omega) (by omega)
  have HM : Hid (moreF 0 (l.set k (l[k] ^^^ t)) ≠ moreF 0 l) := by
    show _ ≠ _
    intro h
    have h1 := more_turn (m := l.take k) (r := l.drop (k + 1)) (x := l[k]) (y := l[k] ^^^ t) (by simp) (by rw [List.set_eq_take_append_cons_drop, if_pos hk]) h
    have h2 : (l[k] ^^^ t).toNat = l[k].toNat := by rw [h1]
    rw [UInt8.toNat_xor] at h2
    have h3 : t.toNat = 0 := xor_canl (c := l[k].toNat) (by rw [h2, Nat.xor_zero])
    exact HT.out (UInt8.toNat_inj.1 (by simpa using h3))
  have HB0 : ∀ w1 : World, Hid (Below w.heap.size w w1 → Below w.heap.size w (w1.alloc (.cells #[] 5))) := fun w1 h => h.alloc h.size _
  have HL : Hid (bys (l.set k (l[k] ^^^ t)) = (bys l).set k (.int .u8 ((l[k] ^^^ t).toNat : Int))) := by show _ = _; simp [bys, List.map_set]
  go_enter Try.func6, Try.ntmps6
  go_wp2_with fail
  refine (sumNames_any _).mono ?_
  rintro e w1 ⟨rfl, hb1⟩
  have HB1 := Lib.hid hb1; clear hb1
  have HB0' := Lib.hid ((HB0 w1).out HB1.out); clear HB0
  have hki : (k : Int) < l.length := by omega
  have hk0 : ¬ (k : Int) < 0 := by omega
  have hk1 : (0 : Int) ≤ k := by omega
  have HBY : Hid ((bys l)[k]? = some (.int .u8 (l[k].toNat : Int))) := bys_at l k hk
  have hx := HX.out
  generalize (l[k] ^^^ t) = q at *
  generalize (l[k].toNat : Int) = r at *
  generalize (t.toNat : Int) = y at *
  go_wp2_with (at_builtin; go_loud (refine app_copy rfl 27 28 rfl rfl w.heap.size A l.length l.length c l rfl rfl rfl (hs.below HB0'.out) (by omega) ?_); intro A2 c2 w2 hv2 hb2; obtain ⟨g, cap, heq, hbg, hgs, hnc⟩ := own_form hv2 (by omega); simp only [Value.slice.injEq, true_and] at heq; obtain ⟨rfl, rfl⟩ := heq; have hcell : w2.cell? ⟨g, k, none⟩ = some (.int .u8 r) := (hv2.cellAt k (by omega)).trans HBY.out; have hfro : w2.frozen? ⟨g, k, none⟩ = false := hv2.frozenAt k; have HV2 := Lib.hid hv2; have HB2 := Lib.hid (HB1.out.trans (hb2.mono HB1.out.size)); have HG := Lib.hid (Nat.le_trans HB1.out.size hbg); clear hv2 hb2 hbg)
  obtain ⟨hst, hgr⟩ := HV2.out.stored k (.int .u8 (q.toNat : Int))
  rw [← HL.out] at hst
  have HB3 : Hid (Below w.heap.size w (w2.setCell ⟨g, k, none⟩ (.int .u8 (q.toNat : Int)))) := HB2.out.setCell HG.out _
  obtain ⟨A3, c3, he3, hr3, _⟩ := own_rd hst
  simp only [Value.slice.injEq, true_and] at he3
  obtain ⟨rfl, rfl⟩ := he3
  have hof := of_any (some ⟨g, 0, none⟩) c2 _ (l.set k q) _ hr3 (by rw [List.length_set]; omega)
  rw [List.length_set] at hof
  refine hof.mono ?_
  clear hof hst hgr hr3 hcell hfro hx
  rintro e w4 ⟨rfl, rfl⟩
  go_wp2_with fail
  refine (of_any A c _ l _ (hs.below HB3.out) (by omega)).mono ?_
  rintro e w5 ⟨rfl, rfl⟩
  have hne : ((moreF 0 (l.set k q) : Int) != (moreF 0 l : Int)) = true := by
    rw [bne_iff_ne]
    have := HM.out
    omega
  clear ht0
  go_wp2_with fail
  go_ret
  exact ⟨rfl, HB3.out⟩
theorem sumFinds_any (x : Int) (hx : 0 ≤ x ∧ x < 256) :
    Calls Try.prog 6 #[.slice A l.length c, .int .i64 z, .int .u8 x] w fun e w' => e = .returned (.bool true) ∧ Below w.heap.size w w' := by
  obtain ⟨t, rfl⟩ : ∃ t : UInt8, x = (t.toNat : Int) := ⟨UInt8.ofNat x.toNat, by rw [UInt8.toNat_ofNat']; omega⟩
  by_cases h : z < 0 ∨ (l.length : Int) ≤ z ∨ (t.toNat : Int) = 0 ∨ (5000 : Int) < l.length
  · exact sumFinds_out w A c l z t h
  · simp only [not_or] at h
    obtain ⟨k, rfl⟩ := Int.eq_ofNat_of_zero_le (show 0 ≤ z by omega)
    exact sumFinds_in w A c l hs t k (by omega) (fun e => h.2.2.1 (by rw [e]; rfl)) (by omega)
end

theorem zeros_of (n : Nat) (w : World) (g cap : Nat) {base : Nat} (h : w.ownsRow base 5 1 (.slice (some ⟨g, 0, none⟩) n cap) n (madeCells (Value.int .u8 0).cells (n * 1)).toList) (hn : n ≤ 3000) :
    Calls Try.prog 9 #[.slice (some ⟨g, 0, none⟩) n cap] w fun e w' => e = .returned (.int .u32 (notF (zerosF n 4294967295) : Int)) ∧ w' = w := by
  have e : (madeCells (Value.int .u8 0).cells (n * 1)).toList = bys (List.replicate n 0) := by
    rw [Nat.mul_one, show (Value.int .u8 0).cells = #[.int .u8 0] from rfl, toList_madeCells_one]
    simp [bys]
  rw [e] at h
  obtain ⟨A, c, he, hr, _⟩ := own_rd h
  simp only [Value.slice.injEq, true_and] at he
  obtain ⟨rfl, rfl⟩ := he
  have hof := of_any (some ⟨g, 0, none⟩) cap _ (List.replicate n 0) w hr (by rw [List.length_replicate]; omega)
  rw [List.length_replicate] at hof
  have e2 : moreF 0 (List.replicate n 0) = notF (zerosF n 4294967295) := by unfold moreF; rw [crc_zeros]; rfl
  rw [e2] at hof
  exact hof
theorem far_all : farF 3000 4294967295 = true := by decide +kernel
theorem zeros_ne {n m : Nat} (hn : n ≤ 3000) (hm : m ≤ 3000) (h : notF (zerosF n 4294967295) = notF (zerosF m 4294967295)) : n = m := by
  have h1 := not_inj (zeros_lt (by omega)) (zeros_lt (by omega)) h
  have key : ∀ a d, a + d ≤ 3000 → 1 ≤ d → zerosF (d + a) 4294967295 ≠ zerosF a 4294967295 := by
    intro a d h2 h3 he
    rw [zeros_add] at he
    exact far_ok far_all d h3 (by omega) (zeros_inj (zeros_lt (by omega)) (by omega) he)
  rcases Nat.lt_trichotomy n m with h2 | h2 | h2
  · have := key n (m - n) (by omega) (by omega)
    rw [show m - n + n = m by omega] at this
    exact absurd h1.symm this
  · exact h2
  · have := key m (n - m) (by omega) (by omega)
    rw [show n - m + m = n by omega] at this
    exact absurd h1 this
end Go.Proofs.Ytbnffcfnihepfaa
