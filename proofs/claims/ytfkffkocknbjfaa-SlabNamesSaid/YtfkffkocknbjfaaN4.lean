/- The laws on slabs, walked over the calls' contracts: the example, SlabNames. -/
import Derived.Test.YtfkffkocknbjfaaN3
set_option maxRecDepth 10000
namespace Go.Proofs.Ytfkffkocknbjfaa
open Go.RowKit

theorem ex_next : (newMp 128).next = some 64 := by decide +kernel
theorem ex_many : ((newMp 128).put 64 1).gives 4 = ([65, 66, 67, 4], ((((newMp 128).put 64 1).put 65 1).put 66 1 |>.put 67 1).put 4 1) := by
  have h1 : (((newMp 128).put 64 1).gives 0).2.next = some 65 := by decide +kernel
  have e1 := gives_succ h1
  have h2 : (((newMp 128).put 64 1).gives 1).2.next = some 66 := by rw [e1]; decide +kernel
  have e2 := gives_succ h2
  have h3 : (((newMp 128).put 64 1).gives 2).2.next = some 67 := by rw [e2, e1]; decide +kernel
  have e3 := gives_succ h3
  have h4 : (((newMp 128).put 64 1).gives 3).2.next = some 4 := by rw [e3, e2, e1]; decide +kernel
  have e4 := gives_succ h4
  rw [e4, e3, e2, e1]
  rfl
theorem ex_count : ((newMp 128).put 64 1).count = 123 := by decide +kernel
theorem ex_count2 : (((newMp 128).put 64 1).gives 4).2.count = 119 := by
  have := (gave ((newMp 128).put 64 1) 4 (by rw [ex_count]; omega)).count
  rw [ex_count] at this
  omega
theorem ex_manyR : ((newMp 128).put 64 1).many 4 = some (((newMp 128).put 64 1).gives 4) := by
  unfold Mp.many
  rw [if_neg (by rw [ex_count]; omega)]
  rfl
section
variable {At : World → (Nat → Prop) → Nat → Mp → Prop}
set_option maxHeartbeats 1000000 in
theorem slabAlive_any (L : SlabCalls At) (w : World) : Calls Try.prog 8 #[] w fun e w' => e = .returned (.bool true) ∧ Below w.heap.size w w' := by
  go_enter Try.func8, Try.ntmps8
  go_wp2_with fail
  refine Calls.mono (L.new 128 w (by unfold I64; omega)) ?_
  rintro e w1 ⟨O, g, rfl, h1, hO, hb1⟩
  have m1 := Has.first (Below.refl _ _) h1 hO hb1
  clear h1 hO hb1
  have HA := L.alloc m1.at_
  have e1 : nextN (newMp 128) = 64 ∧ nextC (newMp 128) = 0 ∧ nextM (newMp 128) = (newMp 128).put 64 1 := by unfold nextN nextC nextM; rw [ex_next]; exact ⟨rfl, rfl, rfl⟩
  rw [e1.1, e1.2.1, e1.2.2] at HA
  have HA := Lib.hid HA
  go_wp2_with fail
  refine Calls.mono HA.out ?_
  rintro e w2 ⟨O2, rfl, h2, s2⟩
  have m2 := m1.step h2 s2
  have HM := L.many 4 (by unfold I64; omega) m2.at_
  have e2 : manyL ((newMp 128).put 64 1) 4 = [65, 66, 67, 4] ∧ manyC ((newMp 128).put 64 1) 4 = 0 ∧ (manyM ((newMp 128).put 64 1) 4).count = 119 := by
    unfold manyL manyC manyM
    rw [ex_manyR]
    exact ⟨by rw [ex_many], rfl, ex_count2⟩
  have HC := Lib.hid e2.2.2
  rw [e2.1, e2.2.1] at HM
  generalize manyM ((newMp 128).put 64 1) 4 = m3 at *
  have HM := Lib.hid HM
  clear HA e1 e2 s2 h2 m1
  go_wp2_with fail
  refine Calls.mono HM.out ?_
  rintro e w3 ⟨O3, A3, c3, rfl, h3, r3, s3⟩
  have m4 := m2.step h3 s3
  clear HM h3 s3 m2
  have HB := Lib.hid (Below.refl w3.heap.size w3 |>.alloc (Nat.le_refl _) (.cells #[.int .i64 65, .int .i64 66, .int .i64 67, .int .i64 4] 3))
  have r4 := Rd.mono (rd_new w3 #[.int .i64 65, .int .i64 66, .int .i64 67, .int .i64 4] 3) (Nat.le_refl _)
  have HS := sameints_any A3 (some ⟨w3.heap.size, 0, none⟩) c3 4 (natI [65, 66, 67, 4]) (natI [65, 66, 67, 4]) _ (r3.far HB.out).rd r4 (by simp [natI])
  rw [decide_eq_true rfl] at HS
  have HS := Lib.hid HS
  have M4 := Lib.hid (m4.far L HB.out)
  clear r3 r4 m4
  go_wp2_with fail
  refine Calls.mono HS.out ?_
  rintro e w5 ⟨rfl, hb5⟩
  have m5 := M4.out.far L hb5
  have HN := Lib.hid (L.count m5.at_)
  rw [HC.out] at HN
  clear HS HB hb5
  go_wp2_with fail
  refine Calls.mono HN.out ?_
  rintro e w6 ⟨O6, rfl, h6, s6⟩
  go_wp2_with fail
  go_ret
  exact ⟨rfl, (m5.step h6 s6).below⟩
set_option maxHeartbeats 1000000 in
theorem slabNames_any (L : SlabCalls At) (w : World) : Calls Try.prog 3 #[] w fun e w' => e = .returned (.bool true) ∧ Below w.heap.size w w' := by
  have c1 : (newMp 5000).count = 1020 := count_new 5000
  have c2 : (newMp 3).count = 0 := count_new 3
  have c3 : canon (stS (newMp 64) 1) = [] := canon_none fun n _ _ => by
    unfold stS Mp.is
    show (decide (0 ≤ n) && (decide (4 ≤ n.toNat) && decide (n.toNat < (newMp 64).tot) && (0 == 1))) = false
    simp
  have HC := Lib.hid (And.intro c1 (And.intro c2 c3))
  clear c1 c2 c3
  go_enter Try.func3, Try.ntmps3
  go_wp2_with fail
  refine Calls.mono (slabAlive_any L _) ?_
  rintro e w1 ⟨rfl, hb1⟩
  have HN := Lib.hid (L.new 5000 w1 (by unfold I64; omega))
  go_wp2_with fail
  refine Calls.mono HN.out ?_
  rintro e w2 ⟨O2, g2, rfl, h2, hO2, hb2⟩
  have m2 := Has.first hb1 h2 hO2 hb2
  have HK := L.count m2.at_
  rw [HC.out.1] at HK
  have HK := Lib.hid HK
  clear HN hb2 h2 hO2
  go_wp2_with fail
  refine Calls.mono HK.out ?_
  rintro e w3 ⟨O3, rfl, h3, s3⟩
  have m3 := m2.step h3 s3
  have b3 := m3.below
  have HN := Lib.hid (L.new 3 w3 (by unfold I64; omega))
  clear HK h3 s3 m2 m3
  go_wp2_with fail
  refine Calls.mono HN.out ?_
  rintro e w4 ⟨O4, g4, rfl, h4, hO4, hb4⟩
  have m4 := Has.first b3 h4 hO4 hb4
  have HK := L.count m4.at_
  rw [HC.out.2.1] at HK
  have HK := Lib.hid HK
  clear HN hb4 h4 hO4
  go_wp2_with fail
  refine Calls.mono HK.out ?_
  rintro e w5 ⟨O5, rfl, h5, s5⟩
  have m5 := m4.step h5 s5
  have b5 := m5.below
  have HN := Lib.hid (L.new 64 w5 (by unfold I64; omega))
  clear HK h5 s5 m4 m5
  go_wp2_with fail
  refine Calls.mono HN.out ?_
  rintro e w6 ⟨O6, g6, rfl, h6, hO6, hb6⟩
  have m6 := Has.first b5 h6 hO6 hb6
  have HK := L.taken m6.at_
  rw [HC.out.2.2] at HK
  have HK := Lib.hid HK
  clear HN hb6 h6 hO6
  go_wp2_with fail
  refine Calls.mono HK.out ?_
  rintro e w7 ⟨O7, A7, c7, rfl, h7, r7, s7⟩
  go_wp2_with fail
  go_ret
  exact ⟨rfl, (m6.step h7 s7).below⟩
end
end Go.Proofs.Ytfkffkocknbjfaa
