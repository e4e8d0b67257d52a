/- The laws on piles, walked over the calls' contracts: PileNames. -/
import Derived.Test.YtddhacmaogaocaaO3
set_option maxRecDepth 10000
namespace Go.Proofs.Ytddhacmaogaocaa
open Go.RowKit

section
variable {At : World → (Nat → Prop) → Nat → Pw → Prop}
theorem hole_ok : PtrOk hole0 := by
  unfold PtrOk hole0
  refine ⟨?_, ?_, ?_, ?_, ?_, ?_⟩ <;> simp only <;> omega
set_option maxHeartbeats 2000000 in
theorem pileNames_any (L : PileCalls At) (w : World) : Calls Try.prog 3 #[] w fun e w' => e = .returned (.bool true) ∧ Below w.heap.size w w' := by
  have HM := Lib.hid (L.made 64 w (by unfold I64; omega))
  go_enter Try.func3, Try.ntmps3
  go_wp2_with fail
  refine Calls.mono HM.out ?_
  rintro e w1 ⟨O1, g, rfl, h1, hO1, hb1⟩
  have m1 := HasP.first (Below.refl _ _) h1 hO1 hb1
  have HG := L.get hole0 hole_ok m1.at_
  rw [get_hole] at HG
  have HG : Hid (Calls Try.prog 8 #[.pointer (some ⟨g, 0, none⟩), ptv 0 0 0] w1 fun e w' => ∃ O', e = .returned (.tuple #[.agg zsec.cs.toArray, .int .i64 0]) ∧ At w' O' g (newPw 64) ∧ Step w1 w' O1 O') := HG
  clear HM h1 hO1 hb1
  go_wp2_with fail
  refine Calls.mono HG.out ?_
  rintro e w2 ⟨O2, rfl, h2, s2⟩
  have m2 := m1.step h2 s2
  have b2 := m2.below
  clear HG h2 s2 m1 m2
  have hz : ∀ w, Sem.run Try.prog (zeroValue 23) w = .ok (.agg zsec.cs.toArray) w := zeroSec
  have hn : Hid (Blk (w2.alloc (.cells zsec.cs.toArray 23)) w2.heap.size 23 zsec.cs.toArray) := Blk.new _ _ _
  go_upto_region 2 with ((with_reducible refine st_sec rfl _ _ rfl w2.heap.size 0 zsec rfl rfl hn.out.secHas ?_); intro w3 hw3)
  have hb3 : Hid (Below w2.heap.size w2 w3) := by rw [hw3.out]; exact Below.setCells _ (Nat.le_refl _) _ _ ((Below.refl _ _).alloc (Nat.le_refl _) _)
  have hs3 : Hid (Blk w3 w2.heap.size 23 zsec.cs.toArray) := by rw [hw3.out]; exact hn.out.secAll _
  have b3 := b2.trans (hb3.out.mono b2.size)
  clear hw3 hn hb3 hz
  generalize w2.heap.size = gs at *
  have HA := Lib.hid (pileAlive_any L w3)
  go_wp2_with fail
  refine Calls.mono HA.out ?_
  rintro e w4 ⟨rfl, hb4⟩
  have hs4 := Lib.hid (hs3.out.below hb4 hs3.out.lt)
  have b4 := b3.trans (hb4.mono b3.size)
  have HM := Lib.hid (L.made 64 w4 (by unfold I64; omega))
  have hsame : Hid (zsec.same zsec = true) := zsec.same_self
  clear HA hs3 hb4 b3 b2
  go_wp2_with (first
    | (refine wpList_val (by rfl) _ (ex_ldS (.tmp 1) rfl gs zsec rfl hs4.out) ?_)
    | (refine wpList_val (by rfl) _ (ex_build0 rfl) ?_)
    | (refine wpList_val (by rfl) _ (ex_eqS (.tmp 15) (.tmp 16) rfl zsec zsec rfl rfl) ?_; rw [hsame.out]))
  refine Calls.mono HM.out ?_
  rintro e w5 ⟨O5, g5, rfl, h5, hO5, hb5⟩
  have m5 := HasP.first b4 h5 hO5 hb5
  have HD := L.drop hole0 hole_ok m5.at_
  rw [(drop_hole _).1, (drop_hole _).2] at HD
  have HD : Hid (Calls Try.prog 10 #[.pointer (some ⟨g5, 0, none⟩), ptv 0 0 0] w5 fun e w' => ∃ O', e = .returned (.int .i64 0) ∧ At w' O' g5 (newPw 64) ∧ Step w5 w' O5 O') := HD
  clear HM h5 hO5 hb5
  go_wp2_with fail
  refine Calls.mono HD.out ?_
  rintro e w6 ⟨O6, rfl, h6, s6⟩
  go_wp2_with fail
  go_ret
  exact ⟨rfl, (m5.step h6 s6).below⟩
end
end Go.Proofs.Ytddhacmaogaocaa
