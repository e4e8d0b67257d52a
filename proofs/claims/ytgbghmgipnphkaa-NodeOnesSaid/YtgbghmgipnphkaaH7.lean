/- NodeNames, NodeReads, NodeBytes over the calls' contracts. -/
import Derived.Test.YtgbghmgipnphkaaH6
import Derived.Test.YtgbghmgipnphkaaO6
import Derived.Lib.SmallJoins
import Derived.Deep.Cut
set_option maxRecDepth 10000
namespace Go.Proofs.Ytgbghmgipnphkaa
open Go.RowKit

theorem hole_ok8 : PtrOk hole0 := by
  unfold PtrOk hole0
  refine ⟨?_, ?_, ?_, ?_, ?_, ?_⟩ <;> simp only <;> omega
theorem zp8_ok : zp8.ok := by
  intro q hq
  rw [List.eq_of_mem_replicate (show q ∈ List.replicate 8 hole0 from hq)]
  exact hole_ok8
theorem zp8_s : all8 zp8 = true ∧ nbC zp8 = 0 ∧ emptyF zp8 = true ∧ newestF zp8 = 0 := by decide +kernel
theorem zp8_b : nbS zp8 = zsec := Sec.eq (by decide +kernel)
theorem ex_ldSec {o : Oper} {a : Act} {w : World} (x : Operand) (ho : o.op = .load 23 x) (g : Nat) (s : Sec) (hx : a.eval x = .pointer (some ⟨g, 0, none⟩)) (hg : Blk w g 23 s.cs.toArray) :
    (execOp a.eval o).run Try.prog w = .ok (.value (.agg s.cs.toArray)) w := by
  have h := run_loadAt_mid w g 0 _ s.cs _ hg.secIs Try.underlying23 rfl (sizeSec' s)
  unfold execOp
  simp only [ho, hx, h, Sem.run_bind, Sem.run_pure, Result.andThen_ok]
set_option maxHeartbeats 2000000 in
theorem nodeNames_any (L : NodeCalls) (w : World) : Calls Try.prog 3 #[] w fun e w' => e = .returned (.bool true) ∧ Below w.heap.size w w' := by
  have HB := Lib.hid (L.bytes zp8 zp8_ok)
  rw [zp8_b, zp8_s.2.1] at HB
  have HE := Lib.hid (L.empty zp8)
  rw [zp8_s.2.2.1] at HE
  have HA := Lib.hid (nodeAlive_any L)
  have hsame : Hid (zsec.same zsec = true) := zsec.same_self
  have hz : ∀ w, Sem.run Try.prog (zeroValue 31) w = .ok (.agg zp8.cs.toArray) w := zeroP8
  have hzs : ∀ w, Sem.run Try.prog (zeroValue 23) w = .ok (.agg zsec.cs.toArray) w := zeroSec
  go_enter Try.func3, Try.ntmps3
  go_wp2_with (refine wpList_val (by rfl) _ (ex_buildP8 rfl) ?_)
  refine Calls.mono (HB.out w) ?_
  rintro e w1 ⟨rfl, hb1⟩
  have hn : Hid (Blk (w1.alloc (.cells zsec.cs.toArray 23)) w1.heap.size 23 zsec.cs.toArray) := Blk.new _ _ _
  have HB1 := Lib.hid hb1
  clear HB hb1
  go_wp2_with ((with_reducible refine st_sec rfl _ _ rfl w1.heap.size 0 zsec rfl rfl hn.out.secHas ?_)
               intro w2 hw2
               have hb2 : Hid (Blk w2 w1.heap.size 23 zsec.cs.toArray ∧ Below w.heap.size w w2) := by
                 have hb := (Below.refl w1.heap.size w1).alloc (Nat.le_refl _) (.cells zsec.cs.toArray 23)
                 have hb' : Below w1.heap.size w1 ((w1.alloc (.cells zsec.cs.toArray 23)).setCells w1.heap.size 0 zsec.cs) := Below.setCells _ (Nat.le_refl _) _ _ hb
                 rw [hw2.out]
                 exact ⟨hn.out.secAll _, HB1.out.trans (hb'.mono HB1.out.size)⟩
               clear hw2)
  refine Calls.mono (HA.out w2) ?_
  rintro e w3 ⟨rfl, hb3⟩
  have HB3 := Lib.hid (And.intro (hb2.out.1.below hb3 hb2.out.1.lt) (hb2.out.2.trans (hb3.mono hb2.out.2.size)))
  clear HA hb3 hb2 hn HB1
  generalize w1.heap.size = gs at *
  go_wp2_with (first
    | (refine wpList_val (by rfl) _ (ex_ldSec (.tmp 1) rfl gs zsec rfl HB3.out.1) ?_)
    | (refine wpList_val (by rfl) _ (ex_build0 rfl) ?_)
    | (refine wpList_val (by rfl) _ (ex_buildP8 rfl) ?_)
    | (refine wpList_val (by rfl) _ (ex_eqS (.tmp 10) (.tmp 11) rfl zsec zsec rfl rfl) ?_; rw [hsame.out]))
  refine Calls.mono (HE.out w3) ?_
  rintro e w4 ⟨rfl, hb4⟩
  have HB4 := Lib.hid (HB3.out.2.trans (hb4.mono HB3.out.2.size))
  clear HE hb4 HB3
  go_wp2_with fail
  go_ret
  exact ⟨rfl, HB4.out⟩
end Go.Proofs.Ytgbghmgipnphkaa
