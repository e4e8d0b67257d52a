/- The laws on piles, walked over the calls' contracts: the example, PileNames. -/
import Derived.Test.YtddhacmaogaocaaO2
import Derived.Test.YtddhacmaogaocaaEB
import Derived.Lib.SmallJoins
import Derived.Deep.Cut
set_option maxRecDepth 10000
namespace Go.Proofs.Ytddhacmaogaocaa
open Go.RowKit

/-- A block that no call on the pile turns. -/
structure BlkA (w : World) (O : Nat → Prop) (g : Nat) (t : TypeId) (cs : Array Value) : Prop where
  blk : Blk w g t cs
  far : ¬ O g
section
variable {w w' : World} {O O' : Nat → Prop} {g : Nat} {t : TypeId} {cs : Array Value}
theorem BlkA.step (h : BlkA w O g t cs) (s : Step w w' O O') : BlkA w' O' g t cs := ⟨h.blk.chg s.chg h.far, fun ho => (s.new g ho).elim h.far fun hs => by have := h.blk.lt; omega⟩
theorem BlkA.later (h : BlkA w O g t cs) (hb : Below w.heap.size w w') : BlkA w' O g t cs := ⟨h.blk.below hb h.blk.lt, h.far⟩
/-- A pointer's box, newly laid and written. -/
theorem zeroPtr (w : World) : Sem.run Try.prog (zeroValue 32) w = .ok (ptv 0 0 0) w := by
  obtain ⟨i, hi⟩ : ∃ i, Try.prog.info? 32 = some i := info_of_underlying Try.underlying32
  have h : (Try.prog.info? 32).map (fun i => i.zero) = some (some (ptv 0 0 0)) := by kernel_rfl
  rw [hi] at h
  simp only [Option.map_some, Option.some.injEq] at h
  simp [zeroValue, typeInfo, hi, h]
end
def hiL : List UInt8 := [104, 105]
theorem buildHi (w : World) : (Instr.build 23 #[(0, .int .u8 104), (1, .int .u8 105)]).run Try.prog w = .ok (.agg (blockS hiL).cs.toArray) w := by
  refine run_build w _ _ _ ?_
  kernel_rfl
theorem ex_buildHi {o : Oper} {a : Act} {w : World} (ho : o.op = .build 23 #[(0, .const (.int .u8 104)), (1, .const (.int .u8 105))]) :
    (execOp a.eval o).run Try.prog w = .ok (.value (.agg (blockS hiL).cs.toArray)) w := by
  have hb := buildHi w
  unfold execOp
  simp only [ho, List.map_toArray, List.map_cons, List.map_nil, Act.eval, Sem.run_bind, hb, Sem.run_pure, Result.andThen_ok]
theorem ex_ldS {o : Oper} {a : Act} {w : World} (x : Operand) (ho : o.op = .load 23 x) (g : Nat) (s : Sec) (hx : a.eval x = .pointer (some ⟨g, 0, none⟩)) (hg : Blk w g 23 s.cs.toArray) :
    (execOp a.eval o).run Try.prog w = .ok (.value (.agg s.cs.toArray)) w := by
  have h := run_loadAt_mid w g 0 _ s.cs _ hg.secIs Try.underlying23 rfl (sizeSec' s)
  unfold execOp
  simp only [ho, hx, h, Sem.run_bind, Sem.run_pure, Result.andThen_ok]
theorem ex_ldP {o : Oper} {a : Act} {w : World} (x : Operand) (ho : o.op = .load 32 x) (g : Nat) (i j k : Int) (hx : a.eval x = .pointer (some ⟨g, 0, none⟩)) (hg : Blk w g 32 (pcs i j k)) :
    (execOp a.eval o).run Try.prog w = .ok (.value (ptv i j k)) w := by
  have h := run_loadAt_mid w g 0 _ [.int .i64 i, .int .u64 j, .int .u32 k] _ (hg.range 0 _ fun j v hv => by rw [Nat.zero_add, List.getElem?_toArray]; exact hv) Try.underlying32 rfl ptr_size
  unfold execOp
  simp only [ho, hx, h, Sem.run_bind, Sem.run_pure, Result.andThen_ok]
theorem p64_next : (newMp 64).next = some 4 := by decide +kernel
theorem p64_count1 : ((newMp 64).put 4 1).count = 59 := by decide +kernel
theorem p64_count0 : (((newMp 64).put 4 1).put 4 0).count = 60 := by decide +kernel
theorem p64_is : ((newMp 64).put 4 1).is 1 4 = true := by decide +kernel
theorem new64_len : (newPw 64).nw.length = 64 := by show (List.replicate 64 zsec).length = 64; rw [List.length_replicate]
section
variable {At : World → (Nat → Prop) → Nat → Pw → Prop}
def aliveP : Pw := ⟨(newPw 64).nw.set 4 (blockS hiL), (newMp 64).put 4 1, 1, 0, 1⟩
def aliveQ : PtrV := ((4 : Nat), (1 : Nat), (sumS (blockS hiL) : Int))
theorem alive_put : putC (newPw 64) hiL = 0 ∧ putQ (newPw 64) hiL = aliveQ ∧ putP (newPw 64) hiL = aliveP := pput_yes (P := newPw 64) (l := hiL) (by decide) p64_next
theorem alive_get : getS aliveP aliveQ = (blockS hiL, 0) := by
  refine get_same (P := aliveP) (i := 4) (b := ((1 : Nat) : Int)) (x := blockS hiL) (hole_ne (by decide)) ?_ ?_
  · show 4 < ((newPw 64).nw.set 4 (blockS hiL)).length
    rw [List.length_set, new64_len]
    omega
  · show ((newPw 64).nw.set 4 (blockS hiL)).getD 4 zsec = _
    simp [List.getD, new64_len]
theorem sum_lt (x : Sec) : sumS x < 4294967296 := by
  unfold sumS moreF notF
  omega
theorem alive_ok : PtrOk aliveQ := by
  have := sum_lt (blockS hiL)
  unfold PtrOk aliveQ
  refine ⟨?_, ?_, ?_, ?_, ?_, ?_⟩ <;> simp only <;> omega
theorem alive_drop : dropC aliveP aliveQ = 0 ∧ dropP aliveP aliveQ = ⟨aliveP.nw, ((newMp 64).put 4 1).put 4 0, 1, 0, 1⟩ := drop_yes (P := aliveP) (i := 4) (hole_ne (by decide)) p64_is
set_option maxHeartbeats 2000000 in
theorem pileAlive_any (L : PileCalls At) (w : World) : Calls Try.prog 9 #[] w fun e w' => e = .returned (.bool true) ∧ Below w.heap.size w w' := by
  have HM := Lib.hid (L.made 64 w (by unfold I64; omega))
  obtain ⟨S, hS⟩ : ∃ S : Int, aliveQ = (4, 1, S) := ⟨_, rfl⟩
  have AP := alive_put
  have AG := alive_get
  have AO := alive_ok
  have AD := alive_drop
  rw [hS] at AP AG AO AD
  have AP := Lib.hid AP
  have AG := Lib.hid AG
  have AO := Lib.hid AO
  have AD := Lib.hid AD
  clear hS
  go_enter Try.func9, Try.ntmps9
  go_wp2_with fail
  refine Calls.mono HM.out ?_
  rintro e w1 ⟨O1, g, rfl, h1, hO1, hb1⟩
  have m1 := HasP.first (Below.refl _ _) h1 hO1 hb1
  clear HM h1 hO1 hb1
  obtain ⟨gm, hmap⟩ := L.map m1.at_
  have HMap := Lib.hid hmap
  clear hmap
  go_wp2_with fail
  refine Calls.mono HMap.out ?_
  rintro e w2 ⟨rfl, hb2, -⟩
  have m2 := m1.far L hb2
  clear HMap hb2 m1
  have hcv := Go.Joins.run_convert_bytes_const_at (P := Try.prog) w2 37 5 #[.int .u8 104, .int .u8 105] 2 2 w2.heap.size rfl Try.underlying37 Try.underlying5
  have HB := Lib.hid (Below.refl w2.heap.size w2 |>.alloc (Nat.le_refl _) (.cells #[.int .u8 104, .int .u8 105] 5 (2, 3)))
  have m3 := m2.far L HB.out
  have r3 : RdA (w2.alloc (.cells #[.int .u8 104, .int .u8 105] 5 (2, 3))) O1 (some ⟨w2.heap.size, 0, none⟩) (bys hiL) := ⟨rd_newf w2 #[.int .u8 104, .int .u8 105] 5 (2, 3), fun b off e _ ho => by
    simp only [Option.some.injEq, Addr.mk.injEq] at e
    have := L.foot m2.at_ b ho
    omega⟩
  have HP := L.put _ 2 hiL m3.at_ r3 (by decide) (by show 0 ≤ _; omega)
  rw [AP.out.1, AP.out.2.1, AP.out.2.2] at HP
  have HPP := Lib.hid HP
  have M3 := Lib.hid m3
  clear m2 m3 r3
  go_wp2_with fail
  refine Calls.mono HPP.out ?_
  rintro e w4 ⟨O4, rfl, h4, s4⟩
  have m4 := M3.out.step h4 s4
  have hz := zeroPtr
  clear HB HP HPP M3 h4 s4 hcv
  have HB := Lib.hid (Below.refl w4.heap.size w4 |>.alloc (Nat.le_refl _) (.cells (pcs 4 1 S) 32))
  have m5 := m4.far L HB.out
  have q5 : BlkA (w4.alloc (.cells (pcs 4 1 S) 32)) O4 w4.heap.size 32 (pcs 4 1 S) := ⟨Blk.new w4 _ _, fun ho => by have := L.foot m4.at_ _ ho; omega⟩
  have HG := L.get (4, 1, S) AO.out m5.at_
  rw [AG.out] at HG
  have HGG := Lib.hid HG
  have HM5 := Lib.hid (And.intro m5 q5)
  clear m5 q5 m4 HG HB
  go_wp2_with fail
  refine Calls.mono HGG.out ?_
  rintro e w6 ⟨O6, rfl, h6, s6⟩
  have m6 := HM5.out.1.step h6 s6
  have q6 := HM5.out.2.step s6
  clear HGG HM5 h6 s6 hz
  generalize w4.heap.size = gq at *
  have hz : ∀ w, Sem.run Try.prog (zeroValue 23) w = .ok (.agg zsec.cs.toArray) w := zeroSec
  have hn : Hid (Blk (w6.alloc (.cells zsec.cs.toArray 23)) w6.heap.size 23 zsec.cs.toArray) := Blk.new _ _ _
  have HM6 := Lib.hid (And.intro m6 q6)
  clear m6 q6
  go_upto_region 6 with ((with_reducible refine st_sec rfl _ _ rfl w6.heap.size 0 (blockS hiL) rfl rfl hn.out.secHas ?_); intro w7 hw7)
  have hb7 : Hid (Below w6.heap.size w6 w7) := by rw [hw7.out]; exact Below.setCells _ (Nat.le_refl _) _ _ ((Below.refl _ _).alloc (Nat.le_refl _) _)
  have hs7 : Hid (Blk w7 w6.heap.size 23 (blockS hiL).cs.toArray) := by rw [hw7.out]; exact hn.out.secAll _
  have m7 := HM6.out.1.far L hb7.out
  have q7 := HM6.out.2.later hb7.out
  clear hw7 hn HM6 hb7 hz
  generalize w6.heap.size = gs at *
  have hq0 : w7.cell? ⟨gq, 0, none⟩ = some (.int .i64 4) := q7.blk.cell 0
  have hq1 : w7.cell? ⟨gq, 1, none⟩ = some (.int .u64 1) := q7.blk.cell 1
  have hfq := fun i => q7.blk.frozen i
  have hsame : Hid ((blockS hiL).same (blockS hiL) = true) := (blockS hiL).same_self
  obtain ⟨gm2, hmap⟩ := L.map m7.at_
  have HMap := Lib.hid hmap
  clear hmap
  have HM7 := Lib.hid (And.intro m7 q7)
  have hlt7 := q7.blk.lt
  clear m7 q7
  go_wp2_with (first
    | (refine wpList_val (by rfl) _ (ex_ldS (.tmp 4) rfl gs (blockS hiL) rfl hs7.out) ?_)
    | (refine wpList_val (by rfl) _ (ex_buildHi rfl) ?_)
    | (refine wpList_val (by rfl) _ (ex_eqS (.tmp 34) (.tmp 35) rfl (blockS hiL) (blockS hiL) rfl rfl) ?_; rw [hsame.out]))
  refine Calls.mono HMap.out ?_
  rintro e w8 ⟨rfl, hb8, hcnt⟩
  have HC := hcnt w8 (Below.refl _ _)
  rw [show aliveP.m.count = 59 from p64_count1] at HC
  have HC := Lib.hid HC
  have m8 := HM7.out.1.far L hb8
  have q8 := HM7.out.2.later hb8
  clear HMap hcnt hb8 HM7 hq0 hq1 hfq hs7 hlt7
  have HM8 := Lib.hid (And.intro m8 q8)
  clear m8 q8
  go_wp2_with fail
  refine Calls.mono HC.out ?_
  rintro e w9 ⟨rfl, hb9⟩
  have m9 := HM8.out.1.far L hb9
  have q9 := HM8.out.2.later hb9
  have HD := L.drop (4, 1, S) AO.out m9.at_
  rw [AD.out.1, AD.out.2] at HD
  have HD := Lib.hid HD
  have HM9 := Lib.hid (And.intro m9 q9)
  clear HC hb9 HM8 m9 q9
  go_wp2_with (refine wpList_val (by rfl) _ (ex_ldP (.tmp 2) rfl gq 4 1 S rfl HM9.out.2.blk) ?_)
  refine Calls.mono HD.out ?_
  rintro e w10 ⟨O10, rfl, h10, s10⟩
  have m10 := HM9.out.1.step h10 s10
  obtain ⟨gm3, hmap⟩ := L.map m10.at_
  have HMap := Lib.hid hmap
  clear hmap HD HM9 h10 s10
  go_wp2_with fail
  refine Calls.mono HMap.out ?_
  rintro e w11 ⟨rfl, hb11, hcnt⟩
  have HC := hcnt w11 (Below.refl _ _)
  rw [show (((newMp 64).put 4 1).put 4 0).count = 60 from p64_count0] at HC
  have HC := Lib.hid HC
  have m11 := m10.far L hb11
  clear HMap hcnt hb11 m10
  go_wp2_with fail
  refine Calls.mono HC.out ?_
  rintro e w12 ⟨rfl, hb12⟩
  go_wp2_with fail
  go_ret
  exact ⟨rfl, (m11.far L hb12).below⟩
end
end Go.Proofs.Ytddhacmaogaocaa
