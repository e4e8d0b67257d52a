/- A node's calls as they are to be; the laws' example. -/
import Derived.Test.YtgbghmgipnphkaaH3
import Derived.Test.YtgbghmgipnphkaaH4
import Derived.Test.YtgbghmgipnphkaaH5
set_option maxRecDepth 10000
namespace Go.Proofs.Ytgbghmgipnphkaa
open Go.RowKit

/-- The calls of package node as the document has them. -/
structure NodeCalls : Prop where
  bytes : ∀ (p : P8), p.ok → ∀ w, Calls Try.prog 9 #[.agg p.cs.toArray] w fun e w' => e = .returned (.tuple #[.agg (nbS p).cs.toArray, .int .i64 (nbC p)]) ∧ Below w.heap.size w w'
  read : ∀ (s : Sec) w, Calls Try.prog 16 #[.agg s.cs.toArray] w fun e w' => e = .returned (.tuple #[.agg (nrP s).cs.toArray, .int .i64 (nrC s)]) ∧ Below w.heap.size w w'
  empty : ∀ (p : P8) w, Calls Try.prog 11 #[.agg p.cs.toArray] w fun e w' => e = .returned (.bool (emptyF p)) ∧ Below w.heap.size w w'
  newest : ∀ (p : P8), p.ok → ∀ w, Calls Try.prog 14 #[.agg p.cs.toArray] w fun e w' => e = .returned (.int .u64 (newestF p)) ∧ Below w.heap.size w w'
theorem p7_c1 : (nbS p7).cs.toArray[112]? = some (.int .u8 9) := by
  rw [List.getElem?_toArray]
  kernel_rfl
theorem p7_c2 : (nbS p7).cs.toArray[116]? = some (.int .u8 3) := by
  rw [List.getElem?_toArray]
  kernel_rfl
theorem p7_c3 : (nbS p7).cs.toArray[124]? = some (.int .u8 1) := by
  rw [List.getElem?_toArray]
  kernel_rfl
set_option maxHeartbeats 2000000 in
theorem nodeAlive_any (L : NodeCalls) (w : World) : Calls Try.prog 10 #[] w fun e w' => e = .returned (.bool true) ∧ Below w.heap.size w w' := by
  have hz : ∀ w, Sem.run Try.prog (zeroValue 31) w = .ok (.agg zp8.cs.toArray) w := zeroP8
  have hn : Hid (Blk (w.alloc (.cells zp8.cs.toArray 31)) w.heap.size 31 zp8.cs.toArray) := Blk.new w _ _
  have HB := Lib.hid (L.bytes p7 p7_ok)
  go_enter Try.func10, Try.ntmps10
  go_wp2_with (first
    | (refine wpList_val (by rfl) _ (ex_buildP7 (.tmp 6) rfl rfl) ?_)
    | ((with_reducible refine ld_p8 rfl _ rfl w.heap.size 0 p7 rfl hb2.out.1.p8Is ?_))
    | ((with_reducible refine st_p8 rfl _ _ rfl w.heap.size 0 p7 rfl rfl hn.out.p8Has ?_)
       intro w2 hw2
       have hb2 : Hid (Blk w2 w.heap.size 31 p7.cs.toArray ∧ Below w.heap.size w w2) := by rw [hw2.out]; exact ⟨hn.out.p8All _, Below.setCells _ (Nat.le_refl _) _ _ ((Below.refl _ _).alloc (Nat.le_refl _) _)⟩
       clear hw2))
  refine Calls.mono (HB.out w2) ?_
  rintro e w3 ⟨rfl, hb3⟩
  have HB3 := Lib.hid (And.intro (hb2.out.1.below hb3 hb2.out.1.lt) (hb2.out.2.trans (hb3.mono hb2.out.2.size)))
  clear hb2 hb3 HB hn
  rw [p7_s.2.1]
  have HR := Lib.hid (L.read (nbS p7))
  have hzs : ∀ w, Sem.run Try.prog (zeroValue 23) w = .ok (.agg zsec.cs.toArray) w := zeroSec
  have hn3 : Hid (Blk (w3.alloc (.cells zsec.cs.toArray 23)) w3.heap.size 23 zsec.cs.toArray) := Blk.new _ _ _
  have hsz := HB3.out.1.lt
  go_wp2_with (first
    | ((with_reducible refine ld_sec rfl _ rfl w3.heap.size 0 (nbS p7) rfl hb4.out.2.1.secIs ?_))
    | ((with_reducible refine st_sec rfl _ _ rfl w3.heap.size 0 (nbS p7) rfl rfl hn3.out.secHas ?_)
       intro w4 hw4
       have hb4 : Hid (Blk w4 w.heap.size 31 p7.cs.toArray ∧ Blk w4 w3.heap.size 23 (nbS p7).cs.toArray ∧ Below w.heap.size w w4) := by
         have hb := (Below.refl w3.heap.size w3).alloc (Nat.le_refl _) (.cells zsec.cs.toArray 23)
         have hb' : Below w3.heap.size w3 ((w3.alloc (.cells zsec.cs.toArray 23)).setCells w3.heap.size 0 (nbS p7).cs) := Below.setCells _ (Nat.le_refl _) _ _ hb
         rw [hw4.out]
         exact ⟨HB3.out.1.below hb' hsz, hn3.out.secAll _, HB3.out.2.trans (hb'.mono HB3.out.2.size)⟩
       clear hw4))
  refine Calls.mono (HR.out w4) ?_
  rintro e w5 ⟨rfl, hb5⟩
  have HB5 := Lib.hid (And.intro (hb4.out.1.below hb5 hb4.out.1.lt) (And.intro (hb4.out.2.1.below hb5 hb4.out.2.1.lt) (hb4.out.2.2.trans (hb5.mono hb4.out.2.2.size))))
  clear hb4 hb5 HR hn3 HB3
  rw [p7_back.1, p7_back.2]
  generalize w3.heap.size = gs at *
  have hn5 : Hid (Blk (w5.alloc (.cells zp8.cs.toArray 31)) w5.heap.size 31 zp8.cs.toArray) := Blk.new _ _ _
  have hs5 := HB5.out.1.lt
  have hs6 := HB5.out.2.1.lt
  have HE := Lib.hid (L.empty p7)
  have hsame : Hid (p7.same p7 = true) := P8.same_iff.2 rfl
  go_wp2_with (first
    | ((with_reducible refine st_p8 rfl _ _ rfl w5.heap.size 0 p7 rfl rfl hn5.out.p8Has ?_)
       intro w6 hw6
       have hb6 : Hid (Blk w6 w.heap.size 31 p7.cs.toArray ∧ Blk w6 gs 23 (nbS p7).cs.toArray ∧ Blk w6 w5.heap.size 31 p7.cs.toArray ∧ Below w.heap.size w w6) := by
         have hb := (Below.refl w5.heap.size w5).alloc (Nat.le_refl _) (.cells zp8.cs.toArray 31)
         have hb' : Below w5.heap.size w5 ((w5.alloc (.cells zp8.cs.toArray 31)).setCells w5.heap.size 0 p7.cs) := Below.setCells _ (Nat.le_refl _) _ _ hb
         rw [hw6.out]
         exact ⟨HB5.out.1.below hb' hs5, HB5.out.2.1.below hb' hs6, hn5.out.p8All _, HB5.out.2.2.trans (hb'.mono HB5.out.2.2.size)⟩
       have hc1 : w6.cell? ⟨gs, 112, none⟩ = some (.int .u8 9) := (hb6.out.2.1.cell 112).trans p7_c1
       have hc2 : w6.cell? ⟨gs, 116, none⟩ = some (.int .u8 3) := (hb6.out.2.1.cell 116).trans p7_c2
       have hc3 : w6.cell? ⟨gs, 124, none⟩ = some (.int .u8 1) := (hb6.out.2.1.cell 124).trans p7_c3
       have hfz := fun i => hb6.out.2.1.frozen i
       clear hw6)
    | (refine wpList_val (by rfl) _ (ex_ldP8 (.tmp 4) rfl w5.heap.size p7 rfl hb6.out.2.2.1) ?_)
    | (refine wpList_val (by rfl) _ (ex_ldP8 (.tmp 1) rfl w.heap.size p7 rfl hb6.out.1) ?_)
    | (refine wpList_val (by rfl) _ (ex_eqP8 (.tmp 40) (.tmp 41) rfl p7 p7 rfl rfl) ?_; rw [hsame.out])
    | (refine wpList_val (by rfl) _ (ex_ldP8 (.tmp 1) rfl w.heap.size p7 rfl hb6.out.1) ?_))
  refine Calls.mono (HE.out w6) ?_
  rintro e w7 ⟨rfl, hb7⟩
  have HB7 := Lib.hid (And.intro (hb6.out.1.below hb7 hb6.out.1.lt) (hb6.out.2.2.2.trans (hb7.mono hb6.out.2.2.2.size)))
  clear HE hb7 hb6 hc1 hc2 hc3 hfz HB5 hn5
  rw [p7_s.2.2.1]
  have HW := Lib.hid (L.newest p7 p7_ok w7)
  go_wp2_with (first
    | (refine wpList_val (by rfl) _ (ex_ldP8 (.tmp 1) rfl w.heap.size p7 rfl HB7.out.1) ?_))
  refine Calls.mono HW.out ?_
  rintro e w8 ⟨rfl, hb8⟩
  have HB8 := Lib.hid (HB7.out.2.trans (hb8.mono HB7.out.2.size))
  clear HW hb8 HB7
  rw [p7_s.2.2.2]
  go_wp2_with fail
  go_ret
  exact ⟨rfl, HB8.out⟩
end Go.Proofs.Ytgbghmgipnphkaa
