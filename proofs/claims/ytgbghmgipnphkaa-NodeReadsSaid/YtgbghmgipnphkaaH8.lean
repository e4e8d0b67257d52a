/- NodeReads over the calls' contracts. -/
import Derived.Test.YtgbghmgipnphkaaH7
set_option maxRecDepth 10000
namespace Go.Proofs.Ytgbghmgipnphkaa
open Go.RowKit

set_option maxHeartbeats 2000000 in
theorem nodeReads_any (L : NodeCalls) (s : Sec) (w : World) : Calls Try.prog 5 #[.agg s.cs.toArray] w fun e w' => e = .returned (.bool true) ∧ Below w.heap.size w w' := by
  have HR := Lib.hid (L.read s)
  have HN := Lib.hid (rnread_any s)
  have HA := Lib.hid (nodeAlive_any L)
  have hsame : Hid ((nrP s).same (nrP s) = true) := P8.same_iff.2 rfl
  generalize nrP s = p at *
  generalize nrC s = c at *
  have hz : ∀ w, Sem.run Try.prog (zeroValue 31) w = .ok (.agg zp8.cs.toArray) w := zeroP8
  go_enter Try.func5, Try.ntmps5
  have h0 : Hid (Blk (w.alloc (.cells s.cs.toArray 23)) w.heap.size 23 s.cs.toArray ∧ Below w.heap.size w (w.alloc (.cells s.cs.toArray 23))) := ⟨Blk.new _ _ _, (Below.refl _ _).alloc (Nat.le_refl _) _⟩
  go_wp2_with (with_reducible refine ld_sec rfl _ rfl w.heap.size 0 s rfl h0.out.1.secIs ?_)
  refine Calls.mono (HR.out _) ?_
  rintro e w1 ⟨rfl, hb1⟩
  have H1 := Lib.hid (And.intro (h0.out.1.below hb1 h0.out.1.lt) (h0.out.2.trans (hb1.mono h0.out.2.size)))
  clear h0 hb1 HR
  have hn1 : Hid (Blk (w1.alloc (.cells zp8.cs.toArray 31)) w1.heap.size 31 zp8.cs.toArray) := Blk.new _ _ _
  have hs1 := H1.out.1.lt
  go_wp2_with (first
    | ((with_reducible refine ld_sec rfl _ rfl w.heap.size 0 s rfl H2.out.1.secIs ?_))
    | ((with_reducible refine st_p8 rfl _ _ rfl w1.heap.size 0 p rfl rfl hn1.out.p8Has ?_)
       intro w2 hw2
       have H2 : Hid (Blk w2 w.heap.size 23 s.cs.toArray ∧ Blk w2 w1.heap.size 31 p.cs.toArray ∧ Below w.heap.size w w2) := by
         have hb := (Below.refl w1.heap.size w1).alloc (Nat.le_refl _) (.cells zp8.cs.toArray 31)
         have hb' : Below w1.heap.size w1 ((w1.alloc (.cells zp8.cs.toArray 31)).setCells w1.heap.size 0 p.cs) := Below.setCells _ (Nat.le_refl _) _ _ hb
         rw [hw2.out]
         exact ⟨H1.out.1.below hb' hs1, hn1.out.p8All _, H1.out.2.trans (hb'.mono H1.out.2.size)⟩
       clear hw2))
  refine Calls.mono (HN.out w2) ?_
  rintro e w3 ⟨rfl, hb3⟩
  have H3 := Lib.hid (And.intro (H2.out.2.1.below hb3 H2.out.2.1.lt) (H2.out.2.2.trans (hb3.mono H2.out.2.2.size)))
  clear H2 hb3 HN H1 hn1
  generalize w1.heap.size = g1 at *
  have hn3 : Hid (Blk (w3.alloc (.cells zp8.cs.toArray 31)) w3.heap.size 31 zp8.cs.toArray) := Blk.new _ _ _
  have hs3 := H3.out.1.lt
  go_wp2_with ((with_reducible refine st_p8 rfl _ _ rfl w3.heap.size 0 p rfl rfl hn3.out.p8Has ?_)
               intro w4 hw4
               have H4 : Hid (Blk w4 g1 31 p.cs.toArray ∧ Blk w4 w3.heap.size 31 p.cs.toArray ∧ Below w.heap.size w w4) := by
                 have hb := (Below.refl w3.heap.size w3).alloc (Nat.le_refl _) (.cells zp8.cs.toArray 31)
                 have hb' : Below w3.heap.size w3 ((w3.alloc (.cells zp8.cs.toArray 31)).setCells w3.heap.size 0 p.cs) := Below.setCells _ (Nat.le_refl _) _ _ hb
                 rw [hw4.out]
                 exact ⟨H3.out.1.below hb' hs3, hn3.out.p8All _, H3.out.2.trans (hb'.mono H3.out.2.size)⟩
               clear hw4)
  refine Calls.mono (HA.out w4) ?_
  rintro e w5 ⟨rfl, hb5⟩
  have H5 := Lib.hid (And.intro (H4.out.1.below hb5 H4.out.1.lt) (And.intro (H4.out.2.1.below hb5 H4.out.2.1.lt) (H4.out.2.2.trans (hb5.mono H4.out.2.2.size))))
  clear HA hb5 H4 H3 hn3
  generalize w3.heap.size = g2 at *
  go_wp2_with (first
    | (refine wpList_val (by rfl) _ (ex_ldP8 (.tmp 3) rfl g1 p rfl H5.out.1) ?_)
    | (refine wpList_val (by rfl) _ (ex_ldP8 (.tmp 5) rfl g2 p rfl H5.out.2.1) ?_)
    | (refine wpList_val (by rfl) _ (ex_eqP8 (.tmp 19) (.tmp 20) rfl p p rfl rfl) ?_; rw [hsame.out]))
  go_ret
  exact ⟨rfl, H5.out.2.2⟩
end Go.Proofs.Ytgbghmgipnphkaa
