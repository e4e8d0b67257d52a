/- NodeApart over the calls' contracts. -/
import Derived.Test.YtgbghmgipnphkaaH10
set_option maxRecDepth 10000
namespace Go.Proofs.Ytgbghmgipnphkaa
open Go.RowKit

theorem ex_ldPk {o : Oper} {a : Act} {w : World} (x : Operand) (ho : o.op = .load 30 x) (b k : Nat) (q : PtrV) (hx : a.eval x = .pointer (some ⟨b, k, none⟩)) (hr : w.rangeAt b k [.int .i64 q.1, .int .u64 q.2.1, .int .u32 q.2.2]) :
    (execOp a.eval o).run Try.prog w = .ok (.value (ptq q)) w := by
  have h := run_loadAt_mid w b k _ [.int .i64 q.1, .int .u64 q.2.1, .int .u32 q.2.2] _ hr Try.underlying30 rfl ptr_size
  unfold execOp
  simp only [ho, hx, h, Sem.run_bind, Sem.run_pure, Result.andThen_ok]
theorem ex_eqPq {o : Oper} {a : Act} {w : World} (x y : Operand) (ho : o.op = .binOp .eql 30 x y 30) (p q : PtrV) (hx : a.eval x = ptq p) (hy : a.eval y = ptq q) :
    (execOp a.eval o).run Try.prog w = .ok (.value (.bool (sameQ p q))) w := by
  have h := run_eqP p.1 p.2.1 p.2.2 q.1 q.2.1 q.2.2 w
  unfold execOp
  simp [ho, hx, hy, eqGuard, h, sameQ]
theorem apart_same {p : P8} (hp : p.ok) {q : PtrV} (hq : PtrOk q) {j : Nat} (hj : j < 8) (ha : all8 p = true) (hk : all8 (p.set j q) = true) : (nbS p).same (nbS (p.set j q)) = sameQ (p.at_ j) q := by
  have h1 := nbS_inj hp (set_ok hp hq j) ha hk
  have h2 := set_same (p := p) q hj
  have h3 : (nbS p).same (nbS (p.set j q)) = true ↔ sameQ (p.at_ j) q = true := by
    rw [Sec.same_iff, h1, sameQ_iff, ← h2]
    exact eq_comm
  cases h4 : (nbS p).same (nbS (p.set j q)) <;> cases h5 : sameQ (p.at_ j) q <;> simp_all
set_option maxHeartbeats 2000000 in
theorem nodeApart_any (L : NodeCalls) (p : P8) (hp : p.ok) (i q1 q2 q3 : Int) (hi : I64 i) (hq : PtrOk (q1, q2, q3)) (w : World) : Calls Try.prog 7 #[.agg p.cs.toArray, .int .i64 i, ptv q1 q2 q3] w fun e w' => e = .returned (.bool true) ∧ Below w.heap.size w w' := by
  have HA := Lib.hid (nodeAlive_any L)
  have hz : ∀ w, Sem.run Try.prog (zeroValue 23) w = .ok (.agg zsec.cs.toArray) w := zeroSec
  have hz8 : ∀ w, Sem.run Try.prog (zeroValue 31) w = .ok (.agg zp8.cs.toArray) w := zeroP8
  go_enter Try.func7, Try.ntmps7
  have h0 : Hid (Blk ((w.alloc (.cells p.cs.toArray 31)).alloc (.cells #[.int .i64 q1, .int .u64 q2, .int .u32 q3] 30)) w.heap.size 31 p.cs.toArray ∧ Blk ((w.alloc (.cells p.cs.toArray 31)).alloc (.cells #[.int .i64 q1, .int .u64 q2, .int .u32 q3] 30)) (w.heap.size + 1) 30 #[.int .i64 q1, .int .u64 q2, .int .u32 q3] ∧ Below w.heap.size w ((w.alloc (.cells p.cs.toArray 31)).alloc (.cells #[.int .i64 q1, .int .u64 q2, .int .u32 q3] 30))) := by
    refine ⟨(Blk.new w _ _).below (B := w.heap.size + 1) ((Below.refl _ _).alloc (by simp) _) (by omega), ?_, ((Below.refl _ _).alloc (Nat.le_refl _) _).alloc (by simp) _⟩
    have h := Blk.new (w.alloc (.cells p.cs.toArray 31)) 30 #[.int .i64 q1, .int .u64 q2, .int .u32 q3]
    rw [show (w.alloc (.cells p.cs.toArray 31)).heap.size = w.heap.size + 1 by simp] at h
    exact h
  go_wp2_with fail
  refine Calls.mono (HA.out _) ?_
  rintro e w1 ⟨rfl, hb1⟩
  have H1 := Lib.hid (And.intro (h0.out.1.below hb1 h0.out.1.lt) (And.intro (h0.out.2.1.below hb1 h0.out.2.1.lt) (h0.out.2.2.trans (hb1.mono h0.out.2.2.size))))
  clear h0 hb1 HA
  by_cases h0 : i < 0
  · go_wp2_with fail
    go_ret
    exact ⟨rfl, H1.out.2.2⟩
  by_cases h7 : 7 < i
  · go_wp2_with fail
    go_ret
    exact ⟨rfl, H1.out.2.2⟩
  obtain ⟨j, rfl⟩ := Int.eq_ofNat_of_zero_le (by omega : 0 ≤ i)
  have hj : j < 8 := by omega
  have HB := Lib.hid (L.bytes p hp)
  have HK := Lib.hid (L.bytes (p.set j (q1, q2, q3)) (set_ok hp hq j))
  have hn1 : Hid (Blk (w1.alloc (.cells zp8.cs.toArray 31)) w1.heap.size 31 zp8.cs.toArray) := Blk.new _ _ _
  have hl1 := H1.out.1.lt
  have hl2 := H1.out.2.1.lt
  go_wp2_with (first
    | (with_reducible refine ld_p8 rfl _ rfl w.heap.size 0 p rfl H1.out.1.p8Is ?_)
    | (with_reducible refine st_p8 rfl _ _ rfl w1.heap.size 0 p rfl rfl hn1.out.p8Has ?_
       intro w2 hw2
       have H2 : Hid (Blk w2 w.heap.size 31 p.cs.toArray ∧ Blk w2 (w.heap.size + 1) 30 #[.int .i64 q1, .int .u64 q2, .int .u32 q3] ∧ Blk w2 w1.heap.size 31 p.cs.toArray ∧ Below w.heap.size w w2) := by
         have hb := (Below.refl w1.heap.size w1).alloc (Nat.le_refl _) (.cells zp8.cs.toArray 31)
         have hb' : Below w1.heap.size w1 ((w1.alloc (.cells zp8.cs.toArray 31)).setCells w1.heap.size 0 p.cs) := Below.setCells _ (Nat.le_refl _) _ _ hb
         rw [hw2.out]
         exact ⟨H1.out.1.below hb' hl1, H1.out.2.1.below hb' hl2, hn1.out.p8All _, H1.out.2.2.trans (hb'.mono H1.out.2.2.size)⟩
       clear hw2)
    | (refine wpList_val (by rfl) _ (ex_ldPq (.tmp 5) rfl (w.heap.size + 1) q1 q2 q3 rfl H2.out.2.1) ?_)
    | (with_reducible refine st_pq rfl _ _ rfl w1.heap.size (j * 3) (q1, q2, q3) rfl rfl (H2.out.2.2.1.p8There j hj) ?_
       intro w3 hw3
       have H3 : Hid (Blk w3 w.heap.size 31 p.cs.toArray ∧ Blk w3 (w.heap.size + 1) 30 #[.int .i64 q1, .int .u64 q2, .int .u32 q3] ∧ Blk w3 w1.heap.size 31 (p.set j (q1, q2, q3)).cs.toArray ∧ Below w.heap.size w w3) := by
         have hbb : Below w1.heap.size w2 w3 := by rw [hw3.out]; exact Below.setCells _ (Nat.le_refl _) _ _ (Below.refl _ _)
         exact ⟨H2.out.1.below hbb hl1, H2.out.2.1.below hbb hl2, by rw [hw3.out]; exact H2.out.2.2.1.p8Set j hj (q1, q2, q3), H2.out.2.2.2.trans (hbb.mono (by omega))⟩
       clear hw3)
    | (with_reducible refine ld_p8 rfl _ rfl w.heap.size 0 p rfl H3.out.1.p8Is ?_))
  generalize hK : p.set j (q1, q2, q3) = K at *
  have HKK := Lib.hid hK
  clear hK
  refine Calls.mono (HB.out w3) ?_
  rintro e w4 ⟨rfl, hb4⟩
  have H4 := Lib.hid (And.intro (H3.out.1.below hb4 H3.out.1.lt) (And.intro (H3.out.2.1.below hb4 H3.out.2.1.lt) (And.intro (H3.out.2.2.1.below hb4 H3.out.2.2.1.lt) (H3.out.2.2.2.trans (hb4.mono H3.out.2.2.2.size)))))
  clear H2 H3 hb4 HB H1 hn1
  generalize w1.heap.size = gk at *
  have hn4 : Hid (Blk (w4.alloc (.cells zsec.cs.toArray 23)) w4.heap.size 23 zsec.cs.toArray) := Blk.new _ _ _
  have hl3 := H4.out.2.2.1.lt
  have hl4 := H4.out.1.lt
  have hl5 := H4.out.2.1.lt
  go_wp2_with (first
    | (with_reducible refine st_sec rfl _ _ rfl w4.heap.size 0 (nbS p) rfl rfl hn4.out.secHas ?_
       intro w5 hw5
       have H5 : Hid (Blk w5 w.heap.size 31 p.cs.toArray ∧ Blk w5 (w.heap.size + 1) 30 #[.int .i64 q1, .int .u64 q2, .int .u32 q3] ∧ Blk w5 gk 31 K.cs.toArray ∧ Blk w5 w4.heap.size 23 (nbS p).cs.toArray ∧ Below w.heap.size w w5) := by
         have hb := (Below.refl w4.heap.size w4).alloc (Nat.le_refl _) (.cells zsec.cs.toArray 23)
         have hb' : Below w4.heap.size w4 ((w4.alloc (.cells zsec.cs.toArray 23)).setCells w4.heap.size 0 (nbS p).cs) := Below.setCells _ (Nat.le_refl _) _ _ hb
         rw [hw5.out]
         exact ⟨H4.out.1.below hb' hl4, H4.out.2.1.below hb' hl5, H4.out.2.2.1.below hb' hl3, hn4.out.secAll _, H4.out.2.2.2.trans (hb'.mono H4.out.2.2.2.size)⟩
       clear hw5)
    | (with_reducible refine ld_p8 rfl _ rfl gk 0 K rfl H5.out.2.2.1.p8Is ?_))
  refine Calls.mono (HK.out w5) ?_
  rintro e w6 ⟨rfl, hb6⟩
  have H6 := Lib.hid (And.intro (H5.out.1.below hb6 H5.out.1.lt) (And.intro (H5.out.2.1.below hb6 H5.out.2.1.lt) (And.intro (H5.out.2.2.1.below hb6 H5.out.2.2.1.lt) (And.intro (H5.out.2.2.2.1.below hb6 H5.out.2.2.2.1.lt) (H5.out.2.2.2.2.trans (hb6.mono H5.out.2.2.2.2.size))))))
  clear H5 H4 hb6 HK hn4
  generalize w4.heap.size = gx at *
  have hn6 : Hid (Blk (w6.alloc (.cells zsec.cs.toArray 23)) w6.heap.size 23 zsec.cs.toArray) := Blk.new _ _ _
  clear hl3 hl4 hl5
  have hl3 := H6.out.2.2.1.lt
  have hl4 := H6.out.1.lt
  have hl5 := H6.out.2.1.lt
  have hl6 := H6.out.2.2.2.1.lt
  go_upto_region 9 with (first
    | (with_reducible refine st_sec rfl _ _ rfl w6.heap.size 0 (nbS K) rfl rfl hn6.out.secHas ?_
       intro w7 hw7
       have H7 : Hid (Blk w7 w.heap.size 31 p.cs.toArray ∧ Blk w7 (w.heap.size + 1) 30 #[.int .i64 q1, .int .u64 q2, .int .u32 q3] ∧ Blk w7 gk 31 K.cs.toArray ∧ Blk w7 gx 23 (nbS p).cs.toArray ∧ Blk w7 w6.heap.size 23 (nbS K).cs.toArray ∧ Below w.heap.size w w7) := by
         have hb := (Below.refl w6.heap.size w6).alloc (Nat.le_refl _) (.cells zsec.cs.toArray 23)
         have hb' : Below w6.heap.size w6 ((w6.alloc (.cells zsec.cs.toArray 23)).setCells w6.heap.size 0 (nbS K).cs) := Below.setCells _ (Nat.le_refl _) _ _ hb
         rw [hw7.out]
         exact ⟨H6.out.1.below hb' hl4, H6.out.2.1.below hb' hl5, H6.out.2.2.1.below hb' hl3, H6.out.2.2.2.1.below hb' hl6, hn6.out.secAll _, H6.out.2.2.2.2.trans (hb'.mono H6.out.2.2.2.2.size)⟩
       clear hw7))
  have hzz : Hid (zsec.same zsec = true) := zsec.same_self
  rcases ha : all8 p with _ | _
  · rcases hk : all8 K with _ | _
    · rw [nbS_no ha] at H7
      rw [nbS_no hk] at H7
      rw [show nbC p = 51 from if_neg (by simp [ha]), show nbC K = 51 from if_neg (by simp [hk])]
      go_wp2_with (first
        | (refine wpList_val (by rfl) _ (ex_build0 rfl) ?_)
        | (refine wpList_val (by rfl) _ (ex_ldSec (.tmp 8) rfl gx zsec rfl H7.out.2.2.2.1) ?_)
        | (refine wpList_val (by rfl) _ (ex_ldSec (.tmp 10) rfl w6.heap.size zsec rfl H7.out.2.2.2.2.1) ?_)
        | (refine wpList_val (by rfl) _ (ex_eqS (.tmp 43) (.tmp 44) rfl zsec zsec rfl rfl) ?_; rw [hzz.out])
        | (refine wpList_val (by rfl) _ (ex_eqS (.tmp 51) (.tmp 52) rfl zsec zsec rfl rfl) ?_; rw [hzz.out]))
      go_ret
      exact ⟨rfl, H7.out.2.2.2.2.2⟩
    · rw [nbS_no ha] at H7
      rw [show nbC p = 51 from if_neg (by simp [ha]), show nbC K = 0 from if_pos hk]
      go_wp2_with (first
        | (refine wpList_val (by rfl) _ (ex_build0 rfl) ?_)
        | (refine wpList_val (by rfl) _ (ex_ldSec (.tmp 8) rfl gx zsec rfl H7.out.2.2.2.1) ?_)
        | (refine wpList_val (by rfl) _ (ex_ldSec (.tmp 10) rfl w6.heap.size zsec rfl H7.out.2.2.2.2.1) ?_)
        | (refine wpList_val (by rfl) _ (ex_eqS (.tmp 43) (.tmp 44) rfl zsec zsec rfl rfl) ?_; rw [hzz.out])
        | (refine wpList_val (by rfl) _ (ex_eqS (.tmp 51) (.tmp 52) rfl zsec zsec rfl rfl) ?_; rw [hzz.out]))
      go_ret
      exact ⟨rfl, H7.out.2.2.2.2.2⟩
  · rcases hk : all8 K with _ | _
    · rw [nbS_no hk] at H7
      rw [show nbC p = 0 from if_pos ha, show nbC K = 51 from if_neg (by simp [hk])]
      go_wp2_with (first
        | (refine wpList_val (by rfl) _ (ex_build0 rfl) ?_)
        | (refine wpList_val (by rfl) _ (ex_ldSec (.tmp 8) rfl gx zsec rfl H7.out.2.2.2.1) ?_)
        | (refine wpList_val (by rfl) _ (ex_ldSec (.tmp 10) rfl w6.heap.size zsec rfl H7.out.2.2.2.2.1) ?_)
        | (refine wpList_val (by rfl) _ (ex_eqS (.tmp 43) (.tmp 44) rfl zsec zsec rfl rfl) ?_; rw [hzz.out])
        | (refine wpList_val (by rfl) _ (ex_eqS (.tmp 51) (.tmp 52) rfl zsec zsec rfl rfl) ?_; rw [hzz.out]))
      go_ret
      exact ⟨rfl, H7.out.2.2.2.2.2⟩
    · rw [show nbC p = 0 from if_pos ha, show nbC K = 0 from if_pos hk]
      have HS : Hid ((nbS p).same (nbS K) = sameQ (p.at_ j) (q1, q2, q3)) := by
        rw [← HKK.out] at hk ⊢
        exact apart_same hp hq hj ha hk
      have HG : Hid (q2 ≤ newestF K) := by
        rw [← HKK.out]
        exact set_newest (p := p) (q1, q2, q3) hj
      have HW := Lib.hid (L.newest K (by rw [← HKK.out]; exact set_ok hp hq j))
      go_upto_region 11 with fail
      have hS1 : Hid ((fun w' => Blk w' w.heap.size 31 p.cs.toArray ∧ Blk w' (w.heap.size + 1) 30 #[.int .i64 q1, .int .u64 q2, .int .u32 q3] ∧ Blk w' gk 31 K.cs.toArray ∧ Blk w' gx 23 (nbS p).cs.toArray ∧ Blk w' w6.heap.size 23 (nbS K).cs.toArray ∧ Below w.heap.size w w') w7.drew) := by
        have hd := (Below.refl w7.heap.size w7).drew
        exact ⟨H7.out.1.below hd H7.out.1.lt, H7.out.2.1.below hd H7.out.2.1.lt, H7.out.2.2.1.below hd H7.out.2.2.1.lt, H7.out.2.2.2.1.below hd H7.out.2.2.2.1.lt, H7.out.2.2.2.2.1.below hd H7.out.2.2.2.2.1.lt, H7.out.2.2.2.2.2.trans (hd.mono H7.out.2.2.2.2.2.size)⟩
      clear H7 H6 hn6
      refine wp_region_held_drew (S := (fun w' => Blk w' w.heap.size 31 p.cs.toArray ∧ Blk w' (w.heap.size + 1) 30 #[.int .i64 q1, .int .u64 q2, .int .u32 q3] ∧ Blk w' gk 31 K.cs.toArray ∧ Blk w' gx 23 (nbS p).cs.toArray ∧ Blk w' w6.heap.size 23 (nbS K).cs.toArray ∧ Below w.heap.size w w')) (by kernel_rfl) hS1.out (fun hHeld => ?_)
      generalize w7.drew = w8 at *
      refine wpAnyH_take (i := 0) (v := (.agg (nbS p).cs.toArray)) rfl (by kernel_rfl) (by kernel_rfl) (by kernel_rfl) (fun _ _ _ h => h) (Or.inl ⟨by rfl, ?_⟩) (by assumption) ?_
      · intro w' hS
        exact ex_ldSec (.tmp 8) rfl gx (nbS p) rfl hS.2.2.2.1
      try simp [Act.put]
      refine wpAnyH_take (i := 1) (v := (.agg (nbS K).cs.toArray)) rfl (by kernel_rfl) (by kernel_rfl) (by kernel_rfl) (fun _ _ _ h => h) (Or.inl ⟨by rfl, ?_⟩) (by assumption) ?_
      · intro w' hS
        exact ex_ldSec (.tmp 10) rfl w6.heap.size (nbS K) rfl hS.2.2.2.2.1
      try simp [Act.put]
      refine wpAnyH_take (i := 2) (v := (.bool (sameQ (p.at_ j) (q1, q2, q3)))) rfl (by kernel_rfl) (by kernel_rfl) (by kernel_rfl) (fun _ _ _ h => h) (Or.inl ⟨by rfl, ?_⟩) (by assumption) ?_
      · intro w' hS
        refine (ex_eqS (.tmp 56) (.tmp 57) rfl (nbS p) (nbS K) rfl rfl).trans ?_
        rw [HS.out]
      try simp [Act.put]
      refine wpAnyH_take (i := 3) (v := (.int .i64 (j : Int))) rfl (by kernel_rfl) (by kernel_rfl) (by kernel_rfl) (fun _ _ _ h => h) (Or.inl ⟨by rfl, ?_⟩) (by assumption) ?_
      · intro w' hS; go_simp; try with_reducible rfl
      try simp [Act.put]
      refine wpAnyH_take (i := 4) (v := (.pointer (some ⟨w.heap.size, j * 3, none⟩))) rfl (by kernel_rfl) (by kernel_rfl) (by kernel_rfl) (fun _ _ _ h => h) (Or.inl ⟨by rfl, ?_⟩) (by assumption) ?_
      · intro w' hS; go_simp; try with_reducible rfl
      try simp [Act.put]
      refine wpAnyH_take (i := 5) (v := (ptq (p.at_ j))) rfl (by kernel_rfl) (by kernel_rfl) (by kernel_rfl) (fun _ _ _ h => h) (Or.inl ⟨by rfl, ?_⟩) (by assumption) ?_
      · intro w' hS
        exact ex_ldPk (.tmp 60) rfl w.heap.size (j * 3) (p.at_ j) rfl (hS.1.p8At j hj)
      try simp [Act.put]
      refine wpAnyH_take (i := 6) (v := (ptv q1 q2 q3)) rfl (by kernel_rfl) (by kernel_rfl) (by kernel_rfl) (fun _ _ _ h => h) (Or.inl ⟨by rfl, ?_⟩) (by assumption) ?_
      · intro w' hS
        exact ex_ldPq (.tmp 5) rfl (w.heap.size + 1) q1 q2 q3 rfl hS.2.1
      try simp [Act.put]
      refine wpAnyH_take (i := 7) (v := (.bool (sameQ (p.at_ j) (q1, q2, q3)))) rfl (by kernel_rfl) (by kernel_rfl) (by kernel_rfl) (fun _ _ _ h => h) (Or.inl ⟨by rfl, ?_⟩) (by assumption) ?_
      · intro w' hS
        exact ex_eqPq (.tmp 61) (.tmp 62) rfl (p.at_ j) (q1, q2, q3) rfl rfl
      try simp [Act.put]
      refine wpAnyH_take (i := 8) (v := (.bool true)) rfl (by kernel_rfl) (by kernel_rfl) (by kernel_rfl) (fun _ _ _ h => h) (Or.inl ⟨by rfl, ?_⟩) (by assumption) ?_
      · intro w' hS; go_simp; try with_reducible rfl
      try simp [Act.put]
      refine wpAnyH_take (i := 9) (v := (.bool true)) rfl (by kernel_rfl) (by kernel_rfl) (by kernel_rfl) (fun _ _ _ h => h) (Or.inl ⟨by rfl, ?_⟩) (by assumption) ?_
      · intro w' hS; go_simp; try with_reducible rfl
      try simp [Act.put]
      refine wpAnyH_take (i := 10) (v := (.agg K.cs.toArray)) rfl (by kernel_rfl) (by kernel_rfl) (by kernel_rfl) (fun _ _ _ h => h) (Or.inl ⟨by rfl, ?_⟩) (by assumption) ?_
      · intro w' hS
        exact ex_ldP8 (.tmp 7) rfl gk K rfl hS.2.2.1
      try simp [Act.put]
      refine wpAnyH_take (i := 12) (v := (.pointer (some ⟨w.heap.size + 1, 1, none⟩))) rfl (by kernel_rfl) (by kernel_rfl) (by kernel_rfl) (fun _ _ _ h => h) (Or.inl ⟨by rfl, ?_⟩) (by assumption) ?_
      · intro w' hS; go_simp; try with_reducible rfl
      try simp [Act.put]
      refine wpAnyH_take (i := 13) (v := (.int .u64 q2)) rfl (by kernel_rfl) (by kernel_rfl) (by kernel_rfl) (fun _ _ _ h => h) (Or.inl ⟨by rfl, ?_⟩) (by assumption) ?_
      · intro w' hS
        have hc : w'.cell? ⟨w.heap.size + 1, 1, none⟩ = some (.int .u64 q2) := hS.2.1.cell 1
        go_simp; try with_reducible rfl
      try simp [Act.put]
      refine wpAnyH_ready (rs := [11]) (by kernel_rfl) (by simp) ?_
      refine AllReadyH.cons rfl (fun K' hK => ?_) AllReadyH.nil
      go_simp
      refine Calls.mono (HW.out _) ?_
      rintro e wX ⟨rfl, hbX⟩
      have hS2 : Hid ((fun w' => Blk w' w.heap.size 31 p.cs.toArray ∧ Blk w' (w.heap.size + 1) 30 #[.int .i64 q1, .int .u64 q2, .int .u32 q3] ∧ Blk w' gk 31 K.cs.toArray ∧ Blk w' gx 23 (nbS p).cs.toArray ∧ Blk w' w6.heap.size 23 (nbS K).cs.toArray ∧ Below w.heap.size w w') wX) := ⟨hS1.out.1.below hbX hS1.out.1.lt, hS1.out.2.1.below hbX hS1.out.2.1.lt, hS1.out.2.2.1.below hbX hS1.out.2.2.1.lt, hS1.out.2.2.2.1.below hbX hS1.out.2.2.2.1.lt, hS1.out.2.2.2.2.1.below hbX hS1.out.2.2.2.2.1.lt, hS1.out.2.2.2.2.2.trans (hbX.mono hS1.out.2.2.2.2.2.size)⟩
      clear hS1 hbX
      have hS1 := hS2
      clear hS2
      refine hK.out _ _ hS1.out (fun hHeld2 => ?_)
      clear hK K'
      try simp
      clear hHeld
      have hHeld := hHeld2
      clear hHeld2
      refine wpAnyH_take (i := 14) (v := (.bool true)) rfl (by kernel_rfl) (by kernel_rfl) (by kernel_rfl) (fun _ _ _ h => h) (Or.inl ⟨by rfl, ?_⟩) (by assumption) ?_
      · intro w' hS
        have hg := HG.out
        go_simp; try with_reducible rfl
      try simp [Act.put]
      refine wpAnyH_take (i := 15) (v := (.bool true)) rfl (by kernel_rfl) (by kernel_rfl) (by kernel_rfl) (fun _ _ _ h => h) (Or.inl ⟨by rfl, ?_⟩) (by assumption) ?_
      · intro w' hS; go_simp; try with_reducible rfl
      try simp [Act.put]
      refine wpAnyH_take (i := 16) (v := (.bool true)) rfl (by kernel_rfl) (by kernel_rfl) (by kernel_rfl) (fun _ _ _ h => h) (Or.inl ⟨by rfl, ?_⟩) (by assumption) ?_
      · intro w' hS; go_simp; try with_reducible rfl
      try simp [Act.put]
      refine wpAnyH_done (by kernel_rfl) ?_ _
      have HB8 := Lib.hid hS1.out.2.2.2.2.2
      clear hHeld hS1
      go_wp2_with fail
      go_ret
      exact ⟨rfl, HB8.out⟩
end Go.Proofs.Ytgbghmgipnphkaa
