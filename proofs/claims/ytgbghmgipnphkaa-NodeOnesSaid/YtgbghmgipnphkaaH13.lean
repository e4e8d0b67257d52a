/- NodeOnes over the calls' contracts. -/
import Derived.Test.YtgbghmgipnphkaaH12
set_option maxRecDepth 10000
namespace Go.Proofs.Ytgbghmgipnphkaa
open Go.RowKit

theorem ex_lssF {o : Oper} {a : Act} {w : World} (x y : Operand) (ho : o.op = .binOp .lss 3 x y 3) (m n : Int) (hx : a.eval x = .int .i64 m) (hy : a.eval y = .int .i64 n) (h : ¬ m < n) :
    (execOp a.eval o).run Try.prog w = .ok (.value (.bool false)) w := by
  unfold execOp
  simp only [ho, hx, hy]
  go_simp
theorem ex_gtrF {o : Oper} {a : Act} {w : World} (x y : Operand) (ho : o.op = .binOp .gtr 3 x y 3) (m n : Int) (hx : a.eval x = .int .i64 m) (hy : a.eval y = .int .i64 n) (h : ¬ n < m) :
    (execOp a.eval o).run Try.prog w = .ok (.value (.bool false)) w := by
  unfold execOp
  simp only [ho, hx, hy]
  go_simp
theorem ix_arr {P : Program} {T E : TypeId} {n : Nat} (hT : P.underlying T = some (.array n E)) (hE : ∀ w, (isAgg E).run P w = .ok false w) (hs : (P.info? E).map (·.size) = some 1)
    (cs : Array Value) (k : Nat) (hk : k < n) (v : Value) (hv : cs[k]? = some v) (w : World) : (Instr.index T (.agg cs) (.int .i64 (k : Int))).run P w = .ok v w := by
  obtain ⟨i, hi, hz⟩ := Option.map_eq_some_iff.1 hs
  simp [Instr.index, asIntOf, run_underlying hT, hE, part, sizeOf, typeInfo, hi, hz, hk, hv, go_sem]
theorem isAggU8 (w : World) : (isAgg 5).run Try.prog w = .ok false w := by
  simp [isAgg, run_underlying Try.underlying5]
theorem ex_ixS {o : Oper} {a : Act} {w : World} (x y : Operand) (ho : o.op = .index 23 x y) (s : Sec) (k : Nat) (hk : k < 128) (hx : a.eval x = .agg s.cs.toArray) (hy : a.eval y = .int .i64 (k : Int)) : (execOp a.eval o).run Try.prog w = .ok (.value (.int .u8 ((s.l.getD k 0).toNat : Int))) w := by
  have hv : s.cs.toArray[k]? = some (.int .u8 ((s.l.getD k 0).toNat : Int)) := by
    rw [List.getElem?_toArray, s.at_ k hk]
    simp [List.getD, List.getElem?_eq_getElem (show k < s.l.length by rw [s.h]; exact hk)]
  have h := ix_arr Try.underlying23 isAggU8 sizeU8 s.cs.toArray k hk _ hv w
  unfold execOp
  simp only [ho, hx, hy, h, Sem.run_bind, Sem.run_pure, Result.andThen_ok]
set_option maxHeartbeats 2000000 in
theorem nodeOnes_any (L : NodeCalls) (i q1 q2 q3 : Int) (hi : I64 i) (hq : PtrOk (q1, q2, q3)) (w : World) : Calls Try.prog 8 #[.int .i64 i, ptv q1 q2 q3] w fun e w' => e = .returned (.bool true) ∧ Below w.heap.size w w' := by
  have HA := Lib.hid (nodeAlive_any L)
  have HQ := Lib.hid (right_any q1 q2 q3)
  have hz : ∀ w, Sem.run Try.prog (zeroValue 23) w = .ok (.agg zsec.cs.toArray) w := zeroSec
  have hz8 : ∀ w, Sem.run Try.prog (zeroValue 31) w = .ok (.agg zp8.cs.toArray) w := zeroP8
  go_enter Try.func8, Try.ntmps8
  have h0 : Hid (Blk (w.alloc (.cells #[.int .i64 q1, .int .u64 q2, .int .u32 q3] 30)) w.heap.size 30 #[.int .i64 q1, .int .u64 q2, .int .u32 q3] ∧ Below w.heap.size w (w.alloc (.cells #[.int .i64 q1, .int .u64 q2, .int .u32 q3] 30))) := ⟨Blk.new w _ _, (Below.refl _ _).alloc (Nat.le_refl _) _⟩
  go_wp2_with fail
  refine Calls.mono (HA.out _) ?_
  rintro e w1 ⟨rfl, hb1⟩
  have H1 := Lib.hid (And.intro (h0.out.1.below hb1 h0.out.1.lt) (h0.out.2.trans (hb1.mono h0.out.2.size)))
  clear h0 hb1 HA
  by_cases h0 : i < 0
  · go_wp2_with fail
    go_ret
    exact ⟨rfl, H1.out.2⟩
  by_cases h7 : 7 < i
  · go_wp2_with fail
    go_ret
    exact ⟨rfl, H1.out.2⟩
  obtain ⟨j, rfl⟩ := Int.eq_ofNat_of_zero_le (by omega : 0 ≤ i)
  have hj : j < 8 := by omega
  rcases hr : rightF q1 q2 q3 with _ | _
  · rw [hr] at HQ
    go_wp2_with (first
      | (refine wpList_valD 16 rfl _ (ex_lssF (.tmp 15) (.const (.int .i64 0)) rfl j 0 rfl rfl (by omega)) (by rfl) ?_)
      | (refine wpList_valD 19 rfl _ (ex_gtrF (.tmp 18) (.const (.int .i64 7)) rfl j 7 rfl rfl (by omega)) (by rfl) ?_)
      | (refine wpList_val (by rfl) _ (ex_ldPq (.tmp 3) rfl w.heap.size q1 q2 q3 rfl H1.out.1) ?_))
    refine Calls.mono (HQ.out _) ?_
    rintro e w2 ⟨rfl, hb2⟩
    have H2 := Lib.hid (H1.out.2.trans (hb2.mono H1.out.2.size))
    clear hb2 H1 HQ
    go_wp2_with fail
    go_ret
    exact ⟨rfl, H2.out⟩
  · rw [hr] at HQ
    have hlj : (j : Int) < 8 := by omega
    go_wp2_with (first
      | (refine wpList_valD 16 rfl _ (ex_lssF (.tmp 15) (.const (.int .i64 0)) rfl j 0 rfl rfl (by omega)) (by rfl) ?_)
      | (refine wpList_valD 19 rfl _ (ex_gtrF (.tmp 18) (.const (.int .i64 7)) rfl j 7 rfl rfl (by omega)) (by rfl) ?_)
      | (refine wpList_val (by rfl) _ (ex_ldPq (.tmp 3) rfl w.heap.size q1 q2 q3 rfl H1.out.1) ?_))
    refine Calls.mono (HQ.out _) ?_
    rintro e w2 ⟨rfl, hb2⟩
    have H2 := Lib.hid (And.intro (H1.out.1.below hb2 H1.out.1.lt) (H1.out.2.trans (hb2.mono H1.out.2.size)))
    clear hb2 H1 HQ
    have hl2 := H2.out.1.lt
    have hn2 : Hid (Blk (w2.alloc (.cells zp8.cs.toArray 31)) w2.heap.size 31 zp8.cs.toArray) := Blk.new _ _ _
    have HB := Lib.hid (L.bytes (zp8.set j (q1, q2, q3)) (set_ok zp8_ok hq j))
    rw [show nbC (zp8.set j (q1, q2, q3)) = 0 from if_pos (one_right (q := (q1, q2, q3)) hr j)] at HB
    go_wp2_with (first
      | (refine wpList_val (by rfl) _ (ex_buildP8 rfl) ?_)
      | (with_reducible refine st_p8 rfl _ _ rfl w2.heap.size 0 zp8 rfl rfl hn2.out.p8Has ?_
         intro w3 hw3
         have H3 : Hid (Blk w3 w.heap.size 30 #[.int .i64 q1, .int .u64 q2, .int .u32 q3] ∧ Blk w3 w2.heap.size 31 zp8.cs.toArray ∧ Below w.heap.size w w3) := by
           have hb := (Below.refl w2.heap.size w2).alloc (Nat.le_refl _) (.cells zp8.cs.toArray 31)
           have hb' : Below w2.heap.size w2 ((w2.alloc (.cells zp8.cs.toArray 31)).setCells w2.heap.size 0 zp8.cs) := Below.setCells _ (Nat.le_refl _) _ _ hb
           rw [hw3.out]
           exact ⟨H2.out.1.below hb' hl2, hn2.out.p8All _, H2.out.2.trans (hb'.mono H2.out.2.size)⟩
         clear hw3)
      | (refine wpList_val (by rfl) _ (ex_ldPq (.tmp 3) rfl w.heap.size q1 q2 q3 rfl H3.out.1) ?_)
      | (with_reducible refine st_pq rfl _ _ rfl w2.heap.size (j * 3) (q1, q2, q3) rfl rfl (H3.out.2.1.p8There j hj) ?_
         intro w4 hw4
         have H4 : Hid (Blk w4 w.heap.size 30 #[.int .i64 q1, .int .u64 q2, .int .u32 q3] ∧ Blk w4 w2.heap.size 31 (zp8.set j (q1, q2, q3)).cs.toArray ∧ Below w.heap.size w w4) := by
           have hbb : Below w2.heap.size w3 w4 := by rw [hw4.out]; exact Below.setCells _ (Nat.le_refl _) _ _ (Below.refl _ _)
           exact ⟨H3.out.1.below hbb hl2, by rw [hw4.out]; exact H3.out.2.1.p8Set j hj (q1, q2, q3), H3.out.2.2.trans (hbb.mono (by omega))⟩
         clear hw4)
      | (with_reducible refine ld_p8 rfl _ rfl w2.heap.size 0 (zp8.set j (q1, q2, q3)) rfl H4.out.2.1.p8Is ?_))
    refine Calls.mono (HB.out w4) ?_
    rintro e w5 ⟨rfl, hb5⟩
    have H5 := Lib.hid (And.intro (H4.out.1.below hb5 H4.out.1.lt) (And.intro (H4.out.2.1.below hb5 H4.out.2.1.lt) (H4.out.2.2.trans (hb5.mono H4.out.2.2.size))))
    clear hb5 H2 H3 H4 HB hn2
    have hE := one_empty (q1, q2, q3) hj
    have hat : ∀ k, k < 128 → (nbS (zp8.set j (q1, q2, q3))).l.getD k 0 = if k / 16 = j then (bsQ (q1, q2, q3)).getD (k % 16) 0 else 0 := fun k hk => one_at (q := (q1, q2, q3)) hr j k hk
    have HQB := Lib.hid (bytes_any hq)
    have HEM := Lib.hid (L.empty (zp8.set j (q1, q2, q3)))
    rw [hE] at HEM
    generalize zp8.set j (q1, q2, q3) = K at *
    have hn5 : Hid (Blk (w5.alloc (.cells zsec.cs.toArray 23)) w5.heap.size 23 zsec.cs.toArray) := Blk.new _ _ _
    generalize w2.heap.size = gl at *
    have hl5 := H5.out.1.lt
    have hl6 := H5.out.2.1.lt
    go_wp2_with (first
      | (with_reducible refine st_sec rfl _ _ rfl w5.heap.size 0 (nbS K) rfl rfl hn5.out.secHas ?_
         intro w6 hw6
         have H6 : Hid (Blk w6 w.heap.size 30 #[.int .i64 q1, .int .u64 q2, .int .u32 q3] ∧ Blk w6 gl 31 K.cs.toArray ∧ Blk w6 w5.heap.size 23 (nbS K).cs.toArray ∧ Below w.heap.size w w6) := by
           have hb := (Below.refl w5.heap.size w5).alloc (Nat.le_refl _) (.cells zsec.cs.toArray 23)
           have hb' : Below w5.heap.size w5 ((w5.alloc (.cells zsec.cs.toArray 23)).setCells w5.heap.size 0 (nbS K).cs) := Below.setCells _ (Nat.le_refl _) _ _ hb
           rw [hw6.out]
           exact ⟨H5.out.1.below hb' hl5, H5.out.2.1.below hb' hl6, hn5.out.secAll _, H5.out.2.2.trans (hb'.mono H5.out.2.2.size)⟩
         clear hw6)
      | (refine wpList_val (by rfl) _ (ex_ldPq (.tmp 3) rfl w.heap.size q1 q2 q3 rfl H6.out.1) ?_))
    refine Calls.mono (HQB.out w6) ?_
    rintro e w7 ⟨A, c, rfl, hrd, hc, hb7⟩
    have H7 := Lib.hid (And.intro (H6.out.1.below hb7 H6.out.1.lt) (And.intro (H6.out.2.1.below hb7 H6.out.2.1.lt) (And.intro (H6.out.2.2.1.below hb7 H6.out.2.2.1.lt) (And.intro (H6.out.2.2.2.trans (hb7.mono H6.out.2.2.2.size)) hrd))))
    obtain ⟨-, -, -, -, -, l16⟩ := back_ptr hq hr
    rw [l16, show bsC q1 q2 q3 = 0 from if_pos hr]
    clear H6 H5 hn5 hrd hb7 HQB
    generalize w5.heap.size = gs at *
    go_upto_region 9 with fail
    have hS1 : Hid ((fun w' => Below w7.heap.size w7 w') w7.drew) := (Below.refl _ _).drew
    refine wp_region_held_drew (S := (fun w' => Below w7.heap.size w7 w')) (by kernel_rfl) hS1.out (fun hHeld => ?_)
    generalize w7.drew = w8 at *
    generalize hB : holeF q1 q2 q3 = B at *
    have HBB := Lib.hid hB
    clear hB
    refine wpAnyH_take (i := 0) (v := (.int .i64 0)) rfl (by kernel_rfl) (by kernel_rfl) (by kernel_rfl) (fun _ _ _ h => h) (Or.inl ⟨by rfl, ?_⟩) (by assumption) ?_
    · intro w' hS; go_simp; try with_reducible rfl
    try simp [Act.put]
    refine wpAnyH_take (i := 1) (v := (.bool false)) rfl (by kernel_rfl) (by kernel_rfl) (by kernel_rfl) (fun _ _ _ h => h) (Or.inl ⟨by rfl, ?_⟩) (by assumption) ?_
    · intro w' hS; go_simp; try with_reducible rfl
    try simp [Act.put]
    refine wpAnyH_take (i := 2) (v := (.bool false)) rfl (by kernel_rfl) (by kernel_rfl) (by kernel_rfl) (fun _ _ _ h => h) (Or.inl ⟨by rfl, ?_⟩) (by assumption) ?_
    · intro w' hS; go_simp; try with_reducible rfl
    try simp [Act.put]
    refine wpAnyH_take (i := 3) (v := (.int .i64 0)) rfl (by kernel_rfl) (by kernel_rfl) (by kernel_rfl) (fun _ _ _ h => h) (Or.inl ⟨by rfl, ?_⟩) (by assumption) ?_
    · intro w' hS; go_simp; try with_reducible rfl
    try simp [Act.put]
    refine wpAnyH_take (i := 4) (v := (.bool false)) rfl (by kernel_rfl) (by kernel_rfl) (by kernel_rfl) (fun _ _ _ h => h) (Or.inl ⟨by rfl, ?_⟩) (by assumption) ?_
    · intro w' hS; go_simp; try with_reducible rfl
    try simp [Act.put]
    refine wpAnyH_take (i := 5) (v := (.bool false)) rfl (by kernel_rfl) (by kernel_rfl) (by kernel_rfl) (fun _ _ _ h => h) (Or.inl ⟨by rfl, ?_⟩) (by assumption) ?_
    · intro w' hS; go_simp; try with_reducible rfl
    try simp [Act.put]
    refine wpAnyH_take (i := 6) (v := (.bool false)) rfl (by kernel_rfl) (by kernel_rfl) (by kernel_rfl) (fun _ _ _ h => h) (Or.inl ⟨by rfl, ?_⟩) (by assumption) ?_
    · intro w' hS; go_simp; try with_reducible rfl
    try simp [Act.put]
    refine wpAnyH_take (i := 7) (v := (.agg K.cs.toArray)) rfl (by kernel_rfl) (by kernel_rfl) (by kernel_rfl) (fun _ _ _ h => h) (Or.inl ⟨by rfl, ?_⟩) (by assumption) ?_
    · intro w' hS
      exact ex_ldP8 (.tmp 5) rfl gl K rfl (H7.out.2.1.below hS H7.out.2.1.lt)
    try simp [Act.put]
    refine wpAnyH_take (i := 9) (v := (ptv q1 q2 q3)) rfl (by kernel_rfl) (by kernel_rfl) (by kernel_rfl) (fun _ _ _ h => h) (Or.inl ⟨by rfl, ?_⟩) (by assumption) ?_
    · intro w' hS
      exact ex_ldPq (.tmp 3) rfl w.heap.size q1 q2 q3 rfl (H7.out.1.below hS H7.out.1.lt)
    try simp [Act.put]
    refine wpAnyH_take (i := 10) (v := (ptv 0 0 0)) rfl (by kernel_rfl) (by kernel_rfl) (by kernel_rfl) (fun _ _ _ h => h) (Or.inl ⟨by rfl, ?_⟩) (by assumption) ?_
    · intro w' hS; go_simp; try with_reducible rfl
    try simp [Act.put]
    refine wpAnyH_take (i := 11) (v := (.bool B)) rfl (by kernel_rfl) (by kernel_rfl) (by kernel_rfl) (fun _ _ _ h => h) (Or.inl ⟨by rfl, ?_⟩) (by assumption) ?_
    · intro w' hS
      refine (ex_eqPq (.tmp 49) (.tmp 50) rfl (q1, q2, q3) (0, 0, 0) rfl rfl).trans ?_
      rw [← HBB.out]
      rfl
    try simp [Act.put]
    refine wpAnyH_ready (rs := [8]) (by kernel_rfl) (by simp) ?_
    refine AllReadyH.cons rfl (fun K' hK => ?_) AllReadyH.nil
    go_simp
    refine Calls.mono (HEM.out _) ?_
    rintro e wX ⟨rfl, hbX⟩
    have hS2 : Hid ((fun w' => Below w7.heap.size w7 w') wX) := hS1.out.trans (hbX.mono hS1.out.size)
    clear hS1 hbX
    have hS1 := hS2
    clear hS2
    refine hK.out _ _ hS1.out (fun hHeld2 => ?_)
    clear hK K'
    try simp
    clear hHeld
    have hHeld := hHeld2
    clear hHeld2
    refine wpAnyH_take (i := 12) (v := (.bool false)) rfl (by kernel_rfl) (by kernel_rfl) (by kernel_rfl) (fun _ _ _ h => h) (Or.inl ⟨by rfl, ?_⟩) (by assumption) ?_
    · intro w' hS; go_simp; try with_reducible rfl
    try simp [Act.put]
    refine wpAnyH_take (i := 13) (v := (.bool false)) rfl (by kernel_rfl) (by kernel_rfl) (by kernel_rfl) (fun _ _ _ h => h) (Or.inl ⟨by rfl, ?_⟩) (by assumption) ?_
    · intro w' hS; go_simp; try with_reducible rfl
    try simp [Act.put]
    refine wpAnyH_done (by kernel_rfl) ?_ _
    have H8 := Lib.hid (And.intro (H7.out.2.2.1.below hS1.out H7.out.2.2.1.lt) (And.intro (H7.out.2.2.2.1.trans (hS1.out.mono H7.out.2.2.2.1.size)) (And.intro (H7.out.2.2.2.2.below hS1.out) hS1.out.size)))
    clear hHeld hS1 H7 HEM
    go_wp2_with (with_reducible refine ld_sec rfl _ rfl gs 0 (nbS K) rfl H8.out.1.secIs ?_)
    go_loopw [55] (fun i wr => ∃ k : Nat, k ≤ 128 ∧ i = .int .i64 k ∧ wr = wX) (fun i _ => 128 - (intOf i).toNat)
    case atStart => exact ⟨0, by omega, rfl, rfl⟩
    case round =>
      obtain ⟨k, hk, rfl, rfl⟩ := hrel
      by_cases hlt : k < 128
      · have hat' := hat k hlt
        have HI := Lib.hid (fun (o : Oper) (a : Act) (w : World) (ho : o.op = .index 23 (.tmp 54) (.tmp 55)) => ex_ixS (o := o) (a := a) (w := w) (.tmp 54) (.tmp 55) ho (nbS K) k hlt)
        have hkl : (k : Int) < 128 := by omega
        by_cases hkj : k / 16 = j
        · rw [if_pos hkj] at hat'
          obtain ⟨b, off, rfl, hbB, hc1⟩ := by_at H8.out.2.2.1 (k % 16) (by omega)
          rw [show (bsQ (q1, q2, q3)).getD (k % 16) 0 = (bsF q1 q2 q3)[k % 16]'(by omega) by
            show (bsF q1 q2 q3).getD (k % 16) 0 = _
            simp [List.getD, show k % 16 < (bsF q1 q2 q3).length by omega]] at hat'
          rw [hat'] at HI
          generalize (bsF q1 q2 q3)[k % 16]'(by omega) = x at *
          go_wp2_with (refine wpList_val (by rfl) _ (HI.out _ _ _ rfl rfl rfl) ?_)
          go_roundw
          case rel => exact ⟨k + 1, hlt, by go_num, trivial⟩
          case measure => simp [intOf]; omega
        · rw [if_neg hkj] at hat'
          rw [hat'] at HI
          go_wp2_with (refine wpList_val (by rfl) _ (HI.out _ _ _ rfl rfl rfl) ?_)
          go_roundw
          case rel => exact ⟨k + 1, hlt, by go_num, trivial⟩
          case measure => simp [intOf]; omega
      · obtain rfl : k = 128 := by omega
        go_wp2_with fail
        go_ret
        exact ⟨rfl, H8.out.2.1⟩
end Go.Proofs.Ytgbghmgipnphkaa
