/- The node's calls: Read (of a node as one may write it). -/
import Derived.Test.YtgbghmgipnphkaaH14
set_option maxRecDepth 10000
namespace Go.Proofs.Ytgbghmgipnphkaa
open Go.RowKit

theorem run_cut8m (g k : Nat) (hk : k < 8) (w : World) :
    (Instr.sliceAt 23 (.pointer (some ⟨g, 0, none⟩)) (some (.int .i64 ((k : Int) * 16))) (some (.int .i64 (((k : Int) + 1) * 16))) none).run Try.prog w = .ok (.slice (some ⟨g, 16 * k, none⟩) 16 (128 - 16 * k)) w := by
  rw [show (k : Int) * 16 = 16 * (k : Int) by omega, show ((k : Int) + 1) * 16 = 16 * (k : Int) + 16 by omega]
  exact run_cut8 g k hk w
set_option maxHeartbeats 2000000 in
theorem nnread_any (s : Sec) (w : World) : Calls Try.prog 16 #[.agg s.cs.toArray] w fun e w' => e = .returned (.tuple #[.agg (nrP s).cs.toArray, .int .i64 (nrC s)]) ∧ Below w.heap.size w w' := by
  have hz : ∀ w, Sem.run Try.prog (zeroValue 31) w = .ok (.agg zp8.cs.toArray) w := zeroP8
  go_enter Try.func16, Try.ntmps16
  have hbl : Blk (((w.alloc (.cells s.cs.toArray 23)).alloc (.cells zp8.cs.toArray 31)).alloc (.cells zp8.cs.toArray 31)) w.heap.size 23 s.cs.toArray := (Blk.new w _ _).below (B := w.heap.size + 1) (((Below.refl _ _).alloc (by simp) _).alloc (by simp) _) (by omega)
  have hbz : Blk (((w.alloc (.cells s.cs.toArray 23)).alloc (.cells zp8.cs.toArray 31)).alloc (.cells zp8.cs.toArray 31)) (w.heap.size + 1) 31 zp8.cs.toArray := by
    have h := Blk.new (w.alloc (.cells s.cs.toArray 23)) 31 zp8.cs.toArray
    rw [show (w.alloc (.cells s.cs.toArray 23)).heap.size = w.heap.size + 1 by simp] at h
    exact h.below (B := w.heap.size + 2) ((Below.refl _ _).alloc (by simp) _) (by omega)
  have hbs : Blk (((w.alloc (.cells s.cs.toArray 23)).alloc (.cells zp8.cs.toArray 31)).alloc (.cells zp8.cs.toArray 31)) (w.heap.size + 2) 31 zp8.cs.toArray := by
    have h := Blk.new ((w.alloc (.cells s.cs.toArray 23)).alloc (.cells zp8.cs.toArray 31)) 31 zp8.cs.toArray
    rw [show ((w.alloc (.cells s.cs.toArray 23)).alloc (.cells zp8.cs.toArray 31)).heap.size = w.heap.size + 2 by simp] at h
    exact h
  have hb0 : Below w.heap.size w (((w.alloc (.cells s.cs.toArray 23)).alloc (.cells zp8.cs.toArray 31)).alloc (.cells zp8.cs.toArray 31)) := (((Below.refl _ _).alloc (Nat.le_refl _) _).alloc (by simp) _).alloc (by simp; omega) _
  have HB2 := Lib.hid (And.intro hbl (And.intro hbz (And.intro hbs hb0)))
  clear hbl hbz hbs hb0
  go_wp2_with fail
  go_loopw [8] (fun i wr => ∃ k : Nat, k ≤ 8 ∧ i = .int .i64 k ∧ ((List.range k).all fun j => okF (part8 s j)) = true ∧ Blk wr w.heap.size 23 s.cs.toArray ∧ Blk wr (w.heap.size + 1) 31 zp8.cs.toArray ∧ Blk wr (w.heap.size + 2) 31 (setsK s k).cs.toArray ∧ Below w.heap.size w wr) (fun i _ => 8 - (intOf i).toNat)
  case atStart => exact ⟨0, by omega, rfl, rfl, HB2.out.1, HB2.out.2.1, HB2.out.2.2.1, HB2.out.2.2.2⟩
  case round =>
    clear HB2
    obtain ⟨k, hk, rfl, hall, hbl, hbz, hbs, hb⟩ := hrel
    by_cases hlt : k < 8
    · have hcut := run_cut8m w.heap.size k hlt
      have hst := ok_upto s k
      rw [hall, Bool.true_and] at hst
      have hno := fun h => okP_no (s := s) (k := k) hlt h
      have hsz := hbs.lt
      have HR : Hid (Calls Try.prog 23 #[.slice (some ⟨w.heap.size, 16 * k, none⟩) 16 (128 - 16 * k)] wr fun e w' => e = .returned (.tuple #[ptq (rdQ (part8 s k)), .int .i64 (rdC (part8 s k))]) ∧ Below wr.heap.size wr w') := by
        have h := read_any (some ⟨w.heap.size, 16 * k, none⟩) (128 - 16 * k) (part8 s k) (by rw [part8_len s k hlt]; omega) wr (hbl.part k)
        rw [part8_len s k hlt] at h
        exact h
      have HB3 := Lib.hid (And.intro hbl (And.intro hbz (And.intro hbs hb)))
      have hk8 : (k : Int) < 8 := by omega
      have hk0 : (0 : Int) ≤ (k : Int) := by omega
      clear hbl hbz hbs hb hall
      go_wp2_with fail
      refine Calls.mono HR.out ?_
      rintro e w4 ⟨rfl, hb4⟩
      have HB4 := Lib.hid (And.intro (HB3.out.1.below hb4 HB3.out.1.lt) (And.intro (HB3.out.2.1.below hb4 HB3.out.2.1.lt) (And.intro (HB3.out.2.2.1.below hb4 HB3.out.2.2.1.lt) (HB3.out.2.2.2.trans (hb4.mono HB3.out.2.2.2.size)))))
      clear HR HB3 hb4 hcut
      have hz : ∀ w, Sem.run Try.prog (zeroValue 30) w = .ok (ptv 0 0 0) w := zeroPtr8
      have hb5 : Below w4.heap.size w4 (w4.alloc (.cells (pcs (rdQ (part8 s k)).1 (rdQ (part8 s k)).2.1 (rdQ (part8 s k)).2.2) 30)) := (Below.refl _ _).alloc (Nat.le_refl _) _
      have HB5 := Lib.hid (And.intro (HB4.out.1.below hb5 HB4.out.1.lt) (And.intro (HB4.out.2.1.below hb5 HB4.out.2.1.lt) (And.intro (HB4.out.2.2.1.below hb5 HB4.out.2.2.1.lt) (And.intro (HB4.out.2.2.2.trans (hb5.mono HB4.out.2.2.2.size)) (Blk.new w4 30 (pcs (rdQ (part8 s k)).1 (rdQ (part8 s k)).2.1 (rdQ (part8 s k)).2.2))))))
      clear HB4 hb5
      cases hx : okF (part8 s k) with
      | true =>
        rw [hx] at hst
        rw [(rd_yes hx).2.2.2]
        have HS := Lib.hid hst
        clear hst hno hx
        generalize hq : rdQ (part8 s k) = q at *
        have HQ := Lib.hid hq
        clear hq
        go_wp2_with (first
          | (refine wpList_val (by rfl) _ (ex_ldPq (.tmp 6) rfl w4.heap.size q.1 q.2.1 q.2.2 rfl HB5.out.2.2.2.2) ?_)
          | ((with_reducible refine st_pq rfl _ _ rfl (w.heap.size + 2) (k * 3) q rfl rfl (HB5.out.2.2.1.p8There k hlt) ?_); intro w6 hw6))
        go_roundw
        case rel =>
          have hbb : Below (w.heap.size + 2) (w4.alloc (.cells (pcs q.1 q.2.1 q.2.2) 30)) w6 := by rw [hw6.out]; exact Below.setCells _ (Nat.le_refl _) _ _ (Below.refl _ _)
          exact ⟨k + 1, hlt, by go_num, HS.out, HB5.out.1.below hbb (by omega), HB5.out.2.1.below hbb (by omega), by
            show Blk w6 (w.heap.size + 2) _ ((setsK s k).set k (rdQ (part8 s k))).cs.toArray
            rw [HQ.out, hw6.out]
            exact HB5.out.2.2.1.p8Set k hlt q, HB5.out.2.2.2.1.trans (hbb.mono (by omega))⟩
        case measure => simp [intOf]; omega
      | false =>
        have HE := Lib.hid (hno hx)
        rw [(rd_no hx).2.2.2]
        clear hst hno hx
        generalize rdQ (part8 s k) = q at *
        go_wp2_with (first
          | (refine wpList_valD 23 rfl _ (ex_buildP8 rfl) (by rfl) ?_)
          | ((with_reducible refine st_p8 rfl _ _ rfl (w.heap.size + 1) 0 zp8 rfl rfl HB5.out.2.1.p8Has ?_); intro w6 hw6))
        have hb6 : Blk w6 (w.heap.size + 1) 31 zp8.cs.toArray := by rw [hw6.out]; exact HB5.out.2.1.p8All zp8
        have hbb : Below w.heap.size w w6 := by rw [hw6.out]; exact Below.setCells _ (by omega) _ _ HB5.out.2.2.2.1
        refine bodyPost_ret (results_row_tmp (u := 3) rfl _ _ _ _ _ _ _ rfl hb6 Try.underlying31 rfl (sizeP8'' _)) rfl ⟨?_, hbb⟩
        rw [show nrP s = zp8 by unfold nrP; rw [if_neg (by rw [HE.out]; simp)], show nrC s = 51 by unfold nrC; rw [if_neg (by rw [HE.out]; simp)]]
        rfl
    · obtain rfl : k = 8 := by omega
      have hok : okP s = true := hall
      rw [setsK_all hok] at hbs
      have HC : Hid (nrC s = 0) := if_pos hok
      have hsz := hbs.lt
      go_wp2_with (first
        | (with_reducible refine ld_p8 rfl _ rfl (w.heap.size + 2) 0 (nrP s) rfl hbs.p8Is ?_)
        | ((with_reducible refine st_p8 rfl _ _ rfl (w.heap.size + 1) 0 (nrP s) rfl rfl hbz.p8Has ?_); intro w6 hw6))
      have hb6 : Blk w6 (w.heap.size + 1) 31 (nrP s).cs.toArray := by rw [hw6.out]; exact hbz.p8All _
      have hbb : Below w.heap.size w w6 := by rw [hw6.out]; exact Below.setCells _ (by omega) _ _ hb
      refine bodyPost_ret (results_row_tmp (u := 3) rfl _ _ _ _ _ _ _ rfl hb6 Try.underlying31 rfl (sizeP8'' _)) rfl ⟨?_, hbb⟩
      rw [HC.out]
      rfl
end Go.Proofs.Ytgbghmgipnphkaa
