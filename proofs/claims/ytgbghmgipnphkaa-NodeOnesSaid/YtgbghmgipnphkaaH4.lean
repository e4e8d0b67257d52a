/- The reference's Read walked. -/
import Derived.Test.YtgbghmgipnphkaaH3
set_option maxRecDepth 10000
namespace Go.Proofs.Ytgbghmgipnphkaa
open Go.RowKit

theorem addr_flat (b off j : Nat) : (⟨b, off, none⟩ : Addr).add j = ⟨b, off + j, none⟩ := by unfold Addr.add; split <;> simp_all
theorem sizeU8 : (Try.prog.info? 5).map (·.size) = some 1 := by kernel_rfl
theorem run_sizeSecE (w : World) : (sizeOf (Try.prog.elem 23)).run Try.prog w = .ok 1 w := by
  obtain ⟨i, hi, hz⟩ := Option.map_eq_some_iff.1 sizeU8
  have he : Try.prog.elem 23 = 5 := by simp [Program.elem, Try.underlying23]
  rw [he]
  simp [sizeOf, typeInfo, hi, hz]
theorem arrLenSec : Try.prog.arrayLen 23 = 128 := by simp [Program.arrayLen, Try.underlying23]
theorem run_cut8 (g k : Nat) (hk : k < 8) (w : World) :
    (Instr.sliceAt 23 (.pointer (some ⟨g, 0, none⟩)) (some (.int .i64 (16 * (k : Int)))) (some (.int .i64 (16 * (k : Int) + 16))) none).run Try.prog w = .ok (.slice (some ⟨g, 16 * k, none⟩) 16 (128 - 16 * k)) w := by
  rw [run_sliceAt_array_lh w _ ⟨g, 0, none⟩ (by simp [Program.arrayLen, Program.elem, Try.underlying23]) .i64 .i64 (16 * (k : Int)) (16 * (k : Int) + 16) (by omega) (by omega) (by rw [arrLenSec]; omega), run_sizeSecE]
  have e1 : (16 * (k : Int)).toNat = 16 * k := by omega
  have e2 : (16 * (k : Int) + 16).toNat = 16 * k + 16 := by omega
  simp only [Result.andThen_ok, slicedAt, arrLenSec, e1, e2, Nat.mul_one]
  rw [if_neg (by omega), show 16 * k + 16 - 16 * k = 16 by omega, addr_flat, Nat.zero_add]
/-- A pointer is stored as one of eight. -/
theorem st_pq {ops : Array Oper} {rest : List Oper} {o : Oper} {a : Act} {w : World} {Q : Exit → Act → World → Prop} (hgd : o.guard = none) (x y : Operand) (ho : o.op = .store 30 x y)
    (b k : Nat) (q : PtrV) (hx : a.eval x = .pointer (some ⟨b, k, none⟩)) (hy : a.eval y = ptq q) (ht : w.there b k 3)
    (h : ∀ w', Hid (w' = w.setCells b k [.int .i64 q.1, .int .u64 q.2.1, .int .u32 q.2.2]) → wpList Try.prog ops Q rest (a.put o.dst undef) w') : wpList Try.prog ops Q (o :: rest) a w :=
  wpList_store_mid hgd _ x y ho b k #[.int .i64 q.1, .int .u64 q.2.1, .int .u32 q.2.2] hx hy ht ptr_size (by simp [Value.oneCell']) (h _ rfl)
def setsK (s : Sec) : Nat → P8
  | 0 => zp8
  | k + 1 => (setsK s k).set k (rdQ (part8 s k))
theorem setsK_at (s : Sec) : ∀ (k j : Nat), j < 8 → (setsK s k).at_ j = if j < k then rdQ (part8 s j) else hole0
  | 0, j, hj => by
    rw [if_neg (by omega)]
    show zp8.l.getD j hole0 = hole0
    simp only [zp8, List.getD, List.getElem?_replicate, if_pos hj]
    rfl
  | k + 1, j, hj => by
    show ((setsK s k).set k (rdQ (part8 s k))).at_ j = _
    rw [P8.set_at _ _ _ _ hj, setsK_at s k j hj]
    by_cases e : k = j
    · subst e
      rw [if_pos rfl, if_pos (by omega)]
    · rw [if_neg e]
      by_cases h : j < k
      · rw [if_pos h, if_pos (by omega)]
      · rw [if_neg h, if_neg (by omega)]
theorem setsK_all {s : Sec} (h : okP s = true) : setsK s 8 = nrP s := by
  refine P8.ext fun j hj => ?_
  rw [setsK_at s 8 j hj, if_pos hj]
  unfold nrP
  rw [if_pos h]
  simp [P8.at_, List.getD, hj]
theorem ok_upto (s : Sec) (k : Nat) : ((List.range (k + 1)).all fun j => okF (part8 s j)) = (((List.range k).all fun j => okF (part8 s j)) && okF (part8 s k)) := by
  rw [List.range_succ, List.all_append]
  simp
theorem okP_no {s : Sec} {k : Nat} (hk : k < 8) (h : okF (part8 s k) = false) : okP s = false := by
  unfold okP
  rw [Bool.eq_false_iff]
  intro e
  have := List.all_eq_true.1 e k (List.mem_range.2 hk)
  rw [h] at this
  cases this
theorem zeroPtr8 (w : World) : Sem.run Try.prog (zeroValue 30) w = .ok (ptv 0 0 0) w := by
  obtain ⟨i, hi⟩ : ∃ i, Try.prog.info? 30 = some i := info_of_underlying Try.underlying30
  have h : (Try.prog.info? 30).map (fun i => i.zero) = some (some (ptv 0 0 0)) := by kernel_rfl
  rw [hi] at h
  simp only [Option.map_some, Option.some.injEq] at h
  simp [zeroValue, typeInfo, hi, h]
theorem Blk.part {w : World} {g : Nat} {t : TypeId} {s : Sec} (h : Blk w g t s.cs.toArray) (k : Nat) : Rd w w.heap.size (some ⟨g, 16 * k, none⟩) (bys (part8 s k)) := fun _ => by
  refine ⟨g, 16 * k, rfl, h.lt, fun j v hv => ?_⟩
  rw [h.cell, List.getElem?_toArray]
  unfold part8 at hv
  rw [← bys_take, ← bys_drop, List.getElem?_take] at hv
  split at hv
  · rw [List.getElem?_drop] at hv
    exact hv
  · cases hv
set_option maxHeartbeats 2000000 in
theorem rnread_any (s : Sec) (w : World) : Calls Try.prog 17 #[.agg s.cs.toArray] w fun e w' => e = .returned (.tuple #[.agg (nrP s).cs.toArray, .int .i64 (nrC s)]) ∧ Below w.heap.size w w' := by
  have hz : ∀ w, Sem.run Try.prog (zeroValue 31) w = .ok (.agg zp8.cs.toArray) w := zeroP8
  go_enter Try.func17, Try.ntmps17
  have hbl : Blk ((w.alloc (.cells s.cs.toArray 23)).alloc (.cells zp8.cs.toArray 31)) w.heap.size 23 s.cs.toArray := (Blk.new w _ _).below (B := w.heap.size + 1) ((Below.refl _ _).alloc (by simp) _) (by omega)
  have hbs : Blk ((w.alloc (.cells s.cs.toArray 23)).alloc (.cells zp8.cs.toArray 31)) (w.heap.size + 1) 31 zp8.cs.toArray := by
    have h := Blk.new (w.alloc (.cells s.cs.toArray 23)) 31 zp8.cs.toArray
    rw [show (w.alloc (.cells s.cs.toArray 23)).heap.size = w.heap.size + 1 by simp] at h
    exact h
  have hb0 : Below w.heap.size w ((w.alloc (.cells s.cs.toArray 23)).alloc (.cells zp8.cs.toArray 31)) := ((Below.refl _ _).alloc (Nat.le_refl _) _).alloc (by simp) _
  have hs2 : ((w.alloc (.cells s.cs.toArray 23)).alloc (.cells zp8.cs.toArray 31)).heap.size = w.heap.size + 2 := by simp
  have H0 := Lib.hid (And.intro hbl (And.intro hbs hb0))
  have HS2 := Lib.hid hs2
  clear hs2
  go_upto_region 1 with fail
  generalize (w.alloc (.cells s.cs.toArray 23)).alloc (.cells zp8.cs.toArray 31) = w1 at *
  clear hbl hbs hb0
  have hn : Hid (Blk (w1.alloc (.cells zp8.cs.toArray 31)) w1.heap.size 31 zp8.cs.toArray) := Blk.new _ _ _
  go_upto_region 2 with (first
    | (refine wpList_valD 8 rfl _ (ex_buildP8 rfl) (by rfl) ?_)
    | ((with_reducible refine st_p8 rfl _ _ rfl w1.heap.size 0 zp8 rfl rfl hn.out.p8Has ?_); intro w2 hw2))
  have hB1 : Blk w2 w1.heap.size 31 zp8.cs.toArray := by rw [hw2.out]; exact hn.out.p8All zp8
  have hbb : Below w1.heap.size w1 w2 := by rw [hw2.out]; exact Below.setCells _ (Nat.le_refl _) _ _ ((Below.refl _ _).alloc (Nat.le_refl _) _)
  have HB2 := Lib.hid (And.intro (H0.out.1.below hbb (by have := HS2.out; omega)) (And.intro (H0.out.2.1.below hbb (by have := HS2.out; omega)) (And.intro hB1 (H0.out.2.2.trans (hbb.mono H0.out.2.2.size)))))
  clear hw2 hn hB1 hbb H0
  rw [HS2.out] at HB2
  have HZ := Lib.hid hz
  clear hz
  rw [HS2.out]
  clear HS2
  go_wp2_with fail
  go_loopw [5] (fun i wr => ∃ k : Nat, k ≤ 8 ∧ i = .int .i64 k ∧ ((List.range k).all fun j => okF (part8 s j)) = true ∧ Blk wr w.heap.size 23 s.cs.toArray ∧ Blk wr (w.heap.size + 1) 31 zp8.cs.toArray ∧ Blk wr (w.heap.size + 2) 31 (setsK s k).cs.toArray ∧ Below w.heap.size w wr) (fun i _ => 8 - (intOf i).toNat)
  case atStart => exact ⟨0, by omega, rfl, rfl, HB2.out.1, HB2.out.2.1, HB2.out.2.2.1, HB2.out.2.2.2⟩
  case round =>
    clear HB2
    obtain ⟨k, hk, rfl, hall, hbl, hbz, hbs, hb⟩ := hrel
    by_cases hlt : k < 8
    · have hcut := run_cut8 w.heap.size k hlt
      have hst := ok_upto s k
      rw [hall, Bool.true_and] at hst
      have hno := fun h => okP_no (s := s) (k := k) hlt h
      have hsz := hbs.lt
      have hpl := part8_len s k hlt
      have hb1 : Below wr.heap.size wr (wr.alloc (.cells #[] 5)) := (Below.refl _ _).alloc (Nat.le_refl _) _
      have HB := Lib.hid (And.intro hbl (And.intro hbz (And.intro hbs hb)))
      have HP := Lib.hid (And.intro ((hbl.part k).below hb1) hpl)
      have hk8 : (k : Int) < 8 := by omega
      have hk0 : (0 : Int) ≤ (k : Int) := by omega
      clear hbl hbz hbs hb hall hb1 hpl
      go_wp2_with (at_builtin; refine app_copy rfl 14 20 rfl rfl wr.heap.size (some ⟨w.heap.size, 16 * k, none⟩) 16 16 (128 - 16 * k) (part8 s k) rfl HP.out.2 rfl HP.out.1 (by omega) ?_; intro A3 c3 w3 ho3 hb3)
      have HR : Hid (Calls Try.prog 24 #[.slice A3 16 c3] w3 fun e w' => e = .returned (.tuple #[ptq (rdQ (part8 s k)), .int .i64 (rdC (part8 s k))]) ∧ Below w3.heap.size w3 w') := by
        obtain ⟨A4, c4, e4, h4, h5⟩ := own_rd ho3
        simp only [Value.slice.injEq] at e4
        obtain ⟨rfl, _, rfl⟩ := e4
        have h := rread_any A3 c3 (part8 s k) h5 w3 h4
        rw [HP.out.2] at h
        exact Lib.hid h
      have HB3 := Lib.hid (And.intro (HB.out.1.below hb3 HB.out.1.lt) (And.intro (HB.out.2.1.below hb3 HB.out.2.1.lt) (And.intro (HB.out.2.2.1.below hb3 HB.out.2.2.1.lt) (HB.out.2.2.2.trans (hb3.mono HB.out.2.2.2.size)))))
      clear HB ho3 hb3 hcut
      go_wp2_with fail
      refine Calls.mono HR.out ?_
      rintro e w4 ⟨rfl, hb4⟩
      have HB4 := Lib.hid (And.intro (HB3.out.1.below hb4 HB3.out.1.lt) (And.intro (HB3.out.2.1.below hb4 HB3.out.2.1.lt) (And.intro (HB3.out.2.2.1.below hb4 HB3.out.2.2.1.lt) (HB3.out.2.2.2.trans (hb4.mono HB3.out.2.2.2.size)))))
      clear HR HB3 hb4
      cases hx : okF (part8 s k) with
      | true =>
        rw [hx] at hst
        rw [(rd_yes hx).2.2.2]
        have HS := Lib.hid hst
        have hz : ∀ w, Sem.run Try.prog (zeroValue 30) w = .ok (ptv 0 0 0) w := zeroPtr8
        have hb5 : Below w4.heap.size w4 (w4.alloc (.cells (pcs (rdQ (part8 s k)).1 (rdQ (part8 s k)).2.1 (rdQ (part8 s k)).2.2) 30)) := (Below.refl _ _).alloc (Nat.le_refl _) _
        have HB5 := Lib.hid (And.intro (HB4.out.1.below hb5 HB4.out.1.lt) (And.intro (HB4.out.2.1.below hb5 HB4.out.2.1.lt) (And.intro (HB4.out.2.2.1.below hb5 HB4.out.2.2.1.lt) (HB4.out.2.2.2.trans (hb5.mono HB4.out.2.2.2.size)))))
        clear hst hno hx HB4 hb5
        generalize hq : rdQ (part8 s k) = q at *
        have HQ := Lib.hid hq
        clear hq
        go_wp2_with ((with_reducible refine st_pq rfl _ _ rfl (w.heap.size + 2) (k * 3) q rfl rfl (HB5.out.2.2.1.p8There k hlt) ?_); intro w6 hw6)
        go_roundw
        case rel =>
          have hbb : Below (w.heap.size + 2) (w4.alloc (.cells (pcs q.1 q.2.1 q.2.2) 30)) w6 := by rw [hw6.out]; exact Below.setCells _ (Nat.le_refl _) _ _ (Below.refl _ _)
          exact ⟨k + 1, hlt, by go_num, HS.out, HB5.out.1.below hbb (by omega), HB5.out.2.1.below hbb (by omega), by
            show Blk w6 (w.heap.size + 2) _ ((setsK s k).set k (rdQ (part8 s k))).cs.toArray
            rw [HQ.out, hw6.out]
            exact HB5.out.2.2.1.p8Set k hlt q, HB5.out.2.2.2.trans (hbb.mono (by omega))⟩
        case measure => simp [intOf]; omega
      | false =>
        have HE := Lib.hid (hno hx)
        rw [(rd_no hx).2.2.2]
        have hz : ∀ w, Sem.run Try.prog (zeroValue 30) w = .ok (ptv 0 0 0) w := zeroPtr8
        have hb5 : Below w4.heap.size w4 (w4.alloc (.cells (pcs (rdQ (part8 s k)).1 (rdQ (part8 s k)).2.1 (rdQ (part8 s k)).2.2) 30)) := (Below.refl _ _).alloc (Nat.le_refl _) _
        have HB5 := Lib.hid (And.intro (HB4.out.2.1.below hb5 HB4.out.2.1.lt) (HB4.out.2.2.2.trans (hb5.mono HB4.out.2.2.2.size)))
        clear hst hno hx HB4 hb5
        generalize rdQ (part8 s k) = q at *
        go_wp2_with (first
          | (refine wpList_valD 27 rfl _ (ex_buildP8 rfl) (by rfl) ?_)
          | ((with_reducible refine st_p8 rfl _ _ rfl (w.heap.size + 1) 0 zp8 rfl rfl HB5.out.1.p8Has ?_); intro w6 hw6))
        have hb6 : Blk w6 (w.heap.size + 1) 31 zp8.cs.toArray := by rw [hw6.out]; exact HB5.out.1.p8All zp8
        have hbb : Below w.heap.size w w6 := by rw [hw6.out]; exact Below.setCells _ (by omega) _ _ HB5.out.2
        refine bodyPost_ret (results_row_tmp (u := 3) rfl _ _ _ _ _ _ _ rfl hb6 Try.underlying31 rfl (sizeP8'' _)) rfl ⟨?_, hbb⟩
        rw [show nrP s = zp8 by unfold nrP; rw [if_neg (by rw [HE.out]; simp)], show nrC s = 51 by unfold nrC; rw [if_neg (by rw [HE.out]; simp)]]
        rfl
    · obtain rfl : k = 8 := by omega
      have hok : okP s = true := hall
      rw [setsK_all hok] at hbs
      have HC : Hid (nrC s = 0) := if_pos hok
      have hsz := hbs.lt
      go_wp2_with (first
        | (with_reducible refine ld_p8 rfl _ rfl (w.heap.size + 2) 0 (nrP s) rfl hbs.p8Is ?_)
        | ((with_reducible refine st_p8 rfl _ _ rfl (w.heap.size + 1) 0 (nrP s) rfl rfl hbz.p8Has ?_); intro w6 hw6))
      have hb6 : Blk w6 (w.heap.size + 1) 31 (nrP s).cs.toArray := by rw [hw6.out]; exact hbz.p8All _
      have hbb : Below w.heap.size w w6 := by rw [hw6.out]; exact Below.setCells _ (by omega) _ _ hb
      refine bodyPost_ret (results_row_tmp (u := 3) rfl _ _ _ _ _ _ _ rfl hb6 Try.underlying31 rfl (sizeP8'' _)) rfl ⟨?_, hbb⟩
      rw [HC.out]
      rfl
end Go.Proofs.Ytgbghmgipnphkaa
