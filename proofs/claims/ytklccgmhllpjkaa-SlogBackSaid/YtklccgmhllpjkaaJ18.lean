/- The program's Bytes. -/
import Derived.Test.YtklccgmhllpjkaaJ17
import Derived.Test.YtklccgmhllpjkaaF4
import Derived.Laws.MakeOwn
set_option maxRecDepth 10000
namespace Go.Proofs.Ytklccgmhllpjkaa
open Go.RowKit

theorem make_bysC (s : Nat) (hs : s ≤ 1000000) : ∃ cs : Array Value, cs.size = s ∧ ∀ W : World, (Instr.makeSlice 35 (.int .i64 0) (.int .i64 (s : Int))).run Try.prog W = .ok (.slice (some ⟨W.heap.size, 0, none⟩) 0 s) (W.alloc (.cells cs 5)) := by
  obtain ⟨i0, hi0, hz0, hz2, hz3⟩ := info_parts infoByte
  refine ⟨madeCells (Value.int .u8 0).cells (s * i0.size), by rw [size_madeCells, hz2, Nat.mul_one], fun W => ?_⟩
  have h := run_make (P := Try.prog) W 35 5 i0 _ Try.underlying35 hi0 hz0 .i64 .i64 0 s (Int.le_refl _) (by omega) (by rw [hz3]; omega) (by omega)
  simpa using h
theorem made_BInv (w : World) (s : Nat) (cs : Array Value) (hs : cs.size = s) (hm : s ≤ 1000000) : BInv w (w.alloc (.cells cs 5)) w.heap.size (.slice (some ⟨w.heap.size, 0, none⟩) 0 s) [] :=
  ⟨World.ownsRow_made w cs s (Nat.le_refl _) (by simp only [maxLen]; omega) (by rw [hs, Nat.mul_one]), (Below.refl _ _).alloc (Nat.le_refl _) _, by simp⟩
theorem u8_mod (n : Nat) : u8 (n % 256) = u8 n := UInt8.toNat_inj.1 (by
  have h1 := u8_nat (n % 256)
  have h2 := u8_nat n
  omega)
theorem put_mv (t : Bool) (s n : Nat) (hs : s ≤ 4096) (hn : n ≤ 4096) : putF ws5 [flagN t, s, n] = some (mvB ⟨t, s, n⟩) := by
  have e2 : ∀ k : Nat, k ≤ 4096 → bytesF 2 k = [u8 (k % 256), u8 (k / 256)] := fun k _ => by
    show [u8 k, u8 (k / 256)] = _
    rw [u8_mod]
  have e1 : bytesF 1 (flagN t) = [u8 (if t then 1 else 0)] := rfl
  have hf : flagN t < 256 ^ 1 := by cases t <;> decide
  unfold ws5 putF
  rw [if_pos ⟨by decide, by decide, hf⟩]
  unfold putF
  rw [if_pos ⟨by decide, by decide, by show s < 65536; omega⟩]
  unfold putF
  rw [if_pos ⟨by decide, by decide, by show n < 65536; omega⟩]
  show some (bytesF 1 (flagN t) ++ (bytesF 2 s ++ (bytesF 2 n ++ []))) = _
  rw [e1, e2 s hs, e2 n hn]
  rfl
theorem BInv.all {w wr w' : World} {base : Nat} {v v' : Value} {l bs : List UInt8} (h : BInv w wr base v l) (ho : w'.ownsRow base 5 1 v' (l.length + bs.length) (bys l ++ bys bs)) (hg : wr.grownBy w' v.ownBlock) : BInv w w' base v' (l ++ bs) :=
  ⟨ownB_app ho, below_own h.below h.own (Nat.le_refl _) h.le hg, Nat.le_trans h.le hg.size⟩
theorem wrapU {n : Nat} (h : n ≤ 4096) : IntKind.u64.wrap (n : Int) = n := by
  simp [IntKind.wrap, IntKind.signed, IntKind.bits]; omega
set_option maxHeartbeats 4000000 in
theorem bytes_any (A : Option Addr) (c : Nat) (ms : List Mv) (w : World) (h : MvL w A c ms) :
    Calls Try.prog 18 #[.slice A ms.length c] w (PostB (bytesM ms) w) := by
  by_cases h4 : ms.length ≤ 4096
  · obtain ⟨cs, hcs, hmk⟩ := make_bysC (5 * ms.length) (by omega)
    have HT := Lib.hid h.rd
    have HMO := Lib.hid h.ok
    have HN := Lib.hid (made_BInv w (5 * ms.length) cs hcs (by omega))
    have H4 := Lib.hid h4
    have h4i : (ms.length : Int) ≤ 4096 := by omega
    have e5 : ((5 * ms.length : Nat) : Int) = 5 * (ms.length : Int) := by omega
    rw [e5] at hmk
    clear h h4 hcs e5
    have hzm : ∀ w, Sem.run Try.prog (zeroValue 54) w = .ok (.agg zmv.cs.toArray) w := zeroMv
    go_enter Try.func18, Try.ntmps18
    go_wp2_with fail
    clear hmk
    generalize hbase : w.heap.size = base at *
    have HB := Lib.hid hbase
    clear hbase
    go_loopw [18, 4] (fun i v wr => ∃ (k : Nat), k ≤ ms.length ∧ i = .int .i64 (k : Int) ∧ (ms.take k).all rightM = true ∧ BInv w wr base v (mvsB (ms.take k))) (fun i _ _ => ms.length - (intOf i).toNat)
    case atStart => exact ⟨0, Nat.zero_le _, rfl, rfl, HN.out⟩
    case round =>
      clear HN
      obtain ⟨k, hk, rfl, hA, hI⟩ := hrel
      have HI := Lib.hid hI
      have HA := Lib.hid hA
      clear hI hA
      by_cases hlt : k < ms.length
      · have hki : (k : Int) < ms.length := by omega
        obtain ⟨b, off, rfl, hbl, hr⟩ := HT.out.mv k hlt
        have HRM : Hid (wr.rangeAt b (off + k * 3) ms[k].cs) := fun j v hj => (HI.out.below.cell (p := ⟨b, off + k * 3 + j, none⟩) hbl).trans (hr j v hj)
        have HJ := Lib.hid (pright_any ms[k] (HMO.out _ (List.getElem_mem hlt)))
        have HK := Lib.hid hlt
        have HTK : Hid (ms.take (k + 1) = ms.take k ++ [ms[k]]) := Lib.hid (List.take_succ_eq_append_getElem hlt)
        have HNO := Lib.hid (not_all hlt)
        have HAL := Lib.hid (all_take hlt HA.out)
        generalize ms[k] = m at *
        obtain ⟨t, s0, n0⟩ := m
        clear hr hbl hk hlt
        cases hrm : rightM ⟨t, s0, n0⟩ with
        | false =>
          rw [hrm] at HJ
          have HE := Lib.hid (HNO.out hrm)
          clear hrm HNO HAL
          go_wp2_with (first
            | (with_reducible refine ld_mv rfl _ rfl b (off + k * 3) ⟨t, s0, n0⟩ rfl HRM.out ?_)
            | (with_reducible refine st_mv rfl _ _ rfl wr.heap.size 0 ⟨t, s0, n0⟩ rfl rfl (Blk.mvHas (m := zmv) (Blk.new wr _ _)) ?_; intro w4 hw4
               have HI4 := Lib.hid (HI.out.fresh (new_mv hw4.out).2)
               have HM4 := Lib.hid (new_mv hw4.out).1)
            | (with_reducible refine ld_mv rfl _ rfl wr.heap.size 0 ⟨t, s0, n0⟩ rfl HM4.out.mvIs ?_)
            | (go_at_call 25; (with_reducible refine Calls.mono (HJ.out _) ?_); rintro e w5 ⟨rfl, hb5⟩; have HI5 := Lib.hid (HI4.out.fresh hb5); clear hb5))
          go_ret2
          rw [HE.out]
          have HB := HB.out
          subst HB
          exact postB_none rfl HI5.out.below
        | true =>
          rw [hrm] at HJ
          obtain ⟨hm0, hm1, hm2⟩ := rightM_iff.1 hrm
          have HAM := Lib.hid (HAL.out hrm)
          simp only at hm0 hm1 hm2
          clear hrm HNO HAL
          obtain ⟨s, rfl⟩ := Int.eq_ofNat_of_zero_le hm0
          obtain ⟨n, rfl⟩ := Int.eq_ofNat_of_zero_le (show 0 ≤ n0 by omega)
          have HPM := Lib.hid (put_mv t s n (by omega) (by omega))
          have hws := wrapU (show s ≤ 4096 by omega)
          have hwn := wrapU (show n ≤ 4096 by omega)
          have HNN : Hid (∀ x ∈ [flagN t, s, n], x < 18446744073709551616) := fun x hx => by
            have hf : flagN t < 256 := by cases t <;> decide
            simp only [List.mem_cons, List.not_mem_nil, or_false] at hx
            omega
          clear hm0 hm1 hm2
          go_upto_region 9 with (first
            | (with_reducible refine ld_mv rfl _ rfl b (off + k * 3) ⟨t, (s : Int), (n : Int)⟩ rfl HRM.out ?_)
            | (with_reducible refine st_mv rfl _ _ rfl wr.heap.size 0 ⟨t, (s : Int), (n : Int)⟩ rfl rfl (Blk.mvHas (m := zmv) (Blk.new wr _ _)) ?_; intro w4 hw4
               have HI4 := Lib.hid (HI.out.fresh (new_mv hw4.out).2)
               have HM4 := Lib.hid (new_mv hw4.out).1)
            | (with_reducible refine ld_mv rfl _ rfl wr.heap.size 0 ⟨t, (s : Int), (n : Int)⟩ rfl HM4.out.mvIs ?_)
            | (go_at_call 25; (with_reducible refine Calls.mono (HJ.out _) ?_); rintro e w5 ⟨rfl, hb5⟩
               have HI5 := Lib.hid (HI4.out.fresh hb5)
               have HM5 := Lib.hid (HM4.out.below hb5 HM4.out.lt)
               clear hb5))
          have HI6 : Hid (BInv w w5.drew base _ (mvsB (ms.take k))) := HI5.out.fresh (Below.refl _ _).drew
          have HM6 : Hid (Blk w5.drew wr.heap.size 54 (Mv.cs ⟨t, (s : Int), (n : Int)⟩).toArray) := HM5.out.below (Below.refl _ _).drew HM5.out.lt
          clear HI HRM HI4 HM4 HJ hw4 HI5 HM5
          generalize wr.heap.size = g8 at *
          refine wp_region_held_drew (S := (fun w' => Blk w' g8 54 (Mv.cs ⟨t, (s : Int), (n : Int)⟩).toArray)) (by kernel_rfl) HM6.out (fun hHeld => ?_)
          generalize w5.drew = w6 at *
          refine wpAnyH_take (i := 1) (v := (.pointer (some ⟨g8, 0, none⟩))) rfl (by kernel_rfl) (by kernel_rfl) (by kernel_rfl) (fun _ _ _ h => h) (Or.inl ⟨by rfl, ?_⟩) (by assumption) ?_
          · intro w' hS; go_simp; try with_reducible rfl
          try simp [Act.put]
          refine wpAnyH_take (i := 2) (v := (.bool t)) rfl (by kernel_rfl) (by kernel_rfl) (by kernel_rfl) (fun _ _ _ h => h) (Or.inl ⟨by rfl, ?_⟩) (by assumption) ?_
          · intro w' hS
            have hcc := (Blk.mvF hS).1
            go_simp; try with_reducible rfl
          try simp [Act.put]
          refine wpAnyH_take (i := 4) (v := (.pointer (some ⟨g8, 1, none⟩))) rfl (by kernel_rfl) (by kernel_rfl) (by kernel_rfl) (fun _ _ _ h => h) (Or.inl ⟨by rfl, ?_⟩) (by assumption) ?_
          · intro w' hS; go_simp; try with_reducible rfl
          try simp [Act.put]
          refine wpAnyH_take (i := 5) (v := (.pointer (some ⟨g8, 1, none⟩))) rfl (by kernel_rfl) (by kernel_rfl) (by kernel_rfl) (fun _ _ _ h => h) (Or.inl ⟨by rfl, ?_⟩) (by assumption) ?_
          · intro w' hS; go_simp; try with_reducible rfl
          try simp [Act.put]
          refine wpAnyH_take (i := 6) (v := (.int .i64 (s : Int))) rfl (by kernel_rfl) (by kernel_rfl) (by kernel_rfl) (fun _ _ _ h => h) (Or.inl ⟨by rfl, ?_⟩) (by assumption) ?_
          · intro w' hS
            have hcc := (Blk.mvF hS).2.1
            go_simp; try with_reducible rfl
          try simp [Act.put]
          refine wpAnyH_take (i := 7) (v := (.int .u64 (s : Int))) rfl (by kernel_rfl) (by kernel_rfl) (by kernel_rfl) (fun _ _ _ h => h) (Or.inl ⟨by rfl, ?_⟩) (by assumption) ?_
          · intro w' hS; go_simp; try with_reducible rfl
          try simp [Act.put]
          refine wpAnyH_take (i := 8) (v := (.pointer (some ⟨g8, 1, none⟩))) rfl (by kernel_rfl) (by kernel_rfl) (by kernel_rfl) (fun _ _ _ h => h) (Or.inl ⟨by rfl, ?_⟩) (by assumption) ?_
          · intro w' hS; go_simp; try with_reducible rfl
          try simp [Act.put]
          refine wpAnyH_take (i := 9) (v := (.pointer (some ⟨g8, 2, none⟩))) rfl (by kernel_rfl) (by kernel_rfl) (by kernel_rfl) (fun _ _ _ h => h) (Or.inl ⟨by rfl, ?_⟩) (by assumption) ?_
          · intro w' hS; go_simp; try with_reducible rfl
          try simp [Act.put]
          refine wpAnyH_take (i := 10) (v := (.int .i64 (n : Int))) rfl (by kernel_rfl) (by kernel_rfl) (by kernel_rfl) (fun _ _ _ h => h) (Or.inl ⟨by rfl, ?_⟩) (by assumption) ?_
          · intro w' hS
            have hcc := (Blk.mvF hS).2.2
            go_simp; try with_reducible rfl
          try simp [Act.put]
          refine wpAnyH_take (i := 11) (v := (.int .u64 (n : Int))) rfl (by kernel_rfl) (by kernel_rfl) (by kernel_rfl) (fun _ _ _ h => h) (Or.inl ⟨by rfl, ?_⟩) (by assumption) ?_
          · intro w' hS; go_simp; try with_reducible rfl
          try simp [Act.put]
          refine wpAnyH_ready (rs := [0]) (by kernel_rfl) (by simp) ?_
          refine AllReadyH.cons rfl (fun K hK => ?_) AllReadyH.nil
          go_simp
          refine Calls.mono (widths_any w6) ?_
          rintro e w7 ⟨gw, rfl, hrw, hbw⟩
          have HI7 := Lib.hid (HI6.out.fresh hbw)
          have HM7 := Lib.hid (HM6.out.below hbw HM6.out.lt)
          have HRW := Lib.hid hrw
          refine hK.out _ _ HM7.out (fun hHeld2 => ?_)
          clear hK K hbw hrw HI6 HM6
          try simp
          clear hHeld
          have hHeld := hHeld2
          clear hHeld2
          refine wpAnyH_ready (rs := [3]) (by kernel_rfl) (by simp) ?_
          refine AllReadyH.cons rfl (fun K hK => ?_) AllReadyH.nil
          go_simp
          refine Calls.mono (flag_any t w7) ?_
          rintro e wX ⟨rfl, hwX⟩
          rw [hwX]
          clear hwX wX
          refine hK.out _ _ HM7.out (fun hHeld2 => ?_)
          clear hK K
          try simp
          clear hHeld
          have hHeld := hHeld2
          clear hHeld2
          refine wpAnyH_ready (rs := [12]) (by kernel_rfl) (by simp) ?_
          refine AllReadyH.cons rfl (fun K hK => ?_) AllReadyH.nil
          go_simp
          have HB8 := Lib.hid (below_al w7 (.cells #[.int .u64 (flagN t : Int), .int .u64 (s : Int), .int .u64 (n : Int)] 66))
          have HM8 := Lib.hid (HM7.out.below HB8.out HM7.out.lt)
          have HI8 := Lib.hid (HI7.out.fresh HB8.out)
          have HRN : Hid (Rd (w7.alloc (.cells #[.int .u64 (flagN t : Int), .int .u64 (s : Int), .int .u64 (n : Int)] 66)) _ (some ⟨w7.heap.size, 0, none⟩) (uns [flagN t, s, n])) := rd_new w7 #[.int .u64 (flagN t : Int), .int .u64 (s : Int), .int .u64 (n : Int)] 66
          have HRW8 := Lib.hid ((HRW.out.below HB8.out).mono HB8.out.size)
          refine hK.out _ _ HM8.out (fun hHeld2 => ?_)
          clear hK K HI7 HM7 HB8 HRW
          generalize w7.alloc (.cells #[.int .u64 (flagN t : Int), .int .u64 (s : Int), .int .u64 (n : Int)] 66) = w8 at *
          generalize w7.heap.size = gn at *
          try simp
          clear hHeld
          have hHeld := hHeld2
          clear hHeld2
          refine wpAnyH_ready (rs := [13]) (by kernel_rfl) (by simp) ?_
          refine AllReadyH.cons rfl (fun K hK => ?_) AllReadyH.nil
          go_simp
          refine Calls.mono (put_any (some ⟨gw, 0, none⟩) (some ⟨gn, 0, none⟩) 3 3 ws5 [flagN t, s, n] w8 HRW8.out HRN.out HNN.out (by decide)) ?_
          rintro e w9 ⟨A9, c9, rfl, hr9, hl9, hb9⟩
          rw [HPM.out] at hr9 hl9 ⊢
          have HI9 := Lib.hid (HI8.out.fresh hb9)
          have HR9 := Lib.hid (show Rd w9 w9.heap.size A9 (bys (mvB ⟨t, (s : Int), (n : Int)⟩)) from hr9)
          refine hK.out _ _ (HM8.out.below hb9 HM8.out.lt) (fun hHeld2 => ?_)
          clear hK K hr9 hl9 hb9 HI8 HM8 HRN HRW8 HNN HPM
          try simp
          clear hHeld
          have hHeld := hHeld2
          clear hHeld2
          refine wpAnyH_take (i := 14) (v := (.tuple #[.slice A9 5 c9, .int .i64 0])) rfl (by kernel_rfl) (by kernel_rfl) (by kernel_rfl) (fun _ _ _ h => h) (Or.inl ⟨by rfl, ?_⟩) (by assumption) ?_
          · intro w' hS
            go_simp; first | with_reducible rfl | exact ⟨rfl, rfl⟩
          try simp [Act.put]
          refine wpAnyH_take (i := 15) (v := (.slice A9 5 c9)) rfl (by kernel_rfl) (by kernel_rfl) (by kernel_rfl) (fun _ _ _ h => h) (Or.inl ⟨by rfl, ?_⟩) (by assumption) ?_
          · intro w' hS; go_simp; try with_reducible rfl
          try simp [Act.put]
          refine wpAnyH_take (i := 16) (v := (.int .i64 0)) rfl (by kernel_rfl) (by kernel_rfl) (by kernel_rfl) (fun _ _ _ h => h) (Or.inl ⟨by rfl, ?_⟩) (by assumption) ?_
          · intro w' hS; go_simp; try with_reducible rfl
          try simp [Act.put]
          refine wpAnyH_take (i := 17) (v := (.slice A9 5 c9)) rfl (by kernel_rfl) (by kernel_rfl) (by kernel_rfl) (fun _ _ _ h => h) (Or.inl ⟨by rfl, ?_⟩) (by assumption) ?_
          · intro w' hS; go_simp; try with_reducible rfl
          try simp [Act.put]
          refine wpAnyH_take (i := 18) (v := (.int .i64 0)) rfl (by kernel_rfl) (by kernel_rfl) (by kernel_rfl) (fun _ _ _ h => h) (Or.inl ⟨by rfl, ?_⟩) (by assumption) ?_
          · intro w' hS; go_simp; try with_reducible rfl
          try simp [Act.put]
          refine wpAnyH_done (by kernel_rfl) ?_ _
          clear hHeld
          have HL : Hid ((mvsB (ms.take k)).length + 5 ≤ 1000000) := (by exact Nat.le_trans (Nat.add_le_add_right (by rw [mvsB_len, List.length_take]; have := H4.out; omega) 5) (show 20480 + 5 ≤ 1000000 by omega))
          go_wp2_with (at_builtin; refine app_all Try.underlying35 infoByte rfl rfl 42 43 rfl base _ _ _ rfl HI9.out.own _ A9 5 c9 (bys (mvB ⟨t, (s : Int), (n : Int)⟩)) rfl rfl HR9.out bys_one HI9.out.le (by omega) (Nat.le_trans (Nat.le_of_eq (Nat.mul_one _)) (Nat.le_trans HL.out (by omega))) ?_; intro v' w10 ho hg; have HI10 := Lib.hid (HI9.out.all (bs := mvB ⟨t, (s : Int), (n : Int)⟩) ho hg))
          go_roundw
          case rel => exact ⟨k + 1, HK.out, by go_num, HAM.out, by rw [HTK.out, mvsB_snoc]; exact HI10.out⟩
          case measure => have := HK.out; simp [intOf]; omega
      · obtain rfl : k = ms.length := by omega
        rw [List.take_of_length_le (Nat.le_refl _)] at HI HA
        have HE : Hid (bytesM ms = some (mvsB ms)) := if_pos ⟨H4.out, HA.out⟩
        clear hk hlt HA
        have HB := HB.out
        subst HB
        go_wp2_with fail
        go_ret2
        rw [HE.out]
        exact HI.out.gives rfl
  · have h4i : (4096 : Int) < ms.length := by omega
    have HE : Hid (bytesM ms = none) := if_neg fun h => h4 h.1
    rw [HE.out]
    clear h HE h4
    go_enter Try.func18, Try.ntmps18
    go_wp2_with fail
    go_ret2
    exact postB_none rfl (Below.refl _ _)
end Go.Proofs.Ytklccgmhllpjkaa
