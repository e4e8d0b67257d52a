/- NodeBack over the calls' contracts. -/
import Derived.Test.YtgbghmgipnphkaaH10
set_option maxRecDepth 10000
namespace Go.Proofs.Ytgbghmgipnphkaa
open Go.RowKit

set_option maxHeartbeats 2000000 in
theorem nodeBack_any (L : NodeCalls) (p : P8) (hp : p.ok) (s : Sec) (w : World) : Calls Try.prog 6 #[.agg p.cs.toArray, .agg s.cs.toArray] w fun e w' => e = .returned (.bool true) ∧ Below w.heap.size w w' := by
  have HX := Lib.hid (L.bytes p hp)
  have HA := Lib.hid (nodeAlive_any L)
  have HW := Lib.hid (L.newest p hp)
  have hz : ∀ w, Sem.run Try.prog (zeroValue 23) w = .ok (.agg zsec.cs.toArray) w := zeroSec
  have hz8 : ∀ w, Sem.run Try.prog (zeroValue 31) w = .ok (.agg zp8.cs.toArray) w := zeroP8
  go_enter Try.func6, Try.ntmps6
  have h0 : Hid (Blk ((w.alloc (.cells p.cs.toArray 31)).alloc (.cells s.cs.toArray 23)) w.heap.size 31 p.cs.toArray ∧ Blk ((w.alloc (.cells p.cs.toArray 31)).alloc (.cells s.cs.toArray 23)) (w.heap.size + 1) 23 s.cs.toArray ∧ Below w.heap.size w ((w.alloc (.cells p.cs.toArray 31)).alloc (.cells s.cs.toArray 23))) := by
    refine ⟨(Blk.new w _ _).below (B := w.heap.size + 1) ((Below.refl _ _).alloc (by simp) _) (by omega), ?_, ((Below.refl _ _).alloc (Nat.le_refl _) _).alloc (by simp) _⟩
    have h := Blk.new (w.alloc (.cells p.cs.toArray 31)) 23 s.cs.toArray
    rw [show (w.alloc (.cells p.cs.toArray 31)).heap.size = w.heap.size + 1 by simp] at h
    exact h
  go_wp2_with fail
  refine Calls.mono (HA.out _) ?_
  rintro e w1 ⟨rfl, hb1⟩
  have H1 := Lib.hid (And.intro (h0.out.1.below hb1 h0.out.1.lt) (And.intro (h0.out.2.1.below hb1 h0.out.2.1.lt) (h0.out.2.2.trans (hb1.mono h0.out.2.2.size))))
  clear h0 hb1 HA
  go_wp2_with ((with_reducible refine ld_p8 rfl _ rfl w.heap.size 0 p rfl H1.out.1.p8Is ?_))
  refine Calls.mono (HX.out w1) ?_
  rintro e w2 ⟨rfl, hb2⟩
  have H2 := Lib.hid (And.intro (H1.out.1.below hb2 H1.out.1.lt) (And.intro (H1.out.2.1.below hb2 H1.out.2.1.lt) (H1.out.2.2.trans (hb2.mono H1.out.2.2.size))))
  clear H1 hb2 HX
  have hn2 : Hid (Blk (w2.alloc (.cells zsec.cs.toArray 23)) w2.heap.size 23 zsec.cs.toArray) := Blk.new _ _ _
  have hs1 := H2.out.1.lt
  have hs2 := H2.out.2.1.lt
  go_wp2_with (first
             | ((with_reducible refine ld_p8 rfl _ rfl w.heap.size 0 p rfl H3.out.1.p8Is ?_))
             | ((with_reducible refine st_sec rfl _ _ rfl w2.heap.size 0 (nbS p) rfl rfl hn2.out.secHas ?_)
                intro w3 hw3
                have H3 : Hid (Blk w3 w.heap.size 31 p.cs.toArray ∧ Blk w3 (w.heap.size + 1) 23 s.cs.toArray ∧ Blk w3 w2.heap.size 23 (nbS p).cs.toArray ∧ Below w.heap.size w w3) := by
                   have hb := (Below.refl w2.heap.size w2).alloc (Nat.le_refl _) (.cells zsec.cs.toArray 23)
                   have hb' : Below w2.heap.size w2 ((w2.alloc (.cells zsec.cs.toArray 23)).setCells w2.heap.size 0 (nbS p).cs) := Below.setCells _ (Nat.le_refl _) _ _ hb
                   rw [hw3.out]
                   exact ⟨H2.out.1.below hb' hs1, H2.out.2.1.below hb' hs2, hn2.out.secAll _, H2.out.2.2.trans (hb'.mono H2.out.2.2.size)⟩
                clear hw3))
  have hzp := zeroPtr8
  clear H2 hn2
  go_loopw [7, 24] (fun r i wr => ∃ k : Nat, k ≤ 8 ∧ i = .int .i64 k ∧ r = .bool ((p.l.take k).all rightQ) ∧ Blk wr w.heap.size 31 p.cs.toArray ∧ Blk wr (w.heap.size + 1) 23 s.cs.toArray ∧ Blk wr w2.heap.size 23 (nbS p).cs.toArray ∧ Below w.heap.size w wr) (fun _ i _ => 8 - (intOf i).toNat)
  case atStart => exact ⟨0, by omega, rfl, rfl, H3.out⟩
  case round =>
    clear H3
    obtain ⟨k, hk, rfl, rfl, h1, h2, h3, hb⟩ := hrel
    by_cases hlt : k < 8
    · have hkl : k < p.l.length := by rw [p.h]; exact hlt
      have hst : (p.l.take (k + 1)).all rightQ = ((p.l.take k).all rightQ && rightQ (p.at_ k)) := by
        rw [take8 p.l k hkl, List.all_append, at_eq p k hlt]
        simp
      have hss := since_no (newest_le (p := p) k hlt)
      have HI := Lib.hid (fun (o : Oper) (a : Act) (w : World) (ho : o.op = .index 31 (.tmp 23) (.tmp 24)) => ex_ixP8 (o := o) (a := a) (w := w) (.tmp 23) (.tmp 24) ho p k hlt)
      have HR := Lib.hid (right_any (p.at_ k).1 (p.at_ k).2.1 (p.at_ k).2.2)
      have HS := Lib.hid (since_any (p.at_ k).1 (p.at_ k).2.1 (p.at_ k).2.2 (newestF p))
      rw [hss] at HS
      rw [show rightF (p.at_ k).1 (p.at_ k).2.1 (p.at_ k).2.2 = rightQ (p.at_ k) from rfl] at HR
      generalize p.at_ k = q at *
      obtain ⟨q1, q2, q3⟩ := q
      simp only at HR HS HI
      have H1 := Lib.hid (And.intro h1 (And.intro h2 (And.intro h3 hb)))
      have hsz := h3.lt
      have hk8 : (k : Int) < 8 := by omega
      clear h1 h2 h3 hb hss
      rcases hr : (p.l.take k).all rightQ with _ | _
      · rw [hr] at hst
        have HT := Lib.hid hst
        clear hst hr
        have ha := (Below.refl wr.heap.size wr).alloc (Nat.le_refl _) (.cells #[.int .i64 q1, .int .u64 q2, .int .u32 q3] 30)
        have H2 := Lib.hid (And.intro (H1.out.1.below ha H1.out.1.lt) (And.intro (H1.out.2.1.below ha H1.out.2.1.lt) (And.intro (H1.out.2.2.1.below ha H1.out.2.2.1.lt) (And.intro (H1.out.2.2.2.trans (ha.mono H1.out.2.2.2.size)) (Blk.new wr 30 #[.int .i64 q1, .int .u64 q2, .int .u32 q3])))))
        clear H1 ha
        go_upto_region 9 with (refine wpList_val (by rfl) _ (HI.out _ _ _ rfl rfl rfl) ?_)
        have hS1 : Hid ((fun w' => Blk w' w.heap.size 31 p.cs.toArray ∧ Blk w' (w.heap.size + 1) 23 s.cs.toArray ∧ Blk w' w2.heap.size 23 (nbS p).cs.toArray ∧ Below w.heap.size w w' ∧ Blk w' wr.heap.size 30 #[.int .i64 q1, .int .u64 q2, .int .u32 q3]) (World.drew (wr.alloc (.cells #[.int .i64 q1, .int .u64 q2, .int .u32 q3] 30)))) := by
          have hd := (Below.refl (World.heap (wr.alloc (.cells #[.int .i64 q1, .int .u64 q2, .int .u32 q3] 30))).size (wr.alloc (.cells #[.int .i64 q1, .int .u64 q2, .int .u32 q3] 30))).drew
          exact ⟨H2.out.1.below hd H2.out.1.lt, H2.out.2.1.below hd H2.out.2.1.lt, H2.out.2.2.1.below hd H2.out.2.2.1.lt, H2.out.2.2.2.1.trans (hd.mono H2.out.2.2.2.1.size), H2.out.2.2.2.2.below hd H2.out.2.2.2.2.lt⟩
        refine wp_region_held_drew (S := (fun w' => Blk w' w.heap.size 31 p.cs.toArray ∧ Blk w' (w.heap.size + 1) 23 s.cs.toArray ∧ Blk w' w2.heap.size 23 (nbS p).cs.toArray ∧ Below w.heap.size w w' ∧ Blk w' wr.heap.size 30 #[.int .i64 q1, .int .u64 q2, .int .u32 q3])) (by kernel_rfl) hS1.out (fun hHeld => ?_)
        generalize World.drew (wr.alloc (.cells #[.int .i64 q1, .int .u64 q2, .int .u32 q3] 30)) = w5 at *
        refine wpAnyH_take (i := 0) (v := (ptv q1 q2 q3)) rfl (by kernel_rfl) (by kernel_rfl) (by kernel_rfl) (fun _ _ _ h => h) (Or.inl ⟨by rfl, ?_⟩) (by assumption) ?_
        · intro w' hS
          exact ex_ldPq (.tmp 9) rfl wr.heap.size q1 q2 q3 rfl hS.2.2.2.2
        try simp [Act.put]
        refine wpAnyH_take (i := 1) (v := (.agg p.cs.toArray)) rfl (by kernel_rfl) (by kernel_rfl) (by kernel_rfl) (fun _ _ _ h => h) (Or.inl ⟨by rfl, ?_⟩) (by assumption) ?_
        · intro w' hS
          exact ex_ldP8 (.tmp 2) rfl w.heap.size p rfl hS.1
        try simp [Act.put]
        refine wpAnyH_ready (rs := [2]) (by kernel_rfl) (by simp) ?_
        refine AllReadyH.cons rfl (fun K hK => ?_) AllReadyH.nil
        go_simp
        refine Calls.mono (HW.out _) ?_
        rintro e wX ⟨rfl, hbX⟩
        have hS2 : Hid ((fun w' => Blk w' w.heap.size 31 p.cs.toArray ∧ Blk w' (w.heap.size + 1) 23 s.cs.toArray ∧ Blk w' w2.heap.size 23 (nbS p).cs.toArray ∧ Below w.heap.size w w' ∧ Blk w' wr.heap.size 30 #[.int .i64 q1, .int .u64 q2, .int .u32 q3]) wX) := ⟨hS1.out.1.below hbX hS1.out.1.lt, hS1.out.2.1.below hbX hS1.out.2.1.lt, hS1.out.2.2.1.below hbX hS1.out.2.2.1.lt, hS1.out.2.2.2.1.trans (hbX.mono hS1.out.2.2.2.1.size), hS1.out.2.2.2.2.below hbX hS1.out.2.2.2.2.lt⟩
        clear hS1 hbX
        have hS1 := hS2
        clear hS2
        refine hK.out _ _ hS1.out (fun hHeld2 => ?_)
        clear hK K
        try simp
        clear hHeld
        have hHeld := hHeld2
        clear hHeld2
        refine wpAnyH_ready (rs := [3]) (by kernel_rfl) (by simp) ?_
        refine AllReadyH.cons rfl (fun K hK => ?_) AllReadyH.nil
        go_simp
        refine Calls.mono (HS.out _) ?_
        rintro e wX ⟨rfl, hbX⟩
        have hS2 : Hid ((fun w' => Blk w' w.heap.size 31 p.cs.toArray ∧ Blk w' (w.heap.size + 1) 23 s.cs.toArray ∧ Blk w' w2.heap.size 23 (nbS p).cs.toArray ∧ Below w.heap.size w w' ∧ Blk w' wr.heap.size 30 #[.int .i64 q1, .int .u64 q2, .int .u32 q3]) wX) := ⟨hS1.out.1.below hbX hS1.out.1.lt, hS1.out.2.1.below hbX hS1.out.2.1.lt, hS1.out.2.2.1.below hbX hS1.out.2.2.1.lt, hS1.out.2.2.2.1.trans (hbX.mono hS1.out.2.2.2.1.size), hS1.out.2.2.2.2.below hbX hS1.out.2.2.2.2.lt⟩
        clear hS1 hbX
        have hS1 := hS2
        clear hS2
        refine hK.out _ _ hS1.out (fun hHeld2 => ?_)
        clear hK K
        try simp
        clear hHeld
        have hHeld := hHeld2
        clear hHeld2
        refine wpAnyH_done (by kernel_rfl) ?_ _
        have HB8 := Lib.hid hS1.out
        clear hHeld hS1
        go_wp2_with fail
        go_roundw
        case rel => exact ⟨k + 1, hlt, by go_num, by rw [HT.out]; rfl, HB8.out.1, HB8.out.2.1, HB8.out.2.2.1, HB8.out.2.2.2.1⟩
        case measure => simp [intOf]; omega
      · rw [hr] at hst
        have HT := Lib.hid hst
        clear hst hr
        have ha := (Below.refl wr.heap.size wr).alloc (Nat.le_refl _) (.cells #[.int .i64 q1, .int .u64 q2, .int .u32 q3] 30)
        have H2 := Lib.hid (And.intro (H1.out.1.below ha H1.out.1.lt) (And.intro (H1.out.2.1.below ha H1.out.2.1.lt) (And.intro (H1.out.2.2.1.below ha H1.out.2.2.1.lt) (And.intro (H1.out.2.2.2.trans (ha.mono H1.out.2.2.2.size)) (Blk.new wr 30 #[.int .i64 q1, .int .u64 q2, .int .u32 q3])))))
        clear H1 ha
        go_upto_region 9 with (first
          | (refine wpList_val (by rfl) _ (HI.out _ _ _ rfl rfl rfl) ?_)
          | (refine wpList_val (by rfl) _ (ex_ldPq (.tmp 9) rfl wr.heap.size q1 q2 q3 rfl H2.out.2.2.2.2) ?_)
          | (go_at_call 18; refine Calls.mono (HR.out _) ?_; rintro e w4 ⟨rfl, hb4⟩
             have H4 := Lib.hid (And.intro (H2.out.1.below hb4 H2.out.1.lt) (And.intro (H2.out.2.1.below hb4 H2.out.2.1.lt) (And.intro (H2.out.2.2.1.below hb4 H2.out.2.2.1.lt) (And.intro (H2.out.2.2.2.1.trans (hb4.mono H2.out.2.2.2.1.size)) (H2.out.2.2.2.2.below hb4 H2.out.2.2.2.2.lt)))))
             clear H2 hb4))
        have hS1 : Hid ((fun w' => Blk w' w.heap.size 31 p.cs.toArray ∧ Blk w' (w.heap.size + 1) 23 s.cs.toArray ∧ Blk w' w2.heap.size 23 (nbS p).cs.toArray ∧ Below w.heap.size w w' ∧ Blk w' wr.heap.size 30 #[.int .i64 q1, .int .u64 q2, .int .u32 q3]) (World.drew w4)) := by
          have hd := (Below.refl (World.heap w4).size w4).drew
          exact ⟨H4.out.1.below hd H4.out.1.lt, H4.out.2.1.below hd H4.out.2.1.lt, H4.out.2.2.1.below hd H4.out.2.2.1.lt, H4.out.2.2.2.1.trans (hd.mono H4.out.2.2.2.1.size), H4.out.2.2.2.2.below hd H4.out.2.2.2.2.lt⟩
        refine wp_region_held_drew (S := (fun w' => Blk w' w.heap.size 31 p.cs.toArray ∧ Blk w' (w.heap.size + 1) 23 s.cs.toArray ∧ Blk w' w2.heap.size 23 (nbS p).cs.toArray ∧ Below w.heap.size w w' ∧ Blk w' wr.heap.size 30 #[.int .i64 q1, .int .u64 q2, .int .u32 q3])) (by kernel_rfl) hS1.out (fun hHeld => ?_)
        generalize World.drew w4 = w5 at *
        refine wpAnyH_take (i := 0) (v := (ptv q1 q2 q3)) rfl (by kernel_rfl) (by kernel_rfl) (by kernel_rfl) (fun _ _ _ h => h) (Or.inl ⟨by rfl, ?_⟩) (by assumption) ?_
        · intro w' hS
          exact ex_ldPq (.tmp 9) rfl wr.heap.size q1 q2 q3 rfl hS.2.2.2.2
        try simp [Act.put]
        refine wpAnyH_take (i := 1) (v := (.agg p.cs.toArray)) rfl (by kernel_rfl) (by kernel_rfl) (by kernel_rfl) (fun _ _ _ h => h) (Or.inl ⟨by rfl, ?_⟩) (by assumption) ?_
        · intro w' hS
          exact ex_ldP8 (.tmp 2) rfl w.heap.size p rfl hS.1
        try simp [Act.put]
        refine wpAnyH_ready (rs := [2]) (by kernel_rfl) (by simp) ?_
        refine AllReadyH.cons rfl (fun K hK => ?_) AllReadyH.nil
        go_simp
        refine Calls.mono (HW.out _) ?_
        rintro e wX ⟨rfl, hbX⟩
        have hS2 : Hid ((fun w' => Blk w' w.heap.size 31 p.cs.toArray ∧ Blk w' (w.heap.size + 1) 23 s.cs.toArray ∧ Blk w' w2.heap.size 23 (nbS p).cs.toArray ∧ Below w.heap.size w w' ∧ Blk w' wr.heap.size 30 #[.int .i64 q1, .int .u64 q2, .int .u32 q3]) wX) := ⟨hS1.out.1.below hbX hS1.out.1.lt, hS1.out.2.1.below hbX hS1.out.2.1.lt, hS1.out.2.2.1.below hbX hS1.out.2.2.1.lt, hS1.out.2.2.2.1.trans (hbX.mono hS1.out.2.2.2.1.size), hS1.out.2.2.2.2.below hbX hS1.out.2.2.2.2.lt⟩
        clear hS1 hbX
        have hS1 := hS2
        clear hS2
        refine hK.out _ _ hS1.out (fun hHeld2 => ?_)
        clear hK K
        try simp
        clear hHeld
        have hHeld := hHeld2
        clear hHeld2
        refine wpAnyH_ready (rs := [3]) (by kernel_rfl) (by simp) ?_
        refine AllReadyH.cons rfl (fun K hK => ?_) AllReadyH.nil
        go_simp
        refine Calls.mono (HS.out _) ?_
        rintro e wX ⟨rfl, hbX⟩
        have hS2 : Hid ((fun w' => Blk w' w.heap.size 31 p.cs.toArray ∧ Blk w' (w.heap.size + 1) 23 s.cs.toArray ∧ Blk w' w2.heap.size 23 (nbS p).cs.toArray ∧ Below w.heap.size w w' ∧ Blk w' wr.heap.size 30 #[.int .i64 q1, .int .u64 q2, .int .u32 q3]) wX) := ⟨hS1.out.1.below hbX hS1.out.1.lt, hS1.out.2.1.below hbX hS1.out.2.1.lt, hS1.out.2.2.1.below hbX hS1.out.2.2.1.lt, hS1.out.2.2.2.1.trans (hbX.mono hS1.out.2.2.2.1.size), hS1.out.2.2.2.2.below hbX hS1.out.2.2.2.2.lt⟩
        clear hS1 hbX
        have hS1 := hS2
        clear hS2
        refine hK.out _ _ hS1.out (fun hHeld2 => ?_)
        clear hK K
        try simp
        clear hHeld
        have hHeld := hHeld2
        clear hHeld2
        refine wpAnyH_done (by kernel_rfl) ?_ _
        have HB8 := Lib.hid hS1.out
        clear hHeld hS1
        go_wp2_with fail
        go_roundw
        case rel => exact ⟨k + 1, hlt, by go_num, by rw [HT.out]; rfl, HB8.out.1, HB8.out.2.1, HB8.out.2.2.1, HB8.out.2.2.2.1⟩
        case measure => simp [intOf]; omega
    · obtain rfl : k = 8 := by omega
      have H1 := Lib.hid (And.intro h1 (And.intro h2 (And.intro h3 hb)))
      have hall : (p.l.take 8).all rightQ = all8 p := by rw [List.take_of_length_le (by rw [p.h]; omega)]; rfl
      rw [hall]
      clear h1 h2 h3 hb hall
      rcases ha : all8 p with _ | _
      · rw [show nbC p = 51 from if_neg (by simp [ha])]
        rcases ho : okP s with _ | _
        · have HRD := Lib.hid (L.read s)
          rw [(read8_no ho).1, (read8_no ho).2] at HRD
          have HE := Lib.hid (L.empty zp8)
          rw [zp8_s.2.2.1] at HE
          go_wp2_with (first
            | (with_reducible refine ld_sec rfl _ rfl (w.heap.size + 1) 0 s rfl H1.out.2.1.secIs ?_)
            | (go_at_call 16; refine Calls.mono (HRD.out _) ?_; rintro e wa ⟨rfl, hba⟩
               have Ha := Lib.hid (And.intro (H1.out.2.1.below hba H1.out.2.1.lt) (H1.out.2.2.2.trans (hba.mono H1.out.2.2.2.size)))
               have hna : Hid (Blk (wa.alloc (.cells zp8.cs.toArray 31)) wa.heap.size 31 zp8.cs.toArray) := Blk.new _ _ _
               clear hba HRD)
            | (with_reducible refine st_p8 rfl _ _ rfl wa.heap.size 0 zp8 rfl rfl hna.out.p8Has ?_
               intro wb hwb
               have Hb : Hid (Blk wb wa.heap.size 31 zp8.cs.toArray ∧ Below w.heap.size w wb) := by
                 have hb := (Below.refl wa.heap.size wa).alloc (Nat.le_refl _) (.cells zp8.cs.toArray 31)
                 have hb' : Below wa.heap.size wa ((wa.alloc (.cells zp8.cs.toArray 31)).setCells wa.heap.size 0 zp8.cs) := Below.setCells _ (Nat.le_refl _) _ _ hb
                 rw [hwb.out]
                 exact ⟨hna.out.p8All _, Ha.out.2.trans (hb'.mono Ha.out.2.size)⟩
               clear hwb)
            | (with_reducible refine ld_p8 rfl _ rfl wa.heap.size 0 zp8 rfl Hb.out.1.p8Is ?_)
            | (go_at_call 11; refine Calls.mono (HE.out _) ?_; rintro e wc ⟨rfl, hbc⟩
               have Hc := Lib.hid (Hb.out.2.trans (hbc.mono Hb.out.2.size))
               clear hbc HE))
          go_ret
          exact ⟨rfl, Hc.out⟩
        · have HRD := Lib.hid (L.read s)
          obtain ⟨r1, r2, r3, r4⟩ := read8 ho
          rw [r4] at HRD
          have HY := Lib.hid (L.bytes (nrP s) (nr_ok s))
          rw [r2, r3] at HY
          have hss : Hid (s.same s = true) := s.same_self
          clear r1 r2 r3 r4
          generalize nrP s = k at *
          go_wp2_with (first
            | (with_reducible refine ld_sec rfl _ rfl (w.heap.size + 1) 0 s rfl H1.out.2.1.secIs ?_)
            | (go_at_call 16; refine Calls.mono (HRD.out _) ?_; rintro e wa ⟨rfl, hba⟩
               have Ha := Lib.hid (And.intro (H1.out.2.1.below hba H1.out.2.1.lt) (H1.out.2.2.2.trans (hba.mono H1.out.2.2.2.size)))
               have hna : Hid (Blk (wa.alloc (.cells zp8.cs.toArray 31)) wa.heap.size 31 zp8.cs.toArray) := Blk.new _ _ _
               have hla := Ha.out.1.lt
               clear hba HRD)
            | (with_reducible refine st_p8 rfl _ _ rfl wa.heap.size 0 k rfl rfl hna.out.p8Has ?_
               intro wb hwb
               have Hb : Hid (Blk wb wa.heap.size 31 k.cs.toArray ∧ Blk wb (w.heap.size + 1) 23 s.cs.toArray ∧ Below w.heap.size w wb) := by
                 have hb := (Below.refl wa.heap.size wa).alloc (Nat.le_refl _) (.cells zp8.cs.toArray 31)
                 have hb' : Below wa.heap.size wa ((wa.alloc (.cells zp8.cs.toArray 31)).setCells wa.heap.size 0 k.cs) := Below.setCells _ (Nat.le_refl _) _ _ hb
                 rw [hwb.out]
                 exact ⟨hna.out.p8All _, Ha.out.1.below hb' hla, Ha.out.2.trans (hb'.mono Ha.out.2.size)⟩
               clear hwb)
            | (with_reducible refine ld_p8 rfl _ rfl wa.heap.size 0 k rfl Hb.out.1.p8Is ?_)
            | (go_at_call 9; refine Calls.mono (HY.out _) ?_; rintro e wc ⟨rfl, hbc⟩
               have Hc := Lib.hid (And.intro (Hb.out.2.1.below hbc Hb.out.2.1.lt) (Hb.out.2.2.trans (hbc.mono Hb.out.2.2.size)))
               have hnc : Hid (Blk (wc.alloc (.cells zsec.cs.toArray 23)) wc.heap.size 23 zsec.cs.toArray) := Blk.new _ _ _
               have hlc := Hc.out.1.lt
               clear hbc HY)
            | (with_reducible refine st_sec rfl _ _ rfl wc.heap.size 0 s rfl rfl hnc.out.secHas ?_
               intro wd hwd
               have Hd : Hid (Blk wd (w.heap.size + 1) 23 s.cs.toArray ∧ Blk wd wc.heap.size 23 s.cs.toArray ∧ Below w.heap.size w wd) := by
                 have hb := (Below.refl wc.heap.size wc).alloc (Nat.le_refl _) (.cells zsec.cs.toArray 23)
                 have hb' : Below wc.heap.size wc ((wc.alloc (.cells zsec.cs.toArray 23)).setCells wc.heap.size 0 s.cs) := Below.setCells _ (Nat.le_refl _) _ _ hb
                 rw [hwd.out]
                 exact ⟨Hc.out.1.below hb' hlc, hnc.out.secAll _, Hc.out.2.trans (hb'.mono Hc.out.2.size)⟩
               clear hwd)
            | (refine wpList_valD (72) rfl _ (ex_ldSec (.tmp 14) rfl wc.heap.size s rfl Hd.out.2.1) (by rfl) ?_)
            | (refine wpList_valD (73) rfl _ (ex_ldSec (.tmp 3) rfl (w.heap.size + 1) s rfl Hd.out.1) (by rfl) ?_)
            | (refine wpList_val (by rfl) _ (ex_eqS (.tmp 72) (.tmp 73) rfl s s rfl rfl) ?_; rw [hss.out]))
          go_ret
          exact ⟨rfl, Hd.out.2.2⟩
      · obtain ⟨-, b2, b3⟩ := back8 hp ha
        have HRX := Lib.hid (L.read (nbS p))
        rw [b2, b3] at HRX
        have hpp : Hid (p.same p = true) := P8.same_iff.2 rfl
        rw [show nbC p = 0 from if_pos ha]
        clear b2 b3
        rcases ho : okP s with _ | _
        · have HRD := Lib.hid (L.read s)
          rw [(read8_no ho).1, (read8_no ho).2] at HRD
          have HE := Lib.hid (L.empty zp8)
          rw [zp8_s.2.2.1] at HE
          go_wp2_with (first
            | (with_reducible refine ld_sec rfl _ rfl w2.heap.size 0 (nbS p) rfl H1.out.2.2.1.secIs ?_)
            | (go_at_call 16; with_reducible refine Calls.mono (HRX.out _) ?_; rintro e we ⟨rfl, hbe⟩
               have He := Lib.hid (And.intro (H1.out.1.below hbe H1.out.1.lt) (And.intro (H1.out.2.1.below hbe H1.out.2.1.lt) (H1.out.2.2.2.trans (hbe.mono H1.out.2.2.2.size))))
               have hne : Hid (Blk (we.alloc (.cells zp8.cs.toArray 31)) we.heap.size 31 zp8.cs.toArray) := Blk.new _ _ _
               have hle := He.out.1.lt
               have hle2 := He.out.2.1.lt
               clear hbe HRX)
            | (with_reducible refine st_p8 rfl _ _ rfl we.heap.size 0 p rfl rfl hne.out.p8Has ?_
               intro wf hwf
               have Hf : Hid (Blk wf w.heap.size 31 p.cs.toArray ∧ Blk wf (w.heap.size + 1) 23 s.cs.toArray ∧ Blk wf we.heap.size 31 p.cs.toArray ∧ Below w.heap.size w wf) := by
                 have hb := (Below.refl we.heap.size we).alloc (Nat.le_refl _) (.cells zp8.cs.toArray 31)
                 have hb' : Below we.heap.size we ((we.alloc (.cells zp8.cs.toArray 31)).setCells we.heap.size 0 p.cs) := Below.setCells _ (Nat.le_refl _) _ _ hb
                 rw [hwf.out]
                 exact ⟨He.out.1.below hb' hle, He.out.2.1.below hb' hle2, hne.out.p8All _, He.out.2.2.trans (hb'.mono He.out.2.2.size)⟩
               clear hwf)
            | (refine wpList_valD (51) rfl _ (ex_ldP8 (.tmp 10) rfl we.heap.size p rfl Hf.out.2.2.1) (by rfl) ?_)
            | (refine wpList_valD (52) rfl _ (ex_ldP8 (.tmp 2) rfl w.heap.size p rfl Hf.out.1) (by rfl) ?_)
            | (refine wpList_val (by rfl) _ (ex_neP8 (.tmp 51) (.tmp 52) rfl p p rfl rfl) ?_; rw [hpp.out, Bool.not_true])
            | (with_reducible refine ld_sec rfl _ rfl (w.heap.size + 1) 0 s rfl Hf.out.2.1.secIs ?_)
            | (go_at_call 16; refine Calls.mono (HRD.out _) ?_; rintro e wa ⟨rfl, hba⟩
               have Ha := Lib.hid (And.intro (Hf.out.2.1.below hba Hf.out.2.1.lt) (Hf.out.2.2.2.trans (hba.mono Hf.out.2.2.2.size)))
               have hna : Hid (Blk (wa.alloc (.cells zp8.cs.toArray 31)) wa.heap.size 31 zp8.cs.toArray) := Blk.new _ _ _
               clear hba HRD)
            | (with_reducible refine st_p8 rfl _ _ rfl wa.heap.size 0 zp8 rfl rfl hna.out.p8Has ?_
               intro wb hwb
               have Hb : Hid (Blk wb wa.heap.size 31 zp8.cs.toArray ∧ Below w.heap.size w wb) := by
                 have hb := (Below.refl wa.heap.size wa).alloc (Nat.le_refl _) (.cells zp8.cs.toArray 31)
                 have hb' : Below wa.heap.size wa ((wa.alloc (.cells zp8.cs.toArray 31)).setCells wa.heap.size 0 zp8.cs) := Below.setCells _ (Nat.le_refl _) _ _ hb
                 rw [hwb.out]
                 exact ⟨hna.out.p8All _, Ha.out.2.trans (hb'.mono Ha.out.2.size)⟩
               clear hwb)
            | (with_reducible refine ld_p8 rfl _ rfl wa.heap.size 0 zp8 rfl Hb.out.1.p8Is ?_)
            | (go_at_call 11; refine Calls.mono (HE.out _) ?_; rintro e wc ⟨rfl, hbc⟩
               have Hc := Lib.hid (Hb.out.2.trans (hbc.mono Hb.out.2.size))
               clear hbc HE))
          go_ret
          exact ⟨rfl, Hc.out⟩
        · have HRD := Lib.hid (L.read s)
          obtain ⟨r1, r2, r3, r4⟩ := read8 ho
          rw [r4] at HRD
          have HY := Lib.hid (L.bytes (nrP s) (nr_ok s))
          rw [r2, r3] at HY
          have hss : Hid (s.same s = true) := s.same_self
          clear r1 r2 r3 r4
          generalize nrP s = k at *
          go_wp2_with (first
            | (with_reducible refine ld_sec rfl _ rfl w2.heap.size 0 (nbS p) rfl H1.out.2.2.1.secIs ?_)
            | (go_at_call 16; with_reducible refine Calls.mono (HRX.out _) ?_; rintro e we ⟨rfl, hbe⟩
               have He := Lib.hid (And.intro (H1.out.1.below hbe H1.out.1.lt) (And.intro (H1.out.2.1.below hbe H1.out.2.1.lt) (H1.out.2.2.2.trans (hbe.mono H1.out.2.2.2.size))))
               have hne : Hid (Blk (we.alloc (.cells zp8.cs.toArray 31)) we.heap.size 31 zp8.cs.toArray) := Blk.new _ _ _
               have hle := He.out.1.lt
               have hle2 := He.out.2.1.lt
               clear hbe HRX)
            | (with_reducible refine st_p8 rfl _ _ rfl we.heap.size 0 p rfl rfl hne.out.p8Has ?_
               intro wf hwf
               have Hf : Hid (Blk wf w.heap.size 31 p.cs.toArray ∧ Blk wf (w.heap.size + 1) 23 s.cs.toArray ∧ Blk wf we.heap.size 31 p.cs.toArray ∧ Below w.heap.size w wf) := by
                 have hb := (Below.refl we.heap.size we).alloc (Nat.le_refl _) (.cells zp8.cs.toArray 31)
                 have hb' : Below we.heap.size we ((we.alloc (.cells zp8.cs.toArray 31)).setCells we.heap.size 0 p.cs) := Below.setCells _ (Nat.le_refl _) _ _ hb
                 rw [hwf.out]
                 exact ⟨He.out.1.below hb' hle, He.out.2.1.below hb' hle2, hne.out.p8All _, He.out.2.2.trans (hb'.mono He.out.2.2.size)⟩
               clear hwf)
            | (refine wpList_valD (51) rfl _ (ex_ldP8 (.tmp 10) rfl we.heap.size p rfl Hf.out.2.2.1) (by rfl) ?_)
            | (refine wpList_valD (52) rfl _ (ex_ldP8 (.tmp 2) rfl w.heap.size p rfl Hf.out.1) (by rfl) ?_)
            | (refine wpList_val (by rfl) _ (ex_neP8 (.tmp 51) (.tmp 52) rfl p p rfl rfl) ?_; rw [hpp.out, Bool.not_true])
            | (with_reducible refine ld_sec rfl _ rfl (w.heap.size + 1) 0 s rfl Hf.out.2.1.secIs ?_)
            | (go_at_call 16; refine Calls.mono (HRD.out _) ?_; rintro e wa ⟨rfl, hba⟩
               have Ha := Lib.hid (And.intro (Hf.out.2.1.below hba Hf.out.2.1.lt) (Hf.out.2.2.2.trans (hba.mono Hf.out.2.2.2.size)))
               have hna : Hid (Blk (wa.alloc (.cells zp8.cs.toArray 31)) wa.heap.size 31 zp8.cs.toArray) := Blk.new _ _ _
               have hla := Ha.out.1.lt
               clear hba HRD)
            | (with_reducible refine st_p8 rfl _ _ rfl wa.heap.size 0 k rfl rfl hna.out.p8Has ?_
               intro wb hwb
               have Hb : Hid (Blk wb wa.heap.size 31 k.cs.toArray ∧ Blk wb (w.heap.size + 1) 23 s.cs.toArray ∧ Below w.heap.size w wb) := by
                 have hb := (Below.refl wa.heap.size wa).alloc (Nat.le_refl _) (.cells zp8.cs.toArray 31)
                 have hb' : Below wa.heap.size wa ((wa.alloc (.cells zp8.cs.toArray 31)).setCells wa.heap.size 0 k.cs) := Below.setCells _ (Nat.le_refl _) _ _ hb
                 rw [hwb.out]
                 exact ⟨hna.out.p8All _, Ha.out.1.below hb' hla, Ha.out.2.trans (hb'.mono Ha.out.2.size)⟩
               clear hwb)
            | (with_reducible refine ld_p8 rfl _ rfl wa.heap.size 0 k rfl Hb.out.1.p8Is ?_)
            | (go_at_call 9; refine Calls.mono (HY.out _) ?_; rintro e wc ⟨rfl, hbc⟩
               have Hc := Lib.hid (And.intro (Hb.out.2.1.below hbc Hb.out.2.1.lt) (Hb.out.2.2.trans (hbc.mono Hb.out.2.2.size)))
               have hnc : Hid (Blk (wc.alloc (.cells zsec.cs.toArray 23)) wc.heap.size 23 zsec.cs.toArray) := Blk.new _ _ _
               have hlc := Hc.out.1.lt
               clear hbc HY)
            | (with_reducible refine st_sec rfl _ _ rfl wc.heap.size 0 s rfl rfl hnc.out.secHas ?_
               intro wd hwd
               have Hd : Hid (Blk wd (w.heap.size + 1) 23 s.cs.toArray ∧ Blk wd wc.heap.size 23 s.cs.toArray ∧ Below w.heap.size w wd) := by
                 have hb := (Below.refl wc.heap.size wc).alloc (Nat.le_refl _) (.cells zsec.cs.toArray 23)
                 have hb' : Below wc.heap.size wc ((wc.alloc (.cells zsec.cs.toArray 23)).setCells wc.heap.size 0 s.cs) := Below.setCells _ (Nat.le_refl _) _ _ hb
                 rw [hwd.out]
                 exact ⟨Hc.out.1.below hb' hlc, hnc.out.secAll _, Hc.out.2.trans (hb'.mono Hc.out.2.size)⟩
               clear hwd)
            | (refine wpList_valD (72) rfl _ (ex_ldSec (.tmp 14) rfl wc.heap.size s rfl Hd.out.2.1) (by rfl) ?_)
            | (refine wpList_valD (73) rfl _ (ex_ldSec (.tmp 3) rfl (w.heap.size + 1) s rfl Hd.out.1) (by rfl) ?_)
            | (refine wpList_val (by rfl) _ (ex_eqS (.tmp 72) (.tmp 73) rfl s s rfl rfl) ?_; rw [hss.out]))
          go_ret
          exact ⟨rfl, Hd.out.2.2⟩
end Go.Proofs.Ytgbghmgipnphkaa
