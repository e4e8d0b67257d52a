/- The texts Y12 Y13. -/
import Derived.Test.YtagkhicbngaghaaYA
set_option maxRecDepth 10000
namespace Go.Proofs.Ytagkhicbngaghaa

section
open Go.RowKit

section
variable {w : World} {O : Nat → Prop} {g : Nat} {P : Pw} {root : PtrV} {F : P8} {S : Nat → P8} {T : Nat → Sec}
theorem thad (h : PileAt w O g P) (ok : OkW P) (p : P8) (hp : p.ok) (ha : all8 p = true) {q : PtrV} (hq : Held P q (nbS p)) :
    Calls Try.prog 43 #[.pointer (some ⟨g, 0, none⟩), ptq q] w fun e w' => ∃ O', e = .returned (.tuple #[.agg p.cs.toArray, .int .i64 0]) ∧ PileAt w' O' g P ∧ Step w w' O O' := by
  have b := back8 hp ha
  have := had_any h q (nbS p) (hq.get ok) b.2.2
  rwa [b.2.1] at this
theorem WK.at0 {w0 w : World} {O0 O : Nat → Prop} {b0 b1 b2 B : Nat} {N0 N1 : P8} {vq vn : Value} {L : List PtrV} {M : List Int} (h : WK w0 O0 w O g P b0 b1 b2 B root N0 N1 vq vn L M) (m : Nat) (hm : m < 8) :
    w.rangeAt b1 (m * 3) [.int .i64 (N0.at_ m).1, .int .u64 (N0.at_ m).2.1, .int .u32 (N0.at_ m).2.2] := by
  have := h.nb.box.blk.n2Node 0 (by omega) m hm
  rw [Nat.zero_mul, Nat.zero_add] at this
  exact this
theorem WK.at1 {w0 w : World} {O0 O : Nat → Prop} {b0 b1 b2 B : Nat} {N0 N1 : P8} {vq vn : Value} {L : List PtrV} {M : List Int} (h : WK w0 O0 w O g P b0 b1 b2 B root N0 N1 vq vn L M) (m : Nat) (hm : m < 8) :
    w.rangeAt b1 (24 + m * 3) [.int .i64 (N1.at_ m).1, .int .u64 (N1.at_ m).2.1, .int .u32 (N1.at_ m).2.2] := h.nb.box.blk.n2Node 1 (by omega) m hm
/-- What stands at the inner loop's k-th round. -/
def nodesAt (f : PtrV → Bool) (F : P8) (S : Nat → P8) (i k : Nat) (N0 N1 : P8) : Prop :=
  ((i ≠ 0 ∨ 1 ≤ k) → N0 = F) ∧ ((i % 8 ≠ 0 ∧ f (F.at_ (i / 8)) = true ∨ 2 ≤ k) → N1 = S (i / 8)) ∧ (1 ≤ k → f (F.at_ (i / 8)) = true) ∧ (2 ≤ k → f (blkQ S i) = true)
theorem nodes_no0 {f : PtrV → Bool} {i : Nat} {N1 : P8} (h : f (F.at_ (i / 8)) = false) : nodesAt f F S (i + 1) 0 F N1 :=
  ⟨fun _ => rfl, fun h2 => h2.elim (fun h3 => by rw [show (i + 1) / 8 = i / 8 by omega, h] at h3; exact absurd h3.2 (by decide)) fun h3 => absurd h3 (by omega), fun h => absurd h (by omega), fun h => absurd h (by omega)⟩
theorem nodes_next {f : PtrV → Bool} {i : Nat} : nodesAt f F S (i + 1) 0 F (S (i / 8)) :=
  ⟨fun _ => rfl, fun h2 => h2.elim (fun h3 => by rw [show (i + 1) / 8 = i / 8 by omega]) fun h3 => absurd h3 (by omega), fun h => absurd h (by omega), fun h => absurd h (by omega)⟩
def rootQ (root : PtrV) (F : P8) (S : Nat → P8) (i k : Nat) : PtrV := if k = 0 then root else if k = 1 then F.at_ (i / 8) else blkQ S i
set_option maxHeartbeats 8000000 in
theorem walk_any (h : PileAt w O g P) (ok : OkW P) (t : Tree P root F S T) (f : PtrV → Bool) (fn : FuncId) (cap : Array Value) (hcf : ∀ args w, Sem.run Try.prog (callFunc fn args) w = .ok (.enter fn args) w)
    (hf : ∀ (q : PtrV) (w' : World), Chg w w' O → Calls Try.prog fn (#[ptq q] ++ cap) w' fun e w'' => e = .returned (.bool (f q)) ∧ Below w'.heap.size w' w'') (hroot : f root = true) :
    Calls Try.prog 36 #[.pointer (some ⟨g, 0, none⟩), ptq root, .func (.func fn) #[] cap] w
      fun e w' => ∃ O' A d A2 d2, e = .returned (.tuple #[.slice A (wkP f root F S 64).length d, .slice A2 (wkN f F S 64).length d2, .int .i64 0]) ∧ PileAt w' O' g P ∧ RdF w w' O' A (pqs (wkP f root F S 64)) ∧ RdF w w' O' A2 (ints (wkN f F S 64)) ∧ Step w w' O O' := by
  obtain ⟨W, hW⟩ : ∃ W, W = w.alloc (.cells (pcs root.1 root.2.1 root.2.2) 32) := ⟨_, rfl⟩
  have hs : Sta w O W O g P := by rw [hW]; exact (Sta.first h).alloc _
  have hbr : Bx w W O w.heap.size 32 (pcs root.1 root.2.1 root.2.2) := by rw [hW]; exact Bx.new (Sta.first h) _ _
  have HA := Lib.hid (And.intro hs hbr)
  have HF := Lib.hid hf
  have HR := hf root W hs.st.chg
  rw [hroot] at HR
  have HR := Lib.hid HR
  have HT : Hid (∀ w O, PileAt w O g P → _) := Lib.hid fun w O (h : PileAt w O g P) => thad h ok F t.fok t.fall t.top
  have HM : Hid (∀ k, k < 8 → ∀ w O, PileAt w O g P → Calls Try.prog 43 #[.pointer (some ⟨g, 0, none⟩), ptq (F.at_ k)] w fun e w' => ∃ O', e = .returned (.tuple #[.agg (S k).cs.toArray, .int .i64 0]) ∧ PileAt w' O' g P ∧ Step w w' O O') := Lib.hid fun k hk w O h => thad h ok (S k) (t.sok k hk) (t.sall k hk) (t.mid k hk)
  have HST := Lib.hid steps_any
  have hz : ∀ w, Sem.run Try.prog (zeroValue 68) w = .ok (.agg (n2 zp8 zp8).toArray) w := zeroN2
  have hz8 : ∀ w, Sem.run Try.prog (zeroValue 67) w = .ok (.agg zp8.cs.toArray) w := zeroP8
  have hzp : ∀ w, Sem.run Try.prog (zeroValue 32) w = .ok (ptv 0 0 0) w := zeroPtr8
  clear h ok t hf hs hbr hroot
  go_enter Try.func36, Try.ntmps36
  go_upto_region 1 with (fail)
  rw [← hW]
  clear hW
  go_step3
  go_wp2_with (with_reducible refine ld_ptr rfl (.tmp 4) rfl w.heap.size 32 root.1 root.2.1 root.2.2 rfl HA.out.2.blk ?_)
  refine Calls.mono HR.out ?_
  rintro e w1 ⟨rfl, hb1⟩
  have ha1 := HA.out.1.far hb1
  have hr1 := HA.out.2.later hb1
  have ha2 := ha1.alloc (.cells (n2 zp8 zp8).toArray 68)
  have hn2 := Bx.new ha1 68 (n2 zp8 zp8).toArray
  have hc2 := Bx.new ha2 66 #[.int .i64 64, .int .i64 8]
  rw [show (w1.alloc (.cells (n2 zp8 zp8).toArray 68)).heap.size = w1.heap.size + 1 by simp] at hc2
  obtain ⟨W3, hW3⟩ : ∃ W3, W3 = (w1.alloc (.cells (n2 zp8 zp8).toArray 68)).alloc (.cells #[.int .i64 64, .int .i64 8] 66) := ⟨_, rfl⟩
  have hsz3 : W3.heap.size = w1.heap.size + 2 := by rw [hW3]; simp
  have HWK : Hid (WK w O W3 O g P w.heap.size w1.heap.size (w1.heap.size + 1) (w1.heap.size + 2) root zp8 zp8 (.slice none 0 0) (.slice none 0 0) (wkP f root F S 0) (wkN f F S 0)) := by
    have hno : ∀ b, (Value.slice none 0 0).ownBlock ≠ some b := fun b e => by cases e
    rw [hW3]
    refine ⟨(ha2.alloc _), ⟨(hr1.alloc _).alloc _, hno _, hno _⟩, ⟨hn2.alloc _, hno _, hno _⟩, ⟨hc2, hno _, hno _⟩, ⟨World.ownsRow_nil _ _ _ _, fun b e => absurd e (hno b)⟩, ⟨World.ownsRow_nil _ _ _ _, fun b e => absurd e (hno b)⟩, fun k e => absurd e (hno k), ⟨hr1.lt, by omega, by omega, by have := ha1.size; omega⟩, ?_⟩
    rw [← hW3, hsz3]
    exact Nat.le_refl _
  clear hb1 ha1 hr1 ha2 hn2 hc2 HA HR hsz3
  go_upto_region 7 with (fail)
  rw [← hW3]
  clear hW3
  generalize hb1 : w1.heap.size = b1 at *
  generalize hb2 : b1 + 1 = b2 at *
  generalize hB : b1 + 2 = B at *
  clear hb1 hb2 hB
  go_step3
  go_wp2_with fail
  go_loopw [9, 10, 24] (fun vq vn iv wr => ∃ (i : Nat) (Oq : Nat → Prop) (N0 N1 : P8), i ≤ 64 ∧ iv = .int .i64 (i : Int) ∧ nodesAt f F S i 0 N0 N1 ∧ WK w O wr Oq g P w.heap.size b1 b2 B root N0 N1 vq vn (wkP f root F S i) (wkN f F S i)) (fun _ _ iv _ => (64 - intOf iv).toNat)
  case atStart => exact ⟨0, O, zp8, zp8, by omega, rfl, ⟨fun h => h.elim (fun h => absurd rfl h) fun h => absurd h (by omega), fun h => h.elim (fun h => absurd rfl h.1) fun h => absurd h (by omega), fun h => absurd h (by omega), fun h => absurd h (by omega)⟩, HWK.out⟩
  case round =>
    clear HWK
    obtain ⟨i, Oq, N0, N1, hi, rfl, hN, hwk⟩ := hrel
    by_cases hlt : i < 64
    · have hli : (i : Int) < 64 := by omega
      have HN := Lib.hid hN
      have HW := Lib.hid hwk
      have HI := Lib.hid hlt
      have hst := HST.out i hlt
      obtain ⟨m, hm⟩ : ∃ m, m = i / 8 := ⟨_, rfl⟩
      obtain ⟨n, hn⟩ : ∃ n, n = i % 8 := ⟨_, rfl⟩
      rw [← hm, ← hn] at hst
      have HMN := Lib.hid (And.intro hm hn)
      have HS := Lib.hid hst
      clear hN hwk hlt hst hm hn hi
      have hnw := HW.out.new 32 (pcs 0 0 0)
      have HQ := Lib.hid hnw
      have HWa := Lib.hid (HW.out.alloc (.cells (pcs 0 0 0) 32))
      have HB14 : Hid (B ≤ wr.heap.size) := Lib.hid HW.out.lo.2
      clear hnw
      generalize hb14 : wr.heap.size = b14 at *
      go_wp2_with (first
        | (with_reducible refine ld_ptr rfl (.tmp 4) rfl w.heap.size 32 root.1 root.2.1 root.2.2 rfl HWa.out.rb.box.blk ?_)
        | (with_reducible refine ld_ptr rfl (.tmp 4) rfl w.heap.size 32 root.1 root.2.1 root.2.2 rfl HW.out.rb.box.blk ?_)
        | (refine st_pt2 rfl (.tmp 14) (.tmp 27) rfl b14 _ root.1 root.2.1 root.2.2 rfl rfl HQ.out.box.blk rfl ?_; intro w4 hB4 hk4))
      have hc4 := hk4 (· = b14) rfl
      have HWb := Lib.hid (HWa.out.aside HQ.out HB14.out hc4)
      have HQb := Lib.hid (HQ.out.put hB4 rfl)
      clear HW HWa HQ hB4 hk4 hc4 hb14
      refine Calls.mono (HS.out _) ?_
      rintro e w5 ⟨rfl, hb5⟩
      have HWc := Lib.hid (HWb.out.later hb5)
      have HQc := Lib.hid (HQb.out.later hb5)
      clear HWb HQb hb5 HS
      go_wp2_with fail
      go_loopw [9, 30] (fun vq kv wi => ∃ (k : Nat) (Oq : Nat → Prop) (N0 N1 : P8), k ≤ 2 ∧ kv = .int .i64 (k : Int) ∧ nodesAt f F S i k N0 N1 ∧ WK w O wi Oq g P w.heap.size b1 b2 B root N0 N1 vq u10 (wkQ f root F S i k) (wkN f F S i) ∧
        Wx w wi Oq vq u10 b14 32 (pcs (rootQ root F S i k).1 (rootQ root F S i k).2.1 (rootQ root F S i k).2.2)) (fun _ kv _ => (2 - intOf kv).toNat)
      case atStart => exact ⟨0, Oq, N0, N1, by omega, rfl, HN.out, by rw [wkQ_zero]; exact HWc.out, HQc.out⟩
      case round =>
        clear HWc HQc HN
        clear Oq N0 N1
        obtain ⟨k, Oq, N0, N1, hk, rfl, hN, hwk, hqb⟩ := hrel
        rcases (show k = 0 ∨ k = 1 ∨ k = 2 by omega) with rfl | rfl | rfl
        · rw [show ((0 : Nat) : Int) = 0 from rfl]
          have hix : ∀ w, (Instr.index 66 (.agg #[.int .i64 (m : Int), .int .i64 (n : Int)]) (.int .i64 0)).run Try.prog w = .ok (.int .i64 (m : Int)) w := run_ix2 _ _ 0 (by omega)
          have hbl : wr.cell? ⟨b2, 0, none⟩ = some (.int .i64 64) := hwk.bb.box.blk.cell 0
          have hm8 : (m : Int) < 8 := by have := HMN.out; have := HI.out; omega
          have hn8 : (n : Int) < 8 := by have := HMN.out; omega
          have hqb : Wx w wr Oq u9 u10 b14 32 (pcs root.1 root.2.1 root.2.2) := hqb
          have HNN : Hid (i % 8 ≠ 0 ∧ f (F.at_ (i / 8)) = true → N1 = S (i / 8)) := Lib.hid fun h => hN.2.1 (.inl h)
          by_cases h0 : i = 0
          · have HL : Hid (wkQ f root F S i 1 = wkQ f root F S i 0 ++ [root]) := Lib.hid (by rw [wkQ_at0, if_pos h0])
            have hr : ((i : Int) % 64 == 0) = true := by rw [beq_iff_eq]; omega
            have HW := Lib.hid hwk
            have HQ := Lib.hid hqb
            clear hwk hqb hN h0
            go_wp2_with (with_reducible refine ld_ptr rfl (.tmp 14) rfl b14 32 (root).1 (root).2.1 (root).2.2 rfl HQ.out.box.blk ?_)
            refine Calls.mono (HT.out _ _ HW.out.sta.at_) ?_
            rintro e w6 ⟨O6, rfl, hp6, hs6⟩
            have hw6 := HW.out.call hp6 hs6
            have hq6 := HQ.out.step hs6
            have HX := Lib.hid (hw6.new 67 zp8.cs.toArray)
            have HW6 := Lib.hid (hw6.alloc (.cells zp8.cs.toArray 67))
            have HQ6 := Lib.hid (hq6.later ((Below.refl w6.heap.size w6).alloc (Nat.le_refl _) (.cells zp8.cs.toArray 67)))
            have H17 : Hid (b14 < w6.heap.size ∧ B ≤ w6.heap.size ∧ b1 < B) := Lib.hid ⟨hq6.lt, hw6.lo.2, by have := hw6.lo.1; omega⟩
            clear HW HQ hw6 hq6 hp6 hs6
            generalize hb17 : w6.heap.size = b17 at *
            go_wp2_with (refine st_p8c rfl (.tmp 17) (.tmp 44) rfl b17 _ _ (F) rfl rfl HX.out.box.blk ?_; intro wb hBb hcb)
            have HWb := Lib.hid (HW6.out.aside HX.out H17.out.2.1 hcb)
            have HQb := Lib.hid (HQ6.out.aside hcb (by have := H17.out; omega))
            have HXb := Lib.hid (HX.out.put hBb rfl)
            clear HW6 HQ6 HX hBb hcb hb17
            have hd := (Below.refl wb.heap.size wb).drew
            have HWc := Lib.hid (HWb.out.later hd)
            have HQc := Lib.hid (HQb.out.later hd)
            have HXc := Lib.hid (HXb.out.later hd)
            clear HWb HQb HXb hd
            refine wp_region_held_drew (S := (fun w' => Blk w' b17 67 (F).cs.toArray ∧ Blk w' b14 32 (pcs (root).1 (root).2.1 (root).2.2))) (by kernel_rfl) ⟨HXc.out.box.blk, HQc.out.box.blk⟩ (fun hHeld => ?_)
            generalize wb.drew = wc at *
            refine wpAnyH_take (i := 0) (v := (.int .i64 0)) rfl (by kernel_rfl) (by kernel_rfl) (by kernel_rfl) (fun _ _ _ h => h) (Or.inl ⟨by rfl, ?_⟩) (by assumption) ?_
            · intro w' hS; go_simp; try with_reducible rfl
            try simp [Act.put]
            refine wpAnyH_take (i := 1) (v := (.agg (F).cs.toArray)) rfl (by kernel_rfl) (by kernel_rfl) (by kernel_rfl) (fun _ _ _ h => h) (Or.inl ⟨by rfl, ?_⟩) (by assumption) ?_
            · intro w' hS
              exact ex_ldP8c (.tmp 17) rfl b17 _ (F) rfl hS.1
            try simp [Act.put]
            refine wpAnyH_take (i := 2) (v := u9) rfl (by kernel_rfl) (by kernel_rfl) (by kernel_rfl) (fun _ _ _ h => h) (Or.inl ⟨by rfl, ?_⟩) (by assumption) ?_
            · intro w' hS; go_simp; try with_reducible rfl
            try simp [Act.put]
            refine wpAnyH_take (i := 3) (v := (ptq (root))) rfl (by kernel_rfl) (by kernel_rfl) (by kernel_rfl) (fun _ _ _ h => h) (Or.inl ⟨by rfl, ?_⟩) (by assumption) ?_
            · intro w' hS
              exact ex_ldPq (.tmp 14) rfl b14 (root).1 (root).2.1 (root).2.2 rfl hS.2
            try simp [Act.put]
            refine wpAnyH_take (i := 6) (v := (.pointer (some ⟨b1, 0, none⟩))) rfl (by kernel_rfl) (by kernel_rfl) (by kernel_rfl) (fun _ _ _ h => h) (Or.inl ⟨by rfl, ?_⟩) (by assumption) ?_
            · intro w' hS; go_simp; try with_reducible rfl
            try simp [Act.put]
            refine wpAnyH_ready (rs := [4]) (by kernel_rfl) (by simp) ?_
            refine AllReadyH.cons rfl (fun K hK => ?_) AllReadyH.nil
            go_simp
            have hal := (Below.refl wc.heap.size wc).alloc (Nat.le_refl _) (.cells (pcs (root).1 (root).2.1 (root).2.2) 32)
            have HWd := Lib.hid (HWc.out.later hal)
            have HQd := Lib.hid (HQc.out.later hal)
            have HXd := Lib.hid (HXc.out.later hal)
            have HGd := Lib.hid (Blk.new wc 32 (pcs (root).1 (root).2.1 (root).2.2))
            refine hK.out _ _ ⟨HXd.out.box.blk, HQd.out.box.blk⟩ (fun hHeld2 => ?_)
            clear HWc HQc HXc hal
            clear hK K
            try simp
            clear hHeld
            have hHeld := hHeld2
            clear hHeld2
            generalize wc.alloc (.cells (pcs (root).1 (root).2.1 (root).2.2) 32) = wd at *
            generalize wc.heap.size = gE at *
            refine wpAnyH_ready (rs := [5]) (by kernel_rfl) (by simp) ?_
            refine AllReadyH.cons rfl (fun K hK => ?_) AllReadyH.nil
            refine step_appP rfl 51 53 rfl B u9 (wkQ f root F S i 0) rfl HWd.out.rq.own (root) gE HGd.out rfl HWd.out.lo.2 (Nat.le_trans (wkQ_len HI.out 0) (by omega)) ?_
            intro v9 we ho hg hn9
            have HWe := Lib.hid (HWd.out.appQ hg ho hn9)
            have HQe := Lib.hid (HQd.out.appQ hg hn9)
            have HXe := Lib.hid (HXd.out.appQ hg hn9)
            refine hK.out _ _ ⟨HXe.out.box.blk, HQe.out.box.blk⟩ (fun hHeld2 => ?_)
            clear HWd HQd HXd HGd ho hg hn9
            clear hK K
            try simp
            clear hHeld
            have hHeld := hHeld2
            clear hHeld2
            refine wpAnyH_ready (rs := [7]) (by kernel_rfl) (by simp) ?_
            refine AllReadyH.cons rfl (fun K hK => ?_) AllReadyH.nil
            refine step_stN2 rfl (.tmp 55) (.tmp 50) rfl b1 _ _ _ 0 (by omega) (F) _ rfl rfl rfl HWe.out.nb.box.blk ?_
            intro wf hBf hcf2
            have hBf2 : Blk wf b1 68 (n2 F N1).toArray := hBf
            have HWf := HWe.out.node hBf2 hcf2
            have HQ := Lib.hid (HQe.out.aside hcf2 (by have := H17.out; have := HB14.out; omega))
            have HXf := HXe.out.aside hcf2 (by have := H17.out; have := HB14.out; omega)
            refine hK.out _ _ ⟨HXf.box.blk, HQ.out.box.blk⟩ (fun hHeld2 => ?_)
            rw [← HL.out] at HWf
            have HW := Lib.hid HWf
            clear HWe HQe HXe HXf HWf hBf hBf2 hcf2 H17
            clear hK K
            try simp
            clear hHeld
            have hHeld := hHeld2
            clear hHeld2
            refine wpAnyH_take (i := 8) (v := v9) rfl (by kernel_rfl) (by kernel_rfl) (by kernel_rfl) (fun _ _ _ h => h) (Or.inl ⟨by rfl, ?_⟩) (by assumption) ?_
            · intro w' hS; go_simp; try with_reducible rfl
            try simp [Act.put]
            refine wpAnyH_done (by kernel_rfl) ?_ _
            clear hHeld
            have hq := HW.out.at0 m (by have := HMN.out; have := HI.out; omega)
            have HFq := HF.out (F.at_ m)
            cases hfq : f (F.at_ m) with
            | true =>
              rw [hfq] at HFq
              have HFq := Lib.hid HFq
              have Hfq := Lib.hid hfq
              clear hfq
              go_wp2_with (first
                | (with_reducible refine ld_pq rfl _ rfl b1 (m * 3) (F.at_ m) rfl hq ?_)
                | (refine st_pt2 rfl (.tmp 14) (.tmp 60) rfl b14 _ (F.at_ m).1 (F.at_ m).2.1 (F.at_ m).2.2 rfl rfl HQ.out.box.blk rfl ?_; intro wg hBg hkg)
                | (with_reducible refine ld_ptr rfl (.tmp 14) rfl b14 32 (F.at_ m).1 (F.at_ m).2.1 (F.at_ m).2.2 rfl hBg ?_))
              have hcg := hkg (· = b14) rfl
              have HWg := Lib.hid (HW.out.aside HQ.out HB14.out hcg)
              have HQg := Lib.hid (HQ.out.put hBg rfl)
              clear HW HQ hBg hkg hcg hq
              refine Calls.mono (HFq.out _ HWg.out.sta.st.chg) ?_
              rintro e wh ⟨rfl, hbh⟩
              have HWh := Lib.hid (HWg.out.later hbh)
              have HQh := Lib.hid (HQg.out.later hbh)
              clear HWg HQg hbh HFq
              go_wp2_with fail
              go_roundw
              case rel => exact ⟨1, _, F, N1, by omega, rfl, ⟨fun _ => rfl, fun h => HNN.out (h.elim id fun h => absurd h (by omega)), fun _ => by rw [← HMN.out.1]; exact Hfq.out, fun h => absurd h (by omega)⟩, HWh.out, by rw [show rootQ root F S i 1 = F.at_ m by rw [HMN.out.1]; rfl]; exact HQh.out⟩
              case measure => simp [intOf]
            | false =>
              rw [hfq] at HFq
              have HFq := Lib.hid HFq
              have Hfq := Lib.hid hfq
              clear hfq
              go_wp2_with (first
                | (with_reducible refine ld_pq rfl _ rfl b1 (m * 3) (F.at_ m) rfl hq ?_)
                | (refine st_pt2 rfl (.tmp 14) (.tmp 60) rfl b14 _ (F.at_ m).1 (F.at_ m).2.1 (F.at_ m).2.2 rfl rfl HQ.out.box.blk rfl ?_; intro wg hBg hkg)
                | (with_reducible refine ld_ptr rfl (.tmp 14) rfl b14 32 (F.at_ m).1 (F.at_ m).2.1 (F.at_ m).2.2 rfl hBg ?_))
              have hcg := hkg (· = b14) rfl
              have HWg := Lib.hid (HW.out.aside HQ.out HB14.out hcg)
              have HQg := Lib.hid (HQ.out.put hBg rfl)
              clear HW HQ hBg hkg hcg hq
              refine Calls.mono (HFq.out _ HWg.out.sta.st.chg) ?_
              rintro e wh ⟨rfl, hbh⟩
              have HWh := Lib.hid (HWg.out.later hbh)
              have HQh := Lib.hid (HQg.out.later hbh)
              clear HWg HQg hbh HFq
              go_wp2_with fail
              go_roundw
              case rel =>
                have hff : f (F.at_ (i / 8)) = false := by rw [← HMN.out.1]; exact Hfq.out
                have e2 : wkN f F S (i + 1) = wkN f F S i := by rw [wkN_succ, if_neg (by unfold wkB; rw [hff, Bool.false_and]; decide), List.append_nil]
                have hw := HWh.out
                rw [← wkP_no0 hff, ← e2] at hw
                exact ⟨i + 1, _, F, N1, HI.out, by go_num, nodes_no0 hff, hw⟩
              case measure => have := HI.out; simp [intOf]; omega
          · have hL : wkQ f root F S i 1 = wkQ f root F S i 0 := by rw [wkQ_at0, if_neg h0, List.append_nil]
            have hr : ((i : Int) % 64 == 0) = false := by rw [beq_eq_false_iff_ne]; omega
            obtain rfl : F = N0 := (hN.1 (.inl h0)).symm
            rw [← hL] at hwk
            have HW := Lib.hid hwk
            have HQ := Lib.hid hqb
            clear hwk hqb hN h0 hL
            have hq := HW.out.at0 m (by have := HMN.out; have := HI.out; omega)
            have HFq := HF.out (F.at_ m)
            cases hfq : f (F.at_ m) with
            | true =>
              rw [hfq] at HFq
              have HFq := Lib.hid HFq
              have Hfq := Lib.hid hfq
              clear hfq
              go_wp2_with (first
                | (with_reducible refine ld_pq rfl _ rfl b1 (m * 3) (F.at_ m) rfl hq ?_)
                | (refine st_pt2 rfl (.tmp 14) (.tmp 60) rfl b14 _ (F.at_ m).1 (F.at_ m).2.1 (F.at_ m).2.2 rfl rfl HQ.out.box.blk rfl ?_; intro wg hBg hkg)
                | (with_reducible refine ld_ptr rfl (.tmp 14) rfl b14 32 (F.at_ m).1 (F.at_ m).2.1 (F.at_ m).2.2 rfl hBg ?_))
              have hcg := hkg (· = b14) rfl
              have HWg := Lib.hid (HW.out.aside HQ.out HB14.out hcg)
              have HQg := Lib.hid (HQ.out.put hBg rfl)
              clear HW HQ hBg hkg hcg hq
              refine Calls.mono (HFq.out _ HWg.out.sta.st.chg) ?_
              rintro e wh ⟨rfl, hbh⟩
              have HWh := Lib.hid (HWg.out.later hbh)
              have HQh := Lib.hid (HQg.out.later hbh)
              clear HWg HQg hbh HFq
              go_wp2_with fail
              go_roundw
              case rel => exact ⟨1, _, F, N1, by omega, rfl, ⟨fun _ => rfl, fun h => HNN.out (h.elim id fun h => absurd h (by omega)), fun _ => by rw [← HMN.out.1]; exact Hfq.out, fun h => absurd h (by omega)⟩, HWh.out, by rw [show rootQ root F S i 1 = F.at_ m by rw [HMN.out.1]; rfl]; exact HQh.out⟩
              case measure => simp [intOf]
            | false =>
              rw [hfq] at HFq
              have HFq := Lib.hid HFq
              have Hfq := Lib.hid hfq
              clear hfq
              go_wp2_with (first
                | (with_reducible refine ld_pq rfl _ rfl b1 (m * 3) (F.at_ m) rfl hq ?_)
                | (refine st_pt2 rfl (.tmp 14) (.tmp 60) rfl b14 _ (F.at_ m).1 (F.at_ m).2.1 (F.at_ m).2.2 rfl rfl HQ.out.box.blk rfl ?_; intro wg hBg hkg)
                | (with_reducible refine ld_ptr rfl (.tmp 14) rfl b14 32 (F.at_ m).1 (F.at_ m).2.1 (F.at_ m).2.2 rfl hBg ?_))
              have hcg := hkg (· = b14) rfl
              have HWg := Lib.hid (HW.out.aside HQ.out HB14.out hcg)
              have HQg := Lib.hid (HQ.out.put hBg rfl)
              clear HW HQ hBg hkg hcg hq
              refine Calls.mono (HFq.out _ HWg.out.sta.st.chg) ?_
              rintro e wh ⟨rfl, hbh⟩
              have HWh := Lib.hid (HWg.out.later hbh)
              have HQh := Lib.hid (HQg.out.later hbh)
              clear HWg HQg hbh HFq
              go_wp2_with fail
              go_roundw
              case rel =>
                have hff : f (F.at_ (i / 8)) = false := by rw [← HMN.out.1]; exact Hfq.out
                have e2 : wkN f F S (i + 1) = wkN f F S i := by rw [wkN_succ, if_neg (by unfold wkB; rw [hff, Bool.false_and]; decide), List.append_nil]
                have hw := HWh.out
                rw [← wkP_no0 hff, ← e2] at hw
                exact ⟨i + 1, _, F, N1, HI.out, by go_num, nodes_no0 hff, hw⟩
              case measure => have := HI.out; simp [intOf]; omega
        · rw [show ((1 : Nat) : Int) = 1 from rfl]
          have hix : ∀ w, (Instr.index 66 (.agg #[.int .i64 (m : Int), .int .i64 (n : Int)]) (.int .i64 1)).run Try.prog w = .ok (.int .i64 (n : Int)) w := run_ix2 _ _ 1 (by omega)
          have hbl : wr.cell? ⟨b2, 1, none⟩ = some (.int .i64 8) := hwk.bb.box.blk.cell 1
          have hm8 : (m : Int) < 8 := by have := HMN.out; have := HI.out; omega
          have hn8 : (n : Int) < 8 := by have := HMN.out; omega
          rw [show rootQ root F S i 1 = F.at_ m by rw [HMN.out.1]; rfl] at hqb
          have HNN : Hid (f (F.at_ (i / 8)) = true) := Lib.hid (hN.2.2.1 (by omega))
          obtain rfl : F = N0 := (hN.1 (.inr (by omega))).symm
          by_cases h0 : i % 8 = 0
          · have HL : Hid (wkQ f root F S i 2 = wkQ f root F S i 1 ++ [F.at_ m]) := Lib.hid (by rw [wkQ_at1, if_pos h0, HMN.out.1])
            have hr : ((i : Int) % 8 == 0) = true := by rw [beq_iff_eq]; omega
            have HW := Lib.hid hwk
            have HQ := Lib.hid hqb
            clear hwk hqb hN h0
            go_wp2_with (with_reducible refine ld_ptr rfl (.tmp 14) rfl b14 32 (F.at_ m).1 (F.at_ m).2.1 (F.at_ m).2.2 rfl HQ.out.box.blk ?_)
            refine Calls.mono (HM.out m (by have := HMN.out; have := HI.out; omega) _ _ HW.out.sta.at_) ?_
            rintro e w6 ⟨O6, rfl, hp6, hs6⟩
            have hw6 := HW.out.call hp6 hs6
            have hq6 := HQ.out.step hs6
            have HX := Lib.hid (hw6.new 67 zp8.cs.toArray)
            have HW6 := Lib.hid (hw6.alloc (.cells zp8.cs.toArray 67))
            have HQ6 := Lib.hid (hq6.later ((Below.refl w6.heap.size w6).alloc (Nat.le_refl _) (.cells zp8.cs.toArray 67)))
            have H17 : Hid (b14 < w6.heap.size ∧ B ≤ w6.heap.size ∧ b1 < B) := Lib.hid ⟨hq6.lt, hw6.lo.2, by have := hw6.lo.1; omega⟩
            clear HW HQ hw6 hq6 hp6 hs6
            generalize hb17 : w6.heap.size = b17 at *
            go_wp2_with (refine st_p8c rfl (.tmp 17) (.tmp 44) rfl b17 _ _ (S m) rfl rfl HX.out.box.blk ?_; intro wb hBb hcb)
            have HWb := Lib.hid (HW6.out.aside HX.out H17.out.2.1 hcb)
            have HQb := Lib.hid (HQ6.out.aside hcb (by have := H17.out; omega))
            have HXb := Lib.hid (HX.out.put hBb rfl)
            clear HW6 HQ6 HX hBb hcb hb17
            have hd := (Below.refl wb.heap.size wb).drew
            have HWc := Lib.hid (HWb.out.later hd)
            have HQc := Lib.hid (HQb.out.later hd)
            have HXc := Lib.hid (HXb.out.later hd)
            clear HWb HQb HXb hd
            refine wp_region_held_drew (S := (fun w' => Blk w' b17 67 (S m).cs.toArray ∧ Blk w' b14 32 (pcs (F.at_ m).1 (F.at_ m).2.1 (F.at_ m).2.2))) (by kernel_rfl) ⟨HXc.out.box.blk, HQc.out.box.blk⟩ (fun hHeld => ?_)
            generalize wb.drew = wc at *
            refine wpAnyH_take (i := 0) (v := (.int .i64 1)) rfl (by kernel_rfl) (by kernel_rfl) (by kernel_rfl) (fun _ _ _ h => h) (Or.inl ⟨by rfl, ?_⟩) (by assumption) ?_
            · intro w' hS; go_simp; try with_reducible rfl
            try simp [Act.put]
            refine wpAnyH_take (i := 1) (v := (.agg (S m).cs.toArray)) rfl (by kernel_rfl) (by kernel_rfl) (by kernel_rfl) (fun _ _ _ h => h) (Or.inl ⟨by rfl, ?_⟩) (by assumption) ?_
            · intro w' hS
              exact ex_ldP8c (.tmp 17) rfl b17 _ (S m) rfl hS.1
            try simp [Act.put]
            refine wpAnyH_take (i := 2) (v := u9) rfl (by kernel_rfl) (by kernel_rfl) (by kernel_rfl) (fun _ _ _ h => h) (Or.inl ⟨by rfl, ?_⟩) (by assumption) ?_
            · intro w' hS; go_simp; try with_reducible rfl
            try simp [Act.put]
            refine wpAnyH_take (i := 3) (v := (ptq (F.at_ m))) rfl (by kernel_rfl) (by kernel_rfl) (by kernel_rfl) (fun _ _ _ h => h) (Or.inl ⟨by rfl, ?_⟩) (by assumption) ?_
            · intro w' hS
              exact ex_ldPq (.tmp 14) rfl b14 (F.at_ m).1 (F.at_ m).2.1 (F.at_ m).2.2 rfl hS.2
            try simp [Act.put]
            refine wpAnyH_take (i := 6) (v := (.pointer (some ⟨b1, 24, none⟩))) rfl (by kernel_rfl) (by kernel_rfl) (by kernel_rfl) (fun _ _ _ h => h) (Or.inl ⟨by rfl, ?_⟩) (by assumption) ?_
            · intro w' hS; go_simp; try with_reducible rfl
            try simp [Act.put]
            refine wpAnyH_ready (rs := [4]) (by kernel_rfl) (by simp) ?_
            refine AllReadyH.cons rfl (fun K hK => ?_) AllReadyH.nil
            go_simp
            have hal := (Below.refl wc.heap.size wc).alloc (Nat.le_refl _) (.cells (pcs (F.at_ m).1 (F.at_ m).2.1 (F.at_ m).2.2) 32)
            have HWd := Lib.hid (HWc.out.later hal)
            have HQd := Lib.hid (HQc.out.later hal)
            have HXd := Lib.hid (HXc.out.later hal)
            have HGd := Lib.hid (Blk.new wc 32 (pcs (F.at_ m).1 (F.at_ m).2.1 (F.at_ m).2.2))
            refine hK.out _ _ ⟨HXd.out.box.blk, HQd.out.box.blk⟩ (fun hHeld2 => ?_)
            clear HWc HQc HXc hal
            clear hK K
            try simp
            clear hHeld
            have hHeld := hHeld2
            clear hHeld2
            generalize wc.alloc (.cells (pcs (F.at_ m).1 (F.at_ m).2.1 (F.at_ m).2.2) 32) = wd at *
            generalize wc.heap.size = gE at *
            refine wpAnyH_ready (rs := [5]) (by kernel_rfl) (by simp) ?_
            refine AllReadyH.cons rfl (fun K hK => ?_) AllReadyH.nil
            refine step_appP rfl 51 53 rfl B u9 (wkQ f root F S i 1) rfl HWd.out.rq.own (F.at_ m) gE HGd.out rfl HWd.out.lo.2 (Nat.le_trans (wkQ_len HI.out 1) (by omega)) ?_
            intro v9 we ho hg hn9
            have HWe := Lib.hid (HWd.out.appQ hg ho hn9)
            have HQe := Lib.hid (HQd.out.appQ hg hn9)
            have HXe := Lib.hid (HXd.out.appQ hg hn9)
            refine hK.out _ _ ⟨HXe.out.box.blk, HQe.out.box.blk⟩ (fun hHeld2 => ?_)
            clear HWd HQd HXd HGd ho hg hn9
            clear hK K
            try simp
            clear hHeld
            have hHeld := hHeld2
            clear hHeld2
            refine wpAnyH_ready (rs := [7]) (by kernel_rfl) (by simp) ?_
            refine AllReadyH.cons rfl (fun K hK => ?_) AllReadyH.nil
            refine step_stN2 rfl (.tmp 55) (.tmp 50) rfl b1 _ _ _ 1 (by omega) (S m) _ rfl rfl rfl HWe.out.nb.box.blk ?_
            intro wf hBf hcf2
            have hBf2 : Blk wf b1 68 (n2 F (S m)).toArray := hBf
            have HWf := HWe.out.node hBf2 hcf2
            have HQ := Lib.hid (HQe.out.aside hcf2 (by have := H17.out; have := HB14.out; omega))
            have HXf := HXe.out.aside hcf2 (by have := H17.out; have := HB14.out; omega)
            refine hK.out _ _ ⟨HXf.box.blk, HQ.out.box.blk⟩ (fun hHeld2 => ?_)
            rw [← HL.out] at HWf
            have HW := Lib.hid HWf
            clear HWe HQe HXe HXf HWf hBf hBf2 hcf2 H17
            clear hK K
            try simp
            clear hHeld
            have hHeld := hHeld2
            clear hHeld2
            refine wpAnyH_take (i := 8) (v := v9) rfl (by kernel_rfl) (by kernel_rfl) (by kernel_rfl) (fun _ _ _ h => h) (Or.inl ⟨by rfl, ?_⟩) (by assumption) ?_
            · intro w' hS; go_simp; try with_reducible rfl
            try simp [Act.put]
            refine wpAnyH_done (by kernel_rfl) ?_ _
            clear hHeld
            have hq := HW.out.at1 n (by have := HMN.out; have := HI.out; omega)
            have HFq := HF.out ((S m).at_ n)
            cases hfq : f ((S m).at_ n) with
            | true =>
              rw [hfq] at HFq
              have HFq := Lib.hid HFq
              have Hfq := Lib.hid hfq
              clear hfq
              go_wp2_with (first
                | (with_reducible refine ld_pq rfl _ rfl b1 (24 + n * 3) ((S m).at_ n) rfl hq ?_)
                | (refine st_pt2 rfl (.tmp 14) (.tmp 60) rfl b14 _ ((S m).at_ n).1 ((S m).at_ n).2.1 ((S m).at_ n).2.2 rfl rfl HQ.out.box.blk rfl ?_; intro wg hBg hkg)
                | (with_reducible refine ld_ptr rfl (.tmp 14) rfl b14 32 ((S m).at_ n).1 ((S m).at_ n).2.1 ((S m).at_ n).2.2 rfl hBg ?_))
              have hcg := hkg (· = b14) rfl
              have HWg := Lib.hid (HW.out.aside HQ.out HB14.out hcg)
              have HQg := Lib.hid (HQ.out.put hBg rfl)
              clear HW HQ hBg hkg hcg hq
              refine Calls.mono (HFq.out _ HWg.out.sta.st.chg) ?_
              rintro e wh ⟨rfl, hbh⟩
              have HWh := Lib.hid (HWg.out.later hbh)
              have HQh := Lib.hid (HQg.out.later hbh)
              clear HWg HQg hbh HFq
              go_wp2_with fail
              go_roundw
              case rel => exact ⟨2, _, F, S m, by omega, rfl, ⟨fun _ => rfl, fun _ => by rw [HMN.out.1], fun _ => HNN.out, fun _ => by unfold blkQ; rw [← HMN.out.1, ← HMN.out.2]; exact Hfq.out⟩, HWh.out, by rw [show rootQ root F S i 2 = (S m).at_ n by rw [HMN.out.1, HMN.out.2]; rfl]; exact HQh.out⟩
              case measure => simp [intOf]
            | false =>
              rw [hfq] at HFq
              have HFq := Lib.hid HFq
              have Hfq := Lib.hid hfq
              clear hfq
              go_wp2_with (first
                | (with_reducible refine ld_pq rfl _ rfl b1 (24 + n * 3) ((S m).at_ n) rfl hq ?_)
                | (refine st_pt2 rfl (.tmp 14) (.tmp 60) rfl b14 _ ((S m).at_ n).1 ((S m).at_ n).2.1 ((S m).at_ n).2.2 rfl rfl HQ.out.box.blk rfl ?_; intro wg hBg hkg)
                | (with_reducible refine ld_ptr rfl (.tmp 14) rfl b14 32 ((S m).at_ n).1 ((S m).at_ n).2.1 ((S m).at_ n).2.2 rfl hBg ?_))
              have hcg := hkg (· = b14) rfl
              have HWg := Lib.hid (HW.out.aside HQ.out HB14.out hcg)
              have HQg := Lib.hid (HQ.out.put hBg rfl)
              clear HW HQ hBg hkg hcg hq
              refine Calls.mono (HFq.out _ HWg.out.sta.st.chg) ?_
              rintro e wh ⟨rfl, hbh⟩
              have HWh := Lib.hid (HWg.out.later hbh)
              have HQh := Lib.hid (HQg.out.later hbh)
              clear HWg HQg hbh HFq
              go_wp2_with fail
              go_roundw
              case rel =>
                have hff : f (blkQ S i) = false := by unfold blkQ; rw [← HMN.out.1, ← HMN.out.2]; exact Hfq.out
                have e2 : wkN f F S (i + 1) = wkN f F S i := by rw [wkN_succ, if_neg (by unfold wkB; rw [hff, Bool.and_false]; decide), List.append_nil]
                have hw := HWh.out
                rw [← wkP_no1 HNN.out hff, ← e2] at hw
                exact ⟨i + 1, _, F, S m, HI.out, by go_num, by rw [HMN.out.1]; exact nodes_next, hw⟩
              case measure => have := HI.out; simp [intOf]; omega
          · have hL : wkQ f root F S i 2 = wkQ f root F S i 1 := by rw [wkQ_at1, if_neg h0, List.append_nil]
            have hr : ((i : Int) % 8 == 0) = false := by rw [beq_eq_false_iff_ne]; omega
            obtain rfl : N1 = S m := by rw [HMN.out.1]; exact hN.2.1 (.inl ⟨h0, HNN.out⟩)
            rw [← hL] at hwk
            have HW := Lib.hid hwk
            have HQ := Lib.hid hqb
            clear hwk hqb hN h0 hL
            have hq := HW.out.at1 n (by have := HMN.out; have := HI.out; omega)
            have HFq := HF.out ((S m).at_ n)
            cases hfq : f ((S m).at_ n) with
            | true =>
              rw [hfq] at HFq
              have HFq := Lib.hid HFq
              have Hfq := Lib.hid hfq
              clear hfq
              go_wp2_with (first
                | (with_reducible refine ld_pq rfl _ rfl b1 (24 + n * 3) ((S m).at_ n) rfl hq ?_)
                | (refine st_pt2 rfl (.tmp 14) (.tmp 60) rfl b14 _ ((S m).at_ n).1 ((S m).at_ n).2.1 ((S m).at_ n).2.2 rfl rfl HQ.out.box.blk rfl ?_; intro wg hBg hkg)
                | (with_reducible refine ld_ptr rfl (.tmp 14) rfl b14 32 ((S m).at_ n).1 ((S m).at_ n).2.1 ((S m).at_ n).2.2 rfl hBg ?_))
              have hcg := hkg (· = b14) rfl
              have HWg := Lib.hid (HW.out.aside HQ.out HB14.out hcg)
              have HQg := Lib.hid (HQ.out.put hBg rfl)
              clear HW HQ hBg hkg hcg hq
              refine Calls.mono (HFq.out _ HWg.out.sta.st.chg) ?_
              rintro e wh ⟨rfl, hbh⟩
              have HWh := Lib.hid (HWg.out.later hbh)
              have HQh := Lib.hid (HQg.out.later hbh)
              clear HWg HQg hbh HFq
              go_wp2_with fail
              go_roundw
              case rel => exact ⟨2, _, F, S m, by omega, rfl, ⟨fun _ => rfl, fun _ => by rw [HMN.out.1], fun _ => HNN.out, fun _ => by unfold blkQ; rw [← HMN.out.1, ← HMN.out.2]; exact Hfq.out⟩, HWh.out, by rw [show rootQ root F S i 2 = (S m).at_ n by rw [HMN.out.1, HMN.out.2]; rfl]; exact HQh.out⟩
              case measure => simp [intOf]
            | false =>
              rw [hfq] at HFq
              have HFq := Lib.hid HFq
              have Hfq := Lib.hid hfq
              clear hfq
              go_wp2_with (first
                | (with_reducible refine ld_pq rfl _ rfl b1 (24 + n * 3) ((S m).at_ n) rfl hq ?_)
                | (refine st_pt2 rfl (.tmp 14) (.tmp 60) rfl b14 _ ((S m).at_ n).1 ((S m).at_ n).2.1 ((S m).at_ n).2.2 rfl rfl HQ.out.box.blk rfl ?_; intro wg hBg hkg)
                | (with_reducible refine ld_ptr rfl (.tmp 14) rfl b14 32 ((S m).at_ n).1 ((S m).at_ n).2.1 ((S m).at_ n).2.2 rfl hBg ?_))
              have hcg := hkg (· = b14) rfl
              have HWg := Lib.hid (HW.out.aside HQ.out HB14.out hcg)
              have HQg := Lib.hid (HQ.out.put hBg rfl)
              clear HW HQ hBg hkg hcg hq
              refine Calls.mono (HFq.out _ HWg.out.sta.st.chg) ?_
              rintro e wh ⟨rfl, hbh⟩
              have HWh := Lib.hid (HWg.out.later hbh)
              have HQh := Lib.hid (HQg.out.later hbh)
              clear HWg HQg hbh HFq
              go_wp2_with fail
              go_roundw
              case rel =>
                have hff : f (blkQ S i) = false := by unfold blkQ; rw [← HMN.out.1, ← HMN.out.2]; exact Hfq.out
                have e2 : wkN f F S (i + 1) = wkN f F S i := by rw [wkN_succ, if_neg (by unfold wkB; rw [hff, Bool.and_false]; decide), List.append_nil]
                have hw := HWh.out
                rw [← wkP_no1 HNN.out hff, ← e2] at hw
                exact ⟨i + 1, _, F, S m, HI.out, by go_num, by rw [HMN.out.1]; exact nodes_next, hw⟩
              case measure => have := HI.out; simp [intOf]; omega
        · rw [show ((2 : Nat) : Int) = 2 from rfl]
          obtain rfl : F = N0 := (hN.1 (.inr (by omega))).symm
          have HF1 := Lib.hid (hN.2.2.1 (by omega))
          have HF2 := Lib.hid (hN.2.2.2 (by omega))
          have hN1 : N1 = S (i / 8) := hN.2.1 (.inr (by omega))
          have hqb : Wx w wr Oq u9 u10 b14 32 (pcs (blkQ S i).1 (blkQ S i).2.1 (blkQ S i).2.2) := hqb
          have HW := Lib.hid hwk
          have HQ := Lib.hid hqb
          have HN1 := Lib.hid hN1
          clear hwk hqb hN hN1
          go_wp2_with (first
            | (with_reducible refine ld_ptr rfl (.tmp 14) rfl b14 32 (blkQ S i).1 (blkQ S i).2.1 (blkQ S i).2.2 rfl HQ.out.box.blk ?_)
            | (at_builtin; refine app_ptr rfl 66 68 rfl B u9 (wkQ f root F S i 2) rfl HW.out.rq.own (blkQ S i) wr.heap.size rfl rfl HW.out.lo.2 (Nat.le_trans (wkQ_len HI.out 2) (by omega)) ?_; intro v9 we ho hg hn9; have HWe := Lib.hid (HW.out.appQ' _ hg ho hn9))
            | (at_builtin; refine app_intw rfl 70 72 rfl B u10 (wkN f F S i) rfl HWe.out.rn.own (i : Int) rfl HWe.out.lo.2 (Nat.le_trans (wkN_len i) (by have := HI.out; omega)) ?_; intro va wf ho2 hg2 hna; have HWf := Lib.hid (HWe.out.appN' _ hg2 ho2 hna)))
          go_roundw
          case rel =>
            have hw := HWf.out
            have e2 : wkN f F S (i + 1) = wkN f F S i ++ [(i : Int)] := by rw [wkN_succ, if_pos (by unfold wkB; rw [HF1.out, HF2.out]; rfl)]
            rw [← wkP_yes HF1.out HF2.out, ← e2] at hw
            exact ⟨i + 1, _, F, _, HI.out, by go_num, by rw [HN1.out]; exact nodes_next, hw⟩
          case measure => have := HI.out; simp [intOf]; omega
    · obtain rfl : i = 64 := by omega
      have HW := Lib.hid hwk
      clear hwk hN
      rw [show ((64 : Nat) : Int) = 64 from rfl]
      obtain ⟨A, d, rfl, hr1⟩ := HW.out.rq.out (w0 := w) HW.out.lo.1.2.2.2 (fun h => by rw [pqs_len] at h; omega)
      obtain ⟨A2, d2, rfl, hr2⟩ := HW.out.rn.out (w0 := w) HW.out.lo.1.2.2.2 (fun h => by simpa [ints] using h)
      go_wp2_with fail
      rw [Exit.noGoto_ret]
      go_ret3
      exact ⟨Oq, A, d, A2, d2, rfl, HW.out.sta.at_, hr1, hr2, HW.out.sta.st⟩
theorem cf37 : ∀ args w, Sem.run Try.prog (callFunc 37 args) w = .ok (.enter 37 args) w := by
  intro args w
  go_simp
theorem cf38 : ∀ args w, Sem.run Try.prog (callFunc 38 args) w = .ok (.enter 38 args) w := by
  intro args w
  go_simp
end
end
section
open Go.RowKit

theorem tmade_any (x : Int) (w : World) (hx : I64 x) : Calls Try.prog 9 #[.int .i64 x] w fun e w' => ∃ O g, e = .returned (.pointer (some ⟨g, 0, none⟩)) ∧ PileAt w' O g (newPw x) ∧ (∀ k, O k → w.heap.size ≤ k) ∧ Below w.heap.size w w' := by
  have HD := Lib.hid (new_any x w)
  go_enter Try.func9, Try.ntmps9
  go_wp2_with fail
  refine Calls.mono HD.out ?_
  rintro e w1 ⟨D, rfl, h1, hb1⟩
  have HM := Lib.hid (mnew_any x w1 hx)
  go_wp2_with fail
  refine Calls.mono HM.out ?_
  rintro e w2 ⟨O2, gm, rfl, h2, hO2, hb2⟩
  have HP := Lib.hid (pileNew_any D.g gm 1 0 w2)
  have HH := Lib.hid (And.intro h1 (And.intro h2 (And.intro hO2 (And.intro hb1 hb2))))
  clear h1 h2 hO2 hb1 hb2 HD HM
  go_wp2_with fail
  refine Calls.mono HP.out ?_
  rintro e w3 ⟨g, rfl, hg, hbl, hb3⟩
  go_wp2_with fail
  go_ret
  obtain ⟨h1, h2, hO2, hb1, hb2⟩ := HH.out
  have hgm : w1.heap.size ≤ gm := hO2 gm ((h2.own gm).2 rfl)
  have hb13 : Below w1.heap.size w1 w3 := hb2.trans (hb3.mono hb2.size)
  have hd : At w3 w.heap.size (newPw x).nw.length D (.slice none 0 0) (newSt (manyF x)) := by
    have e : (newPw x).nw.length = manyF x := by show (List.replicate _ zsec).length = _; rw [List.length_replicate]; rfl
    rw [e]
    exact h1.chg (O := fun _ => False) (Chg.of_below hb13) fun _ _ => id
  have hmt : (newMp x).tot ≤ (newPw x).nw.length := by
    show _ ≤ (List.replicate _ zsec).length
    rw [List.length_replicate]
    show (min (max x 0) 1024).toNat ≤ _
    omega
  have hP : PAt w3 w.heap.size g D (.slice none 0 0) gm (newSt (manyF x)) (newPw x) :=
    ⟨hbl, hd, ⟨h2.blk.below hb3 h2.blk.lt, fun _ => Iff.rfl, h2.tot, h2.two⟩, rfl, rfl, rfl, Nat.le_refl _, ⟨Nat.le_trans hb1.size (Nat.le_trans hb2.size hg), Nat.le_trans hb1.size hgm⟩, hmt, by show 1 < _; omega, by show 0 < _; omega⟩
  refine ⟨pown D (.slice none 0 0) g gm, g, rfl, ⟨_, _, _, _, _, hP, fun _ => Iff.rfl⟩, fun k hk => ?_, hb1.trans (hb13.mono hb1.size)⟩
  rcases hk with rfl | rfl | hk
  · exact hP.bg.1
  · exact hP.bg.2
  · exact hP.dev.ge k hk
theorem RdF.mono {w w1 w' : World} {O : Nat → Prop} {A : Option Addr} {xs : List Value} (h : RdF w1 w' O A xs) (hle : w.heap.size ≤ w1.heap.size) : RdF w w' O A xs := ⟨h.toRdA, fun b off e hn => Nat.le_trans hle (h.fresh b off e hn)⟩
section
variable {w : World} {O : Nat → Prop} {g : Nat} {P : Pw} {root : PtrV} {F : P8} {S : Nat → P8} {T : Nat → Sec}
set_option maxHeartbeats 2000000 in
theorem walkNo_any (f : PtrV → Bool) (fn : FuncId) (cap : Array Value) (hcf : ∀ args w, Sem.run Try.prog (callFunc fn args) w = .ok (.enter fn args) w)
    (h : PileAt w O g P) (hf : ∀ (q : PtrV) (w' : World), Chg w w' O → Calls Try.prog fn (#[ptq q] ++ cap) w' fun e w'' => e = .returned (.bool (f q)) ∧ Below w'.heap.size w' w'') (hroot : f root = false) :
    Calls Try.prog 36 #[.pointer (some ⟨g, 0, none⟩), ptq root, .func (.func fn) #[] cap] w
      fun e w' => e = .returned (.tuple #[.slice none 0 0, .slice none 0 0, .int .i64 0]) ∧ PileAt w' O g P ∧ Step w w' O O := by
  obtain ⟨W, hW⟩ : ∃ W, W = w.alloc (.cells (pcs root.1 root.2.1 root.2.2) 32) := ⟨_, rfl⟩
  have hs : Sta w O W O g P := by rw [hW]; exact (Sta.first h).alloc _
  have hbr : Bx w W O w.heap.size 32 (pcs root.1 root.2.1 root.2.2) := by rw [hW]; exact Bx.new (Sta.first h) _ _
  have HA := Lib.hid (And.intro hs hbr)
  have HR := hf root W hs.st.chg
  rw [hroot] at HR
  have HR := Lib.hid HR
  clear h hf hs hbr hroot
  go_enter Try.func36, Try.ntmps36
  go_upto_region 1 with (fail)
  rw [← hW]
  clear hW
  go_step3
  go_wp2_with (with_reducible refine ld_ptr rfl (.tmp 4) rfl w.heap.size 32 root.1 root.2.1 root.2.2 rfl HA.out.2.blk ?_)
  refine Calls.mono HR.out ?_
  rintro e w1 ⟨rfl, hb1⟩
  have ha1 := HA.out.1.far hb1
  clear hb1 HA HR
  go_wp2_with fail
  rw [Exit.noGoto_ret]
  go_ret3
  exact ⟨rfl, ha1.at_, ha1.st⟩
theorem blocks1_any (q : PtrV) (w : World) : Calls Try.prog 37 (#[ptq q] ++ #[]) w fun e w' => e = .returned (.bool (nonH q)) ∧ Below w.heap.size w w' := by
  have H0 : Hid (Blk (w.alloc (.cells (pcs q.1 q.2.1 q.2.2) 32)) w.heap.size 32 (pcs q.1 q.2.1 q.2.2) ∧ Below w.heap.size w (w.alloc (.cells (pcs q.1 q.2.1 q.2.2) 32))) := ⟨Blk.new _ _ _, (Below.refl _ _).alloc (Nat.le_refl _) _⟩
  have HH := Lib.hid (thole_any q.1 q.2.1 q.2.2)
  rw [show (#[ptq q] ++ #[] : Array Value) = #[ptq q] from rfl]
  go_enter Try.func37, Try.ntmps37
  go_wp2_with (with_reducible refine ld_ptr rfl (.tmp 1) rfl w.heap.size 32 q.1 q.2.1 q.2.2 rfl H0.out.1 ?_)
  refine Calls.mono (HH.out _) ?_
  rintro e w1 ⟨rfl, hb1⟩
  go_wp2_with fail
  go_ret
  exact ⟨rfl, H0.out.2.trans (hb1.mono H0.out.2.size)⟩
theorem all1_any (q : PtrV) (t : Nat) (gb : Nat) (w : World) (hb : Blk w gb 29 #[.int .u64 (t : Int)]) : Calls Try.prog 38 (#[ptq q] ++ #[.pointer (some ⟨gb, 0, none⟩)]) w fun e w' => e = .returned (.bool (sinceQ (t : Int) q)) ∧ Below w.heap.size w w' := by
  have H0 : Hid (Blk (w.alloc (.cells (pcs q.1 q.2.1 q.2.2) 32)) w.heap.size 32 (pcs q.1 q.2.1 q.2.2) ∧ Below w.heap.size w (w.alloc (.cells (pcs q.1 q.2.1 q.2.2) 32))) := ⟨Blk.new _ _ _, (Below.refl _ _).alloc (Nat.le_refl _) _⟩
  have hc : (w.alloc (.cells (pcs q.1 q.2.1 q.2.2) 32)).cell? ⟨gb, 0, none⟩ = some (.int .u64 (t : Int)) := (hb.below H0.out.2 hb.lt).cell 0
  have HH := Lib.hid (since_any q.1 q.2.1 q.2.2 (t : Int))
  rw [show (#[ptq q] ++ #[.pointer (some ⟨gb, 0, none⟩)] : Array Value) = #[ptq q, .pointer (some ⟨gb, 0, none⟩)] from rfl]
  go_enter Try.func38, Try.ntmps38
  go_wp2_with (with_reducible refine ld_ptr rfl (.tmp 2) rfl w.heap.size 32 q.1 q.2.1 q.2.2 rfl H0.out.1 ?_)
  refine Calls.mono (HH.out _) ?_
  rintro e w1 ⟨rfl, hb1⟩
  go_wp2_with fail
  go_ret
  exact ⟨rfl, H0.out.2.trans (hb1.mono H0.out.2.size)⟩
theorem rdF_none (w w' : World) (O : Nat → Prop) : RdF w w' O none [] := ⟨⟨Rd.nil, fun b off e => by cases e⟩, fun b off e => by cases e⟩
set_option maxHeartbeats 2000000 in
theorem tblocks_any (h : PileAt w O g P) (ok : OkW P) (t : Tree P root F S T) : Calls Try.prog 14 #[.pointer (some ⟨g, 0, none⟩), ptq root] w
    fun e w' => ∃ O' B d, e = .returned (.tuple #[.slice B (blkL S).length d, .int .i64 0]) ∧ PileAt w' O' g P ∧ RdF w w' O' B (ints (natI64 (blkL S))) ∧ Step w w' O O' := by
  obtain ⟨W, hW⟩ : ∃ W, W = w.alloc (.cells (pcs root.1 root.2.1 root.2.2) 32) := ⟨_, rfl⟩
  have hs : Sta w O W O g P := by rw [hW]; exact (Sta.first h).alloc _
  have hbr : Bx w W O w.heap.size 32 (pcs root.1 root.2.1 root.2.2) := by rw [hW]; exact Bx.new (Sta.first h) _ _
  have HA := Lib.hid (And.intro hs hbr)
  have key : ∃ L : List Int, L = natI64 (blkL S) ∧ L.length = (blkL S).length ∧ Calls Try.prog 36 #[.pointer (some ⟨g, 0, none⟩), ptq root, .func (.func 37) #[] #[]] W
      fun e w' => ∃ O' u A2 d2, e = .returned (.tuple #[u, .slice A2 L.length d2, .int .i64 0]) ∧ PileAt w' O' g P ∧ RdF W w' O' A2 (ints L) ∧ Step W w' O O' := by
    refine ⟨_, rfl, by unfold natI64; rw [List.length_map], ?_⟩
    by_cases hr : nonH root = true
    · have hw := walk_any hs.at_ ok t nonH 37 #[] cf37 (fun q w' _ => blocks1_any q w') hr
      rw [wkN_blocks t] at hw
      exact hw.mono fun e w' ⟨O', A, d, A2, d2, e1, h1, h2, h3, h4⟩ => ⟨O', _, A2, d2, e1, h1, h3, h4⟩
    · have hr' : nonH root = false := by simpa using hr
      have hroot : root = hole0 := hole_iff.1 (by unfold nonH at hr'; simpa using hr')
      have hbl := blocks_none t hroot
      rw [hbl]
      exact (walkNo_any nonH 37 #[] cf37 hs.at_ (fun q w' _ => blocks1_any q w') hr').mono fun e w' ⟨e1, h1, h4⟩ => ⟨O, _, none, 0, e1, h1, rdF_none _ _ _, h4⟩
  obtain ⟨L, hL, hlen, hk⟩ := key
  rw [← hL, ← hlen]
  have HK := Lib.hid hk
  clear h hs hbr ok t hL hlen hk
  go_enter Try.func14, Try.ntmps14
  go_upto_region 1 with (fail)
  rw [← hW]
  clear hW
  go_wp2_with (with_reducible refine ld_ptr rfl (.tmp 3) rfl w.heap.size 32 root.1 root.2.1 root.2.2 rfl HA.out.2.blk ?_)
  refine Calls.mono HK.out ?_
  rintro e w1 ⟨O1, u, A2, d2, rfl, hp1, hr1, hs1⟩
  have HB := Lib.hid (And.intro (HA.out.1.call hp1 hs1) (hr1.mono HA.out.1.size))
  clear hp1 hr1 hs1 HA HK
  go_wp2_with fail
  go_ret2
  exact ⟨O1, A2, d2, rfl, HB.out.1.at_, HB.out.2, HB.out.1.st⟩
set_option maxHeartbeats 2000000 in
theorem tall_any (h : PileAt w O g P) (ok : OkW P) (t : Tree P root F S T) (st : Nat) : Calls Try.prog 17 #[.pointer (some ⟨g, 0, none⟩), ptq root, .int .u64 (st : Int)] w
    fun e w' => ∃ O' B d, e = .returned (.tuple #[.slice B (allL (st : Int) root F S).length d, .int .i64 0]) ∧ PileAt w' O' g P ∧ RdF w w' O' B (pqs (allL (st : Int) root F S)) ∧ Step w w' O O' := by
  obtain ⟨W, hW, hs, hbr, hbt⟩ := two_new (Sta.first h) 32 29 (pcs root.1 root.2.1 root.2.2) #[.int .u64 (st : Int)]
  have HA := Lib.hid (And.intro hs hbr)
  have key : ∃ L : List PtrV, L = allL (st : Int) root F S ∧ Calls Try.prog 36 #[.pointer (some ⟨g, 0, none⟩), ptq root, .func (.func 38) #[] #[.pointer (some ⟨w.heap.size + 1, 0, none⟩)]] W
      fun e w' => ∃ O' u A2 d2, e = .returned (.tuple #[.slice A2 L.length d2, u, .int .i64 0]) ∧ PileAt w' O' g P ∧ RdF W w' O' A2 (pqs L) ∧ Step W w' O O' := by
    have hf : ∀ (q : PtrV) (w' : World), Chg W w' O → Calls Try.prog 38 (#[ptq q] ++ #[.pointer (some ⟨w.heap.size + 1, 0, none⟩)]) w' fun e w'' => e = .returned (.bool (sinceQ (st : Int) q)) ∧ Below w'.heap.size w' w'' :=
      fun q w' c => all1_any q st _ w' (hbt.blk.chg c hbt.far)
    refine ⟨_, rfl, ?_⟩
    by_cases hr : sinceQ (st : Int) root = true
    · have hw := walk_any hs.at_ ok t (sinceQ (st : Int)) 38 _ cf38 hf hr
      rw [wkP_since _ _ _ _ hr] at hw
      exact hw.mono fun e w' ⟨O', A, d, A2, d2, e1, h1, h2, h3, h4⟩ => ⟨O', _, A, d, e1, h1, h2, h4⟩
    · have hr' : sinceQ (st : Int) root = false := by simpa using hr
      have hL : allL (st : Int) root F S = [] := if_neg hr
      rw [hL]
      exact (walkNo_any (sinceQ (st : Int)) 38 _ cf38 hs.at_ hf hr').mono fun e w' ⟨e1, h1, h4⟩ => ⟨O, _, none, 0, e1, h1, rdF_none _ _ _, h4⟩
  obtain ⟨L, hL, hk⟩ := key
  rw [← hL]
  have HK := Lib.hid hk
  clear h hs hbr hbt ok t hL hk
  go_enter Try.func17, Try.ntmps17
  go_upto_region 1 with (fail)
  rw [← hW]
  clear hW
  go_wp2_with (with_reducible refine ld_ptr rfl (.tmp 4) rfl w.heap.size 32 root.1 root.2.1 root.2.2 rfl HA.out.2.blk ?_)
  refine Calls.mono HK.out ?_
  rintro e w1 ⟨O1, u, A2, d2, rfl, hp1, hr1, hs1⟩
  have HB := Lib.hid (And.intro (HA.out.1.call hp1 hs1) (hr1.mono HA.out.1.size))
  clear hp1 hr1 hs1 HA HK
  go_wp2_with fail
  go_ret2
  exact ⟨O1, A2, d2, rfl, HB.out.1.at_, HB.out.2, HB.out.1.st⟩
theorem ttrimAll_any (h : PileAt w O g P) (ok : OkW P) (t : Tree P root F S T) (i : Nat) (hi : i < 64) (hc : blkQ S i ≠ hole0 → need F S i hole0 ≤ P.m.count) (hN : P.N ≤ 900000) :
    Calls Try.prog 11 #[.pointer (some ⟨g, 0, none⟩), ptq root, .int .i64 (i : Int)] w fun e w' => ∃ O' B d, e = .returned (.tuple #[ptq (trimQ P root F S i), .slice B (trimO root F S i).length d, .int .i64 0]) ∧ PileAt w' O' g (trimP P F S i) ∧ RdF w w' O' B (pqs (trimO root F S i)) ∧ Step w w' O O' := by
  unfold trimQ trimO trimP
  by_cases hq : blkQ S i = hole0
  · rw [if_pos hq, if_pos hq, if_pos hq]
    exact (ttrim0_any h ok t i hi hq).mono fun e w' ⟨O', B, d, e1, h1, h2⟩ => ⟨O', B, d, e1, h1, ⟨⟨fun hn => absurd hn (by simp [pqs]), fun b off _ hn => absurd hn (by simp [pqs])⟩, fun b off _ hn => absurd hn (by simp [pqs])⟩, h2⟩
  · rw [if_neg hq, if_neg hq, if_neg hq]
    exact ttrim_any h ok t i hi hq (hc hq) hN
end
theorem treeCalls : TreeCalls PileAt where
  foot h k hk := h.foot k hk
  stay h c hn := h.stay c hn
  made m w hm := tmade_any (m : Int) w ⟨by omega, by omega⟩
  next h h1 := by
    obtain ⟨B, D, pv, gm, s, hp, hO⟩ := h.ex
    exact (pnext_any _ _ _ _ hp.pb h1).mono fun e w' ⟨e1, h2, hc⟩ => ⟨_, e1, ⟨B, D, pv, gm, s, hp.onPb hc h2 h1 hp.ba, hO⟩, ⟨hc.mono fun k _ hk => (hO k).2 (.inl hk), fun _ hk => .inl hk⟩⟩
  stamp h := by
    obtain ⟨B, D, pv, gm, s, hp, hO⟩ := h.ex
    exact (stamp0_any hp).mono fun e w' ⟨e1, hb⟩ => ⟨_, e1, ⟨B, D, pv, gm, s, hp.far hb, hO⟩, step_below hb⟩
  map h := tmap_any h
  get i hi h ok t := tget_any h ok t i hi
  getNo i _ hn h _ := tgetNo_any h i hn
  set i A c l hi h ok t hr hl _ hc hN := tset_any h ok t i hi A c l hr hl hc hN
  setNo i A c l _ hn h _ _ _ := tsetNo_any h i A l.length c hn
  setLong i A c l hi h _ _ hl _ := tsetLong_any h i hi A l.length c hl
  trim i hi h ok t hc hN := ttrimAll_any h ok t i hi hc hN
  trimNo i _ hn h _ := ttrimNo_any h i hn
  all st _ h ok t := tall_any h ok t st
  blocks h ok t := tblocks_any h ok t
end
end Go.Proofs.Ytagkhicbngaghaa
