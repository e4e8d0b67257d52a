/- The laws on piles, walked over the calls' contracts: PileReads. -/
import Derived.Test.YtddhacmaogaocaaO5
set_option maxRecDepth 10000
namespace Go.Proofs.Ytddhacmaogaocaa
open Go.RowKit

def byt (l : List Tx) : List (List UInt8) := l.map fun t => t.2.2
theorem byt_len (l : List Tx) : (byt l).length = l.length := by simp [byt]
theorem byt_at (l : List Tx) (k : Nat) (h : k < l.length) : (byt l)[k]'(by rw [byt_len]; exact h) = l[k].2.2 := by simp [byt]
theorem own_step {w w' : World} {O O' : Nat → Prop} {base e size n : Nat} {v : Value} {xs : List Value} (h : w.ownsRow base e size v n xs) (hO : ∀ b, v.ownBlock = some b → ¬ O b) (s : Step w w' O O') :
    w'.ownsRow base e size v n xs ∧ ∀ b, v.ownBlock = some b → ¬ O' b :=
  ⟨own_chg h s.chg hO, fun b hb ho => (s.new b ho).elim (hO b hb) fun hs => by have := (h.lt b hb).2; omega⟩
theorem run_neSec (s t : Sec) (w : World) : (binOp .neq 23 (.agg s.cs.toArray) (.agg t.cs.toArray)).run Try.prog w = .ok (.bool (!s.same t)) w := by
  have h := run_eqSec s t w
  unfold Op.equal Op.maxDepth at h
  rw [run_neq_struct, h]
  rfl
theorem ex_neS {o : Oper} {a : Act} {w : World} (x y : Operand) (ho : o.op = .binOp .neq 23 x y 23) (s t : Sec) (hx : a.eval x = .agg s.cs.toArray) (hy : a.eval y = .agg t.cs.toArray) :
    (execOp a.eval o).run Try.prog w = .ok (.value (.bool (!s.same t))) w := by
  unfold execOp
  simp [ho, hx, hy, eqGuard, run_neSec]
/-- A step of a plain region, told by the slot that it writes. -/
theorem wpList_valD {P : Program} {ops : Array Oper} {rest : List Oper} {o : Oper} {a : Act} {w w' : World} {Q : Exit → Act → World → Prop} (d : Tmp) (_hd : o.dst = some d) (v : Value)
    (hrun : (execOp a.eval o).run P w = .ok (.value v) w') (hw : Region.wanted o (yielded ops a.tmps) = true) (h : wpList P ops Q rest (a.put o.dst v) w') : wpList P ops Q (o :: rest) a w := wpList_val hw v hrun h
theorem putq_ok {i : Nat} {S : Nat} (hi : i < 1024) (hS : S < 4294967296) : PtrOk ((i : Int), 1, (S : Int)) := by
  unfold PtrOk
  refine ⟨?_, ?_, ?_, ?_, ?_, ?_⟩ <;> simp only <;> omega
/-- What is had of each, one sector rotten. -/
theorem rot_get {bs : List (List UInt8)} {k many : Nat} {P : Pw} {qs : List PtrV} (h : Puts bs k many P qs) (at_ : Int) (rot : Sec) (j : Nat) (hj : j < k) (h2 : j < bs.length) :
    PtrOk (qs.getD j hole0) ∧ ((128 < bs[j].length ∧ getS (rotW P at_ rot) (qs.getD j hole0) = (zsec, 0)) ∨
      (¬ 128 < bs[j].length ∧ ((qs.getD j hole0).1 ≠ at_ ∧ getS (rotW P at_ rot) (qs.getD j hole0) = (blockS bs[j], 0) ∨ (qs.getD j hole0).1 = at_ ∧ (getS (rotW P at_ rot) (qs.getD j hole0) = (rot, 0) ∨ getS (rotW P at_ rot) (qs.getD j hole0) = (zsec, 91))))) := by
  rcases h.each j hj h2 with ⟨h3, h4⟩ | ⟨h3, i, h4, h5, h6⟩
  · rw [h4]
    exact ⟨hole_ok, .inl ⟨h3, get_hole _⟩⟩
  · rw [h4]
    have hit := (Mp.is_iff.1 h5).2.1
    have hi : i < 64 := by have := h.tot; omega
    have hlen : (rotW P at_ rot).nw.length = 64 := by
      unfold rotW
      split
      · show (P.nw.set _ _).length = 64
        rw [List.length_set, h.nwl]
      · exact h.nwl
    have hq : ((i : Int), (1 : Int), (sumS (blockS bs[j]) : Int)) ≠ hole0 := hole_ne (by decide)
    refine ⟨putq_ok (by omega) (sum_lt _), .inr ⟨h3, ?_⟩⟩
    by_cases he : (i : Int) = at_
    · subst he
      have hg : (rotW P (i : Int) rot).nw.getD i zsec = rot := by
        unfold rotW hasF
        rw [if_pos (by rw [decide_eq_true_iff, h.nwl]; omega)]
        show (P.nw.set (i : Int).toNat rot).getD i zsec = rot
        rw [Int.toNat_natCast, getD_set _ _ _ _ (by rw [h.nwl]; exact hi), if_pos rfl]
      refine .inr ⟨rfl, ?_⟩
      by_cases hs : (sumS rot : Int) = (sumS (blockS bs[j]) : Int)
      · rw [← hs]
        exact .inl (get_same (by rw [hs]; exact hq) (by rw [hlen]; exact hi) hg)
      · exact .inr (get_other hq (by rw [hlen]; exact hi) hg hs)
    · refine .inl ⟨he, get_same hq (by rw [hlen]; exact hi) ?_⟩
      unfold rotW
      split
      · next hf =>
        unfold hasF at hf
        rw [decide_eq_true_iff, h.nwl] at hf
        show (P.nw.set at_.toNat rot).getD i zsec = _
        rw [getD_set _ _ _ _ (by rw [h.nwl]; exact hi), if_neg (by omega)]
        exact h6
      · exact h6
/-- A block of one type is none of a row of another. -/
theorem blk_own_ne {w : World} {g t base e size n : Nat} {v : Value} {xs : List Value} {cs : Array Value} (hg : Blk w g t cs) (h : w.ownsRow base e size v n xs) (hne : e ≠ t) : v.ownBlock ≠ some g := by
  rcases h.2 with ⟨rfl, _⟩ | ⟨g', cap', cur', rfl, _, hgg', _⟩
  · simp [Value.ownBlock]
  · intro he
    have : g' = g := by simpa [Value.ownBlock] using he
    subst this
    unfold Blk at hg
    rw [hg] at hgg'
    injection hgg' with hgg'
    injection hgg' with _ ht
    exact hne ht.symm
section
variable {At : World → (Nat → Prop) → Nat → Pw → Prop}
set_option maxHeartbeats 4000000 in
theorem pileReads_any (L : PileCalls At) (w : World) (A : Option Addr) (c : Nat) (l : List Tx) (hR : Rd w w.heap.size A (txs l)) (hT : TxIn w w.heap.size l) (hB : ∀ t ∈ l, t.2.2.length ≤ 140737488355328) (at_ : Int) (hat : I64 at_) (rot : Sec) :
    Calls Try.prog 4 #[.slice A l.length c, .int .i64 at_, .agg rot.cs.toArray] w fun e w' => e = .returned (.bool true) ∧ Below w.heap.size w w' := by
  go_enter Try.func4, Try.ntmps4
  have hr0 : Blk (w.alloc (.cells rot.cs.toArray 23)) w.heap.size 23 rot.cs.toArray := Blk.new w _ _
  have hb0 : Below w.heap.size w (w.alloc (.cells rot.cs.toArray 23)) := (Below.refl _ _).alloc (Nat.le_refl _) _
  have HA := Lib.hid (pileAlive_any L (w.alloc (.cells rot.cs.toArray 23)))
  have HR0 := Lib.hid (And.intro hr0 hb0)
  clear hr0 hb0
  go_wp2_with fail
  refine Calls.mono HA.out ?_
  rintro e w1 ⟨rfl, hb1⟩
  have hr1 := HR0.out.1.below hb1 HR0.out.1.lt
  have b1 := HR0.out.2.trans (hb1.mono HR0.out.2.size)
  clear HA HR0 hb1
  by_cases hl : l.length ≤ 50
  · have hl' : (l.length : Int) ≤ 50 := by omega
    have HM := Lib.hid (L.made 64 w1 (by unfold I64; omega))
    go_wp2_with fail
    refine Calls.mono HM.out ?_
    rintro e w2 ⟨O2, g, rfl, h2, hO2, hb2⟩
    have m2 := HasP.first b1 h2 hO2 hb2
    have hr2 : BlkA w2 O2 w.heap.size 23 rot.cs.toArray := ⟨hr1.below hb2 hr1.lt, fun ho => by have := hO2 _ ho; have := hr1.lt; omega⟩
    clear HM h2 hO2 hb2 hr1 b1
    go_wp2_with fail
    go_loopw [8, 27] (fun v i wr => ∃ (k many : Nat) (P : Pw) (qs : List PtrV) (O : Nat → Prop), k ≤ l.length ∧ i = .int .i64 k ∧ OwnQ wr w.heap.size v qs ∧ (∀ b, v.ownBlock = some b → ¬ O b) ∧ HasP At w wr O g P ∧ BlkA wr O w.heap.size 23 rot.cs.toArray ∧ Puts (byt l) k many P qs) (fun _ i _ => l.length - (intOf i).toNat)
    case atStart =>
      have h := World.ownsRow_lit (base := w.heap.size) (e := 32) (size := 3) w2 #[] 0 m2.below.size (by simp [maxLen]) rfl
      have hb3 : Below w2.heap.size w2 (w2.alloc (.cells #[] 32)) := (Below.refl _ _).alloc (Nat.le_refl _) _
      exact ⟨0, 0, newPw 64, [], O2, by omega, rfl, by simpa [OwnQ, pqs] using h, fun b hb ho => by
        simp only [Value.ownBlock, Option.some.injEq] at hb
        have := L.foot m2.at_ b ho
        omega, m2.far L hb3, hr2.later hb3, puts_zero _⟩
    case round =>
      clear m2 hr2
      obtain ⟨k, many, P, qs, O, hk, rfl, hown, hno, hm, hr, hp⟩ := hrel
      have hb := hm.below
      obtain ⟨hc, hf⟩ := bcell hb
      by_cases hlt : k < l.length
      · obtain ⟨b, off, rfl, hbB, hc1⟩ := tx_at hR k hlt
        have hTk := hT l[k] (List.getElem_mem hlt)
        have hBk := hB l[k] (List.getElem_mem hlt)
        have hkb : k < (byt l).length := by rw [byt_len]; exact hlt
        have hbk : (byt l)[k] = l[k].2.2 := byt_at l k hlt
        obtain ⟨tA, tc, tl, htk⟩ : ∃ tA tc tl, l[k] = (tA, tc, tl) := ⟨_, _, _, rfl⟩
        rw [htk] at hTk hBk hbk hc1
        simp only at hTk hBk hbk hc1
        have hput : ∃ (q : PtrV) (ce : Int) (P' : Pw) (many' : Nat) (bb : Bool), putC P tl = ce ∧ putQ P tl = q ∧ putP P tl = P' ∧ Puts (byt l) (k + 1) many' P' (qs ++ [q]) ∧ (ce == 0) = bb ∧ decide ((tl.length : Int) ≤ 128) = bb := by
          by_cases h8 : 128 < tl.length
          · obtain ⟨e1, e2, e3⟩ := pput_no (P := P) h8
            exact ⟨hole0, 92, P, many, false, e1, e2, e3, puts_long hp hkb (by rw [hbk]; exact h8), rfl, decide_eq_false (by omega)⟩
          · obtain ⟨i, hi⟩ := puts_next hp (by have := hp.le; omega)
            obtain ⟨e1, e2, e3⟩ := pput_yes (P := P) h8 hi
            have hg := puts_good hp hkb (by rw [hbk]; exact h8) hi
            rw [hbk, hp.st] at hg
            rw [hp.st] at e2 e3
            exact ⟨_, 0, _, many + 1, true, e1, e2, e3, hg, rfl, decide_eq_true (by omega)⟩
        obtain ⟨q, ce, P', many', bb, e1, e2, e3, hp', hce, hle⟩ := hput
        have hN : P.N ≤ 1000000 := by have := hp.N; have := hp.le; omega
        have HP' := Lib.hid hp'
        have HQ := Lib.hid (show qs.length ≤ 1048576 by rw [hp.len]; omega)
        have hc1 := (hc b (off + k) hbB).trans hc1
        have HT := Lib.hid (And.intro (hTk.1.below hb) (And.intro hBk (L.foot hm.at_)))
        have HM := Lib.hid (And.intro hm (And.intro hr (And.intro hown hno)))
        have HPut := Lib.hid (fun (w3 : World) (A' : Option Addr) (c' : Nat) (hb3 : Below wr.heap.size wr w3) (hrd : RdA w3 O A' (bys tl)) => L.put A' c' tl (HM.out.1.far L hb3).at_ hrd HT.out.2.1 hN)
        rw [e1, e2, e3] at HPut
        have HK := Lib.hid hk
        clear hp hp' hTk hBk hkb hbk e1 e2 e3 hm hr hown hno hN hb hc hf hk
        go_wp2_with (at_builtin; refine app_bytes rfl 33 34 rfl rfl w.heap.size tA tl.length tc tl O rfl rfl (HT.out.1.below ((Below.refl _ _).alloc (by have := HM.out.1.below.size; omega) _)) HT.out.2.1 HT.out.2.2 ?_; intro A3 c3 w3 hrd3 hb3)
        refine Calls.mono (HPut.out w3 A3 c3 hb3 hrd3) ?_
        rintro e w4 ⟨O4, rfl, h4, s4⟩
        have m4 := (HM.out.1.far L hb3).step h4 s4
        have r4 := (HM.out.2.1.later hb3).step s4
        obtain ⟨own4, no4⟩ := own_step (own_far HM.out.2.2.1 hb3) HM.out.2.2.2 s4
        have hb5 : Below w4.heap.size w4 (w4.alloc (.cells (pcs q.1 q.2.1 q.2.2) 32)) := (Below.refl _ _).alloc (Nat.le_refl _) _
        have own5 : OwnQ (w4.alloc (.cells (pcs q.1 q.2.1 q.2.2) 32)) w.heap.size _ qs := own_far own4 hb5
        have HM5 := Lib.hid (And.intro (m4.far L hb5) (And.intro (r4.later hb5) (And.intro own5 no4)))
        have hsz5 : w.heap.size ≤ (w4.alloc (.cells (pcs q.1 q.2.1 q.2.2) 32)).heap.size := HM5.out.1.below.size
        have hz := zeroPtr
        clear HPut hb3 hrd3 h4 s4 HM m4 r4 own4 no4 hb5 own5
        go_wp2_with (at_builtin; refine app_ptr rfl 45 47 rfl w.heap.size _ qs rfl HM5.out.2.2.1 q (w4.heap.size + 1) (by simp) rfl hsz5 HQ.out ?_; intro v6 w6 hown6 hgr6 hrow6)
        go_roundw
        case rel =>
          have hc6 : Chg (w4.alloc (.cells (pcs q.1 q.2.1 q.2.2) 32)) w6 (fun b => u8.ownBlock = some b) := ((Chg.refl _ _).alloc _).grown hgr6 fun _ hk => .inl hk
          have hlt6 : ∀ b, O4 b → b < (w4.alloc (.cells (pcs q.1 q.2.1 q.2.2) 32)).heap.size := fun b ho => L.foot HM5.out.1.at_ b ho
          refine ⟨k + 1, many', P', qs ++ [q], O4, hlt, by go_num, hown6, fun b hb ho => ?_, ⟨L.stay HM5.out.1.at_ hc6 fun b ho hb => HM5.out.2.2.2 b hb ho, HM5.out.1.lo, HM5.out.1.below.trans (hc6.below (fun b hb => (HM5.out.2.2.1.lt b hb).1) HM5.out.1.below.size)⟩,
            ⟨HM5.out.2.1.blk.chg hc6 fun hb => ?_, HM5.out.2.1.far⟩, HP'.out⟩
          · rcases hrow6 b hb with h7 | h7
            · exact HM5.out.2.2.2 b h7 ho
            · exact absurd (hlt6 b ho) (Nat.not_lt.2 h7)
          · have := blk_own_ne HM5.out.2.1.blk HM5.out.2.2.1 (by decide)
            exact this hb
        case measure => simp [intOf]; omega
      · obtain rfl : k = l.length := by omega
        obtain ⟨vA, vc, rfl, hvr, _⟩ := own_rd hown
        have hql := hp.len
        have hN : P.N ≤ 1000000 := by have := hp.N; have := hp.le; omega
        have hbd : Below wr.heap.size wr wr.drew := (Below.refl _ _).drew
        have hm := hm.far L hbd
        have hr := hr.later hbd
        have hvr := (hvr.below hbd).mono hbd.size
        obtain ⟨dg, hdev⟩ := L.dev hm.at_ hN
        have HD := Lib.hid hdev
        have HI := Lib.hid (And.intro hm (And.intro hr (And.intro hvr (And.intro hno hp))))
        clear hdev hown hno hm hr hp hvr hb hc hf hN hbd
        go_upto_region 15 with fail
        refine wp_region_held_drew (S := fun w' => Blk w' w.heap.size 23 rot.cs.toArray) (by kernel_rfl) HI.out.2.1.blk (fun hHeld => ?_)
        refine wpAnyH_take (i := 0) (v := (.pointer (some ⟨g, 0, none⟩))) rfl (by kernel_rfl) (by kernel_rfl) (by kernel_rfl) (fun _ _ _ h => h) (Or.inl ⟨by rfl, ?_⟩) (by assumption) ?_
        · intro w' hS; go_simp; try with_reducible rfl
        try simp [Act.put]
        refine wpAnyH_take (i := 2) (v := (.int .i64 at_)) rfl (by kernel_rfl) (by kernel_rfl) (by kernel_rfl) (fun _ _ _ h => h) (Or.inl ⟨by rfl, ?_⟩) (by assumption) ?_
        · intro w' hS; go_simp; try with_reducible rfl
        try simp [Act.put]
        refine wpAnyH_take (i := 3) (v := (.agg rot.cs.toArray)) rfl (by kernel_rfl) (by kernel_rfl) (by kernel_rfl) (fun _ _ _ h => h) (Or.inl ⟨by rfl, ?_⟩) (by assumption) ?_
        · intro w' hS
          exact ex_ldS (.tmp 5) rfl w.heap.size rot rfl hS
        try simp [Act.put]
        refine wpAnyH_ready (rs := [1]) (by kernel_rfl) (by simp) ?_
        refine AllReadyH.cons rfl (fun K hK => ?_) AllReadyH.nil
        go_simp
        refine Calls.mono (HD.out) ?_
        rintro e w7 ⟨rfl, hb7, hrot⟩
        refine hK.out _ _ (HI.out.2.1.blk.below hb7 HI.out.2.1.blk.lt) (fun hHeld2 => ?_)
        clear hK K
        try simp
        clear hHeld
        have hHeld := hHeld2
        clear hHeld2
        have HR7 := Lib.hid (hrot w7 at_ rot hat (Below.refl _ _))
        clear hrot
        refine wpAnyH_ready (rs := [4]) (by kernel_rfl) (by simp) ?_
        refine AllReadyH.cons rfl (fun K hK => ?_) AllReadyH.nil
        go_simp
        refine Calls.mono (HR7.out) ?_
        rintro e w8 ⟨O8, v8, rfl, h8, s8⟩
        refine hK.out _ _ (((HI.out.2.1.later hb7).step s8).blk) (fun hHeld2 => ?_)
        clear hK K
        try simp
        clear hHeld
        have hHeld := hHeld2
        clear hHeld2
        refine wpAnyH_done (by kernel_rfl) ?_ _
        have m8 := (HI.out.1.far L hb7).step h8 s8
        have q8 : RdA w8 O8 vA (pqs qs) := RdA.step (RdA.far ⟨HI.out.2.2.1, fun b off e hp ho => HI.out.2.2.2.1 b (by rw [e]; rfl) ho⟩ hb7) s8
        have r8 := (HI.out.2.1.later hb7).step s8
        have HP8 := Lib.hid HI.out.2.2.2.2
        have HG8 := Lib.hid (fun j hj h2 => rot_get HI.out.2.2.2.2 at_ rot j hj h2)
        clear hHeld h8 s8 HR7 HD HI hb7
        clear hm hr hvr
        generalize rotW P at_ rot = P' at *
        go_wp2_with fail
        go_loopw [57] (fun i wr => ∃ (k : Nat) (O : Nat → Prop), k ≤ l.length ∧ i = .int .i64 k ∧ HasP At w wr O g P' ∧ RdA wr O vA (pqs qs) ∧ BlkA wr O w.heap.size 23 rot.cs.toArray) (fun i _ => l.length - (intOf i).toNat)
        case atStart => exact ⟨0, O8, by omega, rfl, m8, q8, r8⟩
        case round =>
          clear m8 q8 r8
          obtain ⟨k, O, hk, rfl, hm, hq, hr⟩ := hrel
          have hb := hm.below
          obtain ⟨hc, hf⟩ := bcell hb
          by_cases hlt : k < l.length
          · have hkq : k < qs.length := by omega
            obtain ⟨b, off, rfl, hbB, c0, c1, c2⟩ := pq_at hq.rd k hkq
            obtain ⟨b2, off2, rfl, hb2B, hc1⟩ := tx_at hR k hlt
            have hTk := hT l[k] (List.getElem_mem hlt)
            have hBk := hB l[k] (List.getElem_mem hlt)
            have hg := HG8.out k hlt (by rw [byt_len]; exact hlt)
            rw [show qs.getD k hole0 = qs[k] by simp [List.getD, hkq], byt_at l k hlt] at hg
            obtain ⟨tA, tc, tl, htk⟩ : ∃ tA tc tl, l[k] = (tA, tc, tl) := ⟨_, _, _, rfl⟩
            obtain ⟨q1, q2, q3, hqk⟩ : ∃ q1 q2 q3, qs[k] = (q1, q2, q3) := ⟨_, _, _, rfl⟩
            rw [htk] at hTk hBk hc1 hg
            rw [hqk] at c0 c1 c2 hg
            simp only at hTk hBk hc1 hg c0 c1 c2
            have HCK := Lib.hid (fun (w' : World) (hb' : Below w.heap.size w w') => (hb'.cell (p := ⟨b2, off2 + k, none⟩) hb2B).trans hc1)
            have HRd := Lib.hid (fun (w' : World) (hb' : Below w.heap.size w w') => (hTk.1.below hb').mono hb'.size)
            have hc1 := (hc b2 (off2 + k) hb2B).trans hc1
            have hb1 : Below wr.heap.size wr (wr.alloc (.cells (pcs q1 q2 q3) 32)) := (Below.refl _ _).alloc (Nat.le_refl _) _
            have hm1 := hm.far L hb1
            have hq1 : RdA (wr.alloc (.cells (pcs q1 q2 q3) 32)) O (some ⟨b, off, none⟩) (pqs qs) := hq.far hb1
            have hr1 := hr.later hb1
            have hp1 : BlkA (wr.alloc (.cells (pcs q1 q2 q3) 32)) O wr.heap.size 32 (pcs q1 q2 q3) := ⟨Blk.new wr _ _, fun ho => by have := L.foot hm.at_ _ ho; omega⟩
            have HGet := Lib.hid (L.get (q1, q2, q3) hg.1 hm1.at_)
            have HM1 := Lib.hid (And.intro hm1 (And.intro hq1 (And.intro hr1 hp1)))
            have HGG := Lib.hid hg.2
            have HT := Lib.hid hBk
            have HK := Lib.hid hk
            have hz := zeroPtr
            clear hTk hBk hg hb1 hm1 hq1 hr1 hp1 hm hq hr hb hf hc hk
            go_wp2_with fail
            refine Calls.mono HGet.out ?_
            rintro e w3 ⟨O3, rfl, h3, s3⟩
            obtain ⟨x, ce, hx⟩ : ∃ x ce, getS P' (q1, q2, q3) = (x, ce) := ⟨_, _, rfl⟩
            rw [hx] at HGG ⊢
            simp only at HGG ⊢
            have m3 := HM1.out.1.step h3 s3
            have a3 := HM1.out.2.1.step s3
            have r3 := HM1.out.2.2.1.step s3
            have p3 := HM1.out.2.2.2.step s3
            have hz : ∀ w, Sem.run Try.prog (zeroValue 23) w = .ok (.agg zsec.cs.toArray) w := zeroSec
            have hn : Hid (Blk (w3.alloc (.cells zsec.cs.toArray 23)) w3.heap.size 23 zsec.cs.toArray) := Blk.new _ _ _
            have HM3 := Lib.hid (And.intro m3 (And.intro a3 (And.intro r3 p3)))
            clear HGet h3 s3 HM1 m3 a3 r3 p3 hc1 c0 c1 c2 hx
            generalize wr.heap.size = gp at *
            go_upto_region 20 with ((with_reducible refine st_sec rfl _ _ rfl w3.heap.size 0 x rfl rfl hn.out.secHas ?_); intro w4 hw4)
            have hb4 : Below w3.heap.size w3 w4 := by rw [hw4.out]; exact Below.setCells _ (Nat.le_refl _) _ _ ((Below.refl _ _).alloc (Nat.le_refl _) _)
            have m4 := HM3.out.1.far L hb4
            have a4 := HM3.out.2.1.far hb4
            have r4 := HM3.out.2.2.1.later hb4
            have p4 := HM3.out.2.2.2.later hb4
            have x4 : BlkA w4 O3 w3.heap.size 23 x.cs.toArray := ⟨by rw [hw4.out]; exact hn.out.secAll _, fun ho => by have := L.foot HM3.out.1.at_ _ ho; omega⟩
            clear hw4 hn HM3 hb4
            generalize w3.heap.size = gx at *
            have hc4 := HCK.out w4 m4.below
            have HBl := Lib.hid (rblock_any tA tc tl w4 (HRd.out w4 m4.below) HT.out)
            have HM4 := Lib.hid (And.intro m4 (And.intro a4 (And.intro r4 (And.intro p4 x4))))
            clear m4 a4 r4 p4 x4 hbB
            go_wp2_with fail
            refine Calls.mono HBl.out ?_
            rintro e w5 ⟨rfl, hb5⟩
            have hn : Hid (Blk (w5.alloc (.cells zsec.cs.toArray 23)) w5.heap.size 23 zsec.cs.toArray) := Blk.new _ _ _
            clear HBl hc4
            go_upto_region 21 with ((with_reducible refine st_sec rfl _ _ rfl w5.heap.size 0 (blockS tl) rfl rfl hn.out.secHas ?_); intro w6 hw6)
            have hb6 : Below w5.heap.size w5 w6 := by rw [hw6.out]; exact Below.setCells _ (Nat.le_refl _) _ _ ((Below.refl _ _).alloc (Nat.le_refl _) _)
            have hb6' : Below w4.heap.size w4 w6 := hb5.trans (hb6.mono hb5.size)
            have m6 := HM4.out.1.far L hb6'
            have a6 := HM4.out.2.1.far hb6'
            have r6 := HM4.out.2.2.1.later hb6'
            have p6 := HM4.out.2.2.2.1.later hb6'
            have x6 := HM4.out.2.2.2.2.later hb6'
            have y6 : Blk w6 w5.heap.size 23 (blockS tl).cs.toArray := by rw [hw6.out]; exact hn.out.secAll _
            have hc6 := HCK.out w6 m6.below
            have hp0 : w6.cell? ⟨gp, 0, none⟩ = some (.int .i64 q1) := p6.blk.cell 0
            have hfp := fun i => p6.blk.frozen i
            clear hw6 hn HM4 hb5 hb6 hb6' HCK HRd hz
            generalize w5.heap.size = gy at *
            have HM6 := Lib.hid (And.intro m6 (And.intro a6 (And.intro r6 (And.intro x6 y6))))
            clear m6 a6 r6 p6 x6 y6
            by_cases h8 : 128 < tl.length
            · have h8' : (128 : Int) < (tl.length : Int) := by omega
              go_wp2_with fail
              go_roundw
              case rel => exact ⟨k + 1, O3, hlt, by go_num, HM6.out.1, HM6.out.2.1, HM6.out.2.2.1⟩
              case measure => simp [intOf]; omega
            · have h8' : ¬ (128 : Int) < (tl.length : Int) := by omega
              have hsame : ∀ s : Sec, Hid ((!s.same s) = false) := fun s => by show (!s.same s) = false; rw [s.same_self]; rfl
              rcases HGG.out with ⟨h, _⟩ | ⟨_, ⟨hne, h⟩ | ⟨heq, h | h⟩⟩
              · exact absurd h h8
              · simp only [Prod.mk.injEq] at h
                obtain ⟨rfl, rfl⟩ := h
                have hne' : (q1 != at_) = true := by rw [bne_iff_ne]; exact hne
                go_wp2_with (first
                  | (refine wpList_valD 87 rfl _ (ex_ldS (.tmp 15) rfl gx (blockS tl) rfl HM6.out.2.2.2.1.blk) (by rfl) ?_)
                  | (refine wpList_valD 88 rfl _ (ex_ldS (.tmp 17) rfl gy (blockS tl) rfl HM6.out.2.2.2.2) (by rfl) ?_)
                  | (refine wpList_valD 89 rfl _ (ex_neS (.tmp 87) (.tmp 88) rfl (blockS tl) (blockS tl) rfl rfl) (by rfl) ?_; rw [(hsame _).out])
                  | (refine wpList_valD 109 rfl _ (ex_ldS (.tmp 15) rfl gx (blockS tl) rfl HM6.out.2.2.2.1.blk) (by rfl) ?_)
                  | (refine wpList_valD 110 rfl _ (ex_ldS (.tmp 17) rfl gy (blockS tl) rfl HM6.out.2.2.2.2) (by rfl) ?_)
                  | (refine wpList_valD 111 rfl _ (ex_neS (.tmp 109) (.tmp 110) rfl (blockS tl) (blockS tl) rfl rfl) (by rfl) ?_; rw [(hsame _).out]))
                go_roundw
                case rel => exact ⟨k + 1, O3, hlt, by go_num, HM6.out.1, HM6.out.2.1, HM6.out.2.2.1⟩
                case measure => simp [intOf]; omega
              · simp only [Prod.mk.injEq] at h
                obtain ⟨rfl, rfl⟩ := h
                subst heq
                have hne' : (q1 != q1) = false := by simp
                cases hs : x.same (blockS tl) with
                | true =>
                  have HS : Hid ((!x.same (blockS tl)) = false) := by show (!x.same (blockS tl)) = false; rw [hs]; rfl
                  clear hs
                  go_wp2_with (first
                    | (refine wpList_valD 109 rfl _ (ex_ldS (.tmp 15) rfl gx x rfl HM6.out.2.2.2.1.blk) (by rfl) ?_)
                    | (refine wpList_valD 110 rfl _ (ex_ldS (.tmp 17) rfl gy (blockS tl) rfl HM6.out.2.2.2.2) (by rfl) ?_)
                    | (refine wpList_valD 111 rfl _ (ex_neS (.tmp 109) (.tmp 110) rfl x (blockS tl) rfl rfl) (by rfl) ?_; rw [HS.out]))
                  go_roundw
                  case rel => exact ⟨k + 1, O3, hlt, by go_num, HM6.out.1, HM6.out.2.1, HM6.out.2.2.1⟩
                  case measure => simp [intOf]; omega
                | false =>
                  have HS : Hid ((!x.same (blockS tl)) = true) := by show (!x.same (blockS tl)) = true; rw [hs]; rfl
                  clear hs
                  go_wp2_with (first
                    | (refine wpList_valD 109 rfl _ (ex_ldS (.tmp 15) rfl gx x rfl HM6.out.2.2.2.1.blk) (by rfl) ?_)
                    | (refine wpList_valD 110 rfl _ (ex_ldS (.tmp 17) rfl gy (blockS tl) rfl HM6.out.2.2.2.2) (by rfl) ?_)
                    | (refine wpList_valD 111 rfl _ (ex_neS (.tmp 109) (.tmp 110) rfl x (blockS tl) rfl rfl) (by rfl) ?_; rw [HS.out])
                    | (refine wpList_valD 114 rfl _ (ex_ldS (.tmp 15) rfl gx x rfl HM6.out.2.2.2.1.blk) (by rfl) ?_)
                    | (refine wpList_valD 115 rfl _ (ex_ldS (.tmp 5) rfl w.heap.size x rfl HM6.out.2.2.1.blk) (by rfl) ?_)
                    | (refine wpList_valD 116 rfl _ (ex_neS (.tmp 114) (.tmp 115) rfl x x rfl rfl) (by rfl) ?_; rw [(hsame _).out]))
                  go_roundw
                  case rel => exact ⟨k + 1, O3, hlt, by go_num, HM6.out.1, HM6.out.2.1, HM6.out.2.2.1⟩
                  case measure => simp [intOf]; omega
              · simp only [Prod.mk.injEq] at h
                obtain ⟨rfl, rfl⟩ := h
                subst heq
                have hne' : (q1 != q1) = false := by simp
                go_wp2_with (first
                  | (refine wpList_valD 99 rfl _ (ex_ldS (.tmp 15) rfl gx zsec rfl HM6.out.2.2.2.1.blk) (by rfl) ?_)
                  | (refine wpList_valD 100 rfl _ (ex_build0 rfl) (by rfl) ?_)
                  | (refine wpList_valD 101 rfl _ (ex_neS (.tmp 99) (.tmp 100) rfl zsec zsec rfl rfl) (by rfl) ?_; rw [(hsame _).out]))
                go_roundw
                case rel => exact ⟨k + 1, O3, hlt, by go_num, HM6.out.1, HM6.out.2.1, HM6.out.2.2.1⟩
                case measure => simp [intOf]; omega
          · obtain rfl : k = l.length := by omega
            go_wp2_with fail
            go_ret
            exact ⟨rfl, hm.below⟩
  · have hl' : (50 : Int) < (l.length : Int) := by omega
    go_wp2_with fail
    go_ret
    exact ⟨rfl, b1⟩
end
end Go.Proofs.Ytddhacmaogaocaa
