/- The laws on trees, walked over the calls' contracts: TreeSince. -/
import Derived.Test.YtagkhicbngaghaaTA
set_option maxRecDepth 10000
namespace Go.Proofs.Ytagkhicbngaghaa
open Go.RowKit

structure HSz (w : World) (bs : Nat) : Prop where
  eq : w.heap.size = bs
theorem bsz {w W : World} {bs : Nat} (h : HSz w bs) (hb : Below bs w W) : bs ≤ W.heap.size := h.eq ▸ hb.size
theorem bsub {w W : World} {bs : Nat} (h : HSz w bs) (hb : Below bs w W) : Below w.heap.size w W := by rw [h.eq]; exact hb
section
variable {At : World → (Nat → Prop) → Nat → Pw → Prop}
set_option maxHeartbeats 8000000 in
theorem treeSince_any (L : TreeCalls At) (w : World) (A0 : Option Addr) (c0 : Nat) (l0 : List TAct) (hR0 : Rd w w.heap.size A0 (flatT l0)) (hK0 : DataOk w w.heap.size l0) (xa1 xb1 : Nat) (hxa : xa1 < 18446744073709551616) (hxb : xb1 < 18446744073709551616) :
    Calls Try.prog 7 #[.slice A0 l0.length c0, .int .u64 (xa1 : Int), .int .u64 (xb1 : Int)] w fun e w' => e = .returned (.bool true) ∧ Below w.heap.size w w' := by
  have HT := Lib.hid (treeAlive_any L w)
  by_cases h30 : l0.length ≤ 30
  · have h30i : ¬ (30 : Int) < l0.length := by omega
    have h30j : (l0.length : Int) ≤ 30 := by omega
    have H30 := Lib.hid h30
    have HR0 := Lib.hid hR0
    have HK0 := Lib.hid hK0
    have HM := Lib.hid (fun W => L.made 400 W (by omega))
    have hz := zeroPtr
    have hzt := zeroTA
    clear hR0 hK0 h30
    go_enter Try.func7, Try.ntmps7
    go_upto_region 7 with (first
      | (go_at_call 10; (with_reducible refine Calls.mono HT.out ?_); rintro e w1 ⟨rfl, hb1⟩; have HB1 := Lib.hid hb1; clear hb1 HT)
      | (go_at_call 9; (with_reducible refine Calls.mono (HM.out _) ?_); rintro e w2 ⟨O2, g, rfl, h2, hO2, hb2⟩; have HM2 := Lib.hid (HasT.first HB1.out h2 hO2 hb2); clear HM HB1 h2 hO2 hb2))
    have HS0 : Hid (SL At 396 w (w2.alloc (.cells (pcs 0 0 0) 32)) O2 g w2.heap.size (newPw (400 : Nat)) 0 0 0 [] 0) :=
      ⟨HM2.out.far L (below_al _ _), ⟨_, _, _, good_zero 400 (by omega) (by omega)⟩, ⟨Blk.new _ _ _, foot_ne L HM2.out.at_⟩, HM2.out.below.size, Nat.le_refl _, Nat.le_refl _, by have := count_new (400 : Nat); have e : (newMp ((400 : Nat) : Int)).tot = 400 := rfl; show (newMp ((400 : Nat) : Int)).count + 3 * 0 ≥ 396; omega, rfl⟩
    clear HM2
    generalize w2.alloc (.cells (pcs 0 0 0) 32) = w3 at *
    generalize w2.heap.size = gr at *
    go_wp2_with fail
    go_loopw [32] (fun i wr => ∃ (k : Nat) (O : Nat → Prop) (P : Pw) (ra rb rc : Int) (old : List PtrV), k ≤ l0.length ∧ i = .int .i64 (k : Int) ∧ SL At 396 w wr O g gr P ra rb rc old k) (fun i _ => l0.length - (intOf i).toNat)
    case atStart => exact ⟨0, _, _, _, _, _, _, Nat.zero_le _, rfl, HS0.out⟩
    case round =>
      clear HS0
      obtain ⟨k, O, P, ra, rb, rc, old, hk, rfl, hSL⟩ := hrel
      have HSL0 := Lib.hid hSL
      clear hSL
      by_cases hlt : k < l0.length
      · have hki : (k : Int) < l0.length := by omega
        obtain ⟨b, off, rfl, hbl, hr⟩ := rd_tact HR0.out k hlt
        have HRT : Hid (wr.rangeAt b (off + k * 3) l0[k].cs) := fun j v hj => (HSL0.out.has.below.cell (p := ⟨b, off + k * 3 + j, none⟩) hbl).trans (hr j v hj)
        have HDK := Lib.hid (HK0.out _ (List.getElem_mem hlt))
        have HK := Lib.hid (show k < l0.length ∧ l0.length ≤ 30 from ⟨hlt, H30.out⟩)
        generalize l0[k] = x at *
        obtain ⟨xk, xn, xl, xa, xc, xhk, xhn⟩ := x
        clear hr hbl hlt hk
        go_upto_region 10 with (first
          | (with_reducible refine ld_ta rfl _ rfl b (off + k * 3) ⟨xk, xn, xl, xa, xc, xhk, xhn⟩ rfl HRT.out ?_)
          | (with_reducible refine st_ta rfl _ _ rfl wr.heap.size 0 ⟨xk, xn, xl, xa, xc, xhk, xhn⟩ rfl rfl (Blk.taHas (Blk.new wr _ _)) ?_; intro w4 hw4))
        have HSL4 := Lib.hid (HSL0.out.later L (new_ta hw4.out).2)
        have HT4 := Lib.hid (new_ta hw4.out).1
        have HG10 := Lib.hid (foot_ne L HSL0.out.has.at_)
        have hc0 : w4.cell? ⟨wr.heap.size, 0, none⟩ = some (.int .i64 xk) := HT4.out.taF.1
        clear hw4 HSL0 HRT
        generalize wr.heap.size = g10 at *
        by_cases h5 : xk = 5
        · subst h5
          have HN := Lib.hid (L.next HSL4.out.has.at_ (by have := HSL4.out.st; have := HK.out; omega))
          go_wp2_with (go_at_call 16; (with_reducible refine Calls.mono HN.out ?_); rintro e w5 ⟨O5, rfl, h5, s5⟩; have HS5 := Lib.hid (HSL4.out.next h5 s5 (by have := HK.out; omega)); clear h5 s5 HN)
          go_roundw
          case rel => exact ⟨k + 1, _, _, _, _, _, _, HK.out.1, by go_num, HS5.out⟩
          case measure => have := HK.out; simp [intOf]; omega
        · have h5i : (xk == 5) = false := beq_eq_false_iff_ne.2 h5
          have h5j : ¬ xk = 5 := h5
          clear h5
          go_upto_region 12 with fail
          clear hc0
          have HSL : Hid (SL At 396 w w4.drew O g gr P ra rb rc old k) := HSL4.out.later L (Below.refl _ _).drew
          have HS6 : Hid (Blk w4.drew gr 32 (pcs ra rb rc) ∧ Blk w4.drew g10 41 (TAct.cs ⟨xk, xn, xl, xa, xc, xhk, xhn⟩).toArray) := ⟨HSL.out.box.blk, HT4.out.below (Below.refl _ _).drew HT4.out.lt⟩
          have HD : Hid (Rd w4.drew w4.drew.heap.size xa (bys xl)) := (HDK.out.1.below HSL.out.has.below).mono HSL.out.has.below.size
          have HDL : Hid (xl.length ≤ 140737488355328) := Nat.le_trans HDK.out.2 (by omega)
          have HFO : Hid (∀ j, O j → j < w4.drew.heap.size) := fun j hj => L.foot HSL.out.has.at_ j hj
          clear HSL4 HT4 HDK
          refine wp_region_held_drew (S := (fun w' => Blk w' gr 32 (pcs ra rb rc) ∧ Blk w' g10 41 (TAct.cs ⟨xk, xn, xl, xa, xc, xhk, xhn⟩).toArray)) (by kernel_rfl) HS6.out (fun hHeld => ?_)
          generalize w4.drew = w6 at *
          have SET := Lib.hid (fun W (hb : Below w6.heap.size w6 W) A c (hr : RdA W O A (bys xl)) (hlc : xl.length ≤ c) => by
            obtain ⟨F, S, T, hg⟩ := HSL.out.good
            exact set_whatever L hg (HSL.out.later L hb).has.at_ (by have := HSL.out.N; have := HK.out; omega) (by have := HSL.out.cnt; have := HK.out; omega) xn xhn A c xl hr hlc HDL.out)
          have HB : Hid (Below w6.heap.size w6 w6) := Below.refl _ _
          have HLr := Lib.hid HS6.out.1.lt
          have HLt := Lib.hid HS6.out.2.lt
          have HLO := Lib.hid HSL.out.has.below.size
          generalize hbs : w6.heap.size = bs at *
          have HBS := Lib.hid (HSz.mk hbs)
          clear hbs
          refine wpAnyH_take (i := 0) (v := (.pointer (some ⟨g, 0, none⟩))) rfl (by kernel_rfl) (by kernel_rfl) (by kernel_rfl) (fun _ _ _ h => h) (Or.inl ⟨by rfl, ?_⟩) (by assumption) ?_
          · intro w' hS; go_simp; try with_reducible rfl
          try simp [Act.put]
          refine wpAnyH_take (i := 1) (v := (ptq (ra, rb, rc))) rfl (by kernel_rfl) (by kernel_rfl) (by kernel_rfl) (fun _ _ _ h => h) (Or.inl ⟨by rfl, ?_⟩) (by assumption) ?_
          · intro w' hS
            exact ex_ldP (.tmp 8) rfl gr ra rb rc rfl hS.1
          try simp [Act.put]
          refine wpAnyH_take (i := 2) (v := (.pointer (some ⟨g10, 1, none⟩))) rfl (by kernel_rfl) (by kernel_rfl) (by kernel_rfl) (fun _ _ _ h => h) (Or.inl ⟨by rfl, ?_⟩) (by assumption) ?_
          · intro w' hS; go_simp; try with_reducible rfl
          try simp [Act.put]
          refine wpAnyH_take (i := 3) (v := (.int .i64 xn)) rfl (by kernel_rfl) (by kernel_rfl) (by kernel_rfl) (fun _ _ _ h => h) (Or.inl ⟨by rfl, ?_⟩) (by assumption) ?_
          · intro w' hS
            have hcc := hS.2.taF.2.1
            go_simp; try with_reducible rfl
          try simp [Act.put]
          refine wpAnyH_take (i := 5) (v := (.pointer (some ⟨g10, 2, none⟩))) rfl (by kernel_rfl) (by kernel_rfl) (by kernel_rfl) (fun _ _ _ h => h) (Or.inl ⟨by rfl, ?_⟩) (by assumption) ?_
          · intro w' hS; go_simp; try with_reducible rfl
          try simp [Act.put]
          refine wpAnyH_take (i := 6) (v := (.slice xa xl.length xc)) rfl (by kernel_rfl) (by kernel_rfl) (by kernel_rfl) (fun _ _ _ h => h) (Or.inl ⟨by rfl, ?_⟩) (by assumption) ?_
          · intro w' hS
            have hcc := hS.2.taF.2.2
            go_simp; try with_reducible rfl
          try simp [Act.put]
          refine wpAnyH_ready (rs := [4, 13]) (by kernel_rfl) (by simp) ?_
          refine (AllReadyH.cons rfl (fun K hK => ?_) (AllReadyH.cons rfl (fun K hK => ?_) AllReadyH.nil))
          · skip
            go_simp
            have HBn := Lib.hid (HB.out.alloc (bsz HBS.out HB.out) (.cells #[] 5))
            have HE := Lib.hid (ownB_nil w6 bs (bsz HBS.out HB.out))
            refine hK.out _ _ ⟨HS6.out.1.below HBn.out HLr.out, HS6.out.2.below HBn.out HLt.out⟩ (fun hHeld2 => ?_)
            clear hK K HB
            have HB := HBn
            clear HBn
            generalize w6.alloc (.cells #[] 5) = wb0 at *
            generalize w6.heap.size = gE at *
            try simp
            clear hHeld
            have hHeld := hHeld2
            clear hHeld2
            refine wpAnyH_ready (rs := [7, 13]) (by kernel_rfl) (by simp) ?_
            refine (AllReadyH.cons rfl (fun K hK => ?_) (AllReadyH.cons rfl (fun K hK => ?_) AllReadyH.nil))
            · skip
              refine step_copyB rfl 46 48 rfl bs gE rfl HE.out _ xa xl.length xc xl rfl rfl (HD.out.below HB.out) HDL.out (bsz HBS.out HB.out) ?_
              intro A7 c7 wl1 hown hc7 hgr
              have HBn := Lib.hid (below_own HB.out HE.out (Nat.le_refl _) (bsz HBS.out HB.out) hgr)
              have HL := Lib.hid hown
              have HL7 := Lib.hid hc7
              refine hK.out _ _ ⟨HS6.out.1.below HBn.out HLr.out, HS6.out.2.below HBn.out HLt.out⟩ (fun hHeld2 => ?_)
              clear hK K hown hc7 hgr HB HE
              have HB := HBn
              clear HBn
              skip
              try simp
              clear hHeld
              have hHeld := hHeld2
              clear hHeld2
              refine wpAnyH_ready (rs := [8, 13]) (by kernel_rfl) (by simp) ?_
              refine (AllReadyH.cons rfl (fun K hK => ?_) (AllReadyH.cons rfl (fun K hK => ?_) AllReadyH.nil))
              · skip
                go_simp
                refine Calls.mono (SET.out wl1 HB.out A7 c7 (own_rdA HL.out HFO.out) HL7.out) ?_
                rintro e ws2 ⟨O2, P2, ⟨ra2, rb2, rc2⟩, kk, B2, d2, code, rfl, hch⟩
                have HC := Lib.hid hch
                have HSw := Lib.hid (HSL.out.later L (bsub HBS.out HB.out))
                have HSs : Hid (Blk ws2 gr 32 (pcs ra rb rc) ∧ Blk ws2 g10 41 (TAct.cs ⟨xk, xn, xl, xa, xc, xhk, xhn⟩).toArray) := ⟨(HSw.out.box.step hch.step).blk, (HS6.out.2.below HB.out HLt.out).chg hch.step.chg HG10.out⟩
                refine hK.out _ _ HSs.out (fun hHeld2 => ?_)
                clear hK K hch SET HL HL7
                skip
                try simp
                clear hHeld
                have hHeld := hHeld2
                clear hHeld2
                refine wpAnyH_take (i := 9) (v := (.tuple #[ptq (ra2, rb2, rc2), .slice B2 kk.length d2, .int .i64 code])) rfl (by kernel_rfl) (by kernel_rfl) (by kernel_rfl) (fun _ _ _ h => h) (Or.inl ⟨by rfl, ?_⟩) (by assumption) ?_
                · intro w' hS; go_simp; try with_reducible rfl
                try simp [Act.put]
                refine wpAnyH_take (i := 10) (v := (ptq (ra2, rb2, rc2))) rfl (by kernel_rfl) (by kernel_rfl) (by kernel_rfl) (fun _ _ _ h => h) (Or.inl ⟨by rfl, ?_⟩) (by assumption) ?_
                · intro w' hS; go_simp; try with_reducible rfl
                try simp [Act.put]
                refine wpAnyH_take (i := 11) (v := (.slice B2 kk.length d2)) rfl (by kernel_rfl) (by kernel_rfl) (by kernel_rfl) (fun _ _ _ h => h) (Or.inl ⟨by rfl, ?_⟩) (by assumption) ?_
                · intro w' hS; go_simp; try with_reducible rfl
                try simp [Act.put]
                refine wpAnyH_take (i := 12) (v := (.int .i64 code)) rfl (by kernel_rfl) (by kernel_rfl) (by kernel_rfl) (fun _ _ _ h => h) (Or.inl ⟨by rfl, ?_⟩) (by assumption) ?_
                · intro w' hS; go_simp; try with_reducible rfl
                try simp [Act.put]
                refine wpAnyH_ready (rs := [13]) (by kernel_rfl) (by simp) ?_
                refine (AllReadyH.cons rfl (fun K hK => ?_) AllReadyH.nil)
                go_simp
                have HAn : Hid (Blk (ws2.alloc (.cells (pcs 0 0 0) 32)) ws2.heap.size 32 (pcs 0 0 0) ∧ bs ≤ ws2.heap.size ∧ ¬ O2 ws2.heap.size) := Lib.hid (And.intro (Blk.new ws2 _ _) (And.intro (Nat.le_trans (bsz HBS.out HB.out) HC.out.step.chg.size) (foot_ne L HC.out.at_)))
                have HSn : Hid (Blk (ws2.alloc (.cells (pcs 0 0 0) 32)) gr 32 (pcs ra rb rc) ∧ Blk (ws2.alloc (.cells (pcs 0 0 0) 32)) g10 41 (TAct.cs ⟨xk, xn, xl, xa, xc, xhk, xhn⟩).toArray) := ⟨HSs.out.1.below (below_al ws2 _) HSs.out.1.lt, HSs.out.2.below (below_al ws2 _) HSs.out.2.lt⟩
                have HX := Lib.hid (show Chg ws2 (ws2.alloc (.cells (pcs 0 0 0) 32)) (fun j => j = ws2.heap.size ∨ j = gr) from (Chg.refl _ _).alloc _)
                refine hK.out _ _ HSn.out (fun hHeld2 => ?_)
                clear hK K HSs
                have HA := HAn
                have HSs := HSn
                clear HAn HSn
                generalize ws2.alloc (.cells (pcs 0 0 0) 32) = wa3 at *
                generalize ws2.heap.size = g11 at *
                try simp
                clear hHeld
                have hHeld := hHeld2
                clear hHeld2
                refine wpAnyH_ready (rs := [14]) (by kernel_rfl) (by simp) ?_
                refine AllReadyH.cons rfl (fun K hK => ?_) AllReadyH.nil
                refine step_stPt rfl (.tmp 11) (.tmp 51) rfl g11 ra2 rb2 rc2 0 0 0 rfl rfl HA.out.1 ?_
                intro w8 hb8 _ hc8
                have HNr : Hid (gr ≠ g11) := Lib.hid (by have := HLr.out; have := HA.out.2.1; omega)
                have HNt : Hid (g10 ≠ g11) := Lib.hid (by have := HLt.out; have := HA.out.2.1; omega)
                have HS8 : Hid (Blk w8 gr 32 (pcs ra rb rc) ∧ Blk w8 g10 41 (TAct.cs ⟨xk, xn, xl, xa, xc, xhk, xhn⟩).toArray) := ⟨HSs.out.1.chg (hc8 (· = g11) rfl) HNr.out, HSs.out.2.chg (hc8 (· = g11) rfl) HNt.out⟩
                have HX8 := Lib.hid (HX.out.trans (hc8 (fun j => j = g11 ∨ j = gr) (.inl rfl)) fun _ _ h => h)
                have HB8 := Lib.hid hb8
                refine hK.out _ _ HS8.out (fun hHeld2 => ?_)
                clear hK K HSs HX hc8 hb8
                try simp
                clear hHeld
                have hHeld := hHeld2
                clear hHeld2
                refine wpAnyH_take (i := 15) (v := (.slice B2 kk.length d2)) rfl (by kernel_rfl) (by kernel_rfl) (by kernel_rfl) (fun _ _ _ h => h) (Or.inl ⟨by rfl, ?_⟩) (by assumption) ?_
                · intro w' hS; go_simp; try with_reducible rfl
                try simp [Act.put]
                refine wpAnyH_take (i := 16) (v := (.int .i64 code)) rfl (by kernel_rfl) (by kernel_rfl) (by kernel_rfl) (fun _ _ _ h => h) (Or.inl ⟨by rfl, ?_⟩) (by assumption) ?_
                · intro w' hS; go_simp; try with_reducible rfl
                try simp [Act.put]
                refine wpAnyH_done (by kernel_rfl) ?_ _
                clear hHeld
                go_wp2_with (first
                  | (refine ld_ptr rfl (.tmp 11) rfl g11 32 ra2 rb2 rc2 rfl HB8.out ?_)
                  | (refine st_pt2 rfl (.tmp 8) (.tmp 54) rfl gr _ ra2 rb2 rc2 rfl rfl HS8.out.1 rfl ?_; intro w9 hb9 hc9; have HX9 := Lib.hid (HX8.out.trans (hc9 (fun j => j = g11 ∨ j = gr) (.inr rfl)) fun _ _ h => h); have HB9 := Lib.hid hb9; clear hb9 hc9))
                go_roundw
                case rel => exact ⟨k + 1, _, _, _, _, _, _, HK.out.1, by go_num, HSw.out.done L HC.out HX9.out HA.out.2.2 (Nat.le_trans HLO.out HA.out.2.1) HB9.out⟩
                case measure => have := HK.out; simp [intOf]; omega
              · skip
                go_simp
                have HBn := Lib.hid (HB.out.alloc (bsz HBS.out HB.out) (.cells (pcs 0 0 0) 32))
                have HA : Hid (Blk (wl1.alloc (.cells (pcs 0 0 0) 32)) wl1.heap.size 32 (pcs 0 0 0) ∧ bs ≤ wl1.heap.size) := Lib.hid (And.intro (Blk.new wl1 _ _) (bsz HBS.out HB.out))
                have HLn := Lib.hid (own_far HL.out (below_al wl1 (.cells (pcs 0 0 0) 32)))
                refine hK.out _ _ ⟨HS6.out.1.below HBn.out HLr.out, HS6.out.2.below HBn.out HLt.out⟩ (fun hHeld2 => ?_)
                clear hK K HB HL
                have HB := HBn
                clear HBn
                have HL := HLn
                clear HLn
                generalize wl1.alloc (.cells (pcs 0 0 0) 32) = wa2 at *
                generalize wl1.heap.size = g11 at *
                try simp
                clear hHeld
                have hHeld := hHeld2
                clear hHeld2
                refine wpAnyH_ready (rs := [8]) (by kernel_rfl) (by simp) ?_
                refine (AllReadyH.cons rfl (fun K hK => ?_) AllReadyH.nil)
                go_simp
                refine Calls.mono (SET.out wa2 HB.out A7 c7 (own_rdA HL.out HFO.out) HL7.out) ?_
                rintro e ws3 ⟨O2, P2, ⟨ra2, rb2, rc2⟩, kk, B2, d2, code, rfl, hch⟩
                have HC := Lib.hid hch
                have HSw := Lib.hid (HSL.out.later L (bsub HBS.out HB.out))
                have HSs : Hid (Blk ws3 gr 32 (pcs ra rb rc) ∧ Blk ws3 g10 41 (TAct.cs ⟨xk, xn, xl, xa, xc, xhk, xhn⟩).toArray) := ⟨(HSw.out.box.step hch.step).blk, (HS6.out.2.below HB.out HLt.out).chg hch.step.chg HG10.out⟩
                have HAn : Hid (Blk ws3 g11 32 (pcs 0 0 0) ∧ bs ≤ g11 ∧ ¬ O2 g11) := by
                  obtain ⟨a1, a2⟩ := HA.out.1.aside (fun ho => by have := HFO.out _ ho; have := HA.out.2; omega) hch.step
                  exact ⟨a1, HA.out.2, a2⟩
                have HX := Lib.hid (show Chg ws3 ws3 (fun j => j = g11 ∨ j = gr) from Chg.refl _ _)
                refine hK.out _ _ HSs.out (fun hHeld2 => ?_)
                clear hK K hch SET HL HL7 HA
                have HA := HAn
                clear HAn
                try simp
                clear hHeld
                have hHeld := hHeld2
                clear hHeld2
                refine wpAnyH_take (i := 9) (v := (.tuple #[ptq (ra2, rb2, rc2), .slice B2 kk.length d2, .int .i64 code])) rfl (by kernel_rfl) (by kernel_rfl) (by kernel_rfl) (fun _ _ _ h => h) (Or.inl ⟨by rfl, ?_⟩) (by assumption) ?_
                · intro w' hS; go_simp; try with_reducible rfl
                try simp [Act.put]
                refine wpAnyH_take (i := 10) (v := (ptq (ra2, rb2, rc2))) rfl (by kernel_rfl) (by kernel_rfl) (by kernel_rfl) (fun _ _ _ h => h) (Or.inl ⟨by rfl, ?_⟩) (by assumption) ?_
                · intro w' hS; go_simp; try with_reducible rfl
                try simp [Act.put]
                refine wpAnyH_take (i := 11) (v := (.slice B2 kk.length d2)) rfl (by kernel_rfl) (by kernel_rfl) (by kernel_rfl) (fun _ _ _ h => h) (Or.inl ⟨by rfl, ?_⟩) (by assumption) ?_
                · intro w' hS; go_simp; try with_reducible rfl
                try simp [Act.put]
                refine wpAnyH_take (i := 12) (v := (.int .i64 code)) rfl (by kernel_rfl) (by kernel_rfl) (by kernel_rfl) (fun _ _ _ h => h) (Or.inl ⟨by rfl, ?_⟩) (by assumption) ?_
                · intro w' hS; go_simp; try with_reducible rfl
                try simp [Act.put]
                refine wpAnyH_ready (rs := [14]) (by kernel_rfl) (by simp) ?_
                refine AllReadyH.cons rfl (fun K hK => ?_) AllReadyH.nil
                refine step_stPt rfl (.tmp 11) (.tmp 51) rfl g11 ra2 rb2 rc2 0 0 0 rfl rfl HA.out.1 ?_
                intro w8 hb8 _ hc8
                have HNr : Hid (gr ≠ g11) := Lib.hid (by have := HLr.out; have := HA.out.2.1; omega)
                have HNt : Hid (g10 ≠ g11) := Lib.hid (by have := HLt.out; have := HA.out.2.1; omega)
                have HS8 : Hid (Blk w8 gr 32 (pcs ra rb rc) ∧ Blk w8 g10 41 (TAct.cs ⟨xk, xn, xl, xa, xc, xhk, xhn⟩).toArray) := ⟨HSs.out.1.chg (hc8 (· = g11) rfl) HNr.out, HSs.out.2.chg (hc8 (· = g11) rfl) HNt.out⟩
                have HX8 := Lib.hid (HX.out.trans (hc8 (fun j => j = g11 ∨ j = gr) (.inl rfl)) fun _ _ h => h)
                have HB8 := Lib.hid hb8
                refine hK.out _ _ HS8.out (fun hHeld2 => ?_)
                clear hK K HSs HX hc8 hb8
                try simp
                clear hHeld
                have hHeld := hHeld2
                clear hHeld2
                refine wpAnyH_take (i := 15) (v := (.slice B2 kk.length d2)) rfl (by kernel_rfl) (by kernel_rfl) (by kernel_rfl) (fun _ _ _ h => h) (Or.inl ⟨by rfl, ?_⟩) (by assumption) ?_
                · intro w' hS; go_simp; try with_reducible rfl
                try simp [Act.put]
                refine wpAnyH_take (i := 16) (v := (.int .i64 code)) rfl (by kernel_rfl) (by kernel_rfl) (by kernel_rfl) (fun _ _ _ h => h) (Or.inl ⟨by rfl, ?_⟩) (by assumption) ?_
                · intro w' hS; go_simp; try with_reducible rfl
                try simp [Act.put]
                refine wpAnyH_done (by kernel_rfl) ?_ _
                clear hHeld
                go_wp2_with (first
                  | (refine ld_ptr rfl (.tmp 11) rfl g11 32 ra2 rb2 rc2 rfl HB8.out ?_)
                  | (refine st_pt2 rfl (.tmp 8) (.tmp 54) rfl gr _ ra2 rb2 rc2 rfl rfl HS8.out.1 rfl ?_; intro w9 hb9 hc9; have HX9 := Lib.hid (HX8.out.trans (hc9 (fun j => j = g11 ∨ j = gr) (.inr rfl)) fun _ _ h => h); have HB9 := Lib.hid hb9; clear hb9 hc9))
                go_roundw
                case rel => exact ⟨k + 1, _, _, _, _, _, _, HK.out.1, by go_num, HSw.out.done L HC.out HX9.out HA.out.2.2 (Nat.le_trans HLO.out HA.out.2.1) HB9.out⟩
                case measure => have := HK.out; simp [intOf]; omega
            · skip
              go_simp
              have HBn := Lib.hid (HB.out.alloc (bsz HBS.out HB.out) (.cells (pcs 0 0 0) 32))
              have HA : Hid (Blk (wb0.alloc (.cells (pcs 0 0 0) 32)) wb0.heap.size 32 (pcs 0 0 0) ∧ bs ≤ wb0.heap.size) := Lib.hid (And.intro (Blk.new wb0 _ _) (bsz HBS.out HB.out))
              have HNE : Hid (wb0.heap.size ≠ gE) := Lib.hid (by have := (World.ownsRow.lt HE.out gE rfl).2; omega)
              have HEn := Lib.hid (own_far HE.out (below_al wb0 (.cells (pcs 0 0 0) 32)))
              refine hK.out _ _ ⟨HS6.out.1.below HBn.out HLr.out, HS6.out.2.below HBn.out HLt.out⟩ (fun hHeld2 => ?_)
              clear hK K HB HE
              have HB := HBn
              clear HBn
              have HE := HEn
              clear HEn
              generalize wb0.alloc (.cells (pcs 0 0 0) 32) = wa1 at *
              generalize wb0.heap.size = g11 at *
              try simp
              clear hHeld
              have hHeld := hHeld2
              clear hHeld2
              refine wpAnyH_ready (rs := [7]) (by kernel_rfl) (by simp) ?_
              refine (AllReadyH.cons rfl (fun K hK => ?_) AllReadyH.nil)
              refine step_copyB rfl 46 48 rfl bs gE rfl HE.out _ xa xl.length xc xl rfl rfl (HD.out.below HB.out) HDL.out (bsz HBS.out HB.out) ?_
              intro A7 c7 wl2 hown hc7 hgr
              have HBn := Lib.hid (below_own HB.out HE.out (Nat.le_refl _) (bsz HBS.out HB.out) hgr)
              have HL := Lib.hid hown
              have HL7 := Lib.hid hc7
              have HAn := Lib.hid (And.intro (show Blk wl2 g11 32 (pcs 0 0 0) from (hgr.block g11 HA.out.1.lt (fun e => HNE.out (Option.some.inj e))).trans HA.out.1) HA.out.2)
              refine hK.out _ _ ⟨HS6.out.1.below HBn.out HLr.out, HS6.out.2.below HBn.out HLt.out⟩ (fun hHeld2 => ?_)
              clear hK K hown hc7 hgr HB HE HA HNE
              have HB := HBn
              clear HBn
              have HA := HAn
              clear HAn
              try simp
              clear hHeld
              have hHeld := hHeld2
              clear hHeld2
              refine wpAnyH_ready (rs := [8]) (by kernel_rfl) (by simp) ?_
              refine (AllReadyH.cons rfl (fun K hK => ?_) AllReadyH.nil)
              go_simp
              refine Calls.mono (SET.out wl2 HB.out A7 c7 (own_rdA HL.out HFO.out) HL7.out) ?_
              rintro e ws3 ⟨O2, P2, ⟨ra2, rb2, rc2⟩, kk, B2, d2, code, rfl, hch⟩
              have HC := Lib.hid hch
              have HSw := Lib.hid (HSL.out.later L (bsub HBS.out HB.out))
              have HSs : Hid (Blk ws3 gr 32 (pcs ra rb rc) ∧ Blk ws3 g10 41 (TAct.cs ⟨xk, xn, xl, xa, xc, xhk, xhn⟩).toArray) := ⟨(HSw.out.box.step hch.step).blk, (HS6.out.2.below HB.out HLt.out).chg hch.step.chg HG10.out⟩
              have HAn : Hid (Blk ws3 g11 32 (pcs 0 0 0) ∧ bs ≤ g11 ∧ ¬ O2 g11) := by
                obtain ⟨a1, a2⟩ := HA.out.1.aside (fun ho => by have := HFO.out _ ho; have := HA.out.2; omega) hch.step
                exact ⟨a1, HA.out.2, a2⟩
              have HX := Lib.hid (show Chg ws3 ws3 (fun j => j = g11 ∨ j = gr) from Chg.refl _ _)
              refine hK.out _ _ HSs.out (fun hHeld2 => ?_)
              clear hK K hch SET HL HL7 HA
              have HA := HAn
              clear HAn
              try simp
              clear hHeld
              have hHeld := hHeld2
              clear hHeld2
              refine wpAnyH_take (i := 9) (v := (.tuple #[ptq (ra2, rb2, rc2), .slice B2 kk.length d2, .int .i64 code])) rfl (by kernel_rfl) (by kernel_rfl) (by kernel_rfl) (fun _ _ _ h => h) (Or.inl ⟨by rfl, ?_⟩) (by assumption) ?_
              · intro w' hS; go_simp; try with_reducible rfl
              try simp [Act.put]
              refine wpAnyH_take (i := 10) (v := (ptq (ra2, rb2, rc2))) rfl (by kernel_rfl) (by kernel_rfl) (by kernel_rfl) (fun _ _ _ h => h) (Or.inl ⟨by rfl, ?_⟩) (by assumption) ?_
              · intro w' hS; go_simp; try with_reducible rfl
              try simp [Act.put]
              refine wpAnyH_take (i := 11) (v := (.slice B2 kk.length d2)) rfl (by kernel_rfl) (by kernel_rfl) (by kernel_rfl) (fun _ _ _ h => h) (Or.inl ⟨by rfl, ?_⟩) (by assumption) ?_
              · intro w' hS; go_simp; try with_reducible rfl
              try simp [Act.put]
              refine wpAnyH_take (i := 12) (v := (.int .i64 code)) rfl (by kernel_rfl) (by kernel_rfl) (by kernel_rfl) (fun _ _ _ h => h) (Or.inl ⟨by rfl, ?_⟩) (by assumption) ?_
              · intro w' hS; go_simp; try with_reducible rfl
              try simp [Act.put]
              refine wpAnyH_ready (rs := [14]) (by kernel_rfl) (by simp) ?_
              refine AllReadyH.cons rfl (fun K hK => ?_) AllReadyH.nil
              refine step_stPt rfl (.tmp 11) (.tmp 51) rfl g11 ra2 rb2 rc2 0 0 0 rfl rfl HA.out.1 ?_
              intro w8 hb8 _ hc8
              have HNr : Hid (gr ≠ g11) := Lib.hid (by have := HLr.out; have := HA.out.2.1; omega)
              have HNt : Hid (g10 ≠ g11) := Lib.hid (by have := HLt.out; have := HA.out.2.1; omega)
              have HS8 : Hid (Blk w8 gr 32 (pcs ra rb rc) ∧ Blk w8 g10 41 (TAct.cs ⟨xk, xn, xl, xa, xc, xhk, xhn⟩).toArray) := ⟨HSs.out.1.chg (hc8 (· = g11) rfl) HNr.out, HSs.out.2.chg (hc8 (· = g11) rfl) HNt.out⟩
              have HX8 := Lib.hid (HX.out.trans (hc8 (fun j => j = g11 ∨ j = gr) (.inl rfl)) fun _ _ h => h)
              have HB8 := Lib.hid hb8
              refine hK.out _ _ HS8.out (fun hHeld2 => ?_)
              clear hK K HSs HX hc8 hb8
              try simp
              clear hHeld
              have hHeld := hHeld2
              clear hHeld2
              refine wpAnyH_take (i := 15) (v := (.slice B2 kk.length d2)) rfl (by kernel_rfl) (by kernel_rfl) (by kernel_rfl) (fun _ _ _ h => h) (Or.inl ⟨by rfl, ?_⟩) (by assumption) ?_
              · intro w' hS; go_simp; try with_reducible rfl
              try simp [Act.put]
              refine wpAnyH_take (i := 16) (v := (.int .i64 code)) rfl (by kernel_rfl) (by kernel_rfl) (by kernel_rfl) (fun _ _ _ h => h) (Or.inl ⟨by rfl, ?_⟩) (by assumption) ?_
              · intro w' hS; go_simp; try with_reducible rfl
              try simp [Act.put]
              refine wpAnyH_done (by kernel_rfl) ?_ _
              clear hHeld
              go_wp2_with (first
                | (refine ld_ptr rfl (.tmp 11) rfl g11 32 ra2 rb2 rc2 rfl HB8.out ?_)
                | (refine st_pt2 rfl (.tmp 8) (.tmp 54) rfl gr _ ra2 rb2 rc2 rfl rfl HS8.out.1 rfl ?_; intro w9 hb9 hc9; have HX9 := Lib.hid (HX8.out.trans (hc9 (fun j => j = g11 ∨ j = gr) (.inr rfl)) fun _ _ h => h); have HB9 := Lib.hid hb9; clear hb9 hc9))
              go_roundw
              case rel => exact ⟨k + 1, _, _, _, _, _, _, HK.out.1, by go_num, HSw.out.done L HC.out HX9.out HA.out.2.2 (Nat.le_trans HLO.out HA.out.2.1) HB9.out⟩
              case measure => have := HK.out; simp [intOf]; omega
          · skip
            go_simp
            have HBn := Lib.hid (HB.out.alloc (bsz HBS.out HB.out) (.cells (pcs 0 0 0) 32))
            have HA : Hid (Blk (w6.alloc (.cells (pcs 0 0 0) 32)) w6.heap.size 32 (pcs 0 0 0) ∧ bs ≤ w6.heap.size) := Lib.hid (And.intro (Blk.new w6 _ _) (bsz HBS.out HB.out))
            refine hK.out _ _ ⟨HS6.out.1.below HBn.out HLr.out, HS6.out.2.below HBn.out HLt.out⟩ (fun hHeld2 => ?_)
            clear hK K HB
            have HB := HBn
            clear HBn
            generalize w6.alloc (.cells (pcs 0 0 0) 32) = wa0 at *
            generalize w6.heap.size = g11 at *
            try simp
            clear hHeld
            have hHeld := hHeld2
            clear hHeld2
            refine wpAnyH_ready (rs := [4]) (by kernel_rfl) (by simp) ?_
            refine (AllReadyH.cons rfl (fun K hK => ?_) AllReadyH.nil)
            go_simp
            have HBn := Lib.hid (HB.out.alloc (bsz HBS.out HB.out) (.cells #[] 5))
            have HE := Lib.hid (ownB_nil wa0 bs (bsz HBS.out HB.out))
            have HAn := Lib.hid (And.intro (HA.out.1.below (below_al wa0 (.cells #[] 5)) HA.out.1.lt) HA.out.2)
            have HNE : Hid (g11 ≠ wa0.heap.size) := Lib.hid (by have := HA.out.1.lt; omega)
            refine hK.out _ _ ⟨HS6.out.1.below HBn.out HLr.out, HS6.out.2.below HBn.out HLt.out⟩ (fun hHeld2 => ?_)
            clear hK K HB HA
            have HB := HBn
            clear HBn
            have HA := HAn
            clear HAn
            generalize wa0.alloc (.cells #[] 5) = wb1 at *
            generalize wa0.heap.size = gE at *
            try simp
            clear hHeld
            have hHeld := hHeld2
            clear hHeld2
            refine wpAnyH_ready (rs := [7]) (by kernel_rfl) (by simp) ?_
            refine (AllReadyH.cons rfl (fun K hK => ?_) AllReadyH.nil)
            refine step_copyB rfl 46 48 rfl bs gE rfl HE.out _ xa xl.length xc xl rfl rfl (HD.out.below HB.out) HDL.out (bsz HBS.out HB.out) ?_
            intro A7 c7 wl2 hown hc7 hgr
            have HBn := Lib.hid (below_own HB.out HE.out (Nat.le_refl _) (bsz HBS.out HB.out) hgr)
            have HL := Lib.hid hown
            have HL7 := Lib.hid hc7
            have HAn := Lib.hid (And.intro (show Blk wl2 g11 32 (pcs 0 0 0) from (hgr.block g11 HA.out.1.lt (fun e => HNE.out (Option.some.inj e))).trans HA.out.1) HA.out.2)
            refine hK.out _ _ ⟨HS6.out.1.below HBn.out HLr.out, HS6.out.2.below HBn.out HLt.out⟩ (fun hHeld2 => ?_)
            clear hK K hown hc7 hgr HB HE HA HNE
            have HB := HBn
            clear HBn
            have HA := HAn
            clear HAn
            try simp
            clear hHeld
            have hHeld := hHeld2
            clear hHeld2
            refine wpAnyH_ready (rs := [8]) (by kernel_rfl) (by simp) ?_
            refine (AllReadyH.cons rfl (fun K hK => ?_) AllReadyH.nil)
            go_simp
            refine Calls.mono (SET.out wl2 HB.out A7 c7 (own_rdA HL.out HFO.out) HL7.out) ?_
            rintro e ws3 ⟨O2, P2, ⟨ra2, rb2, rc2⟩, kk, B2, d2, code, rfl, hch⟩
            have HC := Lib.hid hch
            have HSw := Lib.hid (HSL.out.later L (bsub HBS.out HB.out))
            have HSs : Hid (Blk ws3 gr 32 (pcs ra rb rc) ∧ Blk ws3 g10 41 (TAct.cs ⟨xk, xn, xl, xa, xc, xhk, xhn⟩).toArray) := ⟨(HSw.out.box.step hch.step).blk, (HS6.out.2.below HB.out HLt.out).chg hch.step.chg HG10.out⟩
            have HAn : Hid (Blk ws3 g11 32 (pcs 0 0 0) ∧ bs ≤ g11 ∧ ¬ O2 g11) := by
              obtain ⟨a1, a2⟩ := HA.out.1.aside (fun ho => by have := HFO.out _ ho; have := HA.out.2; omega) hch.step
              exact ⟨a1, HA.out.2, a2⟩
            have HX := Lib.hid (show Chg ws3 ws3 (fun j => j = g11 ∨ j = gr) from Chg.refl _ _)
            refine hK.out _ _ HSs.out (fun hHeld2 => ?_)
            clear hK K hch SET HL HL7 HA
            have HA := HAn
            clear HAn
            try simp
            clear hHeld
            have hHeld := hHeld2
            clear hHeld2
            refine wpAnyH_take (i := 9) (v := (.tuple #[ptq (ra2, rb2, rc2), .slice B2 kk.length d2, .int .i64 code])) rfl (by kernel_rfl) (by kernel_rfl) (by kernel_rfl) (fun _ _ _ h => h) (Or.inl ⟨by rfl, ?_⟩) (by assumption) ?_
            · intro w' hS; go_simp; try with_reducible rfl
            try simp [Act.put]
            refine wpAnyH_take (i := 10) (v := (ptq (ra2, rb2, rc2))) rfl (by kernel_rfl) (by kernel_rfl) (by kernel_rfl) (fun _ _ _ h => h) (Or.inl ⟨by rfl, ?_⟩) (by assumption) ?_
            · intro w' hS; go_simp; try with_reducible rfl
            try simp [Act.put]
            refine wpAnyH_take (i := 11) (v := (.slice B2 kk.length d2)) rfl (by kernel_rfl) (by kernel_rfl) (by kernel_rfl) (fun _ _ _ h => h) (Or.inl ⟨by rfl, ?_⟩) (by assumption) ?_
            · intro w' hS; go_simp; try with_reducible rfl
            try simp [Act.put]
            refine wpAnyH_take (i := 12) (v := (.int .i64 code)) rfl (by kernel_rfl) (by kernel_rfl) (by kernel_rfl) (fun _ _ _ h => h) (Or.inl ⟨by rfl, ?_⟩) (by assumption) ?_
            · intro w' hS; go_simp; try with_reducible rfl
            try simp [Act.put]
            refine wpAnyH_ready (rs := [14]) (by kernel_rfl) (by simp) ?_
            refine AllReadyH.cons rfl (fun K hK => ?_) AllReadyH.nil
            refine step_stPt rfl (.tmp 11) (.tmp 51) rfl g11 ra2 rb2 rc2 0 0 0 rfl rfl HA.out.1 ?_
            intro w8 hb8 _ hc8
            have HNr : Hid (gr ≠ g11) := Lib.hid (by have := HLr.out; have := HA.out.2.1; omega)
            have HNt : Hid (g10 ≠ g11) := Lib.hid (by have := HLt.out; have := HA.out.2.1; omega)
            have HS8 : Hid (Blk w8 gr 32 (pcs ra rb rc) ∧ Blk w8 g10 41 (TAct.cs ⟨xk, xn, xl, xa, xc, xhk, xhn⟩).toArray) := ⟨HSs.out.1.chg (hc8 (· = g11) rfl) HNr.out, HSs.out.2.chg (hc8 (· = g11) rfl) HNt.out⟩
            have HX8 := Lib.hid (HX.out.trans (hc8 (fun j => j = g11 ∨ j = gr) (.inl rfl)) fun _ _ h => h)
            have HB8 := Lib.hid hb8
            refine hK.out _ _ HS8.out (fun hHeld2 => ?_)
            clear hK K HSs HX hc8 hb8
            try simp
            clear hHeld
            have hHeld := hHeld2
            clear hHeld2
            refine wpAnyH_take (i := 15) (v := (.slice B2 kk.length d2)) rfl (by kernel_rfl) (by kernel_rfl) (by kernel_rfl) (fun _ _ _ h => h) (Or.inl ⟨by rfl, ?_⟩) (by assumption) ?_
            · intro w' hS; go_simp; try with_reducible rfl
            try simp [Act.put]
            refine wpAnyH_take (i := 16) (v := (.int .i64 code)) rfl (by kernel_rfl) (by kernel_rfl) (by kernel_rfl) (fun _ _ _ h => h) (Or.inl ⟨by rfl, ?_⟩) (by assumption) ?_
            · intro w' hS; go_simp; try with_reducible rfl
            try simp [Act.put]
            refine wpAnyH_done (by kernel_rfl) ?_ _
            clear hHeld
            go_wp2_with (first
              | (refine ld_ptr rfl (.tmp 11) rfl g11 32 ra2 rb2 rc2 rfl HB8.out ?_)
              | (refine st_pt2 rfl (.tmp 8) (.tmp 54) rfl gr _ ra2 rb2 rc2 rfl rfl HS8.out.1 rfl ?_; intro w9 hb9 hc9; have HX9 := Lib.hid (HX8.out.trans (hc9 (fun j => j = g11 ∨ j = gr) (.inr rfl)) fun _ _ h => h); have HB9 := Lib.hid hb9; clear hb9 hc9))
            go_roundw
            case rel => exact ⟨k + 1, _, _, _, _, _, _, HK.out.1, by go_num, HSw.out.done L HC.out HX9.out HA.out.2.2 (Nat.le_trans HLO.out HA.out.2.1) HB9.out⟩
            case measure => have := HK.out; simp [intOf]; omega
      · obtain rfl : k = l0.length := by omega
        clear hk hlt HR0 HK0 hzt
        obtain ⟨F, S, T, hg⟩ := HSL0.out.good
        have HG := Lib.hid hg
        have HST := Lib.hid (show P.st < 18446744073709551616 by have := HSL0.out.st; have := H30.out; omega)
        clear hg
        rcases Nat.lt_trichotomy xb1 xa1 with hx | hx | hx
        · skip
          have hxi : (xb1 : Int) < xa1 := by omega
          have hxj : ¬ (xa1 : Int) < xb1 := by omega
          clear hx
          have HW1 := Lib.hid (L.all xb1 hxb HSL0.out.has.at_ HG.out.ok HG.out.tree)
          have HBO := Lib.hid HSL0.out.box.blk
          have HSUB := Lib.hid (all_sub HG.out (a := (xb1 : Int)) (b := (xa1 : Int)) (by omega))
          have HLEN := Lib.hid (all_len (root := (ra, rb, rc)) (F := F) (S := S) (xb1 : Int))
          go_upto_region 17 with (first
            | (refine ld_ptr rfl (.tmp 8) rfl gr 32 ra rb rc rfl HBO.out ?_)
            | (refine ld_ptr rfl (.tmp 8) rfl gr 32 ra rb rc rfl HBO5.out ?_)
            | (go_at_call 17; (with_reducible refine Calls.mono HW1.out ?_); rintro e w5 ⟨O5, B1, d1, rfl, h5, r5, s5⟩; have HS5 := Lib.hid (HSL0.out.same h5 s5); have HR5 := Lib.hid r5.toRdA; have HW2 := Lib.hid (L.all xa1 hxa HS5.out.has.at_ HG.out.ok HG.out.tree); have HBO5 := Lib.hid HS5.out.box.blk; clear h5 r5 s5 HW1 HBO)
            | (go_at_call 17; (with_reducible refine Calls.mono HW2.out ?_); rintro e w6 ⟨O6, B2, d2, rfl, h6, r6, s6⟩; have HS6 := Lib.hid (HS5.out.same h6 s6); have HR6 := Lib.hid (And.intro (HR5.out.step s6) r6.toRdA); clear h6 r6 s6 HW2 HR5 HBO5 HS5))
          clear HSL0
          have HS7 : Hid (SL At 396 w w6.drew O6 g gr P ra rb rc old l0.length) := HS6.out.later L (Below.refl _ _).drew
          have HR7 : Hid (RdA w6.drew O6 B1 (pqs (allL (xb1 : Int) (ra, rb, rc) F S)) ∧ RdA w6.drew O6 B2 (pqs (allL (xa1 : Int) (ra, rb, rc) F S))) := ⟨HR6.out.1.far (Below.refl _ _).drew, HR6.out.2.far (Below.refl _ _).drew⟩
          clear HS6 HR6
          refine wp_region_held_drew (S := (fun w' => Blk w' gr 32 (pcs ra rb rc))) (by kernel_rfl) HS7.out.box.blk (fun hHeld => ?_)
          generalize w6.drew = w7 at *
          have HSTP := Lib.hid (L.stamp HS7.out.has.at_)
          refine wpAnyH_take (i := 0) (v := (.pointer (some ⟨g, 0, none⟩))) rfl (by kernel_rfl) (by kernel_rfl) (by kernel_rfl) (fun _ _ _ h => h) (Or.inl ⟨by rfl, ?_⟩) (by assumption) ?_
          · intro w' hS; go_simp; try with_reducible rfl
          try simp [Act.put]
          refine wpAnyH_take (i := 1) (v := (ptq (ra, rb, rc))) rfl (by kernel_rfl) (by kernel_rfl) (by kernel_rfl) (fun _ _ _ h => h) (Or.inl ⟨by rfl, ?_⟩) (by assumption) ?_
          · intro w' hS
            exact ex_ldP (.tmp 8) rfl gr ra rb rc rfl hS
          try simp [Act.put]
          refine wpAnyH_take (i := 2) (v := (.pointer (some ⟨g, 0, none⟩))) rfl (by kernel_rfl) (by kernel_rfl) (by kernel_rfl) (fun _ _ _ h => h) (Or.inl ⟨by rfl, ?_⟩) (by assumption) ?_
          · intro w' hS; go_simp; try with_reducible rfl
          try simp [Act.put]
          refine wpAnyH_ready (rs := [3]) (by kernel_rfl) (by simp) ?_
          refine AllReadyH.cons rfl (fun K hK => ?_) AllReadyH.nil
          go_simp
          refine Calls.mono HSTP.out ?_
          rintro e wa ⟨Oa, rfl, ha, sa⟩
          have HSa := Lib.hid (HS7.out.same ha sa)
          have HRa := Lib.hid (And.intro (HR7.out.1.step sa) (HR7.out.2.step sa))
          have HWa := L.all P.st HST.out HSa.out.has.at_ HG.out.ok HG.out.tree
          rw [all_none HG.out] at HWa
          have HW3 := Lib.hid HWa
          refine hK.out _ _ HSa.out.box.blk (fun hHeld2 => ?_)
          clear hK K HSTP HS7 HR7 ha sa HWa
          try simp
          clear hHeld
          have hHeld := hHeld2
          clear hHeld2
          refine wpAnyH_ready (rs := [4]) (by kernel_rfl) (by simp) ?_
          refine AllReadyH.cons rfl (fun K hK => ?_) AllReadyH.nil
          go_simp
          refine Calls.mono HW3.out ?_
          rintro e wb ⟨Ob, B3, d3, rfl, hb, -, sb⟩
          have HSb := Lib.hid (HSa.out.same hb sb)
          have HRb := Lib.hid (And.intro (HRa.out.1.step sb).rd (HRa.out.2.step sb).rd)
          refine hK.out _ _ HSb.out.box.blk (fun hHeld2 => ?_)
          clear hK K HW3 HSa HRa hb sb
          try simp
          clear hHeld
          have hHeld := hHeld2
          clear hHeld2
          refine wpAnyH_take (i := 5) (v := (.tuple #[.slice B3 0 d3, .int .i64 0])) rfl (by kernel_rfl) (by kernel_rfl) (by kernel_rfl) (fun _ _ _ h => h) (Or.inl ⟨by rfl, ?_⟩) (by assumption) ?_
          · intro w' hS; go_simp; try with_reducible rfl
          try simp [Act.put]
          refine wpAnyH_take (i := 6) (v := (.slice B3 0 d3)) rfl (by kernel_rfl) (by kernel_rfl) (by kernel_rfl) (fun _ _ _ h => h) (Or.inl ⟨by rfl, ?_⟩) (by assumption) ?_
          · intro w' hS; go_simp; try with_reducible rfl
          try simp [Act.put]
          refine wpAnyH_take (i := 7) (v := (.int .i64 0)) rfl (by kernel_rfl) (by kernel_rfl) (by kernel_rfl) (fun _ _ _ h => h) (Or.inl ⟨by rfl, ?_⟩) (by assumption) ?_
          · intro w' hS; go_simp; try with_reducible rfl
          try simp [Act.put]
          refine wpAnyH_take (i := 8) (v := (.slice B3 0 d3)) rfl (by kernel_rfl) (by kernel_rfl) (by kernel_rfl) (fun _ _ _ h => h) (Or.inl ⟨by rfl, ?_⟩) (by assumption) ?_
          · intro w' hS; go_simp; try with_reducible rfl
          try simp [Act.put]
          refine wpAnyH_take (i := 9) (v := (.int .i64 0)) rfl (by kernel_rfl) (by kernel_rfl) (by kernel_rfl) (fun _ _ _ h => h) (Or.inl ⟨by rfl, ?_⟩) (by assumption) ?_
          · intro w' hS; go_simp; try with_reducible rfl
          try simp [Act.put]
          refine wpAnyH_done (by kernel_rfl) ?_ _
          have HBB := Lib.hid HSb.out.has.below
          clear hHeld HG HSb HST
          generalize allL (xb1 : Int) (ra, rb, rc) F S = l1 at *
          generalize allL (xa1 : Int) (ra, rb, rc) F S = l2 at *
          have hl1i : (l1.length : Int) ≤ 73 := by have := HLEN.out; omega
          go_wp2_with fail
          have HN0 : Hid (OwnQ (wb.alloc (.cells #[] 32)) wb.heap.size (.slice (some ⟨wb.heap.size, 0, none⟩) 0 0) [] ∧ Below wb.heap.size wb (wb.alloc (.cells #[] 32))) := ⟨by
            have h := World.ownsRow_lit (base := wb.heap.size) (e := 32) (size := 3) wb #[] 0 (Nat.le_refl _) (by simp [maxLen]) rfl
            simpa [OwnQ, pqs] using h, below_al _ _⟩
          generalize (Value.slice (some ⟨wb.heap.size, 0, none⟩) 0 0) = v0 at *
          generalize wb.alloc (.cells #[] 32) = wc at *
          go_loopw [100, 20] (fun i v wr => ∃ (k : Nat), k ≤ l1.length ∧ i = .int .i64 (k : Int) ∧ OwnQ wr wb.heap.size v ((l1.take k).filter fun q => decide ((xa1 : Int) < q.2.1)) ∧ Below wb.heap.size wb wr) (fun i _ _ => l1.length - (intOf i).toNat)
          case atStart => exact ⟨0, Nat.zero_le _, rfl, HN0.out.1, HN0.out.2⟩
          case round =>
            clear HN0
            obtain ⟨k, hk, rfl, hown, hbl⟩ := hrel
            have HO := Lib.hid hown
            have HB := Lib.hid hbl
            clear hown hbl
            by_cases hlt : k < l1.length
            · have hki : (k : Int) < l1.length := by omega
              obtain ⟨b, off, rfl, hbB, e0, e1, e2⟩ := pq_at HRb.out.1 k hlt
              have e0 := (HB.out.cell (p := ⟨b, off + k * 3, none⟩) hbB).trans e0
              have e1 := (HB.out.cell (p := ⟨b, off + k * 3 + 1, none⟩) hbB).trans e1
              have e2 := (HB.out.cell (p := ⟨b, off + k * 3 + 2, none⟩) hbB).trans e2
              have HT : Hid (l1.take (k + 1) = l1.take k ++ [l1[k]]) := Lib.hid (List.take_succ_eq_append_getElem hlt)
              have HK := Lib.hid hlt
              have HL : Hid (((l1.take k).filter fun q => decide ((xa1 : Int) < q.2.1)).length ≤ 1048576) := Nat.le_trans (List.length_filter_le _ _) (by rw [List.length_take]; have := HLEN.out; omega)
              generalize l1[k] = x at *
              obtain ⟨p, q, s⟩ := x
              simp only at e0 e1 e2
              clear hk hlt hbB
              by_cases hq : (xa1 : Int) < q
              · have HF : Hid ((l1.take (k + 1)).filter (fun q => decide ((xa1 : Int) < q.2.1)) = ((l1.take k).filter fun q => decide ((xa1 : Int) < q.2.1)) ++ [(p, q, s)]) := by
                  show _ = _
                  rw [HT.out, List.filter_append, List.filter_cons, if_pos (decide_eq_true hq), List.filter_nil]
                clear HT
                go_upto_region 24 with fail
                have f1 : (wr.alloc (.cells (pcs p q s) 32)).cell? ⟨wr.heap.size, 1, none⟩ = some (.int .u64 q) := (Blk.new wr _ _).cell 1
                have f0 : (wr.alloc (.cells (pcs p q s) 32)).cell? ⟨wr.heap.size, 0, none⟩ = some (.int .i64 p) := (Blk.new wr _ _).cell 0
                have f2 : (wr.alloc (.cells (pcs p q s) 32)).cell? ⟨wr.heap.size, 2, none⟩ = some (.int .u32 s) := (Blk.new wr _ _).cell 2
                have HO2 : Hid (OwnQ (wr.alloc (.cells (pcs p q s) 32)) wb.heap.size u20 ((l1.take k).filter fun q => decide ((xa1 : Int) < q.2.1))) := World.ownsRow.alloc HO.out _
                have HB2 := Lib.hid (HB.out.alloc HB.out.size (.cells (pcs p q s) 32))
                clear HO HB e0 e1 e2
                generalize wr.alloc (.cells (pcs p q s) 32) = w9 at *
                generalize wr.heap.size = g9 at *
                go_wp2_with (at_builtin; refine app_ptr rfl 110 112 rfl wb.heap.size _ _ rfl HO2.out (p, q, s) _ rfl rfl HB2.out.size HL.out ?_; intro v' w' ho hgr _; have HO3 := Lib.hid ho; have HB3 := Lib.hid (below_own (HB2.out.alloc HB2.out.size _) (World.ownsRow.alloc HO2.out _) (Nat.le_refl _) (by simp; have := HB2.out.size; omega) hgr))
                go_roundw
                case rel => exact ⟨k + 1, HK.out, by go_num, by rw [HF.out]; exact HO3.out, HB3.out⟩
                case measure => have := HK.out; simp [intOf]; omega
              · have HF : Hid ((l1.take (k + 1)).filter (fun q => decide ((xa1 : Int) < q.2.1)) = ((l1.take k).filter fun q => decide ((xa1 : Int) < q.2.1))) := by
                  show _ = _
                  rw [HT.out, List.filter_append, List.filter_cons, if_neg (by simpa using hq), List.filter_nil, List.append_nil]
                clear HT
                go_upto_region 24 with fail
                have f1 : (wr.alloc (.cells (pcs p q s) 32)).cell? ⟨wr.heap.size, 1, none⟩ = some (.int .u64 q) := (Blk.new wr _ _).cell 1
                have HO2 : Hid (OwnQ (wr.alloc (.cells (pcs p q s) 32)) wb.heap.size u20 ((l1.take k).filter fun q => decide ((xa1 : Int) < q.2.1))) := World.ownsRow.alloc HO.out _
                have HB2 := Lib.hid (HB.out.alloc HB.out.size (.cells (pcs p q s) 32))
                clear HO HB e0 e1 e2
                generalize wr.alloc (.cells (pcs p q s) 32) = w9 at *
                generalize wr.heap.size = g9 at *
                go_wp2_with fail
                go_roundw
                case rel => exact ⟨k + 1, HK.out, by go_num, by rw [HF.out]; exact HO2.out, HB2.out⟩
                case measure => have := HK.out; simp [intOf]; omega
            · obtain rfl : k = l1.length := by omega
              rw [List.take_of_length_le (Nat.le_refl _)] at HO
              rw [← HSUB.out] at HO
              obtain ⟨vA, vc, rfl, hvr, _⟩ := own_rd HO.out
              have HQ := qsame_any B2 vA d2 vc l2 l2 wr ((HRb.out.2.below HB.out).mono HB.out.size) hvr (by have := congrArg List.length HSUB.out; have := List.length_filter_le (fun q : PtrV => decide ((xa1 : Int) < q.2.1)) l1; have := HLEN.out; omega)
              rw [decide_eq_true (rfl : l2 = l2)] at HQ
              have HQQ := Lib.hid HQ
              clear HQ hvr hk hlt HO
              go_wp2_with (go_at_call 22; (with_reducible refine Calls.mono HQQ.out ?_); rintro e wz ⟨rfl, hbz⟩; have HZ := Lib.hid ((HBB.out.trans (HB.out.mono HBB.out.size)).trans (hbz.mono (HBB.out.trans (HB.out.mono HBB.out.size)).size)); clear hbz HQQ)
              go_ret
              exact ⟨rfl, HZ.out⟩
        · skip
          subst hx
          have hxi : ¬ (xb1 : Int) < xb1 := by omega
          have HW1 := Lib.hid (L.all xb1 hxb HSL0.out.has.at_ HG.out.ok HG.out.tree)
          have HBO := Lib.hid HSL0.out.box.blk
          have HSUB := Lib.hid (all_sub HG.out (a := (xb1 : Int)) (b := (xb1 : Int)) (by omega))
          have HLEN := Lib.hid (all_len (root := (ra, rb, rc)) (F := F) (S := S) (xb1 : Int))
          go_upto_region 17 with (first
            | (refine ld_ptr rfl (.tmp 8) rfl gr 32 ra rb rc rfl HBO.out ?_)
            | (refine ld_ptr rfl (.tmp 8) rfl gr 32 ra rb rc rfl HBO5.out ?_)
            | (go_at_call 17; (with_reducible refine Calls.mono HW1.out ?_); rintro e w5 ⟨O5, B1, d1, rfl, h5, r5, s5⟩; have HS5 := Lib.hid (HSL0.out.same h5 s5); have HR5 := Lib.hid r5.toRdA; have HW2 := Lib.hid (L.all xb1 hxb HS5.out.has.at_ HG.out.ok HG.out.tree); have HBO5 := Lib.hid HS5.out.box.blk; clear h5 r5 s5 HW1 HBO)
            | (go_at_call 17; (with_reducible refine Calls.mono HW2.out ?_); rintro e w6 ⟨O6, B2, d2, rfl, h6, r6, s6⟩; have HS6 := Lib.hid (HS5.out.same h6 s6); have HR6 := Lib.hid (And.intro (HR5.out.step s6) r6.toRdA); clear h6 r6 s6 HW2 HR5 HBO5 HS5))
          clear HSL0
          have HS7 : Hid (SL At 396 w w6.drew O6 g gr P ra rb rc old l0.length) := HS6.out.later L (Below.refl _ _).drew
          have HR7 : Hid (RdA w6.drew O6 B1 (pqs (allL (xb1 : Int) (ra, rb, rc) F S)) ∧ RdA w6.drew O6 B2 (pqs (allL (xb1 : Int) (ra, rb, rc) F S))) := ⟨HR6.out.1.far (Below.refl _ _).drew, HR6.out.2.far (Below.refl _ _).drew⟩
          clear HS6 HR6
          refine wp_region_held_drew (S := (fun w' => Blk w' gr 32 (pcs ra rb rc))) (by kernel_rfl) HS7.out.box.blk (fun hHeld => ?_)
          generalize w6.drew = w7 at *
          have HSTP := Lib.hid (L.stamp HS7.out.has.at_)
          refine wpAnyH_take (i := 0) (v := (.pointer (some ⟨g, 0, none⟩))) rfl (by kernel_rfl) (by kernel_rfl) (by kernel_rfl) (fun _ _ _ h => h) (Or.inl ⟨by rfl, ?_⟩) (by assumption) ?_
          · intro w' hS; go_simp; try with_reducible rfl
          try simp [Act.put]
          refine wpAnyH_take (i := 1) (v := (ptq (ra, rb, rc))) rfl (by kernel_rfl) (by kernel_rfl) (by kernel_rfl) (fun _ _ _ h => h) (Or.inl ⟨by rfl, ?_⟩) (by assumption) ?_
          · intro w' hS
            exact ex_ldP (.tmp 8) rfl gr ra rb rc rfl hS
          try simp [Act.put]
          refine wpAnyH_take (i := 2) (v := (.pointer (some ⟨g, 0, none⟩))) rfl (by kernel_rfl) (by kernel_rfl) (by kernel_rfl) (fun _ _ _ h => h) (Or.inl ⟨by rfl, ?_⟩) (by assumption) ?_
          · intro w' hS; go_simp; try with_reducible rfl
          try simp [Act.put]
          refine wpAnyH_ready (rs := [3]) (by kernel_rfl) (by simp) ?_
          refine AllReadyH.cons rfl (fun K hK => ?_) AllReadyH.nil
          go_simp
          refine Calls.mono HSTP.out ?_
          rintro e wa ⟨Oa, rfl, ha, sa⟩
          have HSa := Lib.hid (HS7.out.same ha sa)
          have HRa := Lib.hid (And.intro (HR7.out.1.step sa) (HR7.out.2.step sa))
          have HWa := L.all P.st HST.out HSa.out.has.at_ HG.out.ok HG.out.tree
          rw [all_none HG.out] at HWa
          have HW3 := Lib.hid HWa
          refine hK.out _ _ HSa.out.box.blk (fun hHeld2 => ?_)
          clear hK K HSTP HS7 HR7 ha sa HWa
          try simp
          clear hHeld
          have hHeld := hHeld2
          clear hHeld2
          refine wpAnyH_ready (rs := [4]) (by kernel_rfl) (by simp) ?_
          refine AllReadyH.cons rfl (fun K hK => ?_) AllReadyH.nil
          go_simp
          refine Calls.mono HW3.out ?_
          rintro e wb ⟨Ob, B3, d3, rfl, hb, -, sb⟩
          have HSb := Lib.hid (HSa.out.same hb sb)
          have HRb := Lib.hid (And.intro (HRa.out.1.step sb).rd (HRa.out.2.step sb).rd)
          refine hK.out _ _ HSb.out.box.blk (fun hHeld2 => ?_)
          clear hK K HW3 HSa HRa hb sb
          try simp
          clear hHeld
          have hHeld := hHeld2
          clear hHeld2
          refine wpAnyH_take (i := 5) (v := (.tuple #[.slice B3 0 d3, .int .i64 0])) rfl (by kernel_rfl) (by kernel_rfl) (by kernel_rfl) (fun _ _ _ h => h) (Or.inl ⟨by rfl, ?_⟩) (by assumption) ?_
          · intro w' hS; go_simp; try with_reducible rfl
          try simp [Act.put]
          refine wpAnyH_take (i := 6) (v := (.slice B3 0 d3)) rfl (by kernel_rfl) (by kernel_rfl) (by kernel_rfl) (fun _ _ _ h => h) (Or.inl ⟨by rfl, ?_⟩) (by assumption) ?_
          · intro w' hS; go_simp; try with_reducible rfl
          try simp [Act.put]
          refine wpAnyH_take (i := 7) (v := (.int .i64 0)) rfl (by kernel_rfl) (by kernel_rfl) (by kernel_rfl) (fun _ _ _ h => h) (Or.inl ⟨by rfl, ?_⟩) (by assumption) ?_
          · intro w' hS; go_simp; try with_reducible rfl
          try simp [Act.put]
          refine wpAnyH_take (i := 8) (v := (.slice B3 0 d3)) rfl (by kernel_rfl) (by kernel_rfl) (by kernel_rfl) (fun _ _ _ h => h) (Or.inl ⟨by rfl, ?_⟩) (by assumption) ?_
          · intro w' hS; go_simp; try with_reducible rfl
          try simp [Act.put]
          refine wpAnyH_take (i := 9) (v := (.int .i64 0)) rfl (by kernel_rfl) (by kernel_rfl) (by kernel_rfl) (fun _ _ _ h => h) (Or.inl ⟨by rfl, ?_⟩) (by assumption) ?_
          · intro w' hS; go_simp; try with_reducible rfl
          try simp [Act.put]
          refine wpAnyH_done (by kernel_rfl) ?_ _
          have HBB := Lib.hid HSb.out.has.below
          clear hHeld HG HSb HST
          generalize allL (xb1 : Int) (ra, rb, rc) F S = l1 at *
          skip
          have hl1i : (l1.length : Int) ≤ 73 := by have := HLEN.out; omega
          go_wp2_with fail
          have HN0 : Hid (OwnQ (wb.alloc (.cells #[] 32)) wb.heap.size (.slice (some ⟨wb.heap.size, 0, none⟩) 0 0) [] ∧ Below wb.heap.size wb (wb.alloc (.cells #[] 32))) := ⟨by
            have h := World.ownsRow_lit (base := wb.heap.size) (e := 32) (size := 3) wb #[] 0 (Nat.le_refl _) (by simp [maxLen]) rfl
            simpa [OwnQ, pqs] using h, below_al _ _⟩
          generalize (Value.slice (some ⟨wb.heap.size, 0, none⟩) 0 0) = v0 at *
          generalize wb.alloc (.cells #[] 32) = wc at *
          go_loopw [100, 20] (fun i v wr => ∃ (k : Nat), k ≤ l1.length ∧ i = .int .i64 (k : Int) ∧ OwnQ wr wb.heap.size v ((l1.take k).filter fun q => decide ((xb1 : Int) < q.2.1)) ∧ Below wb.heap.size wb wr) (fun i _ _ => l1.length - (intOf i).toNat)
          case atStart => exact ⟨0, Nat.zero_le _, rfl, HN0.out.1, HN0.out.2⟩
          case round =>
            clear HN0
            obtain ⟨k, hk, rfl, hown, hbl⟩ := hrel
            have HO := Lib.hid hown
            have HB := Lib.hid hbl
            clear hown hbl
            by_cases hlt : k < l1.length
            · have hki : (k : Int) < l1.length := by omega
              obtain ⟨b, off, rfl, hbB, e0, e1, e2⟩ := pq_at HRb.out.1 k hlt
              have e0 := (HB.out.cell (p := ⟨b, off + k * 3, none⟩) hbB).trans e0
              have e1 := (HB.out.cell (p := ⟨b, off + k * 3 + 1, none⟩) hbB).trans e1
              have e2 := (HB.out.cell (p := ⟨b, off + k * 3 + 2, none⟩) hbB).trans e2
              have HT : Hid (l1.take (k + 1) = l1.take k ++ [l1[k]]) := Lib.hid (List.take_succ_eq_append_getElem hlt)
              have HK := Lib.hid hlt
              have HL : Hid (((l1.take k).filter fun q => decide ((xb1 : Int) < q.2.1)).length ≤ 1048576) := Nat.le_trans (List.length_filter_le _ _) (by rw [List.length_take]; have := HLEN.out; omega)
              generalize l1[k] = x at *
              obtain ⟨p, q, s⟩ := x
              simp only at e0 e1 e2
              clear hk hlt hbB
              by_cases hq : (xb1 : Int) < q
              · have HF : Hid ((l1.take (k + 1)).filter (fun q => decide ((xb1 : Int) < q.2.1)) = ((l1.take k).filter fun q => decide ((xb1 : Int) < q.2.1)) ++ [(p, q, s)]) := by
                  show _ = _
                  rw [HT.out, List.filter_append, List.filter_cons, if_pos (decide_eq_true hq), List.filter_nil]
                clear HT
                go_upto_region 24 with fail
                have f1 : (wr.alloc (.cells (pcs p q s) 32)).cell? ⟨wr.heap.size, 1, none⟩ = some (.int .u64 q) := (Blk.new wr _ _).cell 1
                have f0 : (wr.alloc (.cells (pcs p q s) 32)).cell? ⟨wr.heap.size, 0, none⟩ = some (.int .i64 p) := (Blk.new wr _ _).cell 0
                have f2 : (wr.alloc (.cells (pcs p q s) 32)).cell? ⟨wr.heap.size, 2, none⟩ = some (.int .u32 s) := (Blk.new wr _ _).cell 2
                have HO2 : Hid (OwnQ (wr.alloc (.cells (pcs p q s) 32)) wb.heap.size u20 ((l1.take k).filter fun q => decide ((xb1 : Int) < q.2.1))) := World.ownsRow.alloc HO.out _
                have HB2 := Lib.hid (HB.out.alloc HB.out.size (.cells (pcs p q s) 32))
                clear HO HB e0 e1 e2
                generalize wr.alloc (.cells (pcs p q s) 32) = w9 at *
                generalize wr.heap.size = g9 at *
                go_wp2_with (at_builtin; refine app_ptr rfl 110 112 rfl wb.heap.size _ _ rfl HO2.out (p, q, s) _ rfl rfl HB2.out.size HL.out ?_; intro v' w' ho hgr _; have HO3 := Lib.hid ho; have HB3 := Lib.hid (below_own (HB2.out.alloc HB2.out.size _) (World.ownsRow.alloc HO2.out _) (Nat.le_refl _) (by simp; have := HB2.out.size; omega) hgr))
                go_roundw
                case rel => exact ⟨k + 1, HK.out, by go_num, by rw [HF.out]; exact HO3.out, HB3.out⟩
                case measure => have := HK.out; simp [intOf]; omega
              · have HF : Hid ((l1.take (k + 1)).filter (fun q => decide ((xb1 : Int) < q.2.1)) = ((l1.take k).filter fun q => decide ((xb1 : Int) < q.2.1))) := by
                  show _ = _
                  rw [HT.out, List.filter_append, List.filter_cons, if_neg (by simpa using hq), List.filter_nil, List.append_nil]
                clear HT
                go_upto_region 24 with fail
                have f1 : (wr.alloc (.cells (pcs p q s) 32)).cell? ⟨wr.heap.size, 1, none⟩ = some (.int .u64 q) := (Blk.new wr _ _).cell 1
                have HO2 : Hid (OwnQ (wr.alloc (.cells (pcs p q s) 32)) wb.heap.size u20 ((l1.take k).filter fun q => decide ((xb1 : Int) < q.2.1))) := World.ownsRow.alloc HO.out _
                have HB2 := Lib.hid (HB.out.alloc HB.out.size (.cells (pcs p q s) 32))
                clear HO HB e0 e1 e2
                generalize wr.alloc (.cells (pcs p q s) 32) = w9 at *
                generalize wr.heap.size = g9 at *
                go_wp2_with fail
                go_roundw
                case rel => exact ⟨k + 1, HK.out, by go_num, by rw [HF.out]; exact HO2.out, HB2.out⟩
                case measure => have := HK.out; simp [intOf]; omega
            · obtain rfl : k = l1.length := by omega
              rw [List.take_of_length_le (Nat.le_refl _)] at HO
              rw [← HSUB.out] at HO
              obtain ⟨vA, vc, rfl, hvr, _⟩ := own_rd HO.out
              have HQ := qsame_any B2 vA d2 vc l1 l1 wr ((HRb.out.2.below HB.out).mono HB.out.size) hvr (by have := congrArg List.length HSUB.out; have := List.length_filter_le (fun q : PtrV => decide ((xb1 : Int) < q.2.1)) l1; have := HLEN.out; omega)
              rw [decide_eq_true (rfl : l1 = l1)] at HQ
              have HQQ := Lib.hid HQ
              clear HQ hvr hk hlt HO
              go_wp2_with (go_at_call 22; (with_reducible refine Calls.mono HQQ.out ?_); rintro e wz ⟨rfl, hbz⟩; have HZ := Lib.hid ((HBB.out.trans (HB.out.mono HBB.out.size)).trans (hbz.mono (HBB.out.trans (HB.out.mono HBB.out.size)).size)); clear hbz HQQ)
              go_ret
              exact ⟨rfl, HZ.out⟩
        · skip
          have hxi : (xa1 : Int) < xb1 := by omega
          have hxj : ¬ (xb1 : Int) < xa1 := by omega
          clear hx
          have HW1 := Lib.hid (L.all xa1 hxa HSL0.out.has.at_ HG.out.ok HG.out.tree)
          have HBO := Lib.hid HSL0.out.box.blk
          have HSUB := Lib.hid (all_sub HG.out (a := (xa1 : Int)) (b := (xb1 : Int)) (by omega))
          have HLEN := Lib.hid (all_len (root := (ra, rb, rc)) (F := F) (S := S) (xa1 : Int))
          go_upto_region 17 with (first
            | (refine ld_ptr rfl (.tmp 8) rfl gr 32 ra rb rc rfl HBO.out ?_)
            | (refine ld_ptr rfl (.tmp 8) rfl gr 32 ra rb rc rfl HBO5.out ?_)
            | (go_at_call 17; (with_reducible refine Calls.mono HW1.out ?_); rintro e w5 ⟨O5, B1, d1, rfl, h5, r5, s5⟩; have HS5 := Lib.hid (HSL0.out.same h5 s5); have HR5 := Lib.hid r5.toRdA; have HW2 := Lib.hid (L.all xb1 hxb HS5.out.has.at_ HG.out.ok HG.out.tree); have HBO5 := Lib.hid HS5.out.box.blk; clear h5 r5 s5 HW1 HBO)
            | (go_at_call 17; (with_reducible refine Calls.mono HW2.out ?_); rintro e w6 ⟨O6, B2, d2, rfl, h6, r6, s6⟩; have HS6 := Lib.hid (HS5.out.same h6 s6); have HR6 := Lib.hid (And.intro (HR5.out.step s6) r6.toRdA); clear h6 r6 s6 HW2 HR5 HBO5 HS5))
          clear HSL0
          have HS7 : Hid (SL At 396 w w6.drew O6 g gr P ra rb rc old l0.length) := HS6.out.later L (Below.refl _ _).drew
          have HR7 : Hid (RdA w6.drew O6 B1 (pqs (allL (xa1 : Int) (ra, rb, rc) F S)) ∧ RdA w6.drew O6 B2 (pqs (allL (xb1 : Int) (ra, rb, rc) F S))) := ⟨HR6.out.1.far (Below.refl _ _).drew, HR6.out.2.far (Below.refl _ _).drew⟩
          clear HS6 HR6
          refine wp_region_held_drew (S := (fun w' => Blk w' gr 32 (pcs ra rb rc))) (by kernel_rfl) HS7.out.box.blk (fun hHeld => ?_)
          generalize w6.drew = w7 at *
          have HSTP := Lib.hid (L.stamp HS7.out.has.at_)
          refine wpAnyH_take (i := 0) (v := (.pointer (some ⟨g, 0, none⟩))) rfl (by kernel_rfl) (by kernel_rfl) (by kernel_rfl) (fun _ _ _ h => h) (Or.inl ⟨by rfl, ?_⟩) (by assumption) ?_
          · intro w' hS; go_simp; try with_reducible rfl
          try simp [Act.put]
          refine wpAnyH_take (i := 1) (v := (ptq (ra, rb, rc))) rfl (by kernel_rfl) (by kernel_rfl) (by kernel_rfl) (fun _ _ _ h => h) (Or.inl ⟨by rfl, ?_⟩) (by assumption) ?_
          · intro w' hS
            exact ex_ldP (.tmp 8) rfl gr ra rb rc rfl hS
          try simp [Act.put]
          refine wpAnyH_take (i := 2) (v := (.pointer (some ⟨g, 0, none⟩))) rfl (by kernel_rfl) (by kernel_rfl) (by kernel_rfl) (fun _ _ _ h => h) (Or.inl ⟨by rfl, ?_⟩) (by assumption) ?_
          · intro w' hS; go_simp; try with_reducible rfl
          try simp [Act.put]
          refine wpAnyH_ready (rs := [3]) (by kernel_rfl) (by simp) ?_
          refine AllReadyH.cons rfl (fun K hK => ?_) AllReadyH.nil
          go_simp
          refine Calls.mono HSTP.out ?_
          rintro e wa ⟨Oa, rfl, ha, sa⟩
          have HSa := Lib.hid (HS7.out.same ha sa)
          have HRa := Lib.hid (And.intro (HR7.out.1.step sa) (HR7.out.2.step sa))
          have HWa := L.all P.st HST.out HSa.out.has.at_ HG.out.ok HG.out.tree
          rw [all_none HG.out] at HWa
          have HW3 := Lib.hid HWa
          refine hK.out _ _ HSa.out.box.blk (fun hHeld2 => ?_)
          clear hK K HSTP HS7 HR7 ha sa HWa
          try simp
          clear hHeld
          have hHeld := hHeld2
          clear hHeld2
          refine wpAnyH_ready (rs := [4]) (by kernel_rfl) (by simp) ?_
          refine AllReadyH.cons rfl (fun K hK => ?_) AllReadyH.nil
          go_simp
          refine Calls.mono HW3.out ?_
          rintro e wb ⟨Ob, B3, d3, rfl, hb, -, sb⟩
          have HSb := Lib.hid (HSa.out.same hb sb)
          have HRb := Lib.hid (And.intro (HRa.out.1.step sb).rd (HRa.out.2.step sb).rd)
          refine hK.out _ _ HSb.out.box.blk (fun hHeld2 => ?_)
          clear hK K HW3 HSa HRa hb sb
          try simp
          clear hHeld
          have hHeld := hHeld2
          clear hHeld2
          refine wpAnyH_take (i := 5) (v := (.tuple #[.slice B3 0 d3, .int .i64 0])) rfl (by kernel_rfl) (by kernel_rfl) (by kernel_rfl) (fun _ _ _ h => h) (Or.inl ⟨by rfl, ?_⟩) (by assumption) ?_
          · intro w' hS; go_simp; try with_reducible rfl
          try simp [Act.put]
          refine wpAnyH_take (i := 6) (v := (.slice B3 0 d3)) rfl (by kernel_rfl) (by kernel_rfl) (by kernel_rfl) (fun _ _ _ h => h) (Or.inl ⟨by rfl, ?_⟩) (by assumption) ?_
          · intro w' hS; go_simp; try with_reducible rfl
          try simp [Act.put]
          refine wpAnyH_take (i := 7) (v := (.int .i64 0)) rfl (by kernel_rfl) (by kernel_rfl) (by kernel_rfl) (fun _ _ _ h => h) (Or.inl ⟨by rfl, ?_⟩) (by assumption) ?_
          · intro w' hS; go_simp; try with_reducible rfl
          try simp [Act.put]
          refine wpAnyH_take (i := 8) (v := (.slice B3 0 d3)) rfl (by kernel_rfl) (by kernel_rfl) (by kernel_rfl) (fun _ _ _ h => h) (Or.inl ⟨by rfl, ?_⟩) (by assumption) ?_
          · intro w' hS; go_simp; try with_reducible rfl
          try simp [Act.put]
          refine wpAnyH_take (i := 9) (v := (.int .i64 0)) rfl (by kernel_rfl) (by kernel_rfl) (by kernel_rfl) (fun _ _ _ h => h) (Or.inl ⟨by rfl, ?_⟩) (by assumption) ?_
          · intro w' hS; go_simp; try with_reducible rfl
          try simp [Act.put]
          refine wpAnyH_done (by kernel_rfl) ?_ _
          have HBB := Lib.hid HSb.out.has.below
          clear hHeld HG HSb HST
          generalize allL (xa1 : Int) (ra, rb, rc) F S = l1 at *
          generalize allL (xb1 : Int) (ra, rb, rc) F S = l2 at *
          have hl1i : (l1.length : Int) ≤ 73 := by have := HLEN.out; omega
          go_wp2_with fail
          have HN0 : Hid (OwnQ (wb.alloc (.cells #[] 32)) wb.heap.size (.slice (some ⟨wb.heap.size, 0, none⟩) 0 0) [] ∧ Below wb.heap.size wb (wb.alloc (.cells #[] 32))) := ⟨by
            have h := World.ownsRow_lit (base := wb.heap.size) (e := 32) (size := 3) wb #[] 0 (Nat.le_refl _) (by simp [maxLen]) rfl
            simpa [OwnQ, pqs] using h, below_al _ _⟩
          generalize (Value.slice (some ⟨wb.heap.size, 0, none⟩) 0 0) = v0 at *
          generalize wb.alloc (.cells #[] 32) = wc at *
          go_loopw [100, 20] (fun i v wr => ∃ (k : Nat), k ≤ l1.length ∧ i = .int .i64 (k : Int) ∧ OwnQ wr wb.heap.size v ((l1.take k).filter fun q => decide ((xb1 : Int) < q.2.1)) ∧ Below wb.heap.size wb wr) (fun i _ _ => l1.length - (intOf i).toNat)
          case atStart => exact ⟨0, Nat.zero_le _, rfl, HN0.out.1, HN0.out.2⟩
          case round =>
            clear HN0
            obtain ⟨k, hk, rfl, hown, hbl⟩ := hrel
            have HO := Lib.hid hown
            have HB := Lib.hid hbl
            clear hown hbl
            by_cases hlt : k < l1.length
            · have hki : (k : Int) < l1.length := by omega
              obtain ⟨b, off, rfl, hbB, e0, e1, e2⟩ := pq_at HRb.out.1 k hlt
              have e0 := (HB.out.cell (p := ⟨b, off + k * 3, none⟩) hbB).trans e0
              have e1 := (HB.out.cell (p := ⟨b, off + k * 3 + 1, none⟩) hbB).trans e1
              have e2 := (HB.out.cell (p := ⟨b, off + k * 3 + 2, none⟩) hbB).trans e2
              have HT : Hid (l1.take (k + 1) = l1.take k ++ [l1[k]]) := Lib.hid (List.take_succ_eq_append_getElem hlt)
              have HK := Lib.hid hlt
              have HL : Hid (((l1.take k).filter fun q => decide ((xb1 : Int) < q.2.1)).length ≤ 1048576) := Nat.le_trans (List.length_filter_le _ _) (by rw [List.length_take]; have := HLEN.out; omega)
              generalize l1[k] = x at *
              obtain ⟨p, q, s⟩ := x
              simp only at e0 e1 e2
              clear hk hlt hbB
              by_cases hq : (xb1 : Int) < q
              · have HF : Hid ((l1.take (k + 1)).filter (fun q => decide ((xb1 : Int) < q.2.1)) = ((l1.take k).filter fun q => decide ((xb1 : Int) < q.2.1)) ++ [(p, q, s)]) := by
                  show _ = _
                  rw [HT.out, List.filter_append, List.filter_cons, if_pos (decide_eq_true hq), List.filter_nil]
                clear HT
                go_upto_region 24 with fail
                have f1 : (wr.alloc (.cells (pcs p q s) 32)).cell? ⟨wr.heap.size, 1, none⟩ = some (.int .u64 q) := (Blk.new wr _ _).cell 1
                have f0 : (wr.alloc (.cells (pcs p q s) 32)).cell? ⟨wr.heap.size, 0, none⟩ = some (.int .i64 p) := (Blk.new wr _ _).cell 0
                have f2 : (wr.alloc (.cells (pcs p q s) 32)).cell? ⟨wr.heap.size, 2, none⟩ = some (.int .u32 s) := (Blk.new wr _ _).cell 2
                have HO2 : Hid (OwnQ (wr.alloc (.cells (pcs p q s) 32)) wb.heap.size u20 ((l1.take k).filter fun q => decide ((xb1 : Int) < q.2.1))) := World.ownsRow.alloc HO.out _
                have HB2 := Lib.hid (HB.out.alloc HB.out.size (.cells (pcs p q s) 32))
                clear HO HB e0 e1 e2
                generalize wr.alloc (.cells (pcs p q s) 32) = w9 at *
                generalize wr.heap.size = g9 at *
                go_wp2_with (at_builtin; refine app_ptr rfl 110 112 rfl wb.heap.size _ _ rfl HO2.out (p, q, s) _ rfl rfl HB2.out.size HL.out ?_; intro v' w' ho hgr _; have HO3 := Lib.hid ho; have HB3 := Lib.hid (below_own (HB2.out.alloc HB2.out.size _) (World.ownsRow.alloc HO2.out _) (Nat.le_refl _) (by simp; have := HB2.out.size; omega) hgr))
                go_roundw
                case rel => exact ⟨k + 1, HK.out, by go_num, by rw [HF.out]; exact HO3.out, HB3.out⟩
                case measure => have := HK.out; simp [intOf]; omega
              · have HF : Hid ((l1.take (k + 1)).filter (fun q => decide ((xb1 : Int) < q.2.1)) = ((l1.take k).filter fun q => decide ((xb1 : Int) < q.2.1))) := by
                  show _ = _
                  rw [HT.out, List.filter_append, List.filter_cons, if_neg (by simpa using hq), List.filter_nil, List.append_nil]
                clear HT
                go_upto_region 24 with fail
                have f1 : (wr.alloc (.cells (pcs p q s) 32)).cell? ⟨wr.heap.size, 1, none⟩ = some (.int .u64 q) := (Blk.new wr _ _).cell 1
                have HO2 : Hid (OwnQ (wr.alloc (.cells (pcs p q s) 32)) wb.heap.size u20 ((l1.take k).filter fun q => decide ((xb1 : Int) < q.2.1))) := World.ownsRow.alloc HO.out _
                have HB2 := Lib.hid (HB.out.alloc HB.out.size (.cells (pcs p q s) 32))
                clear HO HB e0 e1 e2
                generalize wr.alloc (.cells (pcs p q s) 32) = w9 at *
                generalize wr.heap.size = g9 at *
                go_wp2_with fail
                go_roundw
                case rel => exact ⟨k + 1, HK.out, by go_num, by rw [HF.out]; exact HO2.out, HB2.out⟩
                case measure => have := HK.out; simp [intOf]; omega
            · obtain rfl : k = l1.length := by omega
              rw [List.take_of_length_le (Nat.le_refl _)] at HO
              rw [← HSUB.out] at HO
              obtain ⟨vA, vc, rfl, hvr, _⟩ := own_rd HO.out
              have HQ := qsame_any B2 vA d2 vc l2 l2 wr ((HRb.out.2.below HB.out).mono HB.out.size) hvr (by have := congrArg List.length HSUB.out; have := List.length_filter_le (fun q : PtrV => decide ((xb1 : Int) < q.2.1)) l1; have := HLEN.out; omega)
              rw [decide_eq_true (rfl : l2 = l2)] at HQ
              have HQQ := Lib.hid HQ
              clear HQ hvr hk hlt HO
              go_wp2_with (go_at_call 22; (with_reducible refine Calls.mono HQQ.out ?_); rintro e wz ⟨rfl, hbz⟩; have HZ := Lib.hid ((HBB.out.trans (HB.out.mono HBB.out.size)).trans (hbz.mono (HBB.out.trans (HB.out.mono HBB.out.size)).size)); clear hbz HQQ)
              go_ret
              exact ⟨rfl, HZ.out⟩
  · have h30i : (30 : Int) < l0.length := by omega
    clear hR0 hK0 h30
    go_enter Try.func7, Try.ntmps7
    go_wp2_with (go_at_call 10; (with_reducible refine Calls.mono HT.out ?_); rintro e w1 ⟨rfl, hb1⟩; have HB1 := Lib.hid hb1; clear hb1 HT)
    go_ret
    exact ⟨rfl, HB1.out⟩
end
end Go.Proofs.Ytagkhicbngaghaa
