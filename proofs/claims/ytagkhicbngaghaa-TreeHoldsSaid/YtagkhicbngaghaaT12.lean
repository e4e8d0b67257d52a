/- The laws on trees, walked over the calls' contracts: TreeTold. -/
import Derived.Test.YtagkhicbngaghaaT11
import Derived.Test.YtagkhicbngaghaaBA
set_option maxRecDepth 10000
namespace Go.Proofs.Ytagkhicbngaghaa
open Go.RowKit

theorem RdF.over {w w' w'' : World} {O : Nat → Prop} {B : Option Addr} {xs : List Value} {gr : Nat} (h : RdF w w' O B xs) (hc : Chg w' w'' (· = gr)) (hlt : gr < w.heap.size) : Rd w'' w''.heap.size B xs := fun hn => by
  obtain ⟨b, off, e, hl, hcell⟩ := h.rd hn
  have hf := h.fresh b off e hn
  exact ⟨b, off, e, Nat.lt_of_lt_of_le hl hc.size, fun j v hv => (hc.cell hl (by show ¬ b = gr; omega) _).trans (hcell j v hv)⟩
theorem step_ldPt {ops : Array Oper} {o : Oper} {a : Act} {w : World} {K : Act → World → Prop} {Q : Exit → Act → World → Prop} {E : Prop} (hgd : o.guard = none) (x : Operand) (ho : o.op = .load 32 x)
    (b : Nat) (i j k : Int) (hx : a.eval x = .pointer (some ⟨b, 0, none⟩)) (hb : Blk w b 32 (pcs i j k)) (h : K (a.put o.dst (ptv i j k)) w) : if Region.wanted o (yielded ops a.tmps) = true then Oper.wp Try.prog o a w K Q else E := by
  have hw : Region.wanted o (yielded ops a.tmps) = true := by simp [Region.wanted, hgd]
  rw [if_pos hw]
  unfold Oper.wp
  rw [ex_ldP x ho b i j k hx hb]
  exact h
theorem canon_len' (S : Int → Bool) : (canon S).length ≤ 4503599627370496 := by have := len_le (canon_right S); omega
theorem ex_ldRow {o : Oper} {a : Act} {w : World} (x : Operand) (ho : o.op = .load 53 x) (g : Nat) (arr : Array Value) (hx : a.eval x = .pointer (some ⟨g, 0, none⟩)) (hz : (Try.prog.info? 53).map (·.size) = some arr.size) (hg : Blk w g 53 arr) :
    (execOp a.eval o).run Try.prog w = .ok (.value (.agg arr)) w := by
  have hr : w.rangeAt g 0 arr.toList := fun j v hj => by rw [Nat.zero_add, hg.cell]; simpa using hj
  have h := run_loadAt_mid w g 0 _ arr.toList _ hr Try.underlying53 rfl (by rw [Array.length_toList]; exact hz)
  rw [Array.toArray_toList] at h
  unfold execOp
  simp only [ho, hx, h, Sem.run_bind, Sem.run_pure, Result.andThen_ok]
theorem blk_ta_ne {w : World} {g : Nat} {a b c : Int} {x : TAct} (h1 : Blk w g 32 (pcs a b c)) (h2 : Blk w g 41 x.cs.toArray) : False := by
  unfold Blk at h1 h2
  rw [h1] at h2
  injection h2 with h2
  injection h2 with _ h3
  exact absurd h3 (by decide)
section
variable {At : World → (Nat → Prop) → Nat → Pw → Prop}
set_option maxRecDepth 60000 in
set_option maxHeartbeats 8000000 in
theorem treeTold_any (L : TreeCalls At) (w : World) (A0 : Option Addr) (c0 : Nat) (l0 : List TAct) (hR0 : Rd w w.heap.size A0 (flatT l0)) (hK0 : DataOk w w.heap.size l0) (xa1 : Nat) (hxa : xa1 < 18446744073709551616) :
    Calls Try.prog 5 #[.slice A0 l0.length c0, .int .u64 (xa1 : Int)] w fun e w' => e = .returned (.bool true) ∧ Below w.heap.size w w' := by
  have HT := Lib.hid (treeAlive_any L w)
  by_cases h30 : l0.length ≤ 40
  · have h30i : ¬ (40 : Int) < l0.length := by omega
    have h30j : (l0.length : Int) ≤ 40 := by omega
    have H30 := Lib.hid h30
    have HR0 := Lib.hid hR0
    have HK0 := Lib.hid hK0
    have HM := Lib.hid (fun W => L.made 200 W (by omega))
    have hz := zeroPtr
    have hzt := zeroTA
    clear hR0 hK0 h30
    go_enter Try.func5, Try.ntmps5
    go_upto_region 7 with (first
      | (go_at_call 10; (with_reducible refine Calls.mono HT.out ?_); rintro e w1 ⟨rfl, hb1⟩; have HB1 := Lib.hid hb1; clear hb1 HT)
      | (go_at_call 9; (with_reducible refine Calls.mono (HM.out _) ?_); rintro e w2 ⟨O2, g, rfl, h2, hO2, hb2⟩; have HM2 := Lib.hid (HasT.first HB1.out h2 hO2 hb2); clear HM HB1 h2 hO2 hb2))
    have HS0 : Hid (SL At 196 w (w2.alloc (.cells (pcs 0 0 0) 32)) O2 g w2.heap.size (newPw (200 : Nat)) 0 0 0 [] 0) :=
      ⟨HM2.out.far L (below_al _ _), ⟨_, _, _, good_zero 200 (by omega) (by omega)⟩, ⟨Blk.new _ _ _, foot_ne L HM2.out.at_⟩, HM2.out.below.size, Nat.le_refl _, Nat.le_refl _, by have := count_new (200 : Nat); have e : (newMp ((200 : Nat) : Int)).tot = 200 := rfl; show (newMp ((200 : Nat) : Int)).count + 3 * 0 ≥ 196; omega, rfl⟩
    have HGR : Hid (w2.heap.size < (w2.alloc (.cells (pcs 0 0 0) 32)).heap.size) := Lib.hid (by simp)
    clear HM2
    generalize w2.alloc (.cells (pcs 0 0 0) 32) = w3 at *
    generalize w2.heap.size = gr at *
    go_upto_region 8 with fail
    have HS1 := Lib.hid (HS0.out.later L (below_al w3 (.cells #[] 32)))
    have HQ1 : Hid (RowA (w3.alloc (.cells #[] 32)) O2 w3.heap.size (.slice (some ⟨w3.heap.size, 0, none⟩) 0 0) []) := ⟨ownQ_nil w3 _ (Nat.le_refl _), fun b hb => by obtain rfl : w3.heap.size = b := Option.some.inj hb; exact foot_ne L HS0.out.has.at_⟩
    have HLO := Lib.hid HS0.out.has.below.size
    have HBQ : Hid (w3.heap.size ≤ (w3.alloc (.cells #[] 32)).heap.size) := (below_al w3 _).size
    clear HS0
    generalize (Value.slice (some ⟨w3.heap.size, 0, none⟩) 0 0) = v0 at *
    generalize w3.alloc (.cells #[] 32) = w4 at *
    generalize w3.heap.size = bq at *
    go_wp2_with fail
    go_loopw [31, 7] (fun i v wr => ∃ (k : Nat) (O : Nat → Prop) (P : Pw) (ra rb rc : Int) (old : List PtrV), k ≤ l0.length ∧ i = .int .i64 (k : Int) ∧ SL At 196 w wr O g gr P ra rb rc old k ∧ RowA wr O bq v old ∧ bq ≤ wr.heap.size ∧ old.length ≤ 3 * k) (fun i _ _ => l0.length - (intOf i).toNat)
    case atStart => exact ⟨0, _, _, _, _, _, _, Nat.zero_le _, rfl, HS1.out, HQ1.out, HBQ.out, Nat.le_refl _⟩
    case round =>
      clear HS1 HQ1 HBQ
      obtain ⟨k, O, P, ra, rb, rc, old, hk, rfl, hSL, hRW, hbq, hol⟩ := hrel
      have HSL0 := Lib.hid hSL
      have HRW0 := Lib.hid (And.intro hRW (And.intro hbq hol))
      clear hSL hRW hbq hol
      by_cases hlt : k < l0.length
      · have hki : (k : Int) < l0.length := by omega
        obtain ⟨b, off, rfl, hbl, hr⟩ := rd_tact HR0.out k hlt
        have HRT : Hid (wr.rangeAt b (off + k * 3) l0[k].cs) := fun j v hj => (HSL0.out.has.below.cell (p := ⟨b, off + k * 3 + j, none⟩) hbl).trans (hr j v hj)
        have HDK := Lib.hid (HK0.out _ (List.getElem_mem hlt))
        have HK := Lib.hid (show k < l0.length ∧ l0.length ≤ 40 from ⟨hlt, H30.out⟩)
        generalize l0[k] = x at *
        obtain ⟨xk, xn, xl, xa, xc, xhk, xhn⟩ := x
        clear hr hbl hlt hk
        go_upto_region 11 with (first
          | (with_reducible refine ld_ta rfl _ rfl b (off + k * 3) ⟨xk, xn, xl, xa, xc, xhk, xhn⟩ rfl HRT.out ?_)
          | (with_reducible refine st_ta rfl _ _ rfl wr.heap.size 0 ⟨xk, xn, xl, xa, xc, xhk, xhn⟩ rfl rfl (Blk.taHas (Blk.new wr _ _)) ?_; intro w4 hw4))
        have HB4 := Lib.hid (new_ta hw4.out).2
        have HT4 := Lib.hid (new_ta hw4.out).1
        have HG10 := Lib.hid (foot_ne L HSL0.out.has.at_)
        have HSLa := Lib.hid (HSL0.out.later L HB4.out)
        have HRWa := Lib.hid (And.intro (HRW0.out.1.later HB4.out) (And.intro (Nat.le_trans HRW0.out.2.1 HB4.out.size) HRW0.out.2.2))
        clear hw4 HSL0 HRT HRW0 HB4
        generalize wr.heap.size = g10 at *
        go_upto_region 12 with fail
        have HBl := Lib.hid (below_al w4 (.cells #[] 32))
        have HSL4 := Lib.hid (HSLa.out.later L HBl.out)
        have HRW4 := Lib.hid (And.intro (HRWa.out.1.later HBl.out) (And.intro (Nat.le_trans HRWa.out.2.1 HBl.out.size) HRWa.out.2.2))
        have HTT := Lib.hid (HT4.out.below HBl.out HT4.out.lt)
        clear HSLa HRWa HT4 HBl
        generalize w4.alloc (.cells #[] 32) = w5 at *
        generalize w4.heap.size = ge at *
        have hc0 : w5.cell? ⟨g10, 0, none⟩ = some (.int .i64 xk) := HTT.out.taF.1
        have HOF := Lib.hid (fun j (hj : O j) => L.foot HSL4.out.has.at_ j hj)
        have HGL := Lib.hid HSL4.out.box.blk.lt
        by_cases h1 : xk = 1
        · subst h1
          have hc1 : w5.cell? ⟨g10, 1, none⟩ = some (.int .i64 xn) := HTT.out.taF.2.1
          have HBX := Lib.hid HSL4.out.box.blk
          have TRM := Lib.hid (show Calls Try.prog 11 #[.pointer (some ⟨g, 0, none⟩), ptq (ra, rb, rc), .int .i64 xn] w5 _ by
            obtain ⟨F, S, T, hg⟩ := HSL4.out.good
            exact trim_whatever L hg HSL4.out.has.at_ (by have := HSL4.out.N; have := HK.out; omega) (by have := HSL4.out.cnt; have := HK.out; omega) xn xhn)
          go_wp2_with (first
            | (refine ld_ptr rfl (.tmp 6) rfl gr 32 ra rb rc rfl HBX.out ?_)
            | (go_at_call 11; (with_reducible refine Calls.mono TRM.out ?_); rintro e w6 ⟨O6, P6, ⟨ra2, rb2, rc2⟩, kk, B2, d2, code, rfl, hch⟩; have HCH := Lib.hid hch; have HB6 := Lib.hid (HSL4.out.box.step hch.step).blk; clear hch TRM)
            | (refine st_pt2 rfl (.tmp 6) (.tmp 59) rfl gr _ ra2 rb2 rc2 rfl rfl HB6.out rfl ?_; intro w7 hb7 hc7
               have HS7 := Lib.hid (HSL4.out.into L HCH.out (hc7 (· = gr) rfl) hb7)
               have HR7 := Lib.hid ((HRW4.out.1.step HCH.out.step).chg (hc7 (· = gr) rfl) fun b hb e => by subst e; have := (HRW4.out.1.own.lt _ hb).1; have := HGR.out; omega)
               have HV7 := Lib.hid (HCH.out.row.over (hc7 (· = gr) rfl) HGL.out)
               have HZ7 := Lib.hid (Nat.le_trans HRW4.out.2.1 (Nat.le_trans HCH.out.step.chg.size (hc7 (· = gr) rfl).size))
               clear hb7 hc7)
            | (at_builtin; refine app_qs rfl 66 67 rfl bq _ old kk rfl HR7.out.own _ B2 kk.length d2 rfl rfl HV7.out HZ7.out (by have := HRW4.out.2.2; have := HCH.out.len; have := HK.out; omega) ?_; intro v8 w8 ho8 hg8 hn8
               have HS8 := Lib.hid (HS7.out.grown L HR7.out HLO.out HGR.out hg8)
               have HR8 := Lib.hid (HR7.out.app (fun j hj => L.foot HS7.out.has.at_ j hj) ho8 hn8)
               have HZ8 := Lib.hid (Nat.le_trans HZ7.out hg8.size)))
          go_roundw
          case rel => exact ⟨k + 1, _, _, _, _, _, _, HK.out.1, by go_num, HS8.out, HR8.out, HZ8.out, by rw [List.length_append]; have := HRW4.out.2.2; have := HCH.out.len; omega⟩
          case measure => have := HK.out; simp [intOf]; omega
        · have h1i : (xk == 1) = false := beq_eq_false_iff_ne.2 h1
          by_cases h5 : xk = 5
          · subst h5
            clear h1
            have HN := Lib.hid (L.next HSL4.out.has.at_ (by have := HSL4.out.st; have := HK.out; omega))
            go_wp2_with (first
              | (go_at_call 16; (with_reducible refine Calls.mono HN.out ?_); rintro e w7 ⟨O7, rfl, h7, s7⟩; have HS7 := Lib.hid (HSL4.out.next h7 s7 (by have := HK.out; omega)); have HR7 := Lib.hid (HRW4.out.1.step s7); have HZ7 := Lib.hid (Nat.le_trans HRW4.out.2.1 s7.chg.size); clear h7 s7 HN)
              | (at_builtin; refine app_qs rfl 66 67 rfl bq _ old [] rfl HR7.out.own w7.heap.size (some ⟨ge, 0, none⟩) 0 0 rfl rfl Rd.nil HZ7.out (by have := HRW4.out.2.2; have := HK.out; simp; omega) ?_; intro v8 w8 ho8 hg8 hn8
                 have HS8 := Lib.hid (HS7.out.grown L HR7.out HLO.out HGR.out hg8)
                 have HR8 := Lib.hid (HR7.out.app (fun j hj => L.foot HS7.out.has.at_ j hj) ho8 hn8)
                 have HZ8 := Lib.hid (Nat.le_trans HZ7.out hg8.size)))
            go_roundw
            case rel => exact ⟨k + 1, _, _, _, _, _, old ++ [], HK.out.1, by go_num, by rw [List.append_nil]; exact HS8.out, HR8.out, HZ8.out, by rw [List.append_nil]; have := HRW4.out.2.2; omega⟩
            case measure => have := HK.out; simp [intOf]; omega
          · have h5i : (xk == 5) = false := beq_eq_false_iff_ne.2 h5
            go_upto_region 13 with fail
            clear hc0
            have HSL : Hid (SL At 196 w w5.drew O g gr P ra rb rc old k) := HSL4.out.later L (Below.refl _ _).drew
            have HRW : Hid (RowA w5.drew O bq u7 old ∧ bq ≤ w5.drew.heap.size ∧ old.length ≤ 3 * k) := ⟨HRW4.out.1.later (Below.refl _ _).drew, HRW4.out.2⟩
            have HS6 : Hid (Blk w5.drew gr 32 (pcs ra rb rc) ∧ Blk w5.drew g10 41 (TAct.cs ⟨xk, xn, xl, xa, xc, xhk, xhn⟩).toArray) := ⟨HSL.out.box.blk, HTT.out.below (Below.refl _ _).drew HTT.out.lt⟩
            have HD : Hid (Rd w5.drew w5.drew.heap.size xa (bys xl)) := (HDK.out.1.below HSL.out.has.below).mono HSL.out.has.below.size
            have HDL : Hid (xl.length ≤ 140737488355328) := Nat.le_trans HDK.out.2 (by omega)
            have HFO : Hid (∀ j, O j → j < w5.drew.heap.size) := fun j hj => L.foot HSL.out.has.at_ j hj
            have HG10b : Hid (¬ O g10) := HG10.out
            clear HSL4 HTT HDK HRW4 HOF
            refine wp_region_held_drew (S := (fun w' => Blk w' g10 41 (TAct.cs ⟨xk, xn, xl, xa, xc, xhk, xhn⟩).toArray)) (by kernel_rfl) HS6.out.2 (fun hHeld => ?_)
            generalize w5.drew = w6 at *
            have SET := Lib.hid (fun W (hb : Below w6.heap.size w6 W) A c (hr : RdA W O A (bys xl)) (hlc : xl.length ≤ c) => by
              obtain ⟨F, S, T, hg⟩ := HSL.out.good
              exact set_whatever L hg (HSL.out.later L hb).has.at_ (by have := HSL.out.N; have := HK.out; omega) (by have := HSL.out.cnt; have := HK.out; omega) xn xhn A c xl hr hlc HDL.out)
            have HB : Hid (Below w6.heap.size w6 w6) := Below.refl _ _
            have HLr := Lib.hid HS6.out.1.lt
            have HLt := Lib.hid HS6.out.2.lt
            generalize hbs : w6.heap.size = bs at *
            have HBS := Lib.hid (HSz.mk hbs)
            clear hbs
            refine wpAnyH_take (i := 0) (v := (.pointer (some ⟨g, 0, none⟩))) rfl (by kernel_rfl) (by kernel_rfl) (by kernel_rfl) (fun _ _ _ h => h) (Or.inl ⟨by rfl, ?_⟩) (by assumption) ?_
            · intro w' hS; go_simp; try with_reducible rfl
            try simp [Act.put]
            refine wpAnyH_take (i := 2) (v := (.pointer (some ⟨g10, 1, none⟩))) rfl (by kernel_rfl) (by kernel_rfl) (by kernel_rfl) (fun _ _ _ h => h) (Or.inl ⟨by rfl, ?_⟩) (by assumption) ?_
            · intro w' hS; go_simp; try with_reducible rfl
            try simp [Act.put]
            refine wpAnyH_take (i := 3) (v := (.int .i64 xn)) rfl (by kernel_rfl) (by kernel_rfl) (by kernel_rfl) (fun _ _ _ h => h) (Or.inl ⟨by rfl, ?_⟩) (by assumption) ?_
            · intro w' hS
              have hcc := hS.taF.2.1
              go_simp; try with_reducible rfl
            try simp [Act.put]
            refine wpAnyH_take (i := 5) (v := (.pointer (some ⟨g10, 2, none⟩))) rfl (by kernel_rfl) (by kernel_rfl) (by kernel_rfl) (fun _ _ _ h => h) (Or.inl ⟨by rfl, ?_⟩) (by assumption) ?_
            · intro w' hS; go_simp; try with_reducible rfl
            try simp [Act.put]
            refine wpAnyH_take (i := 6) (v := (.slice xa xl.length xc)) rfl (by kernel_rfl) (by kernel_rfl) (by kernel_rfl) (fun _ _ _ h => h) (Or.inl ⟨by rfl, ?_⟩) (by assumption) ?_
            · intro w' hS
              have hcc := hS.taF.2.2
              go_simp; try with_reducible rfl
            try simp [Act.put]
            refine wpAnyH_ready (rs := [1, 4]) (by kernel_rfl) (by simp) ?_
            refine (AllReadyH.cons rfl (fun K hK => ?_) (AllReadyH.cons rfl (fun K hK => ?_) AllReadyH.nil))
            · skip
              refine step_ldPt rfl (.tmp 6) rfl gr ra rb rc rfl (HS6.out.1.below HB.out HLr.out) ?_
              refine hK.out _ _ (HS6.out.2.below HB.out HLt.out) (fun hHeld2 => ?_)
              clear hK K
              try simp
              clear hHeld
              have hHeld := hHeld2
              clear hHeld2
              refine wpAnyH_ready (rs := [4]) (by kernel_rfl) (by simp) ?_
              refine (AllReadyH.cons rfl (fun K hK => ?_) AllReadyH.nil)
              go_simp
              have HBn := Lib.hid (HB.out.alloc (bsz HBS.out HB.out) (.cells #[] 5))
              have HE := Lib.hid (ownB_nil w6 bs (bsz HBS.out HB.out))
              refine hK.out _ _ (HS6.out.2.below HBn.out HLt.out) (fun hHeld2 => ?_)
              clear hK K HB
              have HB := HBn
              clear HBn
              generalize w6.alloc (.cells #[] 5) = wb0 at *
              generalize w6.heap.size = gE at *
              try simp
              clear hHeld
              have hHeld := hHeld2
              clear hHeld2
              refine wpAnyH_ready (rs := [7]) (by kernel_rfl) (by simp) ?_
              refine (AllReadyH.cons rfl (fun K hK => ?_) AllReadyH.nil)
              refine step_copyB rfl 43 45 rfl bs gE rfl HE.out _ xa xl.length xc xl rfl rfl (HD.out.below HB.out) HDL.out (bsz HBS.out HB.out) ?_
              intro A7 c7 wl1 hown hc7 hgr
              have HBn := Lib.hid (below_own HB.out HE.out (Nat.le_refl _) (bsz HBS.out HB.out) hgr)
              have HL := Lib.hid hown
              have HL7 := Lib.hid hc7
              refine hK.out _ _ (HS6.out.2.below HBn.out HLt.out) (fun hHeld2 => ?_)
              clear hK K hown hc7 hgr HB HE
              have HB := HBn
              clear HBn
              skip
              try simp
              clear hHeld
              have hHeld := hHeld2
              clear hHeld2
              refine wpAnyH_ready (rs := [8]) (by kernel_rfl) (by simp) ?_
              refine (AllReadyH.cons rfl (fun K hK => ?_) AllReadyH.nil)
              go_simp
              refine Calls.mono (SET.out wl1 HB.out A7 c7 (own_rdA HL.out HFO.out) HL7.out) ?_
              rintro e ws2 ⟨O2, P2, ⟨ra2, rb2, rc2⟩, kk, B2, d2, code, rfl, hch⟩
              have HC := Lib.hid hch
              have HSw := Lib.hid (HSL.out.later L (bsub HBS.out HB.out))
              have HSs : Hid (Blk ws2 gr 32 (pcs ra rb rc) ∧ Blk ws2 g10 41 (TAct.cs ⟨xk, xn, xl, xa, xc, xhk, xhn⟩).toArray) := ⟨(HSw.out.box.step hch.step).blk, (HS6.out.2.below HB.out HLt.out).chg hch.step.chg HG10.out⟩
              refine hK.out _ _ HSs.out.2 (fun hHeld2 => ?_)
              clear hK K hch SET HL HL7
              skip
              try simp
              clear hHeld
              have hHeld := hHeld2
              clear hHeld2
              refine wpAnyH_take (i := 9) (v := (.tuple #[ptq (ra2, rb2, rc2), .slice B2 kk.length d2, .int .i64 code])) rfl (by kernel_rfl) (by kernel_rfl) (by kernel_rfl) (fun _ _ _ h => h) (Or.inl ⟨by rfl, ?_⟩) (by assumption) ?_
              · intro w' hS; go_simp; try with_reducible rfl
              try simp [Act.put]
              refine wpAnyH_take (i := 10) (v := (ptq (ra2, rb2, rc2))) rfl (by kernel_rfl) (by kernel_rfl) (by kernel_rfl) (fun _ _ _ h => h) (Or.inl ⟨by rfl, ?_⟩) (by assumption) ?_
              · intro w' hS; go_simp; try with_reducible rfl
              try simp [Act.put]
              refine wpAnyH_take (i := 11) (v := (.slice B2 kk.length d2)) rfl (by kernel_rfl) (by kernel_rfl) (by kernel_rfl) (fun _ _ _ h => h) (Or.inl ⟨by rfl, ?_⟩) (by assumption) ?_
              · intro w' hS; go_simp; try with_reducible rfl
              try simp [Act.put]
              refine wpAnyH_take (i := 12) (v := (.int .i64 code)) rfl (by kernel_rfl) (by kernel_rfl) (by kernel_rfl) (fun _ _ _ h => h) (Or.inl ⟨by rfl, ?_⟩) (by assumption) ?_
              · intro w' hS; go_simp; try with_reducible rfl
              try simp [Act.put]
              refine wpAnyH_ready (rs := [13]) (by kernel_rfl) (by simp) ?_
              refine AllReadyH.cons rfl (fun K hK => ?_) AllReadyH.nil
              refine step_stPt rfl (.tmp 6) (.tmp 48) rfl gr ra2 rb2 rc2 ra rb rc rfl rfl HSs.out.1 ?_
              intro w8 hb8 _ hc8
              have HS8 := Lib.hid (HSw.out.into L HC.out (hc8 (· = gr) rfl) hb8)
              have HR8 := Lib.hid (((HRW.out.1.later (bsub HBS.out HB.out)).step HC.out.step).chg (hc8 (· = gr) rfl) fun b hb e => by subst e; have := (HRW.out.1.own.lt _ hb).1; have := HGR.out; omega)
              have HV8 := Lib.hid (HC.out.row.over (hc8 (· = gr) rfl) (Nat.lt_of_lt_of_le HLr.out (bsz HBS.out HB.out)))
              have HZ8 := Lib.hid (Nat.le_trans HRW.out.2.1 (Nat.le_trans (bsz HBS.out HB.out) (Nat.le_trans HC.out.step.chg.size (hc8 (· = gr) rfl).size)))
              refine hK.out _ _ (HSs.out.2.chg (hc8 (· = gr) rfl) (fun e => by have h1 := HSs.out.1; have h2 := HSs.out.2; rw [e] at h2; exact blk_ta_ne h1 h2)) (fun hHeld2 => ?_)
              clear hK K HSs hc8 hb8
              try simp
              clear hHeld
              have hHeld := hHeld2
              clear hHeld2
              refine wpAnyH_take (i := 14) (v := (.slice B2 kk.length d2)) rfl (by kernel_rfl) (by kernel_rfl) (by kernel_rfl) (fun _ _ _ h => h) (Or.inl ⟨by rfl, ?_⟩) (by assumption) ?_
              · intro w' hS; go_simp; try with_reducible rfl
              try simp [Act.put]
              refine wpAnyH_done (by kernel_rfl) ?_ _
              clear hHeld
              go_wp2_with (at_builtin; refine app_qs rfl 66 67 rfl bq _ old kk rfl HR8.out.own _ B2 kk.length d2 rfl rfl HV8.out HZ8.out (by have := HRW.out.2.2; have := HC.out.len; have := HK.out; omega) ?_; intro v9 w9 ho9 hg9 hn9; have HS9 := Lib.hid (HS8.out.grown L HR8.out HLO.out HGR.out hg9); have HR9 := Lib.hid (HR8.out.app (fun j hj => L.foot HS8.out.has.at_ j hj) ho9 hn9); have HZ9 := Lib.hid (Nat.le_trans HZ8.out hg9.size))
              go_roundw
              case rel => exact ⟨k + 1, _, _, _, _, _, _, HK.out.1, by go_num, HS9.out, HR9.out, HZ9.out, by rw [List.length_append]; have := HRW.out.2.2; have := HC.out.len; omega⟩
              case measure => have := HK.out; simp [intOf]; omega
            · skip
              go_simp
              have HBn := Lib.hid (HB.out.alloc (bsz HBS.out HB.out) (.cells #[] 5))
              have HE := Lib.hid (ownB_nil w6 bs (bsz HBS.out HB.out))
              refine hK.out _ _ (HS6.out.2.below HBn.out HLt.out) (fun hHeld2 => ?_)
              clear hK K HB
              have HB := HBn
              clear HBn
              generalize w6.alloc (.cells #[] 5) = wb0 at *
              generalize w6.heap.size = gE at *
              try simp
              clear hHeld
              have hHeld := hHeld2
              clear hHeld2
              refine wpAnyH_ready (rs := [1, 7]) (by kernel_rfl) (by simp) ?_
              refine (AllReadyH.cons rfl (fun K hK => ?_) (AllReadyH.cons rfl (fun K hK => ?_) AllReadyH.nil))
              · skip
                refine step_ldPt rfl (.tmp 6) rfl gr ra rb rc rfl (HS6.out.1.below HB.out HLr.out) ?_
                refine hK.out _ _ (HS6.out.2.below HB.out HLt.out) (fun hHeld2 => ?_)
                clear hK K
                try simp
                clear hHeld
                have hHeld := hHeld2
                clear hHeld2
                refine wpAnyH_ready (rs := [7]) (by kernel_rfl) (by simp) ?_
                refine (AllReadyH.cons rfl (fun K hK => ?_) AllReadyH.nil)
                refine step_copyB rfl 43 45 rfl bs gE rfl HE.out _ xa xl.length xc xl rfl rfl (HD.out.below HB.out) HDL.out (bsz HBS.out HB.out) ?_
                intro A7 c7 wl1 hown hc7 hgr
                have HBn := Lib.hid (below_own HB.out HE.out (Nat.le_refl _) (bsz HBS.out HB.out) hgr)
                have HL := Lib.hid hown
                have HL7 := Lib.hid hc7
                refine hK.out _ _ (HS6.out.2.below HBn.out HLt.out) (fun hHeld2 => ?_)
                clear hK K hown hc7 hgr HB HE
                have HB := HBn
                clear HBn
                skip
                try simp
                clear hHeld
                have hHeld := hHeld2
                clear hHeld2
                refine wpAnyH_ready (rs := [8]) (by kernel_rfl) (by simp) ?_
                refine (AllReadyH.cons rfl (fun K hK => ?_) AllReadyH.nil)
                go_simp
                refine Calls.mono (SET.out wl1 HB.out A7 c7 (own_rdA HL.out HFO.out) HL7.out) ?_
                rintro e ws2 ⟨O2, P2, ⟨ra2, rb2, rc2⟩, kk, B2, d2, code, rfl, hch⟩
                have HC := Lib.hid hch
                have HSw := Lib.hid (HSL.out.later L (bsub HBS.out HB.out))
                have HSs : Hid (Blk ws2 gr 32 (pcs ra rb rc) ∧ Blk ws2 g10 41 (TAct.cs ⟨xk, xn, xl, xa, xc, xhk, xhn⟩).toArray) := ⟨(HSw.out.box.step hch.step).blk, (HS6.out.2.below HB.out HLt.out).chg hch.step.chg HG10.out⟩
                refine hK.out _ _ HSs.out.2 (fun hHeld2 => ?_)
                clear hK K hch SET HL HL7
                skip
                try simp
                clear hHeld
                have hHeld := hHeld2
                clear hHeld2
                refine wpAnyH_take (i := 9) (v := (.tuple #[ptq (ra2, rb2, rc2), .slice B2 kk.length d2, .int .i64 code])) rfl (by kernel_rfl) (by kernel_rfl) (by kernel_rfl) (fun _ _ _ h => h) (Or.inl ⟨by rfl, ?_⟩) (by assumption) ?_
                · intro w' hS; go_simp; try with_reducible rfl
                try simp [Act.put]
                refine wpAnyH_take (i := 10) (v := (ptq (ra2, rb2, rc2))) rfl (by kernel_rfl) (by kernel_rfl) (by kernel_rfl) (fun _ _ _ h => h) (Or.inl ⟨by rfl, ?_⟩) (by assumption) ?_
                · intro w' hS; go_simp; try with_reducible rfl
                try simp [Act.put]
                refine wpAnyH_take (i := 11) (v := (.slice B2 kk.length d2)) rfl (by kernel_rfl) (by kernel_rfl) (by kernel_rfl) (fun _ _ _ h => h) (Or.inl ⟨by rfl, ?_⟩) (by assumption) ?_
                · intro w' hS; go_simp; try with_reducible rfl
                try simp [Act.put]
                refine wpAnyH_take (i := 12) (v := (.int .i64 code)) rfl (by kernel_rfl) (by kernel_rfl) (by kernel_rfl) (fun _ _ _ h => h) (Or.inl ⟨by rfl, ?_⟩) (by assumption) ?_
                · intro w' hS; go_simp; try with_reducible rfl
                try simp [Act.put]
                refine wpAnyH_ready (rs := [13]) (by kernel_rfl) (by simp) ?_
                refine AllReadyH.cons rfl (fun K hK => ?_) AllReadyH.nil
                refine step_stPt rfl (.tmp 6) (.tmp 48) rfl gr ra2 rb2 rc2 ra rb rc rfl rfl HSs.out.1 ?_
                intro w8 hb8 _ hc8
                have HS8 := Lib.hid (HSw.out.into L HC.out (hc8 (· = gr) rfl) hb8)
                have HR8 := Lib.hid (((HRW.out.1.later (bsub HBS.out HB.out)).step HC.out.step).chg (hc8 (· = gr) rfl) fun b hb e => by subst e; have := (HRW.out.1.own.lt _ hb).1; have := HGR.out; omega)
                have HV8 := Lib.hid (HC.out.row.over (hc8 (· = gr) rfl) (Nat.lt_of_lt_of_le HLr.out (bsz HBS.out HB.out)))
                have HZ8 := Lib.hid (Nat.le_trans HRW.out.2.1 (Nat.le_trans (bsz HBS.out HB.out) (Nat.le_trans HC.out.step.chg.size (hc8 (· = gr) rfl).size)))
                refine hK.out _ _ (HSs.out.2.chg (hc8 (· = gr) rfl) (fun e => by have h1 := HSs.out.1; have h2 := HSs.out.2; rw [e] at h2; exact blk_ta_ne h1 h2)) (fun hHeld2 => ?_)
                clear hK K HSs hc8 hb8
                try simp
                clear hHeld
                have hHeld := hHeld2
                clear hHeld2
                refine wpAnyH_take (i := 14) (v := (.slice B2 kk.length d2)) rfl (by kernel_rfl) (by kernel_rfl) (by kernel_rfl) (fun _ _ _ h => h) (Or.inl ⟨by rfl, ?_⟩) (by assumption) ?_
                · intro w' hS; go_simp; try with_reducible rfl
                try simp [Act.put]
                refine wpAnyH_done (by kernel_rfl) ?_ _
                clear hHeld
                go_wp2_with (at_builtin; refine app_qs rfl 66 67 rfl bq _ old kk rfl HR8.out.own _ B2 kk.length d2 rfl rfl HV8.out HZ8.out (by have := HRW.out.2.2; have := HC.out.len; have := HK.out; omega) ?_; intro v9 w9 ho9 hg9 hn9; have HS9 := Lib.hid (HS8.out.grown L HR8.out HLO.out HGR.out hg9); have HR9 := Lib.hid (HR8.out.app (fun j hj => L.foot HS8.out.has.at_ j hj) ho9 hn9); have HZ9 := Lib.hid (Nat.le_trans HZ8.out hg9.size))
                go_roundw
                case rel => exact ⟨k + 1, _, _, _, _, _, _, HK.out.1, by go_num, HS9.out, HR9.out, HZ9.out, by rw [List.length_append]; have := HRW.out.2.2; have := HC.out.len; omega⟩
                case measure => have := HK.out; simp [intOf]; omega
              · skip
                refine step_copyB rfl 43 45 rfl bs gE rfl HE.out _ xa xl.length xc xl rfl rfl (HD.out.below HB.out) HDL.out (bsz HBS.out HB.out) ?_
                intro A7 c7 wl1 hown hc7 hgr
                have HBn := Lib.hid (below_own HB.out HE.out (Nat.le_refl _) (bsz HBS.out HB.out) hgr)
                have HL := Lib.hid hown
                have HL7 := Lib.hid hc7
                refine hK.out _ _ (HS6.out.2.below HBn.out HLt.out) (fun hHeld2 => ?_)
                clear hK K hown hc7 hgr HB HE
                have HB := HBn
                clear HBn
                skip
                try simp
                clear hHeld
                have hHeld := hHeld2
                clear hHeld2
                refine wpAnyH_ready (rs := [1]) (by kernel_rfl) (by simp) ?_
                refine (AllReadyH.cons rfl (fun K hK => ?_) AllReadyH.nil)
                refine step_ldPt rfl (.tmp 6) rfl gr ra rb rc rfl (HS6.out.1.below HB.out HLr.out) ?_
                refine hK.out _ _ (HS6.out.2.below HB.out HLt.out) (fun hHeld2 => ?_)
                clear hK K
                try simp
                clear hHeld
                have hHeld := hHeld2
                clear hHeld2
                refine wpAnyH_ready (rs := [8]) (by kernel_rfl) (by simp) ?_
                refine (AllReadyH.cons rfl (fun K hK => ?_) AllReadyH.nil)
                go_simp
                refine Calls.mono (SET.out wl1 HB.out A7 c7 (own_rdA HL.out HFO.out) HL7.out) ?_
                rintro e ws2 ⟨O2, P2, ⟨ra2, rb2, rc2⟩, kk, B2, d2, code, rfl, hch⟩
                have HC := Lib.hid hch
                have HSw := Lib.hid (HSL.out.later L (bsub HBS.out HB.out))
                have HSs : Hid (Blk ws2 gr 32 (pcs ra rb rc) ∧ Blk ws2 g10 41 (TAct.cs ⟨xk, xn, xl, xa, xc, xhk, xhn⟩).toArray) := ⟨(HSw.out.box.step hch.step).blk, (HS6.out.2.below HB.out HLt.out).chg hch.step.chg HG10.out⟩
                refine hK.out _ _ HSs.out.2 (fun hHeld2 => ?_)
                clear hK K hch SET HL HL7
                skip
                try simp
                clear hHeld
                have hHeld := hHeld2
                clear hHeld2
                refine wpAnyH_take (i := 9) (v := (.tuple #[ptq (ra2, rb2, rc2), .slice B2 kk.length d2, .int .i64 code])) rfl (by kernel_rfl) (by kernel_rfl) (by kernel_rfl) (fun _ _ _ h => h) (Or.inl ⟨by rfl, ?_⟩) (by assumption) ?_
                · intro w' hS; go_simp; try with_reducible rfl
                try simp [Act.put]
                refine wpAnyH_take (i := 10) (v := (ptq (ra2, rb2, rc2))) rfl (by kernel_rfl) (by kernel_rfl) (by kernel_rfl) (fun _ _ _ h => h) (Or.inl ⟨by rfl, ?_⟩) (by assumption) ?_
                · intro w' hS; go_simp; try with_reducible rfl
                try simp [Act.put]
                refine wpAnyH_take (i := 11) (v := (.slice B2 kk.length d2)) rfl (by kernel_rfl) (by kernel_rfl) (by kernel_rfl) (fun _ _ _ h => h) (Or.inl ⟨by rfl, ?_⟩) (by assumption) ?_
                · intro w' hS; go_simp; try with_reducible rfl
                try simp [Act.put]
                refine wpAnyH_take (i := 12) (v := (.int .i64 code)) rfl (by kernel_rfl) (by kernel_rfl) (by kernel_rfl) (fun _ _ _ h => h) (Or.inl ⟨by rfl, ?_⟩) (by assumption) ?_
                · intro w' hS; go_simp; try with_reducible rfl
                try simp [Act.put]
                refine wpAnyH_ready (rs := [13]) (by kernel_rfl) (by simp) ?_
                refine AllReadyH.cons rfl (fun K hK => ?_) AllReadyH.nil
                refine step_stPt rfl (.tmp 6) (.tmp 48) rfl gr ra2 rb2 rc2 ra rb rc rfl rfl HSs.out.1 ?_
                intro w8 hb8 _ hc8
                have HS8 := Lib.hid (HSw.out.into L HC.out (hc8 (· = gr) rfl) hb8)
                have HR8 := Lib.hid (((HRW.out.1.later (bsub HBS.out HB.out)).step HC.out.step).chg (hc8 (· = gr) rfl) fun b hb e => by subst e; have := (HRW.out.1.own.lt _ hb).1; have := HGR.out; omega)
                have HV8 := Lib.hid (HC.out.row.over (hc8 (· = gr) rfl) (Nat.lt_of_lt_of_le HLr.out (bsz HBS.out HB.out)))
                have HZ8 := Lib.hid (Nat.le_trans HRW.out.2.1 (Nat.le_trans (bsz HBS.out HB.out) (Nat.le_trans HC.out.step.chg.size (hc8 (· = gr) rfl).size)))
                refine hK.out _ _ (HSs.out.2.chg (hc8 (· = gr) rfl) (fun e => by have h1 := HSs.out.1; have h2 := HSs.out.2; rw [e] at h2; exact blk_ta_ne h1 h2)) (fun hHeld2 => ?_)
                clear hK K HSs hc8 hb8
                try simp
                clear hHeld
                have hHeld := hHeld2
                clear hHeld2
                refine wpAnyH_take (i := 14) (v := (.slice B2 kk.length d2)) rfl (by kernel_rfl) (by kernel_rfl) (by kernel_rfl) (fun _ _ _ h => h) (Or.inl ⟨by rfl, ?_⟩) (by assumption) ?_
                · intro w' hS; go_simp; try with_reducible rfl
                try simp [Act.put]
                refine wpAnyH_done (by kernel_rfl) ?_ _
                clear hHeld
                go_wp2_with (at_builtin; refine app_qs rfl 66 67 rfl bq _ old kk rfl HR8.out.own _ B2 kk.length d2 rfl rfl HV8.out HZ8.out (by have := HRW.out.2.2; have := HC.out.len; have := HK.out; omega) ?_; intro v9 w9 ho9 hg9 hn9; have HS9 := Lib.hid (HS8.out.grown L HR8.out HLO.out HGR.out hg9); have HR9 := Lib.hid (HR8.out.app (fun j hj => L.foot HS8.out.has.at_ j hj) ho9 hn9); have HZ9 := Lib.hid (Nat.le_trans HZ8.out hg9.size))
                go_roundw
                case rel => exact ⟨k + 1, _, _, _, _, _, _, HK.out.1, by go_num, HS9.out, HR9.out, HZ9.out, by rw [List.length_append]; have := HRW.out.2.2; have := HC.out.len; omega⟩
                case measure => have := HK.out; simp [intOf]; omega
      · obtain rfl : k = l0.length := by omega
        clear hk hlt HR0 HK0 hzt
        obtain ⟨F, S, T, hg⟩ := HSL0.out.good
        obtain ⟨vA, vc, rfl, _, _⟩ := own_rd HRW0.out.1.own
        have HG := Lib.hid hg
        have hW1 := L.all 0 (by omega) HSL0.out.has.at_ hg.ok hg.tree
        rw [show ((0 : Nat) : Int) = 0 from rfl] at hW1
        have HW1 := Lib.hid hW1
        have HBO := Lib.hid HSL0.out.box.blk
        have HSUB := Lib.hid (all_sub hg (a := 0) (b := (xa1 : Int)) (by omega))
        have HLEN := Lib.hid (all_len (root := (ra, rb, rc)) (F := F) (S := S) 0)
        have HSUM : Hid (∀ a, sumL (cA a) (allL 0 (ra, rb, rc) F S ++ old) = tk P a) := fun a => by rw [sumL_app, all_sum hg (cA_hole a)]; exact hg.acc a
        have HEL : Hid (∀ q ∈ allL 0 (ra, rb, rc) F S ++ old, q ≠ hole0 ∧ 0 ≤ q.1) := fun q hq => (List.mem_append.1 hq).elim (fun h => all_nat hg h) (fun h => hg.olds q h)
        have HOL : Hid (old.length ≤ 120) := Lib.hid (by have := HRW0.out.2.2; have := H30.out; omega)
        have HTOT : Hid (P.m.tot = 200) := HSL0.out.tot
        have HRO := Lib.hid HRW0.out.1.rdA
        have hbd : ∀ w, (Instr.build 53 #[]).run Try.prog w = .ok (.agg (barr noB)) w := by unfold noB; rw [← falses_eq]; exact buildArr
        have hz4 : ∀ w, Sem.run Try.prog (zeroValue 53) w = .ok (.agg (barr noB)) w := by unfold noB; rw [← falses_eq]; exact zeroArr
        clear hg hW1 HRW0
        go_upto_region 24 with (first
          | (refine ld_ptr rfl (.tmp 6) rfl gr 32 ra rb rc rfl HBO.out ?_)
          | (refine ld_ptr rfl (.tmp 6) rfl gr 32 ra rb rc rfl HBO5.out ?_)
          | (go_at_call 17; (with_reducible refine Calls.mono HW1.out ?_); rintro e w5 ⟨O5, B1, d1, rfl, h5, r5, s5⟩; have HS5 := Lib.hid (HSL0.out.same h5 s5); have HR5 := Lib.hid (And.intro (HRO.out.step s5) r5.toRdA); have HW2 := Lib.hid (L.all xa1 hxa HS5.out.has.at_ HG.out.ok HG.out.tree); have HBO5 := Lib.hid HS5.out.box.blk; clear h5 r5 s5 HW1 HBO HRO)
          | (go_at_call 17; (with_reducible refine Calls.mono HW2.out ?_); rintro e w6 ⟨O6, B2, d2, rfl, h6, r6, s6⟩; have HS6 := Lib.hid (HS5.out.same h6 s6); have HR6 := Lib.hid (And.intro (HR5.out.1.step s6).rd (And.intro (HR5.out.2.step s6).rd r6.rd)); clear h6 r6 s6 HW2 HR5 HBO5 HS5))
        clear HSL0 HG
        have HHS := Lib.hid HS6.out.has
        clear HS6
        generalize allL 0 (ra, rb, rc) F S = l1 at *
        generalize allL (xa1 : Int) (ra, rb, rc) F S = l2 at *
        go_upto_region 25 with ((with_reducible refine st_arr rfl _ _ rfl w6.heap.size noB noB rfl rfl (Blk.new w6 _ _) ?_); intro w7 hbl7 hsz7 hbb7)
        have HB7 : Hid (Below w6.heap.size w6 w7) := (below_al w6 _).trans (hbb7 _ (Nat.le_refl _))
        have HA7 := Lib.hid hbl7
        clear hbl7 hsz7 hbb7 hbd hz4
        generalize hga : w6.heap.size = ga at *
        have HGA := Lib.hid (HSz.mk hga)
        clear hga
        have hl73 := HLEN.out
        have HW8 := Lib.hid (HB7.out.alloc (Nat.le_of_lt HA7.out.lt) (.cells #[] 32))
        have HN8 := Lib.hid (ownQ_nil w7 w7.heap.size (Nat.le_refl _))
        have HGB := Lib.hid HA7.out.lt
        have HA8 := Lib.hid (HA7.out.below (below_al w7 (.cells #[] 32)) HA7.out.lt)
        have HBL := Lib.hid (below_al w7 (.cells #[] 32)).size
        clear HB7 HA7
        have HLL : Hid ((l1 ++ old).length ≤ 193) := Lib.hid (by rw [List.length_append]; have := HOL.out; omega)
        go_upto_region 26 with (first
          | (at_builtin; refine app_qs rfl 90 91 rfl w7.heap.size _ [] l1 rfl HN8.out ga B1 l1.length d1 rfl rfl (HR6.out.2.1.below HW8.out) HBL.out (by simp only [List.length_nil]; omega) ?_; intro v9 w9 ho9 hg9 _
             have HO9 := Lib.hid (show OwnQ w9 w7.heap.size v9 l1 from ho9)
             have HQ9 := Lib.hid (below_own (Below.refl w7.heap.size _) HN8.out (Nat.le_refl _) HBL.out hg9)
             have HW9 := Lib.hid (HW8.out.trans (HQ9.out.mono (Nat.le_of_lt HGB.out)))
             have HZ9 := Lib.hid (Nat.le_trans HBL.out hg9.size)
             clear ho9 hg9)
          | (at_builtin; refine app_qs rfl 92 93 rfl w7.heap.size _ l1 old rfl HO9.out ga vA old.length vc rfl rfl (HR6.out.1.below HW9.out) HZ9.out (by have := HOL.out; omega) ?_; intro v10 w10 ho10 hg10 _
             have HQ10 := Lib.hid (below_own HQ9.out HO9.out (Nat.le_refl _) HZ9.out hg10)
             generalize l1 ++ old = LL at *
             obtain ⟨LA, Lc, rfl, hlow⟩ := lowQ ho10
             have HLOW := Lib.hid hlow
             clear ho10 hg10 hlow))
        have HA10 := Lib.hid (HA8.out.below HQ10.out HGB.out)
        have HW10 := Lib.hid (HW8.out.trans (HQ10.out.mono (Nat.le_of_lt HGB.out)))
        clear HO9 HQ9 HW9 HZ9 HN8 HA8 HW8 HBL HQ10
        generalize w7.heap.size = bl at *
        have hLi : (LL.length : Int) ≤ 193 := by have := HLL.out; omega
        go_loopw [96] (fun i wr => ∃ (k : Nat), k ≤ LL.length ∧ i = .int .i64 (k : Int) ∧ Blk wr ga 53 (barr (inS (LL.take k))) ∧ Chg w10 wr (· = ga)) (fun i _ => LL.length - (intOf i).toNat)
        case atStart => exact ⟨0, Nat.zero_le _, rfl, by show Blk w10 ga _ (barr (inS [])); rw [inS_zero]; exact HA10.out, Chg.refl _ _⟩
        case round =>
          obtain ⟨k, hk, rfl, hbk, hch⟩ := hrel
          have HBK := Lib.hid (And.intro hbk hch)
          clear hbk hch
          by_cases hlt : k < LL.length
          · have hki : (k : Int) < LL.length := by omega
            obtain ⟨b, off, rfl, hN, hbB, e0, e1, e2⟩ := HLOW.out k hlt
            have hne : ¬ b = ga := by have := HGB.out; omega
            have e0 := (HBK.out.2.cell hbB hne _).trans e0
            have e1 := (HBK.out.2.cell hbB hne _).trans e1
            have e2 := (HBK.out.2.cell hbB hne _).trans e2
            obtain ⟨a, ha, h4, ht, hin, hnx⟩ := told_step (fun a => Nat.le_of_eq (HSUM.out a)) hlt (HEL.out _ (List.getElem_mem hlt))
            have h4i : ¬ (a : Int) < 4 := by omega
            have h199 : (a : Int) ≤ 199 := by have := HTOT.out; omega
            have HNX := Lib.hid hnx
            have HK := Lib.hid hlt
            generalize LL[k] = x at *
            obtain ⟨p, q, s⟩ := x
            simp only at e0 e1 e2 ha
            subst ha
            have hcell : wr.cell? ⟨ga, a, none⟩ = some (.bool false) := by
              rw [HBK.out.1.cell a, barr_at _ a (by omega), hin]
            have HBA : Hid (barr (inS (LL.take (k + 1))) = (barr (inS (LL.take k))).setIfInBounds a (.bool true)) := (barr_set (S := inS (LL.take k)) (T := inS (LL.take (k + 1))) (b := true) a (by omega) (by rw [hnx]; simp) (fun n _ _ hn => by rw [hnx]; simp [hn])).symm
            clear hN hbB hne hin hnx h4 ht hk hlt hl73
            go_upto_region 28 with fail
            have f0 : (wr.alloc (.cells (pcs (a : Int) q s) 32)).cell? ⟨wr.heap.size, 0, none⟩ = some (.int .i64 (a : Int)) := (Blk.new wr _ _).cell 0
            have hcell := (((below_al wr (.cells (pcs (a : Int) q s) 32)).cell (p := ⟨ga, a, none⟩) HBK.out.1.lt).trans hcell)
            have HA2 := Lib.hid (HBK.out.1.below (below_al wr (.cells (pcs (a : Int) q s) 32)) HBK.out.1.lt)
            have HC2 := Lib.hid (HBK.out.2.alloc (.cells (pcs (a : Int) q s) 32))
            clear HBK e0 e1 e2
            generalize wr.alloc (.cells (pcs (a : Int) q s) 32) = w9 at *
            generalize wr.heap.size = g9 at *
            have hfz := HA2.out.frozen a
            have hsz := HA2.out.lt
            go_wp2_with fail
            go_roundw
            case rel => exact ⟨k + 1, HK.out, by go_num, by rw [HBA.out]; exact HA2.out.set_ a _, HC2.out.setCell (.inl rfl) _⟩
            case measure => have := HK.out; simp [intOf]; omega
          · obtain rfl : k = LL.length := by omega
            rw [List.take_of_length_le (Nat.le_refl _)] at HBK
            rw [told_all HSUM.out] at HBK
            have HWr := Lib.hid (HW10.out.trans (HBK.out.2.below (fun j hj => Nat.le_of_eq hj.symm) (Nat.le_of_lt HA10.out.lt)))
            have HAr := Lib.hid HBK.out.1
            have HHr := Lib.hid (HHS.out.far L (bsub HGA.out HWr.out))
            have HR1 := Lib.hid ((HR6.out.2.1.below HWr.out).mono (Nat.le_of_lt HAr.out.lt))
            have HR2 := Lib.hid ((HR6.out.2.2.below HWr.out).mono (Nat.le_of_lt HAr.out.lt))
            clear HBK HA10 HW10 HR6 HHS HGA HWr HLOW HSUM HEL HLL hLi hk hlt HGB HOL HTOT
            obtain ⟨wq, rfl⟩ : ∃ wq : World, wq = wr := ⟨_, rfl⟩
            have hl1i : (l1.length : Int) ≤ 73 := by have := HLEN.out; omega
            clear hl73
            go_wp2_with fail
            have HN0 : Hid (OwnQ (wq.alloc (.cells #[] 32)) wq.heap.size (.slice (some ⟨wq.heap.size, 0, none⟩) 0 0) [] ∧ Below wq.heap.size wq (wq.alloc (.cells #[] 32))) := ⟨ownQ_nil wq _ (Nat.le_refl _), below_al _ _⟩
            generalize (Value.slice (some ⟨wq.heap.size, 0, none⟩) 0 0) = vv at *
            generalize wq.alloc (.cells #[] 32) = wc at *
            go_loopw [121, 18] (fun i v wr => ∃ (k : Nat), k ≤ l1.length ∧ i = .int .i64 (k : Int) ∧ OwnQ wr wq.heap.size v ((l1.take k).filter fun q => decide ((xa1 : Int) < q.2.1)) ∧ Below wq.heap.size wq wr) (fun i _ _ => l1.length - (intOf i).toNat)
            case atStart => exact ⟨0, Nat.zero_le _, rfl, HN0.out.1, HN0.out.2⟩
            case round =>
              clear HN0
              obtain ⟨k, hk, rfl, hown, hbl⟩ := hrel
              have HO := Lib.hid hown
              have HB := Lib.hid hbl
              clear hown hbl
              by_cases hlt : k < l1.length
              · have hki : (k : Int) < l1.length := by omega
                obtain ⟨b, off, rfl, hbB, e0, e1, e2⟩ := pq_at HR1.out k hlt
                have e0 := (HB.out.cell (p := ⟨b, off + k * 3, none⟩) hbB).trans e0
                have e1 := (HB.out.cell (p := ⟨b, off + k * 3 + 1, none⟩) hbB).trans e1
                have e2 := (HB.out.cell (p := ⟨b, off + k * 3 + 2, none⟩) hbB).trans e2
                have HTK : Hid (l1.take (k + 1) = l1.take k ++ [l1[k]]) := Lib.hid (List.take_succ_eq_append_getElem hlt)
                have HK := Lib.hid hlt
                have HL : Hid (((l1.take k).filter fun q => decide ((xa1 : Int) < q.2.1)).length ≤ 1048576) := Nat.le_trans (List.length_filter_le _ _) (by rw [List.length_take]; have := HLEN.out; omega)
                generalize l1[k] = x at *
                obtain ⟨p, q, s⟩ := x
                simp only at e0 e1 e2
                clear hk hlt hbB
                by_cases hq : (xa1 : Int) < q
                · have HF : Hid ((l1.take (k + 1)).filter (fun q => decide ((xa1 : Int) < q.2.1)) = ((l1.take k).filter fun q => decide ((xa1 : Int) < q.2.1)) ++ [(p, q, s)]) := by
                    show _ = _
                    rw [HTK.out, List.filter_append, List.filter_cons, if_pos (decide_eq_true hq), List.filter_nil]
                  clear HTK
                  go_upto_region 36 with fail
                  have f1 : (wr.alloc (.cells (pcs p q s) 32)).cell? ⟨wr.heap.size, 1, none⟩ = some (.int .u64 q) := (Blk.new wr _ _).cell 1
                  have f0 : (wr.alloc (.cells (pcs p q s) 32)).cell? ⟨wr.heap.size, 0, none⟩ = some (.int .i64 p) := (Blk.new wr _ _).cell 0
                  have f2 : (wr.alloc (.cells (pcs p q s) 32)).cell? ⟨wr.heap.size, 2, none⟩ = some (.int .u32 s) := (Blk.new wr _ _).cell 2
                  have HO2 : Hid (OwnQ (wr.alloc (.cells (pcs p q s) 32)) wq.heap.size u18 ((l1.take k).filter fun q => decide ((xa1 : Int) < q.2.1))) := World.ownsRow.alloc HO.out _
                  have HB2 := Lib.hid (HB.out.alloc HB.out.size (.cells (pcs p q s) 32))
                  clear HO HB e0 e1 e2
                  generalize wr.alloc (.cells (pcs p q s) 32) = w9 at *
                  generalize wr.heap.size = g9 at *
                  go_wp2_with (at_builtin; refine app_ptr rfl 129 131 rfl wq.heap.size _ _ rfl HO2.out (p, q, s) _ rfl rfl HB2.out.size HL.out ?_; intro v' w' ho hgr _; have HO3 := Lib.hid ho; have HB3 := Lib.hid (below_own (HB2.out.alloc HB2.out.size _) (World.ownsRow.alloc HO2.out _) (Nat.le_refl _) (by simp; have := HB2.out.size; omega) hgr))
                  go_roundw
                  case rel => exact ⟨k + 1, HK.out, by go_num, by rw [HF.out]; exact HO3.out, HB3.out⟩
                  case measure => have := HK.out; simp [intOf]; omega
                · have HF : Hid ((l1.take (k + 1)).filter (fun q => decide ((xa1 : Int) < q.2.1)) = ((l1.take k).filter fun q => decide ((xa1 : Int) < q.2.1))) := by
                    show _ = _
                    rw [HTK.out, List.filter_append, List.filter_cons, if_neg (by simpa using hq), List.filter_nil, List.append_nil]
                  clear HTK
                  go_upto_region 36 with fail
                  have f1 : (wr.alloc (.cells (pcs p q s) 32)).cell? ⟨wr.heap.size, 1, none⟩ = some (.int .u64 q) := (Blk.new wr _ _).cell 1
                  have HO2 : Hid (OwnQ (wr.alloc (.cells (pcs p q s) 32)) wq.heap.size u18 ((l1.take k).filter fun q => decide ((xa1 : Int) < q.2.1))) := World.ownsRow.alloc HO.out _
                  have HB2 := Lib.hid (HB.out.alloc HB.out.size (.cells (pcs p q s) 32))
                  clear HO HB e0 e1 e2
                  generalize wr.alloc (.cells (pcs p q s) 32) = w9 at *
                  generalize wr.heap.size = g9 at *
                  go_wp2_with fail
                  go_roundw
                  case rel => exact ⟨k + 1, HK.out, by go_num, by rw [HF.out]; exact HO2.out, HB2.out⟩
                  case measure => have := HK.out; simp [intOf]; omega
              · obtain rfl : k = l1.length := by omega
                rw [List.take_of_length_le (Nat.le_refl _)] at HO
                rw [← HSUB.out] at HO
                obtain ⟨vS, vd, rfl, hvr, _⟩ := own_rd HO.out
                have HBD := Lib.hid HB.out.drew
                have HRV := Lib.hid (show Rd wr.drew wr.drew.heap.size vS (pqs l2) from hvr)
                have HR2b := Lib.hid ((HR2.out.below HBD.out).mono HBD.out.size)
                have HH9 := Lib.hid (HHr.out.far L HBD.out)
                have HA9 := Lib.hid (HAr.out.below HBD.out HAr.out.lt)
                have HL2 : Hid (l2.length ≤ 4503599627370496) := Lib.hid (by have := congrArg List.length HSUB.out; have := List.length_filter_le (fun q : PtrV => decide ((xa1 : Int) < q.2.1)) l1; have := HLEN.out; omega)
                have hsz : (Try.prog.info? 53).map (·.size) = some (barr (stS P.m 1)).size := sizeArr' _
                have HST := Lib.hid (fun W => set_any (stS P.m 1) W)
                have HCL := Lib.hid (canon_len' (stS P.m 1))
                obtain ⟨gm, hmap⟩ := L.map HH9.out.at_
                have HMap := Lib.hid hmap
                clear hmap hvr hk hlt HO HB HSUB HLEN HR1 HR2 HHr HAr
                generalize barr (stS P.m 1) = arr at *
                generalize canon (stS P.m 1) = CS at *
                go_wp2_with fail
                refine wp_region_held_drew (S := (fun w' => Blk w' ga 53 arr)) (by kernel_rfl) HA9.out (fun hHeld => ?_)
                generalize wr.drew = w9 at *
                refine wpAnyH_take (i := 0) (v := (.pointer (some ⟨g, 0, none⟩))) rfl (by kernel_rfl) (by kernel_rfl) (by kernel_rfl) (fun _ _ _ h => h) (Or.inl ⟨by rfl, ?_⟩) (by assumption) ?_
                · intro w' hS; go_simp; try with_reducible rfl
                try simp [Act.put]
                refine wpAnyH_take (i := 3) (v := (.agg arr)) rfl (by kernel_rfl) (by kernel_rfl) (by kernel_rfl) (fun _ _ _ h => h) (Or.inl ⟨by rfl, ?_⟩) (by assumption) ?_
                · intro w' hS
                  exact ex_ldRow (.tmp 15) rfl ga arr rfl hsz hS
                try simp [Act.put]
                refine wpAnyH_ready (rs := [1]) (by kernel_rfl) (by simp) ?_
                refine AllReadyH.cons rfl (fun K hK => ?_) AllReadyH.nil
                go_simp
                refine Calls.mono HMap.out ?_
                rintro e wa ⟨rfl, hba, hcnt⟩
                have HC := Lib.hid (hcnt wa (Below.refl _ _)).2
                have HTa := Lib.hid hba
                refine hK.out _ _ (HA9.out.below hba HA9.out.lt) (fun hHeld2 => ?_)
                clear hK K HMap hcnt hba
                try simp
                clear hHeld
                have hHeld := hHeld2
                clear hHeld2
                refine wpAnyH_ready (rs := [2]) (by kernel_rfl) (by simp) ?_
                refine AllReadyH.cons rfl (fun K hK => ?_) AllReadyH.nil
                go_simp
                refine Calls.mono HC.out ?_
                rintro e wb ⟨At1, ct1, rfl, hrt, hbb⟩
                have HTb := Lib.hid (HTa.out.trans (hbb.mono HTa.out.size))
                have HRT := Lib.hid hrt
                refine hK.out _ _ (HA9.out.below HTb.out HA9.out.lt) (fun hHeld2 => ?_)
                clear hK K HC hbb hrt HTa
                try simp
                clear hHeld
                have hHeld := hHeld2
                clear hHeld2
                refine wpAnyH_ready (rs := [4]) (by kernel_rfl) (by simp) ?_
                refine AllReadyH.cons rfl (fun K hK => ?_) AllReadyH.nil
                go_simp
                refine Calls.mono (HST.out wb) ?_
                rintro e wd ⟨vt, rfl, hot, hbd⟩
                obtain ⟨At2, ct2, rfl, hrs, _⟩ := own_slice hot
                have HTd := Lib.hid (HTb.out.trans (hbd.mono HTb.out.size))
                have HSM := same_any At1 At2 ct1 ct2 CS CS wd ((HRT.out.below hbd).mono hbd.size) hrs HCL.out
                rw [decide_eq_true (rfl : CS = CS)] at HSM
                have HSMM := Lib.hid HSM
                refine hK.out _ _ (HA9.out.below HTd.out HA9.out.lt) (fun hHeld2 => ?_)
                clear hK K HST hbd hot hrs HRT HTb HSM
                try simp
                clear hHeld
                have hHeld := hHeld2
                clear hHeld2
                refine wpAnyH_ready (rs := [5]) (by kernel_rfl) (by simp) ?_
                refine AllReadyH.cons rfl (fun K hK => ?_) AllReadyH.nil
                go_simp
                refine Calls.mono HSMM.out ?_
                rintro e we ⟨rfl, hbe⟩
                have HTe := Lib.hid (HTd.out.trans (hbe.mono HTd.out.size))
                have HQS := qsame_any B2 vS d2 vd l2 l2 we ((HR2b.out.below HTe.out).mono HTe.out.size) ((HRV.out.below HTe.out).mono HTe.out.size) HL2.out
                rw [decide_eq_true (rfl : l2 = l2)] at HQS
                have HQSS := Lib.hid HQS
                refine hK.out _ _ (HA9.out.below HTe.out HA9.out.lt) (fun hHeld2 => ?_)
                clear hK K hbe HTd HSMM HQS
                try simp
                clear hHeld
                have hHeld := hHeld2
                clear hHeld2
                refine wpAnyH_take (i := 6) (v := (.bool true)) rfl (by kernel_rfl) (by kernel_rfl) (by kernel_rfl) (fun _ _ _ h => h) (Or.inl ⟨by rfl, ?_⟩) (by assumption) ?_
                · intro w' hS; go_simp; try with_reducible rfl
                try simp [Act.put]
                refine wpAnyH_take (i := 7) (v := (.slice B2 l2.length d2)) rfl (by kernel_rfl) (by kernel_rfl) (by kernel_rfl) (fun _ _ _ h => h) (Or.inl ⟨by rfl, ?_⟩) (by assumption) ?_
                · intro w' hS; go_simp; try with_reducible rfl
                try simp [Act.put]
                refine wpAnyH_take (i := 8) (v := (.slice vS l2.length vd)) rfl (by kernel_rfl) (by kernel_rfl) (by kernel_rfl) (fun _ _ _ h => h) (Or.inl ⟨by rfl, ?_⟩) (by assumption) ?_
                · intro w' hS; go_simp; try with_reducible rfl
                try simp [Act.put]
                refine wpAnyH_ready (rs := [9]) (by kernel_rfl) (by simp) ?_
                refine AllReadyH.cons rfl (fun K hK => ?_) AllReadyH.nil
                go_simp
                refine Calls.mono HQSS.out ?_
                rintro e wf ⟨rfl, hbf⟩
                have HTf := Lib.hid (HTe.out.trans (hbf.mono HTe.out.size))
                have HZ := Lib.hid (HH9.out.far L HTf.out).below
                refine hK.out _ _ (HA9.out.below HTf.out HA9.out.lt) (fun hHeld2 => ?_)
                clear hK K hbf HTe HQSS
                try simp
                clear hHeld
                have hHeld := hHeld2
                clear hHeld2
                refine wpAnyH_take (i := 10) (v := (.bool true)) rfl (by kernel_rfl) (by kernel_rfl) (by kernel_rfl) (fun _ _ _ h => h) (Or.inl ⟨by rfl, ?_⟩) (by assumption) ?_
                · intro w' hS; go_simp; try with_reducible rfl
                try simp [Act.put]
                refine wpAnyH_take (i := 11) (v := (.bool true)) rfl (by kernel_rfl) (by kernel_rfl) (by kernel_rfl) (fun _ _ _ h => h) (Or.inl ⟨by rfl, ?_⟩) (by assumption) ?_
                · intro w' hS; go_simp; try with_reducible rfl
                try simp [Act.put]
                refine wpAnyH_done (by kernel_rfl) ?_ _
                clear hHeld
                go_wp2_with fail
                go_ret
                exact ⟨rfl, HZ.out⟩
  · have h30i : (40 : Int) < l0.length := by omega
    clear hR0 hK0 h30
    go_enter Try.func5, Try.ntmps5
    go_wp2_with (go_at_call 10; (with_reducible refine Calls.mono HT.out ?_); rintro e w1 ⟨rfl, hb1⟩; have HB1 := Lib.hid hb1; clear hb1 HT)
    go_ret
    exact ⟨rfl, HB1.out⟩
end
end Go.Proofs.Ytagkhicbngaghaa
