/- The laws on trees, walked over the calls' contracts: TreeTrims. -/
import Derived.Test.YtagkhicbngaghaaT12
set_option maxRecDepth 10000
namespace Go.Proofs.Ytagkhicbngaghaa
open Go.RowKit

/-! ### All are trimmed, in whatever order -/
def Rest8 (B : List Nat) (c k : Nat) (S : Nat → P8) : Prop := ∀ i, i < 64 → blkQ S i ≠ hole0 → ∃ j, j < B.length ∧ B.getD j 0 = i ∧ ∀ t, t < k → (c + t) % B.length ≠ j
theorem left_zero (c : Nat) (S : Nat → P8) : Rest8 (blkL S) c 0 S := fun i hi h => by
  obtain ⟨j, hj, e⟩ := List.getElem_of_mem (blk_in hi h)
  exact ⟨j, hj, by rw [← e]; simp [List.getD, hj], fun t ht => by omega⟩
theorem left_next {B : List Nat} {c k : Nat} {S S' : Nat → P8} (h : Rest8 B c k S) (hS : ∀ j, blkQ S' j = if j = B.getD ((c + k) % B.length) 0 then hole0 else blkQ S j) : Rest8 B c (k + 1) S' := fun i hi hb => by
  rw [hS i] at hb
  split at hb
  · exact absurd rfl hb
  · next hne =>
    obtain ⟨j, h1, h2, h3⟩ := h i hi hb
    refine ⟨j, h1, h2, fun t ht e => ?_⟩
    by_cases htk : t = k
    · subst htk
      rw [e] at hne
      exact hne h2.symm
    · exact h3 t (by omega) e
theorem left_none {B : List Nat} {c : Nat} {S : Nat → P8} (h : Rest8 B c B.length S) : ∀ i, i < 64 → blkQ S i = hole0 := fun i hi => by
  by_cases hb : blkQ S i = hole0
  · exact hb
  · obtain ⟨j, h1, _, h3⟩ := h i hi hb
    have hr : c % B.length < B.length := Nat.mod_lt _ (by omega)
    by_cases hj : c % B.length ≤ j
    · refine absurd ?_ (h3 (j - c % B.length) (by omega))
      rw [Nat.add_mod, Nat.mod_eq_of_lt (show j - c % B.length < B.length by omega), show c % B.length + (j - c % B.length) = j by omega, Nat.mod_eq_of_lt h1]
    · refine absurd ?_ (h3 (j + B.length - c % B.length) (by omega))
      rw [Nat.add_mod, Nat.mod_eq_of_lt (show j + B.length - c % B.length < B.length by omega), show c % B.length + (j + B.length - c % B.length) = j + B.length by omega, Nat.add_mod_right, Nat.mod_eq_of_lt h1]
/-- What a block trimmed leaves. -/
structure Cut8 (At : World → (Nat → Prop) → Nat → Pw → Prop) (n : Nat) (w w' : World) (O O' : Nat → Prop) (g : Nat) (P P' : Pw) (root' : PtrV) (S : Nat → P8) (old k : List PtrV) (i : Nat) : Prop where
  at_ : At w' O' g P'
  step : Step w w' O O'
  good : ∃ F' S' T', Good n P' root' F' S' T' (old ++ k) ∧ ∀ j, blkQ S' j = if j = i then hole0 else blkQ S j
  N : P'.N ≤ P.N + 2
  cnt : P.m.count ≤ P'.m.count + 2
  len : k.length ≤ 3
theorem trim_block {At : World → (Nat → Prop) → Nat → Pw → Prop} {n : Nat} {w : World} {O : Nat → Prop} {g : Nat} {P : Pw} {root : PtrV} {F : P8} {S : Nat → P8} {T : Nat → Sec} {old : List PtrV}
    (L : TreeCalls At) (h : Good n P root F S T old) (ha : At w O g P) (hN : P.N ≤ 900000) (hc : 2 ≤ P.m.count) (i : Nat) (hi : i < 64) :
    Calls Try.prog 11 #[.pointer (some ⟨g, 0, none⟩), ptq root, .int .i64 (i : Int)] w fun e w' => ∃ O' P' root' k B d, e = .returned (.tuple #[ptq root', .slice B k.length d, .int .i64 0]) ∧ Cut8 At n w w' O O' g P P' root' S old k i := by
  obtain ⟨hn, F', S', k1, k2, k3, k4, k5, _, k7⟩ := h.trim hi hc
  refine (L.trim i hi ha h.ok h.tree hn hN).mono ?_
  rintro e w' ⟨O', B, d, rfl, h1, _, h3⟩
  refine ⟨O', _, _, _, B, d, rfl, h1, h3, ⟨F', S', _, k1, k7⟩, k4, k5, ?_⟩
  unfold trimO
  split
  · simp
  · exact old_len F S root i
/-- What stands while blocks are trimmed. -/
structure TS2 (At : World → (Nat → Prop) → Nat → Pw → Prop) (w wr : World) (O : Nat → Prop) (g gr : Nat) (P : Pw) (ra rb rc : Int) (F : P8) (S : Nat → P8) (T : Nat → Sec) (old : List PtrV) (k : Nat) (L0 : List Nat) (c : Nat) (B : Option Addr) : Prop where
  has : HasT At w wr O g P
  good : Good 396 P (ra, rb, rc) F S T old
  box : BlkA wr O gr 32 (pcs ra rb rc)
  lo : w.heap.size ≤ gr
  row : RdA wr O B (ints (natI64 L0))
  far : ∀ b off, B = some ⟨b, off, none⟩ → 0 < L0.length → gr < b
  left : Rest8 L0 c k S
  cnt : P.m.count + 75 + 2 * k ≥ 396
  N : P.N ≤ 75 + 2 * k
  len : old.length ≤ 75 + 3 * k
section
variable {At : World → (Nat → Prop) → Nat → Pw → Prop} {w wr W W3 : World} {O O' : Nat → Prop} {g gr g11 : Nat} {P P' : Pw} {ra rb rc ra' rb' rc' : Int} {F : P8} {S : Nat → P8} {T : Nat → Sec} {old kk : List PtrV} {k c : Nat} {L0 : List Nat} {B : Option Addr}
theorem TS2.later (L : TreeCalls At) (h : TS2 At w wr O g gr P ra rb rc F S T old k L0 c B) (hb : Below wr.heap.size wr W) : TS2 At w W O g gr P ra rb rc F S T old k L0 c B :=
  ⟨h.has.far L hb, h.good, h.box.later hb, h.lo, h.row.far hb, h.far, h.left, h.cnt, h.N, h.len⟩
theorem TS2.done (L : TreeCalls At) (h : TS2 At w wr O g gr P ra rb rc F S T old k L0 c B) (cu : Cut8 At 396 wr W O O' g P P' (ra', rb', rc') S old kk (L0.getD ((c + k) % L0.length) 0)) (hch : Chg W W3 (fun j => j = g11 ∨ j = gr)) (h11 : ¬ O' g11) (lo11 : w.heap.size ≤ g11) (hB : ∀ b off, B = some ⟨b, off, none⟩ → 0 < L0.length → b ≠ g11) (hbox : Blk W3 gr 32 (pcs ra' rb' rc')) :
    ∃ F' S' T', TS2 At w W3 O' g gr P' ra' rb' rc' F' S' T' (old ++ kk) (k + 1) L0 c B := by
  obtain ⟨F', S', T', k1, k2⟩ := cu.good
  have hs := h.has.step cu.at_ cu.step
  have hgr := (h.box.step cu.step).far
  have hrow := h.row.step cu.step
  refine ⟨F', S', T', ⟨L.stay hs.at_ hch fun j hj hx => ?_, hs.lo, hs.below.trans (hch.below (fun j hj => ?_) hs.below.size)⟩, k1, ⟨hbox, hgr⟩, h.lo, ⟨fun hn => ?_, hrow.apart⟩, h.far, left_next h.left k2, by have := h.cnt; have := cu.cnt; omega, by have := h.N; have := cu.N; omega, by rw [List.length_append]; have := h.len; have := cu.len; omega⟩
  · rcases hx with rfl | rfl
    · exact h11 hj
    · exact hgr hj
  · rcases hj with rfl | rfl
    · exact lo11
    · exact h.lo
  · obtain ⟨b, off, e, hl, hcell⟩ := hrow.rd hn
    have hp : 0 < L0.length := by simpa [ints, natI64] using hn
    have hf := h.far b off e hp
    have hb := hB b off e hp
    exact ⟨b, off, e, Nat.lt_of_lt_of_le hl hch.size, fun j v hv => (hch.cell hl (by rintro (h1 | h1) <;> omega) _).trans (hcell j v hv)⟩
end
section
variable {At : World → (Nat → Prop) → Nat → Pw → Prop}
set_option maxHeartbeats 8000000 in
theorem treeTrims_any (L : TreeCalls At) (w : World) (A0 : Option Addr) (c0 : Nat) (l0 : List TAct) (hR0 : Rd w w.heap.size A0 (flatT l0)) (hK0 : DataOk w w.heap.size l0) (x1 : Int) (hx1 : I64 x1) :
    Calls Try.prog 6 #[.slice A0 l0.length c0, .int .i64 x1] w fun e w' => e = .returned (.bool true) ∧ Below w.heap.size w w' := by
  have HT := Lib.hid (treeAlive_any L w)
  by_cases hx0 : x1 < 0
  · clear hR0 hK0
    by_cases h30i : (25 : Int) < l0.length
    all_goals
      go_enter Try.func6, Try.ntmps6
      go_wp2_with (go_at_call 10; (with_reducible refine Calls.mono HT.out ?_); rintro e w1 ⟨rfl, hb1⟩; have HB1 := Lib.hid hb1; clear hb1 HT)
      go_ret
      exact ⟨rfl, HB1.out⟩
  obtain ⟨f, rfl⟩ := Int.eq_ofNat_of_zero_le (show 0 ≤ x1 by omega)
  by_cases h30 : l0.length ≤ 25
  · have h30i : ¬ (25 : Int) < l0.length := by omega
    have hfi : (f : Int) ≤ 9223372036854775807 := hx1.2
    have h30j : (l0.length : Int) ≤ 25 := by omega
    have H30 := Lib.hid h30
    have HR0 := Lib.hid hR0
    have HK0 := Lib.hid hK0
    have HM := Lib.hid (fun W => L.made 400 W (by omega))
    have hz := zeroPtr
    have hzt := zeroTA
    clear hR0 hK0 h30
    go_enter Try.func6, Try.ntmps6
    go_upto_region 7 with (first
      | (go_at_call 10; (with_reducible refine Calls.mono HT.out ?_); rintro e w1 ⟨rfl, hb1⟩; have HB1 := Lib.hid hb1; clear hb1 HT)
      | (go_at_call 9; (with_reducible refine Calls.mono (HM.out _) ?_); rintro e w2 ⟨O2, g, rfl, h2, hO2, hb2⟩; have HM2 := Lib.hid (HasT.first HB1.out h2 hO2 hb2); clear HM HB1 h2 hO2 hb2))
    have HS0 : Hid (SL At 396 w (w2.alloc (.cells (pcs 0 0 0) 32)) O2 g w2.heap.size (newPw (400 : Nat)) 0 0 0 [] 0) :=
      ⟨HM2.out.far L (below_al _ _), ⟨_, _, _, good_zero 400 (by omega) (by omega)⟩, ⟨Blk.new _ _ _, foot_ne L HM2.out.at_⟩, HM2.out.below.size, Nat.le_refl _, Nat.le_refl _, by have := count_new (400 : Nat); have e : (newMp ((400 : Nat) : Int)).tot = 400 := rfl; show (newMp ((400 : Nat) : Int)).count + 3 * 0 ≥ 396; omega, rfl⟩
    clear HM2
    generalize w2.alloc (.cells (pcs 0 0 0) 32) = w3 at *
    generalize w2.heap.size = gr at *
    go_wp2_with fail
    go_loopw [34, 7] (fun i v wr => ∃ (k : Nat) (O : Nat → Prop) (P : Pw) (ra rb rc : Int) (old : List PtrV), k ≤ l0.length ∧ i = .int .i64 (k : Int) ∧ SL At 396 w wr O g gr P ra rb rc old k ∧ v = .int .i64 (old.length : Int) ∧ old.length ≤ 3 * k) (fun i _ _ => l0.length - (intOf i).toNat)
    case atStart => exact ⟨0, _, _, _, _, _, _, Nat.zero_le _, rfl, HS0.out, rfl, Nat.le_refl _⟩
    case round =>
      clear HS0
      obtain ⟨k, O, P, ra, rb, rc, old, hk, rfl, hSL, rfl, hol⟩ := hrel
      have HOL := Lib.hid hol
      clear hol
      have HSL0 := Lib.hid hSL
      clear hSL
      by_cases hlt : k < l0.length
      · have hki : (k : Int) < l0.length := by omega
        obtain ⟨b, off, rfl, hbl, hr⟩ := rd_tact HR0.out k hlt
        have HRT : Hid (wr.rangeAt b (off + k * 3) l0[k].cs) := fun j v hj => (HSL0.out.has.below.cell (p := ⟨b, off + k * 3 + j, none⟩) hbl).trans (hr j v hj)
        have HDK := Lib.hid (HK0.out _ (List.getElem_mem hlt))
        have HK := Lib.hid (show k < l0.length ∧ l0.length ≤ 25 from ⟨hlt, H30.out⟩)
        generalize l0[k] = x at *
        obtain ⟨xk, xn, xl, xa, xc, xhk, xhn⟩ := x
        clear hr hbl hlt hk
        go_upto_region 11 with (first
          | (with_reducible refine ld_ta rfl _ rfl b (off + k * 3) ⟨xk, xn, xl, xa, xc, xhk, xhn⟩ rfl HRT.out ?_)
          | (with_reducible refine st_ta rfl _ _ rfl wr.heap.size 0 ⟨xk, xn, xl, xa, xc, xhk, xhn⟩ rfl rfl (Blk.taHas (Blk.new wr _ _)) ?_; intro w4 hw4))
        have HSL4 := Lib.hid (HSL0.out.later L (new_ta hw4.out).2)
        have HT4 := Lib.hid (new_ta hw4.out).1
        have HG10 := Lib.hid (foot_ne L HSL0.out.has.at_)
        clear hw4 HSL0 HRT
        generalize wr.heap.size = g10 at *
        have HSL : Hid (SL At 396 w w4.drew O g gr P ra rb rc old k) := HSL4.out.later L (Below.refl _ _).drew
        have HS6 : Hid (Blk w4.drew gr 32 (pcs ra rb rc) ∧ Blk w4.drew g10 41 (TAct.cs ⟨xk, xn, xl, xa, xc, xhk, xhn⟩).toArray) := ⟨HSL.out.box.blk, HT4.out.below (Below.refl _ _).drew HT4.out.lt⟩
        have HD : Hid (Rd w4.drew w4.drew.heap.size xa (bys xl)) := (HDK.out.1.below HSL.out.has.below).mono HSL.out.has.below.size
        have HDL : Hid (xl.length ≤ 140737488355328) := Nat.le_trans HDK.out.2 (by omega)
        have HFO : Hid (∀ j, O j → j < w4.drew.heap.size) := fun j hj => L.foot HSL.out.has.at_ j hj
        clear HSL4 HT4 HDK
        refine wp_region_held_drew (S := (fun w' => Blk w' gr 32 (pcs ra rb rc) ∧ Blk w' g10 41 (TAct.cs ⟨xk, xn, xl, xa, xc, xhk, xhn⟩).toArray)) (by kernel_rfl) HS6.out (fun hHeld => ?_)
        generalize w4.drew = w6 at *
        have SET := Lib.hid (fun W (hb : Below w6.heap.size w6 W) A c (hr : RdA W O A (bys xl)) (hlc : xl.length ≤ c) => by
          obtain ⟨F, S, T, hg⟩ := HSL.out.good
          exact set_whatever L hg (HSL.out.later L hb).has.at_ (by have := HSL.out.N; have := HK.out; omega) (by have := HSL.out.cnt; have := HK.out; omega) xn xhn A c xl hr hlc HDL.out)
        have HB : Hid (Below w6.heap.size w6 w6) := Below.refl _ _
        have HLr := Lib.hid HS6.out.1.lt
        have HLt := Lib.hid HS6.out.2.lt
        have HLO := Lib.hid HSL.out.has.below.size
        generalize hbs : w6.heap.size = bs at *
        have HBS := Lib.hid (HSz.mk hbs)
        clear hbs
        refine wpAnyH_take (i := 0) (v := (.pointer (some ⟨g, 0, none⟩))) rfl (by kernel_rfl) (by kernel_rfl) (by kernel_rfl) (fun _ _ _ h => h) (Or.inl ⟨by rfl, ?_⟩) (by assumption) ?_
        · intro w' hS; go_simp; try with_reducible rfl
        try simp [Act.put]
        refine wpAnyH_take (i := 1) (v := (ptq (ra, rb, rc))) rfl (by kernel_rfl) (by kernel_rfl) (by kernel_rfl) (fun _ _ _ h => h) (Or.inl ⟨by rfl, ?_⟩) (by assumption) ?_
        · intro w' hS
          exact ex_ldP (.tmp 6) rfl gr ra rb rc rfl hS.1
        try simp [Act.put]
        refine wpAnyH_take (i := 2) (v := (.pointer (some ⟨g10, 1, none⟩))) rfl (by kernel_rfl) (by kernel_rfl) (by kernel_rfl) (fun _ _ _ h => h) (Or.inl ⟨by rfl, ?_⟩) (by assumption) ?_
        · intro w' hS; go_simp; try with_reducible rfl
        try simp [Act.put]
        refine wpAnyH_take (i := 3) (v := (.int .i64 xn)) rfl (by kernel_rfl) (by kernel_rfl) (by kernel_rfl) (fun _ _ _ h => h) (Or.inl ⟨by rfl, ?_⟩) (by assumption) ?_
        · intro w' hS
          have hcc := hS.2.taF.2.1
          go_simp; try with_reducible rfl
        try simp [Act.put]
        refine wpAnyH_take (i := 5) (v := (.pointer (some ⟨g10, 2, none⟩))) rfl (by kernel_rfl) (by kernel_rfl) (by kernel_rfl) (fun _ _ _ h => h) (Or.inl ⟨by rfl, ?_⟩) (by assumption) ?_
        · intro w' hS; go_simp; try with_reducible rfl
        try simp [Act.put]
        refine wpAnyH_take (i := 6) (v := (.slice xa xl.length xc)) rfl (by kernel_rfl) (by kernel_rfl) (by kernel_rfl) (fun _ _ _ h => h) (Or.inl ⟨by rfl, ?_⟩) (by assumption) ?_
        · intro w' hS
          have hcc := hS.2.taF.2.2
          go_simp; try with_reducible rfl
        try simp [Act.put]
        refine wpAnyH_ready (rs := [4, 13]) (by kernel_rfl) (by simp) ?_
        refine (AllReadyH.cons rfl (fun K hK => ?_) (AllReadyH.cons rfl (fun K hK => ?_) AllReadyH.nil))
        · skip
          go_simp
          have HBn := Lib.hid (HB.out.alloc (bsz HBS.out HB.out) (.cells #[] 5))
          have HE := Lib.hid (ownB_nil w6 bs (bsz HBS.out HB.out))
          refine hK.out _ _ ⟨HS6.out.1.below HBn.out HLr.out, HS6.out.2.below HBn.out HLt.out⟩ (fun hHeld2 => ?_)
          clear hK K HB
          have HB := HBn
          clear HBn
          generalize w6.alloc (.cells #[] 5) = wb0 at *
          generalize w6.heap.size = gE at *
          try simp
          clear hHeld
          have hHeld := hHeld2
          clear hHeld2
          refine wpAnyH_ready (rs := [7, 13]) (by kernel_rfl) (by simp) ?_
          refine (AllReadyH.cons rfl (fun K hK => ?_) (AllReadyH.cons rfl (fun K hK => ?_) AllReadyH.nil))
          · skip
            refine step_copyB rfl 43 45 rfl bs gE rfl HE.out _ xa xl.length xc xl rfl rfl (HD.out.below HB.out) HDL.out (bsz HBS.out HB.out) ?_
            intro A7 c7 wl1 hown hc7 hgr
            have HBn := Lib.hid (below_own HB.out HE.out (Nat.le_refl _) (bsz HBS.out HB.out) hgr)
            have HL := Lib.hid hown
            have HL7 := Lib.hid hc7
            refine hK.out _ _ ⟨HS6.out.1.below HBn.out HLr.out, HS6.out.2.below HBn.out HLt.out⟩ (fun hHeld2 => ?_)
            clear hK K hown hc7 hgr HB HE
            have HB := HBn
            clear HBn
            skip
            try simp
            clear hHeld
            have hHeld := hHeld2
            clear hHeld2
            refine wpAnyH_ready (rs := [8, 13]) (by kernel_rfl) (by simp) ?_
            refine (AllReadyH.cons rfl (fun K hK => ?_) (AllReadyH.cons rfl (fun K hK => ?_) AllReadyH.nil))
            · skip
              go_simp
              refine Calls.mono (SET.out wl1 HB.out A7 c7 (own_rdA HL.out HFO.out) HL7.out) ?_
              rintro e ws2 ⟨O2, P2, ⟨ra2, rb2, rc2⟩, kk, B2, d2, code, rfl, hch⟩
              have HC := Lib.hid hch
              have HSw := Lib.hid (HSL.out.later L (bsub HBS.out HB.out))
              have HSs : Hid (Blk ws2 gr 32 (pcs ra rb rc) ∧ Blk ws2 g10 41 (TAct.cs ⟨xk, xn, xl, xa, xc, xhk, xhn⟩).toArray) := ⟨(HSw.out.box.step hch.step).blk, (HS6.out.2.below HB.out HLt.out).chg hch.step.chg HG10.out⟩
              refine hK.out _ _ HSs.out (fun hHeld2 => ?_)
              clear hK K hch SET HL HL7
              skip
              try simp
              clear hHeld
              have hHeld := hHeld2
              clear hHeld2
              refine wpAnyH_take (i := 9) (v := (.tuple #[ptq (ra2, rb2, rc2), .slice B2 kk.length d2, .int .i64 code])) rfl (by kernel_rfl) (by kernel_rfl) (by kernel_rfl) (fun _ _ _ h => h) (Or.inl ⟨by rfl, ?_⟩) (by assumption) ?_
              · intro w' hS; go_simp; try with_reducible rfl
              try simp [Act.put]
              refine wpAnyH_take (i := 10) (v := (ptq (ra2, rb2, rc2))) rfl (by kernel_rfl) (by kernel_rfl) (by kernel_rfl) (fun _ _ _ h => h) (Or.inl ⟨by rfl, ?_⟩) (by assumption) ?_
              · intro w' hS; go_simp; try with_reducible rfl
              try simp [Act.put]
              refine wpAnyH_take (i := 11) (v := (.slice B2 kk.length d2)) rfl (by kernel_rfl) (by kernel_rfl) (by kernel_rfl) (fun _ _ _ h => h) (Or.inl ⟨by rfl, ?_⟩) (by assumption) ?_
              · intro w' hS; go_simp; try with_reducible rfl
              try simp [Act.put]
              refine wpAnyH_take (i := 12) (v := (.int .i64 code)) rfl (by kernel_rfl) (by kernel_rfl) (by kernel_rfl) (fun _ _ _ h => h) (Or.inl ⟨by rfl, ?_⟩) (by assumption) ?_
              · intro w' hS; go_simp; try with_reducible rfl
              try simp [Act.put]
              refine wpAnyH_ready (rs := [13]) (by kernel_rfl) (by simp) ?_
              refine (AllReadyH.cons rfl (fun K hK => ?_) AllReadyH.nil)
              go_simp
              have HAn : Hid (Blk (ws2.alloc (.cells (pcs 0 0 0) 32)) ws2.heap.size 32 (pcs 0 0 0) ∧ bs ≤ ws2.heap.size ∧ ¬ O2 ws2.heap.size) := Lib.hid (And.intro (Blk.new ws2 _ _) (And.intro (Nat.le_trans (bsz HBS.out HB.out) HC.out.step.chg.size) (foot_ne L HC.out.at_)))
              have HSn : Hid (Blk (ws2.alloc (.cells (pcs 0 0 0) 32)) gr 32 (pcs ra rb rc) ∧ Blk (ws2.alloc (.cells (pcs 0 0 0) 32)) g10 41 (TAct.cs ⟨xk, xn, xl, xa, xc, xhk, xhn⟩).toArray) := ⟨HSs.out.1.below (below_al ws2 _) HSs.out.1.lt, HSs.out.2.below (below_al ws2 _) HSs.out.2.lt⟩
              have HX := Lib.hid (show Chg ws2 (ws2.alloc (.cells (pcs 0 0 0) 32)) (fun j => j = ws2.heap.size ∨ j = gr) from (Chg.refl _ _).alloc _)
              refine hK.out _ _ HSn.out (fun hHeld2 => ?_)
              clear hK K HSs
              have HA := HAn
              have HSs := HSn
              clear HAn HSn
              generalize ws2.alloc (.cells (pcs 0 0 0) 32) = wa3 at *
              generalize ws2.heap.size = g11 at *
              try simp
              clear hHeld
              have hHeld := hHeld2
              clear hHeld2
              refine wpAnyH_ready (rs := [14]) (by kernel_rfl) (by simp) ?_
              refine AllReadyH.cons rfl (fun K hK => ?_) AllReadyH.nil
              refine step_stPt rfl (.tmp 10) (.tmp 48) rfl g11 ra2 rb2 rc2 0 0 0 rfl rfl HA.out.1 ?_
              intro w8 hb8 _ hc8
              have hoi : (old.length : Int) ≤ 1000 := by have := HOL.out; have := HK.out; omega
              have hki2 : (kk.length : Int) ≤ 3 := by have := HC.out.len; omega
              have HNr : Hid (gr ≠ g11) := Lib.hid (by have := HLr.out; have := HA.out.2.1; omega)
              have HNt : Hid (g10 ≠ g11) := Lib.hid (by have := HLt.out; have := HA.out.2.1; omega)
              have HS8 : Hid (Blk w8 gr 32 (pcs ra rb rc) ∧ Blk w8 g10 41 (TAct.cs ⟨xk, xn, xl, xa, xc, xhk, xhn⟩).toArray) := ⟨HSs.out.1.chg (hc8 (· = g11) rfl) HNr.out, HSs.out.2.chg (hc8 (· = g11) rfl) HNt.out⟩
              have HX8 := Lib.hid (HX.out.trans (hc8 (fun j => j = g11 ∨ j = gr) (.inl rfl)) fun _ _ h => h)
              have HB8 := Lib.hid hb8
              refine hK.out _ _ HS8.out (fun hHeld2 => ?_)
              clear hK K HSs HX hc8 hb8
              try simp
              clear hHeld
              have hHeld := hHeld2
              clear hHeld2
              refine wpAnyH_take (i := 15) (v := (.slice B2 kk.length d2)) rfl (by kernel_rfl) (by kernel_rfl) (by kernel_rfl) (fun _ _ _ h => h) (Or.inl ⟨by rfl, ?_⟩) (by assumption) ?_
              · intro w' hS; go_simp; try with_reducible rfl
              try simp [Act.put]
              refine wpAnyH_take (i := 16) (v := (.int .i64 code)) rfl (by kernel_rfl) (by kernel_rfl) (by kernel_rfl) (fun _ _ _ h => h) (Or.inl ⟨by rfl, ?_⟩) (by assumption) ?_
              · intro w' hS; go_simp; try with_reducible rfl
              try simp [Act.put]
              refine wpAnyH_done (by kernel_rfl) ?_ _
              clear hHeld
              go_wp2_with (first
                | (refine ld_ptr rfl (.tmp 10) rfl g11 32 ra2 rb2 rc2 rfl HB8.out ?_)
                | (refine st_pt2 rfl (.tmp 6) (.tmp 51) rfl gr _ ra2 rb2 rc2 rfl rfl HS8.out.1 rfl ?_; intro w9 hb9 hc9; have HX9 := Lib.hid (HX8.out.trans (hc9 (fun j => j = g11 ∨ j = gr) (.inr rfl)) fun _ _ h => h); have HB9 := Lib.hid hb9; clear hb9 hc9))
              go_roundw
              case rel => exact ⟨k + 1, _, _, _, _, _, old ++ kk, HK.out.1, by go_num, HSw.out.done L HC.out HX9.out HA.out.2.2 (Nat.le_trans HLO.out HA.out.2.1) HB9.out, by rw [List.length_append]; go_num, by rw [List.length_append]; have := HOL.out; have := HC.out.len; omega⟩
              case measure => have := HK.out; simp [intOf]; omega
            · skip
              go_simp
              have HBn := Lib.hid (HB.out.alloc (bsz HBS.out HB.out) (.cells (pcs 0 0 0) 32))
              have HA : Hid (Blk (wl1.alloc (.cells (pcs 0 0 0) 32)) wl1.heap.size 32 (pcs 0 0 0) ∧ bs ≤ wl1.heap.size) := Lib.hid (And.intro (Blk.new wl1 _ _) (bsz HBS.out HB.out))
              have HLn := Lib.hid (own_far HL.out (below_al wl1 (.cells (pcs 0 0 0) 32)))
              refine hK.out _ _ ⟨HS6.out.1.below HBn.out HLr.out, HS6.out.2.below HBn.out HLt.out⟩ (fun hHeld2 => ?_)
              clear hK K HB HL
              have HB := HBn
              clear HBn
              have HL := HLn
              clear HLn
              generalize wl1.alloc (.cells (pcs 0 0 0) 32) = wa2 at *
              generalize wl1.heap.size = g11 at *
              try simp
              clear hHeld
              have hHeld := hHeld2
              clear hHeld2
              refine wpAnyH_ready (rs := [8]) (by kernel_rfl) (by simp) ?_
              refine (AllReadyH.cons rfl (fun K hK => ?_) AllReadyH.nil)
              go_simp
              refine Calls.mono (SET.out wa2 HB.out A7 c7 (own_rdA HL.out HFO.out) HL7.out) ?_
              rintro e ws3 ⟨O2, P2, ⟨ra2, rb2, rc2⟩, kk, B2, d2, code, rfl, hch⟩
              have HC := Lib.hid hch
              have HSw := Lib.hid (HSL.out.later L (bsub HBS.out HB.out))
              have HSs : Hid (Blk ws3 gr 32 (pcs ra rb rc) ∧ Blk ws3 g10 41 (TAct.cs ⟨xk, xn, xl, xa, xc, xhk, xhn⟩).toArray) := ⟨(HSw.out.box.step hch.step).blk, (HS6.out.2.below HB.out HLt.out).chg hch.step.chg HG10.out⟩
              have HAn : Hid (Blk ws3 g11 32 (pcs 0 0 0) ∧ bs ≤ g11 ∧ ¬ O2 g11) := by
                obtain ⟨a1, a2⟩ := HA.out.1.aside (fun ho => by have := HFO.out _ ho; have := HA.out.2; omega) hch.step
                exact ⟨a1, HA.out.2, a2⟩
              have HX := Lib.hid (show Chg ws3 ws3 (fun j => j = g11 ∨ j = gr) from Chg.refl _ _)
              refine hK.out _ _ HSs.out (fun hHeld2 => ?_)
              clear hK K hch SET HL HL7 HA
              have HA := HAn
              clear HAn
              try simp
              clear hHeld
              have hHeld := hHeld2
              clear hHeld2
              refine wpAnyH_take (i := 9) (v := (.tuple #[ptq (ra2, rb2, rc2), .slice B2 kk.length d2, .int .i64 code])) rfl (by kernel_rfl) (by kernel_rfl) (by kernel_rfl) (fun _ _ _ h => h) (Or.inl ⟨by rfl, ?_⟩) (by assumption) ?_
              · intro w' hS; go_simp; try with_reducible rfl
              try simp [Act.put]
              refine wpAnyH_take (i := 10) (v := (ptq (ra2, rb2, rc2))) rfl (by kernel_rfl) (by kernel_rfl) (by kernel_rfl) (fun _ _ _ h => h) (Or.inl ⟨by rfl, ?_⟩) (by assumption) ?_
              · intro w' hS; go_simp; try with_reducible rfl
              try simp [Act.put]
              refine wpAnyH_take (i := 11) (v := (.slice B2 kk.length d2)) rfl (by kernel_rfl) (by kernel_rfl) (by kernel_rfl) (fun _ _ _ h => h) (Or.inl ⟨by rfl, ?_⟩) (by assumption) ?_
              · intro w' hS; go_simp; try with_reducible rfl
              try simp [Act.put]
              refine wpAnyH_take (i := 12) (v := (.int .i64 code)) rfl (by kernel_rfl) (by kernel_rfl) (by kernel_rfl) (fun _ _ _ h => h) (Or.inl ⟨by rfl, ?_⟩) (by assumption) ?_
              · intro w' hS; go_simp; try with_reducible rfl
              try simp [Act.put]
              refine wpAnyH_ready (rs := [14]) (by kernel_rfl) (by simp) ?_
              refine AllReadyH.cons rfl (fun K hK => ?_) AllReadyH.nil
              refine step_stPt rfl (.tmp 10) (.tmp 48) rfl g11 ra2 rb2 rc2 0 0 0 rfl rfl HA.out.1 ?_
              intro w8 hb8 _ hc8
              have hoi : (old.length : Int) ≤ 1000 := by have := HOL.out; have := HK.out; omega
              have hki2 : (kk.length : Int) ≤ 3 := by have := HC.out.len; omega
              have HNr : Hid (gr ≠ g11) := Lib.hid (by have := HLr.out; have := HA.out.2.1; omega)
              have HNt : Hid (g10 ≠ g11) := Lib.hid (by have := HLt.out; have := HA.out.2.1; omega)
              have HS8 : Hid (Blk w8 gr 32 (pcs ra rb rc) ∧ Blk w8 g10 41 (TAct.cs ⟨xk, xn, xl, xa, xc, xhk, xhn⟩).toArray) := ⟨HSs.out.1.chg (hc8 (· = g11) rfl) HNr.out, HSs.out.2.chg (hc8 (· = g11) rfl) HNt.out⟩
              have HX8 := Lib.hid (HX.out.trans (hc8 (fun j => j = g11 ∨ j = gr) (.inl rfl)) fun _ _ h => h)
              have HB8 := Lib.hid hb8
              refine hK.out _ _ HS8.out (fun hHeld2 => ?_)
              clear hK K HSs HX hc8 hb8
              try simp
              clear hHeld
              have hHeld := hHeld2
              clear hHeld2
              refine wpAnyH_take (i := 15) (v := (.slice B2 kk.length d2)) rfl (by kernel_rfl) (by kernel_rfl) (by kernel_rfl) (fun _ _ _ h => h) (Or.inl ⟨by rfl, ?_⟩) (by assumption) ?_
              · intro w' hS; go_simp; try with_reducible rfl
              try simp [Act.put]
              refine wpAnyH_take (i := 16) (v := (.int .i64 code)) rfl (by kernel_rfl) (by kernel_rfl) (by kernel_rfl) (fun _ _ _ h => h) (Or.inl ⟨by rfl, ?_⟩) (by assumption) ?_
              · intro w' hS; go_simp; try with_reducible rfl
              try simp [Act.put]
              refine wpAnyH_done (by kernel_rfl) ?_ _
              clear hHeld
              go_wp2_with (first
                | (refine ld_ptr rfl (.tmp 10) rfl g11 32 ra2 rb2 rc2 rfl HB8.out ?_)
                | (refine st_pt2 rfl (.tmp 6) (.tmp 51) rfl gr _ ra2 rb2 rc2 rfl rfl HS8.out.1 rfl ?_; intro w9 hb9 hc9; have HX9 := Lib.hid (HX8.out.trans (hc9 (fun j => j = g11 ∨ j = gr) (.inr rfl)) fun _ _ h => h); have HB9 := Lib.hid hb9; clear hb9 hc9))
              go_roundw
              case rel => exact ⟨k + 1, _, _, _, _, _, old ++ kk, HK.out.1, by go_num, HSw.out.done L HC.out HX9.out HA.out.2.2 (Nat.le_trans HLO.out HA.out.2.1) HB9.out, by rw [List.length_append]; go_num, by rw [List.length_append]; have := HOL.out; have := HC.out.len; omega⟩
              case measure => have := HK.out; simp [intOf]; omega
          · skip
            go_simp
            have HBn := Lib.hid (HB.out.alloc (bsz HBS.out HB.out) (.cells (pcs 0 0 0) 32))
            have HA : Hid (Blk (wb0.alloc (.cells (pcs 0 0 0) 32)) wb0.heap.size 32 (pcs 0 0 0) ∧ bs ≤ wb0.heap.size) := Lib.hid (And.intro (Blk.new wb0 _ _) (bsz HBS.out HB.out))
            have HNE : Hid (wb0.heap.size ≠ gE) := Lib.hid (by have := (World.ownsRow.lt HE.out gE rfl).2; omega)
            have HEn := Lib.hid (own_far HE.out (below_al wb0 (.cells (pcs 0 0 0) 32)))
            refine hK.out _ _ ⟨HS6.out.1.below HBn.out HLr.out, HS6.out.2.below HBn.out HLt.out⟩ (fun hHeld2 => ?_)
            clear hK K HB HE
            have HB := HBn
            clear HBn
            have HE := HEn
            clear HEn
            generalize wb0.alloc (.cells (pcs 0 0 0) 32) = wa1 at *
            generalize wb0.heap.size = g11 at *
            try simp
            clear hHeld
            have hHeld := hHeld2
            clear hHeld2
            refine wpAnyH_ready (rs := [7]) (by kernel_rfl) (by simp) ?_
            refine (AllReadyH.cons rfl (fun K hK => ?_) AllReadyH.nil)
            refine step_copyB rfl 43 45 rfl bs gE rfl HE.out _ xa xl.length xc xl rfl rfl (HD.out.below HB.out) HDL.out (bsz HBS.out HB.out) ?_
            intro A7 c7 wl2 hown hc7 hgr
            have HBn := Lib.hid (below_own HB.out HE.out (Nat.le_refl _) (bsz HBS.out HB.out) hgr)
            have HL := Lib.hid hown
            have HL7 := Lib.hid hc7
            have HAn := Lib.hid (And.intro (show Blk wl2 g11 32 (pcs 0 0 0) from (hgr.block g11 HA.out.1.lt (fun e => HNE.out (Option.some.inj e))).trans HA.out.1) HA.out.2)
            refine hK.out _ _ ⟨HS6.out.1.below HBn.out HLr.out, HS6.out.2.below HBn.out HLt.out⟩ (fun hHeld2 => ?_)
            clear hK K hown hc7 hgr HB HE HA HNE
            have HB := HBn
            clear HBn
            have HA := HAn
            clear HAn
            try simp
            clear hHeld
            have hHeld := hHeld2
            clear hHeld2
            refine wpAnyH_ready (rs := [8]) (by kernel_rfl) (by simp) ?_
            refine (AllReadyH.cons rfl (fun K hK => ?_) AllReadyH.nil)
            go_simp
            refine Calls.mono (SET.out wl2 HB.out A7 c7 (own_rdA HL.out HFO.out) HL7.out) ?_
            rintro e ws3 ⟨O2, P2, ⟨ra2, rb2, rc2⟩, kk, B2, d2, code, rfl, hch⟩
            have HC := Lib.hid hch
            have HSw := Lib.hid (HSL.out.later L (bsub HBS.out HB.out))
            have HSs : Hid (Blk ws3 gr 32 (pcs ra rb rc) ∧ Blk ws3 g10 41 (TAct.cs ⟨xk, xn, xl, xa, xc, xhk, xhn⟩).toArray) := ⟨(HSw.out.box.step hch.step).blk, (HS6.out.2.below HB.out HLt.out).chg hch.step.chg HG10.out⟩
            have HAn : Hid (Blk ws3 g11 32 (pcs 0 0 0) ∧ bs ≤ g11 ∧ ¬ O2 g11) := by
              obtain ⟨a1, a2⟩ := HA.out.1.aside (fun ho => by have := HFO.out _ ho; have := HA.out.2; omega) hch.step
              exact ⟨a1, HA.out.2, a2⟩
            have HX := Lib.hid (show Chg ws3 ws3 (fun j => j = g11 ∨ j = gr) from Chg.refl _ _)
            refine hK.out _ _ HSs.out (fun hHeld2 => ?_)
            clear hK K hch SET HL HL7 HA
            have HA := HAn
            clear HAn
            try simp
            clear hHeld
            have hHeld := hHeld2
            clear hHeld2
            refine wpAnyH_take (i := 9) (v := (.tuple #[ptq (ra2, rb2, rc2), .slice B2 kk.length d2, .int .i64 code])) rfl (by kernel_rfl) (by kernel_rfl) (by kernel_rfl) (fun _ _ _ h => h) (Or.inl ⟨by rfl, ?_⟩) (by assumption) ?_
            · intro w' hS; go_simp; try with_reducible rfl
            try simp [Act.put]
            refine wpAnyH_take (i := 10) (v := (ptq (ra2, rb2, rc2))) rfl (by kernel_rfl) (by kernel_rfl) (by kernel_rfl) (fun _ _ _ h => h) (Or.inl ⟨by rfl, ?_⟩) (by assumption) ?_
            · intro w' hS; go_simp; try with_reducible rfl
            try simp [Act.put]
            refine wpAnyH_take (i := 11) (v := (.slice B2 kk.length d2)) rfl (by kernel_rfl) (by kernel_rfl) (by kernel_rfl) (fun _ _ _ h => h) (Or.inl ⟨by rfl, ?_⟩) (by assumption) ?_
            · intro w' hS; go_simp; try with_reducible rfl
            try simp [Act.put]
            refine wpAnyH_take (i := 12) (v := (.int .i64 code)) rfl (by kernel_rfl) (by kernel_rfl) (by kernel_rfl) (fun _ _ _ h => h) (Or.inl ⟨by rfl, ?_⟩) (by assumption) ?_
            · intro w' hS; go_simp; try with_reducible rfl
            try simp [Act.put]
            refine wpAnyH_ready (rs := [14]) (by kernel_rfl) (by simp) ?_
            refine AllReadyH.cons rfl (fun K hK => ?_) AllReadyH.nil
            refine step_stPt rfl (.tmp 10) (.tmp 48) rfl g11 ra2 rb2 rc2 0 0 0 rfl rfl HA.out.1 ?_
            intro w8 hb8 _ hc8
            have hoi : (old.length : Int) ≤ 1000 := by have := HOL.out; have := HK.out; omega
            have hki2 : (kk.length : Int) ≤ 3 := by have := HC.out.len; omega
            have HNr : Hid (gr ≠ g11) := Lib.hid (by have := HLr.out; have := HA.out.2.1; omega)
            have HNt : Hid (g10 ≠ g11) := Lib.hid (by have := HLt.out; have := HA.out.2.1; omega)
            have HS8 : Hid (Blk w8 gr 32 (pcs ra rb rc) ∧ Blk w8 g10 41 (TAct.cs ⟨xk, xn, xl, xa, xc, xhk, xhn⟩).toArray) := ⟨HSs.out.1.chg (hc8 (· = g11) rfl) HNr.out, HSs.out.2.chg (hc8 (· = g11) rfl) HNt.out⟩
            have HX8 := Lib.hid (HX.out.trans (hc8 (fun j => j = g11 ∨ j = gr) (.inl rfl)) fun _ _ h => h)
            have HB8 := Lib.hid hb8
            refine hK.out _ _ HS8.out (fun hHeld2 => ?_)
            clear hK K HSs HX hc8 hb8
            try simp
            clear hHeld
            have hHeld := hHeld2
            clear hHeld2
            refine wpAnyH_take (i := 15) (v := (.slice B2 kk.length d2)) rfl (by kernel_rfl) (by kernel_rfl) (by kernel_rfl) (fun _ _ _ h => h) (Or.inl ⟨by rfl, ?_⟩) (by assumption) ?_
            · intro w' hS; go_simp; try with_reducible rfl
            try simp [Act.put]
            refine wpAnyH_take (i := 16) (v := (.int .i64 code)) rfl (by kernel_rfl) (by kernel_rfl) (by kernel_rfl) (fun _ _ _ h => h) (Or.inl ⟨by rfl, ?_⟩) (by assumption) ?_
            · intro w' hS; go_simp; try with_reducible rfl
            try simp [Act.put]
            refine wpAnyH_done (by kernel_rfl) ?_ _
            clear hHeld
            go_wp2_with (first
              | (refine ld_ptr rfl (.tmp 10) rfl g11 32 ra2 rb2 rc2 rfl HB8.out ?_)
              | (refine st_pt2 rfl (.tmp 6) (.tmp 51) rfl gr _ ra2 rb2 rc2 rfl rfl HS8.out.1 rfl ?_; intro w9 hb9 hc9; have HX9 := Lib.hid (HX8.out.trans (hc9 (fun j => j = g11 ∨ j = gr) (.inr rfl)) fun _ _ h => h); have HB9 := Lib.hid hb9; clear hb9 hc9))
            go_roundw
            case rel => exact ⟨k + 1, _, _, _, _, _, old ++ kk, HK.out.1, by go_num, HSw.out.done L HC.out HX9.out HA.out.2.2 (Nat.le_trans HLO.out HA.out.2.1) HB9.out, by rw [List.length_append]; go_num, by rw [List.length_append]; have := HOL.out; have := HC.out.len; omega⟩
            case measure => have := HK.out; simp [intOf]; omega
        · skip
          go_simp
          have HBn := Lib.hid (HB.out.alloc (bsz HBS.out HB.out) (.cells (pcs 0 0 0) 32))
          have HA : Hid (Blk (w6.alloc (.cells (pcs 0 0 0) 32)) w6.heap.size 32 (pcs 0 0 0) ∧ bs ≤ w6.heap.size) := Lib.hid (And.intro (Blk.new w6 _ _) (bsz HBS.out HB.out))
          refine hK.out _ _ ⟨HS6.out.1.below HBn.out HLr.out, HS6.out.2.below HBn.out HLt.out⟩ (fun hHeld2 => ?_)
          clear hK K HB
          have HB := HBn
          clear HBn
          generalize w6.alloc (.cells (pcs 0 0 0) 32) = wa0 at *
          generalize w6.heap.size = g11 at *
          try simp
          clear hHeld
          have hHeld := hHeld2
          clear hHeld2
          refine wpAnyH_ready (rs := [4]) (by kernel_rfl) (by simp) ?_
          refine (AllReadyH.cons rfl (fun K hK => ?_) AllReadyH.nil)
          go_simp
          have HBn := Lib.hid (HB.out.alloc (bsz HBS.out HB.out) (.cells #[] 5))
          have HE := Lib.hid (ownB_nil wa0 bs (bsz HBS.out HB.out))
          have HAn := Lib.hid (And.intro (HA.out.1.below (below_al wa0 (.cells #[] 5)) HA.out.1.lt) HA.out.2)
          have HNE : Hid (g11 ≠ wa0.heap.size) := Lib.hid (by have := HA.out.1.lt; omega)
          refine hK.out _ _ ⟨HS6.out.1.below HBn.out HLr.out, HS6.out.2.below HBn.out HLt.out⟩ (fun hHeld2 => ?_)
          clear hK K HB HA
          have HB := HBn
          clear HBn
          have HA := HAn
          clear HAn
          generalize wa0.alloc (.cells #[] 5) = wb1 at *
          generalize wa0.heap.size = gE at *
          try simp
          clear hHeld
          have hHeld := hHeld2
          clear hHeld2
          refine wpAnyH_ready (rs := [7]) (by kernel_rfl) (by simp) ?_
          refine (AllReadyH.cons rfl (fun K hK => ?_) AllReadyH.nil)
          refine step_copyB rfl 43 45 rfl bs gE rfl HE.out _ xa xl.length xc xl rfl rfl (HD.out.below HB.out) HDL.out (bsz HBS.out HB.out) ?_
          intro A7 c7 wl2 hown hc7 hgr
          have HBn := Lib.hid (below_own HB.out HE.out (Nat.le_refl _) (bsz HBS.out HB.out) hgr)
          have HL := Lib.hid hown
          have HL7 := Lib.hid hc7
          have HAn := Lib.hid (And.intro (show Blk wl2 g11 32 (pcs 0 0 0) from (hgr.block g11 HA.out.1.lt (fun e => HNE.out (Option.some.inj e))).trans HA.out.1) HA.out.2)
          refine hK.out _ _ ⟨HS6.out.1.below HBn.out HLr.out, HS6.out.2.below HBn.out HLt.out⟩ (fun hHeld2 => ?_)
          clear hK K hown hc7 hgr HB HE HA HNE
          have HB := HBn
          clear HBn
          have HA := HAn
          clear HAn
          try simp
          clear hHeld
          have hHeld := hHeld2
          clear hHeld2
          refine wpAnyH_ready (rs := [8]) (by kernel_rfl) (by simp) ?_
          refine (AllReadyH.cons rfl (fun K hK => ?_) AllReadyH.nil)
          go_simp
          refine Calls.mono (SET.out wl2 HB.out A7 c7 (own_rdA HL.out HFO.out) HL7.out) ?_
          rintro e ws3 ⟨O2, P2, ⟨ra2, rb2, rc2⟩, kk, B2, d2, code, rfl, hch⟩
          have HC := Lib.hid hch
          have HSw := Lib.hid (HSL.out.later L (bsub HBS.out HB.out))
          have HSs : Hid (Blk ws3 gr 32 (pcs ra rb rc) ∧ Blk ws3 g10 41 (TAct.cs ⟨xk, xn, xl, xa, xc, xhk, xhn⟩).toArray) := ⟨(HSw.out.box.step hch.step).blk, (HS6.out.2.below HB.out HLt.out).chg hch.step.chg HG10.out⟩
          have HAn : Hid (Blk ws3 g11 32 (pcs 0 0 0) ∧ bs ≤ g11 ∧ ¬ O2 g11) := by
            obtain ⟨a1, a2⟩ := HA.out.1.aside (fun ho => by have := HFO.out _ ho; have := HA.out.2; omega) hch.step
            exact ⟨a1, HA.out.2, a2⟩
          have HX := Lib.hid (show Chg ws3 ws3 (fun j => j = g11 ∨ j = gr) from Chg.refl _ _)
          refine hK.out _ _ HSs.out (fun hHeld2 => ?_)
          clear hK K hch SET HL HL7 HA
          have HA := HAn
          clear HAn
          try simp
          clear hHeld
          have hHeld := hHeld2
          clear hHeld2
          refine wpAnyH_take (i := 9) (v := (.tuple #[ptq (ra2, rb2, rc2), .slice B2 kk.length d2, .int .i64 code])) rfl (by kernel_rfl) (by kernel_rfl) (by kernel_rfl) (fun _ _ _ h => h) (Or.inl ⟨by rfl, ?_⟩) (by assumption) ?_
          · intro w' hS; go_simp; try with_reducible rfl
          try simp [Act.put]
          refine wpAnyH_take (i := 10) (v := (ptq (ra2, rb2, rc2))) rfl (by kernel_rfl) (by kernel_rfl) (by kernel_rfl) (fun _ _ _ h => h) (Or.inl ⟨by rfl, ?_⟩) (by assumption) ?_
          · intro w' hS; go_simp; try with_reducible rfl
          try simp [Act.put]
          refine wpAnyH_take (i := 11) (v := (.slice B2 kk.length d2)) rfl (by kernel_rfl) (by kernel_rfl) (by kernel_rfl) (fun _ _ _ h => h) (Or.inl ⟨by rfl, ?_⟩) (by assumption) ?_
          · intro w' hS; go_simp; try with_reducible rfl
          try simp [Act.put]
          refine wpAnyH_take (i := 12) (v := (.int .i64 code)) rfl (by kernel_rfl) (by kernel_rfl) (by kernel_rfl) (fun _ _ _ h => h) (Or.inl ⟨by rfl, ?_⟩) (by assumption) ?_
          · intro w' hS; go_simp; try with_reducible rfl
          try simp [Act.put]
          refine wpAnyH_ready (rs := [14]) (by kernel_rfl) (by simp) ?_
          refine AllReadyH.cons rfl (fun K hK => ?_) AllReadyH.nil
          refine step_stPt rfl (.tmp 10) (.tmp 48) rfl g11 ra2 rb2 rc2 0 0 0 rfl rfl HA.out.1 ?_
          intro w8 hb8 _ hc8
          have hoi : (old.length : Int) ≤ 1000 := by have := HOL.out; have := HK.out; omega
          have hki2 : (kk.length : Int) ≤ 3 := by have := HC.out.len; omega
          have HNr : Hid (gr ≠ g11) := Lib.hid (by have := HLr.out; have := HA.out.2.1; omega)
          have HNt : Hid (g10 ≠ g11) := Lib.hid (by have := HLt.out; have := HA.out.2.1; omega)
          have HS8 : Hid (Blk w8 gr 32 (pcs ra rb rc) ∧ Blk w8 g10 41 (TAct.cs ⟨xk, xn, xl, xa, xc, xhk, xhn⟩).toArray) := ⟨HSs.out.1.chg (hc8 (· = g11) rfl) HNr.out, HSs.out.2.chg (hc8 (· = g11) rfl) HNt.out⟩
          have HX8 := Lib.hid (HX.out.trans (hc8 (fun j => j = g11 ∨ j = gr) (.inl rfl)) fun _ _ h => h)
          have HB8 := Lib.hid hb8
          refine hK.out _ _ HS8.out (fun hHeld2 => ?_)
          clear hK K HSs HX hc8 hb8
          try simp
          clear hHeld
          have hHeld := hHeld2
          clear hHeld2
          refine wpAnyH_take (i := 15) (v := (.slice B2 kk.length d2)) rfl (by kernel_rfl) (by kernel_rfl) (by kernel_rfl) (fun _ _ _ h => h) (Or.inl ⟨by rfl, ?_⟩) (by assumption) ?_
          · intro w' hS; go_simp; try with_reducible rfl
          try simp [Act.put]
          refine wpAnyH_take (i := 16) (v := (.int .i64 code)) rfl (by kernel_rfl) (by kernel_rfl) (by kernel_rfl) (fun _ _ _ h => h) (Or.inl ⟨by rfl, ?_⟩) (by assumption) ?_
          · intro w' hS; go_simp; try with_reducible rfl
          try simp [Act.put]
          refine wpAnyH_done (by kernel_rfl) ?_ _
          clear hHeld
          go_wp2_with (first
            | (refine ld_ptr rfl (.tmp 10) rfl g11 32 ra2 rb2 rc2 rfl HB8.out ?_)
            | (refine st_pt2 rfl (.tmp 6) (.tmp 51) rfl gr _ ra2 rb2 rc2 rfl rfl HS8.out.1 rfl ?_; intro w9 hb9 hc9; have HX9 := Lib.hid (HX8.out.trans (hc9 (fun j => j = g11 ∨ j = gr) (.inr rfl)) fun _ _ h => h); have HB9 := Lib.hid hb9; clear hb9 hc9))
          go_roundw
          case rel => exact ⟨k + 1, _, _, _, _, _, old ++ kk, HK.out.1, by go_num, HSw.out.done L HC.out HX9.out HA.out.2.2 (Nat.le_trans HLO.out HA.out.2.1) HB9.out, by rw [List.length_append]; go_num, by rw [List.length_append]; have := HOL.out; have := HC.out.len; omega⟩
          case measure => have := HK.out; simp [intOf]; omega
      · obtain rfl : k = l0.length := by omega
        clear hk hlt HR0 HK0 hzt
        obtain ⟨F, S, T, hg⟩ := HSL0.out.good
        obtain ⟨cc, hcc⟩ : ∃ cc, cc = f % 1000 := ⟨_, rfl⟩
        have HCC := Lib.hid hcc
        clear hcc
        have HW1 := Lib.hid (L.blocks HSL0.out.has.at_ hg.ok hg.tree)
        have HG := Lib.hid hg
        have HBO := Lib.hid HSL0.out.box.blk
        have H64 : Hid (∀ x ∈ blkL S, x < 64) := fun x hx => (blk_lt hx).1
        have HBL := Lib.hid (blk_len (S := S))
        clear hg
        go_upto_region 18 with (first
          | (refine ld_ptr rfl (.tmp 6) rfl gr 32 ra rb rc rfl HBO.out ?_)
          | (go_at_call 14; (with_reducible refine Calls.mono HW1.out ?_); rintro e w5 ⟨O5, B1, d1, rfl, h5, r5, s5⟩
             have HTS0 : Hid (TS2 At w w5 O5 g gr P ra rb rc F S T old 0 (blkL S) cc B1) := ⟨HSL0.out.has.step h5 s5, HG.out, HSL0.out.box.step s5, HSL0.out.lo, r5.toRdA, fun b off e hp => Nat.lt_of_lt_of_le HSL0.out.box.blk.lt (r5.fresh b off e (by simpa [ints, natI64] using hp)), left_zero cc S, by have := HSL0.out.cnt; have := H30.out; omega, by have := HSL0.out.N; have := H30.out; omega, by have := HOL.out; have := H30.out; omega⟩
             clear h5 r5 s5 HW1 HBO))
        clear HSL0 HG HOL
        generalize blkL S = L0 at *
        have hL64 : (L0.length : Int) ≤ 64 := by have := HBL.out; omega
        go_wp2_with fail
        obtain ⟨wo, hwo⟩ : ∃ wo : World, wo = wr := ⟨_, rfl⟩
        clear hwo
        go_loopw [67, 7] (fun i v wr => ∃ (k : Nat) (O : Nat → Prop) (P : Pw) (ra rb rc : Int) (F : P8) (S : Nat → P8) (T : Nat → Sec) (old : List PtrV), k ≤ L0.length ∧ i = .int .i64 (k : Int) ∧ TS2 At w wr O g gr P ra rb rc F S T old k L0 cc B1 ∧ v = .int .i64 (old.length : Int)) (fun i _ _ => L0.length - (intOf i).toNat)
        case atStart => exact ⟨0, _, _, _, _, _, _, _, _, _, Nat.zero_le _, rfl, HTS0.out, rfl⟩
        case round =>
          clear HTS0
          obtain ⟨k, O, P, ra, rb, rc, F, S, T, old, hk, rfl, hTS, rfl⟩ := hrel
          have HT0 := Lib.hid hTS
          clear hTS
          by_cases hlt : k < L0.length
          · have hki : (k : Int) < L0.length := by omega
            obtain ⟨m1, hm1⟩ : ∃ m1, m1 = cc + k := ⟨_, rfl⟩
            obtain ⟨m, hm⟩ : ∃ m, m = m1 % L0.length := ⟨_, rfl⟩
            have hml : m < L0.length := by rw [hm]; exact Nat.mod_lt _ (by omega)
            obtain ⟨bi, hbi⟩ : ∃ bi, bi = L0[m] := ⟨_, rfl⟩
            have hb64 : bi < 64 := by rw [hbi]; exact H64.out _ (List.getElem_mem hml)
            obtain ⟨bb, off, rfl, hbl, hcell⟩ := HT0.out.row.rd.at_ m (.int .i64 (bi : Int)) (by rw [hbi]; simp [ints, natI64, hml])
            have HFb0 := Lib.hid (HT0.out.row.apart bb off rfl (by simp [ints, natI64]; omega))
            have HK := Lib.hid (show k < L0.length ∧ L0.length ≤ 64 from ⟨hlt, HBL.out⟩)
            have HBI : Hid (bi = L0.getD ((cc + k) % L0.length) 0) := Lib.hid (by rw [← hm1, ← hm, hbi]; simp [List.getD, hml])
            have HB64 := Lib.hid hb64
            have HE4 : Hid ((f : Int) % 1000 = (cc : Int)) := Lib.hid (by have := HCC.out; omega)
            have HE6 : Hid ((cc : Int) + (k : Int) = (m1 : Int)) := Lib.hid (by omega)
            have HW6 : Hid (IntKind.i64.wrap (m1 : Int) = (m1 : Int)) := Lib.hid (by have := HCC.out; have := HBL.out; rw [IntKind.wrap_i64]; omega)
            have HE9 : Hid ((m1 : Int) % (L0.length : Int) = (m : Int)) := Lib.hid (by rw [hm, Int.natCast_emod])
            have hc1 : (cc : Int) < 1000 := by have := HCC.out; omega
            have hmi : (m : Int) < L0.length := by omega
            have HNE : Hid (¬ L0 = []) := Lib.hid (fun e => by rw [e] at hlt; simp at hlt)
            clear hm hm1 hbi hb64 hk hlt hml
            go_upto_region 21 with fail
            have HTS := Lib.hid (HT0.out.later L (Below.refl _ _).drew)
            have HS6 : Hid (Blk wr.drew gr 32 (pcs ra rb rc) ∧ wr.drew.cell? ⟨bb, off + m, none⟩ = some (.int .i64 (bi : Int))) := ⟨HTS.out.box.blk, hcell⟩
            have HLb : Hid (bb < wr.drew.heap.size) := hbl
            have HFb : Hid (¬ O bb) := HFb0.out
            have HFO : Hid (∀ j, O j → j < wr.drew.heap.size) := fun j hj => L.foot HTS.out.has.at_ j hj
            clear HT0 hbl hcell HFb0
            refine wp_region_held_drew (S := (fun w' => Blk w' gr 32 (pcs ra rb rc) ∧ w'.cell? ⟨bb, off + m, none⟩ = some (.int .i64 (bi : Int)))) (by kernel_rfl) HS6.out (fun hHeld => ?_)
            generalize wr.drew = w6 at *
            have TRM := Lib.hid (fun W (hb : Below w6.heap.size w6 W) => trim_block L HTS.out.good (HTS.out.later L hb).has.at_ (by have := HTS.out.N; have := HK.out; omega) (by have := HTS.out.cnt; have := HK.out; omega) bi HB64.out)
            have HB : Hid (Below w6.heap.size w6 w6) := Below.refl _ _
            have HLr := Lib.hid HS6.out.1.lt
            have HLO := Lib.hid HTS.out.has.below.size
            generalize hbs : w6.heap.size = bs at *
            have HBS := Lib.hid (HSz.mk hbs)
            clear hbs
            refine wpAnyH_take (i := 0) (v := (.pointer (some ⟨g, 0, none⟩))) rfl (by kernel_rfl) (by kernel_rfl) (by kernel_rfl) (fun _ _ _ h => h) (Or.inl ⟨by rfl, ?_⟩) (by assumption) ?_
            · intro w' hS; go_simp; try with_reducible rfl
            try simp [Act.put]
            refine wpAnyH_take (i := 1) (v := (ptq (ra, rb, rc))) rfl (by kernel_rfl) (by kernel_rfl) (by kernel_rfl) (fun _ _ _ h => h) (Or.inl ⟨by rfl, ?_⟩) (by assumption) ?_
            · intro w' hS
              exact ex_ldP (.tmp 6) rfl gr ra rb rc rfl hS.1
            try simp [Act.put]
            refine wpAnyH_take (i := 2) (v := (.slice (some ⟨bb, off, none⟩) L0.length d1)) rfl (by kernel_rfl) (by kernel_rfl) (by kernel_rfl) (fun _ _ _ h => h) (Or.inl ⟨by rfl, ?_⟩) (by assumption) ?_
            · intro w' hS; go_simp; try with_reducible rfl
            try simp [Act.put]
            refine wpAnyH_take (i := 3) (v := (.int .i64 (f : Int))) rfl (by kernel_rfl) (by kernel_rfl) (by kernel_rfl) (fun _ _ _ h => h) (Or.inl ⟨by rfl, ?_⟩) (by assumption) ?_
            · intro w' hS; go_simp; try with_reducible rfl
            try simp [Act.put]
            refine wpAnyH_take (i := 4) (v := (.int .i64 (cc : Int))) rfl (by kernel_rfl) (by kernel_rfl) (by kernel_rfl) (fun _ _ _ h => h) (Or.inl ⟨by rfl, ?_⟩) (by assumption) ?_
            · intro w' hS
              have he := HE4.out
              go_simp
              first | with_reducible rfl | exact he | omega
            try simp [Act.put]
            refine wpAnyH_take (i := 5) (v := (.int .i64 (k : Int))) rfl (by kernel_rfl) (by kernel_rfl) (by kernel_rfl) (fun _ _ _ h => h) (Or.inl ⟨by rfl, ?_⟩) (by assumption) ?_
            · intro w' hS; go_simp; try with_reducible rfl
            try simp [Act.put]
            refine wpAnyH_take (i := 6) (v := (.int .i64 (m1 : Int))) rfl (by kernel_rfl) (by kernel_rfl) (by kernel_rfl) (fun _ _ _ h => h) (Or.inl ⟨by rfl, ?_⟩) (by assumption) ?_
            · intro w' hS
              have he := HE6.out
              have hw := HW6.out
              go_simp; try with_reducible rfl
            try simp [Act.put]
            refine wpAnyH_take (i := 7) (v := (.slice (some ⟨bb, off, none⟩) L0.length d1)) rfl (by kernel_rfl) (by kernel_rfl) (by kernel_rfl) (fun _ _ _ h => h) (Or.inl ⟨by rfl, ?_⟩) (by assumption) ?_
            · intro w' hS; go_simp; try with_reducible rfl
            try simp [Act.put]
            refine wpAnyH_take (i := 8) (v := (.int .i64 (L0.length : Int))) rfl (by kernel_rfl) (by kernel_rfl) (by kernel_rfl) (fun _ _ _ h => h) (Or.inl ⟨by rfl, ?_⟩) (by assumption) ?_
            · intro w' hS; go_simp; try with_reducible rfl
            try simp [Act.put]
            refine wpAnyH_take (i := 9) (v := (.int .i64 (m : Int))) rfl (by kernel_rfl) (by kernel_rfl) (by kernel_rfl) (fun _ _ _ h => h) (Or.inl ⟨by rfl, ?_⟩) (by assumption) ?_
            · intro w' hS
              have he := HE9.out
              go_simp
              rw [if_neg HNE.out, Int.tmod_eq_emod_of_nonneg (Int.natCast_nonneg _), he]
            try simp [Act.put]
            refine wpAnyH_take (i := 10) (v := (.pointer (some ⟨bb, off + m, none⟩))) rfl (by kernel_rfl) (by kernel_rfl) (by kernel_rfl) (fun _ _ _ h => h) (Or.inl ⟨by rfl, ?_⟩) (by assumption) ?_
            · intro w' hS; go_simp; try with_reducible rfl
            try simp [Act.put]
            refine wpAnyH_take (i := 11) (v := (.int .i64 (bi : Int))) rfl (by kernel_rfl) (by kernel_rfl) (by kernel_rfl) (fun _ _ _ h => h) (Or.inl ⟨by rfl, ?_⟩) (by assumption) ?_
            · intro w' hS
              have hcc := hS.2
              go_simp; try with_reducible rfl
            try simp [Act.put]
            refine wpAnyH_ready (rs := [12, 17]) (by kernel_rfl) (by simp) ?_
            refine (AllReadyH.cons rfl (fun K hK => ?_) (AllReadyH.cons rfl (fun K hK => ?_) AllReadyH.nil))
            · skip
              go_simp
              refine Calls.mono (TRM.out w6 HB.out) ?_
              rintro e wx ⟨O2, P2, ⟨ra2, rb2, rc2⟩, kk, B2, d2, rfl, hch⟩
              have HC := Lib.hid hch
              have HSw := Lib.hid (HTS.out.later L (bsub HBS.out HB.out))
              have HSs : Hid (Blk wx gr 32 (pcs ra rb rc) ∧ wx.cell? ⟨bb, off + m, none⟩ = some (.int .i64 (bi : Int))) := ⟨(HSw.out.box.step hch.step).blk, (hch.step.chg.cell (Nat.lt_of_lt_of_le HLb.out (bsz HBS.out HB.out)) HFb.out _).trans ((HB.out.cell (p := ⟨bb, off + m, none⟩) HLb.out).trans HS6.out.2)⟩
              have HSl := Lib.hid (Nat.lt_of_lt_of_le HLb.out (Nat.le_trans (bsz HBS.out HB.out) hch.step.chg.size))
              refine hK.out _ _ HSs.out (fun hHeld2 => ?_)
              clear hK K hch TRM
              skip
              try simp
              clear hHeld
              have hHeld := hHeld2
              clear hHeld2
              refine wpAnyH_take (i := 13) (v := (.tuple #[ptq (ra2, rb2, rc2), .slice B2 kk.length d2, .int .i64 0])) rfl (by kernel_rfl) (by kernel_rfl) (by kernel_rfl) (fun _ _ _ h => h) (Or.inl ⟨by rfl, ?_⟩) (by assumption) ?_
              · intro w' hS; go_simp; try with_reducible rfl
              try simp [Act.put]
              refine wpAnyH_take (i := 14) (v := (ptq (ra2, rb2, rc2))) rfl (by kernel_rfl) (by kernel_rfl) (by kernel_rfl) (fun _ _ _ h => h) (Or.inl ⟨by rfl, ?_⟩) (by assumption) ?_
              · intro w' hS; go_simp; try with_reducible rfl
              try simp [Act.put]
              refine wpAnyH_take (i := 15) (v := (.slice B2 kk.length d2)) rfl (by kernel_rfl) (by kernel_rfl) (by kernel_rfl) (fun _ _ _ h => h) (Or.inl ⟨by rfl, ?_⟩) (by assumption) ?_
              · intro w' hS; go_simp; try with_reducible rfl
              try simp [Act.put]
              refine wpAnyH_take (i := 16) (v := (.int .i64 0)) rfl (by kernel_rfl) (by kernel_rfl) (by kernel_rfl) (fun _ _ _ h => h) (Or.inl ⟨by rfl, ?_⟩) (by assumption) ?_
              · intro w' hS; go_simp; try with_reducible rfl
              try simp [Act.put]
              refine wpAnyH_ready (rs := [17]) (by kernel_rfl) (by simp) ?_
              refine (AllReadyH.cons rfl (fun K hK => ?_) AllReadyH.nil)
              go_simp
              have HA : Hid (Blk (wx.alloc (.cells (pcs 0 0 0) 32)) wx.heap.size 32 (pcs 0 0 0) ∧ bs ≤ wx.heap.size ∧ ¬ O2 wx.heap.size) := Lib.hid (And.intro (Blk.new wx _ _) (And.intro (Nat.le_trans (bsz HBS.out HB.out) HC.out.step.chg.size) (foot_ne L HC.out.at_)))
              have HSn : Hid (Blk (wx.alloc (.cells (pcs 0 0 0) 32)) gr 32 (pcs ra rb rc) ∧ (wx.alloc (.cells (pcs 0 0 0) 32)).cell? ⟨bb, off + m, none⟩ = some (.int .i64 (bi : Int))) := ⟨HSs.out.1.below (below_al wx _) HSs.out.1.lt, ((below_al wx _).cell (p := ⟨bb, off + m, none⟩) HSl.out).trans HSs.out.2⟩
              have HX := Lib.hid (show Chg wx (wx.alloc (.cells (pcs 0 0 0) 32)) (fun j => j = wx.heap.size ∨ j = gr) from (Chg.refl _ _).alloc _)
              have HSl2 := Lib.hid (Nat.lt_of_lt_of_le HSl.out (below_al wx (.cells (pcs 0 0 0) 32)).size)
              refine hK.out _ _ HSn.out (fun hHeld2 => ?_)
              clear hK K HSs HSl
              have HSs := HSn
              have HSl := HSl2
              clear HSn HSl2
              generalize wx.alloc (.cells (pcs 0 0 0) 32) = wz at *
              generalize wx.heap.size = g11 at *
              try simp
              clear hHeld
              have hHeld := hHeld2
              clear hHeld2
              refine wpAnyH_ready (rs := [18]) (by kernel_rfl) (by simp) ?_
              refine (AllReadyH.cons rfl (fun K hK => ?_) AllReadyH.nil)
              refine step_stPt rfl (.tmp 16) (.tmp 84) rfl g11 ra2 rb2 rc2 0 0 0 rfl rfl HA.out.1 ?_
              intro w8 hb8 _ hc8
              have HNr : Hid (gr ≠ g11) := Lib.hid (by have := HLr.out; have := HA.out.2.1; omega)
              have HNb : Hid (bb ≠ g11) := Lib.hid (by have := HLb.out; have := HA.out.2.1; omega)
              have HS8 : Hid (Blk w8 gr 32 (pcs ra rb rc) ∧ w8.cell? ⟨bb, off + m, none⟩ = some (.int .i64 (bi : Int))) := ⟨HSs.out.1.chg (hc8 (· = g11) rfl) HNr.out, ((hc8 (· = g11) rfl).cell HSl.out HNb.out _).trans HSs.out.2⟩
              have HX8 := Lib.hid (HX.out.trans (hc8 (fun j => j = g11 ∨ j = gr) (.inl rfl)) fun _ _ h => h)
              have HB8 := Lib.hid hb8
              refine hK.out _ _ HS8.out (fun hHeld2 => ?_)
              clear hK K HSs HX hc8 hb8
              try simp
              clear hHeld
              have hHeld := hHeld2
              clear hHeld2
              refine wpAnyH_take (i := 19) (v := (.slice B2 kk.length d2)) rfl (by kernel_rfl) (by kernel_rfl) (by kernel_rfl) (fun _ _ _ h => h) (Or.inl ⟨by rfl, ?_⟩) (by assumption) ?_
              · intro w' hS; go_simp; try with_reducible rfl
              try simp [Act.put]
              refine wpAnyH_take (i := 20) (v := (.int .i64 0)) rfl (by kernel_rfl) (by kernel_rfl) (by kernel_rfl) (fun _ _ _ h => h) (Or.inl ⟨by rfl, ?_⟩) (by assumption) ?_
              · intro w' hS; go_simp; try with_reducible rfl
              try simp [Act.put]
              refine wpAnyH_done (by kernel_rfl) ?_ _
              clear hHeld
              have hoi : (old.length : Int) ≤ 1000 := by have := HTS.out.len; have := HK.out; omega
              have hki2 : (kk.length : Int) ≤ 3 := by have := HC.out.len; omega
              go_wp2_with (first
                | (refine ld_ptr rfl (.tmp 16) rfl g11 32 ra2 rb2 rc2 rfl HB8.out ?_)
                | (refine st_pt2 rfl (.tmp 6) (.tmp 89) rfl gr _ ra2 rb2 rc2 rfl rfl HS8.out.1 rfl ?_; intro w9 hb9 hc9; have HX9 := Lib.hid (HX8.out.trans (hc9 (fun j => j = g11 ∨ j = gr) (.inr rfl)) fun _ _ h => h); have HB9 := Lib.hid hb9; clear hb9 hc9))
              obtain ⟨F9, S9, T9, h9⟩ := HSw.out.done L (HBI.out ▸ HC.out) HX9.out HA.out.2.2 (Nat.le_trans HLO.out HA.out.2.1) (fun b off e _ => by simp only [Option.some.injEq, Addr.mk.injEq] at e; have := HNb.out; omega) HB9.out
              have H9 := Lib.hid h9
              clear h9
              go_roundw
              case rel => exact ⟨k + 1, _, _, _, _, _, F9, S9, T9, old ++ kk, HK.out.1, by go_num, H9.out, by rw [List.length_append]; go_num⟩
              case measure => have := HK.out; simp [intOf]; omega
            · skip
              go_simp
              have HBn := Lib.hid (HB.out.alloc (bsz HBS.out HB.out) (.cells (pcs 0 0 0) 32))
              have HA : Hid (Blk (w6.alloc (.cells (pcs 0 0 0) 32)) w6.heap.size 32 (pcs 0 0 0) ∧ bs ≤ w6.heap.size) := Lib.hid (And.intro (Blk.new w6 _ _) (bsz HBS.out HB.out))
              refine hK.out _ _ ⟨HS6.out.1.below HBn.out HLr.out, (HBn.out.cell (p := ⟨bb, off + m, none⟩) HLb.out).trans HS6.out.2⟩ (fun hHeld2 => ?_)
              clear hK K HB
              have HB := HBn
              clear HBn
              generalize w6.alloc (.cells (pcs 0 0 0) 32) = wy at *
              generalize w6.heap.size = g11 at *
              try simp
              clear hHeld
              have hHeld := hHeld2
              clear hHeld2
              refine wpAnyH_ready (rs := [12]) (by kernel_rfl) (by simp) ?_
              refine (AllReadyH.cons rfl (fun K hK => ?_) AllReadyH.nil)
              go_simp
              refine Calls.mono (TRM.out wy HB.out) ?_
              rintro e wx ⟨O2, P2, ⟨ra2, rb2, rc2⟩, kk, B2, d2, rfl, hch⟩
              have HC := Lib.hid hch
              have HSw := Lib.hid (HTS.out.later L (bsub HBS.out HB.out))
              have HSs : Hid (Blk wx gr 32 (pcs ra rb rc) ∧ wx.cell? ⟨bb, off + m, none⟩ = some (.int .i64 (bi : Int))) := ⟨(HSw.out.box.step hch.step).blk, (hch.step.chg.cell (Nat.lt_of_lt_of_le HLb.out (bsz HBS.out HB.out)) HFb.out _).trans ((HB.out.cell (p := ⟨bb, off + m, none⟩) HLb.out).trans HS6.out.2)⟩
              have HSl := Lib.hid (Nat.lt_of_lt_of_le HLb.out (Nat.le_trans (bsz HBS.out HB.out) hch.step.chg.size))
              have HAn : Hid (Blk wx g11 32 (pcs 0 0 0) ∧ bs ≤ g11 ∧ ¬ O2 g11) := by
                obtain ⟨a1, a2⟩ := HA.out.1.aside (fun ho => by have := HFO.out _ ho; have := HA.out.2; omega) hch.step
                exact ⟨a1, HA.out.2, a2⟩
              have HX := Lib.hid (show Chg wx wx (fun j => j = g11 ∨ j = gr) from Chg.refl _ _)
              refine hK.out _ _ HSs.out (fun hHeld2 => ?_)
              clear hK K hch TRM HA
              have HA := HAn
              clear HAn
              try simp
              clear hHeld
              have hHeld := hHeld2
              clear hHeld2
              refine wpAnyH_take (i := 13) (v := (.tuple #[ptq (ra2, rb2, rc2), .slice B2 kk.length d2, .int .i64 0])) rfl (by kernel_rfl) (by kernel_rfl) (by kernel_rfl) (fun _ _ _ h => h) (Or.inl ⟨by rfl, ?_⟩) (by assumption) ?_
              · intro w' hS; go_simp; try with_reducible rfl
              try simp [Act.put]
              refine wpAnyH_take (i := 14) (v := (ptq (ra2, rb2, rc2))) rfl (by kernel_rfl) (by kernel_rfl) (by kernel_rfl) (fun _ _ _ h => h) (Or.inl ⟨by rfl, ?_⟩) (by assumption) ?_
              · intro w' hS; go_simp; try with_reducible rfl
              try simp [Act.put]
              refine wpAnyH_take (i := 15) (v := (.slice B2 kk.length d2)) rfl (by kernel_rfl) (by kernel_rfl) (by kernel_rfl) (fun _ _ _ h => h) (Or.inl ⟨by rfl, ?_⟩) (by assumption) ?_
              · intro w' hS; go_simp; try with_reducible rfl
              try simp [Act.put]
              refine wpAnyH_take (i := 16) (v := (.int .i64 0)) rfl (by kernel_rfl) (by kernel_rfl) (by kernel_rfl) (fun _ _ _ h => h) (Or.inl ⟨by rfl, ?_⟩) (by assumption) ?_
              · intro w' hS; go_simp; try with_reducible rfl
              try simp [Act.put]
              refine wpAnyH_ready (rs := [18]) (by kernel_rfl) (by simp) ?_
              refine (AllReadyH.cons rfl (fun K hK => ?_) AllReadyH.nil)
              refine step_stPt rfl (.tmp 16) (.tmp 84) rfl g11 ra2 rb2 rc2 0 0 0 rfl rfl HA.out.1 ?_
              intro w8 hb8 _ hc8
              have HNr : Hid (gr ≠ g11) := Lib.hid (by have := HLr.out; have := HA.out.2.1; omega)
              have HNb : Hid (bb ≠ g11) := Lib.hid (by have := HLb.out; have := HA.out.2.1; omega)
              have HS8 : Hid (Blk w8 gr 32 (pcs ra rb rc) ∧ w8.cell? ⟨bb, off + m, none⟩ = some (.int .i64 (bi : Int))) := ⟨HSs.out.1.chg (hc8 (· = g11) rfl) HNr.out, ((hc8 (· = g11) rfl).cell HSl.out HNb.out _).trans HSs.out.2⟩
              have HX8 := Lib.hid (HX.out.trans (hc8 (fun j => j = g11 ∨ j = gr) (.inl rfl)) fun _ _ h => h)
              have HB8 := Lib.hid hb8
              refine hK.out _ _ HS8.out (fun hHeld2 => ?_)
              clear hK K HSs HX hc8 hb8
              try simp
              clear hHeld
              have hHeld := hHeld2
              clear hHeld2
              refine wpAnyH_take (i := 19) (v := (.slice B2 kk.length d2)) rfl (by kernel_rfl) (by kernel_rfl) (by kernel_rfl) (fun _ _ _ h => h) (Or.inl ⟨by rfl, ?_⟩) (by assumption) ?_
              · intro w' hS; go_simp; try with_reducible rfl
              try simp [Act.put]
              refine wpAnyH_take (i := 20) (v := (.int .i64 0)) rfl (by kernel_rfl) (by kernel_rfl) (by kernel_rfl) (fun _ _ _ h => h) (Or.inl ⟨by rfl, ?_⟩) (by assumption) ?_
              · intro w' hS; go_simp; try with_reducible rfl
              try simp [Act.put]
              refine wpAnyH_done (by kernel_rfl) ?_ _
              clear hHeld
              have hoi : (old.length : Int) ≤ 1000 := by have := HTS.out.len; have := HK.out; omega
              have hki2 : (kk.length : Int) ≤ 3 := by have := HC.out.len; omega
              go_wp2_with (first
                | (refine ld_ptr rfl (.tmp 16) rfl g11 32 ra2 rb2 rc2 rfl HB8.out ?_)
                | (refine st_pt2 rfl (.tmp 6) (.tmp 89) rfl gr _ ra2 rb2 rc2 rfl rfl HS8.out.1 rfl ?_; intro w9 hb9 hc9; have HX9 := Lib.hid (HX8.out.trans (hc9 (fun j => j = g11 ∨ j = gr) (.inr rfl)) fun _ _ h => h); have HB9 := Lib.hid hb9; clear hb9 hc9))
              obtain ⟨F9, S9, T9, h9⟩ := HSw.out.done L (HBI.out ▸ HC.out) HX9.out HA.out.2.2 (Nat.le_trans HLO.out HA.out.2.1) (fun b off e _ => by simp only [Option.some.injEq, Addr.mk.injEq] at e; have := HNb.out; omega) HB9.out
              have H9 := Lib.hid h9
              clear h9
              go_roundw
              case rel => exact ⟨k + 1, _, _, _, _, _, F9, S9, T9, old ++ kk, HK.out.1, by go_num, H9.out, by rw [List.length_append]; go_num⟩
              case measure => have := HK.out; simp [intOf]; omega
          · obtain rfl : k = L0.length := by omega
            have hnone := left_none HT0.out.left
            obtain ⟨t1, t2, t3⟩ := all_trimmed HT0.out.good hnone
            have hnum := HT0.out.good.num
            rw [t2, sum_ones fun r hr => (HT0.out.good.olds r hr).1] at hnum
            have hnumi : (old.length : Int) + P.m.count = 396 := by omega
            have hoi : (old.length : Int) ≤ 396 := by omega
            have hci : (P.m.count : Int) ≤ 396 := by omega
            simp only [hole0, Prod.mk.injEq] at t1
            obtain ⟨rfl, rfl, rfl⟩ := t1
            have hW2 := L.blocks HT0.out.has.at_ HT0.out.good.ok HT0.out.good.tree
            rw [t3] at hW2
            have HW2 := Lib.hid hW2
            have HBO := Lib.hid HT0.out.box.blk
            have HE := Lib.hid (show ((396 : Int) - P.m.count) = old.length by omega)
            clear hW2 hnone t2 t3 hnum hk hlt
            go_upto_region 28 with (first
              | (refine ld_ptr rfl (.tmp 6) rfl gr 32 0 0 0 rfl HBO.out ?_)
              | (go_at_call 14; (with_reducible refine Calls.mono HW2.out ?_); rintro e w5 ⟨O5, B5, d5, rfl, h5, r5, s5⟩; have HH5 := Lib.hid (And.intro (HT0.out.has.step h5 s5) (HT0.out.box.step s5).blk); clear h5 r5 s5 HW2 HBO HT0))
            obtain ⟨gm, hmap⟩ := L.map HH5.out.1.at_
            have HMap := Lib.hid hmap
            clear hmap
            have hsub : ((old.length : Int) == 396 - (P.m.count : Int)) = true := by rw [beq_iff_eq]; omega
            go_wp2_with (first
              | (refine wpList_val (by rfl) _ (ex_ldP (.tmp 6) rfl gr 0 0 0 rfl HH5.out.2) ?_)
              | (refine wpList_val (by rfl) _ (ex_eqPt (.tmp 109) (.tmp 110) rfl hole0 hole0 rfl rfl) ?_; rw [sameQ_self])
              | (go_at_call 19; (with_reducible refine Calls.mono HMap.out ?_); rintro e w6 ⟨rfl, hb6, hcnt⟩; have HC := Lib.hid (hcnt w6 (Below.refl _ _)).1; have HH6 := Lib.hid (HH5.out.1.far L hb6); clear hb6 hcnt HMap HH5)
              | (go_at_call 23; (with_reducible refine Calls.mono HC.out ?_); rintro e w7 ⟨rfl, hb7⟩; have HH7 := Lib.hid (HH6.out.far L hb7); clear hb7 HC HH6))
            go_ret
            exact ⟨rfl, HH7.out.below⟩
  · have h30i : (25 : Int) < l0.length := by omega
    clear hR0 hK0 h30
    go_enter Try.func6, Try.ntmps6
    go_wp2_with (go_at_call 10; (with_reducible refine Calls.mono HT.out ?_); rintro e w1 ⟨rfl, hb1⟩; have HB1 := Lib.hid hb1; clear hb1 HT)
    go_ret
    exact ⟨rfl, HB1.out⟩
end
end Go.Proofs.Ytagkhicbngaghaa
