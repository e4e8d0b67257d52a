/- The laws on blobs, walked over the calls' contracts: BlobSpoils. -/
import Derived.Test.YtdcegkeaopjbnaaA8
set_option maxRecDepth 10000
namespace Go.Proofs.Ytdcegkeaopjbnaa
open Go.RowKit

structure SP (At : World → (Nat → Prop) → Nat → Pw → Prop) (w0 W : World) (O : Nat → Prop) (g gq bb o : Nat) (P : Pw) (qa qb qc xa xb xc : Int) : Prop where
  has : HasB At w0 W O g P
  box : BlkA W O gq 25 (pcs qa qb qc)
  far : ¬ O bb
  lt : bb < W.heap.size
  c0 : W.cell? ⟨bb, o, none⟩ = some (.int .i64 xa)
  c1 : W.cell? ⟨bb, o + 1, none⟩ = some (.int .u64 xb)
  c2 : W.cell? ⟨bb, o + 2, none⟩ = some (.int .u32 xc)
section
variable {At : World → (Nat → Prop) → Nat → Pw → Prop} {w0 W W2 : World} {O O2 : Nat → Prop} {g gq bb o gx : Nat} {P P2 : Pw} {qa qb qc xa xb xc : Int}
theorem SP.later (L : BlobCalls At) (h : SP At w0 W O g gq bb o P qa qb qc xa xb xc) (hb : Below W.heap.size W W2) : SP At w0 W2 O g gq bb o P qa qb qc xa xb xc :=
  ⟨h.has.far L hb, h.box.later hb, h.far, Nat.lt_of_lt_of_le h.lt hb.size, (hb.cell (p := ⟨bb, o, none⟩) h.lt).trans h.c0, (hb.cell (p := ⟨bb, o + 1, none⟩) h.lt).trans h.c1, (hb.cell (p := ⟨bb, o + 2, none⟩) h.lt).trans h.c2⟩
theorem SP.step (h : SP At w0 W O g gq bb o P qa qb qc xa xb xc) (ha : At W2 O2 g P2) (s : Step W W2 O O2) : SP At w0 W2 O2 g gq bb o P2 qa qb qc xa xb xc :=
  ⟨h.has.step ha s, h.box.step s, fun ho => (s.new bb ho).elim h.far fun h2 => by have := h.lt; omega, Nat.lt_of_lt_of_le h.lt s.chg.size, (s.chg.cell h.lt h.far _).trans h.c0, (s.chg.cell h.lt h.far _).trans h.c1, (s.chg.cell h.lt h.far _).trans h.c2⟩
theorem SP.other (L : BlobCalls At) (h : SP At w0 W O g gq bb o P qa qb qc xa xb xc) (hc : Chg W W2 (· = gx)) (hO : ¬ O gx) (h1 : gx ≠ gq) (h2 : gx ≠ bb) (h3 : w0.heap.size ≤ gx) : SP At w0 W2 O g gq bb o P qa qb qc xa xb xc :=
  ⟨⟨L.stay h.has.at_ hc fun k ho e => hO (e ▸ ho), h.has.lo, h.has.below.trans (hc.below (fun k e => by subst e; exact h3) h.has.below.size)⟩, ⟨h.box.blk.chg hc fun e => h1 e.symm, h.box.far⟩, h.far, Nat.lt_of_lt_of_le h.lt hc.size, (hc.cell h.lt (fun e => h2 e.symm) _).trans h.c0, (hc.cell h.lt (fun e => h2 e.symm) _).trans h.c1, (hc.cell h.lt (fun e => h2 e.symm) _).trans h.c2⟩
theorem step_stSB {ops : Array Oper} {o : Oper} {a : Act} {w : World} {K : Act → World → Prop} {Q : Exit → Act → World → Prop} {E : Prop} (hgd : o.guard = none) (x y : Operand) (ho : o.op = .store 46 x y)
    (b : Nat) (u v : Sec) (hx : a.eval x = .pointer (some ⟨b, 0, none⟩)) (hy : a.eval y = .agg v.cs.toArray) (hb : Blk w b 46 u.cs.toArray)
    (h : ∀ w', Blk w' b 46 v.cs.toArray → Chg w w' (· = b) → K (a.put o.dst undef) w') : if Region.wanted o (yielded ops a.tmps) = true then Oper.wp Try.prog o a w K Q else E := by
  have hw : Region.wanted o (yielded ops a.tmps) = true := by simp [Region.wanted, hgd]
  rw [if_pos hw]
  exact wp_store_mid _ x y ho b 0 v.cs.toArray hx hy (by rw [List.size_toArray, Sec.cs_len]; exact hb.secHas) (sizeSec'' v) (all_one v.one) (h _ (hb.secAll v) (Chg.setCells (O := (· = b)) (.inl rfl) _ _ (Chg.refl _ _)))
end
section
variable {At : World → (Nat → Prop) → Nat → Pw → Prop}
set_option maxRecDepth 60000 in
set_option maxHeartbeats 4000000 in
theorem blobSpoils_any (L : BlobCalls At) (w : World) (A0 : Option Addr) (c0 : Nat) (l0 : List UInt8) (hR0 : Rd w w.heap.size A0 (bys l0)) (hL0 : l0.length ≤ 140737488351232) (x1 : Int) (hx1 : I64 x1) (s2 : Sec) :
    Calls Try.prog 6 #[.slice A0 l0.length c0, .int .i64 x1, .agg s2.cs.toArray] w fun e w' => e = .returned (.bool true) ∧ Below w.heap.size w w' := by
  have hal := below_alB w (.cells s2.cs.toArray 46)
  have HA : Hid (∀ w1, Below w.heap.size w w1 → Calls Try.prog 10 #[] w1 fun e w' => e = .returned (.bool true) ∧ Below w1.heap.size w1 w') := Lib.hid (fun w1 _ => blobAlive_any L w1)
  have HN := Lib.hid (fun w' => L.need (l0.length : Int) w' (by unfold I64; omega))
  rw [Int.toNat_natCast] at HN
  obtain ⟨nd, hnd⟩ : ∃ nd, nd = needF l0.length := ⟨_, rfl⟩
  rw [← hnd] at HN
  have hbs := Blk.new w 46 s2.cs.toArray
  by_cases hbad : nd = 0 ∨ 100 < nd ∨ x1 < 0 ∨ (nd : Int) ≤ x1
  · have key : ((nd : Int) == 0) = true ∨ (((nd : Int) == 0) = false ∧ (100 : Int) < (nd : Int)) ∨ (((nd : Int) == 0) = false ∧ (nd : Int) ≤ 100 ∧ x1 < 0) ∨ (((nd : Int) == 0) = false ∧ (nd : Int) ≤ 100 ∧ 0 ≤ x1 ∧ (nd : Int) ≤ x1) := by
      by_cases h0 : nd = 0
      · left; rw [h0]; rfl
      · right
        have h00 : ((nd : Int) == 0) = false := by rw [beq_eq_false_iff_ne]; omega
        by_cases h1 : 100 < nd
        · exact .inl ⟨h00, by omega⟩
        · by_cases h2 : x1 < 0
          · exact .inr (.inl ⟨h00, by omega, h2⟩)
          · exact .inr (.inr ⟨h00, by omega, by omega, by omega⟩)
    have HW := Lib.hid hal
    clear hbad hnd hbs hal hR0 hL0
    rcases key with k1 | ⟨k1, k2⟩ | ⟨k1, k2, k3⟩ | ⟨k1, k2, k3, k4⟩
    all_goals
      go_enter Try.func6, Try.ntmps6
      go_upto_region 1 with fail
      generalize w.alloc (.cells s2.cs.toArray 46) = w0 at *
      go_wp2_with (first
        | (go_at_call 10; (with_reducible refine Calls.mono (HA.out _ HW.out) ?_); rintro e w1 ⟨rfl, hb1⟩; have HB1 := Lib.hid (HW.out.trans (hb1.mono HW.out.size)); clear hb1 HA)
        | (go_at_call 11; (with_reducible refine Calls.mono (HN.out _) ?_); rintro e w2 ⟨rfl, hb2⟩; have HB2 := Lib.hid (HB1.out.trans (hb2.mono HB1.out.size)); clear hb2 HN))
      go_ret
      exact ⟨rfl, HB2.out⟩
  have n1 : 0 < nd := by omega
  have n2 : nd ≤ 100 := by omega
  obtain ⟨p, rfl⟩ := Int.eq_ofNat_of_zero_le (show 0 ≤ x1 by omega)
  have hp : p < nd := by omega
  have hl : 1 ≤ l0.length ∧ l0.length ≤ 65535 := by
    rcases Nat.lt_or_ge l0.length 1 with h | h
    · rw [need_no (by omega)] at hnd
      omega
    · rcases Nat.lt_or_ge 65535 l0.length with h2 | h2
      · rw [need_no (by omega)] at hnd
        omega
      · exact ⟨h, h2⟩
  have HL := Lib.hid hl
  have HND := Lib.hid hnd
  have HN2 := Lib.hid (And.intro n1 (And.intro n2 hp))
  have HR0 := Lib.hid hR0
  have HLL : Hid (l0.length ≤ 140737488355328) := Lib.hid (by omega)
  have d3 : ((nd : Int) == 0) = false := by rw [beq_eq_false_iff_ne]; omega
  have d4 : (nd : Int) ≤ 100 := by omega
  have d5 : (p : Int) < (nd : Int) := by omega
  have d6 : (0 : Int) ≤ (p : Int) := by omega
  have HM := Lib.hid (fun W => L.made 256 W (by omega))
  have HW := Lib.hid hal
  have HS0 : Hid (Blk (w.alloc (.cells s2.cs.toArray 46)) w.heap.size 46 s2.cs.toArray) := hbs
  clear hR0 hL0 hbad hnd hl n1 n2 hp hal hbs hx1
  go_enter Try.func6, Try.ntmps6
  go_upto_region 1 with fail
  generalize w.alloc (.cells s2.cs.toArray 46) = w0 at *
  have HSL : Hid (w.heap.size < w0.heap.size) := Lib.hid HS0.out.lt
  go_upto_region 7 with (first
    | (go_at_call 10; (with_reducible refine Calls.mono (HA.out _ HW.out) ?_); rintro e w1 ⟨rfl, hb1⟩; have HB1 := Lib.hid hb1; clear hb1 HA)
    | (go_at_call 11; (with_reducible refine Calls.mono (HN.out _) ?_); rintro e w2 ⟨rfl, hb2⟩; have HB2 := Lib.hid (HB1.out.trans (hb2.mono HB1.out.size)); clear hb2 HN)
    | (go_at_call 9; (with_reducible refine Calls.mono (HM.out _) ?_); rintro e w3 ⟨O3, g, rfl, h3, hO3, hb3⟩; have HB3 := Lib.hid (HasB.first HB2.out h3 hO3 hb3); clear h3 hO3 hb3 HM))
  obtain ⟨gm, hmap⟩ := mk_manyN L 256 nd (by omega) (by omega) (by have := HN2.out.2.1; omega) HB3.out.at_
  have HMP := Lib.hid hmap
  clear hmap
  go_upto_region 8 with (first
    | (go_at_call 13; (with_reducible refine Calls.mono HMP.out ?_); rintro e w4 ⟨rfl, hb4, hmn⟩; have HMN := Lib.hid (hmn w4 (Below.refl _ _)); have HB4 := Lib.hid (HB3.out.far L hb4); clear hmn hb4 HMP)
    | (go_at_call 14; (with_reducible refine Calls.mono HMN.out ?_); rintro e w5 ⟨O5, A5, c5, at_, M, rfl, h5, r5, s5, hpl, hcp⟩; have HB5 := Lib.hid (show HasB At w0 w5 O5 g _ from ⟨h5, fun j hj => (s5.new j hj).elim (HB3.out.lo j) (fun h => Nat.le_trans HB4.out.below.size h), HB4.out.below.trans (s5.chg.below HB3.out.lo HB4.out.below.size)⟩); have HR5 := Lib.hid r5; have HPL := Lib.hid (And.intro hpl hcp); clear HMN h5 r5 s5 hpl hcp))
  have HF5 := Lib.hid (fun j (hj : O5 j) => L.foot HB5.out.at_ j hj)
  have SAVE := Lib.hid (fun W (hb : Below w5.heap.size w5 W) A c (hr : RdA W O5 A (bys l0)) (hc : l0.length ≤ c) => mk_save L (by omega) (HB5.out.far L hb).at_ HPL.out.1 HND.out HL.out hr hc (HR5.out.far hb) HPL.out.2)
  go_upto_region 9 with (first
    | (at_builtin; refine app_bytesC rfl 53 54 rfl rfl w.heap.size A0 l0.length c0 l0 O5 rfl rfl (HR0.out.below ((HW.out.trans (HB5.out.below.mono HW.out.size)).alloc (Nat.le_trans HW.out.size HB5.out.below.size) _)) HLL.out HF5.out ?_; intro A6 c6 w6 hrd6 hcp6 hb6; have SV := Lib.hid (SAVE.out w6 hb6 A6 c6 hrd6 hcp6); have HB6 := Lib.hid (HB5.out.far L hb6); clear hrd6 hcp6 hb6 SAVE)
    | (go_at_call 8; (with_reducible refine Calls.mono SV.out ?_); rintro e w7 ⟨O7, P7, ⟨qa, qb, qc⟩, M7, rfl, h7, s7, hsv⟩; have HB7 := Lib.hid (HB6.out.step h7 s7); have HSV := Lib.hid hsv; clear h7 s7 hsv SV)
    | (refine st_ptB rfl (.tmp 11) (.tmp 58) rfl w7.heap.size (pcs 0 0 0) qa qb qc rfl rfl (Blk.new w7 _ _) rfl ?_; intro w8 hb8 hc8))
  have hch8 := hc8 (· = w7.heap.size) rfl
  have hb78 : Below w7.heap.size w7 w8 := (below_alB w7 (.cells (pcs 0 0 0) 25)).trans (hch8.below (fun k e => by subst e; exact Nat.le_refl _) (below_alB w7 (.cells (pcs 0 0 0) 25)).size)
  have HB8 := Lib.hid (HB7.out.far L hb78)
  have HQ8 : Hid (BlkA w8 O7 w7.heap.size 25 (pcs qa qb qc)) := Lib.hid ⟨hb8, foot_neB L HB7.out.at_⟩
  have LOAD := Lib.hid (mk_load L HB8.out.at_ HSV.out HND.out HL.out.2)
  clear hb8 hc8 hch8 hb78 HB7 HB6 HB5 HR5 HB4 HB3 HF5 HB1 HB2
  generalize w7.heap.size = gq at *
  go_upto_region 12 with (first
    | (refine ld_ptr rfl (.tmp 11) rfl gq 25 qa qb qc rfl HQ8.out.blk ?_)
    | (go_at_call 15; (with_reducible refine Calls.mono LOAD.out ?_); rintro e w9 ⟨O9, A9, c9, B9, d9, rfl, h9, ra9, rb9, s9⟩; have HB9 := Lib.hid (HB8.out.step h9 s9); have HQ9 := Lib.hid (HQ8.out.step s9); have HRB := Lib.hid rb9.toRdA; clear h9 s9 ra9 rb9 LOAD))
  clear HB8 HQ8
  have hlen : M7.flatten.length = nd := by rw [HSV.out.len_all]; exact HND.out.symm
  have hpf : p < M7.flatten.length := by rw [hlen]; exact HN2.out.2.2
  obtain ⟨rx, hrx⟩ : ∃ rx, rx = M7.flatten[p] := ⟨_, rfl⟩
  have hmem : rx ∈ M7.flatten := by rw [hrx]; exact List.getElem_mem hpf
  obtain ⟨hg1, hg2⟩ := HSV.out.spoilt HPL.out.1.nodup hmem (s := s2)
  have hrok := (HSV.out.right hmem).2.2
  obtain ⟨bb, offb, rfl, hbb, e0, e1, e2⟩ := pq_at HRB.out.rd p hpf
  rw [← hrx] at e0 e1 e2
  obtain ⟨xa, xb, xc⟩ := rx
  have hI : I64 xa := by
    have h := hrok.a0
    have h2 := hrok.a1
    exact ⟨h, h2⟩
  have HE := Lib.hid (And.intro hbb (And.intro e0 (And.intro e1 e2)))
  have HG := Lib.hid (And.intro hg1 hg2)
  have HOK := Lib.hid (And.intro hrok hI)
  have HPN : Hid (P7.N ≤ 1000000) := Lib.hid (by have h1 := HSV.out.N; rw [HPL.out.1.len] at h1; have h2 : (pwM 256 M).N = 0 := rfl; have := HN2.out.2.1; omega)
  have HQK := Lib.hid HSV.out.root_ok
  have HFAR : Hid (¬ O9 bb) := Lib.hid (HRB.out.apart bb offb rfl (by rw [pqs_len, hlen]; have := HN2.out.1; omega))
  clear hlen hpf hrx hmem hg1 hg2 hrok hbb e0 e1 e2 hI HSV HRB
  have HSP9 := Lib.hid (SP.mk HB9.out HQ9.out HFAR.out HE.out.1 HE.out.2.1 HE.out.2.2.1 HE.out.2.2.2)
  clear HB9 HQ9 HFAR HE
  simp only at HG
  obtain ⟨oo, hoo⟩ : ∃ oo, oo = offb + p * 3 := ⟨_, rfl⟩
  rw [← hoo] at HSP9
  have HOO : Hid (offb + p * 3 = oo) := Lib.hid hoo.symm
  clear hoo
  have HDW := Lib.hid (Below.refl w9.heap.size w9).drew
  have HSP := Lib.hid (HSP9.out.later L HDW.out)
  refine wp_region_held_drew (S := (fun w' => w'.cell? ⟨bb, oo, none⟩ = some (.int .i64 xa))) (by kernel_rfl) (HSP.out.c0) (fun hHeld => ?_)
  clear HSP9
  generalize w9.drew = wd at *
  refine wpAnyH_take (i := 0) (v := (.pointer (some ⟨g, 0, none⟩))) rfl (by kernel_rfl) (by kernel_rfl) (by kernel_rfl) (fun _ _ _ h => h) (Or.inl ⟨by rfl, ?_⟩) (by assumption) ?_
  · intro w' hS; go_simp; try with_reducible rfl
  try simp [Act.put]
  refine wpAnyH_take (i := 2) (v := (.slice (some ⟨bb, offb, none⟩) nd d9)) rfl (by kernel_rfl) (by kernel_rfl) (by kernel_rfl) (fun _ _ _ h => h) (Or.inl ⟨by rfl, ?_⟩) (by assumption) ?_
  · intro w' hS; go_simp; try with_reducible rfl
  try simp [Act.put]
  refine wpAnyH_take (i := 3) (v := (.int .i64 (p : Int))) rfl (by kernel_rfl) (by kernel_rfl) (by kernel_rfl) (fun _ _ _ h => h) (Or.inl ⟨by rfl, ?_⟩) (by assumption) ?_
  · intro w' hS; go_simp; try with_reducible rfl
  try simp [Act.put]
  refine wpAnyH_take (i := 4) (v := (.pointer (some ⟨bb, oo, none⟩))) rfl (by kernel_rfl) (by kernel_rfl) (by kernel_rfl) (fun _ _ _ h => h) (Or.inl ⟨by rfl, ?_⟩) (by assumption) ?_
  · intro w' hS
    rw [← HOO.out]
    go_simp; try with_reducible rfl
  try simp [Act.put]
  refine wpAnyH_take (i := 5) (v := (.pointer (some ⟨bb, oo, none⟩))) rfl (by kernel_rfl) (by kernel_rfl) (by kernel_rfl) (fun _ _ _ h => h) (Or.inl ⟨by rfl, ?_⟩) (by assumption) ?_
  · intro w' hS; go_simp; try with_reducible rfl
  try simp [Act.put]
  refine wpAnyH_take (i := 6) (v := (.int .i64 xa)) rfl (by kernel_rfl) (by kernel_rfl) (by kernel_rfl) (fun _ _ _ h => h) (Or.inl ⟨by rfl, ?_⟩) (by assumption) ?_
  · intro w' hS
    have hcc := hS
    go_simp; try with_reducible rfl
  try simp [Act.put]
  refine wpAnyH_ready (rs := [1, 11]) (by kernel_rfl) (by simp) ?_
  refine (AllReadyH.cons rfl (fun K hK => ?_) (AllReadyH.cons rfl (fun K hK => ?_) AllReadyH.nil))
  · skip
    obtain ⟨dg, hdev⟩ := L.dev HSP.out.has.at_ HPN.out
    go_simp
    refine Calls.mono hdev ?_
    rintro e wk41 ⟨rfl, hbd, hkd⟩
    have HKD := Lib.hid hkd
    have HBD : Hid (Below wk41.heap.size wk41 wk41) := Below.refl _ _
    have HSPn := Lib.hid (HSP.out.later L hbd)
    refine hK.out _ _ (HSPn.out.c0) (fun hHeld2 => ?_)
    clear hdev hbd hkd HSP hK K
    have HSP := HSPn
    clear HSPn
    try simp
    clear hHeld
    have hHeld := hHeld2
    clear hHeld2
    refine wpAnyH_ready (rs := [7, 11]) (by kernel_rfl) (by simp) ?_
    refine (AllReadyH.cons rfl (fun K hK => ?_) (AllReadyH.cons rfl (fun K hK => ?_) AllReadyH.nil))
    · skip
      have hcl := (HKD.out wk41 xa HOK.out.2 HBD.out).1
      go_simp
      refine Calls.mono hcl ?_
      rintro e wk42 ⟨Oz, rfl, hat, hst⟩
      have HSPn := Lib.hid (HSP.out.step hat hst)
      refine hK.out _ _ (HSPn.out.c0) (fun hHeld2 => ?_)
      clear hcl hat hst HSP HBD HKD hK K
      have HSP := HSPn
      clear HSPn
      try simp
      clear hHeld
      have hHeld := hHeld2
      clear hHeld2
      refine wpAnyH_take (i := 8) (v := (.tuple #[.agg (readS P7 xa).1.cs.toArray, .int .i64 (readS P7 xa).2])) rfl (by kernel_rfl) (by kernel_rfl) (by kernel_rfl) (fun _ _ _ h => h) (Or.inl ⟨by rfl, ?_⟩) (by assumption) ?_
      · intro w' hS; go_simp; try with_reducible rfl
      try simp [Act.put]
      refine wpAnyH_take (i := 9) (v := (.agg (readS P7 xa).1.cs.toArray)) rfl (by kernel_rfl) (by kernel_rfl) (by kernel_rfl) (fun _ _ _ h => h) (Or.inl ⟨by rfl, ?_⟩) (by assumption) ?_
      · intro w' hS; go_simp; try with_reducible rfl
      try simp [Act.put]
      refine wpAnyH_take (i := 10) (v := (.int .i64 (readS P7 xa).2)) rfl (by kernel_rfl) (by kernel_rfl) (by kernel_rfl) (fun _ _ _ h => h) (Or.inl ⟨by rfl, ?_⟩) (by assumption) ?_
      · intro w' hS; go_simp; try with_reducible rfl
      try simp [Act.put]
      refine wpAnyH_ready (rs := [11]) (by kernel_rfl) (by simp) ?_
      refine (AllReadyH.cons rfl (fun K hK => ?_) AllReadyH.nil)
      have hal := below_alB wk42 (.cells zsec.cs.toArray 46)
      have HSPn := Lib.hid (HSP.out.later L hal)
      have HGXn : Hid (BlkA (wk42.alloc (.cells zsec.cs.toArray 46)) _ wk42.heap.size 46 zsec.cs.toArray) := Lib.hid ⟨Blk.new wk42 46 zsec.cs.toArray, foot_neB L HSP.out.has.at_⟩
      have HGN : Hid (wk42.heap.size ≠ gq ∧ wk42.heap.size ≠ bb ∧ w0.heap.size ≤ wk42.heap.size) := Lib.hid (And.intro (by have := HSP.out.box.blk.lt; omega) (And.intro (by have := HSP.out.lt; omega) HSP.out.has.below.size))
      have hzz := zeroSec
      go_simp
      refine hK.out _ _ (HSPn.out.c0) (fun hHeld2 => ?_)
      clear hal hzz HSP hK K
      have HSP := HSPn
      have HGX := HGXn
      clear HSPn HGXn
      generalize wk42.alloc (.cells zsec.cs.toArray 46) = wk43 at *
      generalize wk42.heap.size = gx at *
      try simp
      clear hHeld
      have hHeld := hHeld2
      clear hHeld2
      refine wpAnyH_ready (rs := [12]) (by kernel_rfl) (by simp) ?_
      refine AllReadyH.cons rfl (fun K hK => ?_) AllReadyH.nil
      refine step_stSB rfl (.tmp 16) (.tmp 86) rfl gx zsec (readS P7 xa).1 rfl rfl HGX.out.blk ?_
      intro wz hbz hcz
      have HSPn := Lib.hid (HSP.out.other L hcz HGX.out.far HGN.out.1 HGN.out.2.1 HGN.out.2.2)
      have HWAS : Hid (BlkA wz _ gx 46 (readS P7 xa).1.cs.toArray) := Lib.hid ⟨hbz, HGX.out.far⟩
      refine hK.out _ _ (HSPn.out.c0) (fun hHeld2 => ?_)
      clear hbz hcz HSP HGX hK K
      have HSP := HSPn
      clear HSPn
      try simp
      clear hHeld
      have hHeld := hHeld2
      clear hHeld2
      refine wpAnyH_take (i := 13) (v := (.int .i64 (readS P7 xa).2)) rfl (by kernel_rfl) (by kernel_rfl) (by kernel_rfl) (fun _ _ _ h => h) (Or.inl ⟨by rfl, ?_⟩) (by assumption) ?_
      · intro w' hS; go_simp; try with_reducible rfl
      try simp [Act.put]
      refine wpAnyH_done (by kernel_rfl) ?_ _
      clear hHeld HDW
      have HSP9 := HSP
      have HGN16 := HGN
      clear HSP HGN
      generalize gx = g16 at *
      obtain ⟨PR, hPR⟩ : ∃ PR, PR = rotW P7 xa s2 := ⟨_, rfl⟩
      have HPR := Lib.hid hPR
      clear hPR
      go_wp2_with fail
      have HDW := Lib.hid (Below.refl wz.heap.size wz).drew
      have HSP := Lib.hid (HSP9.out.later L HDW.out)
      have HWASn := Lib.hid (HWAS.out.later HDW.out)
      clear HWAS
      have HWAS := HWASn
      clear HWASn
      refine wp_region_held_drew (S := (fun w' => w'.cell? ⟨bb, oo, none⟩ = some (.int .i64 xa) ∧ Blk w' w.heap.size 46 s2.cs.toArray)) (by kernel_rfl) (⟨HSP.out.c0, HS0.out.below HSP.out.has.below HSL.out⟩) (fun hHeld => ?_)
      clear HSP9
      generalize wz.drew = wd at *
      refine wpAnyH_take (i := 0) (v := (.pointer (some ⟨g, 0, none⟩))) rfl (by kernel_rfl) (by kernel_rfl) (by kernel_rfl) (fun _ _ _ h => h) (Or.inl ⟨by rfl, ?_⟩) (by assumption) ?_
      · intro w' hS; go_simp; try with_reducible rfl
      try simp [Act.put]
      refine wpAnyH_take (i := 2) (v := (.slice (some ⟨bb, offb, none⟩) nd d9)) rfl (by kernel_rfl) (by kernel_rfl) (by kernel_rfl) (fun _ _ _ h => h) (Or.inl ⟨by rfl, ?_⟩) (by assumption) ?_
      · intro w' hS; go_simp; try with_reducible rfl
      try simp [Act.put]
      refine wpAnyH_take (i := 3) (v := (.int .i64 (p : Int))) rfl (by kernel_rfl) (by kernel_rfl) (by kernel_rfl) (fun _ _ _ h => h) (Or.inl ⟨by rfl, ?_⟩) (by assumption) ?_
      · intro w' hS; go_simp; try with_reducible rfl
      try simp [Act.put]
      refine wpAnyH_take (i := 4) (v := (.pointer (some ⟨bb, oo, none⟩))) rfl (by kernel_rfl) (by kernel_rfl) (by kernel_rfl) (fun _ _ _ h => h) (Or.inl ⟨by rfl, ?_⟩) (by assumption) ?_
      · intro w' hS
        rw [← HOO.out]
        go_simp; try with_reducible rfl
      try simp [Act.put]
      refine wpAnyH_take (i := 5) (v := (.pointer (some ⟨bb, oo, none⟩))) rfl (by kernel_rfl) (by kernel_rfl) (by kernel_rfl) (fun _ _ _ h => h) (Or.inl ⟨by rfl, ?_⟩) (by assumption) ?_
      · intro w' hS; go_simp; try with_reducible rfl
      try simp [Act.put]
      refine wpAnyH_take (i := 6) (v := (.int .i64 xa)) rfl (by kernel_rfl) (by kernel_rfl) (by kernel_rfl) (fun _ _ _ h => h) (Or.inl ⟨by rfl, ?_⟩) (by assumption) ?_
      · intro w' hS
        have hcc := hS.1
        go_simp; try with_reducible rfl
      try simp [Act.put]
      refine wpAnyH_take (i := 7) (v := (.agg s2.cs.toArray)) rfl (by kernel_rfl) (by kernel_rfl) (by kernel_rfl) (fun _ _ _ h => h) (Or.inl ⟨by rfl, ?_⟩) (by assumption) ?_
      · intro w' hS
        exact ex_ldS (.tmp 5) rfl w.heap.size s2 rfl hS.2
      try simp [Act.put]
      refine wpAnyH_ready (rs := [1]) (by kernel_rfl) (by simp) ?_
      refine (AllReadyH.cons rfl (fun K hK => ?_) AllReadyH.nil)
      obtain ⟨dg, hdev⟩ := L.dev HSP.out.has.at_ HPN.out
      go_simp
      refine Calls.mono hdev ?_
      rintro e wk61 ⟨rfl, hbd, hkd⟩
      have HKD := Lib.hid hkd
      have HBD : Hid (Below wk61.heap.size wk61 wk61) := Below.refl _ _
      have HSPn := Lib.hid (HSP.out.later L hbd)
      have HWASn := Lib.hid (HWAS.out.later hbd)
      refine hK.out _ _ (⟨HSPn.out.c0, HS0.out.below HSPn.out.has.below HSL.out⟩) (fun hHeld2 => ?_)
      clear HWAS
      have HWAS := HWASn
      clear HWASn
      clear hdev hbd hkd HSP hK K
      have HSP := HSPn
      clear HSPn
      try simp
      clear hHeld
      have hHeld := hHeld2
      clear hHeld2
      refine wpAnyH_ready (rs := [8]) (by kernel_rfl) (by simp) ?_
      refine (AllReadyH.cons rfl (fun K hK => ?_) AllReadyH.nil)
      have hcl := (HKD.out wk61 xa HOK.out.2 HBD.out).2 s2
      go_simp
      refine Calls.mono hcl ?_
      rintro e wk62 ⟨Oz, v, rfl, hat, hst⟩
      rw [← HPR.out] at hat
      have HSPn := Lib.hid (HSP.out.step hat hst)
      have HWASn := Lib.hid (HWAS.out.step hst)
      refine hK.out _ _ (⟨HSPn.out.c0, HS0.out.below HSPn.out.has.below HSL.out⟩) (fun hHeld2 => ?_)
      clear HWAS
      have HWAS := HWASn
      clear HWASn
      clear hcl hat hst HSP HBD HKD hK K
      have HSP := HSPn
      clear HSPn
      try simp
      clear hHeld
      have hHeld := hHeld2
      clear hHeld2
      refine wpAnyH_done (by kernel_rfl) ?_ _
      clear hHeld HDW
      have HSP9 := HSP
      clear HSP
      generalize wk62 = wz at *
      obtain ⟨gs, gc, hgs⟩ : ∃ gs gc, getS PR (xa, xb, xc) = (gs, gc) := ⟨_, _, rfl⟩
      have GETL : Hid (∀ W O, At W O g PR → Calls Try.prog 19 #[.pointer (some ⟨g, 0, none⟩), ptv xa xb xc] W fun e w' => ∃ O', e = .returned (.tuple #[.agg gs.cs.toArray, .int .i64 gc]) ∧ At w' O' g PR ∧ Step W w' O O') := Lib.hid (fun W O ha => by
        have h := L.get (xa, xb, xc) HOK.out.1 ha
        rw [hgs] at h
        exact h)
      have HGS0 := Lib.hid hgs
      clear hgs
      have q0 := HSP9.out.c0
      have q1 := HSP9.out.c1
      have q2 := HSP9.out.c2
      rw [← HOO.out] at q0 q1 q2
      have hzz := zeroSec
      go_upto_region 15 with (first
        | (refine wpList_valD 102 rfl _ (ex_ldPo (.tmp 101) rfl bb (offb + p * 3) xa xb xc rfl q0 q1 q2) (by rfl) ?_)
        | (go_at_call 19; (with_reducible refine Calls.mono (GETL.out _ _ HSP9.out.has.at_) ?_); rintro e wg ⟨Og, rfl, hat, hst⟩; have HSPg := Lib.hid (HSP9.out.step hat hst); have HWASg := Lib.hid (HWAS.out.step hst); clear hat hst GETL)
        | (refine st_sec rfl (.tmp 18) (.tmp 104) rfl wg.heap.size 0 gs rfl rfl (Blk.new wg _ _).secHas ?_; intro wh hwh))
      have hBh : Below wg.heap.size wg wh := by rw [hwh.out]; exact Below.setCells _ (Nat.le_refl _) _ _ (below_alB wg _)
      clear HSP9 HWAS q0 q1 q2 hzz hwh
      have HSP9 := Lib.hid (HSPg.out.later L hBh)
      have HWAS := Lib.hid (HWASg.out.later hBh)
      clear HSPg HWASg hBh
      obtain ⟨tl, lp, lc, hld⟩ : ∃ tl lp lc, loadF (getS PR) (qa, qb, qc) l0.length = (tl, lp, lc) := ⟨_, _, _, rfl⟩
      have LOADL := Lib.hid (L.load (qa, qb, qc) (l0.length : Int) HQK.out (by have := HLL.out; unfold I64; omega) HSP9.out.has.at_)
      rw [Int.toNat_natCast, hld] at LOADL
      have HLD := Lib.hid hld
      clear hld
      have HBX := Lib.hid HSP9.out.box.blk
      go_upto_region 16 with (first
        | (refine ld_ptr rfl (.tmp 11) rfl gq 25 qa qb qc rfl HBX.out ?_)
        | (go_at_call 15; (with_reducible refine Calls.mono LOADL.out ?_); rintro e wl ⟨Ol, Al, cl, Bl, dl, rfl, hl9, ral, rbl, sl9⟩; have HSPl := Lib.hid (HSP9.out.step hl9 sl9); have HWASl := Lib.hid (HWAS.out.step sl9); have HRA := Lib.hid ral.rd; clear hl9 sl9 ral rbl LOADL))
      clear HSP9 HWAS HBX
      have HBW := Lib.hid (HW.out.trans (HSPl.out.has.below.mono HW.out.size))
      have HS2 := Lib.hid (HS0.out.below HSPl.out.has.below HSL.out)
      rw [← HPR.out, HGS0.out, HLD.out] at HG
      by_cases hsw : s2 = (readS P7 xa).1
      · have hst : s2.same (readS P7 xa).1 = true := Sec.same_iff.2 hsw
        have hgd := HG.out.1 hsw
        simp only [Prod.mk.injEq] at hgd
        obtain ⟨rfl, rfl, rfl⟩ := hgd
        have HST := Lib.hid hst
        clear hsw hst
        have hc1 := bconv (c := cl) HRA.out
        have hc2 := bconv (c := c0) (HR0.out.below HBW.out)
        have hns := neq_self tl
        go_wp2_with (first
          | (refine wpList_valD 115 rfl _ (ex_ldS (.tmp 5) rfl w.heap.size s2 rfl HS2.out) (by rfl) ?_)
          | (refine wpList_valD 116 rfl _ (ex_ldS (.tmp 16) rfl g16 (readS P7 xa).1 rfl HWASl.out.blk) (by rfl) ?_)
          | (refine wpList_valD 117 rfl (.bool true) ((ex_eqS (.tmp 115) (.tmp 116) rfl s2 (readS P7 xa).1 rfl rfl).trans (by rw [HST.out])) (by rfl) ?_))
        go_ret
        exact ⟨rfl, HBW.out⟩
      · have hst : s2.same (readS P7 xa).1 = false := by rw [Bool.eq_false_iff]; exact fun e => hsw (Sec.same_iff.1 e)
        have hgd := HG.out.2 hsw
        have HST := Lib.hid hst
        clear hsw hst
        rcases hgd with hgd | hgd
        · have hgd : gc = 0 := hgd
          subst hgd
          go_wp2_with (first
            | (refine wpList_valD 115 rfl _ (ex_ldS (.tmp 5) rfl w.heap.size s2 rfl HS2.out) (by rfl) ?_)
            | (refine wpList_valD 116 rfl _ (ex_ldS (.tmp 16) rfl g16 (readS P7 xa).1 rfl HWASl.out.blk) (by rfl) ?_)
            | (refine wpList_valD 117 rfl (.bool false) ((ex_eqS (.tmp 115) (.tmp 116) rfl s2 (readS P7 xa).1 rfl rfl).trans (by rw [HST.out])) (by rfl) ?_))
          go_ret
          exact ⟨rfl, HBW.out⟩
        · simp only [Prod.mk.injEq] at hgd
          obtain ⟨rfl, rfl, rfl⟩ := hgd
          by_cases hg0 : gc = 0
          · subst hg0
            go_wp2_with (first
              | (refine wpList_valD 115 rfl _ (ex_ldS (.tmp 5) rfl w.heap.size s2 rfl HS2.out) (by rfl) ?_)
              | (refine wpList_valD 116 rfl _ (ex_ldS (.tmp 16) rfl g16 (readS P7 xa).1 rfl HWASl.out.blk) (by rfl) ?_)
              | (refine wpList_valD 117 rfl (.bool false) ((ex_eqS (.tmp 115) (.tmp 116) rfl s2 (readS P7 xa).1 rfl rfl).trans (by rw [HST.out])) (by rfl) ?_))
            go_ret
            exact ⟨rfl, HBW.out⟩
          · have hg0i : (gc == 0) = false := beq_eq_false_iff_ne.2 hg0
            go_wp2_with (first
              | (refine wpList_valD 115 rfl _ (ex_ldS (.tmp 5) rfl w.heap.size s2 rfl HS2.out) (by rfl) ?_)
              | (refine wpList_valD 116 rfl _ (ex_ldS (.tmp 16) rfl g16 (readS P7 xa).1 rfl HWASl.out.blk) (by rfl) ?_)
              | (refine wpList_valD 117 rfl (.bool false) ((ex_eqS (.tmp 115) (.tmp 116) rfl s2 (readS P7 xa).1 rfl rfl).trans (by rw [HST.out])) (by rfl) ?_))
            go_ret
            exact ⟨rfl, HBW.out⟩
    · skip
      have hal := below_alB wk41 (.cells zsec.cs.toArray 46)
      have HSPn := Lib.hid (HSP.out.later L hal)
      have HGXn : Hid (BlkA (wk41.alloc (.cells zsec.cs.toArray 46)) _ wk41.heap.size 46 zsec.cs.toArray) := Lib.hid ⟨Blk.new wk41 46 zsec.cs.toArray, foot_neB L HSP.out.has.at_⟩
      have HGN : Hid (wk41.heap.size ≠ gq ∧ wk41.heap.size ≠ bb ∧ w0.heap.size ≤ wk41.heap.size) := Lib.hid (And.intro (by have := HSP.out.box.blk.lt; omega) (And.intro (by have := HSP.out.lt; omega) HSP.out.has.below.size))
      have HBDn := Lib.hid (HBD.out.trans (hal.mono HBD.out.size))
      have hzz := zeroSec
      go_simp
      refine hK.out _ _ (HSPn.out.c0) (fun hHeld2 => ?_)
      clear hal hzz HSP HBD hK K
      have HSP := HSPn
      have HGX := HGXn
      clear HSPn HGXn
      have HBD := HBDn
      clear HBDn
      generalize wk41.alloc (.cells zsec.cs.toArray 46) = wk44 at *
      generalize wk41.heap.size = gx at *
      try simp
      clear hHeld
      have hHeld := hHeld2
      clear hHeld2
      refine wpAnyH_ready (rs := [7]) (by kernel_rfl) (by simp) ?_
      refine (AllReadyH.cons rfl (fun K hK => ?_) AllReadyH.nil)
      have hcl := (HKD.out wk44 xa HOK.out.2 HBD.out).1
      go_simp
      refine Calls.mono hcl ?_
      rintro e wk45 ⟨Oz, rfl, hat, hst⟩
      have HSPn := Lib.hid (HSP.out.step hat hst)
      have HGXn := Lib.hid (HGX.out.step hst)
      refine hK.out _ _ (HSPn.out.c0) (fun hHeld2 => ?_)
      clear hcl hat hst HSP HGX HBD HKD hK K
      have HSP := HSPn
      clear HSPn
      have HGX := HGXn
      clear HGXn
      try simp
      clear hHeld
      have hHeld := hHeld2
      clear hHeld2
      refine wpAnyH_take (i := 8) (v := (.tuple #[.agg (readS P7 xa).1.cs.toArray, .int .i64 (readS P7 xa).2])) rfl (by kernel_rfl) (by kernel_rfl) (by kernel_rfl) (fun _ _ _ h => h) (Or.inl ⟨by rfl, ?_⟩) (by assumption) ?_
      · intro w' hS; go_simp; try with_reducible rfl
      try simp [Act.put]
      refine wpAnyH_take (i := 9) (v := (.agg (readS P7 xa).1.cs.toArray)) rfl (by kernel_rfl) (by kernel_rfl) (by kernel_rfl) (fun _ _ _ h => h) (Or.inl ⟨by rfl, ?_⟩) (by assumption) ?_
      · intro w' hS; go_simp; try with_reducible rfl
      try simp [Act.put]
      refine wpAnyH_take (i := 10) (v := (.int .i64 (readS P7 xa).2)) rfl (by kernel_rfl) (by kernel_rfl) (by kernel_rfl) (fun _ _ _ h => h) (Or.inl ⟨by rfl, ?_⟩) (by assumption) ?_
      · intro w' hS; go_simp; try with_reducible rfl
      try simp [Act.put]
      refine wpAnyH_ready (rs := [12]) (by kernel_rfl) (by simp) ?_
      refine AllReadyH.cons rfl (fun K hK => ?_) AllReadyH.nil
      refine step_stSB rfl (.tmp 16) (.tmp 86) rfl gx zsec (readS P7 xa).1 rfl rfl HGX.out.blk ?_
      intro wz hbz hcz
      have HSPn := Lib.hid (HSP.out.other L hcz HGX.out.far HGN.out.1 HGN.out.2.1 HGN.out.2.2)
      have HWAS : Hid (BlkA wz _ gx 46 (readS P7 xa).1.cs.toArray) := Lib.hid ⟨hbz, HGX.out.far⟩
      refine hK.out _ _ (HSPn.out.c0) (fun hHeld2 => ?_)
      clear hbz hcz HSP HGX hK K
      have HSP := HSPn
      clear HSPn
      try simp
      clear hHeld
      have hHeld := hHeld2
      clear hHeld2
      refine wpAnyH_take (i := 13) (v := (.int .i64 (readS P7 xa).2)) rfl (by kernel_rfl) (by kernel_rfl) (by kernel_rfl) (fun _ _ _ h => h) (Or.inl ⟨by rfl, ?_⟩) (by assumption) ?_
      · intro w' hS; go_simp; try with_reducible rfl
      try simp [Act.put]
      refine wpAnyH_done (by kernel_rfl) ?_ _
      clear hHeld HDW
      have HSP9 := HSP
      have HGN16 := HGN
      clear HSP HGN
      generalize gx = g16 at *
      obtain ⟨PR, hPR⟩ : ∃ PR, PR = rotW P7 xa s2 := ⟨_, rfl⟩
      have HPR := Lib.hid hPR
      clear hPR
      go_wp2_with fail
      have HDW := Lib.hid (Below.refl wz.heap.size wz).drew
      have HSP := Lib.hid (HSP9.out.later L HDW.out)
      have HWASn := Lib.hid (HWAS.out.later HDW.out)
      clear HWAS
      have HWAS := HWASn
      clear HWASn
      refine wp_region_held_drew (S := (fun w' => w'.cell? ⟨bb, oo, none⟩ = some (.int .i64 xa) ∧ Blk w' w.heap.size 46 s2.cs.toArray)) (by kernel_rfl) (⟨HSP.out.c0, HS0.out.below HSP.out.has.below HSL.out⟩) (fun hHeld => ?_)
      clear HSP9
      generalize wz.drew = wd at *
      refine wpAnyH_take (i := 0) (v := (.pointer (some ⟨g, 0, none⟩))) rfl (by kernel_rfl) (by kernel_rfl) (by kernel_rfl) (fun _ _ _ h => h) (Or.inl ⟨by rfl, ?_⟩) (by assumption) ?_
      · intro w' hS; go_simp; try with_reducible rfl
      try simp [Act.put]
      refine wpAnyH_take (i := 2) (v := (.slice (some ⟨bb, offb, none⟩) nd d9)) rfl (by kernel_rfl) (by kernel_rfl) (by kernel_rfl) (fun _ _ _ h => h) (Or.inl ⟨by rfl, ?_⟩) (by assumption) ?_
      · intro w' hS; go_simp; try with_reducible rfl
      try simp [Act.put]
      refine wpAnyH_take (i := 3) (v := (.int .i64 (p : Int))) rfl (by kernel_rfl) (by kernel_rfl) (by kernel_rfl) (fun _ _ _ h => h) (Or.inl ⟨by rfl, ?_⟩) (by assumption) ?_
      · intro w' hS; go_simp; try with_reducible rfl
      try simp [Act.put]
      refine wpAnyH_take (i := 4) (v := (.pointer (some ⟨bb, oo, none⟩))) rfl (by kernel_rfl) (by kernel_rfl) (by kernel_rfl) (fun _ _ _ h => h) (Or.inl ⟨by rfl, ?_⟩) (by assumption) ?_
      · intro w' hS
        rw [← HOO.out]
        go_simp; try with_reducible rfl
      try simp [Act.put]
      refine wpAnyH_take (i := 5) (v := (.pointer (some ⟨bb, oo, none⟩))) rfl (by kernel_rfl) (by kernel_rfl) (by kernel_rfl) (fun _ _ _ h => h) (Or.inl ⟨by rfl, ?_⟩) (by assumption) ?_
      · intro w' hS; go_simp; try with_reducible rfl
      try simp [Act.put]
      refine wpAnyH_take (i := 6) (v := (.int .i64 xa)) rfl (by kernel_rfl) (by kernel_rfl) (by kernel_rfl) (fun _ _ _ h => h) (Or.inl ⟨by rfl, ?_⟩) (by assumption) ?_
      · intro w' hS
        have hcc := hS.1
        go_simp; try with_reducible rfl
      try simp [Act.put]
      refine wpAnyH_take (i := 7) (v := (.agg s2.cs.toArray)) rfl (by kernel_rfl) (by kernel_rfl) (by kernel_rfl) (fun _ _ _ h => h) (Or.inl ⟨by rfl, ?_⟩) (by assumption) ?_
      · intro w' hS
        exact ex_ldS (.tmp 5) rfl w.heap.size s2 rfl hS.2
      try simp [Act.put]
      refine wpAnyH_ready (rs := [1]) (by kernel_rfl) (by simp) ?_
      refine (AllReadyH.cons rfl (fun K hK => ?_) AllReadyH.nil)
      obtain ⟨dg, hdev⟩ := L.dev HSP.out.has.at_ HPN.out
      go_simp
      refine Calls.mono hdev ?_
      rintro e wk61 ⟨rfl, hbd, hkd⟩
      have HKD := Lib.hid hkd
      have HBD : Hid (Below wk61.heap.size wk61 wk61) := Below.refl _ _
      have HSPn := Lib.hid (HSP.out.later L hbd)
      have HWASn := Lib.hid (HWAS.out.later hbd)
      refine hK.out _ _ (⟨HSPn.out.c0, HS0.out.below HSPn.out.has.below HSL.out⟩) (fun hHeld2 => ?_)
      clear HWAS
      have HWAS := HWASn
      clear HWASn
      clear hdev hbd hkd HSP hK K
      have HSP := HSPn
      clear HSPn
      try simp
      clear hHeld
      have hHeld := hHeld2
      clear hHeld2
      refine wpAnyH_ready (rs := [8]) (by kernel_rfl) (by simp) ?_
      refine (AllReadyH.cons rfl (fun K hK => ?_) AllReadyH.nil)
      have hcl := (HKD.out wk61 xa HOK.out.2 HBD.out).2 s2
      go_simp
      refine Calls.mono hcl ?_
      rintro e wk62 ⟨Oz, v, rfl, hat, hst⟩
      rw [← HPR.out] at hat
      have HSPn := Lib.hid (HSP.out.step hat hst)
      have HWASn := Lib.hid (HWAS.out.step hst)
      refine hK.out _ _ (⟨HSPn.out.c0, HS0.out.below HSPn.out.has.below HSL.out⟩) (fun hHeld2 => ?_)
      clear HWAS
      have HWAS := HWASn
      clear HWASn
      clear hcl hat hst HSP HBD HKD hK K
      have HSP := HSPn
      clear HSPn
      try simp
      clear hHeld
      have hHeld := hHeld2
      clear hHeld2
      refine wpAnyH_done (by kernel_rfl) ?_ _
      clear hHeld HDW
      have HSP9 := HSP
      clear HSP
      generalize wk62 = wz at *
      obtain ⟨gs, gc, hgs⟩ : ∃ gs gc, getS PR (xa, xb, xc) = (gs, gc) := ⟨_, _, rfl⟩
      have GETL : Hid (∀ W O, At W O g PR → Calls Try.prog 19 #[.pointer (some ⟨g, 0, none⟩), ptv xa xb xc] W fun e w' => ∃ O', e = .returned (.tuple #[.agg gs.cs.toArray, .int .i64 gc]) ∧ At w' O' g PR ∧ Step W w' O O') := Lib.hid (fun W O ha => by
        have h := L.get (xa, xb, xc) HOK.out.1 ha
        rw [hgs] at h
        exact h)
      have HGS0 := Lib.hid hgs
      clear hgs
      have q0 := HSP9.out.c0
      have q1 := HSP9.out.c1
      have q2 := HSP9.out.c2
      rw [← HOO.out] at q0 q1 q2
      have hzz := zeroSec
      go_upto_region 15 with (first
        | (refine wpList_valD 102 rfl _ (ex_ldPo (.tmp 101) rfl bb (offb + p * 3) xa xb xc rfl q0 q1 q2) (by rfl) ?_)
        | (go_at_call 19; (with_reducible refine Calls.mono (GETL.out _ _ HSP9.out.has.at_) ?_); rintro e wg ⟨Og, rfl, hat, hst⟩; have HSPg := Lib.hid (HSP9.out.step hat hst); have HWASg := Lib.hid (HWAS.out.step hst); clear hat hst GETL)
        | (refine st_sec rfl (.tmp 18) (.tmp 104) rfl wg.heap.size 0 gs rfl rfl (Blk.new wg _ _).secHas ?_; intro wh hwh))
      have hBh : Below wg.heap.size wg wh := by rw [hwh.out]; exact Below.setCells _ (Nat.le_refl _) _ _ (below_alB wg _)
      clear HSP9 HWAS q0 q1 q2 hzz hwh
      have HSP9 := Lib.hid (HSPg.out.later L hBh)
      have HWAS := Lib.hid (HWASg.out.later hBh)
      clear HSPg HWASg hBh
      obtain ⟨tl, lp, lc, hld⟩ : ∃ tl lp lc, loadF (getS PR) (qa, qb, qc) l0.length = (tl, lp, lc) := ⟨_, _, _, rfl⟩
      have LOADL := Lib.hid (L.load (qa, qb, qc) (l0.length : Int) HQK.out (by have := HLL.out; unfold I64; omega) HSP9.out.has.at_)
      rw [Int.toNat_natCast, hld] at LOADL
      have HLD := Lib.hid hld
      clear hld
      have HBX := Lib.hid HSP9.out.box.blk
      go_upto_region 16 with (first
        | (refine ld_ptr rfl (.tmp 11) rfl gq 25 qa qb qc rfl HBX.out ?_)
        | (go_at_call 15; (with_reducible refine Calls.mono LOADL.out ?_); rintro e wl ⟨Ol, Al, cl, Bl, dl, rfl, hl9, ral, rbl, sl9⟩; have HSPl := Lib.hid (HSP9.out.step hl9 sl9); have HWASl := Lib.hid (HWAS.out.step sl9); have HRA := Lib.hid ral.rd; clear hl9 sl9 ral rbl LOADL))
      clear HSP9 HWAS HBX
      have HBW := Lib.hid (HW.out.trans (HSPl.out.has.below.mono HW.out.size))
      have HS2 := Lib.hid (HS0.out.below HSPl.out.has.below HSL.out)
      rw [← HPR.out, HGS0.out, HLD.out] at HG
      by_cases hsw : s2 = (readS P7 xa).1
      · have hst : s2.same (readS P7 xa).1 = true := Sec.same_iff.2 hsw
        have hgd := HG.out.1 hsw
        simp only [Prod.mk.injEq] at hgd
        obtain ⟨rfl, rfl, rfl⟩ := hgd
        have HST := Lib.hid hst
        clear hsw hst
        have hc1 := bconv (c := cl) HRA.out
        have hc2 := bconv (c := c0) (HR0.out.below HBW.out)
        have hns := neq_self tl
        go_wp2_with (first
          | (refine wpList_valD 115 rfl _ (ex_ldS (.tmp 5) rfl w.heap.size s2 rfl HS2.out) (by rfl) ?_)
          | (refine wpList_valD 116 rfl _ (ex_ldS (.tmp 16) rfl g16 (readS P7 xa).1 rfl HWASl.out.blk) (by rfl) ?_)
          | (refine wpList_valD 117 rfl (.bool true) ((ex_eqS (.tmp 115) (.tmp 116) rfl s2 (readS P7 xa).1 rfl rfl).trans (by rw [HST.out])) (by rfl) ?_))
        go_ret
        exact ⟨rfl, HBW.out⟩
      · have hst : s2.same (readS P7 xa).1 = false := by rw [Bool.eq_false_iff]; exact fun e => hsw (Sec.same_iff.1 e)
        have hgd := HG.out.2 hsw
        have HST := Lib.hid hst
        clear hsw hst
        rcases hgd with hgd | hgd
        · have hgd : gc = 0 := hgd
          subst hgd
          go_wp2_with (first
            | (refine wpList_valD 115 rfl _ (ex_ldS (.tmp 5) rfl w.heap.size s2 rfl HS2.out) (by rfl) ?_)
            | (refine wpList_valD 116 rfl _ (ex_ldS (.tmp 16) rfl g16 (readS P7 xa).1 rfl HWASl.out.blk) (by rfl) ?_)
            | (refine wpList_valD 117 rfl (.bool false) ((ex_eqS (.tmp 115) (.tmp 116) rfl s2 (readS P7 xa).1 rfl rfl).trans (by rw [HST.out])) (by rfl) ?_))
          go_ret
          exact ⟨rfl, HBW.out⟩
        · simp only [Prod.mk.injEq] at hgd
          obtain ⟨rfl, rfl, rfl⟩ := hgd
          by_cases hg0 : gc = 0
          · subst hg0
            go_wp2_with (first
              | (refine wpList_valD 115 rfl _ (ex_ldS (.tmp 5) rfl w.heap.size s2 rfl HS2.out) (by rfl) ?_)
              | (refine wpList_valD 116 rfl _ (ex_ldS (.tmp 16) rfl g16 (readS P7 xa).1 rfl HWASl.out.blk) (by rfl) ?_)
              | (refine wpList_valD 117 rfl (.bool false) ((ex_eqS (.tmp 115) (.tmp 116) rfl s2 (readS P7 xa).1 rfl rfl).trans (by rw [HST.out])) (by rfl) ?_))
            go_ret
            exact ⟨rfl, HBW.out⟩
          · have hg0i : (gc == 0) = false := beq_eq_false_iff_ne.2 hg0
            go_wp2_with (first
              | (refine wpList_valD 115 rfl _ (ex_ldS (.tmp 5) rfl w.heap.size s2 rfl HS2.out) (by rfl) ?_)
              | (refine wpList_valD 116 rfl _ (ex_ldS (.tmp 16) rfl g16 (readS P7 xa).1 rfl HWASl.out.blk) (by rfl) ?_)
              | (refine wpList_valD 117 rfl (.bool false) ((ex_eqS (.tmp 115) (.tmp 116) rfl s2 (readS P7 xa).1 rfl rfl).trans (by rw [HST.out])) (by rfl) ?_))
            go_ret
            exact ⟨rfl, HBW.out⟩
  · skip
    have hal := below_alB wd (.cells zsec.cs.toArray 46)
    have HSPn := Lib.hid (HSP.out.later L hal)
    have HGXn : Hid (BlkA (wd.alloc (.cells zsec.cs.toArray 46)) _ wd.heap.size 46 zsec.cs.toArray) := Lib.hid ⟨Blk.new wd 46 zsec.cs.toArray, foot_neB L HSP.out.has.at_⟩
    have HGN : Hid (wd.heap.size ≠ gq ∧ wd.heap.size ≠ bb ∧ w0.heap.size ≤ wd.heap.size) := Lib.hid (And.intro (by have := HSP.out.box.blk.lt; omega) (And.intro (by have := HSP.out.lt; omega) HSP.out.has.below.size))
    have hzz := zeroSec
    go_simp
    refine hK.out _ _ (HSPn.out.c0) (fun hHeld2 => ?_)
    clear hal hzz HSP hK K
    have HSP := HSPn
    have HGX := HGXn
    clear HSPn HGXn
    generalize wd.alloc (.cells zsec.cs.toArray 46) = wk46 at *
    generalize wd.heap.size = gx at *
    try simp
    clear hHeld
    have hHeld := hHeld2
    clear hHeld2
    refine wpAnyH_ready (rs := [1]) (by kernel_rfl) (by simp) ?_
    refine (AllReadyH.cons rfl (fun K hK => ?_) AllReadyH.nil)
    obtain ⟨dg, hdev⟩ := L.dev HSP.out.has.at_ HPN.out
    go_simp
    refine Calls.mono hdev ?_
    rintro e wk47 ⟨rfl, hbd, hkd⟩
    have HKD := Lib.hid hkd
    have HBD : Hid (Below wk47.heap.size wk47 wk47) := Below.refl _ _
    have HSPn := Lib.hid (HSP.out.later L hbd)
    have HGXn := Lib.hid (HGX.out.later hbd)
    refine hK.out _ _ (HSPn.out.c0) (fun hHeld2 => ?_)
    clear hdev hbd hkd HSP HGX hK K
    have HSP := HSPn
    clear HSPn
    have HGX := HGXn
    clear HGXn
    try simp
    clear hHeld
    have hHeld := hHeld2
    clear hHeld2
    refine wpAnyH_ready (rs := [7]) (by kernel_rfl) (by simp) ?_
    refine (AllReadyH.cons rfl (fun K hK => ?_) AllReadyH.nil)
    have hcl := (HKD.out wk47 xa HOK.out.2 HBD.out).1
    go_simp
    refine Calls.mono hcl ?_
    rintro e wk48 ⟨Oz, rfl, hat, hst⟩
    have HSPn := Lib.hid (HSP.out.step hat hst)
    have HGXn := Lib.hid (HGX.out.step hst)
    refine hK.out _ _ (HSPn.out.c0) (fun hHeld2 => ?_)
    clear hcl hat hst HSP HGX HBD HKD hK K
    have HSP := HSPn
    clear HSPn
    have HGX := HGXn
    clear HGXn
    try simp
    clear hHeld
    have hHeld := hHeld2
    clear hHeld2
    refine wpAnyH_take (i := 8) (v := (.tuple #[.agg (readS P7 xa).1.cs.toArray, .int .i64 (readS P7 xa).2])) rfl (by kernel_rfl) (by kernel_rfl) (by kernel_rfl) (fun _ _ _ h => h) (Or.inl ⟨by rfl, ?_⟩) (by assumption) ?_
    · intro w' hS; go_simp; try with_reducible rfl
    try simp [Act.put]
    refine wpAnyH_take (i := 9) (v := (.agg (readS P7 xa).1.cs.toArray)) rfl (by kernel_rfl) (by kernel_rfl) (by kernel_rfl) (fun _ _ _ h => h) (Or.inl ⟨by rfl, ?_⟩) (by assumption) ?_
    · intro w' hS; go_simp; try with_reducible rfl
    try simp [Act.put]
    refine wpAnyH_take (i := 10) (v := (.int .i64 (readS P7 xa).2)) rfl (by kernel_rfl) (by kernel_rfl) (by kernel_rfl) (fun _ _ _ h => h) (Or.inl ⟨by rfl, ?_⟩) (by assumption) ?_
    · intro w' hS; go_simp; try with_reducible rfl
    try simp [Act.put]
    refine wpAnyH_ready (rs := [12]) (by kernel_rfl) (by simp) ?_
    refine AllReadyH.cons rfl (fun K hK => ?_) AllReadyH.nil
    refine step_stSB rfl (.tmp 16) (.tmp 86) rfl gx zsec (readS P7 xa).1 rfl rfl HGX.out.blk ?_
    intro wz hbz hcz
    have HSPn := Lib.hid (HSP.out.other L hcz HGX.out.far HGN.out.1 HGN.out.2.1 HGN.out.2.2)
    have HWAS : Hid (BlkA wz _ gx 46 (readS P7 xa).1.cs.toArray) := Lib.hid ⟨hbz, HGX.out.far⟩
    refine hK.out _ _ (HSPn.out.c0) (fun hHeld2 => ?_)
    clear hbz hcz HSP HGX hK K
    have HSP := HSPn
    clear HSPn
    try simp
    clear hHeld
    have hHeld := hHeld2
    clear hHeld2
    refine wpAnyH_take (i := 13) (v := (.int .i64 (readS P7 xa).2)) rfl (by kernel_rfl) (by kernel_rfl) (by kernel_rfl) (fun _ _ _ h => h) (Or.inl ⟨by rfl, ?_⟩) (by assumption) ?_
    · intro w' hS; go_simp; try with_reducible rfl
    try simp [Act.put]
    refine wpAnyH_done (by kernel_rfl) ?_ _
    clear hHeld HDW
    have HSP9 := HSP
    have HGN16 := HGN
    clear HSP HGN
    generalize gx = g16 at *
    obtain ⟨PR, hPR⟩ : ∃ PR, PR = rotW P7 xa s2 := ⟨_, rfl⟩
    have HPR := Lib.hid hPR
    clear hPR
    go_wp2_with fail
    have HDW := Lib.hid (Below.refl wz.heap.size wz).drew
    have HSP := Lib.hid (HSP9.out.later L HDW.out)
    have HWASn := Lib.hid (HWAS.out.later HDW.out)
    clear HWAS
    have HWAS := HWASn
    clear HWASn
    refine wp_region_held_drew (S := (fun w' => w'.cell? ⟨bb, oo, none⟩ = some (.int .i64 xa) ∧ Blk w' w.heap.size 46 s2.cs.toArray)) (by kernel_rfl) (⟨HSP.out.c0, HS0.out.below HSP.out.has.below HSL.out⟩) (fun hHeld => ?_)
    clear HSP9
    generalize wz.drew = wd at *
    refine wpAnyH_take (i := 0) (v := (.pointer (some ⟨g, 0, none⟩))) rfl (by kernel_rfl) (by kernel_rfl) (by kernel_rfl) (fun _ _ _ h => h) (Or.inl ⟨by rfl, ?_⟩) (by assumption) ?_
    · intro w' hS; go_simp; try with_reducible rfl
    try simp [Act.put]
    refine wpAnyH_take (i := 2) (v := (.slice (some ⟨bb, offb, none⟩) nd d9)) rfl (by kernel_rfl) (by kernel_rfl) (by kernel_rfl) (fun _ _ _ h => h) (Or.inl ⟨by rfl, ?_⟩) (by assumption) ?_
    · intro w' hS; go_simp; try with_reducible rfl
    try simp [Act.put]
    refine wpAnyH_take (i := 3) (v := (.int .i64 (p : Int))) rfl (by kernel_rfl) (by kernel_rfl) (by kernel_rfl) (fun _ _ _ h => h) (Or.inl ⟨by rfl, ?_⟩) (by assumption) ?_
    · intro w' hS; go_simp; try with_reducible rfl
    try simp [Act.put]
    refine wpAnyH_take (i := 4) (v := (.pointer (some ⟨bb, oo, none⟩))) rfl (by kernel_rfl) (by kernel_rfl) (by kernel_rfl) (fun _ _ _ h => h) (Or.inl ⟨by rfl, ?_⟩) (by assumption) ?_
    · intro w' hS
      rw [← HOO.out]
      go_simp; try with_reducible rfl
    try simp [Act.put]
    refine wpAnyH_take (i := 5) (v := (.pointer (some ⟨bb, oo, none⟩))) rfl (by kernel_rfl) (by kernel_rfl) (by kernel_rfl) (fun _ _ _ h => h) (Or.inl ⟨by rfl, ?_⟩) (by assumption) ?_
    · intro w' hS; go_simp; try with_reducible rfl
    try simp [Act.put]
    refine wpAnyH_take (i := 6) (v := (.int .i64 xa)) rfl (by kernel_rfl) (by kernel_rfl) (by kernel_rfl) (fun _ _ _ h => h) (Or.inl ⟨by rfl, ?_⟩) (by assumption) ?_
    · intro w' hS
      have hcc := hS.1
      go_simp; try with_reducible rfl
    try simp [Act.put]
    refine wpAnyH_take (i := 7) (v := (.agg s2.cs.toArray)) rfl (by kernel_rfl) (by kernel_rfl) (by kernel_rfl) (fun _ _ _ h => h) (Or.inl ⟨by rfl, ?_⟩) (by assumption) ?_
    · intro w' hS
      exact ex_ldS (.tmp 5) rfl w.heap.size s2 rfl hS.2
    try simp [Act.put]
    refine wpAnyH_ready (rs := [1]) (by kernel_rfl) (by simp) ?_
    refine (AllReadyH.cons rfl (fun K hK => ?_) AllReadyH.nil)
    obtain ⟨dg, hdev⟩ := L.dev HSP.out.has.at_ HPN.out
    go_simp
    refine Calls.mono hdev ?_
    rintro e wk61 ⟨rfl, hbd, hkd⟩
    have HKD := Lib.hid hkd
    have HBD : Hid (Below wk61.heap.size wk61 wk61) := Below.refl _ _
    have HSPn := Lib.hid (HSP.out.later L hbd)
    have HWASn := Lib.hid (HWAS.out.later hbd)
    refine hK.out _ _ (⟨HSPn.out.c0, HS0.out.below HSPn.out.has.below HSL.out⟩) (fun hHeld2 => ?_)
    clear HWAS
    have HWAS := HWASn
    clear HWASn
    clear hdev hbd hkd HSP hK K
    have HSP := HSPn
    clear HSPn
    try simp
    clear hHeld
    have hHeld := hHeld2
    clear hHeld2
    refine wpAnyH_ready (rs := [8]) (by kernel_rfl) (by simp) ?_
    refine (AllReadyH.cons rfl (fun K hK => ?_) AllReadyH.nil)
    have hcl := (HKD.out wk61 xa HOK.out.2 HBD.out).2 s2
    go_simp
    refine Calls.mono hcl ?_
    rintro e wk62 ⟨Oz, v, rfl, hat, hst⟩
    rw [← HPR.out] at hat
    have HSPn := Lib.hid (HSP.out.step hat hst)
    have HWASn := Lib.hid (HWAS.out.step hst)
    refine hK.out _ _ (⟨HSPn.out.c0, HS0.out.below HSPn.out.has.below HSL.out⟩) (fun hHeld2 => ?_)
    clear HWAS
    have HWAS := HWASn
    clear HWASn
    clear hcl hat hst HSP HBD HKD hK K
    have HSP := HSPn
    clear HSPn
    try simp
    clear hHeld
    have hHeld := hHeld2
    clear hHeld2
    refine wpAnyH_done (by kernel_rfl) ?_ _
    clear hHeld HDW
    have HSP9 := HSP
    clear HSP
    generalize wk62 = wz at *
    obtain ⟨gs, gc, hgs⟩ : ∃ gs gc, getS PR (xa, xb, xc) = (gs, gc) := ⟨_, _, rfl⟩
    have GETL : Hid (∀ W O, At W O g PR → Calls Try.prog 19 #[.pointer (some ⟨g, 0, none⟩), ptv xa xb xc] W fun e w' => ∃ O', e = .returned (.tuple #[.agg gs.cs.toArray, .int .i64 gc]) ∧ At w' O' g PR ∧ Step W w' O O') := Lib.hid (fun W O ha => by
      have h := L.get (xa, xb, xc) HOK.out.1 ha
      rw [hgs] at h
      exact h)
    have HGS0 := Lib.hid hgs
    clear hgs
    have q0 := HSP9.out.c0
    have q1 := HSP9.out.c1
    have q2 := HSP9.out.c2
    rw [← HOO.out] at q0 q1 q2
    have hzz := zeroSec
    go_upto_region 15 with (first
      | (refine wpList_valD 102 rfl _ (ex_ldPo (.tmp 101) rfl bb (offb + p * 3) xa xb xc rfl q0 q1 q2) (by rfl) ?_)
      | (go_at_call 19; (with_reducible refine Calls.mono (GETL.out _ _ HSP9.out.has.at_) ?_); rintro e wg ⟨Og, rfl, hat, hst⟩; have HSPg := Lib.hid (HSP9.out.step hat hst); have HWASg := Lib.hid (HWAS.out.step hst); clear hat hst GETL)
      | (refine st_sec rfl (.tmp 18) (.tmp 104) rfl wg.heap.size 0 gs rfl rfl (Blk.new wg _ _).secHas ?_; intro wh hwh))
    have hBh : Below wg.heap.size wg wh := by rw [hwh.out]; exact Below.setCells _ (Nat.le_refl _) _ _ (below_alB wg _)
    clear HSP9 HWAS q0 q1 q2 hzz hwh
    have HSP9 := Lib.hid (HSPg.out.later L hBh)
    have HWAS := Lib.hid (HWASg.out.later hBh)
    clear HSPg HWASg hBh
    obtain ⟨tl, lp, lc, hld⟩ : ∃ tl lp lc, loadF (getS PR) (qa, qb, qc) l0.length = (tl, lp, lc) := ⟨_, _, _, rfl⟩
    have LOADL := Lib.hid (L.load (qa, qb, qc) (l0.length : Int) HQK.out (by have := HLL.out; unfold I64; omega) HSP9.out.has.at_)
    rw [Int.toNat_natCast, hld] at LOADL
    have HLD := Lib.hid hld
    clear hld
    have HBX := Lib.hid HSP9.out.box.blk
    go_upto_region 16 with (first
      | (refine ld_ptr rfl (.tmp 11) rfl gq 25 qa qb qc rfl HBX.out ?_)
      | (go_at_call 15; (with_reducible refine Calls.mono LOADL.out ?_); rintro e wl ⟨Ol, Al, cl, Bl, dl, rfl, hl9, ral, rbl, sl9⟩; have HSPl := Lib.hid (HSP9.out.step hl9 sl9); have HWASl := Lib.hid (HWAS.out.step sl9); have HRA := Lib.hid ral.rd; clear hl9 sl9 ral rbl LOADL))
    clear HSP9 HWAS HBX
    have HBW := Lib.hid (HW.out.trans (HSPl.out.has.below.mono HW.out.size))
    have HS2 := Lib.hid (HS0.out.below HSPl.out.has.below HSL.out)
    rw [← HPR.out, HGS0.out, HLD.out] at HG
    by_cases hsw : s2 = (readS P7 xa).1
    · have hst : s2.same (readS P7 xa).1 = true := Sec.same_iff.2 hsw
      have hgd := HG.out.1 hsw
      simp only [Prod.mk.injEq] at hgd
      obtain ⟨rfl, rfl, rfl⟩ := hgd
      have HST := Lib.hid hst
      clear hsw hst
      have hc1 := bconv (c := cl) HRA.out
      have hc2 := bconv (c := c0) (HR0.out.below HBW.out)
      have hns := neq_self tl
      go_wp2_with (first
        | (refine wpList_valD 115 rfl _ (ex_ldS (.tmp 5) rfl w.heap.size s2 rfl HS2.out) (by rfl) ?_)
        | (refine wpList_valD 116 rfl _ (ex_ldS (.tmp 16) rfl g16 (readS P7 xa).1 rfl HWASl.out.blk) (by rfl) ?_)
        | (refine wpList_valD 117 rfl (.bool true) ((ex_eqS (.tmp 115) (.tmp 116) rfl s2 (readS P7 xa).1 rfl rfl).trans (by rw [HST.out])) (by rfl) ?_))
      go_ret
      exact ⟨rfl, HBW.out⟩
    · have hst : s2.same (readS P7 xa).1 = false := by rw [Bool.eq_false_iff]; exact fun e => hsw (Sec.same_iff.1 e)
      have hgd := HG.out.2 hsw
      have HST := Lib.hid hst
      clear hsw hst
      rcases hgd with hgd | hgd
      · have hgd : gc = 0 := hgd
        subst hgd
        go_wp2_with (first
          | (refine wpList_valD 115 rfl _ (ex_ldS (.tmp 5) rfl w.heap.size s2 rfl HS2.out) (by rfl) ?_)
          | (refine wpList_valD 116 rfl _ (ex_ldS (.tmp 16) rfl g16 (readS P7 xa).1 rfl HWASl.out.blk) (by rfl) ?_)
          | (refine wpList_valD 117 rfl (.bool false) ((ex_eqS (.tmp 115) (.tmp 116) rfl s2 (readS P7 xa).1 rfl rfl).trans (by rw [HST.out])) (by rfl) ?_))
        go_ret
        exact ⟨rfl, HBW.out⟩
      · simp only [Prod.mk.injEq] at hgd
        obtain ⟨rfl, rfl, rfl⟩ := hgd
        by_cases hg0 : gc = 0
        · subst hg0
          go_wp2_with (first
            | (refine wpList_valD 115 rfl _ (ex_ldS (.tmp 5) rfl w.heap.size s2 rfl HS2.out) (by rfl) ?_)
            | (refine wpList_valD 116 rfl _ (ex_ldS (.tmp 16) rfl g16 (readS P7 xa).1 rfl HWASl.out.blk) (by rfl) ?_)
            | (refine wpList_valD 117 rfl (.bool false) ((ex_eqS (.tmp 115) (.tmp 116) rfl s2 (readS P7 xa).1 rfl rfl).trans (by rw [HST.out])) (by rfl) ?_))
          go_ret
          exact ⟨rfl, HBW.out⟩
        · have hg0i : (gc == 0) = false := beq_eq_false_iff_ne.2 hg0
          go_wp2_with (first
            | (refine wpList_valD 115 rfl _ (ex_ldS (.tmp 5) rfl w.heap.size s2 rfl HS2.out) (by rfl) ?_)
            | (refine wpList_valD 116 rfl _ (ex_ldS (.tmp 16) rfl g16 (readS P7 xa).1 rfl HWASl.out.blk) (by rfl) ?_)
            | (refine wpList_valD 117 rfl (.bool false) ((ex_eqS (.tmp 115) (.tmp 116) rfl s2 (readS P7 xa).1 rfl rfl).trans (by rw [HST.out])) (by rfl) ?_))
          go_ret
          exact ⟨rfl, HBW.out⟩
end
end Go.Proofs.Ytdcegkeaopjbnaa
