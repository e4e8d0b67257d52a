/- The laws on blobs, walked over the calls' contracts: BlobBack. -/
import Derived.Test.YtdcegkeaopjbnaaAA
set_option maxRecDepth 10000
namespace Go.Proofs.Ytdcegkeaopjbnaa
open Go.RowKit

/-- Which sectors the first so many pointers lead to. -/
def inQ (fl : List PtrV) (k : Nat) (i : Nat) : Bool := (fl.take k).any fun r => r.1 == (i : Int)
theorem inQ_zero (fl : List PtrV) : inQ fl 0 = fun _ => false := funext fun i => by simp [inQ]
theorem inQ_next {fl : List PtrV} {k a : Nat} (hk : k < fl.length) (ha : fl[k].1 = (a : Int)) (i : Nat) : inQ fl (k + 1) i = if i = a then true else inQ fl k i := by
  unfold inQ
  rw [List.take_succ_eq_append_getElem hk, List.any_append]
  simp only [List.any_cons, List.any_nil, Bool.or_false, ha]
  by_cases h : i = a
  · subst h
    simp
  · rw [if_neg h]
    have : ((a : Int) == (i : Int)) = false := by rw [beq_eq_false_iff_ne]; omega
    rw [this, Bool.or_false]
theorem inQ_new {fl : List PtrV} {k a : Nat} (hk : k < fl.length) (ha : fl[k].1 = (a : Int)) (hn : (fl.map fun r => r.1).Nodup) : inQ fl k a = false := by
  rw [Bool.eq_false_iff]
  intro h
  obtain ⟨r, hr, e⟩ := List.any_eq_true.1 h
  obtain ⟨j, hj, rfl⟩ := List.getElem_of_mem hr
  rw [List.length_take] at hj
  have e2 : fl[j].1 = fl[k].1 := by
    rw [List.getElem_take] at e
    rw [ha]
    exact beq_iff_eq.1 e
  have := nodup_inj hn (i := j) (j := k) (by rw [List.length_map]; omega) (by rw [List.length_map]; exact hk) (by rw [List.getElem_map, List.getElem_map]; exact e2)
  omega
theorem inQ_all {fl : List PtrV} {i : Nat} (h : ∃ r ∈ fl, r.1 = (i : Int)) : inQ fl fl.length i = true := by
  obtain ⟨r, hr, e⟩ := h
  unfold inQ
  rw [List.take_of_length_le (Nat.le_refl _)]
  exact List.any_eq_true.2 ⟨r, hr, by rw [e]; simp⟩
section
variable {At : World → (Nat → Prop) → Nat → Pw → Prop}
set_option maxRecDepth 60000 in
set_option maxHeartbeats 4000000 in
theorem blobBack_any (L : BlobCalls At) (w : World) (A0 : Option Addr) (c0 : Nat) (l0 : List UInt8) (hR0 : Rd w w.heap.size A0 (bys l0)) (hL0 : l0.length ≤ 140737488351232) :
    Calls Try.prog 5 #[.slice A0 l0.length c0] w fun e w' => e = .returned (.bool true) ∧ Below w.heap.size w w' := by
  have HA := Lib.hid (blobAlive_any L w)
  have HN := Lib.hid (fun w' => L.need (l0.length : Int) w' (by unfold I64; omega))
  rw [Int.toNat_natCast] at HN
  obtain ⟨nd, hnd⟩ : ∃ nd, nd = needF l0.length := ⟨_, rfl⟩
  rw [← hnd] at HN
  by_cases h1 : l0.length = 0
  · have hz : nd = 0 := by rw [hnd]; exact need_no (by omega)
    subst hz
    rw [h1] at HN ⊢
    clear hR0 hL0 hnd h1
    go_enter Try.func5, Try.ntmps5
    go_wp2_with (first
      | (go_at_call 10; (with_reducible refine Calls.mono HA.out ?_); rintro e w1 ⟨rfl, hb1⟩; have HB1 := Lib.hid hb1; clear hb1 HA)
      | (go_at_call 11; (with_reducible refine Calls.mono (HN.out _) ?_); rintro e w2 ⟨rfl, hb2⟩; have HB2 := Lib.hid (HB1.out.trans (hb2.mono HB1.out.size)); clear hb2 HN))
    go_ret
    exact ⟨rfl, HB2.out⟩
  by_cases h2 : 65535 < l0.length
  · have hz : nd = 0 := by rw [hnd]; exact need_no (by omega)
    subst hz
    have d1 : ((l0.length : Int) == 0) = false := by rw [beq_eq_false_iff_ne]; omega
    have d2 : decide ((65535 : Int) < (l0.length : Int)) = true := decide_eq_true (by omega)
    clear hR0 hL0 hnd h1 h2
    go_enter Try.func5, Try.ntmps5
    go_wp2_with (first
      | (go_at_call 10; (with_reducible refine Calls.mono HA.out ?_); rintro e w1 ⟨rfl, hb1⟩; have HB1 := Lib.hid hb1; clear hb1 HA)
      | (go_at_call 11; (with_reducible refine Calls.mono (HN.out _) ?_); rintro e w2 ⟨rfl, hb2⟩; have HB2 := Lib.hid (HB1.out.trans (hb2.mono HB1.out.size)); clear hb2 HN))
    go_ret
    exact ⟨rfl, HB2.out⟩
  have hl : 1 ≤ l0.length ∧ l0.length ≤ 65535 := by omega
  obtain ⟨n1, n2, _, _⟩ := need_pos hl
  rw [← hnd] at n1 n2
  have HL := Lib.hid hl
  have HND := Lib.hid hnd
  have HN2 := Lib.hid (And.intro n1 n2)
  have HR0 := Lib.hid hR0
  have HLL : Hid (l0.length ≤ 140737488355328) := Lib.hid (by omega)
  have d1 : ((l0.length : Int) == 0) = false := by rw [beq_eq_false_iff_ne]; omega
  have d2 : decide ((65535 : Int) < (l0.length : Int)) = false := decide_eq_false (by omega)
  have d3 : ((nd : Int) == 0) = false := by rw [beq_eq_false_iff_ne]; omega
  have d4 : (nd : Int) ≤ 585 := by omega
  have d5 : (0 : Int) < (nd : Int) := by omega
  have HM := Lib.hid (fun W => L.made 1024 W (by omega))
  clear hR0 hL0 h1 h2 hnd hl n1 n2
  go_enter Try.func5, Try.ntmps5
  go_upto_region 9 with (first
    | (go_at_call 10; (with_reducible refine Calls.mono HA.out ?_); rintro e w1 ⟨rfl, hb1⟩; have HB1 := Lib.hid hb1; clear hb1 HA)
    | (go_at_call 11; (with_reducible refine Calls.mono (HN.out _) ?_); rintro e w2 ⟨rfl, hb2⟩; have HB2 := Lib.hid (HB1.out.trans (hb2.mono HB1.out.size)); clear hb2 HN)
    | (go_at_call 9; (with_reducible refine Calls.mono (HM.out _) ?_); rintro e w3 ⟨O3, g, rfl, h3, hO3, hb3⟩; have HB3 := Lib.hid (HasB.first HB2.out h3 hO3 hb3); clear h3 hO3 hb3 HM))
  obtain ⟨gm, hmap⟩ := mk_manyN L 1024 nd (by omega) (by omega) (by have := HN2.out.2; omega) HB3.out.at_
  have HMP := Lib.hid hmap
  clear hmap
  go_upto_region 10 with (first
    | (go_at_call 13; (with_reducible refine Calls.mono HMP.out ?_); rintro e w4 ⟨rfl, hb4, hmn⟩; have HMN := Lib.hid (hmn w4 (Below.refl _ _)); have HB4 := Lib.hid (HB3.out.far L hb4); clear hmn hb4 HMP)
    | (go_at_call 14; (with_reducible refine Calls.mono HMN.out ?_); rintro e w5 ⟨O5, A5, c5, at_, M, rfl, h5, r5, s5, hpl, hcp⟩; have HB5 := Lib.hid (show HasB At w w5 O5 g _ from ⟨h5, fun j hj => (s5.new j hj).elim (HB3.out.lo j) (fun h => Nat.le_trans HB4.out.below.size h), HB4.out.below.trans (s5.chg.below HB3.out.lo HB4.out.below.size)⟩); have HR5 := Lib.hid r5; have HPL := Lib.hid (And.intro hpl hcp); clear HMN h5 r5 s5 hpl hcp))
  have HF5 := Lib.hid (fun j (hj : O5 j) => L.foot HB5.out.at_ j hj)
  have SAVE := Lib.hid (fun W (hb : Below w5.heap.size w5 W) A c (hr : RdA W O5 A (bys l0)) (hc : l0.length ≤ c) => mk_save L (by omega) (HB5.out.far L hb).at_ HPL.out.1 HND.out HL.out hr hc (HR5.out.far hb) HPL.out.2)
  go_upto_region 11 with (first
    | (at_builtin; refine app_bytesC rfl 49 50 rfl rfl w.heap.size A0 l0.length c0 l0 O5 rfl rfl (HR0.out.below (HB5.out.below.alloc HB5.out.below.size _)) HLL.out HF5.out ?_; intro A6 c6 w6 hrd6 hcp6 hb6; have SV := Lib.hid (SAVE.out w6 hb6 A6 c6 hrd6 hcp6); have HB6 := Lib.hid (HB5.out.far L hb6); have HR6 := Lib.hid (HR5.out.far hb6); clear hrd6 hcp6 hb6 SAVE)
    | (go_at_call 8; (with_reducible refine Calls.mono SV.out ?_); rintro e w7 ⟨O7, P7, ⟨qa, qb, qc⟩, M7, rfl, h7, s7, hsv⟩; have HB7 := Lib.hid (HB6.out.step h7 s7); have HR7 := Lib.hid (HR6.out.step s7); have HSV := Lib.hid hsv; clear h7 s7 hsv SV)
    | (refine st_ptB rfl (.tmp 7) (.tmp 54) rfl w7.heap.size (pcs 0 0 0) qa qb qc rfl rfl (Blk.new w7 _ _) rfl ?_; intro w8 hb8 hc8))
  have hch8 := hc8 (· = w7.heap.size) rfl
  have hb78 : Below w7.heap.size w7 w8 := (below_alB w7 (.cells (pcs 0 0 0) 25)).trans (hch8.below (fun k e => by subst e; exact Nat.le_refl _) (below_alB w7 (.cells (pcs 0 0 0) 25)).size)
  have HB8 := Lib.hid (HB7.out.far L hb78)
  have HR8 := Lib.hid (HR7.out.far hb78)
  have HQ8 : Hid (BlkA w8 O7 w7.heap.size 25 (pcs qa qb qc)) := Lib.hid ⟨hb8, foot_neB L HB7.out.at_⟩
  have LOAD := Lib.hid (mk_load L HB8.out.at_ HSV.out HND.out HL.out.2)
  clear hb8 hc8 hch8 hb78 HB7 HR7 HB6 HR6 HB5 HR5 HB4 HB3 HF5
  generalize w7.heap.size = gq at *
  go_upto_region 12 with (first
    | (refine ld_ptr rfl (.tmp 7) rfl gq 25 qa qb qc rfl HQ8.out.blk ?_)
    | (go_at_call 15; (with_reducible refine Calls.mono LOAD.out ?_); rintro e w9 ⟨O9, A9, c9, B9, d9, rfl, h9, ra9, rb9, s9⟩; have HB9 := Lib.hid (HB8.out.step h9 s9); have HR9 := Lib.hid (HR8.out.step s9).rd; have HQ9 := Lib.hid (HQ8.out.step s9).blk; have HRA := Lib.hid ra9.rd; have HRB := Lib.hid rb9.rd; clear h9 s9 ra9 rb9 LOAD))
  clear HB8 HR8 HQ8
  have HBW := Lib.hid HB9.out.below
  clear HB9 HB1 HB2
  obtain ⟨xs, x, hxs, hqx⟩ := HSV.out.root_at
  have hqx : qa = (x : Int) := hqx
  subst hqx
  have hlen : M7.flatten.length = nd := by rw [HSV.out.len_all]; exact HND.out.symm
  have hnod := HSV.out.nodup HPL.out.1.nodup
  obtain ⟨ba, offa, rfl, hbla, hcella⟩ := HR9.out (by rw [ints_len, natI_len, HPL.out.1.len]; exact HN2.out.1)
  have hxl : xs.length + 1 = nd := by rw [← HPL.out.1.len, hxs]; simp
  have hlast := hcella (nd - 1) (.int .i64 (x : Int)) (by
    rw [hxs, ← hxl, Nat.add_sub_cancel]
    simp [ints, natI])
  have HLA := Lib.hid (And.intro hbla (And.intro hcella hlast))
  have HFL := Lib.hid (And.intro hlen hnod)
  have HIN := Lib.hid (fun r (hr : r ∈ M7.flatten) => HSV.out.in_at hr)
  have HAL := Lib.hid (fun i (hi : i ∈ at_) => HSV.out.at_in hi)
  clear hlen hnod hxl hlast hbla hcella hxs HR9 HSV
  generalize M7.flatten = fl at *
  have HDW := Lib.hid (Below.refl w9.heap.size w9).drew
  refine wp_region_held_drew (S := (fun w' => Below w9.heap.size w9 w')) (by kernel_rfl) HDW.out (fun hHeld => ?_)
  generalize hwd : w9.drew = wd at *
  clear hwd hqx
  refine wpAnyH_take (i := 0) (v := (.int .i64 0)) rfl (by kernel_rfl) (by kernel_rfl) (by kernel_rfl) (fun _ _ _ h => h) (Or.inl ⟨by rfl, ?_⟩) (by assumption) ?_
  · intro w' hS; go_simp; try with_reducible rfl
  try simp [Act.put]
  refine wpAnyH_take (i := 1) (v := (.bool false)) rfl (by kernel_rfl) (by kernel_rfl) (by kernel_rfl) (fun _ _ _ h => h) (Or.inl ⟨by rfl, ?_⟩) (by assumption) ?_
  · intro w' hS; go_simp; try with_reducible rfl
  try simp [Act.put]
  refine wpAnyH_take (i := 2) (v := (.bool false)) rfl (by kernel_rfl) (by kernel_rfl) (by kernel_rfl) (fun _ _ _ h => h) (Or.inl ⟨by rfl, ?_⟩) (by assumption) ?_
  · intro w' hS; go_simp; try with_reducible rfl
  try simp [Act.put]
  refine wpAnyH_take (i := 3) (v := (.int .i64 0)) rfl (by kernel_rfl) (by kernel_rfl) (by kernel_rfl) (fun _ _ _ h => h) (Or.inl ⟨by rfl, ?_⟩) (by assumption) ?_
  · intro w' hS; go_simp; try with_reducible rfl
  try simp [Act.put]
  refine wpAnyH_take (i := 4) (v := (.bool false)) rfl (by kernel_rfl) (by kernel_rfl) (by kernel_rfl) (fun _ _ _ h => h) (Or.inl ⟨by rfl, ?_⟩) (by assumption) ?_
  · intro w' hS; go_simp; try with_reducible rfl
  try simp [Act.put]
  refine wpAnyH_take (i := 5) (v := (.bool false)) rfl (by kernel_rfl) (by kernel_rfl) (by kernel_rfl) (fun _ _ _ h => h) (Or.inl ⟨by rfl, ?_⟩) (by assumption) ?_
  · intro w' hS; go_simp; try with_reducible rfl
  try simp [Act.put]
  refine wpAnyH_take (i := 6) (v := (.bool false)) rfl (by kernel_rfl) (by kernel_rfl) (by kernel_rfl) (fun _ _ _ h => h) (Or.inl ⟨by rfl, ?_⟩) (by assumption) ?_
  · intro w' hS; go_simp; try with_reducible rfl
  try simp [Act.put]
  refine wpAnyH_take (i := 7) (v := (.slice A9 l0.length c9)) rfl (by kernel_rfl) (by kernel_rfl) (by kernel_rfl) (fun _ _ _ h => h) (Or.inl ⟨by rfl, ?_⟩) (by assumption) ?_
  · intro w' hS; go_simp; try with_reducible rfl
  try simp [Act.put]
  refine wpAnyH_take (i := 8) (v := (.string (qstrF l0))) rfl (by kernel_rfl) (by kernel_rfl) (by kernel_rfl) (fun _ _ _ h => h) (Or.inl ⟨by rfl, ?_⟩) (by assumption) ?_
  · intro w' hS
    have hcc := bconv (c := c9) (HRA.out.below hS)
    go_simp; try with_reducible rfl
  try simp [Act.put]
  refine wpAnyH_take (i := 9) (v := (.slice A0 l0.length c0)) rfl (by kernel_rfl) (by kernel_rfl) (by kernel_rfl) (fun _ _ _ h => h) (Or.inl ⟨by rfl, ?_⟩) (by assumption) ?_
  · intro w' hS; go_simp; try with_reducible rfl
  try simp [Act.put]
  refine wpAnyH_take (i := 10) (v := (.string (qstrF l0))) rfl (by kernel_rfl) (by kernel_rfl) (by kernel_rfl) (fun _ _ _ h => h) (Or.inl ⟨by rfl, ?_⟩) (by assumption) ?_
  · intro w' hS
    have hcc := bconv (c := c0) (HR0.out.below (HBW.out.trans (hS.mono HBW.out.size)))
    go_simp; try with_reducible rfl
  try simp [Act.put]
  refine wpAnyH_take (i := 11) (v := (.bool false)) rfl (by kernel_rfl) (by kernel_rfl) (by kernel_rfl) (fun _ _ _ h => h) (Or.inl ⟨by rfl, ?_⟩) (by assumption) ?_
  · intro w' hS; go_simp; try with_reducible rfl
  try simp [Act.put]
  refine wpAnyH_take (i := 12) (v := (.bool false)) rfl (by kernel_rfl) (by kernel_rfl) (by kernel_rfl) (fun _ _ _ h => h) (Or.inl ⟨by rfl, ?_⟩) (by assumption) ?_
  · intro w' hS; go_simp; try with_reducible rfl
  try simp [Act.put]
  refine wpAnyH_take (i := 13) (v := (.bool false)) rfl (by kernel_rfl) (by kernel_rfl) (by kernel_rfl) (fun _ _ _ h => h) (Or.inl ⟨by rfl, ?_⟩) (by assumption) ?_
  · intro w' hS; go_simp; try with_reducible rfl
  try simp [Act.put]
  refine wpAnyH_take (i := 14) (v := (.slice B9 nd d9)) rfl (by kernel_rfl) (by kernel_rfl) (by kernel_rfl) (fun _ _ _ h => h) (Or.inl ⟨by rfl, ?_⟩) (by assumption) ?_
  · intro w' hS; go_simp; try with_reducible rfl
  try simp [Act.put]
  refine wpAnyH_take (i := 15) (v := (.int .i64 (nd : Int))) rfl (by kernel_rfl) (by kernel_rfl) (by kernel_rfl) (fun _ _ _ h => h) (Or.inl ⟨by rfl, ?_⟩) (by assumption) ?_
  · intro w' hS; go_simp; try with_reducible rfl
  try simp [Act.put]
  refine wpAnyH_take (i := 16) (v := (.int .i64 (nd : Int))) rfl (by kernel_rfl) (by kernel_rfl) (by kernel_rfl) (fun _ _ _ h => h) (Or.inl ⟨by rfl, ?_⟩) (by assumption) ?_
  · intro w' hS; go_simp; try with_reducible rfl
  try simp [Act.put]
  refine wpAnyH_take (i := 17) (v := (.bool false)) rfl (by kernel_rfl) (by kernel_rfl) (by kernel_rfl) (fun _ _ _ h => h) (Or.inl ⟨by rfl, ?_⟩) (by assumption) ?_
  · intro w' hS; go_simp; try with_reducible rfl
  try simp [Act.put]
  refine wpAnyH_take (i := 18) (v := (.bool false)) rfl (by kernel_rfl) (by kernel_rfl) (by kernel_rfl) (fun _ _ _ h => h) (Or.inl ⟨by rfl, ?_⟩) (by assumption) ?_
  · intro w' hS; go_simp; try with_reducible rfl
  try simp [Act.put]
  refine wpAnyH_take (i := 19) (v := (.bool false)) rfl (by kernel_rfl) (by kernel_rfl) (by kernel_rfl) (fun _ _ _ h => h) (Or.inl ⟨by rfl, ?_⟩) (by assumption) ?_
  · intro w' hS; go_simp; try with_reducible rfl
  try simp [Act.put]
  refine wpAnyH_take (i := 20) (v := (.pointer (some ⟨gq, 0, none⟩))) rfl (by kernel_rfl) (by kernel_rfl) (by kernel_rfl) (fun _ _ _ h => h) (Or.inl ⟨by rfl, ?_⟩) (by assumption) ?_
  · intro w' hS; go_simp; try with_reducible rfl
  try simp [Act.put]
  refine wpAnyH_take (i := 21) (v := (.int .i64 (x : Int))) rfl (by kernel_rfl) (by kernel_rfl) (by kernel_rfl) (fun _ _ _ h => h) (Or.inl ⟨by rfl, ?_⟩) (by assumption) ?_
  · intro w' hS
    have hcc : w'.cell? ⟨gq, 0, none⟩ = some (.int .i64 (x : Int)) := (HQ9.out.below hS HQ9.out.lt).cell 0
    go_simp; try with_reducible rfl
  try simp [Act.put]
  refine wpAnyH_take (i := 22) (v := (.slice (some ⟨ba, offa, none⟩) nd c5)) rfl (by kernel_rfl) (by kernel_rfl) (by kernel_rfl) (fun _ _ _ h => h) (Or.inl ⟨by rfl, ?_⟩) (by assumption) ?_
  · intro w' hS; go_simp; try with_reducible rfl
  try simp [Act.put]
  refine wpAnyH_take (i := 23) (v := (.int .i64 (nd : Int))) rfl (by kernel_rfl) (by kernel_rfl) (by kernel_rfl) (fun _ _ _ h => h) (Or.inl ⟨by rfl, ?_⟩) (by assumption) ?_
  · intro w' hS; go_simp; try with_reducible rfl
  try simp [Act.put]
  refine wpAnyH_take (i := 24) (v := (.int .i64 ((nd - 1 : Nat) : Int))) rfl (by kernel_rfl) (by kernel_rfl) (by kernel_rfl) (fun _ _ _ h => h) (Or.inl ⟨by rfl, ?_⟩) (by assumption) ?_
  · intro w' hS
    rw [show ((nd - 1 : Nat) : Int) = (nd : Int) - 1 by omega]
    go_simp
    rw [IntKind.wrap_i64]
    omega
  try simp [Act.put]
  refine wpAnyH_take (i := 25) (v := (.pointer (some ⟨ba, offa + (nd - 1), none⟩))) rfl (by kernel_rfl) (by kernel_rfl) (by kernel_rfl) (fun _ _ _ h => h) (Or.inl ⟨by rfl, ?_⟩) (by assumption) ?_
  · intro w' hS
    have hxx : ((nd - 1 : Nat) : Int) < (nd : Int) := by omega
    go_simp; try with_reducible rfl
  try simp [Act.put]
  refine wpAnyH_take (i := 26) (v := (.int .i64 (x : Int))) rfl (by kernel_rfl) (by kernel_rfl) (by kernel_rfl) (fun _ _ _ h => h) (Or.inl ⟨by rfl, ?_⟩) (by assumption) ?_
  · intro w' hS
    have hcc := (hS.cell (p := ⟨ba, offa + (nd - 1), none⟩) HLA.out.1).trans HLA.out.2.2
    go_simp; try with_reducible rfl
  try simp [Act.put]
  refine wpAnyH_take (i := 27) (v := (.bool false)) rfl (by kernel_rfl) (by kernel_rfl) (by kernel_rfl) (fun _ _ _ h => h) (Or.inl ⟨by rfl, ?_⟩) (by assumption) ?_
  · intro w' hS; go_simp; try with_reducible rfl
  try simp [Act.put]
  refine wpAnyH_take (i := 28) (v := (.bool false)) rfl (by kernel_rfl) (by kernel_rfl) (by kernel_rfl) (fun _ _ _ h => h) (Or.inl ⟨by rfl, ?_⟩) (by assumption) ?_
  · intro w' hS; go_simp; try with_reducible rfl
  try simp [Act.put]
  refine wpAnyH_done (by kernel_rfl) ?_ _
  clear hHeld
  obtain ⟨CA, hCA⟩ : ∃ CA, CA = bs64 (fun _ => false) 1024 := ⟨_, rfl⟩
  have hbA := build1024
  have hzA := zero1024
  rw [← hCA] at hbA hzA
  have hsA : (Try.prog.info? 43).map (·.size) = some CA.size := by rw [hCA]; exact size1024 _
  have hoA : CA.all (·.oneCell') = true := by rw [hCA]; exact one1024 _ _
  have HCA := Lib.hid hCA
  clear hCA
  go_upto_region 15 with (refine st_rowB rfl (.tmp 12) (.tmp 94) rfl wd.heap.size CA CA rfl rfl (Blk.new wd _ _) hsA rfl hoA ?_; intro w10 hb10 hc10)
  have hb1 : Below wd.heap.size wd w10 := (below_alB wd (.cells CA 43)).trans (hc10.below (fun k e => by subst e; exact Nat.le_refl _) (below_alB wd (.cells CA 43)).size)
  have HB10 := Lib.hid (HDW.out.trans (hb1.mono HDW.out.size))
  have HGA := Lib.hid HDW.out.size
  have HA10 : Hid (Blk w10 wd.heap.size 43 (bs64 (inQ fl 0) 1024)) := Lib.hid (by rw [inQ_zero, ← HCA.out]; exact hb10)
  clear hb1 hb10 hc10 hsA hoA hbA hzA HCA HDW
  generalize wd.heap.size = ga at *
  obtain ⟨bb, offb, rfl, hblb, _⟩ := HRB.out (by rw [pqs_len, HFL.out.1]; have := HN2.out.1; omega)
  have HBB := Lib.hid hblb
  clear hblb
  go_wp2_with fail
  go_loopw [97] (fun i wr => ∃ (k : Nat), k ≤ nd ∧ i = .int .i64 (k : Int) ∧ Blk wr ga 43 (bs64 (inQ fl k) 1024) ∧ Chg w10 wr (· = ga)) (fun i _ => nd - (intOf i).toNat)
  case atStart => exact ⟨0, Nat.zero_le _, rfl, HA10.out, Chg.refl _ _⟩
  case round =>
    obtain ⟨k, hk, rfl, hbk, hch⟩ := hrel
    have HBK := Lib.hid (And.intro hbk hch)
    clear hbk hch
    by_cases hlt : k < nd
    · have hki : (k : Int) < (nd : Int) := by omega
      have hkf : k < fl.length := by rw [HFL.out.1]; exact hlt
      obtain ⟨b', off', e', hbl', e0, e1, e2⟩ := pq_at HRB.out k hkf
      simp only [Option.some.injEq, Addr.mk.injEq, and_true] at e'
      obtain ⟨rfl, rfl⟩ := e'
      obtain ⟨a, ha, hqa⟩ := HIN.out _ (List.getElem_mem hkf)
      have ha4 := (HPL.out.1.is a ha).2.1
      have hai : (a : Int) < 1024 := by omega
      have ha0 : (0 : Int) ≤ (a : Int) := by omega
      have hnew := inQ_new hkf hqa HFL.out.2
      have HNX := Lib.hid (inQ_next hkf hqa)
      have hne : ¬ bb = ga := by have := HBB.out; have := HGA.out; omega
      have hlb : bb < w10.heap.size := Nat.lt_of_lt_of_le HBB.out HB10.out.size
      have f0 := (HBK.out.2.cell hlb hne _).trans ((HB10.out.cell (p := ⟨bb, offb + k * 3, none⟩) HBB.out).trans e0)
      have f1 := (HBK.out.2.cell hlb hne _).trans ((HB10.out.cell (p := ⟨bb, offb + k * 3 + 1, none⟩) HBB.out).trans e1)
      have f2 := (HBK.out.2.cell hlb hne _).trans ((HB10.out.cell (p := ⟨bb, offb + k * 3 + 2, none⟩) HBB.out).trans e2)
      rw [hqa] at f0
      clear e0 e1 e2
      generalize fl[k].2.1 = rb at *
      generalize fl[k].2.2 = rc at *
      have HK := Lib.hid (And.intro hlt (And.intro hnew ha4))
      clear hlt hkf hbl' hqa hnew ha4 ha hk hne hlb
      go_upto_region 18 with (first
        | (refine wpList_valD 100 rfl _ (ex_ldPo (.tmp 99) rfl bb (offb + k * 3) (a : Int) rb rc rfl f0 f1 f2) (by rfl) ?_)
        | (refine st_ptB rfl (.tmp 14) (.tmp 100) rfl wr.heap.size (pcs 0 0 0) (a : Int) rb rc rfl rfl (Blk.new wr _ _) rfl ?_; intro w12 hb12 hc12))
      have hc2 := hc12 (· = wr.heap.size) rfl
      have hgx : ga < wr.heap.size := HBK.out.1.lt
      have hA12 : Blk w12 ga 43 (bs64 (inQ fl k) 1024) := (HBK.out.1.below (below_alB wr (.cells (pcs 0 0 0) 25)) hgx).chg hc2 (by omega)
      have hH12 : Chg w10 w12 (· = ga) := (HBK.out.2.alloc _).trans hc2 fun j hj e => by have := HBK.out.2.size; omega
      have hx0 : w12.cell? ⟨wr.heap.size, 0, none⟩ = some (.int .i64 (a : Int)) := hb12.cell 0
      have hcf : w12.cell? ⟨ga, a, none⟩ = some (.bool false) := (hA12.cell a).trans (by rw [bs64_at _ HK.out.2.2, HK.out.2.1])
      have hff := hA12.frozen a
      have HA12 := Lib.hid (And.intro hA12 hH12)
      clear hb12 hc12 hc2 hA12 hH12 HBK f0 f1 f2
      go_upto_region 21 with fail
      have HA13 : Hid (Blk (w12.setCell ⟨ga, a, none⟩ (.bool true)) ga 43 (bs64 (inQ fl (k + 1)) 1024) ∧ Chg w10 (w12.setCell ⟨ga, a, none⟩ (.bool true)) (· = ga)) := Lib.hid (by
        have h9 := HA12.out.1.set_ a (.bool true)
        rw [bs64_set (q := inQ fl (k + 1)) HK.out.2.2 (by rw [HNX.out a, if_pos rfl]) (fun j hj => by rw [HNX.out j, if_neg hj])] at h9
        exact ⟨h9, HA12.out.2.setCell (p := ⟨ga, a, none⟩) (.inl rfl) _⟩)
      clear hcf hff HA12 hx0 hgx
      generalize w12.setCell ⟨ga, a, none⟩ (.bool true) = w13 at *
      go_wp2_with fail
      go_roundw
      case rel => exact ⟨k + 1, HK.out.1, by go_num, HA13.out.1, HA13.out.2⟩
      case measure => have := HK.out.1; simp [intOf]; omega
    · obtain rfl : k = nd := by omega
      clear hlt hk
      have HAL2 : Hid (∀ i ∈ at_, inQ fl k i = true) := Lib.hid (fun i hi => by
        have h := inQ_all (HAL.out i hi)
        rwa [HFL.out.1] at h)
      have HC2 := Lib.hid (fun (j : Nat) (v : Value) (h : (ints (natI at_))[j]? = some v) => (HBK.out.2.cell (Nat.lt_of_lt_of_le HLA.out.1 HB10.out.size) (show ¬ ba = ga by have := HLA.out.1; have := HGA.out; omega) (offa + j)).trans ((HB10.out.cell (p := ⟨ba, offa + j, none⟩) HLA.out.1).trans (HLA.out.2.1 j v h)))
      have HBE : Hid (Below w.heap.size w wr) := Lib.hid ((HBW.out.trans (HB10.out.mono HBW.out.size)).trans (HBK.out.2.below (fun j e => by subst e; exact Nat.le_trans HBW.out.size HGA.out) (Nat.le_trans HBW.out.size HB10.out.size)))
      have HBF := Lib.hid HBK.out.1
      clear HBK HRB HLA HA10
      go_wp2_with fail
      obtain ⟨wE, rfl⟩ : ∃ wE, wE = wr := ⟨_, rfl⟩
      go_loopw [111] (fun i wz => ∃ (j : Nat), j ≤ k ∧ i = .int .i64 (j : Int) ∧ wz = wE) (fun i _ => k - (intOf i).toNat)
      case atStart => exact ⟨0, Nat.zero_le _, rfl, rfl⟩
      case round =>
        obtain ⟨j, hj, rfl, rfl⟩ := hrel
        by_cases hlt : j < k
        · have hji : (j : Int) < (k : Int) := by omega
          have hja : j < at_.length := by rw [HPL.out.1.len]; exact hlt
          have hcj := HC2.out j _ (ints_natI_at hja)
          have hmem := List.getElem_mem hja
          have hin := HAL2.out _ hmem
          have ha4 := (HPL.out.1.is _ hmem).2.1
          generalize at_[j] = a at *
          have hai : (a : Int) < 1024 := by omega
          have ha0 : (0 : Int) ≤ (a : Int) := by omega
          have hcf : wr.cell? ⟨ga, a, none⟩ = some (.bool true) := (HBF.out.cell a).trans (by rw [bs64_at _ ha4, hin])
          have HJ := Lib.hid hlt
          clear hlt hja hmem hin ha4 hj
          go_wp2_with fail
          go_roundw
          case rel => exact ⟨j + 1, HJ.out, by go_num, trivial⟩
          case measure => have := HJ.out; simp [intOf]; omega
        · obtain rfl : j = k := by omega
          go_wp2_with fail
          go_ret
          exact ⟨rfl, HBE.out⟩
end
end Go.Proofs.Ytdcegkeaopjbnaa
