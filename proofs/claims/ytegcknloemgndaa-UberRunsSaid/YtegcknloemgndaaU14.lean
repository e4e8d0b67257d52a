/- Walks: the laws' example. Printed by genu14.py. -/
import Derived.Test.YtegcknloemgndaaU13
set_option maxRecDepth 10000
namespace Go.Proofs.Ytegcknloemgndaa
open Go.RowKit

theorem At.below_goes {w0 w w' : World} {B n : Nat} {D : Dev} {pv pv' : Value} {s : St} (h : At w B n D pv s) (hb : Below B w0 w) (hB : B ≤ w0.heap.size) (hG : Goes D w pv w' pv') : Below B w0 w' :=
  hb.trans (hG.chg.below (fun k hk => h.ge k hk) (Nat.le_trans hB hb.size))
theorem RdN.at_ {w : World} {D : Dev} {pv : Value} {A : Option Addr} {l : List Ub} (h : RdN w D pv A (flatU l)) (k : Nat) (u : Ub) (hu : l[k]? = some u) : ∃ b off, A = some ⟨b, off, none⟩ ∧ b < w.heap.size ∧ ¬ D.own pv b ∧ w.rangeAt b (off + k * 7) u.cs := by
  obtain ⟨hk, rfl⟩ := List.getElem?_eq_some_iff.1 hu
  obtain ⟨b, off, e, hl, ho, hc⟩ := h (by rw [flatU_len]; omega)
  refine ⟨b, off, e, hl, ho, fun j v hv => ?_⟩
  have hj : j < 7 := by have := (List.getElem?_eq_some_iff.1 hv).1; rwa [Ub.cs_len] at this
  rw [Nat.add_assoc]
  exact hc _ v (by rw [flatU_at l k hk j hj]; exact hv)
theorem range_below {w w' : World} {b k : Nat} {cs : List Value} (h : w.rangeAt b k cs) (hb : Below w.heap.size w w') (hl : b < w.heap.size) : w'.rangeAt b k cs := fun j v hv => (hb.cell (p := ⟨b, k + j, none⟩) hl).trans (h j v hv)
theorem range_goes {w w' : World} {D : Dev} {pv pv' : Value} {b k : Nat} {cs : List Value} (h : w.rangeAt b k cs) (hG : Goes D w pv w' pv') (hl : b < w.heap.size) (ho : ¬ D.own pv b) : w'.rangeAt b k cs := fun j v hv => (hG.chg.cell hl ho _).trans (h j v hv)
/-- What the example's last test reads. -/
structure Ex (w : World) (B : Nat) (D : Dev) (pv : Value) (s : St) (g b off : Nat) : Prop where
  best : w.rangeAt g 0 sm2.cs
  first : w.rangeAt b off sm1.cs
  at_ : At w B 4 D pv s
  lg : g < w.heap.size
  lb : b < w.heap.size
theorem Ex.below {w w' : World} {B : Nat} {D : Dev} {pv : Value} {s : St} {g b off : Nat} (h : Ex w B D pv s g b off) (hb : Below w.heap.size w w') : Ex w' B D pv s g b off :=
  ⟨range_below h.best hb h.lg, range_below h.first hb h.lb, h.at_.of_below hb, Nat.lt_of_lt_of_le h.lg hb.size, Nat.lt_of_lt_of_le h.lb hb.size⟩
theorem sm1_any (w : World) : Calls Try.prog 30 #[.int .u64 1] w fun e w' => e = .returned (.agg sm1.cs.toArray) ∧ Below w.heap.size w w' := small_any 1 (by omega) w
theorem sm2_any (w : World) : Calls Try.prog 30 #[.int .u64 2] w fun e w' => e = .returned (.agg sm2.cs.toArray) ∧ Below w.heap.size w w' := small_any 2 (by omega) w
section
variable {w : World} {B : Nat} {D : Dev} {pv : Value}
theorem commit1 (h : At w B 4 D pv ex0) : Calls Try.prog 21 #[.pointer (some ⟨D.g, 0, none⟩), .agg sm1.cs.toArray] w fun e w' => ∃ pv', e = .returned (.int .i64 0) ∧ At w' B 4 D pv' ex1 ∧ Goes D w pv w' pv' := by
  have h1 := commit_any h sm1 (by show [].length ≤ 1000000; simp)
  rw [ex1_all.1] at h1
  exact h1
theorem commit2 (h : At w B 4 D pv ex1) : Calls Try.prog 21 #[.pointer (some ⟨D.g, 0, none⟩), .agg sm2.cs.toArray] w fun e w' => ∃ pv', e = .returned (.int .i64 0) ∧ At w' B 4 D pv' ex2 ∧ Goes D w pv w' pv' := by
  have h1 := commit_any h sm2 (by rw [ex1_all.2.1.pend]; simp)
  rw [ex2_all.1] at h1
  exact h1
theorem best2 (h : At w B 4 D pv ex2) : Calls Try.prog 9 #[.pointer (some ⟨D.g, 0, none⟩)] w fun e w' => e = .returned (.tuple #[.agg sm2.cs.toArray, .bool true]) ∧ At w' B 4 D pv (ex2.counts 4) ∧ Goes D w pv w' pv := by
  have h1 := best_any h
  rw [ex2_best] at h1
  exact h1
theorem list2 (h : At w B 4 D pv (ex2.counts 4)) : Calls Try.prog 25 #[.pointer (some ⟨D.g, 0, none⟩)] w fun e w' => ∃ b off c, e = .returned (.slice (some ⟨b, off, none⟩) 2 c) ∧ (w'.rangeAt b off sm1.cs ∧ b < w'.heap.size) ∧ At w' B 4 D pv ((ex2.counts 4).counts 4) ∧ Goes D w pv w' pv := by
  have h1 := list_any h
  rw [list_counts, ex2_list] at h1
  refine h1.mono ?_
  rintro e w' ⟨A, c, rfl, hr, hA, hG⟩
  obtain ⟨b, off, rfl, hl, _, h0⟩ := hr.at_ 0 sm1 rfl
  exact ⟨b, off, c, rfl, ⟨by simpa using h0, hl⟩, hA, hG⟩
theorem pend2 (h : At w B 4 D pv ((ex2.counts 4).counts 4)) : Calls Try.prog 33 #[.pointer (some ⟨D.g, 0, none⟩)] w fun e w' => e = .returned (.int .i64 0) ∧ w' = w := by
  have h1 := pending_any h
  rw [(counts_like _ 4).2.2.1, (counts_like _ 4).2.2.1, ex2_all.2.1.pend] at h1
  exact h1
end
set_option maxHeartbeats 2000000 in
theorem alive_any (w : World) : Calls Try.prog 11 #[] w fun e w' => e = .returned (.bool true) ∧ Below w.heap.size w w' := by
  have hz : ∀ w, Sem.run Try.prog (zeroValue 27) w = .ok (.agg zub.cs.toArray) w := zeroUb
  have HN := new_any 4 w
  rw [many4] at HN
  have HNE := Lib.hid HN
  have HS1 := Lib.hid sm1_any
  have HS2 := Lib.hid sm2_any
  have HW : Hid (w.heap.size ≤ w.heap.size) := Nat.le_refl _
  have hsame := Ub.same_self
  clear HN
  go_enter Try.func11, Try.ntmps11
  go_wp2_with (first
    | (go_at_call 10; refine (HNE.out).mono ?_; rintro e w1 ⟨D, rfl, hA1, hb1⟩; have HA1 : Hid (At w1 w.heap.size 4 D (.slice none 0 0) ex0) := hA1; have HB1 := Lib.hid hb1; clear hA1 hb1)
    | (go_at_call 30; with_reducible refine Calls.mono (HS1.out _) ?_; rintro e w2 ⟨rfl, hb⟩; have HA2 := Lib.hid (HA1.out.of_below hb); have HB2 := Lib.hid (HB1.out.trans (hb.mono HB1.out.size)); clear hb)
    | (go_at_call 21; with_reducible refine Calls.mono (commit1 HA2.out) ?_; rintro e w3 ⟨pv3, rfl, hA3, hG3⟩; have HB3 := Lib.hid (HA2.out.below_goes HB2.out HW.out hG3); have HA3 := Lib.hid hA3; clear hA3 hG3)
    | (go_at_call 30; with_reducible refine Calls.mono (HS2.out _) ?_; rintro e w4 ⟨rfl, hb⟩; have HA4 := Lib.hid (HA3.out.of_below hb); have HB4 := Lib.hid (HB3.out.trans (hb.mono HB3.out.size)); clear hb)
    | (go_at_call 21; with_reducible refine Calls.mono (commit2 HA4.out) ?_; rintro e w5 ⟨pv5, rfl, hA5, hG5⟩; have HB5 := Lib.hid (HA4.out.below_goes HB4.out HW.out hG5); have HA5 := Lib.hid hA5; clear hA5 hG5)
    | (go_at_call 9; with_reducible refine Calls.mono (best2 HA5.out) ?_; rintro e w6 ⟨rfl, hA6, hG6⟩; have HB6 := Lib.hid (HA5.out.below_goes HB5.out HW.out hG6); have HA6 := Lib.hid hA6; clear hA6 hG6)
    | (with_reducible refine st_ub rfl _ _ rfl w6.heap.size 0 sm2 rfl rfl (Blk.ubHas (u := zub) (Blk.new w6 _ _)) ?_; intro w7 hw7
       have hb7 : Below w6.heap.size w6 w7 := (by rw [hw7.out]; exact Below.setCells _ (Nat.le_refl _) _ _ ((Below.refl _ _).alloc (Nat.le_refl _) _))
       have HU7 : Hid (Blk w7 w6.heap.size 27 sm2.cs.toArray) := (by rw [hw7.out]; exact Blk.ubAll (u := zub) (Blk.new w6 _ _) sm2)
       have HF7 : Hid (¬ D.own pv5 w6.heap.size) := HA6.out.new_far
       have HA7 := Lib.hid (HA6.out.of_below hb7)
       have HB7 := Lib.hid (HB6.out.trans (hb7.mono HB6.out.size))
       clear hb7)
    | (go_at_call 25; with_reducible refine Calls.mono (list2 HA7.out) ?_; rintro e w8 ⟨b, off, c, rfl, hl8, hA8, hG8⟩
       have HB8 := Lib.hid (HA7.out.below_goes HB7.out HW.out hG8)
       have HE8 : Hid (Ex w8 w.heap.size D pv5 ((ex2.counts 4).counts 4) w6.heap.size b off) := ⟨(HU7.out.chg hG8.chg HF7.out).ubIs, hl8.1, hA8, (HU7.out.chg hG8.chg HF7.out).lt, hl8.2⟩
       clear hA8 hG8 hl8))
  clear HA1 HB1 HA2 HB2 HA3 HB3 HA4 HB4 HA5 HB5 HA6 HB6 HA7 HB7 HU7 HF7 hw7 HNE hz
  have hS1 : Hid ((fun w' => Ex w' w.heap.size D pv5 ((ex2.counts 4).counts 4) w6.heap.size b off ∧ Below w.heap.size w w') w8.drew) := ⟨HE8.out.below (Below.refl _ _).drew, HB8.out.drew⟩
  refine wp_region_held_drew (S := (fun w' => Ex w' w.heap.size D pv5 ((ex2.counts 4).counts 4) w6.heap.size b off ∧ Below w.heap.size w w')) (by kernel_rfl) hS1.out (fun hHeld => ?_)
  have HPD := Lib.hid (fun (w' : World) (h : At w' w.heap.size 4 D pv5 ((ex2.counts 4).counts 4)) => pend2 h)
  clear hS1 HE8 HB8
  generalize (ex2.counts 4).counts 4 = sx at *
  refine wpAnyH_take (i := 0) (v := (.bool true)) rfl (by kernel_rfl) (by kernel_rfl) (by kernel_rfl) (fun _ _ _ h => h) (Or.inl ⟨by rfl, ?_⟩) (by assumption) ?_
  · intro w' hS; go_simp; try with_reducible rfl
  try simp [Act.put]
  refine wpAnyH_take (i := 1) (v := (.bool true)) rfl (by kernel_rfl) (by kernel_rfl) (by kernel_rfl) (fun _ _ _ h => h) (Or.inl ⟨by rfl, ?_⟩) (by assumption) ?_
  · intro w' hS; go_simp; try with_reducible rfl
  try simp [Act.put]
  refine wpAnyH_take (i := 2) (v := (.agg sm2.cs.toArray)) rfl (by kernel_rfl) (by kernel_rfl) (by kernel_rfl) (fun _ _ _ h => h) (Or.inl ⟨by rfl, ?_⟩) (by assumption) ?_
  · intro w' hS
    exact ex_ldU (.tmp 2) rfl w6.heap.size 0 sm2 rfl hS.1.best
  try simp [Act.put]
  refine wpAnyH_ready (rs := [3]) (by kernel_rfl) (by simp) ?_
  refine AllReadyH.cons rfl (fun K hK => ?_) AllReadyH.nil
  go_simp
  refine (HS2.out _).mono ?_
  rintro e wX ⟨rfl, hX⟩
  refine hK.out _ _ ⟨hHeld.1.below hX, hHeld.2.trans (hX.mono hHeld.2.size)⟩ (fun hHeld2 => ?_)
  clear hX
  clear hK K
  try simp
  clear hHeld
  have hHeld := hHeld2
  clear hHeld2
  refine wpAnyH_take (i := 4) (v := (.bool true)) rfl (by kernel_rfl) (by kernel_rfl) (by kernel_rfl) (fun _ _ _ h => h) (Or.inl ⟨by rfl, ?_⟩) (by assumption) ?_
  · intro w' hS
    refine (ex_eqU (.tmp 25) (.tmp 26) rfl sm2 sm2 rfl rfl).trans ?_
    rw [hsame]
  try simp [Act.put]
  refine wpAnyH_take (i := 5) (v := (.bool true)) rfl (by kernel_rfl) (by kernel_rfl) (by kernel_rfl) (fun _ _ _ h => h) (Or.inl ⟨by rfl, ?_⟩) (by assumption) ?_
  · intro w' hS; go_simp; try with_reducible rfl
  try simp [Act.put]
  refine wpAnyH_take (i := 6) (v := (.bool true)) rfl (by kernel_rfl) (by kernel_rfl) (by kernel_rfl) (fun _ _ _ h => h) (Or.inl ⟨by rfl, ?_⟩) (by assumption) ?_
  · intro w' hS; go_simp; try with_reducible rfl
  try simp [Act.put]
  refine wpAnyH_take (i := 7) (v := (.slice (some ⟨b, off, none⟩) 2 c)) rfl (by kernel_rfl) (by kernel_rfl) (by kernel_rfl) (fun _ _ _ h => h) (Or.inl ⟨by rfl, ?_⟩) (by assumption) ?_
  · intro w' hS; go_simp; try with_reducible rfl
  try simp [Act.put]
  refine wpAnyH_take (i := 8) (v := (.int .i64 2)) rfl (by kernel_rfl) (by kernel_rfl) (by kernel_rfl) (fun _ _ _ h => h) (Or.inl ⟨by rfl, ?_⟩) (by assumption) ?_
  · intro w' hS; go_simp; try with_reducible rfl
  try simp [Act.put]
  refine wpAnyH_take (i := 9) (v := (.bool true)) rfl (by kernel_rfl) (by kernel_rfl) (by kernel_rfl) (fun _ _ _ h => h) (Or.inl ⟨by rfl, ?_⟩) (by assumption) ?_
  · intro w' hS; go_simp; try with_reducible rfl
  try simp [Act.put]
  refine wpAnyH_take (i := 10) (v := (.bool true)) rfl (by kernel_rfl) (by kernel_rfl) (by kernel_rfl) (fun _ _ _ h => h) (Or.inl ⟨by rfl, ?_⟩) (by assumption) ?_
  · intro w' hS; go_simp; try with_reducible rfl
  try simp [Act.put]
  refine wpAnyH_take (i := 11) (v := (.bool true)) rfl (by kernel_rfl) (by kernel_rfl) (by kernel_rfl) (fun _ _ _ h => h) (Or.inl ⟨by rfl, ?_⟩) (by assumption) ?_
  · intro w' hS; go_simp; try with_reducible rfl
  try simp [Act.put]
  refine wpAnyH_take (i := 12) (v := (.slice (some ⟨b, off, none⟩) 2 c)) rfl (by kernel_rfl) (by kernel_rfl) (by kernel_rfl) (fun _ _ _ h => h) (Or.inl ⟨by rfl, ?_⟩) (by assumption) ?_
  · intro w' hS; go_simp; try with_reducible rfl
  try simp [Act.put]
  refine wpAnyH_take (i := 13) (v := (.pointer (some ⟨b, off, none⟩))) rfl (by kernel_rfl) (by kernel_rfl) (by kernel_rfl) (fun _ _ _ h => h) (Or.inl ⟨by rfl, ?_⟩) (by assumption) ?_
  · intro w' hS; go_simp; try with_reducible rfl
  try simp [Act.put]
  refine wpAnyH_take (i := 14) (v := (.agg sm1.cs.toArray)) rfl (by kernel_rfl) (by kernel_rfl) (by kernel_rfl) (fun _ _ _ h => h) (Or.inl ⟨by rfl, ?_⟩) (by assumption) ?_
  · intro w' hS
    exact ex_ldU (.tmp 36) rfl b off sm1 rfl hS.1.first
  try simp [Act.put]
  refine wpAnyH_ready (rs := [15]) (by kernel_rfl) (by simp) ?_
  refine AllReadyH.cons rfl (fun K hK => ?_) AllReadyH.nil
  go_simp
  refine (HS1.out _).mono ?_
  rintro e wX ⟨rfl, hX⟩
  refine hK.out _ _ ⟨hHeld.1.below hX, hHeld.2.trans (hX.mono hHeld.2.size)⟩ (fun hHeld2 => ?_)
  clear hX
  clear hK K
  try simp
  clear hHeld
  have hHeld := hHeld2
  clear hHeld2
  refine wpAnyH_take (i := 16) (v := (.bool true)) rfl (by kernel_rfl) (by kernel_rfl) (by kernel_rfl) (fun _ _ _ h => h) (Or.inl ⟨by rfl, ?_⟩) (by assumption) ?_
  · intro w' hS
    refine (ex_eqU (.tmp 37) (.tmp 38) rfl sm1 sm1 rfl rfl).trans ?_
    rw [hsame]
  try simp [Act.put]
  refine wpAnyH_take (i := 17) (v := (.bool true)) rfl (by kernel_rfl) (by kernel_rfl) (by kernel_rfl) (fun _ _ _ h => h) (Or.inl ⟨by rfl, ?_⟩) (by assumption) ?_
  · intro w' hS; go_simp; try with_reducible rfl
  try simp [Act.put]
  refine wpAnyH_take (i := 18) (v := (.bool true)) rfl (by kernel_rfl) (by kernel_rfl) (by kernel_rfl) (fun _ _ _ h => h) (Or.inl ⟨by rfl, ?_⟩) (by assumption) ?_
  · intro w' hS; go_simp; try with_reducible rfl
  try simp [Act.put]
  refine wpAnyH_take (i := 19) (v := (.pointer (some ⟨D.g, 0, none⟩))) rfl (by kernel_rfl) (by kernel_rfl) (by kernel_rfl) (fun _ _ _ h => h) (Or.inl ⟨by rfl, ?_⟩) (by assumption) ?_
  · intro w' hS; go_simp; try with_reducible rfl
  try simp [Act.put]
  refine wpAnyH_ready (rs := [20]) (by kernel_rfl) (by simp) ?_
  refine AllReadyH.cons rfl (fun K hK => ?_) AllReadyH.nil
  go_simp
  refine (HPD.out _ hHeld.1.at_).mono ?_
  rintro e wX ⟨rfl, rfl⟩
  refine hK.out _ _ hHeld (fun hHeld2 => ?_)
  clear hK K
  try simp
  clear hHeld
  have hHeld := hHeld2
  clear hHeld2
  refine wpAnyH_take (i := 21) (v := (.bool true)) rfl (by kernel_rfl) (by kernel_rfl) (by kernel_rfl) (fun _ _ _ h => h) (Or.inl ⟨by rfl, ?_⟩) (by assumption) ?_
  · intro w' hS; go_simp; try with_reducible rfl
  try simp [Act.put]
  refine wpAnyH_take (i := 22) (v := (.bool true)) rfl (by kernel_rfl) (by kernel_rfl) (by kernel_rfl) (fun _ _ _ h => h) (Or.inl ⟨by rfl, ?_⟩) (by assumption) ?_
  · intro w' hS; go_simp; try with_reducible rfl
  try simp [Act.put]
  refine wpAnyH_take (i := 23) (v := (.bool true)) rfl (by kernel_rfl) (by kernel_rfl) (by kernel_rfl) (fun _ _ _ h => h) (Or.inl ⟨by rfl, ?_⟩) (by assumption) ?_
  · intro w' hS; go_simp; try with_reducible rfl
  try simp [Act.put]
  refine wpAnyH_done (by kernel_rfl) ?_ _
  have HF := Lib.hid hHeld.2
  clear hHeld
  go_wp2_with fail
  go_ret
  exact ⟨rfl, HF.out⟩
theorem new_sec {w w' : World} {x : Sec} (h : w' = (w.alloc (.cells zsec.cs.toArray 34)).setCells w.heap.size 0 x.cs) : Blk w' w.heap.size 34 x.cs.toArray ∧ Below w.heap.size w w' := by
  subst h
  exact ⟨Blk.secAll (s := zsec) (Blk.new w _ _) x, Below.setCells _ (Nat.le_refl _) _ _ ((Below.refl _ _).alloc (Nat.le_refl _) _)⟩
theorem new_ub {w w' : World} {x : Ub} (h : w' = (w.alloc (.cells zub.cs.toArray 27)).setCells w.heap.size 0 x.cs) : Blk w' w.heap.size 27 x.cs.toArray ∧ Below w.heap.size w w' := by
  subst h
  exact ⟨Blk.ubAll (u := zub) (Blk.new w _ _) x, Below.setCells _ (Nat.le_refl _) _ _ ((Below.refl _ _).alloc (Nat.le_refl _) _)⟩
end Go.Proofs.Ytegcknloemgndaa
