/- Walks: Commit. -/
import Derived.Test.YtegcknloemgndaaU6
import Derived.Test.YtegcknloemgndaaV10
set_option maxRecDepth 10000
namespace Go.Proofs.Ytegcknloemgndaa
open Go.RowKit

def St.commit (n : Nat) (s : St) (u : Ub) : St × Int :=
  if rightU u = true then
    if s.flush.2 = 0 then
      if (s.flush.1.write n (slotU u) (secU u)).2 = 0 then (s.flush.1.write n (slotU u) (secU u)).1.flush
      else s.flush.1.write n (slotU u) (secU u)
    else s.flush
  else (s, 61)
theorem flush_zero {s : St} (h : s.flush.2 = 0) : s.flush.1.pend = [] := by
  unfold St.flush at h ⊢
  split at h
  · exact absurd (show (42 : Int) = 0 from h) (by decide)
  · rename_i hd
    rw [if_neg hd]
theorem write_pend {s : St} {n : Nat} {i : Int} {x : Sec} : (s.write n i x).1.pend.length ≤ s.pend.length + 1 := by
  have hc : s.count.pend = s.pend := rfl
  unfold St.write
  split
  · split
    · rw [(refuse_st _).2.2.1, hc]; omega
    · simp
  · rw [hc]; omega
theorem ex_ldU {o : Oper} {a : Act} {w : World} (x : Operand) (ho : o.op = .load 27 x) (b k : Nat) (s : Ub) (hx : a.eval x = .pointer (some ⟨b, k, none⟩)) (hr : w.rangeAt b k s.cs) :
    (execOp a.eval o).run Try.prog w = .ok (.value (.agg s.cs.toArray)) w := by
  unfold execOp
  simp only [ho, hx, run_loadAt_mid w b k _ s.cs _ hr Try.underlying27 rfl (sizeUb' s), Sem.run_bind, Sem.run_pure, Result.andThen_ok]
section
variable {w : World} {B n : Nat} {D : Dev} {pv : Value} {s : St}
theorem At.of_below {w' : World} (h : At w B n D pv s) (hb : Below w.heap.size w w') : At w' B n D pv s := h.chg (O := fun _ => False) (Chg.of_below hb) fun _ _ h => h
theorem Goes.of_below (D : Dev) {w w' : World} (pv : Value) (hb : Below w.heap.size w w') : Goes D w pv w' pv := ⟨Chg.of_below hb, fun _ h => .inl h⟩
theorem commit_no (h : At w B n D pv s) (u : Ub) (hr : rightU u = false) :
    Calls Try.prog 21 #[.pointer (some ⟨D.g, 0, none⟩), .agg u.cs.toArray] w fun e w' => e = .returned (.int .i64 61) ∧ At w' B n D pv s ∧ Goes D w pv w' pv := by
  have hz : ∀ w, Sem.run Try.prog (zeroValue 34) w = .ok (.agg zsec.cs.toArray) w := zeroSec
  have HY := Lib.hid (ubytes_any u)
  rw [bytesS_f hr, bytesC_f hr] at HY
  have HB := Lib.hid (ub_new w u)
  have HA := Lib.hid h
  clear h hr
  go_enter Try.func21, Try.ntmps21
  go_wp2_with (first
    | (with_reducible refine ld_ub rfl _ rfl w.heap.size 0 u rfl HB.out.ubIs ?_)
    | (go_at_call 12; refine (HY.out _).mono ?_; rintro e w1 ⟨rfl, hb1⟩; have HB1 := Lib.hid (ub_below hb1); clear hb1)
    | (with_reducible refine st_sec rfl _ _ rfl w1.heap.size 0 zsec rfl rfl (Blk.secHas (s := zsec) (Blk.new w1 _ _)) ?_; intro w2 hw2))
  have hb : Below w.heap.size w w2 := by
    rw [hw2.out]
    exact Below.setCells _ HB1.out.size _ _ (HB1.out.alloc HB1.out.size _)
  go_ret
  exact ⟨rfl, HA.out.of_below hb, Goes.of_below D pv hb⟩
/-- What Commit holds while it goes: its uber, its sector. -/
structure Mid (w0 w : World) (D : Dev) (pv : Value) (u : Ub) (g g' : Nat) (x : Sec) : Prop where
  ub : Blk w g 27 u.cs.toArray
  sec : Blk w g' 34 x.cs.toArray
  nu : ¬ D.own pv g
  ns : ¬ D.own pv g'
theorem Mid.goes {w0 w w' : World} {D : Dev} {pv pv' : Value} {u : Ub} {g g' : Nat} {x : Sec} (h : Mid w0 w D pv u g g' x) (k : Goes D w pv w' pv') : Mid w0 w' D pv' u g g' x :=
  ⟨h.ub.chg k.chg h.nu, h.sec.chg k.chg h.ns, k.own h.ub.lt h.nu, k.own h.sec.lt h.ns⟩
set_option maxHeartbeats 2000000 in
theorem commit_yes (h : At w B n D pv s) (u : Ub) (hr : rightU u = true) (hp : s.pend.length ≤ 1000000) :
    Calls Try.prog 21 #[.pointer (some ⟨D.g, 0, none⟩), .agg u.cs.toArray] w fun e w' => ∃ pv', e = .returned (.int .i64 (s.commit n u).2) ∧ At w' B n D pv' (s.commit n u).1 ∧ Goes D w pv w' pv' := by
  have hz : ∀ w, Sem.run Try.prog (zeroValue 34) w = .ok (.agg zsec.cs.toArray) w := zeroSec
  have HY := Lib.hid (ubytes_any u)
  rw [bytesS_t hr, bytesC_t hr] at HY
  have HC : Hid (s.commit n u = if s.flush.2 = 0 then (if (s.flush.1.write n (slotU u) (secU u)).2 = 0 then (s.flush.1.write n (slotU u) (secU u)).1.flush else s.flush.1.write n (slotU u) (secU u)) else s.flush) := if_pos hr
  have HB := Lib.hid (ub_new w u)
  have HA := Lib.hid h
  have HS := Lib.hid (slot_any u)
  have HP := Lib.hid hp
  clear h hr hp
  generalize secU u = x at *
  go_enter Try.func21, Try.ntmps21
  go_wp2_with (first
    | (with_reducible refine ld_ub rfl _ rfl w.heap.size 0 u rfl HB.out.ubIs ?_)
    | (go_at_call 12; refine (HY.out _).mono ?_; rintro e w1 ⟨rfl, hb1⟩; have HB1 := Lib.hid (ub_below hb1); have HU1 := Lib.hid (HB.out.below hb1 HB.out.lt); clear hb1)
    | (with_reducible refine st_sec rfl _ _ rfl w1.heap.size 0 x rfl rfl (Blk.secHas (s := zsec) (Blk.new w1 _ _)) ?_; intro w2 hw2
       have hb2 : Below w.heap.size w w2 := (by
        rw [hw2.out]
        exact Below.setCells _ HB1.out.size _ _ (HB1.out.alloc HB1.out.size _))
       have hb12 : Below w1.heap.size w1 w2 := (by
        rw [hw2.out]
        exact Below.setCells _ (Nat.le_refl _) _ _ ((Below.refl _ _).alloc (Nat.le_refl _) _))
       have HA2 := Lib.hid (HA.out.of_below hb2)
       have HG2 := Lib.hid (Goes.of_below D pv hb2)
       have HM2 : Hid (Mid w w2 D pv u w.heap.size w1.heap.size x) := ⟨HU1.out.below hb12 HU1.out.lt, (by rw [hw2.out]; exact Blk.secAll (s := zsec) (Blk.new w1 _ _) x), fun hk => (by have := HA.out.lt _ hk; omega), fun hk => (by have := HA.out.lt _ hk; have := HB1.out.size; omega)⟩
       clear hb2 hb12 hw2 HA)
    | (go_at_call 48; refine (flush_any HA2.out HP.out).mono ?_; rintro e w3 ⟨pv3, rfl, hA3, hG3⟩
       have HA3 := Lib.hid hA3
       have HG3 := Lib.hid (HG2.out.trans hG3)
       have HM3 := Lib.hid (HM2.out.goes hG3)
       clear HA2 HG2 HM2 hA3 hG3 HY HB HB1 HU1))
  · have hne : ¬ s.flush.2 = 0 := by
      have hx : (s.flush.2 != 0) = true := by assumption
      simpa using hx
    go_ret
    rw [HC.out, if_neg hne]
    exact ⟨pv3, rfl, HA3.out, HG3.out⟩
  have hze : s.flush.2 = 0 := by
    have hx : (s.flush.2 != 0) = false := by assumption
    simpa using hx
  rw [if_pos hze] at HC
  have HP3 : Hid (s.flush.1.pend.length ≤ 1000000) := by show _ ≤ _; rw [flush_zero hze]; simp
  have HP4 : Hid (∀ i x, (s.flush.1.write n i x).1.pend.length ≤ 1000000) := fun i x => by
    have := write_pend (s := s.flush.1) (n := n) (i := i) (x := x)
    rw [flush_zero hze] at this
    simp at this
    omega
  clear HP
  generalize s.flush.1 = s3 at *
  have hS1 : Hid ((fun w' => w'.rangeAt w.heap.size 0 u.cs ∧ w'.rangeAt w1.heap.size 0 x.cs) w3.drew) := ⟨HM3.out.ub.ubIs, HM3.out.sec.secIs⟩
  refine wp_region_held_drew (S := (fun w' => w'.rangeAt w.heap.size 0 u.cs ∧ w'.rangeAt w1.heap.size 0 x.cs)) (by kernel_rfl) hS1.out (fun hHeld => ?_)
  clear hS1
  have HA3' := Lib.hid HA3.out.drew
  have HG3' : Hid (Goes D w pv w3.drew pv3) := ⟨HG3.out.chg.drew, HG3.out.row⟩
  have HM3' : Hid (Mid w w3.drew D pv3 u w.heap.size w1.heap.size x) := ⟨HM3.out.ub, HM3.out.sec, HM3.out.nu, HM3.out.ns⟩
  clear HA3 HG3 HM3
  generalize w3.drew = w4 at *
  refine wpAnyH_take (i := 0) (v := .pointer (some ⟨D.g, 0, none⟩)) rfl (by kernel_rfl) (by kernel_rfl) (by kernel_rfl) (fun _ _ _ h => h) (Or.inl ⟨by rfl, ?_⟩) (by assumption) ?_
  · intro w _; go_simp; try with_reducible rfl
  simp [Act.put]
  refine wpAnyH_take (i := 1) (v := .agg u.cs.toArray) rfl (by kernel_rfl) (by kernel_rfl) (by kernel_rfl) (fun _ _ _ h => h) (Or.inl ⟨by rfl, ?_⟩) (by assumption) ?_
  · intro w' hS
    exact ex_ldU (.tmp 3) rfl w.heap.size 0 u rfl hS.1
  simp [Act.put]
  refine wpAnyH_take (i := 3) (v := .agg x.cs.toArray) rfl (by kernel_rfl) (by kernel_rfl) (by kernel_rfl) (fun _ _ _ h => h) (Or.inl ⟨by rfl, ?_⟩) (by assumption) ?_
  · intro w' hS
    exact ex_ld (.tmp 5) rfl w1.heap.size 0 x rfl hS.2
  simp [Act.put]
  refine wpAnyH_ready (rs := [2]) (by kernel_rfl) (by simp) ?_
  refine AllReadyH.cons rfl (fun K hK => ?_) AllReadyH.nil
  go_simp
  refine (HS.out _).mono ?_
  rintro e w5 ⟨rfl, hb5⟩
  have HA5 := Lib.hid (HA3'.out.of_below hb5)
  have HG5 := Lib.hid (HG3'.out.trans (Goes.of_below D pv3 hb5))
  have HM5 := Lib.hid (HM3'.out.goes (Goes.of_below D pv3 hb5))
  clear HA3' HG3' HM3' hb5 hHeld
  refine hK.out _ _ ⟨HM5.out.ub.ubIs, HM5.out.sec.secIs⟩ (fun hHeld => ?_)
  clear hK K
  try simp [Act.put]
  refine wpAnyH_ready (rs := [4]) (by kernel_rfl) (by simp) ?_
  refine AllReadyH.cons rfl (fun K hK => ?_) AllReadyH.nil
  go_simp
  refine (write_any HA5.out (slotU u) x HP3.out).mono ?_
  rintro e w6 ⟨pv6, rfl, hA6, hG6⟩
  have HA6 := Lib.hid hA6
  have HG6 := Lib.hid (HG5.out.trans hG6)
  have HM6 := Lib.hid (HM5.out.goes hG6)
  clear HA5 HG5 HM5 hA6 hG6 hHeld
  refine hK.out _ _ ⟨HM6.out.ub.ubIs, HM6.out.sec.secIs⟩ (fun hHeld => ?_)
  clear hK K
  try simp [Act.put]
  refine wpAnyH_take (i := 5) (v := .int .i64 (s3.write n (slotU u) x).2) rfl (by kernel_rfl) (by kernel_rfl) (by kernel_rfl) (fun _ _ _ h => h) (Or.inl ⟨by rfl, ?_⟩) (by assumption) ?_
  · intro w _; go_simp; try with_reducible rfl
  simp [Act.put]
  refine wpAnyH_done (by kernel_rfl) ?_ _
  have HP6 := Lib.hid (HP4.out (slotU u) x)
  clear HP3 HP4 hHeld
  obtain ⟨q, hq⟩ : ∃ q, q = s3.write n (slotU u) x := ⟨_, rfl⟩
  rw [← hq] at HA6 HP6 HC ⊢
  clear hq
  obtain ⟨s6, c6⟩ := q
  by_cases hc : c6 = 0
  · subst hc
    have HC' : Hid (s.commit n u = s6.flush) := HC.out
    clear HC
    go_wp2_with (go_at_call 48; refine (flush_any HA6.out HP6.out).mono ?_; rintro e w7 ⟨pv7, rfl, hA7, hG7⟩)
    go_ret
    rw [HC'.out]
    exact ⟨pv7, rfl, hA7, HG6.out.trans hG7⟩
  · have HC' : Hid (s.commit n u = (s6, c6)) := HC.out.trans (if_neg hc)
    have hcc : (c6 != 0) = true := by simpa using hc
    clear HC
    go_wp2_with fail
    go_ret
    rw [HC'.out]
    first | exact ⟨pv6, rfl, HA6.out, HG6.out⟩ | exact ⟨rfl, pv6, HA6.out, HG6.out⟩
theorem commit_any (h : At w B n D pv s) (u : Ub) (hp : s.pend.length ≤ 1000000) :
    Calls Try.prog 21 #[.pointer (some ⟨D.g, 0, none⟩), .agg u.cs.toArray] w fun e w' => ∃ pv', e = .returned (.int .i64 (s.commit n u).2) ∧ At w' B n D pv' (s.commit n u).1 ∧ Goes D w pv w' pv' := by
  rcases hr : rightU u with _ | _
  · have e : s.commit n u = (s, 61) := if_neg (by simp [hr])
    rw [e]
    exact (commit_no h u hr).mono fun e w' ⟨a, b, c⟩ => ⟨pv, a, b, c⟩
  · exact commit_yes h u hr hp
end
end Go.Proofs.Ytegcknloemgndaa
