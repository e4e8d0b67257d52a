/- The reference's Commit, List and Best over its own device; side by side with the program's; the law on whatever is committed. -/
import Derived.Test.YtegcknloemgndaaRA
import Derived.Test.YtegcknloemgndaaUB
import Derived.Test.YtegcknloemgndaaUT
import Derived.Deep.Cut
set_option maxRecDepth 10000
namespace Go.Proofs.Ytegcknloemgndaa
open Go.RowKit

def RSt.commit (s : RSt) (u : Ub) : RSt × Int :=
  if rightU u = true then
    if s.flush.2 = 0 then
      if (s.flush.1.put (slotU u) (secU u)).2 = 0 then (s.flush.1.put (slotU u) (secU u)).1.flush
      else s.flush.1.put (slotU u) (secU u)
    else s.flush
  else (s, 61)
theorem rflush_zero {s q : RSt} (h : s.flush = (q, 0)) : q.pend = [] := by
  unfold RSt.flush at h
  split at h
  · simp at h
  · simp only [Prod.mk.injEq, and_true] at h
    rw [← h]
    rfl
theorem rput_pend {s : RSt} {i : Int} {x : Sec} : (s.put i x).1.pend.length ≤ s.pend.length + 1 := by
  unfold RSt.put
  split
  · split
    · rw [(pow_like _).2.1]
      show s.pend.length ≤ _
      omega
    · simp
  · show s.pend.length ≤ _
    omega
theorem rflush_of {w : World} {O : Nat → Prop} (hO : ∀ k, O k → k < w.heap.size) {d : RD} (h : Lies w O d) {q q' : RSt} {c : Int} (hs : d.s = q) (hq : q.flush = (q', c)) (hp : q.pend.length ≤ 1000000) :
    Calls Try.prog 50 #[.agg d.cs.toArray] w fun e w' => ∃ d' : RD, d'.s = q' ∧ e = .returned (.tuple #[.agg d'.cs.toArray, .int .i64 c]) ∧ Lies w' O d' ∧ Below w.heap.size w w' := by
  subst hs
  have := rflush_any hO h hp
  rw [hq] at this
  exact this
theorem rput_of {w : World} {O : Nat → Prop} (hO : ∀ k, O k → k < w.heap.size) {d : RD} (h : Lies w O d) {q q' : RSt} {c : Int} (hs : d.s = q) (i : Int) (x : Sec) (hq : q.put i x = (q', c)) (hp : q.pend.length ≤ 1000000) :
    Calls Try.prog 51 #[.agg d.cs.toArray, .int .i64 i, .agg x.cs.toArray] w fun e w' => ∃ d' : RD, d'.s = q' ∧ e = .returned (.tuple #[.agg d'.cs.toArray, .int .i64 c]) ∧ Lies w' O d' ∧ Below w.heap.size w w' := by
  subst hs
  have := rput_any hO h hp i x
  rw [hq] at this
  exact this
/-- What Commit holds while it goes. -/
structure CInv (w wr : World) (O : Nat → Prop) (d : RD) (u : Ub) (g : Nat) (x : Sec) : Prop where
  box : Box3 w wr d 27 u.cs.toArray zrd
  sec : Blk wr g 34 x.cs.toArray
  lies : Lies wr O d
  lt : ∀ k, O k → k < wr.heap.size
  own : O w.heap.size ∧ O (w.heap.size + 2) ∧ w.heap.size + 2 < g
section
variable {w wr w' w'' : World} {O : Nat → Prop} {d d' : RD} {u : Ub} {g : Nat} {x : Sec}
theorem CInv.step (h : CInv w wr O d u g x) (hL : Lies w' O d') (hb : Below wr.heap.size wr w') (hw : w'' = w'.setCells w.heap.size 0 d'.cs) : CInv w w'' O d' u g x := by
  have hc : Chg w' w'' (· = w.heap.size) := by rw [hw]; exact Chg.setCells (O := (· = w.heap.size)) (.inl rfl) _ _ (Chg.refl _ _)
  have h2 := h.own
  exact ⟨(h.box.fresh hb).set hw, (h.sec.below hb h.sec.lt).chg hc (by omega), hL.chg hc fun k hk => by rw [hk]; exact h2.1, fun k hk => Nat.lt_of_lt_of_le (h.lt k hk) (Nat.le_trans hb.size hc.size), h2⟩
theorem CInv.fin (h : CInv w wr O d u g x) (hw : w' = wr.setCells (w.heap.size + 2) 0 d.cs) : Lies w' O d := by
  have hc : Chg wr w' (· = w.heap.size + 2) := by rw [hw]; exact Chg.setCells (O := (· = w.heap.size + 2)) (.inl rfl) _ _ (Chg.refl _ _)
  exact h.lies.chg hc fun k hk => by rw [hk]; exact h.own.2.1
theorem CInv.fin2 (h : CInv w wr O d u g x) (hL : Lies w' O d') (hw : w'' = w'.setCells (w.heap.size + 2) 0 d'.cs) : Lies w'' O d' := by
  have hc : Chg w' w'' (· = w.heap.size + 2) := by rw [hw]; exact Chg.setCells (O := (· = w.heap.size + 2)) (.inl rfl) _ _ (Chg.refl _ _)
  exact hL.chg hc fun k hk => by rw [hk]; exact h.own.2.1
end
theorem rcommit_no {w : World} {O : Nat → Prop} {d : RD} (h : Lies w O d) (u : Ub) (hr : rightU u = false) :
    Calls Try.prog 22 #[.agg d.cs.toArray, .agg u.cs.toArray] w fun e w' => ∃ d' : RD, d'.s = d.s ∧ e = .returned (.tuple #[.agg d'.cs.toArray, .int .i64 61]) ∧ Lies w' O d' ∧ Below w.heap.size w w' := by
  have hz : ∀ w, Sem.run Try.prog (zeroValue 47) w = .ok (.agg zrd.cs.toArray) w := zeroRd
  have hzs : ∀ w, Sem.run Try.prog (zeroValue 34) w = .ok (.agg zsec.cs.toArray) w := zeroSec
  have HB := Lib.hid (Box3.start w d 27 u.cs.toArray)
  have HL := Lib.hid h
  have HY := Lib.hid (rubytes_any u)
  rw [bytesS_f hr, bytesC_f hr] at HY
  clear h hr
  go_enter Try.func22, Try.ntmps22
  go_upto_region 1 with (fail)
  generalize ((w.alloc (.cells d.cs.toArray 47)).alloc (.cells u.cs.toArray 27)).alloc (.cells zrd.cs.toArray 47) = w2 at *
  go_wp2_with (first
    | (with_reducible refine ld_ub rfl _ rfl (w.heap.size + 1) 0 u rfl HB.out.mid.ubIs ?_)
    | (go_at_call 13; with_reducible refine Calls.mono (HY.out _) ?_; rintro e w3 ⟨rfl, hb3⟩; have H3 := Lib.hid (HB.out.fresh hb3); clear hb3)
    | (with_reducible refine st_sec rfl _ _ rfl w3.heap.size 0 zsec rfl rfl (Blk.secHas (s := zsec) (Blk.new w3 _ _)) ?_; intro w4 hw4; have H4 := Lib.hid (H3.out.fresh (new_sec hw4.out).2))
    | (with_reducible refine ld_rd rfl _ rfl w.heap.size 0 d rfl H4.out.box.rdIs ?_)
    | (with_reducible refine st_rd rfl _ _ rfl (w.heap.size + 2) 0 d rfl rfl H4.out.res.rdHas ?_; intro w5 hw5))
  obtain ⟨h3, h4⟩ := H4.out.out hw5.out
  exact bodyPost_ret (results_row_tmp (u := 5) rfl _ _ _ _ _ _ _ rfl h3 Try.underlying47 rfl (sizeRd'' _)) rfl ⟨d, rfl, rfl, HL.out.below h4, h4⟩
set_option maxHeartbeats 4000000 in
theorem rcommit_yes {w : World} {O : Nat → Prop} (hO : ∀ k, O k → k < w.heap.size) {d : RD} (h : Lies w O d) (hp : d.s.pend.length ≤ 1000000) (u : Ub) (hr : rightU u = true) :
    Calls Try.prog 22 #[.agg d.cs.toArray, .agg u.cs.toArray] w fun e w' => ∃ d' : RD, d'.s = (d.s.commit u).1 ∧ e = .returned (.tuple #[.agg d'.cs.toArray, .int .i64 (d.s.commit u).2]) ∧ Lies w' O d' ∧ Below w.heap.size w w' := by
  have hz : ∀ w, Sem.run Try.prog (zeroValue 47) w = .ok (.agg zrd.cs.toArray) w := zeroRd
  have hzs : ∀ w, Sem.run Try.prog (zeroValue 34) w = .ok (.agg zsec.cs.toArray) w := zeroSec
  have HB := Lib.hid (Box3.start w d 27 u.cs.toArray)
  have HL := Lib.hid h
  have HO := Lib.hid hO
  have HP := Lib.hid hp
  have HY := Lib.hid (rubytes_any u)
  rw [bytesS_t hr, bytesC_t hr] at HY
  have HC : Hid (d.s.commit u = if d.s.flush.2 = 0 then (if (d.s.flush.1.put (slotU u) (secU u)).2 = 0 then (d.s.flush.1.put (slotU u) (secU u)).1.flush else d.s.flush.1.put (slotU u) (secU u)) else d.s.flush) := if_pos hr
  clear h hr hO hp
  obtain ⟨q1, c1, hq1⟩ : ∃ q c, d.s.flush = (q, c) := ⟨_, _, rfl⟩
  rw [hq1] at HC
  have HQ1 := Lib.hid hq1
  obtain ⟨q2, c2, hq2⟩ : ∃ q c, q1.put (slotU u) (secU u) = (q, c) := ⟨_, _, rfl⟩
  rw [show (((q1, c1) : RSt × Int).1.put (slotU u) (secU u)) = (q2, c2) from hq2] at HC
  have HQ2 := Lib.hid hq2
  obtain ⟨q3, c3, hq3⟩ : ∃ q c, q2.flush = (q, c) := ⟨_, _, rfl⟩
  have HQ3 := Lib.hid hq3
  have HPU := Lib.hid (rput_pend (s := q1) (i := slotU u) (x := secU u))
  rw [hq2] at HPU
  clear hq1 hq2 hq3
  generalize secU u = x at *
  have hw4 : ((slotU u : Nat) : Int) = (u.txg : Int) % 4 := by unfold slotU; omega
  rw [hw4] at HQ2
  clear hw4
  go_enter Try.func22, Try.ntmps22
  go_upto_region 1 with (fail)
  generalize ((w.alloc (.cells d.cs.toArray 47)).alloc (.cells u.cs.toArray 27)).alloc (.cells zrd.cs.toArray 47) = w2 at *
  go_upto_region 4 with (first
    | (with_reducible refine ld_ub rfl _ rfl (w.heap.size + 1) 0 u rfl HB.out.mid.ubIs ?_)
    | (go_at_call 13; with_reducible refine Calls.mono (HY.out _) ?_; rintro e w3 ⟨rfl, hb3⟩; have H3 := Lib.hid (HB.out.fresh hb3); clear hb3)
    | (with_reducible refine st_sec rfl _ _ rfl w3.heap.size 0 x rfl rfl (Blk.secHas (s := zsec) (Blk.new w3 _ _)) ?_; intro w4 hw4))
  have H4 := Lib.hid (H3.out.fresh (new_sec hw4.out).2)
  have HI4 : Hid (CInv w w4 (fun k => O k ∨ w.heap.size ≤ k ∧ k < w4.heap.size) d u w3.heap.size x) :=
    ⟨H4.out, (new_sec hw4.out).1, HL.out.mine H4.out.below, mine_lt HO.out H4.out.below, .inr ⟨Nat.le_refl _, H4.out.box.lt⟩, .inr ⟨by omega, H4.out.res.lt⟩, H3.out.res.lt⟩
  have HWK : Hid (∀ wr d', Lies wr (fun k => O k ∨ w.heap.size ≤ k ∧ k < w4.heap.size) d' → Lies wr O d') := fun wr d' h => h.weak fun k _ ho => .inl ho
  clear HY HB HL HO H3 H4 hw4
  generalize (fun k => O k ∨ w.heap.size ≤ k ∧ k < w4.heap.size) = O1 at *
  generalize w3.heap.size = g6 at *
  by_cases hc1 : c1 = 0
  · subst hc1
    have HC1 : Hid (d.s.commit u = if c2 = 0 then q2.flush else (q2, c2)) := HC.out.trans (if_pos rfl)
    have HP1 : Hid (q1.pend.length ≤ 1000000) := by show _ ≤ _; rw [rflush_zero HQ1.out]; simp
    have HP2 : Hid (q2.pend.length ≤ 1000000) := by
      have h := HPU.out
      rw [rflush_zero HQ1.out] at h
      show q2.pend.length ≤ _
      simp at h
      omega
    clear HC HPU
    by_cases hc2 : c2 = 0
    · subst hc2
      have HC2 : Hid (d.s.commit u = (q3, c3)) := HC1.out.trans ((if_pos rfl).trans HQ3.out)
      clear HC1
      go_wp2_with (first
        | (with_reducible refine ld_rd rfl _ rfl w.heap.size 0 d rfl HI4.out.box.box.rdIs ?_)
        | (have h4 := HI4; clear h4; go_at_call 50; refine Calls.mono (rflush_of HI4.out.lt HI4.out.lies rfl HQ1.out HP.out) ?_; rintro e w5 ⟨d2, hs2, rfl, hL5, hb5⟩
           have H5 := Lib.hid (HI4.out.box.fresh hb5)
           have HL5 := Lib.hid hL5
           have HS2 := Lib.hid hs2
           have HB5 := Lib.hid hb5
           clear hL5 hs2 hb5)
        | (with_reducible refine st_rd rfl _ _ rfl w.heap.size 0 d2 rfl rfl H5.out.box.rdHas ?_; intro w6 hw6
           have HI6 := Lib.hid (HI4.out.step HL5.out HB5.out hw6.out)
           have c60 := HI6.out.box.mid.ubF.1
           clear H5 HL5 HB5 hw6 HI4)
        | (with_reducible refine ld_rd rfl _ rfl w.heap.size 0 d2 rfl HI6.out.box.box.rdIs ?_)
        | (with_reducible refine ld_sec rfl _ rfl g6 0 x rfl HI6.out.sec.secIs ?_)
        | (go_at_call 51; refine Calls.mono (rput_of HI6.out.lt HI6.out.lies HS2.out ((u.txg : Int) % 4) x HQ2.out HP1.out) ?_; rintro e w7 ⟨d3, hs3, rfl, hL7, hb7⟩
           have H7 := Lib.hid (HI6.out.box.fresh hb7)
           have HL7 := Lib.hid hL7
           have HS3 := Lib.hid hs3
           have HB7 := Lib.hid hb7
           clear hL7 hs3 hb7 c60)
        | (with_reducible refine st_rd rfl _ _ rfl w.heap.size 0 d3 rfl rfl H7.out.box.rdHas ?_; intro w8 hw8
           have HI8 := Lib.hid (HI6.out.step HL7.out HB7.out hw8.out)
           clear H7 HL7 HB7 hw8 HI6)
        | (with_reducible refine ld_rd rfl _ rfl w.heap.size 0 d3 rfl HI8.out.box.box.rdIs ?_)
        | (have h8 := HI8; clear h8; go_at_call 50; refine Calls.mono (rflush_of HI8.out.lt HI8.out.lies HS3.out HQ3.out HP2.out) ?_; rintro e w9 ⟨d4, hs4, rfl, hL9, hb9⟩
           have H9 := Lib.hid (HI8.out.box.fresh hb9)
           have HL9 := Lib.hid hL9
           have HS4 := Lib.hid hs4
           clear hL9 hs4 hb9)
        | (with_reducible refine st_rd rfl _ _ rfl (w.heap.size + 2) 0 d4 rfl rfl H9.out.res.rdHas ?_; intro w10 hw10))
      obtain ⟨h3, h4⟩ := H9.out.out hw10.out
      exact bodyPost_ret (results_row_tmp (u := 5) rfl _ _ _ _ _ _ _ rfl h3 Try.underlying47 rfl (sizeRd'' _)) rfl ⟨d4, by rw [HC2.out]; exact HS4.out, congrArg (fun q : RSt × Int => Ending.returned (.tuple #[.agg d4.cs.toArray, .int .i64 q.2])) HC2.out.symm, HWK.out _ _ (HI8.out.fin2 HL9.out hw10.out), h4⟩
    · have HC2 : Hid (d.s.commit u = (q2, c2)) := HC1.out.trans (if_neg hc2)
      have hcc : (c2 != 0) = true := by simpa using hc2
      clear HC1 hc2
      go_wp2_with (first
        | (with_reducible refine ld_rd rfl _ rfl w.heap.size 0 d rfl HI4.out.box.box.rdIs ?_)
        | (go_at_call 50; refine Calls.mono (rflush_of HI4.out.lt HI4.out.lies rfl HQ1.out HP.out) ?_; rintro e w5 ⟨d2, hs2, rfl, hL5, hb5⟩
           have H5 := Lib.hid (HI4.out.box.fresh hb5)
           have HL5 := Lib.hid hL5
           have HS2 := Lib.hid hs2
           have HB5 := Lib.hid hb5
           clear hL5 hs2 hb5)
        | (with_reducible refine st_rd rfl _ _ rfl w.heap.size 0 d2 rfl rfl H5.out.box.rdHas ?_; intro w6 hw6
           have HI6 := Lib.hid (HI4.out.step HL5.out HB5.out hw6.out)
           have c60 := HI6.out.box.mid.ubF.1
           clear H5 HL5 HB5 hw6 HI4)
        | (with_reducible refine ld_rd rfl _ rfl w.heap.size 0 d2 rfl HI6.out.box.box.rdIs ?_)
        | (with_reducible refine ld_sec rfl _ rfl g6 0 x rfl HI6.out.sec.secIs ?_)
        | (go_at_call 51; refine Calls.mono (rput_of HI6.out.lt HI6.out.lies HS2.out ((u.txg : Int) % 4) x HQ2.out HP1.out) ?_; rintro e w7 ⟨d3, hs3, rfl, hL7, hb7⟩
           have H7 := Lib.hid (HI6.out.box.fresh hb7)
           have HL7 := Lib.hid hL7
           have HS3 := Lib.hid hs3
           have HB7 := Lib.hid hb7
           clear hL7 hs3 hb7 c60)
        | (with_reducible refine st_rd rfl _ _ rfl w.heap.size 0 d3 rfl rfl H7.out.box.rdHas ?_; intro w8 hw8
           have HI8 := Lib.hid (HI6.out.step HL7.out HB7.out hw8.out)
           clear H7 HL7 HB7 hw8 HI6)
        | (with_reducible refine ld_rd rfl _ rfl w.heap.size 0 d3 rfl HI8.out.box.box.rdIs ?_)
        | (with_reducible refine st_rd rfl _ _ rfl (w.heap.size + 2) 0 d3 rfl rfl HI8.out.box.res.rdHas ?_; intro w10 hw10))
      obtain ⟨h3, h4⟩ := HI8.out.box.out hw10.out
      exact bodyPost_ret (results_row_tmp (u := 5) rfl _ _ _ _ _ _ _ rfl h3 Try.underlying47 rfl (sizeRd'' _)) rfl ⟨d3, by rw [HC2.out]; exact HS3.out, congrArg (fun q : RSt × Int => Ending.returned (.tuple #[.agg d3.cs.toArray, .int .i64 q.2])) HC2.out.symm, HWK.out _ _ (HI8.out.fin hw10.out), h4⟩
  · have HC1 : Hid (d.s.commit u = (q1, c1)) := HC.out.trans (if_neg hc1)
    have hcc : (c1 != 0) = true := by simpa using hc1
    clear HC hc1 HPU
    go_wp2_with (first
      | (with_reducible refine ld_rd rfl _ rfl w.heap.size 0 d rfl HI4.out.box.box.rdIs ?_)
      | (go_at_call 50; refine Calls.mono (rflush_of HI4.out.lt HI4.out.lies rfl HQ1.out HP.out) ?_; rintro e w5 ⟨d2, hs2, rfl, hL5, hb5⟩
         have H5 := Lib.hid (HI4.out.box.fresh hb5)
         have HL5 := Lib.hid hL5
         have HS2 := Lib.hid hs2
         have HB5 := Lib.hid hb5
         clear hL5 hs2 hb5)
      | (with_reducible refine st_rd rfl _ _ rfl w.heap.size 0 d2 rfl rfl H5.out.box.rdHas ?_; intro w6 hw6
         have HI6 := Lib.hid (HI4.out.step HL5.out HB5.out hw6.out)
         clear H5 HL5 HB5 hw6 HI4)
      | (with_reducible refine ld_rd rfl _ rfl w.heap.size 0 d2 rfl HI6.out.box.box.rdIs ?_)
      | (with_reducible refine st_rd rfl _ _ rfl (w.heap.size + 2) 0 d2 rfl rfl HI6.out.box.res.rdHas ?_; intro w10 hw10))
    obtain ⟨h3, h4⟩ := HI6.out.box.out hw10.out
    exact bodyPost_ret (results_row_tmp (u := 5) rfl _ _ _ _ _ _ _ rfl h3 Try.underlying47 rfl (sizeRd'' _)) rfl ⟨d2, by rw [HC1.out]; exact HS2.out, congrArg (fun q : RSt × Int => Ending.returned (.tuple #[.agg d2.cs.toArray, .int .i64 q.2])) HC1.out.symm, HWK.out _ _ (HI6.out.fin hw10.out), h4⟩
theorem rcommit_any {w : World} {O : Nat → Prop} (hO : ∀ k, O k → k < w.heap.size) {d : RD} (h : Lies w O d) (hp : d.s.pend.length ≤ 1000000) (u : Ub) :
    Calls Try.prog 22 #[.agg d.cs.toArray, .agg u.cs.toArray] w fun e w' => ∃ d' : RD, d'.s = (d.s.commit u).1 ∧ e = .returned (.tuple #[.agg d'.cs.toArray, .int .i64 (d.s.commit u).2]) ∧ Lies w' O d' ∧ Below w.heap.size w w' := by
  rcases hr : rightU u with _ | _
  · have e : d.s.commit u = (d.s, 61) := if_neg (by simp [hr])
    rw [e]
    exact rcommit_no h u hr
  · exact rcommit_yes hO h hp u hr
/-! ### Put in among others, step by step -/
def stepI (u : Ub) (p : List Ub × Bool) (x : Ub) : List Ub × Bool := if p.2 = false ∧ u.txg < x.txg then (p.1 ++ [u, x], true) else (p.1 ++ [x], p.2)
def insP (u : Ub) (l : List Ub) : List Ub × Bool := l.foldl (stepI u) ([], false)
theorem fold_true (u : Ub) : ∀ (l acc : List Ub), l.foldl (stepI u) (acc, true) = (acc ++ l, true)
  | [], acc => by simp
  | x :: r, acc => by
    rw [List.foldl_cons, show stepI u (acc, true) x = (acc ++ [x], true) from if_neg (by simp), fold_true u r]
    simp
theorem fold_ins (u : Ub) : ∀ (l acc : List Ub), (if (l.foldl (stepI u) (acc, false)).2 = true then (l.foldl (stepI u) (acc, false)).1 else (l.foldl (stepI u) (acc, false)).1 ++ [u]) = acc ++ insU u l
  | [], acc => by simp [insU]
  | x :: r, acc => by
    rw [List.foldl_cons]
    unfold insU
    by_cases h : u.txg < x.txg
    · rw [show stepI u (acc, false) x = (acc ++ [u, x], true) from if_pos ⟨rfl, h⟩, fold_true, if_pos h]
      simp
    · rw [show stepI u (acc, false) x = (acc ++ [x], false) from if_neg (fun hc => h hc.2), if_neg h, fold_ins u r]
      simp
theorem insP_ins (u : Ub) (l : List Ub) : (if (insP u l).2 = true then (insP u l).1 else (insP u l).1 ++ [u]) = insU u l := by
  have := fold_ins u l []
  rwa [List.nil_append] at this
theorem insP_snoc (u : Ub) (l : List Ub) (k : Nat) (hk : k < l.length) : insP u (l.take (k + 1)) = stepI u (insP u (l.take k)) l[k] := by
  unfold insP
  rw [List.take_succ_eq_append_getElem hk, List.foldl_append]
  rfl
theorem step_len (u : Ub) : ∀ (l : List Ub) (p : List Ub × Bool), (l.foldl (stepI u) p).1.length ≤ p.1.length + 2 * l.length
  | [], p => by simp
  | x :: r, p => by
    rw [List.foldl_cons]
    refine Nat.le_trans (step_len u r _) ?_
    have : (stepI u p x).1.length ≤ p.1.length + 2 := by
      unfold stepI
      split <;> simp
    simp only [List.length_cons]
    omega
theorem insP_len (u : Ub) (l : List Ub) : (insP u l).1.length ≤ 2 * l.length := by
  have := step_len u l ([], false)
  unfold insP
  simpa using this
/-! ### What the reference's ring tells -/
def rslotF (s : RSt) (i : Nat) : Option Ub := if hasF s.st.length (i : Int) = true ∧ s.dead = false ∧ readB (rnowF s i) = true ∧ slotU (readV (rnowF s i)) = i then some (readV (rnowF s i)) else none
def rslotsF (s : RSt) (k : Nat) : List Ub := (List.range k).filterMap (rslotF s)
def rupF (s : RSt) (k : Nat) : List Ub := sortUs (rslotsF s k)
def rlistF (s : RSt) : List Ub := rupF s 4
theorem rup_none {s : RSt} {k : Nat} (h : rslotF s k = none) : rupF s (k + 1) = rupF s k := by
  unfold rupF rslotsF
  rw [List.range_succ, List.filterMap_append]
  simp [h]
theorem rup_some {s : RSt} {k : Nat} {u : Ub} (h : rslotF s k = some u) : rupF s (k + 1) = insU u (rupF s k) := by
  unfold rupF rslotsF
  rw [List.range_succ, List.filterMap_append]
  simp only [List.filterMap_cons, h, List.filterMap_nil]
  exact sortUs_snoc _ _
theorem rup_len (s : RSt) (k : Nat) : (rupF s k).length ≤ k := by
  rw [rupF, (sortUs_perm _).length_eq]
  have := List.length_filterMap_le (rslotF s) (List.range k)
  rwa [List.length_range] at this
structure RInv (w wr : World) (O : Nat → Prop) (d : RD) (A : Option Addr) (l : List Ub) : Prop where
  box : Blk wr w.heap.size 47 d.cs.toArray
  out : RdO wr O A (flatU l)
  below : Below w.heap.size w wr
theorem RInv.fresh {w wr wr' : World} {O : Nat → Prop} {d : RD} {A : Option Addr} {l : List Ub} (h : RInv w wr O d A l) (hb : Below wr.heap.size wr wr') : RInv w wr' O d A l :=
  ⟨h.box.below hb h.box.lt, h.out.below hb, h.below.trans (hb.mono h.below.size)⟩
/-- A row that is made behind so many blocks. -/
structure IInv (N : Nat) (w5 wi : World) (nx : Value) (l : List Ub) : Prop where
  own : wi.ownsRow N 27 7 nx l.length (flatU l)
  below : Below N w5 wi
  le : N ≤ wi.heap.size
theorem IInv.fresh {N : Nat} {w5 wi w' : World} {nx : Value} {l : List Ub} (h : IInv N w5 wi nx l) (hb : Below wi.heap.size wi w') : IInv N w5 w' nx l :=
  ⟨own_far h.own hb, h.below.trans (hb.mono h.le), Nat.le_trans h.le hb.size⟩
theorem IInv.app {N : Nat} {w5 wi w' : World} {nx v : Value} {l : List Ub} {u : Ub} (h : IInv N w5 wi nx l) (ho : w'.ownsRow N 27 7 v (l.length + 1) (flatU l ++ u.cs)) (hg : (wi.alloc (.cells u.cs.toArray 27)).grownBy w' nx.ownBlock) : IInv N w5 w' v (l ++ [u]) := by
  refine ⟨?_, below_own (h.below.alloc h.le _) (World.ownsRow.alloc h.own _) (Nat.le_refl _) (by have := h.le; simp; omega) hg, Nat.le_trans h.le (Nat.le_trans (by simp) hg.size)⟩
  rw [flatU_snoc, List.length_append]
  exact ho
theorem app_keeps {g : Nat} {t : TypeId} {wi w' : World} {nx : Value} {cs : Array Value} {o : Obj} (hx : Blk wi g t cs) (h : ∀ k, nx.ownBlock = some k → k < g) (hg : (wi.alloc o).grownBy w' nx.ownBlock) : Blk w' g t cs :=
  hx.chg (O := fun k => nx.ownBlock = some k) (((Chg.refl _ _).alloc _).grown hg fun _ hk => .inl hk) fun hk => by have := h _ hk; omega
theorem own_base_rd {w : World} {N : Nat} {v : Value} {l : List Ub} {O : Nat → Prop} (h : w.ownsRow N 27 7 v l.length (flatU l)) (hO : ∀ k, O k → k < N) : ∃ A c, v = .slice A l.length c ∧ RdO w O A (flatU l) := by
  obtain ⟨A, c, rfl, _, _⟩ := own_rd h
  exact ⟨A, c, rfl, own_rdO h hO⟩
theorem RInv.next {w w4 wr : World} {O : Nat → Prop} {d : RD} {A A' : Option Addr} {l nx : List Ub} {N : Nat} {v : Value} (h : RInv w w4 O d A l) (hI : IInv N w4 wr v nx) (hN : N = w4.heap.size) (hr : RdO wr O A' (flatU nx)) : RInv w wr O d A' nx := by
  have h1 := h.box.lt
  have h2 := h.below.size
  exact ⟨h.box.below hI.below (by omega), hr, h.below.trans (hI.below.mono (by omega))⟩
theorem RdO.ub {w : World} {O : Nat → Prop} {A : Option Addr} {l : List Ub} (h : RdO w O A (flatU l)) (k : Nat) (hk : k < l.length) : ∃ b off, A = some ⟨b, off, none⟩ ∧ b < w.heap.size ∧ w.rangeAt b (off + k * 7) l[k].cs := h.rd.ub k hk
set_option maxHeartbeats 4000000 in
theorem rlist_any {w : World} {O : Nat → Prop} (hO : ∀ k, O k → k < w.heap.size) {d : RD} (h : Lies w O d) (hp : d.s.pend.length ≤ 1000000) :
    Calls Try.prog 26 #[.agg d.cs.toArray] w fun e w' => ∃ A c, e = .returned (.slice A (rlistF d.s).length c) ∧ RdO w' O A (flatU (rlistF d.s)) ∧ Below w.heap.size w w' := by
  have hz : ∀ w, Sem.run Try.prog (zeroValue 27) w = .ok (.agg zub.cs.toArray) w := zeroUb
  have HB := Lib.hid (rd_box w d)
  have HLI := Lib.hid h
  have HO := Lib.hid hO
  have HP := Lib.hid hp
  clear h hO hp
  go_enter Try.func26, Try.ntmps26
  go_wp2_with fail
  have HST : Hid (RInv w ((w.alloc (.cells d.cs.toArray 47)).alloc (.cells #[] 27)) O d (some ⟨w.heap.size + 1, 0, none⟩) (rupF d.s 0)) :=
    ⟨HB.out.below ((Below.refl (w.alloc (.cells d.cs.toArray 47)).heap.size _).alloc (Nat.le_refl _) _) (by simp), RdO.nil, ((Below.refl _ _).alloc (Nat.le_refl _) _).alloc (by simp) _⟩
  go_loopw [3, 4] (fun o i wr => ∃ (k : Nat) (A : Option Addr) (c : Nat), k ≤ 4 ∧ i = .int .i64 k ∧ o = .slice A (rupF d.s k).length c ∧ RInv w wr O d A (rupF d.s k)) (fun _ i _ => 4 - (intOf i).toNat)
  case atStart => exact ⟨0, _, 0, by omega, rfl, rfl, HST.out⟩
  case round =>
    clear HST HB
    obtain ⟨k, A, c, hk, rfl, rfl, hR⟩ := hrel
    have HR := Lib.hid hR
    clear hR
    by_cases hlt : k < 4
    · have hki : (k : Int) < 4 := by omega
      have HK := Lib.hid hlt
      have HTH := Lib.hid (rthere_any d (k : Int))
      have HL4 := Lib.hid (Nat.le_trans (rup_len d.s k) hk)
      clear hk hlt
      rcases hh : hasF d.s.st.length (k : Int) with _ | _
      · rw [hh] at HTH
        have HN := Lib.hid (rup_none (show rslotF d.s k = none from if_neg fun hc => by rw [hh] at hc; exact absurd hc.1 (by simp)))
        clear hh
        go_wp2_with (first
          | (with_reducible refine ld_rd rfl _ rfl w.heap.size 0 d rfl HR.out.box.rdIs ?_)
          | (go_at_call 57; with_reducible refine Calls.mono (HTH.out _) ?_; rintro e w1 ⟨rfl, hb1⟩
             have HR1 := Lib.hid (HR.out.fresh hb1)
             have c14 := HR1.out.box.rdF.2.2.2.2.1
             clear hb1))
        go_roundw
        case rel => exact ⟨k + 1, A, c, HK.out, by go_num, by rw [HN.out], by rw [HN.out]; exact HR1.out⟩
        case measure => have := HK.out; simp [intOf]; omega

      · rw [hh] at HTH
        rcases hd : d.s.dead with _ | _
        · have HV := Lib.hid (fun w => urread_any (s := rnowF d.s k) (w := w))
          rcases hb : readB (rnowF d.s k) with _ | _
          · rw [hb] at HV
            have HN := Lib.hid (rup_none (show rslotF d.s k = none from if_neg fun hc => by rw [hb] at hc; exact absurd hc.2.2.1 (by simp)))
            have HD := Lib.hid hd
            clear hb hh hd
            generalize readV (rnowF d.s k) = v at *
            go_wp2_with (first
          | (with_reducible refine ld_rd rfl _ rfl w.heap.size 0 d rfl HR.out.box.rdIs ?_)
          | (go_at_call 57; with_reducible refine Calls.mono (HTH.out _) ?_; rintro e w1 ⟨rfl, hb1⟩
             have HR1 := Lib.hid (HR.out.fresh hb1)
             have c14 := HR1.out.box.rdF.2.2.2.2.1
             rw [HD.out] at c14
             clear hb1)
          | (with_reducible refine ld_rd rfl _ rfl w.heap.size 0 d rfl HR1.out.box.rdIs ?_)
          | (go_at_call 58; refine Calls.mono (rnow_any (HLI.out.below HR1.out.below) HP.out (k : Int)) ?_; rintro e w2 ⟨rfl, hb2⟩
             have HR2 := Lib.hid (HR1.out.fresh hb2)
             clear hb2)
          | (go_at_call 15; with_reducible refine Calls.mono (HV.out _) ?_; rintro e w3 ⟨rfl, hb3⟩
             have HR3 := Lib.hid (HR2.out.fresh hb3)
             clear hb3)
          | (with_reducible refine st_ub rfl _ _ rfl w3.heap.size 0 v rfl rfl (Blk.ubHas (u := zub) (Blk.new w3 _ _)) ?_; intro w4 hw4
             have HR4 := Lib.hid (HR3.out.fresh (new_ub hw4.out).2)
             have HU4 := Lib.hid (new_ub hw4.out).1
             have c50 := HU4.out.ubF.1))
            go_roundw
            case rel => exact ⟨k + 1, A, c, HK.out, by go_num, by rw [HN.out], by rw [HN.out]; exact HR4.out⟩
            case measure => have := HK.out; simp [intOf]; omega

          · rw [hb] at HV
            by_cases hs : slotU (readV (rnowF d.s k)) = k
            · have HN := Lib.hid (rup_some (show rslotF d.s k = some (readV (rnowF d.s k)) from if_pos ⟨hh, hd, hb, hs⟩))
              have HD := Lib.hid hd
              have HSL : Hid ((((readV (rnowF d.s k)).txg : Int) % 4 == (k : Int)) = true) := by
                show _ = true
                rw [beq_iff_eq]
                unfold slotU at hs
                omega
              have hne : (((readV (rnowF d.s k)).txg : Int) % 4 != (k : Int)) = false := by
                unfold bne
                rw [HSL.out]
                rfl
              clear HSL hb hh hd hs
              generalize readV (rnowF d.s k) = v at *
              go_wp2_with (first
          | (with_reducible refine ld_rd rfl _ rfl w.heap.size 0 d rfl HR.out.box.rdIs ?_)
          | (go_at_call 57; with_reducible refine Calls.mono (HTH.out _) ?_; rintro e w1 ⟨rfl, hb1⟩
             have HR1 := Lib.hid (HR.out.fresh hb1)
             have c14 := HR1.out.box.rdF.2.2.2.2.1
             rw [HD.out] at c14
             clear hb1)
          | (with_reducible refine ld_rd rfl _ rfl w.heap.size 0 d rfl HR1.out.box.rdIs ?_)
          | (go_at_call 58; refine Calls.mono (rnow_any (HLI.out.below HR1.out.below) HP.out (k : Int)) ?_; rintro e w2 ⟨rfl, hb2⟩
             have HR2 := Lib.hid (HR1.out.fresh hb2)
             clear hb2)
          | (go_at_call 15; with_reducible refine Calls.mono (HV.out _) ?_; rintro e w3 ⟨rfl, hb3⟩
             have HR3 := Lib.hid (HR2.out.fresh hb3)
             clear hb3)
          | (with_reducible refine st_ub rfl _ _ rfl w3.heap.size 0 v rfl rfl (Blk.ubHas (u := zub) (Blk.new w3 _ _)) ?_; intro w4 hw4
             have HR4 := Lib.hid (HR3.out.fresh (new_ub hw4.out).2)
             have HU4 := Lib.hid (new_ub hw4.out).1
             have c50 := HU4.out.ubF.1))
              have HU5L := Lib.hid HU4.out.lt
              have HI4 : Hid (IInv w4.heap.size w4 (w4.alloc (.cells #[] 27)) (.slice (some ⟨w4.heap.size, 0, none⟩) 0 0) (insP v ((rupF d.s k).take 0)).1) :=
                ⟨World.ownsRow_lit (base := w4.heap.size) (e := 27) (size := 7) w4 #[] 0 (Nat.le_refl _) (by simp [maxLen]) rfl, (Below.refl _ _).alloc (Nat.le_refl _) _, by simp⟩
              have HU5 := HU4
              clear HU4 HV HTH HD c14 c50 HR HR1 HR2 HR3 hw4 hne
              generalize rupF d.s k = l at *
              obtain ⟨g7, hg7⟩ : ∃ g, g = w4.heap.size := ⟨_, rfl⟩
              rw [← hg7] at HI4 HU5L
              have HG7 := Lib.hid hg7
              rw [← hg7]
              clear hg7
              generalize w3.heap.size = g5 at *
              obtain ⟨wo, hwo⟩ : ∃ wo : World, wo = wr := ⟨_, rfl⟩
              clear hwo
              go_loopw [7, 8, 44] (fun nx dn j wr => ∃ (q : Nat), q ≤ l.length ∧ j = .int .i64 q ∧ dn = .bool (insP v (l.take q)).2 ∧ IInv g7 w4 wr nx (insP v (l.take q)).1) (fun _ _ j _ => l.length - (intOf j).toNat)
              case atStart => exact ⟨0, Nat.zero_le _, rfl, rfl, HI4.out⟩
              case round =>
                clear HI4
                obtain ⟨q, hq, rfl, rfl, hI⟩ := hrel
                have HI := Lib.hid hI
                clear hI
                by_cases hlt : q < l.length
                · have hqi : (q : Int) < l.length := by omega
                  have hq4 : (q : Int) < 4 := by have := HL4.out; omega
                  have HQ := Lib.hid hlt
                  have HLQ : Hid ((insP v (l.take q)).1.length ≤ 8) := by
                    have h1 := insP_len v (l.take q)
                    have h2 := List.length_take_le q l
                    have h3 := HL4.out
                    show _ ≤ _
                    omega
                  obtain ⟨b, off, rfl, hbl, hr⟩ := HR4.out.out.ub q hlt
                  have HRX : Hid (wr.rangeAt b (off + q * 7) l[q].cs) := fun j v hj => (HI.out.below.cell (p := ⟨b, off + q * 7 + j, none⟩) (by rw [HG7.out]; exact hbl)).trans (hr j v hj)
                  have HS := Lib.hid (insP_snoc v l q hlt)
                  generalize l[q] = x at *
                  generalize insP v (l.take q) = p at *
                  clear hq hlt hr hbl
                  obtain ⟨nx, dn⟩ := p
                  have HLN : Hid (nx.length ≤ 8) := HLQ
                  clear HLQ
                  have HLQ := HLN
                  clear HLN
                  have HIN : Hid (IInv g7 w4 wr u7 nx) := HI
                  clear HI
                  have HI := HIN
                  clear HIN
                  cases dn with
                  | true =>
                    rw [show stepI v (nx, true) x = (nx ++ [x], true) from if_neg (by simp)] at HS
                    go_wp2_with (first
                      | (with_reducible refine ld_ub rfl _ rfl b (off + q * 7) x rfl HRX.out ?_)
                      | (with_reducible refine st_ub rfl _ _ rfl wr.heap.size 0 x rfl rfl (Blk.ubHas (u := zub) (Blk.new wr _ _)) ?_; intro w6 hw6
                         have HI6 := Lib.hid (HI.out.fresh (new_ub hw6.out).2)
                         have HX6 := Lib.hid (new_ub hw6.out).1
                         have HG6 : Hid (∀ k, u7.ownBlock = some k → k < wr.heap.size) := (by exact fun k hk => (HI.out.own.lt k hk).2)
                         have HU6 := Lib.hid (HU5.out.below HI6.out.below HU5L.out)
                         have cx := HX6.out.ubF.1
                         have cu := HU6.out.ubF.1)
                      | (with_reducible refine ld_ub rfl _ rfl wr.heap.size 0 x rfl HX6.out.ubIs ?_)
                      | (refine wpList_val (by rfl) (.slice (some ⟨w6.heap.size, 0, none⟩) 1 1) (ex_bslU (.tmp 62) rfl x rfl) ?_)
                      | (at_builtin; refine app_ub rfl 61 63 rfl g7 u7 _ _ rfl HI6.out.own x rfl HI6.out.le (by have := HLQ.out; omega) ?_; intro v'' w8 ho8 hg8
                         have HI8 := Lib.hid (HI6.out.app ho8 hg8)))
                    go_roundw
                    case rel => exact ⟨q + 1, HQ.out, by go_num, by rw [HS.out], by rw [HS.out]; exact HI8.out⟩
                    case measure => have := HQ.out; simp [intOf]; omega
                  | false =>
                    by_cases htx : v.txg < x.txg
                    · rw [show stepI v (nx, false) x = (nx ++ [v, x], true) from if_pos ⟨rfl, htx⟩] at HS
                      have HAB : Hid (nx ++ [v, x] = nx ++ [v] ++ [x]) := by
                        show nx ++ [v, x] = nx ++ [v] ++ [x]
                        simp
                      have hti : (v.txg : Int) < (x.txg : Int) := by omega
                      clear htx
                      go_wp2_with (first
                        | (with_reducible refine ld_ub rfl _ rfl b (off + q * 7) x rfl HRX.out ?_)
                        | (with_reducible refine st_ub rfl _ _ rfl wr.heap.size 0 x rfl rfl (Blk.ubHas (u := zub) (Blk.new wr _ _)) ?_; intro w6 hw6
                           have HI6 := Lib.hid (HI.out.fresh (new_ub hw6.out).2)
                           have HX6 := Lib.hid (new_ub hw6.out).1
                           have HG6 : Hid (∀ k, u7.ownBlock = some k → k < wr.heap.size) := (by exact fun k hk => (HI.out.own.lt k hk).2)
                           have HU6 := Lib.hid (HU5.out.below HI6.out.below HU5L.out)
                           have cx := HX6.out.ubF.1
                           have cu := HU6.out.ubF.1)
                        | (with_reducible refine ld_ub rfl _ rfl g5 0 v rfl HU6.out.ubIs ?_)
                        | (refine wpList_val (by rfl) (.slice (some ⟨w6.heap.size, 0, none⟩) 1 1) (ex_bslU (.tmp 58) rfl v rfl) ?_)
                        | (at_builtin; refine app_ub rfl 57 59 rfl g7 u7 _ _ rfl HI6.out.own v rfl HI6.out.le (by have := HLQ.out; omega) ?_; intro v' w7 ho7 hg7
                           have HI7 := Lib.hid (HI6.out.app ho7 hg7)
                           have HX7 := Lib.hid (app_keeps HX6.out HG6.out hg7))
                        | (with_reducible refine ld_ub rfl _ rfl wr.heap.size 0 x rfl HX7.out.ubIs ?_)
                        | (refine wpList_val (by rfl) (.slice (some ⟨w7.heap.size, 0, none⟩) 1 1) (ex_bslU (.tmp 62) rfl x rfl) ?_)
                        | (at_builtin; refine app_ub rfl 61 63 rfl g7 v' _ _ rfl HI7.out.own x rfl HI7.out.le (by have := HLQ.out; rw [List.length_append]; simp only [List.length_cons, List.length_nil]; omega) ?_; intro v'' w8 ho8 hg8
                           have HI8 := Lib.hid (HI7.out.app ho8 hg8)))
                      go_roundw
                      case rel => exact ⟨q + 1, HQ.out, by go_num, by rw [HS.out], by rw [HS.out]; rw [HAB.out]; exact HI8.out⟩
                      case measure => have := HQ.out; simp [intOf]; omega
                    · rw [show stepI v (nx, false) x = (nx ++ [x], false) from if_neg (fun hc => htx hc.2)] at HS
                      have hti : ¬ (v.txg : Int) < (x.txg : Int) := by omega
                      clear htx
                      go_wp2_with (first
                        | (with_reducible refine ld_ub rfl _ rfl b (off + q * 7) x rfl HRX.out ?_)
                        | (with_reducible refine st_ub rfl _ _ rfl wr.heap.size 0 x rfl rfl (Blk.ubHas (u := zub) (Blk.new wr _ _)) ?_; intro w6 hw6
                           have HI6 := Lib.hid (HI.out.fresh (new_ub hw6.out).2)
                           have HX6 := Lib.hid (new_ub hw6.out).1
                           have HG6 : Hid (∀ k, u7.ownBlock = some k → k < wr.heap.size) := (by exact fun k hk => (HI.out.own.lt k hk).2)
                           have HU6 := Lib.hid (HU5.out.below HI6.out.below HU5L.out)
                           have cx := HX6.out.ubF.1
                           have cu := HU6.out.ubF.1)
                        | (with_reducible refine ld_ub rfl _ rfl wr.heap.size 0 x rfl HX6.out.ubIs ?_)
                        | (refine wpList_val (by rfl) (.slice (some ⟨w6.heap.size, 0, none⟩) 1 1) (ex_bslU (.tmp 62) rfl x rfl) ?_)
                        | (at_builtin; refine app_ub rfl 61 63 rfl g7 u7 _ _ rfl HI6.out.own x rfl HI6.out.le (by have := HLQ.out; omega) ?_; intro v'' w8 ho8 hg8
                           have HI8 := Lib.hid (HI6.out.app ho8 hg8)))
                      go_roundw
                      case rel => exact ⟨q + 1, HQ.out, by go_num, by rw [HS.out], by rw [HS.out]; exact HI8.out⟩
                      case measure => have := HQ.out; simp [intOf]; omega
                · obtain rfl : q = l.length := by omega
                  have HI : Hid (IInv g7 w4 wr u7 (insP v l).1) := by
                    have h := HI.out
                    rw [List.take_of_length_le (Nat.le_refl _)] at h
                    exact h
                  rw [List.take_of_length_le (Nat.le_refl _)]
                  have HE := Lib.hid (insP_ins v l)
                  have HLQ : Hid ((insP v l).1.length ≤ 8) := by
                    have h1 := insP_len v l
                    have h3 := HL4.out
                    show _ ≤ _
                    omega
                  have HOG : Hid (∀ j, O j → j < g7) := fun j hj => by
                    have h1 := HO.out j hj
                    have h2 := HR4.out.below.size
                    have h3 := HG7.out
                    omega
                  generalize insP v l = p at *
                  obtain ⟨nx, dn⟩ := p
                  have HLN : Hid (nx.length ≤ 8) := HLQ
                  clear HLQ
                  have HLQ := HLN
                  clear HLN
                  have HIN : Hid (IInv g7 w4 wr u7 nx) := HI
                  clear HI
                  have HI := HIN
                  clear HIN
                  clear hq hlt
                  cases dn with
                  | true =>
                    have HE : Hid (nx = rupF d.s (k + 1)) := by
                      rw [HN.out]
                      exact HE.out
                    obtain ⟨A', c', rfl, hrd⟩ := own_base_rd (O := O) HI.out.own HOG.out
                    have HRD := Lib.hid hrd
                    clear hrd
                    go_wp2_with fail
                    go_roundw
                    case rel => exact ⟨k + 1, A', c', HK.out, by go_num, by rw [HE.out], by rw [← HE.out]; exact HR4.out.next HI.out HG7.out HRD.out⟩
                    case measure => have := HK.out; simp [intOf]; omega
                  | false =>
                    have HE : Hid (nx ++ [v] = rupF d.s (k + 1)) := by
                      rw [HN.out]
                      exact HE.out
                    have HU6 := Lib.hid (HU5.out.below HI.out.below HU5L.out)
                    go_wp2_with (first
                      | (with_reducible refine ld_ub rfl _ rfl g5 0 v rfl HU6.out.ubIs ?_)
                      | (refine wpList_val (by rfl) (.slice (some ⟨wr.heap.size, 0, none⟩) 1 1) (ex_bslU (.tmp 69) rfl v rfl) ?_)
                      | (at_builtin; refine app_ub rfl 68 70 rfl g7 u7 _ _ rfl HI.out.own v rfl HI.out.le (by have := HLQ.out; omega) ?_; intro v' w7 ho7 hg7
                         have HI7 := Lib.hid (HI.out.app ho7 hg7)
                         obtain ⟨A', c', hv, hrd⟩ := own_base_rd (O := O) HI7.out.own HOG.out
                         have HVV := Lib.hid hv
                         have HRD := Lib.hid hrd
                         clear hv hrd))
                    go_roundw
                    case rel => exact ⟨k + 1, A', c', HK.out, by go_num, by rw [← HE.out]; exact HVV.out, by rw [← HE.out]; exact HR4.out.next HI7.out HG7.out HRD.out⟩
                    case measure => have := HK.out; simp [intOf]; omega
            · have HN := Lib.hid (rup_none (show rslotF d.s k = none from if_neg fun hc => hs hc.2.2.2))
              have HD := Lib.hid hd
              have HSL : Hid ((((readV (rnowF d.s k)).txg : Int) % 4 == (k : Int)) = false) := by
                show _ = false
                rw [beq_eq_false_iff_ne]
                unfold slotU at hs
                omega
              have hne : (((readV (rnowF d.s k)).txg : Int) % 4 != (k : Int)) = true := by
                unfold bne
                rw [HSL.out]
                rfl
              clear HSL hb hh hd hs
              generalize readV (rnowF d.s k) = v at *
              go_wp2_with (first
          | (with_reducible refine ld_rd rfl _ rfl w.heap.size 0 d rfl HR.out.box.rdIs ?_)
          | (go_at_call 57; with_reducible refine Calls.mono (HTH.out _) ?_; rintro e w1 ⟨rfl, hb1⟩
             have HR1 := Lib.hid (HR.out.fresh hb1)
             have c14 := HR1.out.box.rdF.2.2.2.2.1
             rw [HD.out] at c14
             clear hb1)
          | (with_reducible refine ld_rd rfl _ rfl w.heap.size 0 d rfl HR1.out.box.rdIs ?_)
          | (go_at_call 58; refine Calls.mono (rnow_any (HLI.out.below HR1.out.below) HP.out (k : Int)) ?_; rintro e w2 ⟨rfl, hb2⟩
             have HR2 := Lib.hid (HR1.out.fresh hb2)
             clear hb2)
          | (go_at_call 15; with_reducible refine Calls.mono (HV.out _) ?_; rintro e w3 ⟨rfl, hb3⟩
             have HR3 := Lib.hid (HR2.out.fresh hb3)
             clear hb3)
          | (with_reducible refine st_ub rfl _ _ rfl w3.heap.size 0 v rfl rfl (Blk.ubHas (u := zub) (Blk.new w3 _ _)) ?_; intro w4 hw4
             have HR4 := Lib.hid (HR3.out.fresh (new_ub hw4.out).2)
             have HU4 := Lib.hid (new_ub hw4.out).1
             have c50 := HU4.out.ubF.1))
              go_roundw
              case rel => exact ⟨k + 1, A, c, HK.out, by go_num, by rw [HN.out], by rw [HN.out]; exact HR4.out⟩
              case measure => have := HK.out; simp [intOf]; omega

        · have HN := Lib.hid (rup_none (show rslotF d.s k = none from if_neg fun hc => by rw [hd] at hc; exact absurd hc.2.1 (by simp)))
          have HD := Lib.hid hd
          clear hh hd
          go_wp2_with (first
          | (with_reducible refine ld_rd rfl _ rfl w.heap.size 0 d rfl HR.out.box.rdIs ?_)
          | (go_at_call 57; with_reducible refine Calls.mono (HTH.out _) ?_; rintro e w1 ⟨rfl, hb1⟩
             have HR1 := Lib.hid (HR.out.fresh hb1)
             have c14 := HR1.out.box.rdF.2.2.2.2.1
             rw [HD.out] at c14
             clear hb1))
          go_roundw
          case rel => exact ⟨k + 1, A, c, HK.out, by go_num, by rw [HN.out], by rw [HN.out]; exact HR1.out⟩
          case measure => have := HK.out; simp [intOf]; omega

    · obtain rfl : k = 4 := by omega
      clear hk hlt
      go_wp2_with fail
      go_ret
      exact ⟨A, c, rfl, HR.out.out, HR.out.below⟩
def rbestF (s : RSt) : Option Ub := (rlistF s).getLast?
set_option maxHeartbeats 1000000 in
theorem rbest_any {w : World} {O : Nat → Prop} (hO : ∀ k, O k → k < w.heap.size) {d : RD} (h : Lies w O d) (hp : d.s.pend.length ≤ 1000000) :
    Calls Try.prog 27 #[.agg d.cs.toArray] w fun e w' => e = .returned (.tuple #[.agg ((rbestF d.s).getD zub).cs.toArray, .bool (rbestF d.s).isSome]) ∧ Below w.heap.size w w' := by
  have hz : ∀ w, Sem.run Try.prog (zeroValue 27) w = .ok (.agg zub.cs.toArray) w := zeroUb
  have hbz : ∀ w, (Instr.build 27 #[]).run Try.prog w = .ok (.agg zub.cs.toArray) w := buildZU
  have e1 : (w.alloc (.cells d.cs.toArray 47)).heap.size = w.heap.size + 1 := by simp
  have h1 := Blk.new (w.alloc (.cells d.cs.toArray 47)) 27 zub.cs.toArray
  rw [e1] at h1
  have hb1 : Below (w.alloc (.cells d.cs.toArray 47)).heap.size (w.alloc (.cells d.cs.toArray 47)) ((w.alloc (.cells d.cs.toArray 47)).alloc (.cells zub.cs.toArray 27)) := (Below.refl _ _).alloc (Nat.le_refl _) _
  have hb0 : Below w.heap.size w ((w.alloc (.cells d.cs.toArray 47)).alloc (.cells zub.cs.toArray 27)) := ((Below.refl _ _).alloc (Nat.le_refl _) _).alloc (by simp) _
  have HX := Lib.hid ((rd_box w d).below hb1 (by simp))
  have HU := Lib.hid h1
  have HB := Lib.hid hb0
  have HL := Lib.hid (rlist_any (fun k hk => Nat.lt_of_lt_of_le (hO k hk) hb0.size) (h.below hb0) hp)
  have HE : Hid (rbestF d.s = (rlistF d.s).getLast?) := rfl
  have HLL := Lib.hid (rup_len d.s 4)
  have HLL : Hid ((rlistF d.s).length ≤ 4) := HLL
  clear h hO hp h1 hb1 hb0 e1
  generalize rlistF d.s = l at *
  generalize rbestF d.s = be at *
  rcases Nat.eq_zero_or_pos l.length with h0 | h0
  · obtain rfl : l = [] := List.eq_nil_of_length_eq_zero h0
    have e : be = none := HE.out
    subst e
    clear h0 HE
    go_enter Try.func27, Try.ntmps27
    go_wp2_with (first
      | (with_reducible refine ld_rd rfl _ rfl w.heap.size 0 d rfl HX.out.rdIs ?_)
      | (go_at_call 26; refine Calls.mono HL.out ?_; rintro e w1 ⟨A, c, rfl, hr, hb⟩
         have HU1 := Lib.hid (HU.out.below hb HU.out.lt)
         have HB1 := Lib.hid (HB.out.trans (hb.mono HB.out.size))
         clear hr hb)
      | (with_reducible refine st_ub rfl _ _ rfl (w.heap.size + 1) 0 zub rfl rfl HU1.out.ubHas ?_; intro w2 hw2))
    have hb2 : Blk w2 (w.heap.size + 1) 27 zub.cs.toArray := by rw [hw2.out]; exact HU1.out.ubAll _
    exact bodyPost_ret (results_row_tmp rfl _ _ _ _ _ _ _ rfl hb2 Try.underlying27 rfl (sizeUb'' zub)) rfl ⟨rfl, by rw [hw2.out]; exact Below.setCells _ (by omega) _ _ HB1.out⟩
  · obtain ⟨m, hm⟩ : ∃ m, l.length = m + 1 := ⟨l.length - 1, by omega⟩
    have hlt : m < l.length := by omega
    have e : be = some l[m] := by
      rw [HE.out, List.getLast?_eq_getElem?, hm, Nat.add_sub_cancel, List.getElem?_eq_getElem hlt]
    subst e
    have HUB := Lib.hid (fun (w1 : World) (A : Option Addr) (h : RdO w1 O A (flatU l)) => h.ub m hlt)
    rw [hm] at HL
    clear h0 HE
    generalize l[m] = u at *
    have hw1 : wrap64 (m : Int) = (m : Int) := IntWalk.wrap64_in _ (by have := HLL.out; omega)
    have hne : ((m : Int) + 1 == 0) = false := by rw [beq_eq_false_iff_ne]; omega
    clear hm hlt
    go_enter Try.func27, Try.ntmps27
    go_wp2_with (first
      | (with_reducible refine ld_rd rfl _ rfl w.heap.size 0 d rfl HX.out.rdIs ?_)
      | (go_at_call 26; refine Calls.mono HL.out ?_; rintro e w1 ⟨A, c, rfl, hr, hb⟩
         obtain ⟨b, off, rfl, _, hru⟩ := HUB.out _ _ hr
         have HR := Lib.hid hru
         have HU1 := Lib.hid (HU.out.below hb HU.out.lt)
         have HB1 := Lib.hid (HB.out.trans (hb.mono HB.out.size))
         clear hr hb hru)
      | (with_reducible refine ld_ub rfl _ rfl b (off + m * 7) u rfl HR.out ?_)
      | (with_reducible refine st_ub rfl _ _ rfl (w.heap.size + 1) 0 u rfl rfl HU1.out.ubHas ?_; intro w2 hw2))
    have hb2 : Blk w2 (w.heap.size + 1) 27 u.cs.toArray := by rw [hw2.out]; exact HU1.out.ubAll _
    exact bodyPost_ret (results_row_tmp rfl _ _ _ _ _ _ _ rfl hb2 Try.underlying27 rfl (sizeUb'' u)) rfl ⟨rfl, by rw [hw2.out]; exact Below.setCells _ (by omega) _ _ HB1.out⟩

/-! ### Side by side -/
structure Sim (s : St) (r : RSt) : Prop where
  st : r.st = s.st
  pend : r.pend = s.pend
  dead : r.dead = s.dead
  fuel : s.dead = false → s.left = r.fuel ∨ (s.left < 0 ∧ r.fuel < 0)
theorem Sim.count {s : St} {r : RSt} (h : Sim s r) : Sim s.count r.count := ⟨h.st, h.pend, h.dead, h.fuel⟩
theorem Sim.pow {s : St} {r : RSt} (h : Sim s r) : Sim s.refuse r.pow := by
  obtain ⟨h1, h2, h3, h4⟩ := h
  obtain ⟨f1, _, f3, _⟩ := refuse_st s
  by_cases hd : s.dead = true
  · have e2 : r.pow = r := if_pos (h3.trans hd)
    have e3 : s.refuse.dead = true := by
      unfold St.refuse
      split
      · rfl
      · split
        · exact hd
        · exact hd
    rw [e2]
    exact ⟨h1.trans f1.symm, h2.trans f3.symm, (h3.trans hd).trans e3.symm, fun h => by rw [e3] at h; cases h⟩
  · have hd : s.dead = false := by simpa using hd
    have hr : ¬ r.dead = true := by rw [h3, hd]; simp
    rcases h4 hd with h | ⟨ha, hb⟩
    · by_cases h0 : r.fuel = 0
      · have e1 : s.refuse = { s with dead := true } := if_pos (h.trans h0)
        have e2 : r.pow = { r with dead := true } := (if_neg hr).trans (if_pos h0)
        rw [e1, e2]
        exact ⟨h1, h2, rfl, fun _ => .inl h⟩
      · by_cases h5 : 0 < r.fuel
        · have e1 : s.refuse = { s with left := s.left - 1 } := (if_neg (by omega)).trans (if_pos (by omega))
          have e2 : r.pow = { r with fuel := r.fuel - 1 } := (if_neg hr).trans ((if_neg h0).trans (if_pos h5))
          rw [e1, e2]
          exact ⟨h1, h2, h3, fun _ => .inl (by show s.left - 1 = r.fuel - 1; omega)⟩
        · have e1 : s.refuse = s := (if_neg (by omega)).trans (if_neg (by omega))
          have e2 : r.pow = r := (if_neg hr).trans ((if_neg h0).trans (if_neg h5))
          rw [e1, e2]
          exact ⟨h1, h2, h3, fun _ => .inl h⟩
    · have e1 : s.refuse = s := (if_neg (by omega)).trans (if_neg (by omega))
      have e2 : r.pow = r := (if_neg hr).trans ((if_neg (by omega)).trans (if_neg (by omega)))
      rw [e1, e2]
      exact ⟨h1, h2, h3, fun _ => .inr ⟨ha, hb⟩⟩
theorem sim_flush {s : St} {r : RSt} (h : Sim s r) : s.flush.2 = r.flush.2 ∧ Sim s.flush.1 r.flush.1 := by
  have hp := h.count.pow
  obtain ⟨f1, _, f3, _⟩ := refuse_st s.count
  unfold St.flush RSt.flush
  cases hd : s.count.refuse.dead with
  | true =>
    rw [if_pos rfl, if_pos (hp.dead.trans hd)]
    exact ⟨rfl, hp⟩
  | false =>
    rw [if_neg (by simp), if_neg (by rw [hp.dead, hd]; simp)]
    refine ⟨rfl, ?_, rfl, hp.dead, hp.fuel⟩
    show applyA true [] r.count.pow.pend.zipIdx r.count.pow.st = applyF s.pend s.st
    rw [applyA_true, hp.pend, hp.st, f1, f3]
    rfl
theorem rflush_len (r : RSt) : r.flush.1.st.length = r.st.length := by
  obtain ⟨g1, _, _⟩ := pow_like r.count
  unfold RSt.flush
  split
  · show r.count.pow.st.length = _
    rw [g1]
    rfl
  · show (applyA true [] r.count.pow.pend.zipIdx r.count.pow.st).length = _
    rw [applyA_len, g1]
    rfl
theorem sim_put {s : St} {r : RSt} (h : Sim s r) {n : Nat} (hn : r.st.length = n) (i : Int) (x : Sec) : (s.write n i x).2 = (r.put i x).2 ∧ Sim (s.write n i x).1 (r.put i x).1 := by
  have hp := h.count.pow
  unfold St.write RSt.put
  rw [hn]
  by_cases hh : hasF n i = true
  · rw [if_pos hh, if_pos hh]
    cases hd : s.count.refuse.dead with
    | true =>
      rw [if_pos rfl, if_pos (hp.dead.trans hd)]
      exact ⟨rfl, hp⟩
    | false =>
      rw [if_neg (by simp), if_neg (by rw [hp.dead, hd]; simp)]
      refine ⟨rfl, hp.st, ?_, hp.dead, hp.fuel⟩
      show r.pend ++ _ = s.pend ++ _
      rw [h.pend]
  · rw [if_neg hh, if_neg hh]
    exact ⟨rfl, h.count⟩
theorem sim_commit {s : St} {r : RSt} (h : Sim s r) {n : Nat} (hn : r.st.length = n) (u : Ub) : (s.commit n u).2 = (r.commit u).2 ∧ Sim (s.commit n u).1 (r.commit u).1 := by
  unfold St.commit RSt.commit
  by_cases hr : rightU u = true
  · rw [if_pos hr, if_pos hr]
    obtain ⟨h1, h2⟩ := sim_flush h
    rw [← h1]
    by_cases hc : s.flush.2 = 0
    · rw [if_pos hc, if_pos hc]
      obtain ⟨h3, h4⟩ := sim_put h2 ((rflush_len r).trans hn) (slotU u) (secU u)
      rw [← h3]
      by_cases hc2 : (s.flush.1.write n (slotU u) (secU u)).2 = 0
      · rw [if_pos hc2, if_pos hc2]
        exact sim_flush h4
      · rw [if_neg hc2, if_neg hc2]
        exact ⟨h3, h4⟩
    · rw [if_neg hc, if_neg hc]
      exact ⟨h1, h2⟩
  · rw [if_neg hr, if_neg hr]
    exact ⟨rfl, h⟩
theorem sim_crash {s : St} {r : RSt} (h : Sim s r) (ks : List Bool) : Sim (s.crash ks) (r.crash ks) := by
  refine ⟨?_, rfl, rfl, fun _ => .inl rfl⟩
  show applyA false ks r.pend.zipIdx r.st = applyK ks s.pend.zipIdx s.st
  rw [applyA_false, h.pend, h.st]
theorem sim_break {s : St} {r : RSt} (h : Sim s r) (n : Int) : Sim { s with left := n } (r.brk n) := by
  refine ⟨h.st, h.pend, h.dead, fun _ => ?_⟩
  show n = (if n < 0 then -1 else n) ∨ n < 0 ∧ (if n < 0 then -1 else n) < 0
  by_cases hn : n < 0
  · rw [if_pos hn]
    exact .inr ⟨hn, by omega⟩
  · rw [if_neg hn]
    exact .inl rfl
theorem crash_ring {s : St} {n : Nat} (h : s.st.length = n) (ks : List Bool) : Ring n (s.crash ks) :=
  ⟨rfl, (by show (-1 : Int) < 0; omega), rfl, rfl, (by show (applyK ks s.pend.zipIdx s.st).length = n; rw [applyK_len, h])⟩
theorem Sim.like {s t : St} {r : RSt} (h : Sim s r) (h1 : t.st = s.st) (h2 : t.pend = s.pend) (h3 : t.dead = s.dead) (h4 : t.left = s.left) : Sim t r :=
  ⟨by rw [h.st, h1], by rw [h.pend, h2], by rw [h.dead, h3], fun hd => by rw [h4]; exact h.fuel (by rw [← h3]; exact hd)⟩
theorem sim_counts {s : St} {r : RSt} (h : Sim s r) (k : Nat) : Sim (s.counts k) r := by
  obtain ⟨h1, h2, h3, h4, h5⟩ := counts_like s k
  exact h.like h5 h3 h1 h4
theorem sim_new (n : Nat) : Sim (newSt n) (newR n) := ⟨rfl, rfl, rfl, fun _ => .inl rfl⟩
theorem sim_slot {s : St} {r : RSt} {n : Nat} (h : Sim s r) (hR : Ring n s) (i : Nat) : rslotF r i = slotF n s i := by
  have hn : r.st.length = n := by rw [h.st]; exact hR.len
  unfold rslotF slotF
  by_cases hh : hasF n (i : Int) = true
  · have e1 : s.read n i = (s.nw.getD i zsec, 0) := by
      unfold St.read
      rw [if_pos hh, if_neg (by rw [hR.dead]; simp), Int.toNat_natCast]
    have e2 : rnowF r i = s.nw.getD i zsec := by
      unfold rnowF nowF
      rw [h.pend, hR.pend]
      show ratF r i = _
      unfold ratF
      rw [hn, if_pos hh, h.st, hR.same, Int.toNat_natCast]
    rw [e1, e2, hn]
    have e3 : r.dead = false := h.dead.trans hR.dead
    simp only [hh, e3, true_and]
  · have e1 : s.read n i = (zsec, 41) := by
      unfold St.read
      rw [if_neg hh]
    rw [e1, hn, if_neg (fun hc => hh hc.1), if_neg (fun hc => absurd (show (41 : Int) = 0 from hc.1) (by omega))]
theorem sim_list {s : St} {r : RSt} {n : Nat} (h : Sim s r) (hR : Ring n s) : rlistF r = listF n s := by
  unfold rlistF rupF listF rslotsF slotsF
  rw [show rslotF r = slotF n s from funext fun i => sim_slot h hR i]
theorem sim_best {s : St} {r : RSt} {n : Nat} (h : Sim s r) (hR : Ring n s) : rbestF r = bestO n s := by
  unfold rbestF bestO
  rw [sim_list h hR]
theorem sim_at {s : St} {r : RSt} {n : Nat} (h : Sim s r) (hn : r.st.length = n) (i : Int) : ratF r i = s.stable n i := by
  unfold ratF St.stable
  rw [hn, h.st]
/-- What stands while the law goes: the device, and the reference's in a block of the law's own. -/
structure UMid (W wr : World) (B n : Nat) (D : Dev) (pv : Value) (st : St) (g : Nat) (d : RD) : Prop where
  at_ : At wr B n D pv st
  ref : Kp wr D pv g 47 d.cs.toArray
  lies : Lies wr (fun k => D.own pv k ∨ k = g) d
  below : Below W.heap.size W wr
  lo : W.heap.size ≤ B
  glo : W.heap.size ≤ g
theorem RdO.goes {w w' : World} {D : Dev} {pv pv' : Value} {g : Nat} {A : Option Addr} {xs : List Value} (h : RdO w (fun k => D.own pv k ∨ k = g) A xs) (k : Goes D w pv w' pv') : RdO w' (fun k => D.own pv' k ∨ k = g) A xs := fun hn =>
  let ⟨b, off, e, hl, ho, hc⟩ := h hn
  ⟨b, off, e, Nat.lt_of_lt_of_le hl k.chg.size, fun h2 => h2.elim (k.own hl fun h3 => ho (.inl h3)) fun h3 => ho (.inr h3), fun j v hv => (k.chg.cell hl (fun h3 => ho (.inl h3)) _).trans (hc j v hv)⟩
section
variable {W wr wr' : World} {B n : Nat} {D : Dev} {pv pv' : Value} {st st' : St} {g : Nat} {d d' : RD}
theorem UMid.lt (h : UMid W wr B n D pv st g d) : ∀ k, (D.own pv k ∨ k = g) → k < wr.heap.size := fun k hk => hk.elim (h.at_.lt k) fun e => by rw [e]; exact h.ref.1.lt
theorem UMid.goes (h : UMid W wr B n D pv st g d) (hA : At wr' B n D pv' st') (hG : Goes D wr pv wr' pv') : UMid W wr' B n D pv' st' g d :=
  ⟨hA, h.ref.goes hG, ⟨h.lies.st.goes hG, h.lies.pd.goes hG, h.lies.ok, h.lies.hn, h.lies.fl⟩, h.below.trans (hG.chg.below (fun k hk => Nat.le_trans h.lo (h.at_.ge k hk)) h.below.size), h.lo, h.glo⟩
theorem UMid.fresh (h : UMid W wr B n D pv st g d) (hb : Below wr.heap.size wr wr') : UMid W wr' B n D pv st g d := h.goes (h.at_.of_below hb) (Goes.of_below D pv hb)
theorem UMid.set (h : UMid W wr B n D pv st g d) (hL : Lies wr (fun k => D.own pv k ∨ k = g) d') (hw : wr' = wr.setCells g 0 d'.cs) : UMid W wr' B n D pv st g d' := by
  subst hw
  have hc : Chg wr (wr.setCells g 0 d'.cs) (· = g) := Chg.setCells (O := (· = g)) (.inl rfl) _ _ (Chg.refl _ _)
  exact ⟨h.at_.chg hc fun j hj e => h.ref.2 (e ▸ hj), ⟨h.ref.1.rdAll d', h.ref.2⟩, hL.chg hc fun k hk => .inr hk, h.below.trans (hc.below (fun j hj => by have := h.glo; omega) h.below.size), h.lo, h.glo⟩
theorem UMid.new (h : UMid W wr B n D pv st g d) : ¬ D.own pv wr.heap.size := h.at_.new_far
end
theorem Kp.put {wr wr' : World} {D : Dev} {pv : Value} {g g8 : Nat} {t : TypeId} {cs : Array Value} {vs : List Value} (h : Kp wr D pv g8 t cs) (hne : g < g8) (hw : wr' = wr.setCells g 0 vs) : Kp wr' D pv g8 t cs := by
  subst hw
  exact ⟨h.1.chg (O := (· = g)) (Chg.setCells (O := (· = g)) (.inl rfl) _ _ (Chg.refl _ _)) (by omega), h.2⟩
theorem commit_pend {s : St} {n : Nat} (u : Ub) (h : s.pend = []) : (s.commit n u).1.pend.length ≤ 1 := by
  have hf : ∀ t : St, t.flush.1.pend.length ≤ t.pend.length := fun t => by
    rcases flush_pow (s := t) with ⟨_, _, _, e⟩ | ⟨_, _, _, _, e⟩
    · rw [e]; exact Nat.le_refl _
    · rw [e]; simp
  have h0 : s.pend.length = 0 := by rw [h]; rfl
  have h1 := hf s
  have h2 := write_pend (s := s.flush.1) (n := n) (i := slotU u) (x := secU u)
  have h3 := hf (s.flush.1.write n (slotU u) (secU u)).1
  unfold St.commit
  split
  · split
    · split
      · omega
      · omega
    · omega
  · show s.pend.length ≤ 1
    omega
theorem many_small {n : Nat} (h : n ≤ 20) : manyF (n : Int) = n := by unfold manyF; omega
theorem rdB_of {w : World} {A : Option Addr} {ks : List Bool} (h : Rd w w.heap.size A (bls ks)) : RdB w A ks := fun hn => by
  obtain ⟨b, off, e, hl, hc⟩ := h (by rw [bls_len]; exact hn)
  exact ⟨b, off, e, hl, fun j hj => hc j _ (by simp [bls, hj])⟩
theorem brk_lies {w : World} {O : Nat → Prop} {d : RD} (h : Lies w O d) (n : Int) (hn : I64 n) : Lies w O { d with s := d.s.brk n } :=
  ⟨h.st, h.pd, h.ok, h.hn, by
    show I64 (if n < 0 then -1 else n)
    split
    · unfold I64; omega
    · exact hn⟩
theorem runs_out (w : World) (x : Int) (A : Option Addr) (c : Nat) (l : List UAct) (h : x < 0 ∨ 20 < x ∨ (40 : Int) < l.length) :
    Calls Try.prog 5 #[.int .i64 x, .slice A l.length c] w fun e w' => e = .returned (.bool true) ∧ Below w.heap.size w w' := by
  have HAL := Lib.hid alive_any
  by_cases h1 : x < 0
  · clear h
    go_enter Try.func5, Try.ntmps5
    go_wp2_with (go_at_call 11; with_reducible refine Calls.mono (HAL.out _) ?_; rintro e w1 ⟨rfl, hb1⟩; have HB1 := Lib.hid hb1; clear hb1)
    go_ret
    exact ⟨rfl, HB1.out⟩
  · by_cases h2 : 20 < x
    · clear h
      go_enter Try.func5, Try.ntmps5
      go_wp2_with (go_at_call 11; with_reducible refine Calls.mono (HAL.out _) ?_; rintro e w1 ⟨rfl, hb1⟩; have HB1 := Lib.hid hb1; clear hb1)
      go_ret
      exact ⟨rfl, HB1.out⟩
    · have h3 : (40 : Int) < l.length := by omega
      clear h
      go_enter Try.func5, Try.ntmps5
      go_wp2_with (go_at_call 11; with_reducible refine Calls.mono (HAL.out _) ?_; rintro e w1 ⟨rfl, hb1⟩; have HB1 := Lib.hid hb1; clear hb1)
      go_ret
      exact ⟨rfl, HB1.out⟩
/-- What stands behind both lists. -/
structure ULists (W wr : World) (B n : Nat) (D : Dev) (pv : Value) (st : St) (g : Nat) (d : RD) (A1 A2 : Option Addr) (l : List Ub) : Prop where
  mid : UMid W wr B n D pv st g d
  one : RdN wr D pv A1 (flatU l)
  two : RdO wr (fun k => D.own pv k ∨ k = g) A2 (flatU l)
section
variable {W wr wr' : World} {B n : Nat} {D : Dev} {pv pv' : Value} {st st' : St} {g : Nat} {d d' : RD} {A1 A2 : Option Addr} {l : List Ub}
theorem ULists.goes (h : ULists W wr B n D pv st g d A1 A2 l) (hA : At wr' B n D pv' st') (hG : Goes D wr pv wr' pv') : ULists W wr' B n D pv' st' g d A1 A2 l := ⟨h.mid.goes hA hG, h.one.goes hG, h.two.goes hG⟩
theorem ULists.fresh (h : ULists W wr B n D pv st g d A1 A2 l) (hb : Below wr.heap.size wr wr') : ULists W wr' B n D pv st g d A1 A2 l := h.goes (h.mid.at_.of_below hb) (Goes.of_below D pv hb)
theorem ULists.drew (h : ULists W wr B n D pv st g d A1 A2 l) : ULists W wr.drew B n D pv st g d A1 A2 l := h.fresh (Below.refl _ _).drew
end
theorem ex_ldR {o : Oper} {a : Act} {w : World} (x : Operand) (ho : o.op = .load 47 x) (b k : Nat) (s : RD) (hx : a.eval x = .pointer (some ⟨b, k, none⟩)) (hr : w.rangeAt b k s.cs) :
    (execOp a.eval o).run Try.prog w = .ok (.value (.agg s.cs.toArray)) w := by
  unfold execOp
  simp only [ho, hx, run_loadAt_mid w b k _ s.cs _ hr Try.underlying47 rfl (sizeRd' s), Sem.run_bind, Sem.run_pure, Result.andThen_ok]
set_option maxHeartbeats 8000000 in
theorem runs_in (w : World) (n : Nat) (hn : n ≤ 20) (A : Option Addr) (c : Nat) (l : List UAct) (hl : l.length ≤ 40) (hR : Rd w w.heap.size A (flatA l)) (hK : KeepOk w w.heap.size l) :
    Calls Try.prog 5 #[.int .i64 (n : Int), .slice A l.length c] w fun e w' => e = .returned (.bool true) ∧ Below w.heap.size w w' := by
  have hz : ∀ w, Sem.run Try.prog (zeroValue 27) w = .ok (.agg zub.cs.toArray) w := zeroUb
  have hza : ∀ w, Sem.run Try.prog (zeroValue 51) w = .ok (.agg zact.cs.toArray) w := zeroAct
  have hzr : ∀ w, Sem.run Try.prog (zeroValue 47) w = .ok (.agg zrd.cs.toArray) w := zeroRd
  have HAL := Lib.hid alive_any
  have HNE := Lib.hid (fun w => new_any (n : Int) w)
  rw [many_small hn] at HNE
  have HNR : Hid (∀ (w : World) (O : Nat → Prop) (_ : ∀ k, O k → k < w.heap.size), Calls Try.prog 18 #[.int .i64 (n : Int)] w fun e w' => ∃ d : RD, d.s = newR n ∧ e = .returned (.agg d.cs.toArray) ∧ Lies w' O d ∧ Below w.heap.size w w') := fun w O hO => by
    have h := rnew_any (n : Int) w O hO
    rw [many_small hn] at h
    exact h
  have HRD := Lib.hid hR
  have HKP := Lib.hid hK
  have hni : (n : Int) ≤ 20 := by omega
  have hli : (l.length : Int) ≤ 40 := by omega
  clear hR hK hn hl
  go_enter Try.func5, Try.ntmps5
  go_wp2_with (first
    | (go_at_call 11; with_reducible refine Calls.mono (HAL.out _) ?_; rintro e w1 ⟨rfl, hb1⟩; have HB1 := Lib.hid hb1; clear hb1)
    | (go_at_call 10; refine (HNE.out _).mono ?_; rintro e w2 ⟨D, rfl, hA2, hb2⟩; have HA2 := Lib.hid hA2; have HB2 := Lib.hid (HB1.out.trans (hb2.mono HB1.out.size)); clear hA2 hb2)
    | (go_at_call 18; refine (HNR.out _ (fun k => D.own (.slice none 0 0) k) HA2.out.lt).mono ?_; rintro e w3 ⟨d, hs, rfl, hL3, hb3⟩
       have HS := Lib.hid hs
       have HL3 := Lib.hid hL3
       have HA3 := Lib.hid (HA2.out.of_below hb3)
       have HB3 := Lib.hid (HB2.out.trans (hb3.mono HB2.out.size))
       clear hs hL3 hb3)
    | (with_reducible refine st_rd rfl _ _ rfl w3.heap.size 0 d rfl rfl (Blk.rdHas (d := zrd) (Blk.new w3 _ _)) ?_; intro w4 hw4
       have HM4 : Hid (UMid w w4 w1.heap.size n D (.slice none 0 0) (newSt n) w3.heap.size d) := ⟨HA3.out.of_below (new_rd hw4.out).2, ⟨(new_rd hw4.out).1, HA3.out.new_far⟩, (HL3.out.weak (O' := fun k => D.own (.slice none 0 0) k ∨ k = w3.heap.size) (fun k hk ho => ho.elim id fun e => by omega)).below (new_rd hw4.out).2, HB3.out.trans ((new_rd hw4.out).2.mono HB3.out.size), HB1.out.size, HB3.out.size⟩))
  have HRI : Hid (Ring n (newSt n) ∧ Sim (newSt n) d.s) := ⟨ring_new n, by rw [HS.out]; exact sim_new n⟩
  generalize newSt n = st0 at *
  generalize w3.heap.size = g6 at *
  generalize w1.heap.size = B at *
  clear hw4 HB1 HB2 HB3 HA2 HA3 HL3 HS HNE HNR HAL
  go_loopw [39] (fun i wr => ∃ (k : Nat) (pv : Value) (st : St) (d : RD), k ≤ l.length ∧ i = .int .i64 k ∧ UMid w wr B n D pv st g6 d ∧ Ring n st ∧ Sim st d.s) (fun i _ => l.length - (intOf i).toNat)
  case atStart => exact ⟨0, _, st0, d, Nat.zero_le _, rfl, HM4.out, HRI.out.1, HRI.out.2⟩
  case round =>
    clear HM4 HRI
    obtain ⟨k, pv, st, d, hk, rfl, hM, hRi, hSi⟩ := hrel
    have HM := Lib.hid hM
    have HRi := Lib.hid hRi
    have HSi := Lib.hid hSi
    clear hM hRi hSi
    by_cases hlt : k < l.length
    · have hki : (k : Int) < l.length := by omega
      have HK := Lib.hid hlt
      obtain ⟨b, off, rfl, _, hr⟩ := rd_uact (HRD.out.below HM.out.below) k hlt
      have HAR := Lib.hid hr
      have HAK : Hid (Rd w w.heap.size (l[k]).ka (bls (l[k]).keep) ∧ (l[k]).keep.length ≤ 140737488351232) := HKP.out _ (List.getElem_mem hlt)
      clear hr
      generalize l[k] = a at *
      clear hk hlt
      -- what the calls of this round answer
      obtain ⟨d1, hd1⟩ : ∃ d1 : RD, d1 = { d with s := d.s.brk a.brk } := ⟨_, rfl⟩
      have HBK : Hid (∀ w, Calls Try.prog 20 #[.agg d.cs.toArray, .int .i64 a.brk] w fun e w' => e = .returned (.agg d1.cs.toArray) ∧ Below w.heap.size w w') := fun w => by
        rw [hd1]
        exact rbreak_any d a.brk w
      have HLB : Hid (∀ w O, Lies w O d → Lies w O d1) := fun w O h => by
        rw [hd1]
        exact brk_lies h a.brk a.hb
      have HS1 : Hid (Sim { st with left := a.brk } d1.s) := by
        rw [hd1]
        exact sim_break HSi.out a.brk
      have HP1 : Hid (St.pend { st with left := a.brk } = []) := HRi.out.pend
      clear hd1 HSi
      obtain ⟨q, hq⟩ : ∃ q, q = ({ st with left := a.brk } : St).commit n a.u := ⟨_, rfl⟩
      have hn1 : d1.s.st.length = n := by
        rw [HS1.out.st]
        exact HRi.out.len
      have hsc := sim_commit HS1.out hn1 a.u
      have hpc := commit_pend (n := n) a.u HP1.out
      have HCM : Hid (∀ (W : World) (pv : Value), At W B n D pv { st with left := a.brk } → Calls Try.prog 21 #[.pointer (some ⟨D.g, 0, none⟩), .agg a.u.cs.toArray] W fun e w' => ∃ pv', e = .returned (.int .i64 q.2) ∧ At w' B n D pv' q.1 ∧ Goes D W pv w' pv') := fun W pv h => by
        rw [hq]
        exact commit_any h a.u (by rw [HP1.out]; simp)
      rw [← hq] at hsc hpc
      clear hq hn1
      obtain ⟨rq, hrq⟩ : ∃ rq, rq = d1.s.commit a.u := ⟨_, rfl⟩
      have HRC : Hid (∀ (W : World) (O : Nat → Prop), (∀ k, O k → k < W.heap.size) → Lies W O d1 → Calls Try.prog 22 #[.agg d1.cs.toArray, .agg a.u.cs.toArray] W fun e w' => ∃ d' : RD, d'.s = rq.1 ∧ e = .returned (.tuple #[.agg d'.cs.toArray, .int .i64 rq.2]) ∧ Lies w' O d' ∧ Below W.heap.size W w') := fun W O hO h => by
        rw [hrq]
        exact rcommit_any hO h (by rw [HS1.out.pend, HP1.out]; simp) a.u
      rw [← hrq] at hsc
      clear hrq
      obtain ⟨s5, ce⟩ := q
      obtain ⟨r5, ce'⟩ := rq
      simp only at hsc hpc HCM HRC
      obtain ⟨hce, hsim⟩ := hsc
      subst hce
      have HSM := Lib.hid hsim
      have HPC := Lib.hid hpc
      have HRP : Hid (r5.pend.length ≤ 1000000) := by
        show _ ≤ _
        rw [hsim.pend]
        omega
      clear hsim hpc HS1 HP1 HRi
      have HNG := Lib.hid HM.out.ref.1.lt
      go_upto_region 15 with (first
        | (with_reducible refine ld_act rfl _ rfl b (off + k * 9) a rfl HAR.out ?_)
        | (with_reducible refine st_act rfl _ _ rfl wr.heap.size 0 a rfl rfl ((Blk.new wr 51 zact.cs.toArray).there 0 9 (Nat.le_refl _)) ?_; intro w1' hw1
           have HK1 : Hid (Kp w1' D pv wr.heap.size 51 a.cs.toArray) := ⟨(new_act hw1.out).1, HM.out.new⟩
           have HM1 := Lib.hid (HM.out.fresh (new_act hw1.out).2)
           have c17 := HK1.out.1.actF.1)
        | (go_at_call 19; with_reducible refine Calls.mono (break_any HM1.out.at_ a.brk a.hb) ?_; rintro e w2' ⟨rfl, hA2, hG2⟩
           have HM2 := Lib.hid (HM1.out.goes hA2 hG2)
           have HK2 := Lib.hid (HK1.out.goes hG2)
           have c27 := HK2.out.1.actF.1
           clear hA2 hG2 c17)
        | (with_reducible refine ld_rd rfl _ rfl g6 0 d rfl HM2.out.ref.1.rdIs ?_)
        | (go_at_call 20; with_reducible refine Calls.mono (HBK.out _) ?_; rintro e w3' ⟨rfl, hb3⟩
           have HM3 := Lib.hid (HM2.out.fresh hb3)
           have HK3 := Lib.hid (HK2.out.below hb3)
           clear hb3 c27)
        | (with_reducible refine st_rd rfl _ _ rfl g6 0 d1 rfl rfl HM3.out.ref.1.rdHas ?_; intro w4' hw4
           have HM4 := Lib.hid (HM3.out.set (HLB.out _ _ HM3.out.lies) hw4.out)
           have HK4 := Lib.hid (HK3.out.put HNG.out hw4.out))
        | (with_reducible refine ld_ub rfl _ rfl wr.heap.size 0 a.u rfl HK4.out.1.actU ?_)
        | (go_at_call 21; with_reducible refine Calls.mono (HCM.out _ _ HM4.out.at_) ?_; rintro e w5' ⟨pv5, rfl, hA5, hG5⟩
           have HM5 := Lib.hid (HM4.out.goes hA5 hG5)
           have HK5 := Lib.hid (HK4.out.goes hG5)
           clear hA5 hG5)
        | (with_reducible refine ld_rd rfl _ rfl g6 0 d1 rfl HM5.out.ref.1.rdIs ?_)
        | (with_reducible refine ld_ub rfl _ rfl wr.heap.size 0 a.u rfl HK5.out.1.actU ?_)
        | (go_at_call 22; with_reducible refine Calls.mono (HRC.out _ _ HM5.out.lt HM5.out.lies) ?_; rintro e w6' ⟨d2, hs2, rfl, hL6, hb6⟩
           have HM6 := Lib.hid (HM5.out.fresh hb6)
           have HK6 := Lib.hid (HK5.out.below hb6)
           have HS2 := Lib.hid hs2
           have HL6 := Lib.hid hL6
           clear hs2 hL6 hb6)
        | (with_reducible refine st_rd rfl _ _ rfl w6'.heap.size 0 d2 rfl rfl (Blk.rdHas (d := zrd) (Blk.new w6' _ _)) ?_; intro w7' hw7
           have HM7 := Lib.hid (HM6.out.fresh (new_rd hw7.out).2)
           have HK7 := Lib.hid (HK6.out.below (new_rd hw7.out).2)
           have HL7 := Lib.hid (HL6.out.below (new_rd hw7.out).2)
           have HD7 := Lib.hid (new_rd hw7.out).1)
        | (with_reducible refine ld_rd rfl _ rfl w6'.heap.size 0 d2 rfl HD7.out.rdIs ?_)
        | (with_reducible refine st_rd rfl _ _ rfl g6 0 d2 rfl rfl HM7.out.ref.1.rdHas ?_; intro w8' hw8
           have HM8 := Lib.hid (HM7.out.set HL7.out hw8.out)
           have HK8 := Lib.hid (HK7.out.put HNG.out hw8.out)))
      clear HM1 HK1 HM2 HK2 HM3 HK3 HM4 HK4 HM5 HK5 HM6 HK6 HL6 HM7 HK7 HL7 HD7 HBK HLB HCM HRC hw1 hw4 hw7 hw8 HAR HM
      generalize wr.heap.size = g8 at *
      generalize w6'.heap.size = g10 at *
      have HP5 : Hid ((s5.pend.length : Int) ≤ 1000000) := by
        have := HPC.out
        show _ ≤ _
        omega
      have HRP2 : Hid (d2.s.pend.length ≤ 1000000) := by rw [HS2.out]; exact HRP.out
      have HS6 : Hid (Sim (s5.crash a.keep) (d2.s.crash a.keep)) := by
        rw [HS2.out]
        exact sim_crash HSM.out a.keep
      have HR6 : Hid (Ring n (s5.crash a.keep)) := crash_ring HM8.out.at_.ls a.keep
      clear HSM HPC HRP HS2
      obtain ⟨s6, hs6⟩ : ∃ s6, s6 = s5.crash a.keep := ⟨_, rfl⟩
      rw [← hs6] at HS6 HR6
      have HCR : Hid (∀ (W : World) (pv : Value) (A : Option Addr) (c : Nat), At W B n D pv s5 → RdK W D pv A a.keep → Calls Try.prog 23 #[.pointer (some ⟨D.g, 0, none⟩), .slice A a.keep.length c] W fun e w' => e = .returned (.tuple #[]) ∧ At w' B n D (.slice none 0 0) s6 ∧ Goes D W pv w' (.slice none 0 0)) := fun W pv A c h hk => by
        rw [hs6]
        exact crash_any h HP5.out A c a.keep hk
      clear hs6 HP5
      obtain ⟨r6, hr6⟩ : ∃ r6, r6 = d2.s.crash a.keep := ⟨_, rfl⟩
      rw [← hr6] at HS6
      have HRCR : Hid (∀ (W : World) (O : Nat → Prop), (∀ k, O k → k < W.heap.size) → Lies W O d2 → RdB W a.ka a.keep → Calls Try.prog 24 #[.agg d2.cs.toArray, .slice a.ka a.keep.length a.kc] W fun e w' => ∃ d' : RD, d'.s = r6 ∧ e = .returned (.agg d'.cs.toArray) ∧ Lies w' O d' ∧ Below W.heap.size W w') := fun W O hO h hk => by
        rw [hr6]
        exact rcrash_any hO h HRP2.out a.ka a.kc a.keep hk
      clear hr6 HRP2
      have hrl := sim_list HS6.out HR6.out
      have hrb := sim_best HS6.out HR6.out
      have hrp : r6.pend.length ≤ 1000000 := by rw [HS6.out.pend, HR6.out.pend]; simp
      have HLI : Hid (∀ (W : World) (pv : Value), At W B n D pv s6 → Calls Try.prog 25 #[.pointer (some ⟨D.g, 0, none⟩)] W fun e w' => ∃ A c, e = .returned (.slice A (listF n s6).length c) ∧ RdN w' D pv A (flatU (listF n s6)) ∧ At w' B n D pv (s6.counts 4) ∧ Goes D W pv w' pv) := fun W pv h => list_any h
      have HBE : Hid (∀ (W : World) (pv : Value), At W B n D pv (s6.counts 4) → Calls Try.prog 9 #[.pointer (some ⟨D.g, 0, none⟩)] W fun e w' => e = .returned (.tuple #[.agg ((bestO n s6).getD zub).cs.toArray, .bool (bestO n s6).isSome]) ∧ At w' B n D pv ((s6.counts 4).counts 4) ∧ Goes D W pv w' pv) := fun W pv h => by
        have h1 := best_any h
        rw [best_counts] at h1
        exact h1
      have HRL : Hid (∀ (W : World) (O : Nat → Prop) (d : RD), d.s = r6 → (∀ k, O k → k < W.heap.size) → Lies W O d → Calls Try.prog 26 #[.agg d.cs.toArray] W fun e w' => ∃ A c, e = .returned (.slice A (listF n s6).length c) ∧ RdO w' O A (flatU (listF n s6)) ∧ Below W.heap.size W w') := fun W O d hs hO h => by
        rw [← hrl, ← hs]
        exact rlist_any hO h (by rw [hs]; exact hrp)
      have HRB : Hid (∀ (W : World) (O : Nat → Prop) (d : RD), d.s = r6 → (∀ k, O k → k < W.heap.size) → Lies W O d → Calls Try.prog 27 #[.agg d.cs.toArray] W fun e w' => e = .returned (.tuple #[.agg ((bestO n s6).getD zub).cs.toArray, .bool (bestO n s6).isSome]) ∧ Below W.heap.size W w') := fun W O d hs hO h => by
        rw [← hrb, ← hs]
        exact rbest_any hO h (by rw [hs]; exact hrp)
      have HL4 := Lib.hid (list_len n s6)
      have HSI : Hid (Ring n ((s6.counts 4).counts 4) ∧ Sim ((s6.counts 4).counts 4) r6) := ⟨ring_counts (ring_counts HR6.out 4) 4, sim_counts (sim_counts HS6.out 4) 4⟩
      clear hrl hrb hrp HS6 HR6
      generalize (bestO n s6).getD zub = bu at *
      generalize (bestO n s6).isSome = bk at *
      generalize listF n s6 = lu at *
      generalize (s6.counts 4).counts 4 = st' at *
      have c88 := (HK8.out.below ((Below.refl _ _).alloc (Nat.le_refl _) (.cells #[] 4))).1.actF.2
      go_upto_region 21 with (first
        | (at_builtin; refine app_bools rfl 64 66 rfl rfl _ a.ka a.kc a.keep rfl (HAK.out.1.below (HM8.out.below.alloc HM8.out.below.size _)) HAK.out.2 ?_; intro A7 k7 w9' h9
           have HM9 := Lib.hid (HM8.out.fresh h9.out.2)
           have HK9 := Lib.hid (HK8.out.below h9.out.2)
           have HRK := Lib.hid (h9.out.1 D pv5 (fun k hk => HM8.out.at_.lt k hk))
           clear h9 c88)
        | (go_at_call 23; with_reducible refine Calls.mono (HCR.out _ _ A7 k7 HM9.out.at_ HRK.out) ?_; rintro e w10' ⟨rfl, hA10, hG10⟩
           have HM10 := Lib.hid (HM9.out.goes hA10 hG10)
           have HK10 := Lib.hid (HK9.out.goes hG10)
           have c10 := HK10.out.1.actF.2
           clear hA10 hG10)
        | (with_reducible refine ld_rd rfl _ rfl g6 0 d2 rfl HM10.out.ref.1.rdIs ?_)
        | (go_at_call 24; with_reducible refine Calls.mono (HRCR.out _ _ HM10.out.lt HM10.out.lies (rdB_of HAK.out.1 |>.below HM10.out.below)) ?_; rintro e w11' ⟨d3, hs3, rfl, hL11, hb11⟩
           have HM11 := Lib.hid (HM10.out.fresh hb11)
           have HS3 := Lib.hid hs3
           have HL11 := Lib.hid hL11
           clear hs3 hL11 hb11 c10)
        | (with_reducible refine st_rd rfl _ _ rfl g6 0 d3 rfl rfl HM11.out.ref.1.rdHas ?_; intro w12' hw12
           have HM12 := Lib.hid (HM11.out.set HL11.out hw12.out))
        | (go_at_call 25; with_reducible refine Calls.mono (HLI.out _ _ HM12.out.at_) ?_; rintro e w13' ⟨A1, c1, rfl, hR13, hA13, hG13⟩
           have HM13 := Lib.hid (HM12.out.goes hA13 hG13)
           have HR13 := Lib.hid hR13
           clear hA13 hG13 hR13)
        | (with_reducible refine ld_rd rfl _ rfl g6 0 d3 rfl HM13.out.ref.1.rdIs ?_)
        | (go_at_call 26; with_reducible refine Calls.mono (HRL.out _ _ d3 HS3.out HM13.out.lt HM13.out.lies) ?_; rintro e w14' ⟨A2, c2, rfl, hR14, hb14⟩
           have HU14 : Hid (ULists w w14' B n D (.slice none 0 0) (s6.counts 4) g6 d3 A1 A2 lu) := ⟨HM13.out.fresh hb14, HR13.out.goes (Goes.of_below D _ hb14), hR14⟩
           clear hR14 hb14)
        | (go_at_call 9; with_reducible refine Calls.mono (HBE.out _ _ HU14.out.mid.at_) ?_; rintro e w15' ⟨rfl, hA15, hG15⟩
           have HU15 := Lib.hid (HU14.out.goes hA15 hG15)
           clear hA15 hG15)
        | (with_reducible refine st_ub rfl _ _ rfl w15'.heap.size 0 bu rfl rfl (Blk.ubHas (u := zub) (Blk.new w15' _ _)) ?_; intro w16' hw16
           have HU16 := Lib.hid (HU15.out.fresh (new_ub hw16.out).2)
           have HB16 := Lib.hid (new_ub hw16.out).1)
        | (with_reducible refine ld_rd rfl _ rfl g6 0 d3 rfl HU16.out.mid.ref.1.rdIs ?_)
        | (go_at_call 27; with_reducible refine Calls.mono (HRB.out _ _ d3 HS3.out HU16.out.mid.lt HU16.out.mid.lies) ?_; rintro e w17' ⟨rfl, hb17⟩
           have HU17 := Lib.hid (HU16.out.fresh hb17)
           have HB17 := Lib.hid (HB16.out.below hb17 HB16.out.lt)
           clear hb17)
        | (with_reducible refine st_ub rfl _ _ rfl w17'.heap.size 0 bu rfl rfl (Blk.ubHas (u := zub) (Blk.new w17' _ _)) ?_; intro w18' hw18
           have HU18 := Lib.hid (HU17.out.fresh (new_ub hw18.out).2)
           have HB18 := Lib.hid (HB17.out.below (new_ub hw18.out).2 HB17.out.lt)
           have HC18 := Lib.hid (new_ub hw18.out).1))
      have HSB : Hid ((!bu.same bu) = false) := by show _ = false; rw [Ub.same_self]; rfl
      clear HM8 HK8 HM9 HK9 HRK HM10 HK10 HM11 HL11 HM12 HM13 HR13 HU14 HU15 HU16 HB16 HU17 HB17 HCR HRCR HLI HBE HRL HRB hw12 hw16 hw18 hza hzr
      generalize w15'.heap.size = g14 at *
      generalize w17'.heap.size = g16 at *
      go_wp2_with (have h := HSB; clear h; refine wpList_val (by rfl) (.agg bu.cs.toArray) (ex_ldU (.tmp 14) rfl g14 0 bu rfl HB18.out.ubIs) ?_; refine wpList_val (by rfl) (.agg bu.cs.toArray) (ex_ldU (.tmp 16) rfl g16 0 bu rfl HC18.out.ubIs) ?_; refine wpList_val (by rfl) (.bool (!bu.same bu)) (ex_neU (.tmp 98) (.tmp 99) rfl bu bu rfl rfl) ?_; rw [HSB.out]; simp [Act.put]; clear HSB)
      clear HB18 HC18
      obtain ⟨wo, hwo⟩ : ∃ wo : World, wo = wr := ⟨_, rfl⟩
      clear hwo
      go_loopw [109] (fun i wr => ∃ (q : Nat), q ≤ lu.length ∧ i = .int .i64 q ∧ ULists w wr B n D (.slice none 0 0) st' g6 d3 A1 A2 lu) (fun i _ => lu.length - (intOf i).toNat)
      case atStart => exact ⟨0, Nat.zero_le _, rfl, HU18.out⟩
      case round =>
        clear HU18
        obtain ⟨q, hq, rfl, hU⟩ := hrel
        have HU := Lib.hid hU
        clear hU
        by_cases hlt : q < lu.length
        · have hqi : (q : Int) < lu.length := by omega
          have hq4 : (q : Int) < 4 := by have := HL4.out; omega
          have HQ := Lib.hid hlt
          obtain ⟨b1, off1, rfl, hr1⟩ := HU.out.one.ub q hlt
          obtain ⟨b2, off2, rfl, _, hr2⟩ := HU.out.two.ub q hlt
          generalize lu[q] = x at *
          clear hq hlt
          have HSX : Hid ((!x.same x) = false) := by show _ = false; rw [Ub.same_self]; rfl
          have hS1 : Hid ((fun w' => w'.rangeAt b1 (off1 + q * 7) x.cs ∧ w'.rangeAt b2 (off2 + q * 7) x.cs) wr.drew) := ⟨hr1, hr2⟩
          have HUD := Lib.hid HU.out.drew
          clear hr1 hr2
          go_wp2_with fail
          refine wp_region_held_drew (S := (fun w' => w'.rangeAt b1 (off1 + q * 7) x.cs ∧ w'.rangeAt b2 (off2 + q * 7) x.cs)) (by kernel_rfl) hS1.out (fun hHeld => ?_)
          clear hS1 HU
          generalize wr.drew = w19 at *
          refine wpAnyH_take (i := 0) (v := (.slice (some ⟨b1, off1, none⟩) lu.length c1)) rfl (by kernel_rfl) (by kernel_rfl) (by kernel_rfl) (fun _ _ _ h => h) (Or.inl ⟨by rfl, ?_⟩) (by assumption) ?_
          · intro w' hS; go_simp; try with_reducible rfl
          try simp [Act.put]
          refine wpAnyH_take (i := 1) (v := (.int .i64 (q : Int))) rfl (by kernel_rfl) (by kernel_rfl) (by kernel_rfl) (fun _ _ _ h => h) (Or.inl ⟨by rfl, ?_⟩) (by assumption) ?_
          · intro w' hS; go_simp; try with_reducible rfl
          try simp [Act.put]
          refine wpAnyH_take (i := 2) (v := (.pointer (some ⟨b1, off1 + q * 7, none⟩))) rfl (by kernel_rfl) (by kernel_rfl) (by kernel_rfl) (fun _ _ _ h => h) (Or.inl ⟨by rfl, ?_⟩) (by assumption) ?_
          · intro w' hS; go_simp; try with_reducible rfl
          try simp [Act.put]
          refine wpAnyH_take (i := 3) (v := (.agg x.cs.toArray)) rfl (by kernel_rfl) (by kernel_rfl) (by kernel_rfl) (fun _ _ _ h => h) (Or.inl ⟨by rfl, ?_⟩) (by assumption) ?_
          · intro w' hS; exact ex_ldU (.tmp 114) rfl b1 (off1 + q * 7) x rfl hS.1
          try simp [Act.put]
          refine wpAnyH_take (i := 4) (v := (.slice (some ⟨b2, off2, none⟩) lu.length c2)) rfl (by kernel_rfl) (by kernel_rfl) (by kernel_rfl) (fun _ _ _ h => h) (Or.inl ⟨by rfl, ?_⟩) (by assumption) ?_
          · intro w' hS; go_simp; try with_reducible rfl
          try simp [Act.put]
          refine wpAnyH_take (i := 5) (v := (.int .i64 (q : Int))) rfl (by kernel_rfl) (by kernel_rfl) (by kernel_rfl) (fun _ _ _ h => h) (Or.inl ⟨by rfl, ?_⟩) (by assumption) ?_
          · intro w' hS; go_simp; try with_reducible rfl
          try simp [Act.put]
          refine wpAnyH_take (i := 6) (v := (.pointer (some ⟨b2, off2 + q * 7, none⟩))) rfl (by kernel_rfl) (by kernel_rfl) (by kernel_rfl) (fun _ _ _ h => h) (Or.inl ⟨by rfl, ?_⟩) (by assumption) ?_
          · intro w' hS; go_simp; try with_reducible rfl
          try simp [Act.put]
          refine wpAnyH_take (i := 7) (v := (.agg x.cs.toArray)) rfl (by kernel_rfl) (by kernel_rfl) (by kernel_rfl) (fun _ _ _ h => h) (Or.inl ⟨by rfl, ?_⟩) (by assumption) ?_
          · intro w' hS; exact ex_ldU (.tmp 118) rfl b2 (off2 + q * 7) x rfl hS.2
          try simp [Act.put]
          refine wpAnyH_take (i := 8) (v := (.bool false)) rfl (by kernel_rfl) (by kernel_rfl) (by kernel_rfl) (fun _ _ _ h => h) (Or.inl ⟨by rfl, ?_⟩) (by assumption) ?_
          · intro w' hS; exact (ex_neU (.tmp 115) (.tmp 119) rfl x x rfl rfl).trans (by rw [HSX.out])
          try simp [Act.put]
          refine wpAnyH_done (by kernel_rfl) ?_ _
          clear hHeld
          go_wp2_with fail
          go_roundw
          case rel => exact ⟨q + 1, HQ.out, by go_num, HUD.out⟩
          case measure => have := HQ.out; simp [intOf]; omega
        · obtain rfl : q = lu.length := by omega
          clear hq hlt
          go_wp2_with fail
          go_roundw
          case rel => exact ⟨k + 1, .slice none 0 0, st', d3, HK.out, by go_num, HU.out.mid, HSI.out.1, by rw [HS3.out]; exact HSI.out.2⟩
          case measure => have := HK.out; simp [intOf]; omega
    · obtain rfl : k = l.length := by omega
      clear hk hlt
      have hn2 : d.s.st.length = n := by
        rw [HSi.out.st]
        exact HRi.out.len
      have HSA := Lib.hid (sim_at HSi.out hn2)
      clear hn2 HRi HSi
      go_wp2_with fail
      obtain ⟨wo, hwo⟩ : ∃ wo : World, wo = wr := ⟨_, rfl⟩
      clear hwo
      go_loopw [19] (fun i wr => ∃ (q : Nat), q ≤ n ∧ i = .int .i64 q ∧ UMid w wr B n D pv st g6 d) (fun i _ => n - (intOf i).toNat)
      case atStart => exact ⟨0, Nat.zero_le _, rfl, HM.out⟩
      case round =>
        clear HM
        obtain ⟨q, hq, rfl, hM⟩ := hrel
        have HM := Lib.hid hM
        clear hM
        by_cases hlt : q < n
        · have hqi : (q : Int) < n := by omega
          have HQ := Lib.hid hlt
          obtain ⟨x, hx⟩ : ∃ x, x = st.stable n q := ⟨_, rfl⟩
          have HST : Hid (∀ W : World, At W B n D pv st → Calls Try.prog 28 #[.pointer (some ⟨D.g, 0, none⟩), .int .i64 (q : Int)] W fun e w' => e = .returned (.agg x.cs.toArray) ∧ Chg W w' (fun _ => False)) := fun W h => by
            rw [hx]
            exact stable_any h q
          have HAT : Hid (∀ (W : World) (O : Nat → Prop), Lies W O d → Calls Try.prog 29 #[.agg d.cs.toArray, .int .i64 (q : Int)] W fun e w' => e = .returned (.agg x.cs.toArray) ∧ Below W.heap.size W w') := fun W O h => by
            rw [hx, ← HSA.out]
            exact rat_any h q
          have HSX : Hid ((!x.same x) = false) := by show _ = false; rw [Sec.same_self]; rfl
          clear hx hq hlt
          have hS1 : Hid ((fun w' => UMid w w' B n D pv st g6 d) wr.drew) := HM.out.fresh (Below.refl _ _).drew
          go_wp2_with fail
          refine wp_region_held_drew (S := (fun w' => UMid w w' B n D pv st g6 d)) (by kernel_rfl) hS1.out (fun hHeld => ?_)
          clear hS1 HM
          generalize wr.drew = w19 at *
          refine wpAnyH_take (i := 0) (v := (.pointer (some ⟨D.g, 0, none⟩))) rfl (by kernel_rfl) (by kernel_rfl) (by kernel_rfl) (fun _ _ _ h => h) (Or.inl ⟨by rfl, ?_⟩) (by assumption) ?_
          · intro w' hS; go_simp; try with_reducible rfl
          try simp [Act.put]
          refine wpAnyH_take (i := 1) (v := (.int .i64 (q : Int))) rfl (by kernel_rfl) (by kernel_rfl) (by kernel_rfl) (fun _ _ _ h => h) (Or.inl ⟨by rfl, ?_⟩) (by assumption) ?_
          · intro w' hS; go_simp; try with_reducible rfl
          try simp [Act.put]
          refine wpAnyH_take (i := 3) (v := (.agg d.cs.toArray)) rfl (by kernel_rfl) (by kernel_rfl) (by kernel_rfl) (fun _ _ _ h => h) (Or.inl ⟨by rfl, ?_⟩) (by assumption) ?_
          · intro w' hS; exact ex_ldR (.tmp 6) rfl g6 0 d rfl hS.ref.1.rdIs
          try simp [Act.put]
          refine wpAnyH_take (i := 4) (v := (.int .i64 (q : Int))) rfl (by kernel_rfl) (by kernel_rfl) (by kernel_rfl) (fun _ _ _ h => h) (Or.inl ⟨by rfl, ?_⟩) (by assumption) ?_
          · intro w' hS; go_simp; try with_reducible rfl
          try simp [Act.put]
          refine wpAnyH_ready (rs := [2]) (by kernel_rfl) (by simp) ?_
          refine AllReadyH.cons rfl (fun K hK => ?_) AllReadyH.nil
          go_simp
          refine Calls.mono (HST.out _ hHeld.at_) ?_
          rintro e wX ⟨rfl, hcX⟩
          refine hK.out _ _ (hHeld.fresh (hcX.below (fun _ h => h.elim) (Nat.le_refl _))) (fun hHeld2 => ?_)
          clear hK K
          try simp
          clear hHeld
          have hHeld := hHeld2
          clear hHeld2
          refine wpAnyH_ready (rs := [5]) (by kernel_rfl) (by simp) ?_
          refine AllReadyH.cons rfl (fun K hK => ?_) AllReadyH.nil
          go_simp
          refine Calls.mono (HAT.out _ _ hHeld.lies) ?_
          rintro e wX ⟨rfl, hbX⟩
          refine hK.out _ _ (hHeld.fresh hbX) (fun hHeld2 => ?_)
          clear hK K
          try simp
          clear hHeld
          have hHeld := hHeld2
          clear hHeld2
          refine wpAnyH_take (i := 6) (v := (.bool false)) rfl (by kernel_rfl) (by kernel_rfl) (by kernel_rfl) (fun _ _ _ h => h) (Or.inl ⟨by rfl, ?_⟩) (by assumption) ?_
          · intro w' hS; exact (ex_neS (.tmp 130) (.tmp 133) rfl x x rfl rfl).trans (by rw [HSX.out])
          try simp [Act.put]
          refine wpAnyH_done (by kernel_rfl) ?_ _
          have HME := Lib.hid hHeld
          clear hHeld
          go_wp2_with fail
          go_roundw
          case rel => exact ⟨q + 1, HQ.out, by go_num, HME.out⟩
          case measure => have := HQ.out; simp [intOf]; omega
        · obtain rfl : q = n := by omega
          clear hq hlt
          go_wp2_with fail
          go_ret
          exact ⟨rfl, HM.out.below⟩
theorem runs_any (w : World) (x : Int) (A : Option Addr) (c : Nat) (l : List UAct) (hR : Rd w w.heap.size A (flatA l)) (hK : KeepOk w w.heap.size l) :
    Calls Try.prog 5 #[.int .i64 x, .slice A l.length c] w fun e w' => e = .returned (.bool true) ∧ Below w.heap.size w w' := by
  by_cases h : x < 0 ∨ 20 < x ∨ (40 : Int) < l.length
  · exact runs_out w x A c l h
  · obtain ⟨n, rfl⟩ := Int.eq_ofNat_of_zero_le (show 0 ≤ x by omega)
    exact runs_in w n (by omega) A c l (by omega) hR hK
end Go.Proofs.Ytegcknloemgndaa
