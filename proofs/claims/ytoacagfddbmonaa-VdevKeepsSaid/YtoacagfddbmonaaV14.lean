/- Walks: VdevEnds. -/
import Derived.Test.YtoacagfddbmonaaV13
namespace Go.Proofs.Ytoacagfddbmonaa
open Go.RowKit
theorem ex_min {o : Oper} {a : Act} {w : World} (x : Operand) (ho : o.op = .call { callee := .builtin .min, args := #[x, .const (.int .i64 7)], argTypes := #[3, 3] }) (v : Int) (hx : a.eval x = .int .i64 v) :
    (execOp a.eval o).run Try.prog w = .ok (.value (.int .i64 (min v 7))) w := by
  have e : (if (7 : Int) < v then 7 else v) = min v 7 := by split <;> omega
  unfold execOp
  simp only [ho, resolve, invoke, builtin, Sem.run_bind, Sem.run_pure, Result.andThen_ok, List.map_toArray, List.map_cons, List.map_nil, hx]
  show _ = Result.ok (Next.value (.int .i64 (min v 7))) w
  rw [← e]
  rfl
theorem ex_max {o : Oper} {a : Act} {w : World} (x : Operand) (ho : o.op = .call { callee := .builtin .max, args := #[.const (.int .i64 0), x], argTypes := #[3, 3] }) (v : Int) (hx : a.eval x = .int .i64 v) :
    (execOp a.eval o).run Try.prog w = .ok (.value (.int .i64 (max 0 v))) w := by
  have e : (if v > (0 : Int) then v else 0) = max 0 v := by split <;> omega
  unfold execOp
  simp only [ho, resolve, invoke, builtin, Sem.run_bind, Sem.run_pure, Result.andThen_ok, List.map_toArray, List.map_cons, List.map_nil, hx]
  show _ = Result.ok (Next.value (.int .i64 (max 0 v))) w
  rw [← e]
  rfl
/-- Behind Break(n), when so many are done: the power is there, and so many are left; or it is gone, and all n are done. -/
def EInv (n done : Nat) (s : St) : Prop := (s.dead = false ∧ s.left = (n : Int) - done ∧ done ≤ n) ∨ (s.dead = true ∧ s.left = 0 ∧ done = n)
theorem ends_step {n done : Nat} {s : St} (h : EInv n done s) : (s.count.refuse.dead = true ∧ s.count.refuse.left = 0 ∧ done = n) ∨ (s.count.refuse.dead = false ∧ s.count.refuse.left = (n : Int) - (done + 1) ∧ done + 1 ≤ n) := by
  have e : s.count.refuse = if s.left = 0 then { s.count with dead := true } else if 0 < s.left then { s.count with left := s.left - 1 } else s.count := rfl
  rcases h with ⟨h1, h2, h3⟩ | ⟨h1, h2, h3⟩
  · by_cases h0 : s.left = 0
    · rw [e, if_pos h0]
      exact .inl ⟨rfl, h0, by omega⟩
    · rw [e, if_neg h0, if_pos (by omega)]
      exact .inr ⟨h1, by show s.left - 1 = _; omega, by omega⟩
  · rw [e, if_pos h2]
    exact .inl ⟨rfl, h2, h3⟩
/-- What VdevEnds keeps up, round by round. -/
def EI (w wr : World) (B n : Nat) (D : Dev) (dn : Value) (k : Nat) : Prop := ∃ (s : St) (pv : Value) (done : Nat), dn = .int .i64 (done : Int) ∧ At wr B 8 D pv s ∧ Below w.heap.size w wr ∧ EInv n done s ∧ s.pend.length ≤ k ∧ done ≤ k
theorem ends_out (x : Int) (A : Option Addr) (c : Nat) (l : List Deed) (w : World) (h : (200 : Int) < l.length ∨ x < 0) :
    Calls Try.prog 6 #[.int .i64 x, .slice A l.length c] w fun e w' => e = .returned (.bool true) ∧ Below w.heap.size w w' := by
  have H := Lib.hid h; clear h
  go_enter Try.func6, Try.ntmps6
  go_wp2_with fail
  refine (alive_any _).mono ?_
  rintro e w1 ⟨rfl, hb1⟩
  have HB1 := Lib.hid hb1; clear hb1
  go_wp2_with fail
  refine (new_any 8 _).mono ?_
  rintro e w2 ⟨D, rfl, hA, hb⟩
  rw [many8] at hA
  have hA2 := Lib.hid hA
  have HB2 := Lib.hid (HB1.out.trans (hb.mono HB1.out.size))
  have HBB := Lib.hid HB1.out.size
  clear hA hb HB1
  clear hA2
  by_cases h1 : (200 : Int) < l.length
  · go_wp2_with fail
    go_ret
    exact ⟨rfl, HB2.out⟩
  · have h2 : x < 0 := by rcases H.out with h | h <;> omega
    go_wp2_with fail
    go_ret
    exact ⟨rfl, HB2.out⟩
section
variable (A : Option Addr) (c : Nat) (l : List Deed) (w : World) (hs : Rd w w.heap.size A (flatD l))
include hs
set_option maxHeartbeats 4000000 in
theorem ends_in (n : Nat) (hl : (l.length : Int) ≤ 200) (h0 : (0 : Int) ≤ n) (hn : I64 (n : Int)) :
    Calls Try.prog 6 #[.int .i64 (n : Int), .slice A l.length c] w fun e w' => e = .returned (.bool true) ∧ Below w.heap.size w w' := by
  have HS := Lib.hid hs; clear hs
  have HN := Lib.hid hn; clear hn
  have hz : ∀ w, Sem.run Try.prog (zeroValue 29) w = .ok (.agg zsec.cs.toArray) w := zeroSec
  have hza : ∀ w, Sem.run Try.prog (zeroValue 32) w = .ok (.agg zdeed.cs.toArray) w := zeroAct
  go_enter Try.func6, Try.ntmps6
  go_wp2_with fail
  refine (alive_any _).mono ?_
  rintro e w1 ⟨rfl, hb1⟩
  have HB1 := Lib.hid hb1; clear hb1
  go_wp2_with fail
  refine (new_any 8 _).mono ?_
  rintro e w2 ⟨D, rfl, hA, hb⟩
  rw [many8] at hA
  have hA2 := Lib.hid hA
  have HB2 := Lib.hid (HB1.out.trans (hb.mono HB1.out.size))
  have HBB := Lib.hid HB1.out.size
  clear hA hb HB1
  go_wp2_with fail
  refine (break_any hA2.out (n : Int) HN.out).mono ?_
  rintro e w3 ⟨rfl, hA, hG⟩
  have HB3 := Lib.hid (HB2.out.trans (hG.chg.below (fun k hk => Nat.le_trans HBB.out (hA2.out.ge k hk)) HB2.out.size))
  have hA3 := Lib.hid hA
  clear hA hG hA2 HB2
  generalize w1.heap.size = B at *
  go_wp2_with fail
  go_loopw [6, 33] (fun dn i wr => ∃ (k : Nat), k ≤ l.length ∧ i = .int .i64 k ∧ EI w wr B n D dn k) (fun _ i _ => l.length - (intOf i).toNat)
  case atStart => exact ⟨0, by omega, rfl, ⟨_, _, 0, rfl, hA3.out, HB3.out, .inl ⟨rfl, by show (n : Int) = _; omega, by omega⟩, Nat.le_refl _, Nat.le_refl _⟩⟩
  case round =>
    clear hA3 HB3
    obtain ⟨k, hk, rfl, hR⟩ := hrel
    have HR := Lib.hid hR
    clear hR
    by_cases hlt : k < l.length
    · have HL := Lib.hid hlt
      have hki : (k : Int) < l.length := by omega
      obtain ⟨b, off, rfl, hbB, hrg⟩ := rd_deed HS.out k hlt
      have hrg := Lib.hid hrg
      generalize l[k] = d at *
      obtain ⟨s, pv, done, rfl, hA, hB, hI, hpl, hdk⟩ := HR.out
      have hA := Lib.hid hA; have hB := Lib.hid hB; have hI := Lib.hid hI; have hpl := Lib.hid hpl
      have hdi : (done : Int) ≤ 200 := by omega
      clear HR
      have hrg2 : Hid (wr.rangeAt b (off + k * 131) d.cs) := fun j v hv => (hB.out.cell (p := ⟨b, off + k * 131 + j, none⟩) hbB).trans (hrg.out j v hv)
      clear hrg
      have hn : Hid (Blk (wr.alloc (.cells zdeed.cs.toArray 32)) wr.heap.size 32 zdeed.cs.toArray) := Blk.new _ _ _
      have hact : ∀ w3, Hid (Hid (w3 = (wr.alloc (.cells zdeed.cs.toArray 32)).setCells wr.heap.size 0 d.cs) → w3.cell? ⟨wr.heap.size, 0, none⟩ = some (.int .i64 d.kind) ∧ w3.cell? ⟨wr.heap.size, 1, none⟩ = some (.int .i64 d.at_) ∧ Hid (w3.rangeAt wr.heap.size 2 d.data.cs)) := fun w3 hw => by
        have h := hn.out.actAll d
        rw [← hw.out] at h
        exact ⟨h.actKind, h.actAt, h.actData⟩
      rcases ends_step hI.out with hst0 | hst0
      · have hr : Hid (s.count.refuse.dead = true) := hst0.1
        have hst0 := Lib.hid hst0
        by_cases hkd : d.kind = 1
        · have hkd : Hid (d.kind = 1) := hkd
          go_wp2_with (first
            | (with_reducible refine ld_act rfl _ rfl b (off + k * 131) d rfl hrg2.out ?_)
            | (with_reducible refine st_act rfl _ _ rfl wr.heap.size 0 d rfl rfl hn.out.actHas ?_; intro w3 hw3; obtain ⟨hk3, hat3, hdt3⟩ := (hact w3).out hw3; rw [hkd.out] at hk3)
            | (refine wpList_val (by rfl) _ (ex_min (.tmp 42) rfl d.at_ rfl) ?_)
            | (refine wpList_val (by rfl) _ (ex_max (.tmp 43) rfl (min d.at_ 7) rfl) ?_)
            | (refine wpList_val (by rfl) _ (ex_ld (.tmp 45) rfl wr.heap.size 2 d.data rfl hdt3.out) ?_))
          have hc3 : Chg wr w3 (fun _ => False) := by rw [hw3.out]; exact chg_new _ _ _ _ _ rfl
          have hA3 := Lib.hid (hA.out.chg hc3 fun _ _ h => h)
          have hB3 := Lib.hid (hB.out.trans (hc3.below (fun _ h => h.elim) hB.out.size))
          clear hw3 hc3 hrg2 hn hact hA hB
          generalize wr.heap.size = ga at *
          refine (write_any hA3.out (max 0 (min d.at_ 7)) d.data (by have := hpl.out; have := HL.out; omega)).mono ?_
          rintro e w4 ⟨pv4, rfl, hA4, hG4⟩
          have hhas : hasF 8 (max 0 (min d.at_ 7)) = true := has8.2 (by omega)
          rw [St.write, if_pos hhas, if_pos hr.out] at hA4 ⊢
          dsimp only at hA4 ⊢
          have hB4 := Lib.hid (hB3.out.trans (hG4.chg.below (fun k hk => Nat.le_trans HBB.out (hA3.out.ge k hk)) hB3.out.size))
          have hA4 := Lib.hid hA4
          clear hk3 hat3 hdt3 hB3 hA3 hG4
          obtain ⟨t, ht⟩ : ∃ t : St, t = s.count.refuse := ⟨_, rfl⟩
          have htd : Hid (t.count.dead = true) := by
            rw [ht]
            exact hr.out
          have htp : Hid (t.count.pend.length ≤ k + 1) := by
            have hp := (refuse_st s.count).2.2.1
            have hq := hpl.out
            rw [ht]
            show s.count.refuse.pend.length ≤ k + 1
            rw [hp]; show s.pend.length ≤ _; omega
          have hst : Hid (t.dead = true ∧ t.left = 0 ∧ done = n) := by
            rw [ht]
            exact hst0.out
          rw [← ht] at hA4
          clear ht hst0 hr
          obtain ⟨x5, hrd0⟩ : ∃ x5, t.read 8 0 = (x5, 42) := ⟨zsec, by unfold St.read; rw [if_pos (has8.2 (by omega)), if_pos hst.out.1]⟩
          have hrd := Lib.hid hrd0
          clear hrd0
          obtain rfl : done = n := hst.out.2.2

          go_wp2_with fail
          refine (read_any hA4.out 0).mono ?_
          rintro e w5 ⟨rfl, hA5, hG5⟩
          rw [hrd.out]
          dsimp only
          have hB5 := Lib.hid (hB4.out.trans (hG5.chg.below (fun k hk => Nat.le_trans HBB.out (hA4.out.ge k hk)) hB4.out.size))
          have hA5 := Lib.hid hA5
          clear hG5 hA4 hB4
          have hn5 : Hid (Blk (w5.alloc (.cells zsec.cs.toArray 29)) w5.heap.size 29 zsec.cs.toArray) := Blk.new _ _ _
          have hfin : ∀ w6, Hid (Hid (w6 = (w5.alloc (.cells zsec.cs.toArray 29)).setCells w5.heap.size 0 x5.cs) → At w6 B 8 D pv4 t.count ∧ Below w.heap.size w w6) := fun w6 hw => by
            have hc6 : Chg w5 w6 (fun _ => False) := by rw [hw.out]; exact chg_new _ _ _ _ _ rfl
            exact ⟨hA5.out.chg hc6 fun _ _ h => h, hB5.out.trans (hc6.below (fun _ h => h.elim) hB5.out.size)⟩
          go_wp2_with (with_reducible refine st_sec rfl _ _ rfl w5.heap.size 0 x5 rfl rfl hn5.out.secHas ?_; intro w6 hw6)
          have hA6 := Lib.hid ((hfin w6).out hw6).1
          have hB6 := Lib.hid ((hfin w6).out hw6).2
          clear hfin hw6 hn5 hA5 hB5
          refine (dead_any hA6.out).mono ?_
          rintro e w6 ⟨rfl, rfl⟩
          rw [htd.out]
          go_wp2_with fail
          refine (dead_any hA6.out).mono ?_
          rintro e w6 ⟨rfl, rfl⟩
          rw [htd.out]
          go_wp2_with fail
          refine (dead_any hA6.out).mono ?_
          rintro e w6 ⟨rfl, rfl⟩
          rw [htd.out]
          have hnn : ((done : Int) != done) = false := by simp
          have hng : ¬ (done : Int) > done := by omega
          go_wp2_with fail
          go_roundw
          case rel =>
            have hpl := hpl.out
            exact ⟨k + 1, by omega, by go_num, ⟨_, pv4, done, rfl, hA6.out, hB6.out, .inr ⟨htd.out, hst.out.2.1, rfl⟩, htp.out, by omega⟩⟩
          case measure =>
            have := HL.out
            simp [intOf]
            omega
        · have hq1 : (d.kind == 1) = false := by rw [beq_eq_false_iff_ne]; exact hkd
          clear hkd
          go_wp2_with (first
            | (with_reducible refine ld_act rfl _ rfl b (off + k * 131) d rfl hrg2.out ?_)
            | (with_reducible refine st_act rfl _ _ rfl wr.heap.size 0 d rfl rfl hn.out.actHas ?_; intro w3 hw3; obtain ⟨hk3, hat3, hdt3⟩ := (hact w3).out hw3))
          have hc3 : Chg wr w3 (fun _ => False) := by rw [hw3.out]; exact chg_new _ _ _ _ _ rfl
          have hA3 := Lib.hid (hA.out.chg hc3 fun _ _ h => h)
          have hB3 := Lib.hid (hB.out.trans (hc3.below (fun _ h => h.elim) hB.out.size))
          clear hw3 hc3 hrg2 hn hact hA hB
          generalize wr.heap.size = ga at *
          refine (flush_any hA3.out (by have := hpl.out; have := HL.out; omega)).mono ?_
          rintro e w4 ⟨pv4, rfl, hA4, hG4⟩
          rw [St.flush, if_pos hr.out] at hA4 ⊢
          dsimp only at hA4 ⊢
          have hB4 := Lib.hid (hB3.out.trans (hG4.chg.below (fun k hk => Nat.le_trans HBB.out (hA3.out.ge k hk)) hB3.out.size))
          have hA4 := Lib.hid hA4
          clear hk3 hat3 hdt3 hB3 hA3 hG4
          obtain ⟨t, ht⟩ : ∃ t : St, t = s.count.refuse := ⟨_, rfl⟩
          have htd : Hid (t.count.dead = true) := by
            rw [ht]
            exact hr.out
          have htp : Hid (t.count.pend.length ≤ k + 1) := by
            have hp := (refuse_st s.count).2.2.1
            have hq := hpl.out
            rw [ht]
            show s.count.refuse.pend.length ≤ k + 1
            rw [hp]; show s.pend.length ≤ _; omega
          have hst : Hid (t.dead = true ∧ t.left = 0 ∧ done = n) := by
            rw [ht]
            exact hst0.out
          rw [← ht] at hA4
          clear ht hst0 hr
          obtain ⟨x5, hrd0⟩ : ∃ x5, t.read 8 0 = (x5, 42) := ⟨zsec, by unfold St.read; rw [if_pos (has8.2 (by omega)), if_pos hst.out.1]⟩
          have hrd := Lib.hid hrd0
          clear hrd0
          obtain rfl : done = n := hst.out.2.2

          go_wp2_with fail
          refine (read_any hA4.out 0).mono ?_
          rintro e w5 ⟨rfl, hA5, hG5⟩
          rw [hrd.out]
          dsimp only
          have hB5 := Lib.hid (hB4.out.trans (hG5.chg.below (fun k hk => Nat.le_trans HBB.out (hA4.out.ge k hk)) hB4.out.size))
          have hA5 := Lib.hid hA5
          clear hG5 hA4 hB4
          have hn5 : Hid (Blk (w5.alloc (.cells zsec.cs.toArray 29)) w5.heap.size 29 zsec.cs.toArray) := Blk.new _ _ _
          have hfin : ∀ w6, Hid (Hid (w6 = (w5.alloc (.cells zsec.cs.toArray 29)).setCells w5.heap.size 0 x5.cs) → At w6 B 8 D pv4 t.count ∧ Below w.heap.size w w6) := fun w6 hw => by
            have hc6 : Chg w5 w6 (fun _ => False) := by rw [hw.out]; exact chg_new _ _ _ _ _ rfl
            exact ⟨hA5.out.chg hc6 fun _ _ h => h, hB5.out.trans (hc6.below (fun _ h => h.elim) hB5.out.size)⟩
          go_wp2_with (with_reducible refine st_sec rfl _ _ rfl w5.heap.size 0 x5 rfl rfl hn5.out.secHas ?_; intro w6 hw6)
          have hA6 := Lib.hid ((hfin w6).out hw6).1
          have hB6 := Lib.hid ((hfin w6).out hw6).2
          clear hfin hw6 hn5 hA5 hB5
          refine (dead_any hA6.out).mono ?_
          rintro e w6 ⟨rfl, rfl⟩
          rw [htd.out]
          go_wp2_with fail
          refine (dead_any hA6.out).mono ?_
          rintro e w6 ⟨rfl, rfl⟩
          rw [htd.out]
          go_wp2_with fail
          refine (dead_any hA6.out).mono ?_
          rintro e w6 ⟨rfl, rfl⟩
          rw [htd.out]
          have hnn : ((done : Int) != done) = false := by simp
          have hng : ¬ (done : Int) > done := by omega
          go_wp2_with fail
          go_roundw
          case rel =>
            have hpl := hpl.out
            exact ⟨k + 1, by omega, by go_num, ⟨_, pv4, done, rfl, hA6.out, hB6.out, .inr ⟨htd.out, hst.out.2.1, rfl⟩, htp.out, by omega⟩⟩
          case measure =>
            have := HL.out
            simp [intOf]
            omega
      · have hr : Hid (s.count.refuse.dead = false) := hst0.1
        have hst0 := Lib.hid hst0
        by_cases hkd : d.kind = 1
        · have hkd : Hid (d.kind = 1) := hkd
          go_wp2_with (first
            | (with_reducible refine ld_act rfl _ rfl b (off + k * 131) d rfl hrg2.out ?_)
            | (with_reducible refine st_act rfl _ _ rfl wr.heap.size 0 d rfl rfl hn.out.actHas ?_; intro w3 hw3; obtain ⟨hk3, hat3, hdt3⟩ := (hact w3).out hw3; rw [hkd.out] at hk3)
            | (refine wpList_val (by rfl) _ (ex_min (.tmp 42) rfl d.at_ rfl) ?_)
            | (refine wpList_val (by rfl) _ (ex_max (.tmp 43) rfl (min d.at_ 7) rfl) ?_)
            | (refine wpList_val (by rfl) _ (ex_ld (.tmp 45) rfl wr.heap.size 2 d.data rfl hdt3.out) ?_))
          have hc3 : Chg wr w3 (fun _ => False) := by rw [hw3.out]; exact chg_new _ _ _ _ _ rfl
          have hA3 := Lib.hid (hA.out.chg hc3 fun _ _ h => h)
          have hB3 := Lib.hid (hB.out.trans (hc3.below (fun _ h => h.elim) hB.out.size))
          clear hw3 hc3 hrg2 hn hact hA hB
          generalize wr.heap.size = ga at *
          refine (write_any hA3.out (max 0 (min d.at_ 7)) d.data (by have := hpl.out; have := HL.out; omega)).mono ?_
          rintro e w4 ⟨pv4, rfl, hA4, hG4⟩
          have hhas : hasF 8 (max 0 (min d.at_ 7)) = true := has8.2 (by omega)
          rw [St.write, if_pos hhas, if_neg (by rw [hr.out]; simp)] at hA4 ⊢
          dsimp only at hA4 ⊢
          have hB4 := Lib.hid (hB3.out.trans (hG4.chg.below (fun k hk => Nat.le_trans HBB.out (hA3.out.ge k hk)) hB3.out.size))
          have hA4 := Lib.hid hA4
          clear hk3 hat3 hdt3 hB3 hA3 hG4
          obtain ⟨t, ht⟩ : ∃ t : St, t = { s.count.refuse with nw := s.nw.set (max 0 (min d.at_ 7)).toNat d.data, pend := s.pend ++ [((max 0 (min d.at_ 7)).toNat, d.data)] } := ⟨_, rfl⟩
          have htd : Hid (t.count.dead = false) := by
            rw [ht]
            exact hr.out
          have htp : Hid (t.count.pend.length ≤ k + 1) := by
            have hp := (refuse_st s.count).2.2.1
            have hq := hpl.out
            rw [ht]
            show (s.pend ++ [((max 0 (min d.at_ 7)).toNat, d.data)]).length ≤ k + 1
            simp only [List.length_append, List.length_singleton]; omega
          have hst : Hid (t.dead = false ∧ t.left = (n : Int) - (done + 1) ∧ done + 1 ≤ n) := by
            rw [ht]
            exact hst0.out
          rw [← ht] at hA4
          clear ht hst0 hr
          obtain ⟨x5, hrd0⟩ : ∃ x5, t.read 8 0 = (x5, 0) := ⟨_, by unfold St.read; rw [if_pos (has8.2 (by omega)), if_neg (by rw [hst.out.1]; simp)]⟩
          have hrd := Lib.hid hrd0
          clear hrd0
          go_wp2_with fail
          refine (read_any hA4.out 0).mono ?_
          rintro e w5 ⟨rfl, hA5, hG5⟩
          rw [hrd.out]
          dsimp only
          have hB5 := Lib.hid (hB4.out.trans (hG5.chg.below (fun k hk => Nat.le_trans HBB.out (hA4.out.ge k hk)) hB4.out.size))
          have hA5 := Lib.hid hA5
          clear hG5 hA4 hB4
          have hn5 : Hid (Blk (w5.alloc (.cells zsec.cs.toArray 29)) w5.heap.size 29 zsec.cs.toArray) := Blk.new _ _ _
          have hfin : ∀ w6, Hid (Hid (w6 = (w5.alloc (.cells zsec.cs.toArray 29)).setCells w5.heap.size 0 x5.cs) → At w6 B 8 D pv4 t.count ∧ Below w.heap.size w w6) := fun w6 hw => by
            have hc6 : Chg w5 w6 (fun _ => False) := by rw [hw.out]; exact chg_new _ _ _ _ _ rfl
            exact ⟨hA5.out.chg hc6 fun _ _ h => h, hB5.out.trans (hc6.below (fun _ h => h.elim) hB5.out.size)⟩
          go_wp2_with (with_reducible refine st_sec rfl _ _ rfl w5.heap.size 0 x5 rfl rfl hn5.out.secHas ?_; intro w6 hw6)
          have hA6 := Lib.hid ((hfin w6).out hw6).1
          have hB6 := Lib.hid ((hfin w6).out hw6).2
          clear hfin hw6 hn5 hA5 hB5
          refine (dead_any hA6.out).mono ?_
          rintro e w6 ⟨rfl, rfl⟩
          rw [htd.out]
          go_wp2_with fail
          refine (dead_any hA6.out).mono ?_
          rintro e w6 ⟨rfl, rfl⟩
          rw [htd.out]
          go_wp2_with fail
          refine (dead_any hA6.out).mono ?_
          rintro e w6 ⟨rfl, rfl⟩
          rw [htd.out]
          have hng : ¬ ((done : Int) + 1 > n) := by have := hst.out.2.2; omega
          go_wp2_with fail
          go_roundw
          case rel =>
            have hpl := hpl.out
            exact ⟨k + 1, by omega, by go_num, ⟨_, pv4, done + 1, by go_num, hA6.out, hB6.out, .inl ⟨htd.out, by have := hst.out.2.1; show t.left = _; omega, hst.out.2.2⟩, htp.out, by omega⟩⟩
          case measure =>
            have := HL.out
            simp [intOf]
            omega
        · have hq1 : (d.kind == 1) = false := by rw [beq_eq_false_iff_ne]; exact hkd
          clear hkd
          go_wp2_with (first
            | (with_reducible refine ld_act rfl _ rfl b (off + k * 131) d rfl hrg2.out ?_)
            | (with_reducible refine st_act rfl _ _ rfl wr.heap.size 0 d rfl rfl hn.out.actHas ?_; intro w3 hw3; obtain ⟨hk3, hat3, hdt3⟩ := (hact w3).out hw3))
          have hc3 : Chg wr w3 (fun _ => False) := by rw [hw3.out]; exact chg_new _ _ _ _ _ rfl
          have hA3 := Lib.hid (hA.out.chg hc3 fun _ _ h => h)
          have hB3 := Lib.hid (hB.out.trans (hc3.below (fun _ h => h.elim) hB.out.size))
          clear hw3 hc3 hrg2 hn hact hA hB
          generalize wr.heap.size = ga at *
          refine (flush_any hA3.out (by have := hpl.out; have := HL.out; omega)).mono ?_
          rintro e w4 ⟨pv4, rfl, hA4, hG4⟩
          rw [St.flush, if_neg (by rw [hr.out]; simp)] at hA4 ⊢
          dsimp only at hA4 ⊢
          have hB4 := Lib.hid (hB3.out.trans (hG4.chg.below (fun k hk => Nat.le_trans HBB.out (hA3.out.ge k hk)) hB3.out.size))
          have hA4 := Lib.hid hA4
          clear hk3 hat3 hdt3 hB3 hA3 hG4
          obtain ⟨t, ht⟩ : ∃ t : St, t = { s.count.refuse with st := applyF s.pend s.st, pend := [] } := ⟨_, rfl⟩
          have htd : Hid (t.count.dead = false) := by
            rw [ht]
            exact hr.out
          have htp : Hid (t.count.pend.length ≤ k + 1) := by
            have hp := (refuse_st s.count).2.2.1
            have hq := hpl.out
            rw [ht]
            show 0 ≤ k + 1
            omega
          have hst : Hid (t.dead = false ∧ t.left = (n : Int) - (done + 1) ∧ done + 1 ≤ n) := by
            rw [ht]
            exact hst0.out
          rw [← ht] at hA4
          clear ht hst0 hr
          obtain ⟨x5, hrd0⟩ : ∃ x5, t.read 8 0 = (x5, 0) := ⟨_, by unfold St.read; rw [if_pos (has8.2 (by omega)), if_neg (by rw [hst.out.1]; simp)]⟩
          have hrd := Lib.hid hrd0
          clear hrd0
          go_wp2_with fail
          refine (read_any hA4.out 0).mono ?_
          rintro e w5 ⟨rfl, hA5, hG5⟩
          rw [hrd.out]
          dsimp only
          have hB5 := Lib.hid (hB4.out.trans (hG5.chg.below (fun k hk => Nat.le_trans HBB.out (hA4.out.ge k hk)) hB4.out.size))
          have hA5 := Lib.hid hA5
          clear hG5 hA4 hB4
          have hn5 : Hid (Blk (w5.alloc (.cells zsec.cs.toArray 29)) w5.heap.size 29 zsec.cs.toArray) := Blk.new _ _ _
          have hfin : ∀ w6, Hid (Hid (w6 = (w5.alloc (.cells zsec.cs.toArray 29)).setCells w5.heap.size 0 x5.cs) → At w6 B 8 D pv4 t.count ∧ Below w.heap.size w w6) := fun w6 hw => by
            have hc6 : Chg w5 w6 (fun _ => False) := by rw [hw.out]; exact chg_new _ _ _ _ _ rfl
            exact ⟨hA5.out.chg hc6 fun _ _ h => h, hB5.out.trans (hc6.below (fun _ h => h.elim) hB5.out.size)⟩
          go_wp2_with (with_reducible refine st_sec rfl _ _ rfl w5.heap.size 0 x5 rfl rfl hn5.out.secHas ?_; intro w6 hw6)
          have hA6 := Lib.hid ((hfin w6).out hw6).1
          have hB6 := Lib.hid ((hfin w6).out hw6).2
          clear hfin hw6 hn5 hA5 hB5
          refine (dead_any hA6.out).mono ?_
          rintro e w6 ⟨rfl, rfl⟩
          rw [htd.out]
          go_wp2_with fail
          refine (dead_any hA6.out).mono ?_
          rintro e w6 ⟨rfl, rfl⟩
          rw [htd.out]
          go_wp2_with fail
          refine (dead_any hA6.out).mono ?_
          rintro e w6 ⟨rfl, rfl⟩
          rw [htd.out]
          have hng : ¬ ((done : Int) + 1 > n) := by have := hst.out.2.2; omega
          go_wp2_with fail
          go_roundw
          case rel =>
            have hpl := hpl.out
            exact ⟨k + 1, by omega, by go_num, ⟨_, pv4, done + 1, by go_num, hA6.out, hB6.out, .inl ⟨htd.out, by have := hst.out.2.1; show t.left = _; omega, hst.out.2.2⟩, htp.out, by omega⟩⟩
          case measure =>
            have := HL.out
            simp [intOf]
            omega
    · obtain ⟨s, pv, done, rfl, hA, hB, hI, hpl, hdk⟩ := HR.out
      have hA := Lib.hid hA; have hB := Lib.hid hB
      have hpl := Lib.hid hpl
      clear HR hI hdk
      have hpi : (s.pend.length : Int) ≤ 1000000 := by have := hpl.out; omega
      go_wp2_with fail
      refine (crash_any hA.out hpi none 0 [] (fun h => absurd h (by simp))).mono ?_
      rintro e w4 ⟨rfl, hA4, hG4⟩
      have hB4 := Lib.hid (hB.out.trans (hG4.chg.below (fun k hk => Nat.le_trans HBB.out (hA.out.ge k hk)) hB.out.size))
      have hA4 := Lib.hid hA4
      clear hG4 hA hB hpl hpi
      go_wp2_with fail
      refine (dead_any hA4.out).mono ?_
      rintro e w4 ⟨rfl, rfl⟩
      rw [show (s.crash []).dead = false from rfl]
      go_wp2_with (refine wpList_val (by rfl) _ (ex_build0 rfl) ?_)
      refine (write_any hA4.out 7 zsec (by show 0 ≤ _; omega)).mono ?_
      rintro e w5 ⟨pv5, rfl, hA5, hG5⟩
      rw [calm_write (s := s.crash []) (by show (-1 : Int) < 0; omega) rfl 7 zsec (has8.2 (by omega))]
      dsimp only
      have hB5 := Lib.hid (hB4.out.trans (hG5.chg.below (fun k hk => Nat.le_trans HBB.out (hA4.out.ge k hk)) hB4.out.size))
      clear hG5 hA5 hA4
      go_wp2_with fail
      go_ret
      exact ⟨rfl, hB5.out⟩
theorem ends_any (x : Int) (hx : I64 x) :
    Calls Try.prog 6 #[.int .i64 x, .slice A l.length c] w fun e w' => e = .returned (.bool true) ∧ Below w.heap.size w w' := by
  by_cases h : (200 : Int) < l.length ∨ x < 0
  · exact ends_out x A c l w h
  · obtain ⟨k, rfl⟩ := Int.eq_ofNat_of_zero_le (show 0 ≤ x by omega)
    exact ends_in A c l w hs k (by omega) (by omega) hx
end
end Go.Proofs.Ytoacagfddbmonaa
