/- Walks: the law's example, VdevNames. -/
import Derived.Test.YtoacagfddbmonaaV10
namespace Go.Proofs.Ytoacagfddbmonaa
open Go.RowKit
/-! ### Steps of a plain region, guarded or not -/
theorem wpList_val {P : Program} {ops : Array Oper} {rest : List Oper} {o : Oper} {a : Act} {w w' : World} {Q : Exit → Act → World → Prop} (hw : Region.wanted o (yielded ops a.tmps) = true) (v : Value)
    (hrun : (execOp a.eval o).run P w = .ok (.value v) w') (h : wpList P ops Q rest (a.put o.dst v) w') : wpList P ops Q (o :: rest) a w := by
  unfold wpList
  rw [if_pos hw]
  unfold Oper.wp
  rw [hrun]
  exact .inl h
theorem ex_build1 {o : Oper} {a : Act} {w : World} (x : Operand) (ho : o.op = .build 29 #[(0, x)]) (v : Value) (hx : a.eval x = v) (s : Sec) (hb : ∀ w, (Instr.build 29 #[(0, v)]).run Try.prog w = .ok (.agg s.cs.toArray) w) :
    (execOp a.eval o).run Try.prog w = .ok (.value (.agg s.cs.toArray)) w := by
  have hb := hb w
  unfold execOp
  simp only [ho, hx, List.map_toArray, List.map_cons, List.map_nil, Sem.run_bind, hb, Sem.run_pure, Result.andThen_ok]
theorem ex_build0 {o : Oper} {a : Act} {w : World} (ho : o.op = .build 29 #[]) :
    (execOp a.eval o).run Try.prog w = .ok (.value (.agg zsec.cs.toArray)) w := by
  have hb := buildZ w
  unfold execOp
  simp only [ho, List.map_toArray, List.map_nil, Sem.run_bind, hb, Sem.run_pure, Result.andThen_ok]
theorem ex_eqS {o : Oper} {a : Act} {w : World} (x y : Operand) (ho : o.op = .binOp .eql 29 x y 29) (s t : Sec) (hx : a.eval x = .agg s.cs.toArray) (hy : a.eval y = .agg t.cs.toArray) :
    (execOp a.eval o).run Try.prog w = .ok (.value (.bool (s.same t))) w := by
  unfold execOp
  simp [ho, hx, hy, eqGuard, binOp, run_eqSec]
def st0 : St := newSt 4
def st1 : St := (st0.write 4 0 (osec 1)).1
def st2 : St := (st1.write 4 1 (osec 2)).1
def st3 : St := st2.count
def st4 : St := st3.crash [false, true]
theorem st0_e : (st0.write 4 0 (osec 1)).2 = 0 := by kernel_rfl
theorem st1_e : (st1.write 4 1 (osec 2)).2 = 0 := by kernel_rfl
theorem st1_p : st1.pend.length = 1 := by kernel_rfl
theorem st2_p : st2.pend.length = 2 := by kernel_rfl
theorem st3_e : (st2.read 4 0).2 = 0 := by kernel_rfl
theorem st3_s : (st2.read 4 0).1 = osec 1 := by kernel_rfl
theorem st4_0 : st4.stable 4 0 = zsec := by kernel_rfl
theorem st4_1 : st4.stable 4 1 = osec 2 := by kernel_rfl
theorem st4_p : st4.pend.length = 0 := by kernel_rfl
theorem st4_o : st4.ops = 3 := by kernel_rfl
theorem many4 : manyF 4 = 4 := by kernel_rfl
theorem set1 : zsec.cs.toArray.setIfInBounds 0 (.int .u8 1) = (osec 1).cs.toArray := by kernel_rfl
theorem set2 : zsec.cs.toArray.setIfInBounds 0 (.int .u8 2) = (osec 2).cs.toArray := by kernel_rfl
theorem alive_any (w : World) : Calls Try.prog 8 #[] w fun e w' => e = .returned (.bool true) ∧ Below w.heap.size w w' := by
  have hz : ∀ w, Sem.run Try.prog (zeroValue 29) w = .ok (.agg zsec.cs.toArray) w := zeroSec
  go_enter Try.func8, Try.ntmps8
  go_wp2_with fail
  refine (new_any 4 _).mono ?_
  rintro e w1 ⟨D, rfl, hA1, hb1⟩
  rw [many4] at hA1
  have hA := Lib.hid hA1
  have hB := Lib.hid hb1
  clear hA1 hb1
  have hA0 : Hid (At w1 w.heap.size 4 D (.slice none 0 0) st0) := hA
  clear hA
  go_wp2_with (refine wpList_val (by rfl) _ (ex_build1 (.const (.int .u8 1)) rfl _ rfl (osec 1) build1) ?_)
  refine (write_any hA0.out 0 (osec 1) (by show 0 ≤ _; omega)).mono ?_
  rintro e w2 ⟨pv2, rfl, hA, hG2⟩
  rw [st0_e]
  have hA2 : Hid (At w2 w.heap.size 4 D pv2 st1) := hA
  clear hA
  go_wp2_with (refine wpList_val (by rfl) _ (ex_build1 (.const (.int .u8 2)) rfl _ rfl (osec 2) build2) ?_)
  refine (write_any hA2.out 1 (osec 2) (by rw [st1_p]; omega)).mono ?_
  rintro e w3 ⟨pv3, rfl, hA, hG3⟩
  rw [st1_e]
  have hA3 : Hid (At w3 w.heap.size 4 D pv3 st2) := hA
  clear hA
  go_wp2_with fail
  refine (pending_any hA3.out).mono ?_
  rintro e w3 ⟨rfl, rfl⟩
  rw [st2_p]
  go_wp2_with fail
  refine (read_any hA3.out 0).mono ?_
  rintro e w4 ⟨rfl, hA, hG4⟩
  rw [st3_e, st3_s]
  have hA4 : Hid (At w4 w.heap.size 4 D pv3 st3) := hA
  have HG := Lib.hid ((Goes.trans hG2 hG3).trans hG4)
  have hA0G : Hid (∀ k, D.own (.slice none 0 0) k → w.heap.size ≤ k) := hA0.out.ge
  clear hA hA0 hA2 hA3 hG2 hG3 hG4
  have hn : Hid (Blk (w4.alloc (.cells zsec.cs.toArray 29)) w4.heap.size 29 zsec.cs.toArray) := Blk.new _ _ _
  go_wp2_with (with_reducible refine st_sec rfl _ _ rfl w4.heap.size 0 (osec 1) rfl rfl hn.out.secHas ?_; intro w5 hw5)
  have hc5 : Chg w4 w5 (fun _ => False) := by rw [hw5.out]; exact chg_new _ _ _ _ _ rfl
  have hb5 : Hid (Blk w5 w4.heap.size 29 (osec 1).cs.toArray) := by
    have h := hn.out.secAll (osec 1)
    rwa [← hw5.out] at h
  have hA5 := Lib.hid (hA4.out.chg hc5 fun _ _ h => h)
  have hfar := Lib.hid hA4.out.new_far
  have hB5 := Lib.hid (hB.out.trans ((HG.out.chg.trans hc5 fun _ _ h => h.elim).below (fun k hk => hA0G.out k hk) hB.out.size))
  clear hw5 hn hA4 HG hc5 hB hA0G
  generalize w4.heap.size = gs at *
  have hK : Hid (RdK (w5.alloc (.cells #[.bool false, .bool true] 4)) D pv3 (some ⟨w5.heap.size, 0, none⟩) [false, true]) := fun _ => ⟨w5.heap.size, 0, rfl, by simp, hA5.out.new_far, fun j hj => by
    have hb := Blk.new w5 4 #[.bool false, .bool true]
    rw [Nat.zero_add, hb.cell j]
    rcases j with _ | _ | j
    · rfl
    · rfl
    · have hj2 : j + 1 + 1 < 2 := hj
      omega⟩
  have hp3 : (st3.pend.length : Int) ≤ 1000000 := by rw [show st3.pend.length = 2 from st2_p]; omega
  have hb6 : Hid (Blk (w5.alloc (.cells #[.bool false, .bool true] 4)) gs 29 (osec 1).cs.toArray) := hb5.out.chg (O := fun _ => False) ((Chg.refl _ _).alloc _) id
  have hA6 := Lib.hid (hA5.out.alloc (.cells #[.bool false, .bool true] 4))
  have hB6 := Lib.hid (hB5.out.alloc hB5.out.size (.cells #[.bool false, .bool true] 4))
  have hcr := Lib.hid (crash_any hA6.out hp3 (some ⟨w5.heap.size, 0, none⟩) 2 [false, true] hK.out)
  clear hA5 hb5 hB5 hK hp3
  go_wp2_with fail
  refine hcr.out.mono ?_
  rintro e w7 ⟨rfl, hA, hG⟩
  have hA7 : Hid (At w7 w.heap.size 4 D (.slice none 0 0) st4) := hA
  have hb7 := Lib.hid (hb6.out.chg hG.chg hfar.out)
  have hB7 := Lib.hid (hB6.out.trans (hG.chg.below (fun k hk => hA6.out.ge k hk) hB6.out.size))
  clear hA hG hcr hA6 hb6 hB6 hfar
  have hsame : ∀ s : Sec, Hid (s.same s = true) := fun s => s.same_self
  go_wp2_with (first
    | (refine wpList_val (by rfl) _ (ex_ld (.tmp 2) rfl gs 0 (osec 1) rfl hb7.out.secIs) ?_)
    | (refine wpList_val (by rfl) _ (ex_build1 (.const (.int .u8 1)) rfl _ rfl (osec 1) build1) ?_)
    | (refine wpList_val (by rfl) _ (ex_eqS (.tmp 35) (.tmp 36) rfl (osec 1) (osec 1) rfl rfl) ?_; rw [(hsame _).out]))
  refine (stable_any hA7.out 0).mono ?_
  rintro e w8 ⟨rfl, hc⟩
  rw [st4_0]
  have hA8 := Lib.hid (hA7.out.chg hc fun _ _ h => h)
  have hB8 := Lib.hid (hB7.out.trans (hc.below (fun _ h => h.elim) hB7.out.size))
  clear hc hA7 hB7 hb7
  go_wp2_with (first
    | (refine wpList_val (by rfl) _ (ex_build0 rfl) ?_)
    | (refine wpList_val (by rfl) _ (ex_eqS (.tmp 41) (.tmp 42) rfl zsec zsec rfl rfl) ?_; rw [(hsame _).out]))
  refine (stable_any hA8.out 1).mono ?_
  rintro e w9 ⟨rfl, hc⟩
  rw [st4_1]
  have hA9 := Lib.hid (hA8.out.chg hc fun _ _ h => h)
  have hB9 := Lib.hid (hB8.out.trans (hc.below (fun _ h => h.elim) hB8.out.size))
  clear hc hA8 hB8
  go_wp2_with (first
    | (refine wpList_val (by rfl) _ (ex_build1 (.const (.int .u8 2)) rfl _ rfl (osec 2) build2) ?_)
    | (refine wpList_val (by rfl) _ (ex_eqS (.tmp 47) (.tmp 48) rfl (osec 2) (osec 2) rfl rfl) ?_; rw [(hsame _).out]))
  refine (pending_any hA9.out).mono ?_
  rintro e w9 ⟨rfl, rfl⟩
  rw [st4_p]
  go_wp2_with fail
  refine (ops_any hA9.out).mono ?_
  rintro e w9 ⟨rfl, rfl⟩
  rw [st4_o]
  go_wp2_with fail
  go_ret
  exact ⟨rfl, hB9.out⟩
theorem manyM : manyF (-1) = 0 := by kernel_rfl
theorem many9 : manyF 9999 = 1024 := by kernel_rfl
theorem names_any (w : World) : Calls Try.prog 3 #[] w fun e w' => e = .returned (.bool true) ∧ Below w.heap.size w w' := by
  go_enter Try.func3, Try.ntmps3
  go_wp2_with fail
  refine (alive_any _).mono ?_
  rintro e w1 ⟨rfl, hb1⟩
  have hB1 := Lib.hid hb1; clear hb1
  go_wp2_with fail
  refine (new_any (-1) _).mono ?_
  rintro e w2 ⟨D, rfl, hA, hb⟩
  have hA2 := Lib.hid hA
  have hB2 := Lib.hid (hB1.out.trans (hb.mono hB1.out.size))
  clear hA hb
  go_wp2_with fail
  refine (len_any hA2.out).mono ?_
  rintro e w2 ⟨rfl, rfl⟩
  rw [manyM]
  clear hA2
  go_wp2_with fail
  refine (new_any 9999 _).mono ?_
  rintro e w3 ⟨E, rfl, hA, hb⟩
  have hA3 := Lib.hid hA
  have hB3 := Lib.hid (hB2.out.trans (hb.mono hB2.out.size))
  clear hA hb
  go_wp2_with fail
  refine (len_any hA3.out).mono ?_
  rintro e w3 ⟨rfl, rfl⟩
  rw [many9]
  clear hA3
  go_wp2_with fail
  go_ret
  exact ⟨rfl, hB3.out⟩
end Go.Proofs.Ytoacagfddbmonaa
