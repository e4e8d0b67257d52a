/- The laws on slabs, walked over the calls' contracts: SlabApart. Printed by mkn9.py. -/
import Derived.Test.YtfkffkocknbjfaaN8
set_option maxRecDepth 10000
namespace Go.Proofs.Ytfkffkocknbjfaa
open Go.RowKit

theorem wpList_val {P : Program} {ops : Array Oper} {rest : List Oper} {o : Oper} {a : Act} {w w' : World} {Q : Exit → Act → World → Prop} (hw : Region.wanted o (yielded ops a.tmps) = true) (v : Value)
    (hrun : (execOp a.eval o).run P w = .ok (.value v) w') (h : wpList P ops Q rest (a.put o.dst v) w') : wpList P ops Q (o :: rest) a w := by
  unfold wpList
  rw [if_pos hw]
  unfold Oper.wp
  rw [hrun]
  exact .inl h
theorem ex_arr {o : Oper} {a : Act} {w : World} (ho : o.op = .build 29 #[]) : (execOp a.eval o).run Try.prog w = .ok (.value (.agg (barr noB))) w := by
  have hb : ∀ w, (Instr.build 29 #[]).run Try.prog w = .ok (.agg (barr noB)) w := by unfold noB; rw [← falses_eq]; exact buildArr
  unfold execOp
  simp only [ho, List.map_toArray, List.map_nil, Sem.run_bind, hb, Sem.run_pure, Result.andThen_ok]
theorem ex_ldRow {o : Oper} {a : Act} {w : World} (x : Operand) (ho : o.op = .load 29 x) (g : Nat) (arr : Array Value) (hx : a.eval x = .pointer (some ⟨g, 0, none⟩)) (hz : (Try.prog.info? 29).map (·.size) = some arr.size) (hg : Blk w g 29 arr) :
    (execOp a.eval o).run Try.prog w = .ok (.value (.agg arr)) w := by
  have hr : w.rangeAt g 0 arr.toList := fun j v hj => by rw [Nat.zero_add, hg.cell]; simpa using hj
  have h := run_loadAt_mid w g 0 _ arr.toList _ hr Try.underlying29 rfl (by rw [Array.length_toList]; exact hz)
  rw [Array.toArray_toList] at h
  unfold execOp
  simp only [ho, hx, h, Sem.run_bind, Sem.run_pure, Result.andThen_ok]
theorem set_slice (S : Int → Bool) (w : World) : Calls Try.prog 16 #[.agg (barr S)] w fun e w' => ∃ A c, e = .returned (.slice A (canon S).length c) ∧ RdF w w' (fun _ => False) A (spc (canon S)) ∧ Below w.heap.size w w' :=
  (set_any S w).mono fun _ w' ⟨_, he, ho, hb⟩ => by
    obtain ⟨A, c, e1, h1, _⟩ := own_slice ho
    refine ⟨A, c, by rw [he, e1], ⟨⟨h1, fun _ _ _ _ => id⟩, fun b off e hn => ?_⟩, hb⟩
    obtain ⟨g, cap, e2, hN, _⟩ := own_form ho (by rw [spc_len] at hn; simp; omega)
    rw [e1, e] at e2
    simp only [Value.slice.injEq, Option.some.injEq, Addr.mk.injEq] at e2
    omega
theorem list_slice {A : Option Addr} (c : Nat) {l : List Sp} {w : World} (hs : Rd w w.heap.size A (spc l)) (hr : rightF 0 l = true) : Calls Try.prog 19 #[.slice A l.length c] w fun e w' => ∃ B d, e = .returned (.slice B (numsTo (memF l) 4096).length d) ∧ Below w.heap.size w w' :=
  (rlist_any A c l w hs hr).mono fun _ _ ⟨_, he, ho, hb⟩ => by
    obtain ⟨B, d, rfl, _⟩ := own_rd ho
    exact ⟨B, d, he, hb⟩
theorem nums_cnt (S : Int → Bool) : ∀ k, ((numsTo S k).length : Int) = cnt S k
  | 0 => rfl
  | k + 1 => by
    have ih := nums_cnt S k
    show ((if S k = true then numsTo S k ++ [(k : Int)] else numsTo S k).length : Int) = cnt S k + if S k = true then 1 else 0
    split
    · rw [List.length_append, List.length_cons, List.length_nil]; omega
    · omega
theorem cnt_like {S T : Int → Bool} : ∀ k : Nat, (∀ n : Int, 0 ≤ n → n < k → S n = T n) → cnt S k = cnt T k
  | 0, _ => rfl
  | k + 1, h => by
    show cnt S k + (if S k = true then 1 else 0) = cnt T k + if T k = true then 1 else 0
    rw [cnt_like k fun n h0 h1 => h n h0 (by omega), h k (by omega) (by omega)]
theorem numsTo_cnt {S : Int → Bool} (_h : rightF 0 (canon S) = true) : ((numsTo (memF (canon S)) 4096).length : Int) = cnt S 4096 :=
  (nums_cnt _ 4096).trans (cnt_like 4096 fun n h0 h1 => by rw [canon_mem, decide_eq_true ⟨h0, h1⟩, Bool.true_and])
theorem many_cases (m : Mp) (x : Int) : (manyC m x = 71 ∧ manyM m x = m ∧ manyL m x = []) ∨ (manyC m x = 0 ∧ ∃ n, Gave m n (manyL m x, manyM m x)) := by
  by_cases h : (m.count : Int) < x
  · have hm : m.many x = none := if_pos h
    left
    unfold manyC manyM manyL
    rw [hm]
    exact ⟨rfl, rfl, rfl⟩
  · have hm : m.many x = some (m.gives x.toNat) := if_neg h
    right
    unfold manyC manyM manyL
    rw [hm]
    exact ⟨rfl, x.toNat, gave m _ (by omega)⟩
section
variable {At : World → (Nat → Prop) → Nat → Mp → Prop}
set_option maxHeartbeats 8000000 in
theorem slabApart_any (L : SlabCalls At) (w : World) (x0 : Int) (hx0 : I64 x0) (A1 : Option Addr) (c1 : Nat) (l1 : List Sp) (hR1 : Rd w w.heap.size A1 (spc l1)) (hO1 : SpOk l1) :
    Calls Try.prog 4 #[.int .i64 x0, .slice A1 l1.length c1] w fun e w' => e = .returned (.bool true) ∧ Below w.heap.size w w' := by
  have hbd : ∀ w, (Instr.build 29 #[]).run Try.prog w = .ok (.agg (barr noB)) w := by unfold noB; rw [← falses_eq]; exact buildArr
  have hz : ∀ w, Sem.run Try.prog (zeroValue 29) w = .ok (.agg (barr noB)) w := by unfold noB; rw [← falses_eq]; exact zeroArr
  have HR1 := Lib.hid hR1
  have HO1 := Lib.hid hO1
  have HX := Lib.hid hx0
  clear hR1 hO1 hx0
  go_enter Try.func4, Try.ntmps4
  go_wp2_with fail
  refine Calls.mono (slabAlive_any L _) ?_
  rintro e w1 ⟨rfl, hb1⟩
  go_wp2_with fail
  refine Calls.mono (L.new x0 w1 HX.out) ?_
  rintro e w2 ⟨O2, g, rfl, h2, hO2, hb2⟩
  have m2 := Has.first hb1 h2 hO2 hb2
  clear h2 hO2 hb2 hb1
  by_cases h1 : l1.length ≤ 200
  · have h1i : ¬ (200 : Int) < l1.length := by omega
    by_cases h4 : x0 < 4
    · clear h1 hz hbd
      go_wp2_with fail
      go_ret
      exact ⟨rfl, m2.below⟩
    · by_cases h5 : 1024 < x0
      · clear h1 hz hbd
        go_wp2_with fail
        go_ret
        exact ⟨rfl, m2.below⟩
      · obtain ⟨t, rfl⟩ := Int.eq_ofNat_of_zero_le (show 0 ≤ x0 by omega)
        have ht4 : (4 : Int) ≤ t := by omega
        have ht5 : (t : Int) ≤ 1024 := by omega
        have HT := Lib.hid (show t ≤ 1024 by omega)
        have HRN := Lib.hid (rel_new (t := t) (by omega))
        have HL := Lib.hid h1
        have M2 := Lib.hid m2
        have HF := Lib.hid (L.foot m2.at_)
        clear h1 h4 h5 m2
        generalize newMp (t : Int) = m0 at *
        go_upto_region 9 with (first
          | ((with_reducible refine st_arr2 rfl _ _ rfl w2.heap.size noB noB rfl rfl (Blk.new w2 _ _) ?_); intro w3 hbl3 hc3
             have HB3 := Lib.hid hbl3
             have HC3 := Lib.hid (((Chg.refl w2 (fun _ => False)).alloc (.cells (barr noB) 29)).trans hc3 (O := fun _ => False) fun k hk e => by subst e; omega)
             clear hbl3 hc3)
          | ((with_reducible refine st_arr2 rfl _ _ rfl w3.heap.size noB noB rfl rfl (Blk.new w3 _ _) ?_); intro w4 hbl4 hc4
             have HB4 := Lib.hid hbl4
             have HC4 := Lib.hid (((Chg.refl w3 (fun _ => False)).alloc (.cells (barr noB) 29)).trans hc4 (O := fun _ => False) fun k hk e => by subst e; omega)
             clear hbl4 hc4))
        have ha : AInv At w w4 O2 g w2.heap.size w3.heap.size m0 noB noB := by
          have l3 := HB3.out.lt
          have hh : Has At w w4 O2 g m0 := ⟨L.stay (L.stay M2.out.at_ HC3.out fun _ _ => id) HC4.out fun _ _ => id, M2.out.lo, M2.out.below.trans ((HC3.out.trans HC4.out fun _ _ => id).below (B := w.heap.size) (fun _ h => h.elim) M2.out.below.size)⟩
          exact ⟨hh, HB3.out.chg HC4.out id, HB4.out, by omega, M2.out.below.size, by have := M2.out.below.size; omega, fun ho => by have := HF.out _ ho; omega, fun ho => by have := HF.out _ ho; omega⟩
        have HA0 := Lib.hid ha
        clear ha HB3 HC3 HB4 HC4 HF hz
        generalize w2.heap.size = gh at *
        generalize w3.heap.size = gw at *
        clear M2
        go_loopw [42] (fun i wr => ∃ (k : Nat) (O : Nat → Prop) (m : Mp) (H W : Int → Bool), k ≤ l1.length ∧ i = .int .i64 k ∧ AInv At w wr O g gh gw m H W ∧ ARel m t H W) (fun i _ => l1.length - (intOf i).toNat)
        case atStart => exact ⟨0, O2, m0, noB, noB, Nat.zero_le _, rfl, HA0.out, HRN.out⟩
        case round =>
          clear HA0 HRN
          obtain ⟨k, O, m, H, W, hk, rfl, hA, hR⟩ := hrel
          have AI := Lib.hid hA
          have AR := Lib.hid hR
          clear hA hR
          by_cases hlt : k < l1.length
          · have hki : (k : Int) < l1.length := by omega
            obtain ⟨b, off, rfl, hbl, hc1, hc2⟩ := sp_at HR1.out k hlt
            have hc1 := (AI.out.has.below.cell (p := ⟨b, off + k * 2, none⟩) hbl).trans hc1
            have hc2 := (AI.out.has.below.cell (p := ⟨b, off + k * 2 + 1, none⟩) hbl).trans hc2
            have HI := Lib.hid (HO1.out _ (List.getElem_mem hlt))
            have HK := Lib.hid hlt
            generalize l1[k] = pp at *
            obtain ⟨kd, nn⟩ := pp
            simp only at hc1 hc2 HI
            clear hlt hk hbl
            go_upto_region 11 with fail
            have A6 := Lib.hid (AI.out.far L ((Below.refl _ _).alloc (Nat.le_refl _) (.cells #[.int .i64 kd, .int .i64 nn] 31)))
            have d1 : (wr.alloc (.cells #[.int .i64 kd, .int .i64 nn] 31)).cell? ⟨wr.heap.size, 0, none⟩ = some (.int .i64 kd) := (Blk.new wr _ _).cell 0
            have d2 : (wr.alloc (.cells #[.int .i64 kd, .int .i64 nn] 31)).cell? ⟨wr.heap.size, 1, none⟩ = some (.int .i64 nn) := (Blk.new wr _ _).cell 1
            have hno : ¬ O wr.heap.size := fun ho => by have := L.foot AI.out.has.at_ _ ho; omega
            have hlt6 : wr.heap.size < (wr.alloc (.cells #[.int .i64 kd, .int .i64 nn] 31)).heap.size := by simp
            have hgh : wr.heap.size ≠ gh := by have := AI.out.hb.lt; omega
            have hgw : wr.heap.size ≠ gw := by have := AI.out.wb.lt; omega
            clear hc1 hc2 AI
            generalize wr.alloc (.cells #[.int .i64 kd, .int .i64 nn] 31) = w6 at *
            generalize wr.heap.size = g6 at *
            by_cases hkd : kd = 0
            · subst hkd
              by_cases hm20 : nn ≤ 20
              · have hm := L.many (nn) (HI.out.2) A6.out.has.at_
                rcases many_cases m (nn) with ⟨e1, e2, e3⟩ | ⟨e1, n, hg⟩
                · rw [e1, e2, e3] at hm
                  have HM := Lib.hid hm
                  clear hm e1 e2 e3
                  go_wp2_with fail
                  refine Calls.mono HM.out ?_
                  rintro e w7 ⟨O7, A7, c7, rfl, h7, r7, s7⟩
                  have A8 := Lib.hid (A6.out.step h7 s7)
                  clear HM h7 r7 s7 A6
                  go_wp2_with fail
                  go_roundw
                  case rel => exact ⟨k + 1, O7, m, H, W, HK.out, by go_num, A8.out, AR.out⟩
                  case measure => have := HK.out; simp [intOf]; omega
                · rw [e1] at hm
                  have HG := Lib.hid hg
                  have HM := Lib.hid hm
                  clear hm e1 hg
                  generalize manyL m (nn) = ls at *
                  generalize manyM m (nn) = m' at *
                  go_wp2_with fail
                  refine Calls.mono HM.out ?_
                  rintro e w7 ⟨O7, A7, c7, rfl, h7, r7, s7⟩
                  have A8 := Lib.hid (A6.out.step h7 s7)
                  have R7 := Lib.hid r7
                  have HGH := Lib.hid A6.out.hb.lt
                  clear HM h7 r7 s7 A6 d1 d2
                  have hll : (natI ls).length = ls.length := List.length_map _
                  rw [hll]
                  have hlb : (ls.length : Int) ≤ 1024 := by have := HG.out.count; have := HG.out.len; have := count_le m; simp only at *; omega
                  go_upto_region 18 with fail
                  obtain ⟨wo, hwo⟩ : ∃ wo : World, wo = w7 := ⟨_, rfl⟩
                  clear hwo
                  go_loopw [64] (fun j wr => ∃ (q : Nat), q ≤ ls.length ∧ j = .int .i64 q ∧ AInv At w wr O7 g gh gw m' (addB H (ls.take q)) W ∧ Chg w7 wr (· = gh)) (fun j _ => ls.length - (intOf j).toNat)
                  case atStart => exact ⟨0, Nat.zero_le _, rfl, (by rw [show addB H (ls.take 0) = H from funext fun x => by simp [addB]]; exact A8.out), Chg.refl _ _⟩
                  case round =>
                    clear A8
                    obtain ⟨q, hq, rfl, hA, hC⟩ := hrel
                    have A9 := Lib.hid hA
                    have HC := Lib.hid hC
                    clear hA hC
                    by_cases hlt : q < ls.length
                    · have hqi : (q : Int) < ls.length := by omega
                      have hql : q < (natI ls).length := by rw [hll]; exact hlt
                      obtain ⟨bl, ol, rfl, hbb, hcc0⟩ := int_at R7.out.rd q hql
                      have hfr := R7.out.fresh bl ol rfl (by simp only [ints_len]; omega)
                      have hcc := (HC.out.cell hbb (by have := HGH.out; omega) (ol + q)).trans hcc0
                      have hnq : (natI ls)[q] = (ls[q] : Int) := by simp [natI]
                      rw [hnq] at hcc
                      have hgv := AR.out.given HG.out q hlt
                      have HST := Lib.hid (addB_step H ls q hlt)
                      simp only at hgv
                      have hv1 := A9.out.hb.cell ls[q]
                      have hv2 := A9.out.wb.cell ls[q]
                      rw [barr_at _ _ (by omega), hgv.2.2.2.1] at hv1
                      rw [barr_at _ _ (by omega), hgv.2.2.2.2] at hv2
                      have hfz := A9.out.hb.frozen ls[q]
                      generalize ls[q] = v at *
                      have hv4 : ¬ (v : Int) < 4 := by omega
                      have hvt : ¬ (t : Int) ≤ v := by omega
                      have hvm : (v : Int) < 4096 := by omega
                      have HV := Lib.hid (show v < 4096 by omega)
                      have HQ := Lib.hid hlt
                      clear hgv hnq hcc0 hbb hfr hlt hq hql
                      go_wp2_with fail
                      go_roundw
                      case rel => exact ⟨q + 1, HQ.out, by go_num, by rw [← HST.out]; exact A9.out.hset L v true HV.out, HC.out.setCell (.inl rfl) _⟩
                      case measure => have := HQ.out; simp [intOf]; omega
                    · obtain rfl : q = ls.length := by omega
                      rw [List.take_of_length_le (Nat.le_refl _)] at A9
                      clear hq hlt
                      go_wp2_with fail
                      go_roundw
                      case rel => exact ⟨k + 1, O7, m', addB H ls, W, HK.out, by go_num, A9.out, AR.out.many HG.out⟩
                      case measure => have := HK.out; simp [intOf]; omega
              · have hm := L.many (20) (by unfold I64; omega) A6.out.has.at_
                rcases many_cases m (20) with ⟨e1, e2, e3⟩ | ⟨e1, n, hg⟩
                · rw [e1, e2, e3] at hm
                  have HM := Lib.hid hm
                  clear hm e1 e2 e3
                  go_wp2_with fail
                  refine Calls.mono HM.out ?_
                  rintro e w7 ⟨O7, A7, c7, rfl, h7, r7, s7⟩
                  have A8 := Lib.hid (A6.out.step h7 s7)
                  clear HM h7 r7 s7 A6
                  go_wp2_with fail
                  go_roundw
                  case rel => exact ⟨k + 1, O7, m, H, W, HK.out, by go_num, A8.out, AR.out⟩
                  case measure => have := HK.out; simp [intOf]; omega
                · rw [e1] at hm
                  have HG := Lib.hid hg
                  have HM := Lib.hid hm
                  clear hm e1 hg
                  generalize manyL m (20) = ls at *
                  generalize manyM m (20) = m' at *
                  go_wp2_with fail
                  refine Calls.mono HM.out ?_
                  rintro e w7 ⟨O7, A7, c7, rfl, h7, r7, s7⟩
                  have A8 := Lib.hid (A6.out.step h7 s7)
                  have R7 := Lib.hid r7
                  have HGH := Lib.hid A6.out.hb.lt
                  clear HM h7 r7 s7 A6 d1 d2
                  have hll : (natI ls).length = ls.length := List.length_map _
                  rw [hll]
                  have hlb : (ls.length : Int) ≤ 1024 := by have := HG.out.count; have := HG.out.len; have := count_le m; simp only at *; omega
                  go_upto_region 18 with fail
                  obtain ⟨wo, hwo⟩ : ∃ wo : World, wo = w7 := ⟨_, rfl⟩
                  clear hwo
                  go_loopw [64] (fun j wr => ∃ (q : Nat), q ≤ ls.length ∧ j = .int .i64 q ∧ AInv At w wr O7 g gh gw m' (addB H (ls.take q)) W ∧ Chg w7 wr (· = gh)) (fun j _ => ls.length - (intOf j).toNat)
                  case atStart => exact ⟨0, Nat.zero_le _, rfl, (by rw [show addB H (ls.take 0) = H from funext fun x => by simp [addB]]; exact A8.out), Chg.refl _ _⟩
                  case round =>
                    clear A8
                    obtain ⟨q, hq, rfl, hA, hC⟩ := hrel
                    have A9 := Lib.hid hA
                    have HC := Lib.hid hC
                    clear hA hC
                    by_cases hlt : q < ls.length
                    · have hqi : (q : Int) < ls.length := by omega
                      have hql : q < (natI ls).length := by rw [hll]; exact hlt
                      obtain ⟨bl, ol, rfl, hbb, hcc0⟩ := int_at R7.out.rd q hql
                      have hfr := R7.out.fresh bl ol rfl (by simp only [ints_len]; omega)
                      have hcc := (HC.out.cell hbb (by have := HGH.out; omega) (ol + q)).trans hcc0
                      have hnq : (natI ls)[q] = (ls[q] : Int) := by simp [natI]
                      rw [hnq] at hcc
                      have hgv := AR.out.given HG.out q hlt
                      have HST := Lib.hid (addB_step H ls q hlt)
                      simp only at hgv
                      have hv1 := A9.out.hb.cell ls[q]
                      have hv2 := A9.out.wb.cell ls[q]
                      rw [barr_at _ _ (by omega), hgv.2.2.2.1] at hv1
                      rw [barr_at _ _ (by omega), hgv.2.2.2.2] at hv2
                      have hfz := A9.out.hb.frozen ls[q]
                      generalize ls[q] = v at *
                      have hv4 : ¬ (v : Int) < 4 := by omega
                      have hvt : ¬ (t : Int) ≤ v := by omega
                      have hvm : (v : Int) < 4096 := by omega
                      have HV := Lib.hid (show v < 4096 by omega)
                      have HQ := Lib.hid hlt
                      clear hgv hnq hcc0 hbb hfr hlt hq hql
                      go_wp2_with fail
                      go_roundw
                      case rel => exact ⟨q + 1, HQ.out, by go_num, by rw [← HST.out]; exact A9.out.hset L v true HV.out, HC.out.setCell (.inl rfl) _⟩
                      case measure => have := HQ.out; simp [intOf]; omega
                    · obtain rfl : q = ls.length := by omega
                      rw [List.take_of_length_le (Nat.le_refl _)] at A9
                      clear hq hlt
                      go_wp2_with fail
                      go_roundw
                      case rel => exact ⟨k + 1, O7, m', addB H ls, W, HK.out, by go_num, A9.out, AR.out.many HG.out⟩
                      case measure => have := HK.out; simp [intOf]; omega
            · by_cases hkd1 : kd = 1
              · subst hkd1
                by_cases hm20 : nn ≤ 20
                · have hm := L.many (nn) (HI.out.2) A6.out.has.at_
                  rcases many_cases m (nn) with ⟨e1, e2, e3⟩ | ⟨e1, n, hg⟩
                  · rw [e1, e2, e3] at hm
                    have HM := Lib.hid hm
                    clear hm e1 e2 e3
                    go_wp2_with fail
                    refine Calls.mono HM.out ?_
                    rintro e w7 ⟨O7, A7, c7, rfl, h7, r7, s7⟩
                    have A8 := Lib.hid (A6.out.step h7 s7)
                    clear HM h7 r7 s7 A6
                    go_wp2_with fail
                    go_roundw
                    case rel => exact ⟨k + 1, O7, m, H, W, HK.out, by go_num, A8.out, AR.out⟩
                    case measure => have := HK.out; simp [intOf]; omega
                  · rw [e1] at hm
                    have HG := Lib.hid hg
                    have HM := Lib.hid hm
                    clear hm e1 hg
                    generalize manyL m (nn) = ls at *
                    generalize manyM m (nn) = m' at *
                    go_wp2_with fail
                    refine Calls.mono HM.out ?_
                    rintro e w7 ⟨O7, A7, c7, rfl, h7, r7, s7⟩
                    have A8 := Lib.hid (A6.out.step h7 s7)
                    have R7 := Lib.hid r7
                    have HGH := Lib.hid A6.out.hb.lt
                    clear HM h7 r7 s7 A6 d1 d2
                    have hll : (natI ls).length = ls.length := List.length_map _
                    rw [hll]
                    have hlb : (ls.length : Int) ≤ 1024 := by have := HG.out.count; have := HG.out.len; have := count_le m; simp only at *; omega
                    go_upto_region 18 with fail
                    obtain ⟨wo, hwo⟩ : ∃ wo : World, wo = w7 := ⟨_, rfl⟩
                    clear hwo
                    go_loopw [64] (fun j wr => ∃ (q : Nat), q ≤ ls.length ∧ j = .int .i64 q ∧ AInv At w wr O7 g gh gw m' (addB H (ls.take q)) W ∧ Chg w7 wr (· = gh)) (fun j _ => ls.length - (intOf j).toNat)
                    case atStart => exact ⟨0, Nat.zero_le _, rfl, (by rw [show addB H (ls.take 0) = H from funext fun x => by simp [addB]]; exact A8.out), Chg.refl _ _⟩
                    case round =>
                      clear A8
                      obtain ⟨q, hq, rfl, hA, hC⟩ := hrel
                      have A9 := Lib.hid hA
                      have HC := Lib.hid hC
                      clear hA hC
                      by_cases hlt : q < ls.length
                      · have hqi : (q : Int) < ls.length := by omega
                        have hql : q < (natI ls).length := by rw [hll]; exact hlt
                        obtain ⟨bl, ol, rfl, hbb, hcc0⟩ := int_at R7.out.rd q hql
                        have hfr := R7.out.fresh bl ol rfl (by simp only [ints_len]; omega)
                        have hcc := (HC.out.cell hbb (by have := HGH.out; omega) (ol + q)).trans hcc0
                        have hnq : (natI ls)[q] = (ls[q] : Int) := by simp [natI]
                        rw [hnq] at hcc
                        have hgv := AR.out.given HG.out q hlt
                        have HST := Lib.hid (addB_step H ls q hlt)
                        simp only at hgv
                        have hv1 := A9.out.hb.cell ls[q]
                        have hv2 := A9.out.wb.cell ls[q]
                        rw [barr_at _ _ (by omega), hgv.2.2.2.1] at hv1
                        rw [barr_at _ _ (by omega), hgv.2.2.2.2] at hv2
                        have hfz := A9.out.hb.frozen ls[q]
                        generalize ls[q] = v at *
                        have hv4 : ¬ (v : Int) < 4 := by omega
                        have hvt : ¬ (t : Int) ≤ v := by omega
                        have hvm : (v : Int) < 4096 := by omega
                        have HV := Lib.hid (show v < 4096 by omega)
                        have HQ := Lib.hid hlt
                        clear hgv hnq hcc0 hbb hfr hlt hq hql
                        go_wp2_with fail
                        go_roundw
                        case rel => exact ⟨q + 1, HQ.out, by go_num, by rw [← HST.out]; exact A9.out.hset L v true HV.out, HC.out.setCell (.inl rfl) _⟩
                        case measure => have := HQ.out; simp [intOf]; omega
                      · obtain rfl : q = ls.length := by omega
                        rw [List.take_of_length_le (Nat.le_refl _)] at A9
                        clear hq hlt
                        go_wp2_with fail
                        go_roundw
                        case rel => exact ⟨k + 1, O7, m', addB H ls, W, HK.out, by go_num, A9.out, AR.out.many HG.out⟩
                        case measure => have := HK.out; simp [intOf]; omega
                · have hm := L.many (20) (by unfold I64; omega) A6.out.has.at_
                  rcases many_cases m (20) with ⟨e1, e2, e3⟩ | ⟨e1, n, hg⟩
                  · rw [e1, e2, e3] at hm
                    have HM := Lib.hid hm
                    clear hm e1 e2 e3
                    go_wp2_with fail
                    refine Calls.mono HM.out ?_
                    rintro e w7 ⟨O7, A7, c7, rfl, h7, r7, s7⟩
                    have A8 := Lib.hid (A6.out.step h7 s7)
                    clear HM h7 r7 s7 A6
                    go_wp2_with fail
                    go_roundw
                    case rel => exact ⟨k + 1, O7, m, H, W, HK.out, by go_num, A8.out, AR.out⟩
                    case measure => have := HK.out; simp [intOf]; omega
                  · rw [e1] at hm
                    have HG := Lib.hid hg
                    have HM := Lib.hid hm
                    clear hm e1 hg
                    generalize manyL m (20) = ls at *
                    generalize manyM m (20) = m' at *
                    go_wp2_with fail
                    refine Calls.mono HM.out ?_
                    rintro e w7 ⟨O7, A7, c7, rfl, h7, r7, s7⟩
                    have A8 := Lib.hid (A6.out.step h7 s7)
                    have R7 := Lib.hid r7
                    have HGH := Lib.hid A6.out.hb.lt
                    clear HM h7 r7 s7 A6 d1 d2
                    have hll : (natI ls).length = ls.length := List.length_map _
                    rw [hll]
                    have hlb : (ls.length : Int) ≤ 1024 := by have := HG.out.count; have := HG.out.len; have := count_le m; simp only at *; omega
                    go_upto_region 18 with fail
                    obtain ⟨wo, hwo⟩ : ∃ wo : World, wo = w7 := ⟨_, rfl⟩
                    clear hwo
                    go_loopw [64] (fun j wr => ∃ (q : Nat), q ≤ ls.length ∧ j = .int .i64 q ∧ AInv At w wr O7 g gh gw m' (addB H (ls.take q)) W ∧ Chg w7 wr (· = gh)) (fun j _ => ls.length - (intOf j).toNat)
                    case atStart => exact ⟨0, Nat.zero_le _, rfl, (by rw [show addB H (ls.take 0) = H from funext fun x => by simp [addB]]; exact A8.out), Chg.refl _ _⟩
                    case round =>
                      clear A8
                      obtain ⟨q, hq, rfl, hA, hC⟩ := hrel
                      have A9 := Lib.hid hA
                      have HC := Lib.hid hC
                      clear hA hC
                      by_cases hlt : q < ls.length
                      · have hqi : (q : Int) < ls.length := by omega
                        have hql : q < (natI ls).length := by rw [hll]; exact hlt
                        obtain ⟨bl, ol, rfl, hbb, hcc0⟩ := int_at R7.out.rd q hql
                        have hfr := R7.out.fresh bl ol rfl (by simp only [ints_len]; omega)
                        have hcc := (HC.out.cell hbb (by have := HGH.out; omega) (ol + q)).trans hcc0
                        have hnq : (natI ls)[q] = (ls[q] : Int) := by simp [natI]
                        rw [hnq] at hcc
                        have hgv := AR.out.given HG.out q hlt
                        have HST := Lib.hid (addB_step H ls q hlt)
                        simp only at hgv
                        have hv1 := A9.out.hb.cell ls[q]
                        have hv2 := A9.out.wb.cell ls[q]
                        rw [barr_at _ _ (by omega), hgv.2.2.2.1] at hv1
                        rw [barr_at _ _ (by omega), hgv.2.2.2.2] at hv2
                        have hfz := A9.out.hb.frozen ls[q]
                        generalize ls[q] = v at *
                        have hv4 : ¬ (v : Int) < 4 := by omega
                        have hvt : ¬ (t : Int) ≤ v := by omega
                        have hvm : (v : Int) < 4096 := by omega
                        have HV := Lib.hid (show v < 4096 by omega)
                        have HQ := Lib.hid hlt
                        clear hgv hnq hcc0 hbb hfr hlt hq hql
                        go_wp2_with fail
                        go_roundw
                        case rel => exact ⟨q + 1, HQ.out, by go_num, by rw [← HST.out]; exact A9.out.hset L v true HV.out, HC.out.setCell (.inl rfl) _⟩
                        case measure => have := HQ.out; simp [intOf]; omega
                      · obtain rfl : q = ls.length := by omega
                        rw [List.take_of_length_le (Nat.le_refl _)] at A9
                        clear hq hlt
                        go_wp2_with fail
                        go_roundw
                        case rel => exact ⟨k + 1, O7, m', addB H ls, W, HK.out, by go_num, A9.out, AR.out.many HG.out⟩
                        case measure => have := HK.out; simp [intOf]; omega
              · by_cases hkd2 : kd = 2
                · subst hkd2
                  by_cases hm20 : nn ≤ 20
                  · have hm := L.many (nn) (HI.out.2) A6.out.has.at_
                    rcases many_cases m (nn) with ⟨e1, e2, e3⟩ | ⟨e1, n, hg⟩
                    · rw [e1, e2, e3] at hm
                      have HM := Lib.hid hm
                      clear hm e1 e2 e3
                      go_wp2_with fail
                      refine Calls.mono HM.out ?_
                      rintro e w7 ⟨O7, A7, c7, rfl, h7, r7, s7⟩
                      have A8 := Lib.hid (A6.out.step h7 s7)
                      clear HM h7 r7 s7 A6
                      go_wp2_with fail
                      go_roundw
                      case rel => exact ⟨k + 1, O7, m, H, W, HK.out, by go_num, A8.out, AR.out⟩
                      case measure => have := HK.out; simp [intOf]; omega
                    · rw [e1] at hm
                      have HG := Lib.hid hg
                      have HM := Lib.hid hm
                      clear hm e1 hg
                      generalize manyL m (nn) = ls at *
                      generalize manyM m (nn) = m' at *
                      go_wp2_with fail
                      refine Calls.mono HM.out ?_
                      rintro e w7 ⟨O7, A7, c7, rfl, h7, r7, s7⟩
                      have A8 := Lib.hid (A6.out.step h7 s7)
                      have R7 := Lib.hid r7
                      have HGH := Lib.hid A6.out.hb.lt
                      clear HM h7 r7 s7 A6 d1 d2
                      have hll : (natI ls).length = ls.length := List.length_map _
                      rw [hll]
                      have hlb : (ls.length : Int) ≤ 1024 := by have := HG.out.count; have := HG.out.len; have := count_le m; simp only at *; omega
                      go_upto_region 18 with fail
                      obtain ⟨wo, hwo⟩ : ∃ wo : World, wo = w7 := ⟨_, rfl⟩
                      clear hwo
                      go_loopw [64] (fun j wr => ∃ (q : Nat), q ≤ ls.length ∧ j = .int .i64 q ∧ AInv At w wr O7 g gh gw m' (addB H (ls.take q)) W ∧ Chg w7 wr (· = gh)) (fun j _ => ls.length - (intOf j).toNat)
                      case atStart => exact ⟨0, Nat.zero_le _, rfl, (by rw [show addB H (ls.take 0) = H from funext fun x => by simp [addB]]; exact A8.out), Chg.refl _ _⟩
                      case round =>
                        clear A8
                        obtain ⟨q, hq, rfl, hA, hC⟩ := hrel
                        have A9 := Lib.hid hA
                        have HC := Lib.hid hC
                        clear hA hC
                        by_cases hlt : q < ls.length
                        · have hqi : (q : Int) < ls.length := by omega
                          have hql : q < (natI ls).length := by rw [hll]; exact hlt
                          obtain ⟨bl, ol, rfl, hbb, hcc0⟩ := int_at R7.out.rd q hql
                          have hfr := R7.out.fresh bl ol rfl (by simp only [ints_len]; omega)
                          have hcc := (HC.out.cell hbb (by have := HGH.out; omega) (ol + q)).trans hcc0
                          have hnq : (natI ls)[q] = (ls[q] : Int) := by simp [natI]
                          rw [hnq] at hcc
                          have hgv := AR.out.given HG.out q hlt
                          have HST := Lib.hid (addB_step H ls q hlt)
                          simp only at hgv
                          have hv1 := A9.out.hb.cell ls[q]
                          have hv2 := A9.out.wb.cell ls[q]
                          rw [barr_at _ _ (by omega), hgv.2.2.2.1] at hv1
                          rw [barr_at _ _ (by omega), hgv.2.2.2.2] at hv2
                          have hfz := A9.out.hb.frozen ls[q]
                          generalize ls[q] = v at *
                          have hv4 : ¬ (v : Int) < 4 := by omega
                          have hvt : ¬ (t : Int) ≤ v := by omega
                          have hvm : (v : Int) < 4096 := by omega
                          have HV := Lib.hid (show v < 4096 by omega)
                          have HQ := Lib.hid hlt
                          clear hgv hnq hcc0 hbb hfr hlt hq hql
                          go_wp2_with fail
                          go_roundw
                          case rel => exact ⟨q + 1, HQ.out, by go_num, by rw [← HST.out]; exact A9.out.hset L v true HV.out, HC.out.setCell (.inl rfl) _⟩
                          case measure => have := HQ.out; simp [intOf]; omega
                        · obtain rfl : q = ls.length := by omega
                          rw [List.take_of_length_le (Nat.le_refl _)] at A9
                          clear hq hlt
                          go_wp2_with fail
                          go_roundw
                          case rel => exact ⟨k + 1, O7, m', addB H ls, W, HK.out, by go_num, A9.out, AR.out.many HG.out⟩
                          case measure => have := HK.out; simp [intOf]; omega
                  · have hm := L.many (20) (by unfold I64; omega) A6.out.has.at_
                    rcases many_cases m (20) with ⟨e1, e2, e3⟩ | ⟨e1, n, hg⟩
                    · rw [e1, e2, e3] at hm
                      have HM := Lib.hid hm
                      clear hm e1 e2 e3
                      go_wp2_with fail
                      refine Calls.mono HM.out ?_
                      rintro e w7 ⟨O7, A7, c7, rfl, h7, r7, s7⟩
                      have A8 := Lib.hid (A6.out.step h7 s7)
                      clear HM h7 r7 s7 A6
                      go_wp2_with fail
                      go_roundw
                      case rel => exact ⟨k + 1, O7, m, H, W, HK.out, by go_num, A8.out, AR.out⟩
                      case measure => have := HK.out; simp [intOf]; omega
                    · rw [e1] at hm
                      have HG := Lib.hid hg
                      have HM := Lib.hid hm
                      clear hm e1 hg
                      generalize manyL m (20) = ls at *
                      generalize manyM m (20) = m' at *
                      go_wp2_with fail
                      refine Calls.mono HM.out ?_
                      rintro e w7 ⟨O7, A7, c7, rfl, h7, r7, s7⟩
                      have A8 := Lib.hid (A6.out.step h7 s7)
                      have R7 := Lib.hid r7
                      have HGH := Lib.hid A6.out.hb.lt
                      clear HM h7 r7 s7 A6 d1 d2
                      have hll : (natI ls).length = ls.length := List.length_map _
                      rw [hll]
                      have hlb : (ls.length : Int) ≤ 1024 := by have := HG.out.count; have := HG.out.len; have := count_le m; simp only at *; omega
                      go_upto_region 18 with fail
                      obtain ⟨wo, hwo⟩ : ∃ wo : World, wo = w7 := ⟨_, rfl⟩
                      clear hwo
                      go_loopw [64] (fun j wr => ∃ (q : Nat), q ≤ ls.length ∧ j = .int .i64 q ∧ AInv At w wr O7 g gh gw m' (addB H (ls.take q)) W ∧ Chg w7 wr (· = gh)) (fun j _ => ls.length - (intOf j).toNat)
                      case atStart => exact ⟨0, Nat.zero_le _, rfl, (by rw [show addB H (ls.take 0) = H from funext fun x => by simp [addB]]; exact A8.out), Chg.refl _ _⟩
                      case round =>
                        clear A8
                        obtain ⟨q, hq, rfl, hA, hC⟩ := hrel
                        have A9 := Lib.hid hA
                        have HC := Lib.hid hC
                        clear hA hC
                        by_cases hlt : q < ls.length
                        · have hqi : (q : Int) < ls.length := by omega
                          have hql : q < (natI ls).length := by rw [hll]; exact hlt
                          obtain ⟨bl, ol, rfl, hbb, hcc0⟩ := int_at R7.out.rd q hql
                          have hfr := R7.out.fresh bl ol rfl (by simp only [ints_len]; omega)
                          have hcc := (HC.out.cell hbb (by have := HGH.out; omega) (ol + q)).trans hcc0
                          have hnq : (natI ls)[q] = (ls[q] : Int) := by simp [natI]
                          rw [hnq] at hcc
                          have hgv := AR.out.given HG.out q hlt
                          have HST := Lib.hid (addB_step H ls q hlt)
                          simp only at hgv
                          have hv1 := A9.out.hb.cell ls[q]
                          have hv2 := A9.out.wb.cell ls[q]
                          rw [barr_at _ _ (by omega), hgv.2.2.2.1] at hv1
                          rw [barr_at _ _ (by omega), hgv.2.2.2.2] at hv2
                          have hfz := A9.out.hb.frozen ls[q]
                          generalize ls[q] = v at *
                          have hv4 : ¬ (v : Int) < 4 := by omega
                          have hvt : ¬ (t : Int) ≤ v := by omega
                          have hvm : (v : Int) < 4096 := by omega
                          have HV := Lib.hid (show v < 4096 by omega)
                          have HQ := Lib.hid hlt
                          clear hgv hnq hcc0 hbb hfr hlt hq hql
                          go_wp2_with fail
                          go_roundw
                          case rel => exact ⟨q + 1, HQ.out, by go_num, by rw [← HST.out]; exact A9.out.hset L v true HV.out, HC.out.setCell (.inl rfl) _⟩
                          case measure => have := HQ.out; simp [intOf]; omega
                        · obtain rfl : q = ls.length := by omega
                          rw [List.take_of_length_le (Nat.le_refl _)] at A9
                          clear hq hlt
                          go_wp2_with fail
                          go_roundw
                          case rel => exact ⟨k + 1, O7, m', addB H ls, W, HK.out, by go_num, A9.out, AR.out.many HG.out⟩
                          case measure => have := HK.out; simp [intOf]; omega
                · by_cases hkd3 : kd = 3
                  · subst hkd3
                    by_cases hn0 : nn < 0
                    · go_wp2_with fail
                      go_roundw
                      case rel => exact ⟨k + 1, O, m, H, W, HK.out, by go_num, A6.out, AR.out⟩
                      case measure => have := HK.out; simp [intOf]; omega
                    · by_cases hn1 : 1024 ≤ nn
                      · go_wp2_with fail
                        go_roundw
                        case rel => exact ⟨k + 1, O, m, H, W, HK.out, by go_num, A6.out, AR.out⟩
                        case measure => have := HK.out; simp [intOf]; omega
                      · obtain ⟨n, rfl⟩ := Int.eq_ofNat_of_zero_le (show 0 ≤ nn by omega)
                        have hnb : (n : Int) < 1024 := by omega
                        have HNB := Lib.hid (show n < 1024 by omega)
                        have ht := L.free (n : Int) HI.out.2 A6.out.has.at_
                        have hadd := AR.out.had n (by omega)
                        rcases turn_cases m (n : Int) 1 0 with ⟨e1, e2, h1⟩ | ⟨n', he, h1, e1, e2⟩
                        · have h1 := h1 n rfl
                          rw [e1, e2] at ht
                          rw [h1] at hadd
                          have HM := Lib.hid ht
                          have H1 := Lib.hid h1
                          clear ht e1 e2 h1
                          go_wp2_with fail
                          refine Calls.mono HM.out ?_
                          rintro e w7 ⟨O7, rfl, h7, s7⟩
                          have A8 := Lib.hid (A6.out.step h7 s7)
                          have d1 := (s7.chg.cell hlt6 hno 0).trans d1
                          have d2 := (s7.chg.cell hlt6 hno 1).trans d2
                          have hv1 := A8.out.hb.cell n
                          rw [barr_at _ _ (by omega), hadd] at hv1
                          have hfz := A8.out.hb.frozen n
                          clear HM h7 s7 A6 hadd hno hlt6
                          go_wp2_with fail
                          go_roundw
                          case rel => exact ⟨k + 1, O7, m, setB H n false, W, HK.out, by go_num, A8.out.hset L n false (by have := HNB.out; omega), AR.out.keep' H1.out⟩
                          case measure => have := HK.out; simp [intOf]; omega
                        · obtain rfl : n = n' := by omega
                          rw [e1, e2] at ht
                          rw [h1] at hadd
                          have HM := Lib.hid ht
                          have H1 := Lib.hid h1
                          clear ht e1 e2 h1
                          go_wp2_with fail
                          refine Calls.mono HM.out ?_
                          rintro e w7 ⟨O7, rfl, h7, s7⟩
                          have A8 := Lib.hid (A6.out.step h7 s7)
                          have d1 := (s7.chg.cell hlt6 hno 0).trans d1
                          have d2 := (s7.chg.cell hlt6 hno 1).trans d2
                          have hv1 := A8.out.hb.cell n
                          rw [barr_at _ _ (by omega), hadd] at hv1
                          have hfz := A8.out.hb.frozen n
                          clear HM h7 s7 A6 hadd hno hlt6
                          go_wp2_with fail
                          go_roundw
                          case rel => exact ⟨k + 1, O7, m.put n 0, setB H n false, W, HK.out, by go_num, A8.out.hset L n false (by have := HNB.out; omega), AR.out.free H1.out⟩
                          case measure => have := HK.out; simp [intOf]; omega
                  · by_cases hkd4 : kd = 4
                    · subst hkd4
                      by_cases hn0 : nn < 0
                      · go_wp2_with fail
                        go_roundw
                        case rel => exact ⟨k + 1, O, m, H, W, HK.out, by go_num, A6.out, AR.out⟩
                        case measure => have := HK.out; simp [intOf]; omega
                      · by_cases hn1 : 1024 ≤ nn
                        · go_wp2_with fail
                          go_roundw
                          case rel => exact ⟨k + 1, O, m, H, W, HK.out, by go_num, A6.out, AR.out⟩
                          case measure => have := HK.out; simp [intOf]; omega
                        · obtain ⟨n, rfl⟩ := Int.eq_ofNat_of_zero_le (show 0 ≤ nn by omega)
                          have hnb : (n : Int) < 1024 := by omega
                          have HNB := Lib.hid (show n < 1024 by omega)
                          have ht := L.later (n : Int) HI.out.2 A6.out.has.at_
                          have hadd := AR.out.had n (by omega)
                          have hwts := AR.out.wts n (by omega)
                          rcases turn_cases m (n : Int) 1 2 with ⟨e1, e2, h1⟩ | ⟨n', he, h1, e1, e2⟩
                          · have h1 := h1 n rfl
                            rw [e1, e2] at ht
                            rw [h1] at hadd
                            have HM := Lib.hid ht
                            have H1 := Lib.hid h1
                            have HADD := Lib.hid hadd
                            clear ht e1 e2 h1
                            go_wp2_with fail
                            refine Calls.mono HM.out ?_
                            rintro e w7 ⟨O7, rfl, h7, s7⟩
                            have A8 := Lib.hid (A6.out.step h7 s7)
                            have d1 := (s7.chg.cell hlt6 hno 0).trans d1
                            have d2 := (s7.chg.cell hlt6 hno 1).trans d2
                            have hv1 := A8.out.hb.cell n
                            rw [barr_at _ _ (by omega), hadd] at hv1
                            have hv2 := A8.out.wb.cell n
                            rw [barr_at _ _ (by omega)] at hv2
                            have hfz := A8.out.wb.frozen n
                            clear HM h7 s7 A6 hadd hwts hno hlt6
                            go_upto_region 31 with fail
                            have hn4 : (n : Int) < 4096 := by omega
                            have hn0' : (0 : Int) ≤ (n : Int) := by omega
                            have hidx : ((n : Int) < 0 ∨ (4096 : Int) ≤ n) = False := by simp; omega
                            obtain ⟨bb, hbb⟩ : ∃ bb, bb = W (n : Int) := ⟨_, rfl⟩
                            rw [← hbb] at hv2
                            have HBB := Lib.hid hbb
                            clear hbb
                            cases bb with
                            | false =>
                              go_region_with (fail)
                              all_goals
                                have A9 := Lib.hid ((A8.out.wset L n false (by have := HNB.out; omega)).far L (Below.refl _ _).drew)
                                have d2' : (w7.setCell ⟨gw, n, none⟩ (.bool false)).drew.cell? ⟨g6, 1, none⟩ = some (.int .i64 (n : Int)) := (World.cell?_setCell_far w7 ⟨gw, n, none⟩ ⟨g6, 1, none⟩ (.bool false) (Ne.symm hgw)).trans d2
                                have hv1' := A9.out.hb.cell n
                                rw [barr_at _ _ (by have := HNB.out; omega), HADD.out] at hv1'
                                have hfz' := A9.out.hb.frozen n
                                clear hv1 hv2 hfz d1 d2 A8
                                generalize (w7.setCell ⟨gw, n, none⟩ (.bool false)).drew = w8 at *
                                go_wp2_with fail
                                go_roundw
                                case rel => exact ⟨k + 1, O7, m, setB H n false, setB W n false, HK.out, by go_num, A9.out.hset L n false (by have := HNB.out; omega), AR.out.keep H1.out false fun _ => HBB.out⟩
                                case measure => have := HK.out; simp [intOf]; omega
                            | true =>
                              have A9 := Lib.hid ((A8.out.wset L n true (by have := HNB.out; omega)).far L (Below.refl _ _).drew)
                              have d2' : (w7.setCell ⟨gw, n, none⟩ (.bool true)).drew.cell? ⟨g6, 1, none⟩ = some (.int .i64 (n : Int)) := (World.cell?_setCell_far w7 ⟨gw, n, none⟩ ⟨g6, 1, none⟩ (.bool true) (Ne.symm hgw)).trans d2
                              have hvw' := A9.out.wb.cell n
                              rw [barr_at _ _ (by have := HNB.out; omega), setB_nat, if_pos rfl] at hvw'
                              have hfw' := A9.out.wb.frozen n
                              have HNEW := Lib.hid (And.intro d2' (And.intro hvw' hfw'))
                              clear d2' hvw' hfw'
                              go_wp2_with fail
                              refine wp_region_held_drew (S := (fun w' => w'.cell? ⟨g6, 1, none⟩ = some (.int .i64 (n : Int)) ∧ w'.cell? ⟨gw, n, none⟩ = some (.bool true) ∧ w'.frozen? ⟨gw, n, none⟩ = false)) (by kernel_rfl) ⟨d2, hv2, hfz⟩ (fun hHeld => ?_)
                              refine wpAnyH_take (i := 0) (v := (.pointer (some ⟨g6, 1, none⟩))) rfl (by kernel_rfl) (by kernel_rfl) (by kernel_rfl) (fun _ _ _ h => h) (Or.inl ⟨by rfl, ?_⟩) (by assumption) ?_
                              · intro w' hS; go_simp; try with_reducible rfl
                              try simp [Act.put]
                              refine wpAnyH_take (i := 1) (v := (.int .i64 (n : Int))) rfl (by kernel_rfl) (by kernel_rfl) (by kernel_rfl) (fun _ _ _ h => h) (Or.inl ⟨by rfl, ?_⟩) (by assumption) ?_
                              · intro w' hS
                                obtain ⟨s1, s2, s3⟩ := hS
                                go_simp; try with_reducible rfl
                              try simp [Act.put]
                              refine wpAnyH_take (i := 2) (v := (.pointer (some ⟨g6, 1, none⟩))) rfl (by kernel_rfl) (by kernel_rfl) (by kernel_rfl) (fun _ _ _ h => h) (Or.inl ⟨by rfl, ?_⟩) (by assumption) ?_
                              · intro w' hS; go_simp; try with_reducible rfl
                              try simp [Act.put]
                              refine wpAnyH_take (i := 3) (v := (.int .i64 (n : Int))) rfl (by kernel_rfl) (by kernel_rfl) (by kernel_rfl) (fun _ _ _ h => h) (Or.inl ⟨by rfl, ?_⟩) (by assumption) ?_
                              · intro w' hS
                                obtain ⟨s1, s2, s3⟩ := hS
                                go_simp; try with_reducible rfl
                              try simp [Act.put]
                              refine wpAnyH_take (i := 4) (v := (.pointer (some ⟨gw, n, none⟩))) rfl (by kernel_rfl) (by kernel_rfl) (by kernel_rfl) (fun _ _ _ h => h) (Or.inl ⟨by rfl, ?_⟩) (by assumption) ?_
                              · intro w' hS; go_simp; try with_reducible rfl
                              try simp [Act.put]
                              refine wpAnyH_take (i := 5) (v := (.bool true)) rfl (by kernel_rfl) (by kernel_rfl) (by kernel_rfl) (fun _ _ _ h => h) (Or.inl ⟨by rfl, ?_⟩) (by assumption) ?_
                              · intro w' hS
                                obtain ⟨s1, s2, s3⟩ := hS
                                go_simp; try with_reducible rfl
                              try simp [Act.put]
                              refine wpAnyH_take (i := 6) (v := (.bool true)) rfl (by kernel_rfl) (by kernel_rfl) (by kernel_rfl) (fun _ _ _ h => h) (Or.inl ⟨by rfl, ?_⟩) (by assumption) ?_
                              · intro w' hS; go_simp; try with_reducible rfl
                              try simp [Act.put]
                              refine wpAnyH_take (i := 7) (v := undef) rfl (by kernel_rfl) (by kernel_rfl) (by kernel_rfl) (fun _ _ _ h => h) (Or.inr ⟨by rfl, rfl⟩) (by assumption) ?_
                              try simp [Act.put]
                              refine wpAnyH_take (i := 8) (v := undef) rfl (by kernel_rfl) (by kernel_rfl) (by kernel_rfl) (fun _ _ _ h => h) (Or.inr ⟨by rfl, rfl⟩) (by assumption) ?_
                              try simp [Act.put]
                              refine wpAnyH_take (i := 9) (v := (.bool true)) rfl (by kernel_rfl) (by kernel_rfl) (by kernel_rfl) (fun _ _ _ h => h) (Or.inl ⟨by rfl, ?_⟩) (by assumption) ?_
                              · intro w' hS; go_simp; try with_reducible rfl
                              try simp [Act.put]
                              refine wpAnyH_take (i := 10) (v := (.pointer (some ⟨gw, n, none⟩))) rfl (by kernel_rfl) (by kernel_rfl) (by kernel_rfl) (fun _ _ _ h => h) (Or.inl ⟨by rfl, ?_⟩) (by assumption) ?_
                              · intro w' hS; go_simp; try with_reducible rfl
                              try simp [Act.put]
                              refine wpAnyH_ready (rs := [11]) (by kernel_rfl) (by simp) ?_
                              refine AllReadyH.cons rfl (fun K hK => ?_) AllReadyH.nil
                              go_simp
                              refine hK.out _ _ HNEW.out (fun hHeld2 => ?_)
                              clear hK K hHeld
                              try simp
                              clear hHeld2
                              refine wpAnyH_done (by kernel_rfl) ?_ _
                              have d2' := HNEW.out.1
                              have hv1' := A9.out.hb.cell n
                              rw [barr_at _ _ (by have := HNB.out; omega), HADD.out] at hv1'
                              have hfz' := A9.out.hb.frozen n
                              clear hv1 hv2 hfz d1 d2 A8 HNEW
                              generalize (w7.setCell ⟨gw, n, none⟩ (.bool true)).drew = w8 at *
                              go_wp2_with fail
                              go_roundw
                              case rel => exact ⟨k + 1, O7, m, setB H n false, setB W n true, HK.out, by go_num, A9.out.hset L n false (by have := HNB.out; omega), AR.out.keep H1.out true fun _ => HBB.out⟩
                              case measure => have := HK.out; simp [intOf]; omega
                          · obtain rfl : n = n' := by omega
                            rw [e1, e2] at ht
                            rw [h1] at hadd
                            have h2 : m.is 2 n = false := by unfold Mp.is; rw [(Mp.is_iff.1 h1).2.2]; simp
                            rw [h2] at hwts
                            have HM := Lib.hid ht
                            have H1 := Lib.hid h1
                            have HADD := Lib.hid hadd
                            clear ht e1 e2 h1 h2
                            go_wp2_with fail
                            refine Calls.mono HM.out ?_
                            rintro e w7 ⟨O7, rfl, h7, s7⟩
                            have A8 := Lib.hid (A6.out.step h7 s7)
                            have d1 := (s7.chg.cell hlt6 hno 0).trans d1
                            have d2 := (s7.chg.cell hlt6 hno 1).trans d2
                            have hv1 := A8.out.hb.cell n
                            rw [barr_at _ _ (by omega), hadd] at hv1
                            have hv2 := A8.out.wb.cell n
                            rw [barr_at _ _ (by omega), hwts] at hv2
                            have hfz := A8.out.wb.frozen n
                            clear HM h7 s7 A6 hadd hno hlt6
                            go_upto_region 31 with fail
                            have hn4 : (n : Int) < 4096 := by omega
                            have hn0' : (0 : Int) ≤ (n : Int) := by omega
                            have hidx : ((n : Int) < 0 ∨ (4096 : Int) ≤ n) = False := by simp; omega
                            go_region_with (fail)
                            all_goals
                              have A9 := Lib.hid ((A8.out.wset L n true (by have := HNB.out; omega)).far L (Below.refl _ _).drew)
                              have d2' : (w7.setCell ⟨gw, n, none⟩ (.bool true)).drew.cell? ⟨g6, 1, none⟩ = some (.int .i64 (n : Int)) := (World.cell?_setCell_far w7 ⟨gw, n, none⟩ ⟨g6, 1, none⟩ (.bool true) (Ne.symm hgw)).trans d2
                              have hv1' := A9.out.hb.cell n
                              rw [barr_at _ _ (by have := HNB.out; omega), HADD.out] at hv1'
                              have hfz' := A9.out.hb.frozen n
                              clear hv1 hv2 hfz d1 d2 A8
                              generalize (w7.setCell ⟨gw, n, none⟩ (.bool true)).drew = w8 at *
                              go_wp2_with fail
                              go_roundw
                              case rel => exact ⟨k + 1, O7, m.put n 2, setB H n false, setB W n true, HK.out, by go_num, A9.out.hset L n false (by have := HNB.out; omega), AR.out.later H1.out⟩
                              case measure => have := HK.out; simp [intOf]; omega
                    · by_cases hkd5 : kd = 5
                      · subst hkd5
                        have HM := Lib.hid (L.commit A6.out.has.at_)
                        go_wp2_with fail
                        refine Calls.mono HM.out ?_
                        rintro e w7 ⟨O7, rfl, h7, s7⟩
                        have A8 := Lib.hid (A6.out.step h7 s7)
                        clear HM h7 s7 A6 hno hlt6 d1 d2
                        go_wp2_with (first
                          | (refine wpList_val (by rfl) (.agg (barr noB)) (ex_arr rfl) ?_)
                          | ((with_reducible refine st_arr2 rfl _ _ rfl gw W noB rfl rfl A8.out.wb ?_); intro w8 hbl8 hc8; have A9 := Lib.hid (A8.out.wts L hc8 hbl8); clear hbl8 hc8))
                        go_roundw
                        case rel => exact ⟨k + 1, O7, m.commit, H, noB, HK.out, by go_num, A9.out, AR.out.commit⟩
                        case measure => have := HK.out; simp [intOf]; omega
                      · have b0 : (kd == 0) = false := beq_eq_false_iff_ne.2 hkd
                        have b1 : (kd == 1) = false := beq_eq_false_iff_ne.2 hkd1
                        have b2 : (kd == 2) = false := beq_eq_false_iff_ne.2 hkd2
                        have b3 : (kd == 3) = false := beq_eq_false_iff_ne.2 hkd3
                        have b4 : (kd == 4) = false := beq_eq_false_iff_ne.2 hkd4
                        have b5 : (kd == 5) = false := beq_eq_false_iff_ne.2 hkd5
                        clear hkd hkd1 hkd2 hkd3 hkd4 hkd5
                        go_wp2_with fail
                        go_roundw
                        case rel => exact ⟨k + 1, O, m, H, W, HK.out, by go_num, A6.out, AR.out⟩
                        case measure => have := HK.out; simp [intOf]; omega
          · obtain rfl : k = l1.length := by omega
            clear hk hlt
            have hH : canon H = canon (stS m 1) := canon_congr fun n h0 h1 => by
              obtain ⟨j, rfl⟩ := Int.eq_ofNat_of_zero_le h0
              rw [AR.out.had j (by omega), stS_nat]
            have hW : canon W = canon (stS m 2) := canon_congr fun n h0 h1 => by
              obtain ⟨j, rfl⟩ := Int.eq_ofNat_of_zero_le h0
              rw [AR.out.wts j (by omega), stS_nat]
            have hsm := L.small AI.out.has.at_
            have hpa := parts_all hsm.2 hsm.1 (by rw [AR.out.tot]; omega)
            rw [AR.out.tot, ← numsTo_cnt (canon_right (stS m 1)) , ← numsTo_cnt (canon_right (stS m 2))] at hpa
            have HS1 := Lib.hid (set_slice H)
            have HS2 := Lib.hid (set_slice W)
            rw [hH] at HS1
            rw [hW] at HS2
            have HPA := Lib.hid hpa
            have HFT := Lib.hid (L.foot AI.out.has.at_)
            clear hH hW hsm hpa
            go_wp2_with fail
            refine wp_region_held_drew (S := (fun w' => Blk w' gh 29 (barr H) ∧ Blk w' gw 29 (barr W) ∧ Below wr.heap.size wr w')) (by kernel_rfl) ⟨AI.out.hb, AI.out.wb, (Below.refl _ _).drew⟩ (fun hHeld => ?_)
            refine wpAnyH_take (i := 0) (v := (.agg (barr H))) rfl (by kernel_rfl) (by kernel_rfl) (by kernel_rfl) (fun _ _ _ h => h) (Or.inl ⟨by rfl, ?_⟩) (by assumption) ?_
            · intro w' hS
              exact ex_ldRow (.tmp 6) rfl gh _ rfl (sizeArr' H) hS.1
            try simp [Act.put]
            refine wpAnyH_take (i := 2) (v := (.agg (barr W))) rfl (by kernel_rfl) (by kernel_rfl) (by kernel_rfl) (fun _ _ _ h => h) (Or.inl ⟨by rfl, ?_⟩) (by assumption) ?_
            · intro w' hS
              exact ex_ldRow (.tmp 7) rfl gw _ rfl (sizeArr' W) hS.2.1
            try simp [Act.put]
            refine wpAnyH_ready (rs := [1]) (by kernel_rfl) (by simp) ?_
            refine AllReadyH.cons rfl (fun K hK => ?_) AllReadyH.nil
            go_simp
            refine Calls.mono (HS1.out _) ?_
            rintro e wa ⟨B1, q1, rfl, r1, hb1⟩
            have R1 := Lib.hid (show RdA wa O B1 (spc (canon (stS m 1))) from ⟨r1.rd, fun b off e hn ho => by have := r1.fresh b off e hn; have := HFT.out _ ho; have := hHeld.2.2.size; omega⟩)
            refine hK.out _ _ ((⟨hHeld.1.below hb1 hHeld.1.lt, hHeld.2.1.below hb1 hHeld.2.1.lt, hHeld.2.2.trans (hb1.mono hHeld.2.2.size)⟩ : Blk wa gh 29 (barr H) ∧ Blk wa gw 29 (barr W) ∧ Below wr.heap.size wr wa)) (fun hHeld2 => ?_)
            clear hK K
            try simp
            clear hHeld
            have hHeld := hHeld2
            clear hHeld2
            refine wpAnyH_ready (rs := [3]) (by kernel_rfl) (by simp) ?_
            refine AllReadyH.cons rfl (fun K hK => ?_) AllReadyH.nil
            go_simp
            refine Calls.mono (HS2.out _) ?_
            rintro e wb ⟨B2, q2, rfl, r2, hb2⟩
            have R2 := Lib.hid (show RdA wb O B2 (spc (canon (stS m 2))) from ⟨r2.rd, fun b off e hn ho => by have := r2.fresh b off e hn; have := HFT.out _ ho; have := hHeld.2.2.size; omega⟩)
            have R1 := Lib.hid (R1.out.far hb2)
            refine hK.out _ _ ((⟨hHeld.1.below hb2 hHeld.1.lt, hHeld.2.1.below hb2 hHeld.2.1.lt, hHeld.2.2.trans (hb2.mono hHeld.2.2.size)⟩ : Blk wb gh 29 (barr H) ∧ Blk wb gw 29 (barr W) ∧ Below wr.heap.size wr wb)) (fun hHeld2 => ?_)
            clear hK K
            try simp
            clear hHeld
            have hHeld := hHeld2
            clear hHeld2
            refine wpAnyH_take (i := 4) (v := (.slice B1 (canon (stS m 1)).length q1)) rfl (by kernel_rfl) (by kernel_rfl) (by kernel_rfl) (fun _ _ _ h => h) (Or.inl ⟨by rfl, ?_⟩) (by assumption) ?_
            · intro w' hS; go_simp; try with_reducible rfl
            try simp [Act.put]
            refine wpAnyH_take (i := 5) (v := (.slice B2 (canon (stS m 2)).length q2)) rfl (by kernel_rfl) (by kernel_rfl) (by kernel_rfl) (fun _ _ _ h => h) (Or.inl ⟨by rfl, ?_⟩) (by assumption) ?_
            · intro w' hS; go_simp; try with_reducible rfl
            try simp [Act.put]
            refine wpAnyH_done (by kernel_rfl) ?_ _
            have M := Lib.hid (AI.out.has.far L hHeld.2.2)
            clear hHeld hb1 hb2 HS1 HS2 AI HFT r1 r2
            have HK := Lib.hid (L.taken M.out.at_)
            go_wp2_with fail
            refine Calls.mono HK.out ?_
            rintro e wc ⟨Oc, Ac, qc, rfl, hc, rc, sc⟩
            have hk := same_self rc.rd (R1.out.step sc).rd (by have := len_le (canon_right (stS m 1)); omega)
            have R1 := Lib.hid (R1.out.step sc)
            have R2 := Lib.hid (R2.out.step sc)
            have M := Lib.hid (M.out.step hc sc)
            have HQ := Lib.hid hk
            clear HK hk hc rc sc
            go_wp2_with fail
            refine Calls.mono (HQ.out _ _) ?_
            rintro e wd ⟨rfl, hbd'⟩
            have R1 := Lib.hid (R1.out.far hbd')
            have R2 := Lib.hid (R2.out.far hbd')
            have M := Lib.hid (M.out.far L hbd')
            have HK := Lib.hid (L.waiting M.out.at_)
            clear HQ hbd'
            go_wp2_with fail
            refine Calls.mono HK.out ?_
            rintro e we ⟨Oe, Ae, qe, rfl, he, re, se⟩
            have hk := same_self re.rd (R2.out.step se).rd (by have := len_le (canon_right (stS m 2)); omega)
            have R1 := Lib.hid (R1.out.step se)
            have R2 := Lib.hid (R2.out.step se)
            have M := Lib.hid (M.out.step he se)
            have HQ := Lib.hid hk
            clear HK hk he re se
            go_wp2_with fail
            refine Calls.mono (HQ.out _ _) ?_
            rintro e wf ⟨rfl, hbf⟩
            have R1 := Lib.hid (R1.out.far hbf)
            have R2 := Lib.hid (R2.out.far hbf)
            have M := Lib.hid (M.out.far L hbf)
            have HK := Lib.hid (list_slice q1 R1.out.rd (canon_right _))
            have hn1 := numsTo_len (memF (canon (stS m 1))) 4096
            have hn2 := numsTo_len (memF (canon (stS m 2))) 4096
            obtain ⟨na, hna⟩ : ∃ na, na = (numsTo (memF (canon (stS m 1))) 4096).length := ⟨_, rfl⟩
            obtain ⟨nb, hnb⟩ : ∃ nb, nb = (numsTo (memF (canon (stS m 2))) 4096).length := ⟨_, rfl⟩
            rw [← hna] at HK HPA hn1
            rw [← hnb] at HPA hn2
            have HNB := Lib.hid hnb
            have hna1 : (na : Int) ≤ 4096 := by omega
            have hnb1 : (nb : Int) ≤ 4096 := by omega
            clear HQ hbf hn1 hn2 hna hnb
            go_wp2_with fail
            refine Calls.mono HK.out ?_
            rintro e wg ⟨Bg, qg, rfl, hbg⟩
            have R2 := Lib.hid (R2.out.far hbg)
            have M := Lib.hid (M.out.far L hbg)
            have hk := list_slice q2 R2.out.rd (canon_right _)
            rw [← HNB.out] at hk
            have HK := Lib.hid hk
            clear hk hbg
            go_wp2_with fail
            refine Calls.mono HK.out ?_
            rintro e wh ⟨Bh, qh, rfl, hbh⟩
            have M := Lib.hid (M.out.far L hbh)
            have HK := Lib.hid (L.count M.out.at_)
            have hcb : (m.count : Int) ≤ 1024 := by have := count_le m; omega
            have hfin : ((na : Int) + nb + m.count == (t : Int) - 4) = true := by rw [beq_iff_eq]; have := HPA.out; omega
            clear hbh
            generalize m.count = cc at *
            go_wp2_with fail
            refine Calls.mono HK.out ?_
            rintro e wi ⟨Oi, rfl, hi, si⟩
            go_wp2_with fail
            go_ret
            exact ⟨by simp, (M.out.step hi si).below⟩
  · have h1i : (200 : Int) < l1.length := by omega
    clear h1 hz hbd
    go_wp2_with fail
    go_ret
    exact ⟨rfl, m2.below⟩
end
end Go.Proofs.Ytfkffkocknbjfaa
