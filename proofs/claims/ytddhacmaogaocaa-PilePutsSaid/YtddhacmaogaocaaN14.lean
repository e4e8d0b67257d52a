
/- A map's calls walked: Copy, Taken, Waiting. -/
import Derived.Test.YtddhacmaogaocaaN12
set_option maxRecDepth 10000
set_option maxRecDepth 10000
namespace Go.Proofs.Ytddhacmaogaocaa
open Go.RowKit

/-- A whole map is loaded, stored; its array is loaded. -/
theorem ld_map {ops : Array Oper} {rest : List Oper} {o : Oper} {a : Act} {w : World} {Q : Exit → Act → World → Prop} (hgd : o.guard = none) (x : Operand) (ho : o.op = .load 76 x)
    (g : Nat) (f : Nat → Nat) (hx : a.eval x = .pointer (some ⟨g, 0, none⟩)) (hg : Blk w g 76 (narr f))
    (h : wpList Try.prog ops Q rest (a.put o.dst (.agg (narr f))) w) : wpList Try.prog ops Q (o :: rest) a w :=
  wpList_load_row hgd _ x ho g hx 76 (narr f) (0, 0) _ hg Try.underlying76 rfl (sizeMap' f) h
theorem ld_is {ops : Array Oper} {rest : List Oper} {o : Oper} {a : Act} {w : World} {Q : Exit → Act → World → Prop} (hgd : o.guard = none) (x : Operand) (ho : o.op = .load 74 x)
    (g : Nat) (f : Nat → Nat) (hx : a.eval x = .pointer (some ⟨g, 0, none⟩)) (hg : Blk w g 76 (narr f))
    (h : wpList Try.prog ops Q rest (a.put o.dst (.agg (narr f))) w) : wpList Try.prog ops Q (o :: rest) a w :=
  wpList_load_row hgd _ x ho g hx 76 (narr f) (0, 0) _ hg Try.underlying74 rfl (sizeIs' f) h
theorem st_map {ops : Array Oper} {rest : List Oper} {o : Oper} {a : Act} {w : World} {Q : Exit → Act → World → Prop} (hgd : o.guard = none) (x y : Operand) (ho : o.op = .store 76 x y)
    (g : Nat) (f f' : Nat → Nat) (hx : a.eval x = .pointer (some ⟨g, 0, none⟩)) (hy : a.eval y = .agg (narr f')) (hg : Blk w g 76 (narr f))
    (h : ∀ w', Blk w' g 76 (narr f') → w'.heap.size = w.heap.size → (∀ B, B ≤ g → Below B w w') → wpList Try.prog ops Q rest (a.put o.dst undef) w') : wpList Try.prog ops Q (o :: rest) a w :=
  wpList_store_row hgd _ x y ho g (narr f') hx hy 76 (narr f) hg (sizeMap' f') (by rw [narr_size, narr_size]) (narr_one f')
    (h _ (by unfold Blk at hg ⊢; simp [World.setRow, Array.getElem?_modify, hg]) (by simp) fun B hB => ⟨rfl, rfl, rfl, by simp, fun k hk => by
      simp only [World.setRow, Array.getElem?_modify]
      rw [if_neg (by omega)]⟩)
theorem run_index_arr {P : Program} {T E : TypeId} {n : Nat} (hT : P.underlying T = some (.array n E)) (hE : ∀ w, (isAgg E).run P w = .ok false w) (hs : (P.info? E).map (·.size) = some 1)
    (cs : Array Value) (k : Nat) (hk : k < n) (v : Value) (hv : cs[k]? = some v) (w : World) : (Instr.index T (.agg cs) (.int .i64 (k : Int))).run P w = .ok v w := by
  obtain ⟨i, hi, hz⟩ := Option.map_eq_some_iff.1 hs
  simp [Instr.index, asIntOf, run_underlying hT, hE, part, sizeOf, typeInfo, hi, hz, hk, hv, go_sem]
theorem isAggSt (w : World) : (isAgg 73).run Try.prog w = .ok false w := by
  simp [isAgg, run_underlying Try.underlying73]
theorem run_idx (f : Nat → Nat) (k : Nat) (hk : k < 1024) (w : World) : (Instr.index 74 (.agg (narr f)) (.int .i64 (k : Int))).run Try.prog w = .ok (.int .u8 ((f k : Nat) : Int)) w :=
  run_index_arr Try.underlying74 isAggSt sizeSt (narr f) k hk _ (narr_at f k hk) w
theorem zeroMap' : ∀ w, Sem.run Try.prog (zeroValue 76) w = .ok (.agg (narr fun _ => 0)) w := by rw [← zerosN_eq]; exact zeroMap
section
variable {w : World} {O : Nat → Prop} {g : Nat} {m : Mp}
set_option maxHeartbeats 1000000 in
theorem set0_any (s : Nat) (h : MapAt w O g m) : Calls Try.prog 44 #[.pointer (some ⟨g, 0, none⟩), .int .u8 ((s + 1 : Nat) : Int)] w fun e w' => ∃ A c, e = .returned (.slice A (canon (stS m s)).length c) ∧ RdF w w' O A (spc (canon (stS m s))) ∧ Below w.heap.size w w' := by
  have HH := Lib.hid h
  have hlt := h.blk.lt
  clear h
  obtain ⟨S, hS⟩ : ∃ S, S = stS m s := ⟨_, rfl⟩
  have HSS := Lib.hid hS
  clear hS
  go_enter Try.func44, Try.ntmps44
  go_wp2_with (with_reducible refine ld_is rfl _ rfl g (ncodeF m) rfl HH.out.blk ?_)
  go_loopw [5, 12] (fun v i wr => ∃ (k : Nat), k ≤ 1024 ∧ i = .int .i64 k ∧ OwnI wr w.heap.size v (numsTo S k) ∧ Below w.heap.size w wr) (fun _ i _ => 1024 - (intOf i).toNat)
  case atStart => exact ⟨0, by omega, rfl, World.ownsRow_nil _ _ _ _, Below.refl _ _⟩
  case round =>
    obtain ⟨k, hk, rfl, hown, hb⟩ := hrel
    have hsz := hb.size
    by_cases hlt : k < 1024
    · have hcell := run_idx (ncodeF m) k hlt
      have hlen := numsTo_len S k
      have hst : numsTo S (k + 1) = if S k then numsTo S k ++ [(k : Int)] else numsTo S k := rfl
      have hlt' : (k : Int) < 1024 := by omega
      have HL : Hid ((numsTo S k).length ≤ 1048576) := Nat.le_trans hlen (by omega)
      have HK := Lib.hid (And.intro hk hlt); clear hk hlt hlen
      have HO := Lib.hid hown; clear hown
      have hcd := codeF_is (m := m) (i := k) (s := s)
      rw [← stS_nat, ← HSS.out] at hcd
      generalize ncodeF m k = x at hcell hcd
      by_cases hx : x = s + 1
      · rw [if_pos (hcd.1 hx)] at hst
        have HS := Lib.hid hst
        have HC := Lib.hid hcd
        subst hx
        clear hst hcd
        go_wp2_with (at_builtin; refine app_int rfl 19 21 rfl w.heap.size _ (numsTo S k) rfl HO.out k rfl hsz HL.out ?_; intro v' w' hown' hgr)
        go_roundw
        case rel => exact ⟨k + 1, HK.out.2, by go_num, by rw [HS.out]; exact hown', below_own (hb.alloc hsz _) (World.ownsRow.alloc HO.out _) (Nat.le_refl _) (by simp; omega) hgr⟩
        case measure => simp [intOf]; have := HK.out; omega
      · rw [if_neg (fun e => hx (hcd.2 e))] at hst
        have HS := Lib.hid hst; clear hst hcd
        have hne : ((x : Int) == ((s + 1 : Nat) : Int)) = false := by rw [beq_eq_false_iff_ne]; omega
        clear hx
        go_wp2_with fail
        go_roundw
        case rel => exact ⟨k + 1, HK.out.2, by go_num, by rw [HS.out]; exact HO.out, hb⟩
        case measure => simp [intOf]; have := HK.out; omega
    · obtain rfl : k = 1024 := by omega
      have HO := Lib.hid hown; clear hown
      obtain ⟨A, c, rfl, hr, _⟩ := own_rd HO.out
      have HOf := Lib.hid (of_any A c (numsTo S 1024) wr hr (Nat.le_trans (numsTo_len S 1024) (by omega)))
      go_wp2_with fail
      refine Calls.mono HOf.out ?_
      rintro e w1 ⟨v1, rfl, ho1, hb1⟩
      go_wp2_with fail
      go_ret
      have hcan : canon (inI (numsTo S 1024)) = canon (stS m s) := canon_congr fun n h0 h1 => by
        rw [← HSS.out, Bool.eq_iff_iff]
        unfold inI
        rw [decide_eq_true_iff, mem_numsTo]
        constructor
        · exact fun h => h.2.2
        · intro h
          refine ⟨h0, ?_, h⟩
          rw [HSS.out, stS_iff, Mp.is_iff] at h
          have := HH.out.tot
          omega
      rw [hcan] at ho1
      obtain ⟨A2, c2, rfl, hr2, _⟩ := own_slice ho1
      refine ⟨A2, c2, rfl, ⟨⟨hr2, fun b off e hn ho => ?_⟩, fun b off e hn => ?_⟩, hb.trans (hb1.mono hb.size)⟩
      all_goals
        rw [spc_len] at hn
        obtain ⟨g2, cap2, e2, hN, _⟩ := own_form ho1 (by simp; omega)
        rw [e] at e2
        simp only [Value.slice.injEq, Option.some.injEq, Addr.mk.injEq] at e2
      · have := (HH.out.own b).1 ho
        have := hb.size
        omega
      · have := hb.size
        omega
theorem taken_any (h : MapAt w O g m) : Calls Try.prog 35 #[.pointer (some ⟨g, 0, none⟩)] w fun e w' => ∃ A c, e = .returned (.slice A (canon (stS m 1)).length c) ∧ RdF w w' O A (spc (canon (stS m 1))) ∧ Below w.heap.size w w' := by
  have HT : Hid (Calls Try.prog 44 #[.pointer (some ⟨g, 0, none⟩), .int .u8 2] w fun e w' => ∃ A c, e = .returned (.slice A (canon (stS m 1)).length c) ∧ RdF w w' O A (spc (canon (stS m 1))) ∧ Below w.heap.size w w') := Lib.hid (set0_any 1 h)
  go_enter Try.func35, Try.ntmps35
  go_wp2_with fail
  refine Calls.mono HT.out ?_
  rintro e w1 ⟨A, c, rfl, h1, hb⟩
  go_wp2_with fail
  go_ret
  exact ⟨A, c, rfl, h1, hb⟩
end
end Go.Proofs.Ytddhacmaogaocaa
