
/- Walks: Write. -/
import Derived.Test.YtddhacmaogaocaaV6
import Derived.Deep.RegionHeld3
set_option maxRecDepth 10000
namespace Go.Proofs.Ytddhacmaogaocaa
open Go.RowKit
/-- A sector is loaded in a region that draws its order and ends in what writes. -/
theorem still_ld {ops : Array Oper} {rest : List Oper} {o : Oper} {a : Act} {w : World} {Q : Act → Prop} (hgd : o.guard = none) (x : Operand) (ho : o.op = .load 23 x)
    (b k : Nat) (s : Sec) (hx : a.eval x = .pointer (some ⟨b, k, none⟩)) (hr : w.rangeAt b k s.cs)
    (h : wpStill Try.prog ops w Q rest (a.put o.dst (.agg s.cs.toArray))) : wpStill Try.prog ops w Q (o :: rest) a := by
  refine wpStill_step fun K hK => ?_
  have hw : Region.wanted o (yielded ops a.tmps) = true := by simp [Region.wanted, hgd]
  rw [if_pos hw]
  unfold Oper.still execOp
  simp only [ho, hx, run_loadAt_mid w b k _ s.cs _ hr Try.underlying23 rfl (sizeSec' s), Sem.run_bind, Sem.run_pure, Result.andThen_ok]
  exact ⟨rfl, hK _ h⟩
/-! ### Steps of a region that draws its order, one by one -/
theorem step_val {P : Program} {ops : Array Oper} {o : Oper} {a : Act} {w w' : World} {K : Act → World → Prop} {Q : Exit → Act → World → Prop} {E : Prop} (hgd : o.guard = none) (v : Value)
    (hrun : (execOp a.eval o).run P w = .ok (.value v) w') (h : K (a.put o.dst v) w') : if Region.wanted o (yielded ops a.tmps) = true then Oper.wp P o a w K Q else E := by
  have hw : Region.wanted o (yielded ops a.tmps) = true := by simp [Region.wanted, hgd]
  rw [if_pos hw]
  unfold Oper.wp
  rw [hrun]
  exact h
theorem step_skip {P : Program} {ops : Array Oper} {o : Oper} {a : Act} {w w' : World} {K : Act → World → Prop} {Q : Exit → Act → World → Prop} {E : Prop} (hgd : o.guard = none)
    (hrun : (execOp a.eval o).run P w = .ok .skip w') (h : K (a.put o.dst undef) w') : if Region.wanted o (yielded ops a.tmps) = true then Oper.wp P o a w K Q else E := by
  have hw : Region.wanted o (yielded ops a.tmps) = true := by simp [Region.wanted, hgd]
  rw [if_pos hw]
  unfold Oper.wp
  rw [hrun]
  exact h
theorem ex_ld {o : Oper} {a : Act} {w : World} (x : Operand) (ho : o.op = .load 23 x) (b k : Nat) (s : Sec) (hx : a.eval x = .pointer (some ⟨b, k, none⟩)) (hr : w.rangeAt b k s.cs) :
    (execOp a.eval o).run Try.prog w = .ok (.value (.agg s.cs.toArray)) w := by
  unfold execOp
  simp only [ho, hx, run_loadAt_mid w b k _ s.cs _ hr Try.underlying23 rfl (sizeSec' s), Sem.run_bind, Sem.run_pure, Result.andThen_ok]
theorem ex_ld1 {P : Program} {o : Oper} {a : Act} {w : World} (ty e : TypeId) (x : Operand) (ho : o.op = .load ty x) (hu : P.underlying ty = some (.slice e)) (b k : Nat) (v : Value) (hx : a.eval x = .pointer (some ⟨b, k, none⟩)) (hr : w.cell? ⟨b, k, none⟩ = some v) :
    (execOp a.eval o).run P w = .ok (.value v) w := by
  have hagg : (isAgg ty).run P w = .ok false w := by
    unfold isAgg
    rw [Sem.run_bind, run_underlying hu w]
    rfl
  unfold execOp
  simp [ho, hx, Instr.loadAt, Instr.sureAddr, loadVar, hagg, hr]
theorem ex_buildW {o : Oper} {a : Act} {w : World} (x y : Operand) (ho : o.op = .build 70 #[(0, x), (1, y)]) (k : Nat) (s : Sec) (hx : a.eval x = .int .i64 (k : Int)) (hy : a.eval y = .agg s.cs.toArray) :
    (execOp a.eval o).run Try.prog w = .ok (.value (.agg (wcs (k, s)).toArray)) w := by
  unfold execOp
  have hb := buildW k s w
  rw [← hx, ← hy] at hb
  simp only [ho, List.map_toArray, List.map_cons, List.map_nil, hb, Sem.run_bind, Sem.run_pure, Result.andThen_ok]
/-- A slice of one element, written out, its cells whatever. -/
theorem run_bsl1 {P : Program} {t e : TypeId} {z : Value} {sz bytes : Nat} (hT : P.underlying t = some (.slice e)) (hinfo : (P.info? e).map (fun i => (i.zero, i.size, i.bytes)) = some (some z, sz, bytes)) (h0 : 0 < sz) (h1 : sz ≤ 16777216)
    (l : List Value) (hl : l.length = sz) (v : Value) (hv : v.cells = l.toArray) (w : World) : (Instr.buildSlice t 1 #[(0, v)]).run P w = .ok (.slice (some ⟨w.heap.size, 0, none⟩) 1 1) (w.alloc (.cells l.toArray e)) := by
  obtain ⟨i, hi, hz, hsz, _⟩ := info_parts hinfo
  have hf : ∀ cs : Array Value, cs.size = sz → Instr.fill (fun i => some (i * sz, sz)) cs [(0, v)] = some l.toArray := by
    intro cs hcs
    have h2 : l.toArray.size = sz := by rw [List.size_toArray, hl]
    unfold Instr.fill
    simp only [hv, h2, hcs, Nat.zero_mul, Nat.zero_add, ne_eq, not_true_eq_false, decide_false, Bool.false_or, Nat.lt_irrefl, gt_iff_lt]
    rw [if_neg (by simp)]
    unfold Instr.fill
    refine congrArg some (Array.ext_getElem? fun k => ?_)
    have e2 : l.toArray.zipIdx.foldl (fun cs (c, j) => cs.setIfInBounds j c) cs = (l.zipIdx 0).foldl (fun cs x => cs.setIfInBounds (0 + x.2) x.1) cs := by
      rw [← Array.foldl_toList, Array.toList_zipIdx]
      simp only [Nat.zero_add]
    have e3 : l.toArray[k]? = l[k]? := List.getElem?_toArray ..
    rw [e2, (foldl_zip 0 l 0 cs (by omega)).2 k, e3]
    by_cases hk : k < l.length
    · rw [if_pos (by omega)]; rfl
    · rw [if_neg (by omega), List.getElem?_eq_none (Nat.le_of_not_lt hk), Array.getElem?_eq_none (by omega)]
  have hne : ¬ sz = 0 := by omega
  have hlt : ¬ 2 ^ 24 < sz := by omega
  have hf' := hf ((Array.range (1 * sz)).map (z.cells[· % z.cells.size]!)) (by simp)
  rw [Nat.one_mul] at hf'
  simp [Instr.buildSlice, run_underlying hT, sizeOf, typeInfo, zeroValue, hi, hz, hsz, hne, hlt, hf', newRow, newObj]
  rfl
theorem ex_bslW {o : Oper} {a : Act} {w : World} (y : Operand) (ho : o.op = .buildSlice 66 1 #[(0, y)]) (p : Nat × Sec) (hy : a.eval y = .agg (wcs p).toArray) :
    (execOp a.eval o).run Try.prog w = .ok (.value (.slice (some ⟨w.heap.size, 0, none⟩) 1 1)) (w.alloc (.cells (wcs p).toArray 70)) := by
  have hb := run_bsl1 Try.underlying66 infoW (by omega) (by omega) (wcs p) (wcs_len p) (.agg (wcs p).toArray) rfl w
  unfold execOp
  simp only [ho, List.map_toArray, List.map_cons, List.map_nil, hy, hb, Sem.run_bind, Sem.run_pure, Result.andThen_ok]
section
variable {w : World} {B n : Nat} {D : Dev} {pv : Value} {s : St}
theorem At.own_gs (h : At w B n D pv s) (k : Nat) (hk : k = D.gs) : k ≠ D.g ∧ k ≠ D.gn ∧ pv.ownBlock ≠ some k := by
  subst hk
  refine ⟨blk_ne h.st h.dev (by decide), h.ne, fun e => ?_⟩
  obtain ⟨cs, hb⟩ := own_blk h.pend e
  exact blk_ne hb h.st (by decide) rfl
theorem At.own_gn (h : At w B n D pv s) (k : Nat) (hk : k = D.gn) : k ≠ D.g ∧ k ≠ D.gs ∧ pv.ownBlock ≠ some k := by
  subst hk
  refine ⟨blk_ne h.nw h.dev (by decide), Ne.symm h.ne, fun e => ?_⟩
  obtain ⟨cs, hb⟩ := own_blk h.pend e
  exact blk_ne hb h.nw (by decide) rfl
theorem At.own_g (h : At w B n D pv s) (k : Nat) (hk : k = D.g) : k ≠ D.gs ∧ k ≠ D.gn ∧ pv.ownBlock ≠ some k := by
  subst hk
  refine ⟨blk_ne h.dev h.st (by decide), blk_ne h.dev h.nw (by decide), fun e => ?_⟩
  obtain ⟨cs, hb⟩ := own_blk h.pend e
  exact blk_ne hb h.dev (by decide) rfl
theorem At.set_nw (h : At w B n D pv s) (k : Nat) (x : Sec) (hk : k < n) : At (w.setCells D.gn (k * 128) x.cs) B n D pv { s with nw := s.nw.set k x } := by
  have hc : Chg w (w.setCells D.gn (k * 128) x.cs) (· = D.gn) := Chg.setCells (O := (· = D.gn)) (.inl rfl) _ _ (Chg.refl _ _)
  obtain ⟨h1, h2, h3⟩ := h.own_gn _ rfl
  exact { h with
    dev := h.dev.chg hc (Ne.symm h1)
    st := h.st.chg hc (Ne.symm h2)
    nw := h.nw.setSec k x (by rw [h.ln]; exact hk)
    pend := own_chg h.pend hc fun g hg e => h3 (e ▸ hg)
    ln := by rw [List.length_set, h.ln] }
theorem At.set_st (h : At w B n D pv s) (k : Nat) (x : Sec) (hk : k < n) : At (w.setCells D.gs (k * 128) x.cs) B n D pv { s with st := s.st.set k x } := by
  have hc : Chg w (w.setCells D.gs (k * 128) x.cs) (· = D.gs) := Chg.setCells (O := (· = D.gs)) (.inl rfl) _ _ (Chg.refl _ _)
  obtain ⟨h1, h2, h3⟩ := h.own_gs _ rfl
  exact { h with
    dev := h.dev.chg hc (Ne.symm h1)
    nw := h.nw.chg hc (Ne.symm h2)
    st := h.st.setSec k x (by rw [h.ls]; exact hk)
    pend := own_chg h.pend hc fun g hg e => h3 (e ▸ hg)
    ls := by rw [List.length_set, h.ls] }
theorem At.drew (h : At w B n D pv s) : At w.drew B n D pv s := h.chg (O := fun _ => False) ((Chg.refl _ _).drew) fun _ _ h => h
theorem Goes.set {w0 w : World} (h : Goes D w0 pv w pv) (g k : Nat) (vs : List Value) (hg : D.own pv g ∨ w0.heap.size ≤ g) : Goes D w0 pv (w.setCells g k vs) pv := ⟨Chg.setCells hg _ _ h.chg, h.row⟩
/-- The pending writes have become another row. -/
theorem At.set_pend {w' : World} {pv' : Value} {ps : List (Nat × Sec)} (h : At w B n D pv s) (hc : Chg w w' (fun k => pv.ownBlock = some k)) (ho : w'.ownsRow B 70 129 pv' ps.length (flatW ps)) (hok : ∀ p ∈ ps, p.1 < n) :
    At (w'.setCell ⟨D.g, 2, none⟩ pv') B n D pv' { s with pend := ps } := by
  have h1 := h.dev.chg hc (h.own_g _ rfl).2.2
  have h2 := h.st.chg hc (h.own_gs _ rfl).2.2
  have h3 := h.nw.chg hc (h.own_gn _ rfl).2.2
  have hs := h1.set_ 2 pv'
  have hc2 := (Chg.refl w' (· = D.g)).setCell (p := ⟨D.g, 2, none⟩) (.inl rfl) pv'
  exact { h with
    dev := hs
    st := h2.chg hc2 (blk_ne h2 h1 (by decide))
    nw := h3.chg hc2 (blk_ne h3 h1 (by decide))
    pend := own_chg ho hc2 fun g hg => by
      obtain ⟨cs, hb⟩ := own_blk ho hg
      exact blk_ne hb h1 (by decide)
    ok := hok }

set_option maxHeartbeats 4000000 in
theorem write_ok (h : At w B n D pv s) (k : Nat) (x : Sec) (hk : k < n) (hp : Hid (s.pend.length ≤ 1000000)) (hd : s.count.refuse.dead = false) :
    Calls Try.prog 36 #[.pointer (some ⟨D.g, 0, none⟩), .int .i64 (k : Int), .agg x.cs.toArray] w fun e w' =>
    ∃ pv', e = .returned (.int .i64 0) ∧ At w' B n D pv' { s.count.refuse with nw := s.nw.set k x, pend := s.pend ++ [(k, x)] } ∧ Goes D w pv w' pv' := by
  have ha := h.alloc (.cells x.cs.toArray 23)
  have hfar := Lib.hid h.new_far
  have HG : ∀ w' pv', Hid (Goes D (w.alloc (.cells x.cs.toArray 23)) pv w' pv' → Goes D w pv w' pv') := fun _ _ g => g.behind
  have HA := Lib.hid ha
  have HS := Lib.hid (refuse_st s.count)
  clear h ha
  have hbl := Lib.hid (Blk.new w 23 x.cs.toArray)
  have HL := Lib.hid (show w.heap.size < (w.alloc (.cells x.cs.toArray 23)).heap.size by simp)
  generalize hg0 : w.heap.size = g0 at *
  go_enter Try.func36, Try.ntmps36
  go_wp2_with fail
  refine (count_any HA.out).mono ?_
  rintro e w1 ⟨rfl, hA1, hG1⟩
  have hb1 := Lib.hid (hbl.out.chg hG1.chg hfar.out)
  have hG2 := Lib.hid ((HG _ _).out hG1)
  have hA := Lib.hid hA1
  clear HA hbl hG1 hA1 HG HL
  go_wp2_with fail
  refine (vhas_any hA.out _).mono ?_
  rintro e w1 ⟨rfl, rfl⟩
  have hh : hasF n (k : Int) = true := by unfold hasF; rw [decide_eq_true_iff]; omega
  rw [hh]
  go_wp2_with fail
  refine (refuses_any hA.out).mono ?_
  rintro e w2 ⟨rfl, hA1, hG1⟩
  rw [hd]
  clear hd
  have hb2 := Lib.hid (hb1.out.chg hG1.chg hfar.out)
  have hG3 := Lib.hid (hG2.out.trans hG1)
  have hA2 := Lib.hid hA1
  clear hA hb1 hG2 hG1 hh hA1
  have hki : (k : Int) < n := by omega
  go_wp2_with fail
  refine wp_region_still_tail 7 (by kernel_rfl) (by kernel_rfl) ?_
  simp only [List.take_succ_cons, List.take_zero, List.drop_succ_cons, List.drop_zero]
  change wpStill _ _ w2.drew _ _ _
  have hA3 : Hid (At w2.drew B n D pv s.count.refuse) := hA2.out.drew
  have hb3 : Hid (Blk w2.drew g0 23 x.cs.toArray) := hb2.out
  have hG4 : Hid (Goes D w pv w2.drew pv) := ⟨hG3.out.chg.drew, hG3.out.row⟩
  clear hA2 hb2 hG3
  change wpStill _ _ _ (fun a' => wpList _ _ _ _ a' w2.drew) _ _
  generalize w2.drew = w3 at *
  obtain ⟨_, h1, _⟩ := hA3.out.fields
  have hr3 := Lib.hid hb3.out.secIs
  have ht3 := Lib.hid (hA3.out.nw.secThere k (by rw [hA3.out.ln]; exact hk))
  iterate 5 still_step
  with_reducible refine still_ld rfl _ rfl g0 0 x rfl hr3.out ?_
  still_step
  refine wpStill_nil ?_
  go_wp2_with (with_reducible refine st_sec rfl _ _ rfl D.gn (k * 128) x rfl rfl ht3.out ?_; intro w4 hw4)
  have hA4 := Lib.hid (hA3.out.set_nw k x hk)
  have hG5 := Lib.hid (hG4.out.set D.gn (k * 128) x.cs (.inl (.inr (.inr (.inl rfl)))))
  have hb4 : Hid (Blk (w3.setCells D.gn (k * 128) x.cs) g0 23 x.cs.toArray) := hb3.out.chg (Chg.setCells (O := (· = D.gn)) (.inl rfl) _ _ (Chg.refl _ _)) fun e => hfar.out (e ▸ .inr (.inr (.inl rfl)))
  rw [← hw4.out] at hA4 hG5 hb4
  clear hw4 hA3 hb3 hG4 hr3 ht3 h1
  have hi5 := info_parts infoW
  obtain ⟨i0, hi0, hz0, hz1, hz2⟩ := hi5
  have hzs : Hid ((Value.agg (wcs (0, zsec)).toArray).cells.size = 129) := by
    show (wcs (0, zsec)).toArray.size = 129
    rw [List.size_toArray, wcs_len]
  refine wp_region_any (by kernel_rfl) ?_
  change wpAny _ _ _ _ _ _ _ (World.drew w4)
  have hA5 : Hid (At w4.drew B n D pv { s.count.refuse with nw := s.nw.set k x }) := by
    have h := hA4.out.drew
    rw [HS.out.2.1] at h
    exact h
  have hb5 : Hid (Blk w4.drew g0 23 x.cs.toArray) := hb4.out
  have hG6 : Hid (Goes D w pv w4.drew pv) := ⟨hG5.out.chg.drew, hG5.out.row⟩
  clear hA4 hb4 hG5
  generalize w4.drew = w5 at *
  have hr5 := Lib.hid hb5.out.secIs
  obtain ⟨_, _, h2, _⟩ := hA5.out.fields
  have hgl : D.g < w5.heap.size := hA5.out.dev.lt
  have h2b : (w5.alloc (.cells (wcs (k, x)).toArray 70)).cell? ⟨D.g, 2, none⟩ = some pv := by rw [World.cell?_alloc_lt _ _ _ hgl]; exact h2
  have hown := Lib.hid (World.ownsRow.alloc hA5.out.pend (.cells (wcs (k, x)).toArray 70))
  have hnew := Lib.hid (World.news_of_block (heap_alloc_new w5 (.cells (wcs (k, x)).toArray 70)))
  have hpl : Hid (s.count.refuse.pend = s.pend) := HS.out.2.2.1
  have hmx : Hid (s.count.refuse.pend.length + 1 ≤ maxLen) := by
    show _ ≤ _
    rw [hpl.out]
    have := hp.out
    simp only [maxLen]
    omega
  have hby : Hid ((s.count.refuse.pend.length + 1) * 136 ≤ 140737488355328) := by
    show _ ≤ _
    rw [hpl.out]
    have := hp.out
    omega
  have hbs : Hid (B ≤ (w5.alloc (.cells (wcs (k, x)).toArray 70)).heap.size) := by
    show _ ≤ _
    have := hA5.out.bg.1
    simp
    omega
  have hfin : ∀ gg cap w6, Hid (w6.ownsRow B 70 129 (.slice (some ⟨gg, 0, none⟩) (s.count.refuse.pend.length + 1) cap) (s.count.refuse.pend.length + 1) (flatW s.count.refuse.pend ++ wcs (k, x)) →
      (w5.alloc (.cells (wcs (k, x)).toArray 70)).grownBy w6 pv.ownBlock → (pv.ownBlock = some gg ∨ gg = (w5.alloc (.cells (wcs (k, x)).toArray 70)).heap.size) →
      At (w6.setCell ⟨D.g, 2, none⟩ (.slice (some ⟨gg, 0, none⟩) (s.count.refuse.pend.length + 1) cap)) B n D (.slice (some ⟨gg, 0, none⟩) (s.count.refuse.pend.length + 1) cap) { s.count.refuse with nw := s.nw.set k x, pend := s.pend ++ [(k, x)] } ∧
      Goes D w pv (w6.setCell ⟨D.g, 2, none⟩ (.slice (some ⟨gg, 0, none⟩) (s.count.refuse.pend.length + 1) cap)) (.slice (some ⟨gg, 0, none⟩) (s.count.refuse.pend.length + 1) cap) ∧
      w6.cell? ⟨D.g, 2, none⟩ = some pv ∧ w6.frozen? ⟨D.g, 2, none⟩ = false) := by
    intro gg cap w6 ho hg hat
    rw [hpl.out] at ho ⊢
    have hl : (s.pend ++ [(k, x)]).length = s.pend.length + 1 := by simp
    rw [← flatW_snoc, ← hl] at ho
    rw [← hl]
    have hcg : Chg w5 w6 (fun k => pv.ownBlock = some k) := ((Chg.refl _ _).alloc _).grown hg fun _ hk => .inl hk
    have hd6 := hA5.out.dev.chg hcg (hA5.out.own_g _ rfl).2.2
    have hok := hA5.out.ok
    refine ⟨hA5.out.set_pend hcg ho fun p hpm => ?_, ⟨(hG6.out.chg.trans hcg fun j _ hj => .inr (.inr (.inr hj))).setCell (.inl (.inl rfl)) _, fun j hj => ?_⟩, hd6.cell 2, hd6.frozen 2⟩
    · rcases List.mem_append.1 hpm with h | h
      · exact hok p (by rw [hpl.out]; exact h)
      · obtain rfl : p = (k, x) := by simpa using h
        exact hk
    · simp only [Value.ownBlock, Option.some.injEq] at hj
      subst hj
      rcases hat with h | h
      · exact .inl h
      · have := hG6.out.chg.size
        simp at h
        exact .inr (by omega)
  refine wpAny_take (i := 0) (v := ?_) rfl (by kernel_rfl) (by kernel_rfl) (by kernel_rfl) (fun _ _ _ h => h) (Or.inl ⟨by rfl, ?_⟩) ?_
  rotate_left
  · intro w; go_simp; try with_reducible rfl
  simp [Act.put]
  refine wpAny_take (i := 1) (v := ?_) rfl (by kernel_rfl) (by kernel_rfl) (by kernel_rfl) (fun _ _ _ h => h) (Or.inl ⟨by rfl, ?_⟩) ?_
  rotate_left
  · intro w; go_simp; try with_reducible rfl
  simp [Act.put]
  refine wpAny_take (i := 5) (v := ?_) rfl (by kernel_rfl) (by kernel_rfl) (by kernel_rfl) (fun _ _ _ h => h) (Or.inl ⟨by rfl, ?_⟩) ?_
  rotate_left
  · intro w; go_simp; try with_reducible rfl
  simp [Act.put]
  refine wpAny_take (i := 2) (v := ?_) rfl (by kernel_rfl) (by kernel_rfl) (by kernel_rfl) (fun _ _ _ h => h) (Or.inl ⟨by rfl, ?_⟩) ?_
  rotate_left
  · intro w; go_simp; try with_reducible rfl
  simp [Act.put]
  refine wpAny_take (i := 3) (v := ?_) rfl (by kernel_rfl) (by kernel_rfl) (by kernel_rfl) (fun _ _ _ h => h) (Or.inl ⟨by rfl, ?_⟩) ?_
  rotate_left
  · intro w; go_simp; try with_reducible rfl
  simp [Act.put]
  refine wpAny_ready (rs := [4, 6]) (by kernel_rfl) (by simp) ?_
  refine AllReady.cons rfl (fun K hK => ?_) (AllReady.cons rfl (fun K hK => ?_) AllReady.nil)
  · refine step_val (w' := w5) rfl pv (ex_ld1 66 70 (.tmp 27) rfl Try.underlying66 D.g 2 pv rfl h2) ?_
    refine hK _ _ ?_
    clear hK K
    simp [Act.put]
    refine wpAny_ready (rs := [6]) (by kernel_rfl) (by simp) ?_
    refine AllReady.cons rfl (fun K hK => ?_) AllReady.nil
    refine step_val (w' := w5) rfl (.agg x.cs.toArray) (ex_ld (.tmp 5) rfl g0 0 x rfl hr5.out) ?_
    refine hK _ _ ?_
    clear hK K
    simp [Act.put]
    refine wpAny_take (i := 7) (v := .agg (wcs (k, x)).toArray) rfl (by kernel_rfl) (by kernel_rfl) (by kernel_rfl) (fun _ _ _ h => h) (Or.inl ⟨by rfl, ?_⟩) ?_
    · intro w
      exact ex_buildW (.tmp 29) (.tmp 30) rfl k x rfl rfl
    simp [Act.put]
    refine wpAny_ready (rs := [8]) (by kernel_rfl) (by simp) ?_
    refine AllReady.cons rfl (fun K hK => ?_) AllReady.nil
    refine step_val (w' := (w5.alloc (.cells (wcs (k, x)).toArray 70))) rfl (.slice (some ⟨w5.heap.size, 0, none⟩) 1 1) (ex_bslW (.tmp 31) rfl (k, x) rfl) ?_
    refine hK _ _ ?_
    clear hK K
    simp [Act.put]
    refine wpAny_ready (rs := [9]) (by kernel_rfl) (by simp) ?_
    refine AllReady.cons rfl (fun K hK => ?_) AllReady.nil
    refine step_append_lies _ rfl (.tmp 28) (.tmp 32) 66 rfl B 70 i0 _ 129 136 Try.underlying66 hi0 hz0 hz1 hz2 (hzs.out) (by omega) pv _ _ rfl hown.out
      ⟨w5.heap.size, 0, none⟩ 1 1 (wcs (k, x)) rfl (by rw [wcs_len]) hnew.out (wcs_one _) (by omega) hmx.out hby.out hbs.out _ rfl ?_
    intro gg cap w6 ho6 hgrow hat hlt6
    refine hK _ _ ?_
    clear hK K
    simp [Act.put]
    obtain ⟨hA6, hG6, hc6, hf6⟩ := (hfin gg cap w6).out ho6 hgrow hat
    refine wpAny_take (i := 10) (v := ?_) rfl (by kernel_rfl) (by kernel_rfl) (by kernel_rfl) (fun _ _ _ h => h) (Or.inl ⟨by rfl, ?_⟩) ?_
    rotate_left
    · intro w; go_simp; try with_reducible rfl
    simp [Act.put]
    refine wpAny_take (i := 11) (v := ?_) rfl (by kernel_rfl) (by kernel_rfl) (by kernel_rfl) (fun _ _ _ h => h) (Or.inl ⟨by rfl, ?_⟩) ?_
    rotate_left
    · intro w; go_simp; try with_reducible rfl
    simp [Act.put]
    refine wpAny_ready (rs := [12]) (by kernel_rfl) (by simp) ?_
    refine AllReady.cons rfl (fun K hK => ?_) AllReady.nil
    refine step_skip (w' := w6.setCell ⟨D.g, 2, none⟩ (.slice (some ⟨gg, 0, none⟩) (s.count.refuse.pend.length + 1) cap)) rfl (by go_simp) ?_
    refine hK _ _ ?_
    clear hK K
    simp [Act.put]
    refine wpAny_done (by kernel_rfl) ?_ _
    go_wp2_with fail
    go_ret
    exact ⟨rfl, _, hA6, hG6⟩
  · refine step_val (w' := w5) rfl (.agg x.cs.toArray) (ex_ld (.tmp 5) rfl g0 0 x rfl hr5.out) ?_
    refine hK _ _ ?_
    clear hK K
    simp [Act.put]
    refine wpAny_take (i := 7) (v := .agg (wcs (k, x)).toArray) rfl (by kernel_rfl) (by kernel_rfl) (by kernel_rfl) (fun _ _ _ h => h) (Or.inl ⟨by rfl, ?_⟩) ?_
    · intro w
      exact ex_buildW (.tmp 29) (.tmp 30) rfl k x rfl rfl
    simp [Act.put]
    refine wpAny_ready (rs := [4, 8]) (by kernel_rfl) (by simp) ?_
    refine AllReady.cons rfl (fun K hK => ?_) (AllReady.cons rfl (fun K hK => ?_) AllReady.nil)
    · refine step_val (w' := w5) rfl pv (ex_ld1 66 70 (.tmp 27) rfl Try.underlying66 D.g 2 pv rfl h2) ?_
      refine hK _ _ ?_
      clear hK K
      simp [Act.put]
      refine wpAny_ready (rs := [8]) (by kernel_rfl) (by simp) ?_
      refine AllReady.cons rfl (fun K hK => ?_) AllReady.nil
      refine step_val (w' := (w5.alloc (.cells (wcs (k, x)).toArray 70))) rfl (.slice (some ⟨w5.heap.size, 0, none⟩) 1 1) (ex_bslW (.tmp 31) rfl (k, x) rfl) ?_
      refine hK _ _ ?_
      clear hK K
      simp [Act.put]
      refine wpAny_ready (rs := [9]) (by kernel_rfl) (by simp) ?_
      refine AllReady.cons rfl (fun K hK => ?_) AllReady.nil
      refine step_append_lies _ rfl (.tmp 28) (.tmp 32) 66 rfl B 70 i0 _ 129 136 Try.underlying66 hi0 hz0 hz1 hz2 (hzs.out) (by omega) pv _ _ rfl hown.out
        ⟨w5.heap.size, 0, none⟩ 1 1 (wcs (k, x)) rfl (by rw [wcs_len]) hnew.out (wcs_one _) (by omega) hmx.out hby.out hbs.out _ rfl ?_
      intro gg cap w6 ho6 hgrow hat hlt6
      refine hK _ _ ?_
      clear hK K
      simp [Act.put]
      obtain ⟨hA6, hG6, hc6, hf6⟩ := (hfin gg cap w6).out ho6 hgrow hat
      refine wpAny_take (i := 10) (v := ?_) rfl (by kernel_rfl) (by kernel_rfl) (by kernel_rfl) (fun _ _ _ h => h) (Or.inl ⟨by rfl, ?_⟩) ?_
      rotate_left
      · intro w; go_simp; try with_reducible rfl
      simp [Act.put]
      refine wpAny_take (i := 11) (v := ?_) rfl (by kernel_rfl) (by kernel_rfl) (by kernel_rfl) (fun _ _ _ h => h) (Or.inl ⟨by rfl, ?_⟩) ?_
      rotate_left
      · intro w; go_simp; try with_reducible rfl
      simp [Act.put]
      refine wpAny_ready (rs := [12]) (by kernel_rfl) (by simp) ?_
      refine AllReady.cons rfl (fun K hK => ?_) AllReady.nil
      refine step_skip (w' := w6.setCell ⟨D.g, 2, none⟩ (.slice (some ⟨gg, 0, none⟩) (s.count.refuse.pend.length + 1) cap)) rfl (by go_simp) ?_
      refine hK _ _ ?_
      clear hK K
      simp [Act.put]
      refine wpAny_done (by kernel_rfl) ?_ _
      go_wp2_with fail
      go_ret
      exact ⟨rfl, _, hA6, hG6⟩
    · refine step_val (w' := (w5.alloc (.cells (wcs (k, x)).toArray 70))) rfl (.slice (some ⟨w5.heap.size, 0, none⟩) 1 1) (ex_bslW (.tmp 31) rfl (k, x) rfl) ?_
      refine hK _ _ ?_
      clear hK K
      simp [Act.put]
      refine wpAny_ready (rs := [4]) (by kernel_rfl) (by simp) ?_
      refine AllReady.cons rfl (fun K hK => ?_) AllReady.nil
      refine step_val (w' := (w5.alloc (.cells (wcs (k, x)).toArray 70))) rfl pv (ex_ld1 66 70 (.tmp 27) rfl Try.underlying66 D.g 2 pv rfl h2b) ?_
      refine hK _ _ ?_
      clear hK K
      simp [Act.put]
      refine wpAny_ready (rs := [9]) (by kernel_rfl) (by simp) ?_
      refine AllReady.cons rfl (fun K hK => ?_) AllReady.nil
      refine step_append_lies _ rfl (.tmp 28) (.tmp 32) 66 rfl B 70 i0 _ 129 136 Try.underlying66 hi0 hz0 hz1 hz2 (hzs.out) (by omega) pv _ _ rfl hown.out
        ⟨w5.heap.size, 0, none⟩ 1 1 (wcs (k, x)) rfl (by rw [wcs_len]) hnew.out (wcs_one _) (by omega) hmx.out hby.out hbs.out _ rfl ?_
      intro gg cap w6 ho6 hgrow hat hlt6
      refine hK _ _ ?_
      clear hK K
      simp [Act.put]
      obtain ⟨hA6, hG6, hc6, hf6⟩ := (hfin gg cap w6).out ho6 hgrow hat
      refine wpAny_take (i := 10) (v := ?_) rfl (by kernel_rfl) (by kernel_rfl) (by kernel_rfl) (fun _ _ _ h => h) (Or.inl ⟨by rfl, ?_⟩) ?_
      rotate_left
      · intro w; go_simp; try with_reducible rfl
      simp [Act.put]
      refine wpAny_take (i := 11) (v := ?_) rfl (by kernel_rfl) (by kernel_rfl) (by kernel_rfl) (fun _ _ _ h => h) (Or.inl ⟨by rfl, ?_⟩) ?_
      rotate_left
      · intro w; go_simp; try with_reducible rfl
      simp [Act.put]
      refine wpAny_ready (rs := [12]) (by kernel_rfl) (by simp) ?_
      refine AllReady.cons rfl (fun K hK => ?_) AllReady.nil
      refine step_skip (w' := w6.setCell ⟨D.g, 2, none⟩ (.slice (some ⟨gg, 0, none⟩) (s.count.refuse.pend.length + 1) cap)) rfl (by go_simp) ?_
      refine hK _ _ ?_
      clear hK K
      simp [Act.put]
      refine wpAny_done (by kernel_rfl) ?_ _
      go_wp2_with fail
      go_ret
      exact ⟨rfl, _, hA6, hG6⟩
theorem write_none (h : At w B n D pv s) (i : Int) (x : Sec) (hf : hasF n i = false) :
    Calls Try.prog 36 #[.pointer (some ⟨D.g, 0, none⟩), .int .i64 i, .agg x.cs.toArray] w fun e w' =>
    e = .returned (.int .i64 41) ∧ At w' B n D pv s.count ∧ Goes D w pv w' pv := by
  have HA := Lib.hid (h.alloc (.cells x.cs.toArray 23))
  clear h
  go_enter Try.func36, Try.ntmps36
  go_wp2_with fail
  refine (count_any HA.out).mono ?_
  rintro e w1 ⟨rfl, hA1, hG1⟩
  have hA := Lib.hid hA1
  have hG := Lib.hid hG1.behind
  clear HA hA1 hG1
  go_wp2_with fail
  refine (vhas_any hA.out _).mono ?_
  rintro e w1 ⟨rfl, rfl⟩
  rw [hf]
  go_wp2_with fail
  go_ret
  exact ⟨rfl, hA.out, hG.out⟩
theorem write_dead (h : At w B n D pv s) (i : Int) (x : Sec) (hf : hasF n i = true) (hd : s.count.refuse.dead = true) :
    Calls Try.prog 36 #[.pointer (some ⟨D.g, 0, none⟩), .int .i64 i, .agg x.cs.toArray] w fun e w' =>
    e = .returned (.int .i64 42) ∧ At w' B n D pv s.count.refuse ∧ Goes D w pv w' pv := by
  have HA := Lib.hid (h.alloc (.cells x.cs.toArray 23))
  clear h
  go_enter Try.func36, Try.ntmps36
  go_wp2_with fail
  refine (count_any HA.out).mono ?_
  rintro e w1 ⟨rfl, hA1, hG1⟩
  have hA := Lib.hid hA1
  have hG := Lib.hid hG1.behind
  clear HA hA1 hG1
  go_wp2_with fail
  refine (vhas_any hA.out _).mono ?_
  rintro e w1 ⟨rfl, rfl⟩
  rw [hf]
  go_wp2_with fail
  refine (refuses_any hA.out).mono ?_
  rintro e w2 ⟨rfl, hA1, hG1⟩
  rw [hd]
  have hA2 := Lib.hid hA1
  have hG2 := Lib.hid (hG.out.trans hG1)
  clear hA hG hA1 hG1 hd hf
  go_wp2_with fail
  go_ret
  exact ⟨rfl, hA2.out, hG2.out⟩
theorem write_any (h : At w B n D pv s) (i : Int) (x : Sec) (hp : s.pend.length ≤ 1000000) :
    Calls Try.prog 36 #[.pointer (some ⟨D.g, 0, none⟩), .int .i64 i, .agg x.cs.toArray] w fun e w' =>
    ∃ pv', e = .returned (.int .i64 (s.write n i x).2) ∧ At w' B n D pv' (s.write n i x).1 ∧ Goes D w pv w' pv' := by
  unfold St.write
  by_cases h1 : hasF n i = true
  · rw [if_pos h1]
    by_cases h2 : s.count.refuse.dead = true
    · rw [if_pos h2]
      exact (write_dead h i x h1 h2).mono fun e w' ⟨a, b, c⟩ => ⟨pv, a, b, c⟩
    · rw [if_neg h2]
      have h1' := h1
      unfold hasF at h1'
      rw [decide_eq_true_iff] at h1'
      obtain ⟨k, rfl⟩ := Int.eq_ofNat_of_zero_le h1'.1
      exact write_ok h k x (by omega) hp (by simpa using h2)
  · rw [if_neg h1]
    exact (write_none h i x (by simpa using h1)).mono fun e w' ⟨a, b, c⟩ => ⟨pv, a, b, c⟩
end
end Go.Proofs.Ytddhacmaogaocaa
