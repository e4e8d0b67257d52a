/- The program's move. -/
import Derived.Test.YtklccgmhllpjkaaJ18
import Derived.Test.YtklccgmhllpjkaaF7
set_option maxRecDepth 10000
namespace Go.Proofs.Ytklccgmhllpjkaa
open Go.RowKit

theorem step_stM {ops : Array Oper} {o : Oper} {a : Act} {w : World} {K : Act → World → Prop} {Q : Exit → Act → World → Prop} {E : Prop} (hgd : o.guard = none) (x y : Operand) (ho : o.op = .store 54 x y)
    (b k : Nat) (s : Mv) (hx : a.eval x = .pointer (some ⟨b, k, none⟩)) (hy : a.eval y = .agg s.cs.toArray) (ht : w.there b k 3)
    (h : K (a.put o.dst undef) (w.setCells b k s.cs)) : if Region.wanted o (yielded ops a.tmps) = true then Oper.wp Try.prog o a w K Q else E := by
  have hw : Region.wanted o (yielded ops a.tmps) = true := by simp [Region.wanted, hgd]
  rw [if_pos hw]
  exact wp_store_mid _ x y ho b k s.cs.toArray hx hy ht (sizeMv'' s) (all_oneV s.one) h
theorem results_row_tmp {P : Program} {fn : Func} {p u : Tmp} {ty : TypeId} (h : fn.results = #[.cell p ty, .tmp u]) (tmps : Array Value) (w : World) (g : Nat) (t : TypeId) (cs : Array Value) (fr : Nat × Nat) (d : TypeDesc)
    (hp : tmps.getD p undef = .pointer (some ⟨g, 0, none⟩)) (hg : w.heap[g]? = some (.cells cs t fr))
    (hu : P.underlying ty = some d) (hd : (match d with | .struct _ | .array _ _ => true | _ => false) = true) (hi : (P.info? ty).map (·.size) = some cs.size) :
    (results fn tmps).run P w = .ok (.tuple #[.agg cs, tmps.getD u undef]) w := by
  have hp' : tmps[p]?.getD undef = .pointer (some ⟨g, 0, none⟩) := by simpa using hp
  simp [results, h, hp', asAddr, run_loadVar_row w g t ty cs fr d hg hu hd hi]
theorem get_mv {l : List UInt8} (h : l.length = 5) : getF ws5 l = some [kindN l 0, twoN l 1, twoN l 3] := by
  obtain ⟨b0, b1, b2, b3, b4, rfl⟩ : ∃ b0 b1 b2 b3 b4, l = [b0, b1, b2, b3, b4] := by
    match l, h with
    | [b0, b1, b2, b3, b4], _ => exact ⟨b0, b1, b2, b3, b4, rfl⟩
  have e0 : kindN [b0, b1, b2, b3, b4] 0 = numF [b0] := by simp [kindN, numF]
  rw [e0]
  rfl
theorem buildZM (w : World) : (Instr.build 54 #[]).run Try.prog w = .ok (.agg zmv.cs.toArray) w := by
  refine run_build w _ _ _ ?_
  kernel_rfl
theorem build_sp (s n : Int) (w : World) : (Instr.build 52 #[(0, .int .i64 s), (1, .int .i64 n)]).run Try.prog w = .ok (.agg #[.int .i64 s, .int .i64 n]) w := by
  refine run_build w _ _ _ ?_
  kernel_rfl
theorem flag_true (w : World) : Calls Try.prog 36 #[.bool true] w fun e w' => e = .returned (.int .u64 1) ∧ w' = w := flag_any true w
/-- What stands while the bytes of a move are read. -/
structure MvS (w w' : World) (b off x s n : Nat) : Prop where
  blk : Blk w' w.heap.size 54 zmv.cs.toArray
  below : Below w.heap.size w w'
  lt : b < w'.heap.size
  c0 : w'.cell? ⟨b, off, none⟩ = some (.int .u64 (x : Int))
  c1 : w'.cell? ⟨b, off + 1, none⟩ = some (.int .u64 (s : Int))
  c2 : w'.cell? ⟨b, off + 2, none⟩ = some (.int .u64 (n : Int))
theorem MvS.next {w w' w'' : World} {b off x s n : Nat} (h : MvS w w' b off x s n) (hb : Below w'.heap.size w' w'') : MvS w w'' b off x s n :=
  ⟨h.blk.below hb h.blk.lt, h.below.trans (hb.mono h.below.size), Nat.lt_of_lt_of_le h.lt hb.size, (hb.cell (p := ⟨b, off, none⟩) h.lt).trans h.c0, (hb.cell (p := ⟨b, off + 1, none⟩) h.lt).trans h.c1, (hb.cell (p := ⟨b, off + 2, none⟩) h.lt).trans h.c2⟩
theorem MvS.ret {w w' : World} {b off x s n : Nat} (h : MvS w w' b off x s n) (m : Mv) : Blk (w'.setCells w.heap.size 0 m.cs) w.heap.size 54 m.cs.toArray ∧ Below w.heap.size w (w'.setCells w.heap.size 0 m.cs) :=
  ⟨h.blk.mvAll (m := zmv) m, Below.setCells _ (Nat.le_refl _) _ _ h.below⟩
def PostMv (l : List UInt8) (w : World) (e : Ending) (w' : World) : Prop := ∃ m : Mv, e = .returned (.tuple #[.agg m.cs.toArray, .bool (okAt l 0)]) ∧ (okAt l 0 = true → m = moveAt l 0) ∧ Below w.heap.size w w'
theorem kind_lt (l : List UInt8) (p : Nat) : kindN l p < 256 := (l.getD p 0).toNat_lt
set_option maxHeartbeats 4000000 in
theorem move_any (A : Option Addr) (c : Nat) (l : List UInt8) (h5 : l.length = 5) (hc : 5 ≤ c) (w : World) (hs : Rd w w.heap.size A (bys l)) :
    Calls Try.prog 37 #[.slice A 5 c] w (PostMv l w) := by
  have HGE := Lib.hid (fun gw W (hW : Below w.heap.size w W) (hr : Rd W W.heap.size (some ⟨gw, 0, none⟩) (wds ws5)) => show Calls Try.prog 46 #[.slice (some ⟨gw, 0, none⟩) 3 3, .slice A 5 c] W (fun e W' => ∃ A3 c3, e = .returned (.tuple #[.slice A3 3 c3, .int .i64 0]) ∧ Rd W' W'.heap.size A3 (uns [kindN l 0, twoN l 1, twoN l 3]) ∧ 3 ≤ c3 ∧ Below W.heap.size W W') by
    have h := get_any (some ⟨gw, 0, none⟩) A 3 c ws5 l W hr ((hs.below hW).mono hW.size) (by omega) (by decide)
    rw [get_mv h5, h5] at h
    exact h)
  have hm : moveAt l 0 = ⟨kindN l 0 == 1, twoN l 1, twoN l 3⟩ := rfl
  have hok : okAt l 0 = (decide (kindN l 0 ≤ 1) && rightM (moveAt l 0)) := rfl
  rw [hm] at hok
  have HM := Lib.hid hm
  have HOK := Lib.hid hok
  have hw1 : IntKind.i64.wrap (twoN l 1 : Int) = (twoN l 1 : Int) := wrapI (twoN_lt l 1)
  have hw2 : IntKind.i64.wrap (twoN l 3 : Int) = (twoN l 3 : Int) := wrapI (twoN_lt l 3)
  have HJ := Lib.hid (pright_any ⟨kindN l 0 == 1, twoN l 1, twoN l 3⟩ (by have := twoN_lt l 1; have := twoN_lt l 3; unfold Mv.ok I64; simp only; omega))
  have hzm : ∀ w, Sem.run Try.prog (zeroValue 54) w = .ok (.agg zmv.cs.toArray) w := zeroMv
  have hbz : ∀ w, (Instr.build 54 #[]).run Try.prog w = .ok (.agg zmv.cs.toArray) w := buildZM
  have hk := kind_lt l 0
  clear h5 hc hs hm hok
  unfold PostMv
  generalize okAt l 0 = ok at *
  generalize moveAt l 0 = mv at *
  generalize kindN l 0 = x at *
  generalize twoN l 1 = s at *
  generalize twoN l 3 = n at *
  have HB1 := Lib.hid (below_al w (.cells zmv.cs.toArray 54))
  have HK1 : Hid (Blk (w.alloc (.cells zmv.cs.toArray 54)) w.heap.size 54 zmv.cs.toArray) := Blk.new w _ _
  go_enter Try.func37, Try.ntmps37
  go_upto_region 2 with (first
    | (go_at_call 35; (with_reducible refine Calls.mono (widths_any _) ?_); rintro e w2 ⟨gw, rfl, hr2, hb2⟩
       have HB2 := Lib.hid (HB1.out.trans (hb2.mono HB1.out.size))
       have HK2 := Lib.hid (HK1.out.below hb2 HK1.out.lt)
       have HG2 := Lib.hid (HGE.out gw _ HB2.out hr2)
       clear hb2 hr2 HB1 HK1 HGE)
    | (go_at_call 46; (with_reducible refine Calls.mono HG2.out ?_); rintro e w3 ⟨A3, c3, rfl, hr3, hl3, hb3⟩
       have HB3 := Lib.hid (HB2.out.trans (hb3.mono HB2.out.size))
       have HK3 := Lib.hid (HK2.out.below hb3 HK2.out.lt)
       obtain ⟨b, off, rfl, hlt3, hc3⟩ := hr3 (by simp [uns])
       have HS3 : Hid (MvS w w3.drew b off x s n) := MvS.next ⟨HK3.out, HB3.out, hlt3, hc3 0 _ rfl, hc3 1 _ rfl, hc3 2 _ rfl⟩ (Below.refl _ _).drew
       clear hb3 hl3 hlt3 hc3 HB2 HK2 HG2 HB3 HK3))
  refine wp_region_held_drew (S := (fun w' => MvS w w' b off x s n)) (by kernel_rfl) HS3.out (fun hHeld => ?_)
  generalize w3.drew = w4 at *
  refine wpAnyH_take (i := 0) (v := (.int .i64 0)) rfl (by kernel_rfl) (by kernel_rfl) (by kernel_rfl) (fun _ _ _ h => h) (Or.inl ⟨by rfl, ?_⟩) (by assumption) ?_
  · intro w' hS; go_simp; try with_reducible rfl
  try simp [Act.put]
  refine wpAnyH_take (i := 1) (v := (.bool false)) rfl (by kernel_rfl) (by kernel_rfl) (by kernel_rfl) (fun _ _ _ h => h) (Or.inl ⟨by rfl, ?_⟩) (by assumption) ?_
  · intro w' hS; go_simp; try with_reducible rfl
  try simp [Act.put]
  refine wpAnyH_take (i := 2) (v := (.bool false)) rfl (by kernel_rfl) (by kernel_rfl) (by kernel_rfl) (fun _ _ _ h => h) (Or.inl ⟨by rfl, ?_⟩) (by assumption) ?_
  · intro w' hS; go_simp; try with_reducible rfl
  try simp [Act.put]
  refine wpAnyH_take (i := 3) (v := (.slice (some ⟨b, off, none⟩) 3 c3)) rfl (by kernel_rfl) (by kernel_rfl) (by kernel_rfl) (fun _ _ _ h => h) (Or.inl ⟨by rfl, ?_⟩) (by assumption) ?_
  · intro w' hS; go_simp; try with_reducible rfl
  try simp [Act.put]
  refine wpAnyH_take (i := 4) (v := (.pointer (some ⟨b, off, none⟩))) rfl (by kernel_rfl) (by kernel_rfl) (by kernel_rfl) (fun _ _ _ h => h) (Or.inl ⟨by rfl, ?_⟩) (by assumption) ?_
  · intro w' hS; go_simp; try with_reducible rfl
  try simp [Act.put]
  refine wpAnyH_take (i := 5) (v := (.int .u64 (x : Int))) rfl (by kernel_rfl) (by kernel_rfl) (by kernel_rfl) (fun _ _ _ h => h) (Or.inl ⟨by rfl, ?_⟩) (by assumption) ?_
  · intro w' hS
    have hcc := hS.c0
    go_simp; try with_reducible rfl
  try simp [Act.put]
  refine wpAnyH_ready (rs := [6]) (by kernel_rfl) (by simp) ?_
  refine AllReadyH.cons rfl (fun K hK => ?_) AllReadyH.nil
  go_simp
  refine Calls.mono (flag_true w4) ?_
  rintro e wX ⟨rfl, hwX⟩
  rw [hwX]
  clear hwX wX
  refine hK.out _ _ HS3.out (fun hHeld2 => ?_)
  clear hK K
  try simp
  clear hHeld
  have hHeld := hHeld2
  clear hHeld2
  by_cases hx : 1 < x
  · have hxi : (1 : Int) < x := by omega
    have HF : Hid (ok = false) := HOK.out.trans (by rw [decide_eq_false (by omega)]; rfl)
    clear HOK HM HJ
    refine wpAnyH_take (i := 7) (v := (.bool true)) rfl (by kernel_rfl) (by kernel_rfl) (by kernel_rfl) (fun _ _ _ h => h) (Or.inl ⟨by rfl, ?_⟩) (by assumption) ?_
    · intro w' hS
      have hxx := hxi
      go_simp; try with_reducible rfl
    try simp [Act.put]
    refine wpAnyH_take (i := 8) (v := (.bool true)) rfl (by kernel_rfl) (by kernel_rfl) (by kernel_rfl) (fun _ _ _ h => h) (Or.inl ⟨by rfl, ?_⟩) (by assumption) ?_
    · intro w' hS; go_simp; try with_reducible rfl
    try simp [Act.put]
    refine wpAnyH_done (by kernel_rfl) ?_ _
    clear hHeld
    go_wp2_with (with_reducible refine st_mv rfl _ _ rfl w.heap.size 0 zmv rfl rfl (HS3.out.blk.mvHas (m := zmv)) ?_; intro w8 hw8)
    have hR := HS3.out.ret zmv
    rw [← hw8.out] at hR
    exact bodyPost_ret (results_row_tmp rfl _ _ _ _ _ _ _ rfl hR.1 Try.underlying54 rfl (sizeMv'' zmv)) rfl ⟨zmv, by rw [HF.out]; rfl, (fun h => by rw [HF.out] at h; cases h), hR.2⟩
  · have hxi : ¬ (1 : Int) < x := by omega
    have HOK' := Lib.hid (HOK.out.trans (by rw [decide_eq_true (show x ≤ 1 by omega), Bool.true_and]))
    obtain ⟨t, ht⟩ : ∃ t, t = (x == 1) := ⟨_, rfl⟩
    rw [← ht] at HM HOK' HJ
    have HTT := Lib.hid ht
    clear ht HOK
    refine wpAnyH_take (i := 7) (v := (.bool false)) rfl (by kernel_rfl) (by kernel_rfl) (by kernel_rfl) (fun _ _ _ h => h) (Or.inl ⟨by rfl, ?_⟩) (by assumption) ?_
    · intro w' hS
      have hxx := hxi
      go_simp; try with_reducible rfl
    try simp [Act.put]
    refine wpAnyH_take (i := 8) (v := (.bool false)) rfl (by kernel_rfl) (by kernel_rfl) (by kernel_rfl) (fun _ _ _ h => h) (Or.inl ⟨by rfl, ?_⟩) (by assumption) ?_
    · intro w' hS; go_simp; try with_reducible rfl
    try simp [Act.put]
    refine wpAnyH_done (by kernel_rfl) ?_ _
    clear hHeld
    go_wp2_with fail
    have HS5 : Hid (MvS w w4.drew b off x s n) := HS3.out.next (Below.refl _ _).drew
    clear HS3
    refine wp_region_held_drew (S := (fun w' => MvS w w' b off x s n)) (by kernel_rfl) HS5.out (fun hHeld => ?_)
    generalize w4.drew = w5 at *
    refine wpAnyH_take (i := 0) (v := (.slice (some ⟨b, off, none⟩) 3 c3)) rfl (by kernel_rfl) (by kernel_rfl) (by kernel_rfl) (fun _ _ _ h => h) (Or.inl ⟨by rfl, ?_⟩) (by assumption) ?_
    · intro w' hS; go_simp; try with_reducible rfl
    try simp [Act.put]
    refine wpAnyH_take (i := 1) (v := (.pointer (some ⟨b, off, none⟩))) rfl (by kernel_rfl) (by kernel_rfl) (by kernel_rfl) (fun _ _ _ h => h) (Or.inl ⟨by rfl, ?_⟩) (by assumption) ?_
    · intro w' hS; go_simp; try with_reducible rfl
    try simp [Act.put]
    refine wpAnyH_take (i := 2) (v := (.int .u64 (x : Int))) rfl (by kernel_rfl) (by kernel_rfl) (by kernel_rfl) (fun _ _ _ h => h) (Or.inl ⟨by rfl, ?_⟩) (by assumption) ?_
    · intro w' hS
      have hcc := hS.c0
      go_simp; try with_reducible rfl
    try simp [Act.put]
    refine wpAnyH_take (i := 5) (v := (.slice (some ⟨b, off, none⟩) 3 c3)) rfl (by kernel_rfl) (by kernel_rfl) (by kernel_rfl) (fun _ _ _ h => h) (Or.inl ⟨by rfl, ?_⟩) (by assumption) ?_
    · intro w' hS; go_simp; try with_reducible rfl
    try simp [Act.put]
    refine wpAnyH_take (i := 6) (v := (.pointer (some ⟨b, off + 1, none⟩))) rfl (by kernel_rfl) (by kernel_rfl) (by kernel_rfl) (fun _ _ _ h => h) (Or.inl ⟨by rfl, ?_⟩) (by assumption) ?_
    · intro w' hS; go_simp; try with_reducible rfl
    try simp [Act.put]
    refine wpAnyH_take (i := 7) (v := (.int .u64 (s : Int))) rfl (by kernel_rfl) (by kernel_rfl) (by kernel_rfl) (fun _ _ _ h => h) (Or.inl ⟨by rfl, ?_⟩) (by assumption) ?_
    · intro w' hS
      have hcc := hS.c1
      go_simp; try with_reducible rfl
    try simp [Act.put]
    refine wpAnyH_take (i := 8) (v := (.int .i64 (s : Int))) rfl (by kernel_rfl) (by kernel_rfl) (by kernel_rfl) (fun _ _ _ h => h) (Or.inl ⟨by rfl, ?_⟩) (by assumption) ?_
    · intro w' hS; go_simp; try with_reducible rfl
    try simp [Act.put]
    refine wpAnyH_take (i := 9) (v := (.slice (some ⟨b, off, none⟩) 3 c3)) rfl (by kernel_rfl) (by kernel_rfl) (by kernel_rfl) (fun _ _ _ h => h) (Or.inl ⟨by rfl, ?_⟩) (by assumption) ?_
    · intro w' hS; go_simp; try with_reducible rfl
    try simp [Act.put]
    refine wpAnyH_take (i := 10) (v := (.pointer (some ⟨b, off + 2, none⟩))) rfl (by kernel_rfl) (by kernel_rfl) (by kernel_rfl) (fun _ _ _ h => h) (Or.inl ⟨by rfl, ?_⟩) (by assumption) ?_
    · intro w' hS; go_simp; try with_reducible rfl
    try simp [Act.put]
    refine wpAnyH_take (i := 11) (v := (.int .u64 (n : Int))) rfl (by kernel_rfl) (by kernel_rfl) (by kernel_rfl) (fun _ _ _ h => h) (Or.inl ⟨by rfl, ?_⟩) (by assumption) ?_
    · intro w' hS
      have hcc := hS.c2
      go_simp; try with_reducible rfl
    try simp [Act.put]
    refine wpAnyH_take (i := 12) (v := (.int .i64 (n : Int))) rfl (by kernel_rfl) (by kernel_rfl) (by kernel_rfl) (fun _ _ _ h => h) (Or.inl ⟨by rfl, ?_⟩) (by assumption) ?_
    · intro w' hS; go_simp; try with_reducible rfl
    try simp [Act.put]
    refine wpAnyH_take (i := 13) (v := (.agg #[.int .i64 (s : Int), .int .i64 (n : Int)])) rfl (by kernel_rfl) (by kernel_rfl) (by kernel_rfl) (fun _ _ _ h => h) (Or.inl ⟨by rfl, ?_⟩) (by assumption) ?_
    · intro w' hS
      exact ex_build01 (.tmp 31) (.tmp 35) rfl (.int .i64 (s : Int)) (.int .i64 (n : Int)) _ rfl rfl (build_sp (s : Int) (n : Int) _)
    try simp [Act.put]
    refine wpAnyH_ready (rs := [3, 15]) (by kernel_rfl) (by simp) ?_
    refine AllReadyH.cons rfl (fun K hK => ?_) (AllReadyH.cons rfl (fun K hK => ?_) AllReadyH.nil)
    · skip
      go_simp
      refine Calls.mono (flag_true w5) ?_
      rintro e wX ⟨rfl, hwX⟩
      rw [hwX]
      clear hwX wX
      refine hK.out _ _ HS5.out (fun hHeld2 => ?_)
      clear hK K
      try simp
      clear hHeld
      have hHeld := hHeld2
      clear hHeld2
      refine wpAnyH_take (i := 4) (v := (.bool t)) rfl (by kernel_rfl) (by kernel_rfl) (by kernel_rfl) (fun _ _ _ h => h) (Or.inl ⟨by rfl, ?_⟩) (by assumption) ?_
      · intro w' hS
        go_simp; first | with_reducible rfl | (rw [bit_eq, ← HTT.out])
      try simp [Act.put]
      refine wpAnyH_take (i := 14) (v := (.agg (Mv.cs ⟨t, (s : Int), (n : Int)⟩).toArray)) rfl (by kernel_rfl) (by kernel_rfl) (by kernel_rfl) (fun _ _ _ h => h) (Or.inl ⟨by rfl, ?_⟩) (by assumption) ?_
      · intro w' hS
        exact ex_build01 (.tmp 27) (.tmp 36) rfl (.bool t) (.agg #[.int .i64 (s : Int), .int .i64 (n : Int)]) _ rfl rfl (build_mv t (s : Int) (n : Int) _)
      try simp [Act.put]
      refine wpAnyH_ready (rs := [15]) (by kernel_rfl) (by simp) ?_
      refine AllReadyH.cons rfl (fun K hK => ?_) AllReadyH.nil
      go_simp
      have HN6 : Hid (Blk (w5.alloc (.cells zmv.cs.toArray 54)) w5.heap.size 54 zmv.cs.toArray) := Blk.new w5 _ _
      have HS6 : Hid (MvS w (w5.alloc (.cells zmv.cs.toArray 54)) b off x s n) := HS5.out.next (below_al _ _)
      refine hK.out _ _ HS6.out (fun hHeld2 => ?_)
      clear hK K
      try simp
      clear hHeld
      have hHeld := hHeld2
      clear hHeld2
      refine wpAnyH_ready (rs := [16]) (by kernel_rfl) (by simp) ?_
      refine AllReadyH.cons rfl (fun K hK => ?_) AllReadyH.nil
      refine step_stM rfl (.tmp 6) (.tmp 37) rfl w5.heap.size 0 ⟨t, (s : Int), (n : Int)⟩ rfl rfl (HN6.out.mvHas (m := zmv)) ?_
      have HN7 := Lib.hid (new_mv (w := w5) (x := ⟨t, (s : Int), (n : Int)⟩) rfl).1
      have HS7 := Lib.hid (HS5.out.next (new_mv (w := w5) (x := ⟨t, (s : Int), (n : Int)⟩) rfl).2)
      have HG6 : Hid (¬ w.heap.size = w5.heap.size) := Lib.hid (by have := HS5.out.blk.lt; omega)
      refine hK.out _ _ HS7.out (fun hHeld2 => ?_)
      clear hK K hHeld hHeld2 HS5 HS6 HN6 HTT
      generalize (w5.alloc (.cells zmv.cs.toArray 54)).setCells w5.heap.size 0 (Mv.cs ⟨t, (s : Int), (n : Int)⟩) = w7 at *
      generalize w5.heap.size = g6 at *
      try simp [Act.put]
      refine wpAnyH_done (by kernel_rfl) ?_ _
      go_wp2_with fail
      have HS8 : Hid (MvS w w7.drew b off x s n) := HS7.out.next (Below.refl _ _).drew
      have HN8 : Hid (Blk w7.drew g6 54 (Mv.cs ⟨t, (s : Int), (n : Int)⟩).toArray) := HN7.out.below (Below.refl _ _).drew HN7.out.lt
      clear HS7 HN7
      refine wp_region_held_drew (S := (fun w' => Blk w' g6 54 (Mv.cs ⟨t, (s : Int), (n : Int)⟩).toArray)) (by kernel_rfl) HN8.out (fun hHeld => ?_)
      generalize w7.drew = w8 at *
      refine wpAnyH_take (i := 0) (v := (.agg (Mv.cs ⟨t, (s : Int), (n : Int)⟩).toArray)) rfl (by kernel_rfl) (by kernel_rfl) (by kernel_rfl) (fun _ _ _ h => h) (Or.inl ⟨by rfl, ?_⟩) (by assumption) ?_
      · intro w' hS
        exact ex_ldMv (.tmp 6) rfl g6 ⟨t, (s : Int), (n : Int)⟩ rfl hS
      try simp [Act.put]
      refine wpAnyH_take (i := 1) (v := (.agg (Mv.cs ⟨t, (s : Int), (n : Int)⟩).toArray)) rfl (by kernel_rfl) (by kernel_rfl) (by kernel_rfl) (fun _ _ _ h => h) (Or.inl ⟨by rfl, ?_⟩) (by assumption) ?_
      · intro w' hS
        exact ex_ldMv (.tmp 6) rfl g6 ⟨t, (s : Int), (n : Int)⟩ rfl hS
      try simp [Act.put]
      refine wpAnyH_ready (rs := [2]) (by kernel_rfl) (by simp) ?_
      refine AllReadyH.cons rfl (fun K hK => ?_) AllReadyH.nil
      go_simp
      refine Calls.mono (HJ.out w8) ?_
      rintro e w9 ⟨rfl, hb9⟩
      have HS9 := Lib.hid (HS8.out.next hb9)
      have HN9 := Lib.hid (HN8.out.below hb9 HN8.out.lt)
      refine hK.out _ _ HN9.out (fun hHeld2 => ?_)
      clear hK K hb9 HS8 HN8 HJ
      try simp
      clear hHeld
      have hHeld := hHeld2
      clear hHeld2
      refine wpAnyH_ready (rs := [3]) (by kernel_rfl) (by simp) ?_
      refine AllReadyH.cons rfl (fun K hK => ?_) AllReadyH.nil
      refine step_stM rfl (.tmp 2) (.tmp 38) rfl w.heap.size 0 ⟨t, (s : Int), (n : Int)⟩ rfl rfl (HS9.out.blk.mvHas (m := zmv)) ?_
      have hR := HS9.out.ret ⟨t, (s : Int), (n : Int)⟩
      have hN10 : Blk (w9.setCells w.heap.size 0 (Mv.cs ⟨t, (s : Int), (n : Int)⟩)) g6 54 (Mv.cs ⟨t, (s : Int), (n : Int)⟩).toArray := HN9.out.chg (Chg.setCells (O := (· = w.heap.size)) (.inl rfl) _ _ (Chg.refl _ _)) (fun e => HG6.out e.symm)
      refine hK.out _ _ hN10 (fun hHeld2 => ?_)
      clear hK K hHeld hHeld2
      generalize w9.setCells w.heap.size 0 (Mv.cs ⟨t, (s : Int), (n : Int)⟩) = w10 at *
      try simp [Act.put]
      refine wpAnyH_take (i := 4) (v := (.bool (rightM ⟨t, (s : Int), (n : Int)⟩))) rfl (by kernel_rfl) (by kernel_rfl) (by kernel_rfl) (fun _ _ _ h => h) (Or.inl ⟨by rfl, ?_⟩) (by assumption) ?_
      · intro w' hS; go_simp; try with_reducible rfl
      try simp [Act.put]
      refine wpAnyH_done (by kernel_rfl) ?_ _
      go_wp2_with fail
      exact bodyPost_ret (results_row_tmp rfl _ _ _ _ _ _ _ rfl hR.1 Try.underlying54 rfl (sizeMv'' ⟨t, (s : Int), (n : Int)⟩)) rfl ⟨⟨t, (s : Int), (n : Int)⟩, by rw [HOK'.out]; rfl, (fun _ => HM.out.symm), hR.2⟩
    · skip
      go_simp
      have HN6 : Hid (Blk (w5.alloc (.cells zmv.cs.toArray 54)) w5.heap.size 54 zmv.cs.toArray) := Blk.new w5 _ _
      have HS6 : Hid (MvS w (w5.alloc (.cells zmv.cs.toArray 54)) b off x s n) := HS5.out.next (below_al _ _)
      refine hK.out _ _ HS6.out (fun hHeld2 => ?_)
      clear hK K
      try simp
      clear hHeld
      have hHeld := hHeld2
      clear hHeld2
      refine wpAnyH_ready (rs := [3]) (by kernel_rfl) (by simp) ?_
      refine AllReadyH.cons rfl (fun K hK => ?_) AllReadyH.nil
      go_simp
      refine Calls.mono (flag_true _) ?_
      rintro e wX ⟨rfl, hwX⟩
      rw [hwX]
      clear hwX wX
      refine hK.out _ _ HS6.out (fun hHeld2 => ?_)
      clear hK K
      try simp
      clear hHeld
      have hHeld := hHeld2
      clear hHeld2
      refine wpAnyH_take (i := 4) (v := (.bool t)) rfl (by kernel_rfl) (by kernel_rfl) (by kernel_rfl) (fun _ _ _ h => h) (Or.inl ⟨by rfl, ?_⟩) (by assumption) ?_
      · intro w' hS
        go_simp; first | with_reducible rfl | (rw [bit_eq, ← HTT.out])
      try simp [Act.put]
      refine wpAnyH_take (i := 14) (v := (.agg (Mv.cs ⟨t, (s : Int), (n : Int)⟩).toArray)) rfl (by kernel_rfl) (by kernel_rfl) (by kernel_rfl) (fun _ _ _ h => h) (Or.inl ⟨by rfl, ?_⟩) (by assumption) ?_
      · intro w' hS
        exact ex_build01 (.tmp 27) (.tmp 36) rfl (.bool t) (.agg #[.int .i64 (s : Int), .int .i64 (n : Int)]) _ rfl rfl (build_mv t (s : Int) (n : Int) _)
      try simp [Act.put]
      refine wpAnyH_ready (rs := [16]) (by kernel_rfl) (by simp) ?_
      refine AllReadyH.cons rfl (fun K hK => ?_) AllReadyH.nil
      refine step_stM rfl (.tmp 6) (.tmp 37) rfl w5.heap.size 0 ⟨t, (s : Int), (n : Int)⟩ rfl rfl (HN6.out.mvHas (m := zmv)) ?_
      have HN7 := Lib.hid (new_mv (w := w5) (x := ⟨t, (s : Int), (n : Int)⟩) rfl).1
      have HS7 := Lib.hid (HS5.out.next (new_mv (w := w5) (x := ⟨t, (s : Int), (n : Int)⟩) rfl).2)
      have HG6 : Hid (¬ w.heap.size = w5.heap.size) := Lib.hid (by have := HS5.out.blk.lt; omega)
      refine hK.out _ _ HS7.out (fun hHeld2 => ?_)
      clear hK K hHeld hHeld2 HS5 HS6 HN6 HTT
      generalize (w5.alloc (.cells zmv.cs.toArray 54)).setCells w5.heap.size 0 (Mv.cs ⟨t, (s : Int), (n : Int)⟩) = w7 at *
      generalize w5.heap.size = g6 at *
      try simp [Act.put]
      refine wpAnyH_done (by kernel_rfl) ?_ _
      go_wp2_with fail
      have HS8 : Hid (MvS w w7.drew b off x s n) := HS7.out.next (Below.refl _ _).drew
      have HN8 : Hid (Blk w7.drew g6 54 (Mv.cs ⟨t, (s : Int), (n : Int)⟩).toArray) := HN7.out.below (Below.refl _ _).drew HN7.out.lt
      clear HS7 HN7
      refine wp_region_held_drew (S := (fun w' => Blk w' g6 54 (Mv.cs ⟨t, (s : Int), (n : Int)⟩).toArray)) (by kernel_rfl) HN8.out (fun hHeld => ?_)
      generalize w7.drew = w8 at *
      refine wpAnyH_take (i := 0) (v := (.agg (Mv.cs ⟨t, (s : Int), (n : Int)⟩).toArray)) rfl (by kernel_rfl) (by kernel_rfl) (by kernel_rfl) (fun _ _ _ h => h) (Or.inl ⟨by rfl, ?_⟩) (by assumption) ?_
      · intro w' hS
        exact ex_ldMv (.tmp 6) rfl g6 ⟨t, (s : Int), (n : Int)⟩ rfl hS
      try simp [Act.put]
      refine wpAnyH_take (i := 1) (v := (.agg (Mv.cs ⟨t, (s : Int), (n : Int)⟩).toArray)) rfl (by kernel_rfl) (by kernel_rfl) (by kernel_rfl) (fun _ _ _ h => h) (Or.inl ⟨by rfl, ?_⟩) (by assumption) ?_
      · intro w' hS
        exact ex_ldMv (.tmp 6) rfl g6 ⟨t, (s : Int), (n : Int)⟩ rfl hS
      try simp [Act.put]
      refine wpAnyH_ready (rs := [2]) (by kernel_rfl) (by simp) ?_
      refine AllReadyH.cons rfl (fun K hK => ?_) AllReadyH.nil
      go_simp
      refine Calls.mono (HJ.out w8) ?_
      rintro e w9 ⟨rfl, hb9⟩
      have HS9 := Lib.hid (HS8.out.next hb9)
      have HN9 := Lib.hid (HN8.out.below hb9 HN8.out.lt)
      refine hK.out _ _ HN9.out (fun hHeld2 => ?_)
      clear hK K hb9 HS8 HN8 HJ
      try simp
      clear hHeld
      have hHeld := hHeld2
      clear hHeld2
      refine wpAnyH_ready (rs := [3]) (by kernel_rfl) (by simp) ?_
      refine AllReadyH.cons rfl (fun K hK => ?_) AllReadyH.nil
      refine step_stM rfl (.tmp 2) (.tmp 38) rfl w.heap.size 0 ⟨t, (s : Int), (n : Int)⟩ rfl rfl (HS9.out.blk.mvHas (m := zmv)) ?_
      have hR := HS9.out.ret ⟨t, (s : Int), (n : Int)⟩
      have hN10 : Blk (w9.setCells w.heap.size 0 (Mv.cs ⟨t, (s : Int), (n : Int)⟩)) g6 54 (Mv.cs ⟨t, (s : Int), (n : Int)⟩).toArray := HN9.out.chg (Chg.setCells (O := (· = w.heap.size)) (.inl rfl) _ _ (Chg.refl _ _)) (fun e => HG6.out e.symm)
      refine hK.out _ _ hN10 (fun hHeld2 => ?_)
      clear hK K hHeld hHeld2
      generalize w9.setCells w.heap.size 0 (Mv.cs ⟨t, (s : Int), (n : Int)⟩) = w10 at *
      try simp [Act.put]
      refine wpAnyH_take (i := 4) (v := (.bool (rightM ⟨t, (s : Int), (n : Int)⟩))) rfl (by kernel_rfl) (by kernel_rfl) (by kernel_rfl) (fun _ _ _ h => h) (Or.inl ⟨by rfl, ?_⟩) (by assumption) ?_
      · intro w' hS; go_simp; try with_reducible rfl
      try simp [Act.put]
      refine wpAnyH_done (by kernel_rfl) ?_ _
      go_wp2_with fail
      exact bodyPost_ret (results_row_tmp rfl _ _ _ _ _ _ _ rfl hR.1 Try.underlying54 rfl (sizeMv'' ⟨t, (s : Int), (n : Int)⟩)) rfl ⟨⟨t, (s : Int), (n : Int)⟩, by rw [HOK'.out]; rfl, (fun _ => HM.out.symm), hR.2⟩
end Go.Proofs.Ytklccgmhllpjkaa
