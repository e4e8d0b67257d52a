/- The laws on trees, walked over the calls' contracts: TreeHolds. -/
import Derived.Test.YtagkhicbngaghaaTC
set_option maxRecDepth 10000
namespace Go.Proofs.Ytagkhicbngaghaa
open Go.RowKit

/-- A whole array is stored in a block of its own. -/
theorem st_rowT {T : TypeId} {ops : Array Oper} {rest : List Oper} {o : Oper} {a : Act} {w : World} {Q : Exit → Act → World → Prop} (hgd : o.guard = none) (x y : Operand) (ho : o.op = .store T x y)
    (g : Nat) (cs cs' : Array Value) (hx : a.eval x = .pointer (some ⟨g, 0, none⟩)) (hy : a.eval y = .agg cs') (hg : Blk w g T cs) (hz : (Try.prog.info? T).map (·.size) = some cs'.size) (hs : cs.size = cs'.size) (h1 : cs'.all (·.oneCell') = true)
    (h : ∀ w', Blk w' g T cs' → Chg w w' (· = g) → wpList Try.prog ops Q rest (a.put o.dst undef) w') : wpList Try.prog ops Q (o :: rest) a w :=
  wpList_store_row hgd _ x y ho g cs' hx hy T cs hg hz hs h1
    (h _ (by unfold Blk at hg ⊢; simp [World.setRow, Array.getElem?_modify, hg]) ⟨rfl, rfl, rfl, by simp, fun k hk hn => by
      simp only [World.setRow, Array.getElem?_modify]
      rw [if_neg (fun e => hn e.symm)]⟩)
theorem cs64_one (T : Nat → Sec) : ∀ n, ∀ v ∈ cs64 T n, v.oneCell' = true
  | 0, v, h => by cases h
  | n + 1, v, h => (List.mem_append.1 h).elim (cs64_one T n v) ((T n).one v)
theorem bs64_one (p : Nat → Bool) (n : Nat) : (bs64 p n).all (·.oneCell') = true := all_one (cs := (List.range n).map fun i => Value.bool (p i)) fun v h => by
  simp only [List.mem_map] at h
  obtain ⟨i, _, rfl⟩ := h
  rfl
/-- What a call that turns the tree leaves, whatever it is called. -/
structure Turned2 (At : World → (Nat → Prop) → Nat → Pw → Prop) (w w' : World) (O O' : Nat → Prop) (g : Nat) (P' P2 : Pw) (q' q2 : PtrV) (code : Int) : Prop where
  at_ : At w' O' g P2
  step : Step w w' O O'
  p : P' = P2
  q : q' = q2
  c : code = 0
theorem blk_ta_row {w : World} {g base e size n : Nat} {v : Value} {xs : List Value} {x : TAct} (h1 : w.ownsRow base e size v n xs) (h2 : Blk w g 41 x.cs.toArray) (he : e ≠ 41) : ¬ v.ownBlock = some g := fun h => by
  obtain ⟨cs, hb⟩ := own_blk h1 h
  exact blk_ne hb h2 he rfl
section
variable {At : World → (Nat → Prop) → Nat → Pw → Prop}
set_option maxRecDepth 60000 in
set_option maxHeartbeats 8000000 in
theorem treeHolds_any (L : TreeCalls At) (w : World) (A0 : Option Addr) (c0 : Nat) (l0 : List TAct) (hR0 : Rd w w.heap.size A0 (flatT l0)) (hK0 : DataOk w w.heap.size l0) (x1 : Int) (hx1 : I64 x1) :
    Calls Try.prog 4 #[.slice A0 l0.length c0, .int .i64 x1] w fun e w' => e = .returned (.bool true) ∧ Below w.heap.size w w' := by
  have HT := Lib.hid (treeAlive_any L w)
  by_cases h30 : l0.length ≤ 40
  · have h30i : ¬ (40 : Int) < l0.length := by omega
    have h30j : (l0.length : Int) ≤ 40 := by omega
    by_cases hx0 : x1 < 0
    · clear hR0 hK0
      go_enter Try.func4, Try.ntmps4
      go_wp2_with (go_at_call 10; (with_reducible refine Calls.mono HT.out ?_); rintro e w1 ⟨rfl, hb1⟩; have HB1 := Lib.hid hb1; clear hb1 HT)
      go_ret
      exact ⟨rfl, HB1.out⟩
    by_cases hx6 : 63 < x1
    · clear hR0 hK0
      go_enter Try.func4, Try.ntmps4
      go_wp2_with (go_at_call 10; (with_reducible refine Calls.mono HT.out ?_); rintro e w1 ⟨rfl, hb1⟩; have HB1 := Lib.hid hb1; clear hb1 HT)
      go_ret
      exact ⟨rfl, HB1.out⟩
    obtain ⟨p, rfl⟩ := Int.eq_ofNat_of_zero_le (show 0 ≤ x1 by omega)
    have hp63 : (p : Int) ≤ 63 := by omega
    have HP64 : Hid (p < 64) := Lib.hid (by omega)
    have H30 := Lib.hid h30
    have HR0 := Lib.hid hR0
    have HK0 := Lib.hid hK0
    have HM := Lib.hid (fun W => L.made 200 W (by omega))
    have hz := zeroPtr
    have hzt := zeroTA
    have hzn := zero64
    have hbn := build64
    have hzb := zeroB64
    have hbb := buildB64
    clear hR0 hK0 h30 hx0 hx6 hx1
    obtain ⟨CN, hCN⟩ : ∃ CN, CN = (cs64 (fun _ => zsec) 64).toArray := ⟨_, rfl⟩
    rw [← hCN] at hzn hbn
    have HCN := Lib.hid hCN
    clear hCN
    obtain ⟨CB, hCB⟩ : ∃ CB, CB = bs64 (fun _ => false) 64 := ⟨_, rfl⟩
    rw [← hCB] at hzb hbb
    have HCB := Lib.hid hCB
    clear hCB
    go_enter Try.func4, Try.ntmps4
    go_upto_region 7 with (first
      | (go_at_call 10; (with_reducible refine Calls.mono HT.out ?_); rintro e w1 ⟨rfl, hb1⟩; have HB1 := Lib.hid hb1; clear hb1 HT)
      | (go_at_call 9; (with_reducible refine Calls.mono (HM.out _) ?_); rintro e w2 ⟨O2, g, rfl, h2, hO2, hb2⟩; have HM2 := Lib.hid (HasT.first HB1.out h2 hO2 hb2); clear HM HB1 h2 hO2 hb2))
    have HB3 := Lib.hid (below_al w2 (.cells (pcs 0 0 0) 32))
    have HR3 := Lib.hid (Blk.new w2 32 (pcs 0 0 0))
    generalize w2.alloc (.cells (pcs 0 0 0) 32) = w3 at *
    have hsn : (Try.prog.info? 35).map (·.size) = some CN.size := by rw [HCN.out]; exact size64 _
    have hon : CN.all (·.oneCell') = true := by rw [HCN.out]; exact all_one (cs64_one _ 64)
    have hsb : (Try.prog.info? 36).map (·.size) = some CB.size := by rw [HCB.out]; exact sizeB64 _
    have hob : CB.all (·.oneCell') = true := by rw [HCB.out]; exact bs64_one _ 64
    go_upto_region 8 with (refine st_rowT rfl (.tmp 7) (.tmp 38) rfl w3.heap.size CN CN rfl rfl (Blk.new w3 _ _) hsn rfl hon ?_; intro w4 hb4 hc4)
    have HB4 : Hid (Below w3.heap.size w3 w4) := Lib.hid ((below_al w3 _).trans (hc4.below (fun k e => by rw [e]; exact Nat.le_refl _) (below_al w3 _).size))
    have HN4 := Lib.hid hb4
    clear hb4 hc4 hsn hon hzn hbn
    go_upto_region 9 with (refine st_rowT rfl (.tmp 8) (.tmp 39) rfl w4.heap.size CB CB rfl rfl (Blk.new w4 _ _) hsb rfl hob ?_; intro w5 hb5 hc5)
    have HB5 : Hid (Below w4.heap.size w4 w5) := Lib.hid ((below_al w4 _).trans (hc5.below (fun k e => by rw [e]; exact Nat.le_refl _) (below_al w4 _).size))
    have HI5 := Lib.hid hb5
    clear hb5 hc5 hsb hob hzb hbb
    go_upto_region 10 with fail
    have HB6 := Lib.hid (below_al w5 (.cells #[] 32))
    have HQ6 := Lib.hid (ownQ_nil w5 w5.heap.size (Nat.le_refl _))
    generalize w5.alloc (.cells #[] 32) = w6 at *
    go_upto_region 11 with fail
    have HB7 := Lib.hid (below_al w6 (.cells #[] 23))
    have HT7 := Lib.hid (ownS_nil w6 w6.heap.size (Nat.le_refl _))
    have HL6 : Hid (w5.heap.size < w6.heap.size) := Lib.hid ((HQ6.out.lt _ rfl).2)
    generalize w6.alloc (.cells #[] 23) = w7 at *
    have HTM : Hid (TM At w w7 O2 g w2.heap.size w3.heap.size w4.heap.size w5.heap.size w6.heap.size (newPw (200 : Nat)) (0, 0, 0) (fun _ => zsec) (fun _ => false) [] [] (.slice (some ⟨w5.heap.size, 0, none⟩) 0 0) (.slice (some ⟨w6.heap.size, 0, none⟩) 0 0)) := by
      have l2 : w2.heap.size < w3.heap.size := HR3.out.lt
      have l3 : w3.heap.size < w4.heap.size := HN4.out.lt
      have l4 : w4.heap.size < w5.heap.size := HI5.out.lt
      have l5 := HL6.out
      have l6 : w6.heap.size < w7.heap.size := (HT7.out.lt _ rfl).2
      have b67 := HB7.out
      have b57 := HB6.out.trans (b67.mono HB6.out.size)
      have b47 := HB5.out.trans (b57.mono HB5.out.size)
      have b37 := HB4.out.trans (b47.mono HB4.out.size)
      have b27 := HB3.out.trans (b37.mono HB3.out.size)
      have hf : ∀ k, w2.heap.size ≤ k → ¬ O2 k := fun k hk ho => by have := L.foot HM2.out.at_ k ho; omega
      refine ⟨HM2.out.far L b27, ⟨HR3.out.below b37 HR3.out.lt, hf _ (Nat.le_refl _)⟩, ⟨by rw [← HCN.out]; exact HN4.out.below b47 HN4.out.lt, hf _ (by omega)⟩, ⟨by rw [← HCB.out]; exact HI5.out.below b57 HI5.out.lt, hf _ (by omega)⟩, ⟨own_far HQ6.out b67, fun k hk => ?_⟩, ⟨HT7.out, fun k hk => ?_⟩, fun k h1 h2 => ?_, HM2.out.below.size, l2, l3, l4, by omega, by omega, by omega⟩
      · obtain rfl : w5.heap.size = k := Option.some.inj hk
        exact hf _ (by omega)
      · obtain rfl : w6.heap.size = k := Option.some.inj hk
        exact hf _ (by omega)
      · obtain rfl : w5.heap.size = k := Option.some.inj h1
        have : w6.heap.size = w5.heap.size := Option.some.inj h2
        omega
    have HTD : Hid (TD (newPw (200 : Nat)) hole0 zp8 (fun _ => zp8) (fun _ => zsec) [] (fun _ => false) [] [] p 0) :=
      ⟨good_zero 200 (by omega) (by omega), isB_zero, hist_nil _ _, Nat.le_refl _, by have := count_new (200 : Nat); have e : (newMp ((200 : Nat) : Int)).tot = 200 := rfl; show (newMp ((200 : Nat) : Int)).count + 3 * 0 ≥ 196; omega, Nat.le_refl _⟩
    clear HB3 HB4 HB5 HB6 HB7 HR3 HN4 HI5 HQ6 HT7 HL6 HM2 HCN HCB
    generalize (Value.slice (some ⟨w6.heap.size, 0, none⟩) 0 0) = vt0 at *
    generalize (Value.slice (some ⟨w5.heap.size, 0, none⟩) 0 0) = vq0 at *
    generalize w6.heap.size = bt at *
    generalize w5.heap.size = bq at *
    generalize w4.heap.size = gi at *
    generalize w3.heap.size = gn at *
    generalize w2.heap.size = gr at *
    go_wp2_with fail
    go_loopw [44, 9, 10] (fun i vq vt wr => ∃ (k : Nat) (O : Nat → Prop) (P : Pw) (ra rb rc : Int) (F : P8) (S : Nat → P8) (T : Nat → Sec) (old : List PtrV) (b : Nat → Bool) (roots : List PtrV) (texts : List Sec), k ≤ l0.length ∧ i = .int .i64 (k : Int) ∧ TM At w wr O g gr gn gi bq bt P (ra, rb, rc) T b roots texts vq vt ∧ TD P (ra, rb, rc) F S T old b roots texts p k) (fun i _ _ _ => l0.length - (intOf i).toNat)
    case atStart => exact ⟨0, _, _, _, _, _, _, _, _, _, _, _, _, Nat.zero_le _, rfl, HTM.out, HTD.out⟩
    case round =>
      clear HTM HTD
      obtain ⟨k, O, P, ra, rb, rc, F, S, T, old, b, roots, texts, hk, rfl, hTM, hTD⟩ := hrel
      have HTM := Lib.hid hTM
      have HTD := Lib.hid hTD
      clear hTM hTD
      by_cases hlt : k < l0.length
      · have hki : (k : Int) < l0.length := by omega
        obtain ⟨bA, off, rfl, hbl, hr⟩ := rd_tact HR0.out k hlt
        have HRT : Hid (wr.rangeAt bA (off + k * 3) l0[k].cs) := fun j v hj => (HTM.out.has.below.cell (p := ⟨bA, off + k * 3 + j, none⟩) hbl).trans (hr j v hj)
        have HDK := Lib.hid (HK0.out _ (List.getElem_mem hlt))
        have HK := Lib.hid (show k < l0.length ∧ l0.length ≤ 40 from ⟨hlt, H30.out⟩)
        generalize l0[k] = x at *
        obtain ⟨xk, xn, xl, xa, xc, xhk, xhn⟩ := x
        clear hr hbl hlt hk
        go_upto_region 14 with (first
          | (with_reducible refine ld_ta rfl _ rfl bA (off + k * 3) ⟨xk, xn, xl, xa, xc, xhk, xhn⟩ rfl HRT.out ?_)
          | (with_reducible refine st_ta rfl _ _ rfl wr.heap.size 0 ⟨xk, xn, xl, xa, xc, xhk, xhn⟩ rfl rfl (Blk.taHas (Blk.new wr _ _)) ?_; intro wa hwa))
        have HBa := Lib.hid (new_ta hwa.out).2
        have HTT := Lib.hid (new_ta hwa.out).1
        have HG10 := Lib.hid (foot_ne L HTM.out.has.at_)
        have HTM4 := Lib.hid (HTM.out.later L HBa.out)
        have HGL : Hid (gr < wr.heap.size ∧ gn < wr.heap.size ∧ gi < wr.heap.size) := Lib.hid (And.intro HTM.out.box.blk.lt (And.intro HTM.out.now.blk.lt HTM.out.is.blk.lt))
        have HGW : Hid (w.heap.size ≤ wr.heap.size) := Lib.hid HTM.out.has.below.size
        clear hwa HTM HRT HBa
        generalize wr.heap.size = g10 at *
        have hc0 : wa.cell? ⟨g10, 0, none⟩ = some (.int .i64 xk) := HTT.out.taF.1
        have hc1 : wa.cell? ⟨g10, 1, none⟩ = some (.int .i64 xn) := HTT.out.taF.2.1
        have hc2 : wa.cell? ⟨g10, 2, none⟩ = some (.slice xa xl.length xc) := HTT.out.taF.2.2
        by_cases hx0 : xn < 0
        · skip
          go_wp2_with fail
          go_roundw
          case rel => exact ⟨k + 1, _, _, _, _, _, _, _, _, _, _, _, _, HK.out.1, by go_num, HTM4.out, HTD.out.wait⟩
          case measure => have := HK.out; simp [intOf]; omega
        by_cases hx6 : 63 < xn
        · skip
          go_wp2_with fail
          go_roundw
          case rel => exact ⟨k + 1, _, _, _, _, _, _, _, _, _, _, _, _, HK.out.1, by go_num, HTM4.out, HTD.out.wait⟩
          case measure => have := HK.out; simp [intOf]; omega
        by_cases hxl : (128 : Int) < xl.length
        · skip
          have hx0i : ¬ xn < 0 := hx0
          go_wp2_with fail
          go_roundw
          case rel => exact ⟨k + 1, _, _, _, _, _, _, _, _, _, _, _, _, HK.out.1, by go_num, HTM4.out, HTD.out.wait⟩
          case measure => have := HK.out; simp [intOf]; omega
        obtain ⟨n, rfl⟩ := Int.eq_ofNat_of_zero_le (show 0 ≤ xn by omega)
        have HN64 : Hid (n < 64) := Lib.hid (by omega)
        have hn63 : (n : Int) ≤ 63 := by omega
        have hn0 : (0 : Int) ≤ (n : Int) := by omega
        have hl128i : (xl.length : Int) ≤ 128 := by omega
        have HL128 : Hid (xl.length ≤ 128) := Lib.hid (by omega)
        clear hx0 hx6 hxl
        have HN9 : Hid (P.N ≤ 900000) := Lib.hid (by have := HTD.out.N; have := HK.out; omega)
        have HC3 : Hid (3 ≤ P.m.count) := Lib.hid (by have := HTD.out.cnt; have := HK.out; omega)
        go_upto_region 16 with fail
        by_cases h1 : xk = 1
        · subst h1
          obtain ⟨F2, S2, old2, hTD2⟩ := HTD.out.trim (by have := HK.out; omega) HN64.out
          have HN2 := (HTD.out.good.trim HN64.out (by have := HC3.out; omega)).1
          have TRM : Hid (Calls Try.prog 11 #[.pointer (some ⟨g, 0, none⟩), ptv ra rb rc, .int .i64 (n : Int)] wa fun e w' => ∃ O' B d, e = .returned (.tuple #[ptq (trimQ P (ra, rb, rc) F S n), .slice B (trimO (ra, rb, rc) F S n).length d, .int .i64 0]) ∧ At w' O' g (trimP P F S n) ∧ RdF wa w' O' B (pqs (trimO (ra, rb, rc) F S n)) ∧ Step wa w' O O') :=
            Lib.hid (L.trim n HN64.out HTM4.out.has.at_ HTD.out.good.ok HTD.out.good.tree HN2 HN9.out)
          clear HN2
          obtain ⟨T2, hT2⟩ : ∃ T2, T2 = setT T n zsec := ⟨_, rfl⟩
          obtain ⟨b2, hb2⟩ : ∃ b2, b2 = setB b n false := ⟨_, rfl⟩
          rw [← hT2, ← hb2] at hTD2
          have HT2 := Lib.hid hT2
          have HB2 := Lib.hid hb2
          clear hT2 hb2
          have HTD2 := Lib.hid hTD2
          clear hTD2
          generalize trimP P F S n = P2 at *
          generalize trimQ P (ra, rb, rc) F S n = q2 at *
          obtain ⟨qa, qb, qc⟩ := q2
          generalize (trimO (ra, rb, rc) F S n).length = mo at *
          have HBX := Lib.hid HTM4.out.box.blk
          go_upto_region 18 with (first
            | (refine ld_ptr rfl (.tmp 6) rfl gr 32 ra rb rc rfl HBX.out ?_)
            | (go_at_call 11; (with_reducible refine Calls.mono TRM.out ?_); rintro e w6 ⟨O6, B6, d6, rfl, h6, _, s6⟩; have HTM6 := Lib.hid (HTM4.out.step h6 s6); have HTT6 := Lib.hid (HTT.out.chg s6.chg HG10.out); have HG6 : Hid (¬ O6 g10) := Lib.hid (fun ho => (s6.new g10 ho).elim HG10.out fun h => by have := HTT.out.lt; omega); clear h6 s6 TRM)
            | (refine st_pt2 rfl (.tmp 6) (.tmp 71) rfl gr (pcs ra rb rc) qa qb qc rfl rfl HTM6.out.box.blk rfl ?_; intro w7 hb7 hc7))
          have HTM7 := Lib.hid (HTM6.out.setBox (q' := (qa, qb, qc)) L (hc7 (· = gr) rfl) hb7)
          have HTT7 := Lib.hid (HTT6.out.chg (hc7 (· = gr) rfl) (by have := HGL.out; omega))
          clear HTM6 HTT6 HBX hb7 hc7 HTM4 HTT hc0 hc1 hc2
          have hc1 : w7.cell? ⟨g10, 1, none⟩ = some (.int .i64 (n : Int)) := HTT7.out.taF.2.1
          have hbz := buildZ
          go_upto_region 19 with (with_reducible refine st_sec rfl (.tmp 77) (.tmp 76) rfl gn (n * 128) zsec rfl rfl (blk64_there HTM7.out.now.blk HN64.out) ?_; intro w8 hw8)
          have hch8 : Chg w7 w8 (· = gn) := by rw [hw8.out]; exact Chg.setCells (O := (· = gn)) (.inl rfl) _ _ (Chg.refl _ _)
          have HTM8 := Lib.hid (HTM7.out.setNow (T' := T2) L hch8 (by rw [hw8.out, HT2.out]; exact blk64_set HTM7.out.now.blk HN64.out zsec))
          have HTT8 := Lib.hid (HTT7.out.chg hch8 (by have := HGL.out; omega))
          clear hch8 hw8 HTM7 HTT7 hc1 hbz
          have hc1 : w8.cell? ⟨g10, 1, none⟩ = some (.int .i64 (n : Int)) := HTT8.out.taF.2.1
          have hci : w8.cell? ⟨gi, n, none⟩ = some (.bool (b n)) := (HTM8.out.is.blk.cell n).trans (bs64_at b HN64.out)
          have hfi := HTM8.out.is.blk.frozen n
          go_upto_region 23 with fail
          have HTM9 : Hid (TM At w (w8.setCell ⟨gi, n, none⟩ (.bool false)) O6 g gr gn gi bq bt _ (qa, qb, qc) T2 b2 roots texts _ _) := Lib.hid (HTM8.out.setIs L ((Chg.refl w8 (· = gi)).setCell (p := ⟨gi, n, none⟩) (.inl rfl) _) (by
            have h9 := HTM8.out.is.blk.set_ n (.bool false)
            rw [bs64_set (q := setB b n false) HN64.out (by unfold setB; rw [if_pos rfl]) (fun j hj => by unfold setB; rw [if_neg hj])] at h9
            exact h9.trans (by rw [HB2.out])))
          clear hci hfi HTM8
          generalize w8.setCell ⟨gi, n, none⟩ (.bool false) = w9 at *
          go_upto_region 25 with fail
          have HTM25 := HTM9
          clear HTM9
          have HBX := Lib.hid HTM25.out.box.blk
          go_upto_region 26 with (first
            | (refine ld_ptr rfl (.tmp 6) rfl gr 32 qa qb qc rfl HBX.out ?_)
            | (at_builtin; refine app_ptr rfl 105 107 rfl bq _ roots rfl HTM25.out.rq.own (qa, qb, qc) w9.heap.size rfl rfl HTM25.out.lo.2.2.2.2.2.1 (by have := HTD.out.len; have := HK.out; omega) ?_; intro vq2 wb ho hg hn
               have HTM26 := Lib.hid (HTM25.out.growQ L (below_al w9 _) hg ho hn)
               clear ho hg hn))
          clear HTM25 HBX
          have HNW := Lib.hid (blk64_is HTM26.out.now.blk HP64.out)
          have HTP : Hid (T2 p = T2 p) := rfl
          generalize hxp : T2 p = xp at HTD2 HNW HTP
          go_upto_region 27 with (first
            | (refine ld_sec rfl (.tmp 111) rfl gn (p * 128) xp rfl HNW.out ?_)
            | (refine bsl_sec rfl (.tmp 112) rfl xp rfl ?_)
            | (at_builtin; refine app_sec rfl 109 113 rfl bt _ texts rfl HTM26.out.rt.own xp wb.heap.size rfl rfl HTM26.out.lo.2.2.2.2.2.2 (by rw [HTD.out.hist.len]; have := HTD.out.len; have := HK.out; omega) ?_; intro vt2 wc ho hg hn
               have HTM27 := Lib.hid (HTM26.out.growS L (below_al wb _) hg ho hn)
               clear ho hg hn))
          go_wp2_with fail
          go_roundw
          case rel => exact ⟨k + 1, _, _, qa, qb, qc, _, _, T2, _, b2, _, _, HK.out.1, by go_num, HTM27.out, HTD2.out⟩
          case measure => have := HK.out; simp [intOf]; omega
        · have h1i : (xk == 1) = false := beq_eq_false_iff_ne.2 h1
          obtain ⟨F2, S2, old2, hTD2⟩ := HTD.out.set (by have := HK.out; omega) HN64.out HL128.out
          obtain ⟨T2, hT2⟩ : ∃ T2, T2 = setT T n (blockS xl) := ⟨_, rfl⟩
          obtain ⟨b2, hb2⟩ : ∃ b2, b2 = setB b n true := ⟨_, rfl⟩
          obtain ⟨P9, hP9⟩ : ∃ P9, P9 = setP P F S n xl := ⟨_, rfl⟩
          obtain ⟨q9, hq9⟩ : ∃ q9, q9 = setQ P F S n xl := ⟨_, rfl⟩
          rw [← hT2, ← hb2, ← hP9, ← hq9] at hTD2
          have HT2 := Lib.hid hT2
          have HB2 := Lib.hid hb2
          have HTD2 := Lib.hid hTD2
          have HPQ := Lib.hid (And.intro hP9 hq9)
          clear hT2 hb2 hTD2 hP9 hq9
          obtain ⟨qa, qb, qc⟩ := q9
          go_upto_region 20 with fail
          have hd4 := (Below.refl wa.heap.size wa).drew
          have HSL := Lib.hid (HTM4.out.later L hd4)
          have HS6 : Hid (Blk wa.drew gr 32 (pcs ra rb rc) ∧ Blk wa.drew g10 41 (TAct.cs ⟨xk, (n : Int), xl, xa, xc, xhk, xhn⟩).toArray) := ⟨HSL.out.box.blk, HTT.out.below hd4 HTT.out.lt⟩
          have HD : Hid (Rd wa.drew wa.drew.heap.size xa (bys xl)) := (HDK.out.1.below HSL.out.has.below).mono HSL.out.has.below.size
          have HDL : Hid (xl.length ≤ 140737488355328) := Nat.le_trans HDK.out.2 (by omega)
          have HFO : Hid (∀ j, O j → j < wa.drew.heap.size) := fun j hj => L.foot HSL.out.has.at_ j hj
          clear HTM4 HTT hc0 hc1 hc2 hd4
          refine wp_region_held_drew (S := (fun w' => Blk w' g10 41 (TAct.cs ⟨xk, (n : Int), xl, xa, xc, xhk, xhn⟩).toArray)) (by kernel_rfl) HS6.out.2 (fun hHeld => ?_)
          generalize wa.drew = w6 at *
          have SET : Hid (∀ W, Below w6.heap.size w6 W → ∀ A c, RdA W O A (bys xl) → xl.length ≤ c → Calls Try.prog 12 #[.pointer (some ⟨g, 0, none⟩), ptq (ra, rb, rc), .int .i64 (n : Int), .slice A xl.length c] W fun e w' => ∃ O' P' q' kk B d code, e = .returned (.tuple #[ptq q', .slice B (kk : List PtrV).length d, .int .i64 code]) ∧ Turned2 At W w' O O' g P9 P' (qa, qb, qc) q' code) := Lib.hid (fun W hb A c hr hlc => by
            refine (L.set n A c xl HN64.out (HSL.out.later L hb).has.at_ HTD.out.good.ok HTD.out.good.tree hr HL128.out hlc HC3.out HN9.out).mono ?_
            rintro e w' ⟨O', B, d, rfl, h1, _, h3⟩
            exact ⟨O', _, _, oldL F S (ra, rb, rc) n, B, d, _, rfl, h1, h3, HPQ.out.1, HPQ.out.2, rfl⟩)
          have HB : Hid (Below w6.heap.size w6 w6) := Below.refl _ _
          have HLr := Lib.hid HS6.out.1.lt
          have HLt := Lib.hid HS6.out.2.lt
          generalize hbs : w6.heap.size = bs at *
          have HBS := Lib.hid (HSz.mk hbs)
          clear hbs
          refine wpAnyH_take (i := 0) (v := (.pointer (some ⟨g, 0, none⟩))) rfl (by kernel_rfl) (by kernel_rfl) (by kernel_rfl) (fun _ _ _ h => h) (Or.inl ⟨by rfl, ?_⟩) (by assumption) ?_
          · intro w' hS; go_simp; try with_reducible rfl
          try simp [Act.put]
          refine wpAnyH_take (i := 2) (v := (.pointer (some ⟨g10, 1, none⟩))) rfl (by kernel_rfl) (by kernel_rfl) (by kernel_rfl) (fun _ _ _ h => h) (Or.inl ⟨by rfl, ?_⟩) (by assumption) ?_
          · intro w' hS; go_simp; try with_reducible rfl
          try simp [Act.put]
          refine wpAnyH_take (i := 3) (v := (.int .i64 (n : Int))) rfl (by kernel_rfl) (by kernel_rfl) (by kernel_rfl) (fun _ _ _ h => h) (Or.inl ⟨by rfl, ?_⟩) (by assumption) ?_
          · intro w' hS
            have hcc := hS.taF.2.1
            go_simp; try with_reducible rfl
          try simp [Act.put]
          refine wpAnyH_take (i := 5) (v := (.pointer (some ⟨g10, 2, none⟩))) rfl (by kernel_rfl) (by kernel_rfl) (by kernel_rfl) (fun _ _ _ h => h) (Or.inl ⟨by rfl, ?_⟩) (by assumption) ?_
          · intro w' hS; go_simp; try with_reducible rfl
          try simp [Act.put]
          refine wpAnyH_take (i := 6) (v := (.slice xa xl.length xc)) rfl (by kernel_rfl) (by kernel_rfl) (by kernel_rfl) (fun _ _ _ h => h) (Or.inl ⟨by rfl, ?_⟩) (by assumption) ?_
          · intro w' hS
            have hcc := hS.taF.2.2
            go_simp; try with_reducible rfl
          try simp [Act.put]
          refine wpAnyH_ready (rs := [1, 4]) (by kernel_rfl) (by simp) ?_
          refine (AllReadyH.cons rfl (fun K hK => ?_) (AllReadyH.cons rfl (fun K hK => ?_) AllReadyH.nil))
          · skip
            refine step_ldPt rfl (.tmp 6) rfl gr ra rb rc rfl (HS6.out.1.below HB.out HLr.out) ?_
            refine hK.out _ _ (HS6.out.2.below HB.out HLt.out) (fun hHeld2 => ?_)
            clear hK K
            try simp
            clear hHeld
            have hHeld := hHeld2
            clear hHeld2
            refine wpAnyH_ready (rs := [4]) (by kernel_rfl) (by simp) ?_
            refine (AllReadyH.cons rfl (fun K hK => ?_) AllReadyH.nil)
            go_simp
            have HBn := Lib.hid (HB.out.alloc (bsz HBS.out HB.out) (.cells #[] 5))
            have HE := Lib.hid (ownB_nil w6 bs (bsz HBS.out HB.out))
            refine hK.out _ _ (HS6.out.2.below HBn.out HLt.out) (fun hHeld2 => ?_)
            clear hK K HB
            have HB := HBn
            clear HBn
            generalize w6.alloc (.cells #[] 5) = wb0 at *
            generalize w6.heap.size = gE at *
            try simp
            clear hHeld
            have hHeld := hHeld2
            clear hHeld2
            refine wpAnyH_ready (rs := [7]) (by kernel_rfl) (by simp) ?_
            refine (AllReadyH.cons rfl (fun K hK => ?_) AllReadyH.nil)
            refine step_copyB rfl 86 88 rfl bs gE rfl HE.out _ xa xl.length xc xl rfl rfl (HD.out.below HB.out) HDL.out (bsz HBS.out HB.out) ?_
            intro A7 c7 wl1 hown hc7 hgr
            have HBn := Lib.hid (below_own HB.out HE.out (Nat.le_refl _) (bsz HBS.out HB.out) hgr)
            have HL := Lib.hid hown
            have HL7 := Lib.hid hc7
            refine hK.out _ _ (HS6.out.2.below HBn.out HLt.out) (fun hHeld2 => ?_)
            clear hK K hown hc7 hgr HB HE
            have HB := HBn
            clear HBn
            skip
            try simp
            clear hHeld
            have hHeld := hHeld2
            clear hHeld2
            refine wpAnyH_ready (rs := [8]) (by kernel_rfl) (by simp) ?_
            refine (AllReadyH.cons rfl (fun K hK => ?_) AllReadyH.nil)
            go_simp
            refine Calls.mono (SET.out wl1 HB.out A7 c7 (own_rdA HL.out HFO.out) HL7.out) ?_
            rintro e ws2 ⟨O2, P2, ⟨ra2, rb2, rc2⟩, kk, B2, d2, code, rfl, hch⟩
            have HC := Lib.hid hch
            have HSw := Lib.hid (HSL.out.later L (bsub HBS.out HB.out))
            have HSs : Hid (Blk ws2 gr 32 (pcs ra rb rc) ∧ Blk ws2 g10 41 (TAct.cs ⟨xk, (n : Int), xl, xa, xc, xhk, xhn⟩).toArray) := ⟨(HSw.out.box.step hch.step).blk, (HS6.out.2.below HB.out HLt.out).chg hch.step.chg HG10.out⟩
            refine hK.out _ _ HSs.out.2 (fun hHeld2 => ?_)
            clear hK K hch SET HL HL7
            skip
            try simp
            clear hHeld
            have hHeld := hHeld2
            clear hHeld2
            refine wpAnyH_take (i := 9) (v := (.tuple #[ptq (ra2, rb2, rc2), .slice B2 kk.length d2, .int .i64 code])) rfl (by kernel_rfl) (by kernel_rfl) (by kernel_rfl) (fun _ _ _ h => h) (Or.inl ⟨by rfl, ?_⟩) (by assumption) ?_
            · intro w' hS; go_simp; try with_reducible rfl
            try simp [Act.put]
            refine wpAnyH_take (i := 10) (v := (ptq (ra2, rb2, rc2))) rfl (by kernel_rfl) (by kernel_rfl) (by kernel_rfl) (fun _ _ _ h => h) (Or.inl ⟨by rfl, ?_⟩) (by assumption) ?_
            · intro w' hS; go_simp; try with_reducible rfl
            try simp [Act.put]
            refine wpAnyH_take (i := 11) (v := (.slice B2 kk.length d2)) rfl (by kernel_rfl) (by kernel_rfl) (by kernel_rfl) (fun _ _ _ h => h) (Or.inl ⟨by rfl, ?_⟩) (by assumption) ?_
            · intro w' hS; go_simp; try with_reducible rfl
            try simp [Act.put]
            refine wpAnyH_take (i := 12) (v := (.int .i64 code)) rfl (by kernel_rfl) (by kernel_rfl) (by kernel_rfl) (fun _ _ _ h => h) (Or.inl ⟨by rfl, ?_⟩) (by assumption) ?_
            · intro w' hS; go_simp; try with_reducible rfl
            try simp [Act.put]
            refine wpAnyH_ready (rs := [13]) (by kernel_rfl) (by simp) ?_
            refine AllReadyH.cons rfl (fun K hK => ?_) AllReadyH.nil
            refine step_stPt rfl (.tmp 6) (.tmp 91) rfl gr ra2 rb2 rc2 ra rb rc rfl rfl HSs.out.1 ?_
            intro wz hbz _ hcz
            have HTMc := Lib.hid (HSw.out.step HC.out.at_ HC.out.step)
            have HTM7 := Lib.hid (HTMc.out.setBox (q' := (ra2, rb2, rc2)) L (hcz (· = gr) rfl) hbz)
            have HTT7 := Lib.hid (HSs.out.2.chg (hcz (· = gr) rfl) (by have := HGL.out; omega))
            refine hK.out _ _ HTT7.out (fun hHeld2 => ?_)
            clear hK K HSs hcz hbz HTMc
            try simp
            clear hHeld
            have hHeld := hHeld2
            clear hHeld2
            refine wpAnyH_take (i := 14) (v := (.int .i64 code)) rfl (by kernel_rfl) (by kernel_rfl) (by kernel_rfl) (fun _ _ _ h => h) (Or.inl ⟨by rfl, ?_⟩) (by assumption) ?_
            · intro w' hS; go_simp; try with_reducible rfl
            try simp [Act.put]
            refine wpAnyH_done (by kernel_rfl) ?_ _
            clear hHeld
            obtain rfl := HC.out.c
            obtain rfl := HC.out.p
            have hqq := HC.out.q
            simp only [Prod.mk.injEq] at hqq
            obtain ⟨rfl, rfl, rfl⟩ := hqq
            clear HC HSw HSL HB HBS HLr HLt HS6 HD HDL HFO HPQ
            go_wp2_with fail
            have hd7 := (Below.refl wz.heap.size wz).drew
            have HTM8 := Lib.hid (HTM7.out.later L hd7)
            have HTT8 := Lib.hid (HTT7.out.below hd7 HTT7.out.lt)
            have HRB := Lib.hid (rblock_any xa xc xl wz.drew ((HDK.out.1.below HTM8.out.has.below).mono HTM8.out.has.below.size) (Nat.le_trans HDK.out.2 (by omega)))
            clear hd7 HTM7 HTT7
            refine wp_region_held_drew (S := (fun w' => Blk w' g10 41 (TAct.cs ⟨xk, (n : Int), xl, xa, xc, xhk, xhn⟩).toArray)) (by kernel_rfl) HTT8.out (fun hHeld => ?_)
            generalize wz.drew = wy at *
            refine wpAnyH_take (i := 0) (v := (.pointer (some ⟨g10, 1, none⟩))) rfl (by kernel_rfl) (by kernel_rfl) (by kernel_rfl) (fun _ _ _ h => h) (Or.inl ⟨by rfl, ?_⟩) (by assumption) ?_
            · intro w' hS; go_simp; try with_reducible rfl
            try simp [Act.put]
            refine wpAnyH_take (i := 1) (v := (.int .i64 (n : Int))) rfl (by kernel_rfl) (by kernel_rfl) (by kernel_rfl) (fun _ _ _ h => h) (Or.inl ⟨by rfl, ?_⟩) (by assumption) ?_
            · intro w' hS
              have hcc := hS.taF.2.1
              go_simp; try with_reducible rfl
            try simp [Act.put]
            refine wpAnyH_take (i := 2) (v := (.pointer (some ⟨g10, 2, none⟩))) rfl (by kernel_rfl) (by kernel_rfl) (by kernel_rfl) (fun _ _ _ h => h) (Or.inl ⟨by rfl, ?_⟩) (by assumption) ?_
            · intro w' hS; go_simp; try with_reducible rfl
            try simp [Act.put]
            refine wpAnyH_take (i := 3) (v := (.slice xa xl.length xc)) rfl (by kernel_rfl) (by kernel_rfl) (by kernel_rfl) (fun _ _ _ h => h) (Or.inl ⟨by rfl, ?_⟩) (by assumption) ?_
            · intro w' hS
              have hcc := hS.taF.2.2
              go_simp; try with_reducible rfl
            try simp [Act.put]
            refine wpAnyH_ready (rs := [4]) (by kernel_rfl) (by simp) ?_
            refine AllReadyH.cons rfl (fun K hK => ?_) AllReadyH.nil
            go_simp
            refine Calls.mono (HRB.out) ?_
            rintro e wX ⟨rfl, hbX⟩
            refine hK.out _ _ (HTT8.out.below hbX HTT8.out.lt) (fun hHeld2 => ?_)
            clear hK K
            try simp
            clear hHeld
            have hHeld := hHeld2
            clear hHeld2
            have HTM9 := Lib.hid (HTM8.out.later L hbX)
            have HTT9 := Lib.hid (HTT8.out.below hbX HTT8.out.lt)
            clear hbX HTM8 HTT8 HRB
            refine wpAnyH_take (i := 5) (v := (.pointer (some ⟨gn, n * 128, none⟩))) rfl (by kernel_rfl) (by kernel_rfl) (by kernel_rfl) (fun _ _ _ h => h) (Or.inl ⟨by rfl, ?_⟩) (by assumption) ?_
            · intro w' hS
              go_simp
              intro h64
              omega
            try simp [Act.put]
            refine wpAnyH_ready (rs := [6]) (by kernel_rfl) (by simp) ?_
            refine AllReadyH.cons rfl (fun K hK => ?_) AllReadyH.nil
            refine step_st rfl (.tmp 99) (.tmp 98) rfl gn (n * 128) (blockS xl) rfl rfl (blk64_there HTM9.out.now.blk HN64.out) ?_
            have hch8 : Chg wX (wX.setCells gn (n * 128) (blockS xl).cs) (· = gn) := Chg.setCells (O := (· = gn)) (.inl rfl) _ _ (Chg.refl _ _)
            have HTM8 := Lib.hid (HTM9.out.setNow (T' := T2) L hch8 (by rw [HT2.out]; exact blk64_set HTM9.out.now.blk HN64.out (blockS xl)))
            have HTT8 := Lib.hid (HTT9.out.chg hch8 (by have := HGL.out; omega))
            refine hK.out _ _ HTT8.out (fun hHeld2 => ?_)
            clear hK K HTM9 HTT9 hch8
            generalize wX.setCells gn (n * 128) (blockS xl).cs = w8 at *
            try simp
            clear hHeld
            have hHeld := hHeld2
            clear hHeld2
            refine wpAnyH_done (by kernel_rfl) ?_ _
            clear hHeld
            have hc1 : w8.cell? ⟨g10, 1, none⟩ = some (.int .i64 (n : Int)) := HTT8.out.taF.2.1
            have hci : w8.cell? ⟨gi, n, none⟩ = some (.bool (b n)) := (HTM8.out.is.blk.cell n).trans (bs64_at b HN64.out)
            have hfi := HTM8.out.is.blk.frozen n
            go_upto_region 23 with fail
            have HTM9 : Hid (TM At w (w8.setCell ⟨gi, n, none⟩ (.bool true)) O2 g gr gn gi bq bt _ (qa, qb, qc) T2 b2 roots texts _ _) := Lib.hid (HTM8.out.setIs L ((Chg.refl w8 (· = gi)).setCell (p := ⟨gi, n, none⟩) (.inl rfl) _) (by
              have h9 := HTM8.out.is.blk.set_ n (.bool true)
              rw [bs64_set (q := setB b n true) HN64.out (by unfold setB; rw [if_pos rfl]) (fun j hj => by unfold setB; rw [if_neg hj])] at h9
              exact h9.trans (by rw [HB2.out])))
            clear hci hfi HTM8
            generalize w8.setCell ⟨gi, n, none⟩ (.bool true) = w9 at *
            go_upto_region 25 with fail
            have HTM25 := HTM9
            clear HTM9
            have HBX := Lib.hid HTM25.out.box.blk
            go_upto_region 26 with (first
              | (refine ld_ptr rfl (.tmp 6) rfl gr 32 qa qb qc rfl HBX.out ?_)
              | (at_builtin; refine app_ptr rfl 105 107 rfl bq _ roots rfl HTM25.out.rq.own (qa, qb, qc) w9.heap.size rfl rfl HTM25.out.lo.2.2.2.2.2.1 (by have := HTD.out.len; have := HK.out; omega) ?_; intro vq2 wb ho hg hn
                 have HTM26 := Lib.hid (HTM25.out.growQ L (below_al w9 _) hg ho hn)
                 clear ho hg hn))
            clear HTM25 HBX
            have HNW := Lib.hid (blk64_is HTM26.out.now.blk HP64.out)
            have HTP : Hid (T2 p = T2 p) := rfl
            generalize hxp : T2 p = xp at HTD2 HNW HTP
            go_upto_region 27 with (first
              | (refine ld_sec rfl (.tmp 111) rfl gn (p * 128) xp rfl HNW.out ?_)
              | (refine bsl_sec rfl (.tmp 112) rfl xp rfl ?_)
              | (at_builtin; refine app_sec rfl 109 113 rfl bt _ texts rfl HTM26.out.rt.own xp wb.heap.size rfl rfl HTM26.out.lo.2.2.2.2.2.2 (by rw [HTD.out.hist.len]; have := HTD.out.len; have := HK.out; omega) ?_; intro vt2 wc ho hg hn
                 have HTM27 := Lib.hid (HTM26.out.growS L (below_al wb _) hg ho hn)
                 clear ho hg hn))
            go_wp2_with fail
            go_roundw
            case rel => exact ⟨k + 1, _, _, qa, qb, qc, _, _, T2, _, b2, _, _, HK.out.1, by go_num, HTM27.out, HTD2.out⟩
            case measure => have := HK.out; simp [intOf]; omega
          · skip
            go_simp
            have HBn := Lib.hid (HB.out.alloc (bsz HBS.out HB.out) (.cells #[] 5))
            have HE := Lib.hid (ownB_nil w6 bs (bsz HBS.out HB.out))
            refine hK.out _ _ (HS6.out.2.below HBn.out HLt.out) (fun hHeld2 => ?_)
            clear hK K HB
            have HB := HBn
            clear HBn
            generalize w6.alloc (.cells #[] 5) = wb0 at *
            generalize w6.heap.size = gE at *
            try simp
            clear hHeld
            have hHeld := hHeld2
            clear hHeld2
            refine wpAnyH_ready (rs := [1, 7]) (by kernel_rfl) (by simp) ?_
            refine (AllReadyH.cons rfl (fun K hK => ?_) (AllReadyH.cons rfl (fun K hK => ?_) AllReadyH.nil))
            · skip
              refine step_ldPt rfl (.tmp 6) rfl gr ra rb rc rfl (HS6.out.1.below HB.out HLr.out) ?_
              refine hK.out _ _ (HS6.out.2.below HB.out HLt.out) (fun hHeld2 => ?_)
              clear hK K
              try simp
              clear hHeld
              have hHeld := hHeld2
              clear hHeld2
              refine wpAnyH_ready (rs := [7]) (by kernel_rfl) (by simp) ?_
              refine (AllReadyH.cons rfl (fun K hK => ?_) AllReadyH.nil)
              refine step_copyB rfl 86 88 rfl bs gE rfl HE.out _ xa xl.length xc xl rfl rfl (HD.out.below HB.out) HDL.out (bsz HBS.out HB.out) ?_
              intro A7 c7 wl1 hown hc7 hgr
              have HBn := Lib.hid (below_own HB.out HE.out (Nat.le_refl _) (bsz HBS.out HB.out) hgr)
              have HL := Lib.hid hown
              have HL7 := Lib.hid hc7
              refine hK.out _ _ (HS6.out.2.below HBn.out HLt.out) (fun hHeld2 => ?_)
              clear hK K hown hc7 hgr HB HE
              have HB := HBn
              clear HBn
              skip
              try simp
              clear hHeld
              have hHeld := hHeld2
              clear hHeld2
              refine wpAnyH_ready (rs := [8]) (by kernel_rfl) (by simp) ?_
              refine (AllReadyH.cons rfl (fun K hK => ?_) AllReadyH.nil)
              go_simp
              refine Calls.mono (SET.out wl1 HB.out A7 c7 (own_rdA HL.out HFO.out) HL7.out) ?_
              rintro e ws2 ⟨O2, P2, ⟨ra2, rb2, rc2⟩, kk, B2, d2, code, rfl, hch⟩
              have HC := Lib.hid hch
              have HSw := Lib.hid (HSL.out.later L (bsub HBS.out HB.out))
              have HSs : Hid (Blk ws2 gr 32 (pcs ra rb rc) ∧ Blk ws2 g10 41 (TAct.cs ⟨xk, (n : Int), xl, xa, xc, xhk, xhn⟩).toArray) := ⟨(HSw.out.box.step hch.step).blk, (HS6.out.2.below HB.out HLt.out).chg hch.step.chg HG10.out⟩
              refine hK.out _ _ HSs.out.2 (fun hHeld2 => ?_)
              clear hK K hch SET HL HL7
              skip
              try simp
              clear hHeld
              have hHeld := hHeld2
              clear hHeld2
              refine wpAnyH_take (i := 9) (v := (.tuple #[ptq (ra2, rb2, rc2), .slice B2 kk.length d2, .int .i64 code])) rfl (by kernel_rfl) (by kernel_rfl) (by kernel_rfl) (fun _ _ _ h => h) (Or.inl ⟨by rfl, ?_⟩) (by assumption) ?_
              · intro w' hS; go_simp; try with_reducible rfl
              try simp [Act.put]
              refine wpAnyH_take (i := 10) (v := (ptq (ra2, rb2, rc2))) rfl (by kernel_rfl) (by kernel_rfl) (by kernel_rfl) (fun _ _ _ h => h) (Or.inl ⟨by rfl, ?_⟩) (by assumption) ?_
              · intro w' hS; go_simp; try with_reducible rfl
              try simp [Act.put]
              refine wpAnyH_take (i := 11) (v := (.slice B2 kk.length d2)) rfl (by kernel_rfl) (by kernel_rfl) (by kernel_rfl) (fun _ _ _ h => h) (Or.inl ⟨by rfl, ?_⟩) (by assumption) ?_
              · intro w' hS; go_simp; try with_reducible rfl
              try simp [Act.put]
              refine wpAnyH_take (i := 12) (v := (.int .i64 code)) rfl (by kernel_rfl) (by kernel_rfl) (by kernel_rfl) (fun _ _ _ h => h) (Or.inl ⟨by rfl, ?_⟩) (by assumption) ?_
              · intro w' hS; go_simp; try with_reducible rfl
              try simp [Act.put]
              refine wpAnyH_ready (rs := [13]) (by kernel_rfl) (by simp) ?_
              refine AllReadyH.cons rfl (fun K hK => ?_) AllReadyH.nil
              refine step_stPt rfl (.tmp 6) (.tmp 91) rfl gr ra2 rb2 rc2 ra rb rc rfl rfl HSs.out.1 ?_
              intro wz hbz _ hcz
              have HTMc := Lib.hid (HSw.out.step HC.out.at_ HC.out.step)
              have HTM7 := Lib.hid (HTMc.out.setBox (q' := (ra2, rb2, rc2)) L (hcz (· = gr) rfl) hbz)
              have HTT7 := Lib.hid (HSs.out.2.chg (hcz (· = gr) rfl) (by have := HGL.out; omega))
              refine hK.out _ _ HTT7.out (fun hHeld2 => ?_)
              clear hK K HSs hcz hbz HTMc
              try simp
              clear hHeld
              have hHeld := hHeld2
              clear hHeld2
              refine wpAnyH_take (i := 14) (v := (.int .i64 code)) rfl (by kernel_rfl) (by kernel_rfl) (by kernel_rfl) (fun _ _ _ h => h) (Or.inl ⟨by rfl, ?_⟩) (by assumption) ?_
              · intro w' hS; go_simp; try with_reducible rfl
              try simp [Act.put]
              refine wpAnyH_done (by kernel_rfl) ?_ _
              clear hHeld
              obtain rfl := HC.out.c
              obtain rfl := HC.out.p
              have hqq := HC.out.q
              simp only [Prod.mk.injEq] at hqq
              obtain ⟨rfl, rfl, rfl⟩ := hqq
              clear HC HSw HSL HB HBS HLr HLt HS6 HD HDL HFO HPQ
              go_wp2_with fail
              have hd7 := (Below.refl wz.heap.size wz).drew
              have HTM8 := Lib.hid (HTM7.out.later L hd7)
              have HTT8 := Lib.hid (HTT7.out.below hd7 HTT7.out.lt)
              have HRB := Lib.hid (rblock_any xa xc xl wz.drew ((HDK.out.1.below HTM8.out.has.below).mono HTM8.out.has.below.size) (Nat.le_trans HDK.out.2 (by omega)))
              clear hd7 HTM7 HTT7
              refine wp_region_held_drew (S := (fun w' => Blk w' g10 41 (TAct.cs ⟨xk, (n : Int), xl, xa, xc, xhk, xhn⟩).toArray)) (by kernel_rfl) HTT8.out (fun hHeld => ?_)
              generalize wz.drew = wy at *
              refine wpAnyH_take (i := 0) (v := (.pointer (some ⟨g10, 1, none⟩))) rfl (by kernel_rfl) (by kernel_rfl) (by kernel_rfl) (fun _ _ _ h => h) (Or.inl ⟨by rfl, ?_⟩) (by assumption) ?_
              · intro w' hS; go_simp; try with_reducible rfl
              try simp [Act.put]
              refine wpAnyH_take (i := 1) (v := (.int .i64 (n : Int))) rfl (by kernel_rfl) (by kernel_rfl) (by kernel_rfl) (fun _ _ _ h => h) (Or.inl ⟨by rfl, ?_⟩) (by assumption) ?_
              · intro w' hS
                have hcc := hS.taF.2.1
                go_simp; try with_reducible rfl
              try simp [Act.put]
              refine wpAnyH_take (i := 2) (v := (.pointer (some ⟨g10, 2, none⟩))) rfl (by kernel_rfl) (by kernel_rfl) (by kernel_rfl) (fun _ _ _ h => h) (Or.inl ⟨by rfl, ?_⟩) (by assumption) ?_
              · intro w' hS; go_simp; try with_reducible rfl
              try simp [Act.put]
              refine wpAnyH_take (i := 3) (v := (.slice xa xl.length xc)) rfl (by kernel_rfl) (by kernel_rfl) (by kernel_rfl) (fun _ _ _ h => h) (Or.inl ⟨by rfl, ?_⟩) (by assumption) ?_
              · intro w' hS
                have hcc := hS.taF.2.2
                go_simp; try with_reducible rfl
              try simp [Act.put]
              refine wpAnyH_ready (rs := [4]) (by kernel_rfl) (by simp) ?_
              refine AllReadyH.cons rfl (fun K hK => ?_) AllReadyH.nil
              go_simp
              refine Calls.mono (HRB.out) ?_
              rintro e wX ⟨rfl, hbX⟩
              refine hK.out _ _ (HTT8.out.below hbX HTT8.out.lt) (fun hHeld2 => ?_)
              clear hK K
              try simp
              clear hHeld
              have hHeld := hHeld2
              clear hHeld2
              have HTM9 := Lib.hid (HTM8.out.later L hbX)
              have HTT9 := Lib.hid (HTT8.out.below hbX HTT8.out.lt)
              clear hbX HTM8 HTT8 HRB
              refine wpAnyH_take (i := 5) (v := (.pointer (some ⟨gn, n * 128, none⟩))) rfl (by kernel_rfl) (by kernel_rfl) (by kernel_rfl) (fun _ _ _ h => h) (Or.inl ⟨by rfl, ?_⟩) (by assumption) ?_
              · intro w' hS
                go_simp
                intro h64
                omega
              try simp [Act.put]
              refine wpAnyH_ready (rs := [6]) (by kernel_rfl) (by simp) ?_
              refine AllReadyH.cons rfl (fun K hK => ?_) AllReadyH.nil
              refine step_st rfl (.tmp 99) (.tmp 98) rfl gn (n * 128) (blockS xl) rfl rfl (blk64_there HTM9.out.now.blk HN64.out) ?_
              have hch8 : Chg wX (wX.setCells gn (n * 128) (blockS xl).cs) (· = gn) := Chg.setCells (O := (· = gn)) (.inl rfl) _ _ (Chg.refl _ _)
              have HTM8 := Lib.hid (HTM9.out.setNow (T' := T2) L hch8 (by rw [HT2.out]; exact blk64_set HTM9.out.now.blk HN64.out (blockS xl)))
              have HTT8 := Lib.hid (HTT9.out.chg hch8 (by have := HGL.out; omega))
              refine hK.out _ _ HTT8.out (fun hHeld2 => ?_)
              clear hK K HTM9 HTT9 hch8
              generalize wX.setCells gn (n * 128) (blockS xl).cs = w8 at *
              try simp
              clear hHeld
              have hHeld := hHeld2
              clear hHeld2
              refine wpAnyH_done (by kernel_rfl) ?_ _
              clear hHeld
              have hc1 : w8.cell? ⟨g10, 1, none⟩ = some (.int .i64 (n : Int)) := HTT8.out.taF.2.1
              have hci : w8.cell? ⟨gi, n, none⟩ = some (.bool (b n)) := (HTM8.out.is.blk.cell n).trans (bs64_at b HN64.out)
              have hfi := HTM8.out.is.blk.frozen n
              go_upto_region 23 with fail
              have HTM9 : Hid (TM At w (w8.setCell ⟨gi, n, none⟩ (.bool true)) O2 g gr gn gi bq bt _ (qa, qb, qc) T2 b2 roots texts _ _) := Lib.hid (HTM8.out.setIs L ((Chg.refl w8 (· = gi)).setCell (p := ⟨gi, n, none⟩) (.inl rfl) _) (by
                have h9 := HTM8.out.is.blk.set_ n (.bool true)
                rw [bs64_set (q := setB b n true) HN64.out (by unfold setB; rw [if_pos rfl]) (fun j hj => by unfold setB; rw [if_neg hj])] at h9
                exact h9.trans (by rw [HB2.out])))
              clear hci hfi HTM8
              generalize w8.setCell ⟨gi, n, none⟩ (.bool true) = w9 at *
              go_upto_region 25 with fail
              have HTM25 := HTM9
              clear HTM9
              have HBX := Lib.hid HTM25.out.box.blk
              go_upto_region 26 with (first
                | (refine ld_ptr rfl (.tmp 6) rfl gr 32 qa qb qc rfl HBX.out ?_)
                | (at_builtin; refine app_ptr rfl 105 107 rfl bq _ roots rfl HTM25.out.rq.own (qa, qb, qc) w9.heap.size rfl rfl HTM25.out.lo.2.2.2.2.2.1 (by have := HTD.out.len; have := HK.out; omega) ?_; intro vq2 wb ho hg hn
                   have HTM26 := Lib.hid (HTM25.out.growQ L (below_al w9 _) hg ho hn)
                   clear ho hg hn))
              clear HTM25 HBX
              have HNW := Lib.hid (blk64_is HTM26.out.now.blk HP64.out)
              have HTP : Hid (T2 p = T2 p) := rfl
              generalize hxp : T2 p = xp at HTD2 HNW HTP
              go_upto_region 27 with (first
                | (refine ld_sec rfl (.tmp 111) rfl gn (p * 128) xp rfl HNW.out ?_)
                | (refine bsl_sec rfl (.tmp 112) rfl xp rfl ?_)
                | (at_builtin; refine app_sec rfl 109 113 rfl bt _ texts rfl HTM26.out.rt.own xp wb.heap.size rfl rfl HTM26.out.lo.2.2.2.2.2.2 (by rw [HTD.out.hist.len]; have := HTD.out.len; have := HK.out; omega) ?_; intro vt2 wc ho hg hn
                   have HTM27 := Lib.hid (HTM26.out.growS L (below_al wb _) hg ho hn)
                   clear ho hg hn))
              go_wp2_with fail
              go_roundw
              case rel => exact ⟨k + 1, _, _, qa, qb, qc, _, _, T2, _, b2, _, _, HK.out.1, by go_num, HTM27.out, HTD2.out⟩
              case measure => have := HK.out; simp [intOf]; omega
            · skip
              refine step_copyB rfl 86 88 rfl bs gE rfl HE.out _ xa xl.length xc xl rfl rfl (HD.out.below HB.out) HDL.out (bsz HBS.out HB.out) ?_
              intro A7 c7 wl1 hown hc7 hgr
              have HBn := Lib.hid (below_own HB.out HE.out (Nat.le_refl _) (bsz HBS.out HB.out) hgr)
              have HL := Lib.hid hown
              have HL7 := Lib.hid hc7
              refine hK.out _ _ (HS6.out.2.below HBn.out HLt.out) (fun hHeld2 => ?_)
              clear hK K hown hc7 hgr HB HE
              have HB := HBn
              clear HBn
              skip
              try simp
              clear hHeld
              have hHeld := hHeld2
              clear hHeld2
              refine wpAnyH_ready (rs := [1]) (by kernel_rfl) (by simp) ?_
              refine (AllReadyH.cons rfl (fun K hK => ?_) AllReadyH.nil)
              refine step_ldPt rfl (.tmp 6) rfl gr ra rb rc rfl (HS6.out.1.below HB.out HLr.out) ?_
              refine hK.out _ _ (HS6.out.2.below HB.out HLt.out) (fun hHeld2 => ?_)
              clear hK K
              try simp
              clear hHeld
              have hHeld := hHeld2
              clear hHeld2
              refine wpAnyH_ready (rs := [8]) (by kernel_rfl) (by simp) ?_
              refine (AllReadyH.cons rfl (fun K hK => ?_) AllReadyH.nil)
              go_simp
              refine Calls.mono (SET.out wl1 HB.out A7 c7 (own_rdA HL.out HFO.out) HL7.out) ?_
              rintro e ws2 ⟨O2, P2, ⟨ra2, rb2, rc2⟩, kk, B2, d2, code, rfl, hch⟩
              have HC := Lib.hid hch
              have HSw := Lib.hid (HSL.out.later L (bsub HBS.out HB.out))
              have HSs : Hid (Blk ws2 gr 32 (pcs ra rb rc) ∧ Blk ws2 g10 41 (TAct.cs ⟨xk, (n : Int), xl, xa, xc, xhk, xhn⟩).toArray) := ⟨(HSw.out.box.step hch.step).blk, (HS6.out.2.below HB.out HLt.out).chg hch.step.chg HG10.out⟩
              refine hK.out _ _ HSs.out.2 (fun hHeld2 => ?_)
              clear hK K hch SET HL HL7
              skip
              try simp
              clear hHeld
              have hHeld := hHeld2
              clear hHeld2
              refine wpAnyH_take (i := 9) (v := (.tuple #[ptq (ra2, rb2, rc2), .slice B2 kk.length d2, .int .i64 code])) rfl (by kernel_rfl) (by kernel_rfl) (by kernel_rfl) (fun _ _ _ h => h) (Or.inl ⟨by rfl, ?_⟩) (by assumption) ?_
              · intro w' hS; go_simp; try with_reducible rfl
              try simp [Act.put]
              refine wpAnyH_take (i := 10) (v := (ptq (ra2, rb2, rc2))) rfl (by kernel_rfl) (by kernel_rfl) (by kernel_rfl) (fun _ _ _ h => h) (Or.inl ⟨by rfl, ?_⟩) (by assumption) ?_
              · intro w' hS; go_simp; try with_reducible rfl
              try simp [Act.put]
              refine wpAnyH_take (i := 11) (v := (.slice B2 kk.length d2)) rfl (by kernel_rfl) (by kernel_rfl) (by kernel_rfl) (fun _ _ _ h => h) (Or.inl ⟨by rfl, ?_⟩) (by assumption) ?_
              · intro w' hS; go_simp; try with_reducible rfl
              try simp [Act.put]
              refine wpAnyH_take (i := 12) (v := (.int .i64 code)) rfl (by kernel_rfl) (by kernel_rfl) (by kernel_rfl) (fun _ _ _ h => h) (Or.inl ⟨by rfl, ?_⟩) (by assumption) ?_
              · intro w' hS; go_simp; try with_reducible rfl
              try simp [Act.put]
              refine wpAnyH_ready (rs := [13]) (by kernel_rfl) (by simp) ?_
              refine AllReadyH.cons rfl (fun K hK => ?_) AllReadyH.nil
              refine step_stPt rfl (.tmp 6) (.tmp 91) rfl gr ra2 rb2 rc2 ra rb rc rfl rfl HSs.out.1 ?_
              intro wz hbz _ hcz
              have HTMc := Lib.hid (HSw.out.step HC.out.at_ HC.out.step)
              have HTM7 := Lib.hid (HTMc.out.setBox (q' := (ra2, rb2, rc2)) L (hcz (· = gr) rfl) hbz)
              have HTT7 := Lib.hid (HSs.out.2.chg (hcz (· = gr) rfl) (by have := HGL.out; omega))
              refine hK.out _ _ HTT7.out (fun hHeld2 => ?_)
              clear hK K HSs hcz hbz HTMc
              try simp
              clear hHeld
              have hHeld := hHeld2
              clear hHeld2
              refine wpAnyH_take (i := 14) (v := (.int .i64 code)) rfl (by kernel_rfl) (by kernel_rfl) (by kernel_rfl) (fun _ _ _ h => h) (Or.inl ⟨by rfl, ?_⟩) (by assumption) ?_
              · intro w' hS; go_simp; try with_reducible rfl
              try simp [Act.put]
              refine wpAnyH_done (by kernel_rfl) ?_ _
              clear hHeld
              obtain rfl := HC.out.c
              obtain rfl := HC.out.p
              have hqq := HC.out.q
              simp only [Prod.mk.injEq] at hqq
              obtain ⟨rfl, rfl, rfl⟩ := hqq
              clear HC HSw HSL HB HBS HLr HLt HS6 HD HDL HFO HPQ
              go_wp2_with fail
              have hd7 := (Below.refl wz.heap.size wz).drew
              have HTM8 := Lib.hid (HTM7.out.later L hd7)
              have HTT8 := Lib.hid (HTT7.out.below hd7 HTT7.out.lt)
              have HRB := Lib.hid (rblock_any xa xc xl wz.drew ((HDK.out.1.below HTM8.out.has.below).mono HTM8.out.has.below.size) (Nat.le_trans HDK.out.2 (by omega)))
              clear hd7 HTM7 HTT7
              refine wp_region_held_drew (S := (fun w' => Blk w' g10 41 (TAct.cs ⟨xk, (n : Int), xl, xa, xc, xhk, xhn⟩).toArray)) (by kernel_rfl) HTT8.out (fun hHeld => ?_)
              generalize wz.drew = wy at *
              refine wpAnyH_take (i := 0) (v := (.pointer (some ⟨g10, 1, none⟩))) rfl (by kernel_rfl) (by kernel_rfl) (by kernel_rfl) (fun _ _ _ h => h) (Or.inl ⟨by rfl, ?_⟩) (by assumption) ?_
              · intro w' hS; go_simp; try with_reducible rfl
              try simp [Act.put]
              refine wpAnyH_take (i := 1) (v := (.int .i64 (n : Int))) rfl (by kernel_rfl) (by kernel_rfl) (by kernel_rfl) (fun _ _ _ h => h) (Or.inl ⟨by rfl, ?_⟩) (by assumption) ?_
              · intro w' hS
                have hcc := hS.taF.2.1
                go_simp; try with_reducible rfl
              try simp [Act.put]
              refine wpAnyH_take (i := 2) (v := (.pointer (some ⟨g10, 2, none⟩))) rfl (by kernel_rfl) (by kernel_rfl) (by kernel_rfl) (fun _ _ _ h => h) (Or.inl ⟨by rfl, ?_⟩) (by assumption) ?_
              · intro w' hS; go_simp; try with_reducible rfl
              try simp [Act.put]
              refine wpAnyH_take (i := 3) (v := (.slice xa xl.length xc)) rfl (by kernel_rfl) (by kernel_rfl) (by kernel_rfl) (fun _ _ _ h => h) (Or.inl ⟨by rfl, ?_⟩) (by assumption) ?_
              · intro w' hS
                have hcc := hS.taF.2.2
                go_simp; try with_reducible rfl
              try simp [Act.put]
              refine wpAnyH_ready (rs := [4]) (by kernel_rfl) (by simp) ?_
              refine AllReadyH.cons rfl (fun K hK => ?_) AllReadyH.nil
              go_simp
              refine Calls.mono (HRB.out) ?_
              rintro e wX ⟨rfl, hbX⟩
              refine hK.out _ _ (HTT8.out.below hbX HTT8.out.lt) (fun hHeld2 => ?_)
              clear hK K
              try simp
              clear hHeld
              have hHeld := hHeld2
              clear hHeld2
              have HTM9 := Lib.hid (HTM8.out.later L hbX)
              have HTT9 := Lib.hid (HTT8.out.below hbX HTT8.out.lt)
              clear hbX HTM8 HTT8 HRB
              refine wpAnyH_take (i := 5) (v := (.pointer (some ⟨gn, n * 128, none⟩))) rfl (by kernel_rfl) (by kernel_rfl) (by kernel_rfl) (fun _ _ _ h => h) (Or.inl ⟨by rfl, ?_⟩) (by assumption) ?_
              · intro w' hS
                go_simp
                intro h64
                omega
              try simp [Act.put]
              refine wpAnyH_ready (rs := [6]) (by kernel_rfl) (by simp) ?_
              refine AllReadyH.cons rfl (fun K hK => ?_) AllReadyH.nil
              refine step_st rfl (.tmp 99) (.tmp 98) rfl gn (n * 128) (blockS xl) rfl rfl (blk64_there HTM9.out.now.blk HN64.out) ?_
              have hch8 : Chg wX (wX.setCells gn (n * 128) (blockS xl).cs) (· = gn) := Chg.setCells (O := (· = gn)) (.inl rfl) _ _ (Chg.refl _ _)
              have HTM8 := Lib.hid (HTM9.out.setNow (T' := T2) L hch8 (by rw [HT2.out]; exact blk64_set HTM9.out.now.blk HN64.out (blockS xl)))
              have HTT8 := Lib.hid (HTT9.out.chg hch8 (by have := HGL.out; omega))
              refine hK.out _ _ HTT8.out (fun hHeld2 => ?_)
              clear hK K HTM9 HTT9 hch8
              generalize wX.setCells gn (n * 128) (blockS xl).cs = w8 at *
              try simp
              clear hHeld
              have hHeld := hHeld2
              clear hHeld2
              refine wpAnyH_done (by kernel_rfl) ?_ _
              clear hHeld
              have hc1 : w8.cell? ⟨g10, 1, none⟩ = some (.int .i64 (n : Int)) := HTT8.out.taF.2.1
              have hci : w8.cell? ⟨gi, n, none⟩ = some (.bool (b n)) := (HTM8.out.is.blk.cell n).trans (bs64_at b HN64.out)
              have hfi := HTM8.out.is.blk.frozen n
              go_upto_region 23 with fail
              have HTM9 : Hid (TM At w (w8.setCell ⟨gi, n, none⟩ (.bool true)) O2 g gr gn gi bq bt _ (qa, qb, qc) T2 b2 roots texts _ _) := Lib.hid (HTM8.out.setIs L ((Chg.refl w8 (· = gi)).setCell (p := ⟨gi, n, none⟩) (.inl rfl) _) (by
                have h9 := HTM8.out.is.blk.set_ n (.bool true)
                rw [bs64_set (q := setB b n true) HN64.out (by unfold setB; rw [if_pos rfl]) (fun j hj => by unfold setB; rw [if_neg hj])] at h9
                exact h9.trans (by rw [HB2.out])))
              clear hci hfi HTM8
              generalize w8.setCell ⟨gi, n, none⟩ (.bool true) = w9 at *
              go_upto_region 25 with fail
              have HTM25 := HTM9
              clear HTM9
              have HBX := Lib.hid HTM25.out.box.blk
              go_upto_region 26 with (first
                | (refine ld_ptr rfl (.tmp 6) rfl gr 32 qa qb qc rfl HBX.out ?_)
                | (at_builtin; refine app_ptr rfl 105 107 rfl bq _ roots rfl HTM25.out.rq.own (qa, qb, qc) w9.heap.size rfl rfl HTM25.out.lo.2.2.2.2.2.1 (by have := HTD.out.len; have := HK.out; omega) ?_; intro vq2 wb ho hg hn
                   have HTM26 := Lib.hid (HTM25.out.growQ L (below_al w9 _) hg ho hn)
                   clear ho hg hn))
              clear HTM25 HBX
              have HNW := Lib.hid (blk64_is HTM26.out.now.blk HP64.out)
              have HTP : Hid (T2 p = T2 p) := rfl
              generalize hxp : T2 p = xp at HTD2 HNW HTP
              go_upto_region 27 with (first
                | (refine ld_sec rfl (.tmp 111) rfl gn (p * 128) xp rfl HNW.out ?_)
                | (refine bsl_sec rfl (.tmp 112) rfl xp rfl ?_)
                | (at_builtin; refine app_sec rfl 109 113 rfl bt _ texts rfl HTM26.out.rt.own xp wb.heap.size rfl rfl HTM26.out.lo.2.2.2.2.2.2 (by rw [HTD.out.hist.len]; have := HTD.out.len; have := HK.out; omega) ?_; intro vt2 wc ho hg hn
                   have HTM27 := Lib.hid (HTM26.out.growS L (below_al wb _) hg ho hn)
                   clear ho hg hn))
              go_wp2_with fail
              go_roundw
              case rel => exact ⟨k + 1, _, _, qa, qb, qc, _, _, T2, _, b2, _, _, HK.out.1, by go_num, HTM27.out, HTD2.out⟩
              case measure => have := HK.out; simp [intOf]; omega
      · obtain rfl : k = l0.length := by omega
        clear hlt hk
        obtain ⟨A1, c1, rfl, _⟩ := lowQ HTM.out.rq.own
        obtain ⟨A2, c2, rfl, _⟩ := lowS HTM.out.rt.own
        have HLEN : Hid (texts.length = roots.length) := HTD.out.hist.len
        have hlr : (roots.length : Int) ≤ 40 := by have := HTD.out.len; have := H30.out; omega
        go_wp2_with fail
        go_loopw [118] (fun i wr => ∃ (k : Nat) (O : Nat → Prop), k ≤ roots.length ∧ i = .int .i64 (k : Int) ∧ TM At w wr O g gr gn gi bq bt P (ra, rb, rc) T b roots texts (.slice A1 roots.length c1) (.slice A2 texts.length c2)) (fun i _ => roots.length - (intOf i).toNat)
        case atStart => exact ⟨0, _, Nat.zero_le _, rfl, HTM.out⟩
        case round =>
          clear HTM
          obtain ⟨k, O3, hk, rfl, hTM⟩ := hrel
          have HTM := Lib.hid hTM
          clear hTM
          by_cases hlt : k < roots.length
          · have hki : (k : Int) < roots.length := by omega
            have hkt : k < texts.length := by rw [HLEN.out]; exact hlt
            have hkti : (k : Int) < texts.length := by omega
            obtain ⟨F3, S3, T3, ht3, he3⟩ := HTD.out.hist.each k hlt hkt
            obtain ⟨bb, off1, rfl, hy1, hy2⟩ := HTM.out.root hlt
            clear hy1 hy2
            obtain ⟨bc, off2, rfl⟩ := HTM.out.text hkt
            have GET : Hid (∀ W O', At W O' g P → Calls Try.prog 8 #[.pointer (some ⟨g, 0, none⟩), ptq roots[k], .int .i64 (p : Int)] W fun e w' => ∃ O'', e = .returned (.tuple #[.agg texts[k].cs.toArray, .int .i64 0]) ∧ At w' O'' g P ∧ Step W w' O' O'') :=
              Lib.hid fun W O' ha => by rw [he3]; exact L.get p HP64.out ha HTD.out.good.ok ht3
            obtain ⟨qk, hqk⟩ : ∃ x, roots[k] = x := ⟨_, rfl⟩
            obtain ⟨sk, hsk⟩ : ∃ x, texts[k] = x := ⟨_, rfl⟩
            rw [hqk, hsk] at GET
            obtain ⟨qa, qb, qc⟩ := qk
            have HQK := Lib.hid (show ∃ h : k < roots.length, roots[k] = (qa, qb, qc) from ⟨hlt, hqk⟩)
            have HSK := Lib.hid (show ∃ h : k < texts.length, texts[k] = sk from ⟨hkt, hsk⟩)
            clear hqk hsk ht3 he3 hlt hkt hk
            obtain ⟨hr0, hr1, hr2⟩ := HTM.out.rootAt HQK.out.1 HQK.out.2
            have hzz := zeroSec
            go_upto_region 32 with (first
              | (refine wpList_valD 126 rfl _ (ex_ldPo (.tmp 125) rfl bb (off1 + k * 3) qa qb qc rfl hr0 hr1 hr2) (by rfl) ?_)
              | (go_at_call 8; (with_reducible refine Calls.mono (GET.out _ _ HTM.out.has.at_) ?_); rintro e w5 ⟨O5, rfl, h5, s5⟩; have HTM5 := Lib.hid (HTM.out.step h5 s5); clear h5 s5 GET)
              | (refine st_sec rfl (.tmp 15) (.tmp 129) rfl w5.heap.size 0 sk rfl rfl (Blk.new w5 _ _).secHas ?_; intro w6 hw6))
            have hb6 : Blk w6 w5.heap.size 23 sk.cs.toArray := by rw [hw6.out]; exact (Blk.new w5 _ _).secAll sk
            have hB6 : Below w5.heap.size w5 w6 := by rw [hw6.out]; exact Below.setCells _ (Nat.le_refl _) _ _ (below_al w5 _)
            have HTM10 := Lib.hid (HTM5.out.later L hB6)
            have HG10b := Lib.hid hb6
            clear hw6 hb6 hB6 HTM5 HTM hr0 hr1 hr2 hzz
            generalize w5.heap.size = g6 at *
            have hd6 := (Below.refl w6.heap.size w6).drew
            have HTM11 := Lib.hid (HTM10.out.later L hd6)
            have hS6 : w6.drew.rangeAt g6 0 sk.cs ∧ w6.drew.rangeAt bc (off2 + k * 128) sk.cs := ⟨(HG10b.out.below hd6 HG10b.out.lt).secIs, HTM11.out.textAt HSK.out.1 HSK.out.2⟩
            clear hd6 HTM10 HG10b
            refine wp_region_held_drew (S := (fun w' => w'.rangeAt g6 0 sk.cs ∧ w'.rangeAt bc (off2 + k * 128) sk.cs)) (by kernel_rfl) hS6 (fun hHeld => ?_)
            clear hS6
            generalize w6.drew = w7 at *
            refine wpAnyH_take (i := 0) (v := (.int .i64 0)) rfl (by kernel_rfl) (by kernel_rfl) (by kernel_rfl) (fun _ _ _ h => h) (Or.inl ⟨by rfl, ?_⟩) (by assumption) ?_
            · intro w' hS; go_simp; try with_reducible rfl
            try simp [Act.put]
            refine wpAnyH_take (i := 1) (v := (.bool false)) rfl (by kernel_rfl) (by kernel_rfl) (by kernel_rfl) (fun _ _ _ h => h) (Or.inl ⟨by rfl, ?_⟩) (by assumption) ?_
            · intro w' hS; go_simp; try with_reducible rfl
            try simp [Act.put]
            refine wpAnyH_take (i := 2) (v := (.bool false)) rfl (by kernel_rfl) (by kernel_rfl) (by kernel_rfl) (fun _ _ _ h => h) (Or.inl ⟨by rfl, ?_⟩) (by assumption) ?_
            · intro w' hS; go_simp; try with_reducible rfl
            try simp [Act.put]
            refine wpAnyH_take (i := 3) (v := (.agg sk.cs.toArray)) rfl (by kernel_rfl) (by kernel_rfl) (by kernel_rfl) (fun _ _ _ h => h) (Or.inl ⟨by rfl, ?_⟩) (by assumption) ?_
            · intro w' hS
              exact ex_ldSo (.tmp 15) rfl g6 0 sk rfl hS.1
            try simp [Act.put]
            refine wpAnyH_take (i := 4) (v := (.slice (some ⟨bc, off2, none⟩) texts.length c2)) rfl (by kernel_rfl) (by kernel_rfl) (by kernel_rfl) (fun _ _ _ h => h) (Or.inl ⟨by rfl, ?_⟩) (by assumption) ?_
            · intro w' hS; go_simp; try with_reducible rfl
            try simp [Act.put]
            refine wpAnyH_take (i := 5) (v := (.int .i64 (k : Int))) rfl (by kernel_rfl) (by kernel_rfl) (by kernel_rfl) (fun _ _ _ h => h) (Or.inl ⟨by rfl, ?_⟩) (by assumption) ?_
            · intro w' hS; go_simp; try with_reducible rfl
            try simp [Act.put]
            refine wpAnyH_take (i := 6) (v := (.pointer (some ⟨bc, off2 + k * 128, none⟩))) rfl (by kernel_rfl) (by kernel_rfl) (by kernel_rfl) (fun _ _ _ h => h) (Or.inl ⟨by rfl, ?_⟩) (by assumption) ?_
            · intro w' hS; go_simp; try with_reducible rfl
            try simp [Act.put]
            refine wpAnyH_take (i := 7) (v := (.agg sk.cs.toArray)) rfl (by kernel_rfl) (by kernel_rfl) (by kernel_rfl) (fun _ _ _ h => h) (Or.inl ⟨by rfl, ?_⟩) (by assumption) ?_
            · intro w' hS
              exact ex_ldSo (.tmp 137) rfl bc (off2 + k * 128) sk rfl hS.2
            try simp [Act.put]
            refine wpAnyH_take (i := 8) (v := (.bool false)) rfl (by kernel_rfl) (by kernel_rfl) (by kernel_rfl) (fun _ _ _ h => h) (Or.inl ⟨by rfl, ?_⟩) (by assumption) ?_
            · intro w' hS
              exact ex_neSelf (.tmp 134) (.tmp 138) rfl sk rfl rfl
            try simp [Act.put]
            refine wpAnyH_take (i := 9) (v := (.bool false)) rfl (by kernel_rfl) (by kernel_rfl) (by kernel_rfl) (fun _ _ _ h => h) (Or.inl ⟨by rfl, ?_⟩) (by assumption) ?_
            · intro w' hS; go_simp; try with_reducible rfl
            try simp [Act.put]
            refine wpAnyH_done (by kernel_rfl) ?_ _
            clear hHeld
            go_wp2_with fail
            go_roundw
            case rel => exact ⟨k + 1, _, HQK.out.1, by go_num, HTM11.out⟩
            case measure => have := HQK.out.1; simp [intOf]; omega
          · obtain rfl : k = roots.length := by omega
            clear hlt hk
            have BLK := Lib.hid (L.blocks HTM.out.has.at_ HTD.out.good.ok HTD.out.good.tree)
            have HBX := Lib.hid HTM.out.box.blk
            go_upto_region 36 with (first
              | (refine ld_ptr rfl (.tmp 6) rfl gr 32 ra rb rc rfl HBX.out ?_)
              | (go_at_call 14; (with_reducible refine Calls.mono BLK.out ?_); rintro e w5 ⟨O5, B5, d5, rfl, h5, r5, s5⟩; have HTM5 := Lib.hid (HTM.out.step h5 s5); have HR5 := Lib.hid r5.toRdA; clear h5 s5 r5 BLK))
            go_upto_region 37 with fail
            have hal := below_al w5 (.cells #[] 3)
            have HTB : Hid (TB At w (w5.alloc (.cells #[] 3)) O5 g gr gn gi w5.heap.size P (ra, rb, rc) T b B5 (natI64 (blkL S))) := Lib.hid ⟨HTM5.out.has.far L hal, HTM5.out.box.later hal, HTM5.out.now.later hal, HTM5.out.is.later hal, HR5.out.far hal, fun k off e hn => by
              obtain ⟨k', off', e', hl, _⟩ := HR5.out.rd (by simpa [ints] using hn)
              rw [e] at e'
              simp only [Option.some.injEq, Addr.mk.injEq, and_true] at e'
              omega, HTM5.out.box.blk.lt, HTM5.out.now.blk.lt, HTM5.out.is.blk.lt, HTM5.out.has.below.size, hal.size⟩
            have HRI : Hid (RowI (w5.alloc (.cells #[] 3)) O5 w5.heap.size (.slice (some ⟨w5.heap.size, 0, none⟩) 0 0) (wantTo b 0)) := Lib.hid ⟨ownI_nil w5 _ (Nat.le_refl _), fun k hk => by obtain rfl : w5.heap.size = k := Option.some.inj hk; exact foot_ne L HTM5.out.has.at_⟩
            clear hal HTM HTM5 HR5 HBX
            generalize (Value.slice (some ⟨w5.heap.size, 0, none⟩) 0 0) = v0 at *
            generalize w5.alloc (.cells #[] 3) = w6 at *
            generalize w5.heap.size = bw at *
            go_wp2_with fail
            go_loopw [149, 19] (fun i v wr => ∃ (k : Nat) (O : Nat → Prop), k ≤ 64 ∧ i = .int .i64 (k : Int) ∧ TB At w wr O g gr gn gi bw P (ra, rb, rc) T b B5 (natI64 (blkL S)) ∧ RowI wr O bw v (wantTo b k)) (fun i _ _ => 64 - (intOf i).toNat)
            case atStart => exact ⟨0, _, Nat.zero_le _, rfl, HTB.out, HRI.out⟩
            case round =>
              clear HTB HRI
              obtain ⟨k, O7, hk, rfl, hTB, hRI⟩ := hrel
              have HTB := Lib.hid hTB
              have HRI := Lib.hid hRI
              clear hTB hRI
              by_cases hlt : k < 64
              · have hki : (k : Int) < 64 := by omega
                have HK6 := Lib.hid hlt
                have GET : Hid (∀ W O', At W O' g P → Calls Try.prog 8 #[.pointer (some ⟨g, 0, none⟩), ptq (ra, rb, rc), .int .i64 (k : Int)] W fun e w' => ∃ O'', e = .returned (.tuple #[.agg (T k).cs.toArray, .int .i64 0]) ∧ At w' O'' g P ∧ Step W w' O' O'') :=
                  Lib.hid fun W O' ha => L.get k hlt ha HTD.out.good.ok HTD.out.good.tree
                obtain ⟨sk, hsk⟩ : ∃ x, T k = x := ⟨_, rfl⟩
                rw [hsk] at GET
                have HSK := Lib.hid hsk
                have hci : wr.cell? ⟨gi, k, none⟩ = some (.bool (b k)) := (HTB.out.is.blk.cell k).trans (bs64_at b hlt)
                have hwl : Hid ((wantTo b k).length ≤ 1048576) := Lib.hid (Nat.le_trans (wantTo_len b k) (by omega))
                clear hsk hlt hk
                rcases hbk : b k with _ | _
                · skip
                  rw [hbk] at hci
                  have HRI2 : Hid (RowI wr O7 bw _ (wantTo b (k + 1))) := Lib.hid (by rw [wantTo_no hbk]; exact HRI.out)
                  have HTB2 := HTB
                  clear HTB HRI hbk
                  go_upto_region 42 with fail
                  generalize wr = wq at *
                  clear hci hwl
                  have HBX := Lib.hid HTB2.out.box.blk
                  have hzz := zeroSec
                  go_upto_region 43 with (first
                    | (refine ld_ptr rfl (.tmp 6) rfl gr 32 ra rb rc rfl HBX.out ?_)
                    | (go_at_call 8; (with_reducible refine Calls.mono (GET.out _ _ HTB2.out.has.at_) ?_); rintro e w5 ⟨O5, rfl, h5, s5⟩; have HTB5 := Lib.hid (HTB2.out.step h5 s5); have HRI5 := Lib.hid (HRI2.out.step s5); clear h5 s5 GET)
                    | (refine st_sec rfl (.tmp 21) (.tmp 164) rfl w5.heap.size 0 sk rfl rfl (Blk.new w5 _ _).secHas ?_; intro w6 hw6))
                  have hb6 : Blk w6 w5.heap.size 23 sk.cs.toArray := by rw [hw6.out]; exact (Blk.new w5 _ _).secAll sk
                  have hB6 : Below w5.heap.size w5 w6.drew := by rw [hw6.out]; exact (Below.setCells _ (Nat.le_refl _) _ _ (below_al w5 _)).drew
                  have HTB6 := Lib.hid (HTB5.out.later L hB6)
                  have HRI6 := Lib.hid (HRI5.out.later hB6)
                  have hS6 : w6.drew.rangeAt w5.heap.size 0 sk.cs ∧ w6.drew.rangeAt gn (k * 128) sk.cs := ⟨(hb6.below (Below.refl w6.heap.size w6).drew hb6.lt).secIs, by rw [← HSK.out]; exact blk64_is HTB6.out.now.blk HK6.out⟩
                  clear hw6 hb6 hB6 HTB5 HRI5 HTB2 HRI2 hzz HBX
                  generalize w5.heap.size = g6 at *
                  refine wp_region_held_drew (S := (fun w' => w'.rangeAt g6 0 sk.cs ∧ w'.rangeAt gn (k * 128) sk.cs)) (by kernel_rfl) hS6 (fun hHeld => ?_)
                  clear hS6
                  generalize w6.drew = w7 at *
                  refine wpAnyH_take (i := 0) (v := (.int .i64 0)) rfl (by kernel_rfl) (by kernel_rfl) (by kernel_rfl) (fun _ _ _ h => h) (Or.inl ⟨by rfl, ?_⟩) (by assumption) ?_
                  · intro w' hS; go_simp; try with_reducible rfl
                  try simp [Act.put]
                  refine wpAnyH_take (i := 1) (v := (.bool false)) rfl (by kernel_rfl) (by kernel_rfl) (by kernel_rfl) (fun _ _ _ h => h) (Or.inl ⟨by rfl, ?_⟩) (by assumption) ?_
                  · intro w' hS; go_simp; try with_reducible rfl
                  try simp [Act.put]
                  refine wpAnyH_take (i := 2) (v := (.bool false)) rfl (by kernel_rfl) (by kernel_rfl) (by kernel_rfl) (fun _ _ _ h => h) (Or.inl ⟨by rfl, ?_⟩) (by assumption) ?_
                  · intro w' hS; go_simp; try with_reducible rfl
                  try simp [Act.put]
                  refine wpAnyH_take (i := 3) (v := (.agg sk.cs.toArray)) rfl (by kernel_rfl) (by kernel_rfl) (by kernel_rfl) (fun _ _ _ h => h) (Or.inl ⟨by rfl, ?_⟩) (by assumption) ?_
                  · intro w' hS
                    exact ex_ldSo (.tmp 21) rfl g6 0 sk rfl hS.1
                  try simp [Act.put]
                  refine wpAnyH_take (i := 4) (v := (.int .i64 (k : Int))) rfl (by kernel_rfl) (by kernel_rfl) (by kernel_rfl) (fun _ _ _ h => h) (Or.inl ⟨by rfl, ?_⟩) (by assumption) ?_
                  · intro w' hS; go_simp; try with_reducible rfl
                  try simp [Act.put]
                  refine wpAnyH_take (i := 5) (v := (.pointer (some ⟨gn, k * 128, none⟩))) rfl (by kernel_rfl) (by kernel_rfl) (by kernel_rfl) (fun _ _ _ h => h) (Or.inl ⟨by rfl, ?_⟩) (by assumption) ?_
                  · intro w' hS; go_simp; try with_reducible rfl
                  try simp [Act.put]
                  refine wpAnyH_take (i := 6) (v := (.agg sk.cs.toArray)) rfl (by kernel_rfl) (by kernel_rfl) (by kernel_rfl) (fun _ _ _ h => h) (Or.inl ⟨by rfl, ?_⟩) (by assumption) ?_
                  · intro w' hS
                    exact ex_ldSo (.tmp 171) rfl gn (k * 128) sk rfl hS.2
                  try simp [Act.put]
                  refine wpAnyH_take (i := 7) (v := (.bool false)) rfl (by kernel_rfl) (by kernel_rfl) (by kernel_rfl) (fun _ _ _ h => h) (Or.inl ⟨by rfl, ?_⟩) (by assumption) ?_
                  · intro w' hS
                    exact ex_neSelf (.tmp 169) (.tmp 172) rfl sk rfl rfl
                  try simp [Act.put]
                  refine wpAnyH_take (i := 8) (v := (.bool false)) rfl (by kernel_rfl) (by kernel_rfl) (by kernel_rfl) (fun _ _ _ h => h) (Or.inl ⟨by rfl, ?_⟩) (by assumption) ?_
                  · intro w' hS; go_simp; try with_reducible rfl
                  try simp [Act.put]
                  refine wpAnyH_done (by kernel_rfl) ?_ _
                  clear hHeld
                  go_wp2_with fail
                  go_roundw
                  case rel => exact ⟨k + 1, _, HK6.out, by go_num, HTB6.out, HRI6.out⟩
                  case measure => have := HK6.out; simp [intOf]; omega
                · skip
                  rw [hbk] at hci
                  have hwy := Lib.hid (wantTo_yes hbk)
                  clear hbk
                  go_upto_region 42 with (at_builtin; refine app_int2 rfl 155 157 rfl bw _ (wantTo b k) rfl HRI.out.own (k : Int) rfl HTB.out.lo.2.2.2.2 hwl.out ?_; intro vb wq ho hg hn)
                  have HRI2 : Hid (RowI wq O7 bw vb (wantTo b (k + 1))) := Lib.hid (by rw [hwy.out]; exact HRI.out.app (fun j hj => L.foot HTB.out.has.at_ j hj) ho hn)
                  have hcg : Chg wr wq (fun j => Value.ownBlock _ = some j) := ((Chg.refl wr _).alloc _).grown hg fun _ h => .inl h
                  have HTB2 := Lib.hid (HTB.out.above L hcg fun j hj => ⟨(HRI.out.own.lt j hj).1, HRI.out.far j hj⟩)
                  clear hcg ho hg hn HTB HRI hwy
                  clear hci hwl
                  have HBX := Lib.hid HTB2.out.box.blk
                  have hzz := zeroSec
                  go_upto_region 43 with (first
                    | (refine ld_ptr rfl (.tmp 6) rfl gr 32 ra rb rc rfl HBX.out ?_)
                    | (go_at_call 8; (with_reducible refine Calls.mono (GET.out _ _ HTB2.out.has.at_) ?_); rintro e w5 ⟨O5, rfl, h5, s5⟩; have HTB5 := Lib.hid (HTB2.out.step h5 s5); have HRI5 := Lib.hid (HRI2.out.step s5); clear h5 s5 GET)
                    | (refine st_sec rfl (.tmp 21) (.tmp 164) rfl w5.heap.size 0 sk rfl rfl (Blk.new w5 _ _).secHas ?_; intro w6 hw6))
                  have hb6 : Blk w6 w5.heap.size 23 sk.cs.toArray := by rw [hw6.out]; exact (Blk.new w5 _ _).secAll sk
                  have hB6 : Below w5.heap.size w5 w6.drew := by rw [hw6.out]; exact (Below.setCells _ (Nat.le_refl _) _ _ (below_al w5 _)).drew
                  have HTB6 := Lib.hid (HTB5.out.later L hB6)
                  have HRI6 := Lib.hid (HRI5.out.later hB6)
                  have hS6 : w6.drew.rangeAt w5.heap.size 0 sk.cs ∧ w6.drew.rangeAt gn (k * 128) sk.cs := ⟨(hb6.below (Below.refl w6.heap.size w6).drew hb6.lt).secIs, by rw [← HSK.out]; exact blk64_is HTB6.out.now.blk HK6.out⟩
                  clear hw6 hb6 hB6 HTB5 HRI5 HTB2 HRI2 hzz HBX
                  generalize w5.heap.size = g6 at *
                  refine wp_region_held_drew (S := (fun w' => w'.rangeAt g6 0 sk.cs ∧ w'.rangeAt gn (k * 128) sk.cs)) (by kernel_rfl) hS6 (fun hHeld => ?_)
                  clear hS6
                  generalize w6.drew = w7 at *
                  refine wpAnyH_take (i := 0) (v := (.int .i64 0)) rfl (by kernel_rfl) (by kernel_rfl) (by kernel_rfl) (fun _ _ _ h => h) (Or.inl ⟨by rfl, ?_⟩) (by assumption) ?_
                  · intro w' hS; go_simp; try with_reducible rfl
                  try simp [Act.put]
                  refine wpAnyH_take (i := 1) (v := (.bool false)) rfl (by kernel_rfl) (by kernel_rfl) (by kernel_rfl) (fun _ _ _ h => h) (Or.inl ⟨by rfl, ?_⟩) (by assumption) ?_
                  · intro w' hS; go_simp; try with_reducible rfl
                  try simp [Act.put]
                  refine wpAnyH_take (i := 2) (v := (.bool false)) rfl (by kernel_rfl) (by kernel_rfl) (by kernel_rfl) (fun _ _ _ h => h) (Or.inl ⟨by rfl, ?_⟩) (by assumption) ?_
                  · intro w' hS; go_simp; try with_reducible rfl
                  try simp [Act.put]
                  refine wpAnyH_take (i := 3) (v := (.agg sk.cs.toArray)) rfl (by kernel_rfl) (by kernel_rfl) (by kernel_rfl) (fun _ _ _ h => h) (Or.inl ⟨by rfl, ?_⟩) (by assumption) ?_
                  · intro w' hS
                    exact ex_ldSo (.tmp 21) rfl g6 0 sk rfl hS.1
                  try simp [Act.put]
                  refine wpAnyH_take (i := 4) (v := (.int .i64 (k : Int))) rfl (by kernel_rfl) (by kernel_rfl) (by kernel_rfl) (fun _ _ _ h => h) (Or.inl ⟨by rfl, ?_⟩) (by assumption) ?_
                  · intro w' hS; go_simp; try with_reducible rfl
                  try simp [Act.put]
                  refine wpAnyH_take (i := 5) (v := (.pointer (some ⟨gn, k * 128, none⟩))) rfl (by kernel_rfl) (by kernel_rfl) (by kernel_rfl) (fun _ _ _ h => h) (Or.inl ⟨by rfl, ?_⟩) (by assumption) ?_
                  · intro w' hS; go_simp; try with_reducible rfl
                  try simp [Act.put]
                  refine wpAnyH_take (i := 6) (v := (.agg sk.cs.toArray)) rfl (by kernel_rfl) (by kernel_rfl) (by kernel_rfl) (fun _ _ _ h => h) (Or.inl ⟨by rfl, ?_⟩) (by assumption) ?_
                  · intro w' hS
                    exact ex_ldSo (.tmp 171) rfl gn (k * 128) sk rfl hS.2
                  try simp [Act.put]
                  refine wpAnyH_take (i := 7) (v := (.bool false)) rfl (by kernel_rfl) (by kernel_rfl) (by kernel_rfl) (fun _ _ _ h => h) (Or.inl ⟨by rfl, ?_⟩) (by assumption) ?_
                  · intro w' hS
                    exact ex_neSelf (.tmp 169) (.tmp 172) rfl sk rfl rfl
                  try simp [Act.put]
                  refine wpAnyH_take (i := 8) (v := (.bool false)) rfl (by kernel_rfl) (by kernel_rfl) (by kernel_rfl) (fun _ _ _ h => h) (Or.inl ⟨by rfl, ?_⟩) (by assumption) ?_
                  · intro w' hS; go_simp; try with_reducible rfl
                  try simp [Act.put]
                  refine wpAnyH_done (by kernel_rfl) ?_ _
                  clear hHeld
                  go_wp2_with fail
                  go_roundw
                  case rel => exact ⟨k + 1, _, HK6.out, by go_num, HTB6.out, HRI6.out⟩
                  case measure => have := HK6.out; simp [intOf]; omega
              · obtain rfl : k = 64 := by omega
                obtain ⟨A9, c9, rfl, hr9, _⟩ := own_rd HRI.out.own
                have HEQ : Hid (natI64 (blkL S) = wantTo b 64) := Lib.hid (by unfold wantTo; rw [isB_list HTD.out.isb])
                have HLL : (natI64 (blkL S)).length = (blkL S).length := by simp [natI64]
                have hsame : Calls Try.prog 15 #[.slice B5 (blkL S).length d5, .slice A9 (wantTo b 64).length c9] wr fun e w' => e = .returned (.bool true) ∧ Below wr.heap.size wr w' := by
                  have h := sameints_any B5 A9 d5 c9 (natI64 (blkL S)) (wantTo b 64) wr HTB.out.row.rd hr9 (by rw [HEQ.out]; exact Nat.le_trans (wantTo_len b 64) (by omega))
                  rwa [decide_eq_true HEQ.out, HLL] at h
                have HSM := Lib.hid hsame
                have HBF := Lib.hid HTB.out.has.below
                clear hsame hr9 HTB HRI hlt hk HLL HEQ
                go_wp2_with (go_at_call 15; (with_reducible refine Calls.mono HSM.out ?_); rintro e wv ⟨rfl, hbv⟩; have HBV := Lib.hid (HBF.out.trans (hbv.mono HBF.out.size)); clear hbv)
                go_ret
                exact ⟨rfl, HBV.out⟩
  · have h30i : (40 : Int) < l0.length := by omega
    clear hR0 hK0 h30
    go_enter Try.func4, Try.ntmps4
    go_wp2_with (go_at_call 10; (with_reducible refine Calls.mono HT.out ?_); rintro e w1 ⟨rfl, hb1⟩; have HB1 := Lib.hid hb1; clear hb1 HT)
    go_ret
    exact ⟨rfl, HB1.out⟩
end
end Go.Proofs.Ytagkhicbngaghaa
