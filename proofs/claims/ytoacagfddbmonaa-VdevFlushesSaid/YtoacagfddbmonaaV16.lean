/- Walks: VdevFlushes. -/
import Derived.Test.YtoacagfddbmonaaV15
namespace Go.Proofs.Ytoacagfddbmonaa
open Go.RowKit
/-- Two devices share no memory. -/
def Apart (D : Dev) (pd : Value) (E : Dev) (pe : Value) : Prop := ∀ k, D.own pd k → ¬ E.own pe k
theorem At.lower {w : World} {B B' n : Nat} {D : Dev} {pv : Value} {s : St} (h : At w B n D pv s) (hB : B' ≤ B) : At w B' n D pv s :=
  { h with
    pend := own_base h.pend hB
    bg := ⟨Nat.le_trans hB h.bg.1, Nat.le_trans hB h.bg.2.1, Nat.le_trans hB h.bg.2.2⟩ }
theorem row_far {w : World} {B B' n m size : Nat} {D : Dev} {pv v : Value} {s : St} {xs : List Value} (h : At w B n D pv s) (hr : w.ownsRow B' 4 size v m xs) {g : Nat} (hg : v.ownBlock = some g) : ¬ D.own pv g := by
  obtain ⟨cs, hc⟩ := own_blk hr hg
  exact h.far hc (by decide) (by decide) fun e => absurd e (by decide)
theorem flush_inv {at_ i : Nat} {x : Sec} {nw st : List Sec} {ps : List (Nat × Sec)} (hn : at_ < nw.length) (hs : at_ < st.length) (h : nw.getD at_ zsec = (applyF ps st).getD at_ zsec) :
    (nw.set i x).getD at_ zsec = (applyF (ps ++ [(i, x)]) st).getD at_ zsec := by
  have e : applyF (ps ++ [(i, x)]) st = (applyF ps st).set i x := by
    unfold applyF
    rw [List.foldl_append]
    rfl
  rw [e, getD_set nw i at_ x hn, getD_set _ i at_ x (by rw [applyF_len]; exact hs), h]
/-- What VdevFlushes keeps up, round by round: two devices in one state. -/
def FI (w wr : World) (B at_ : Nat) (D E : Dev) (v : Value) (k : Nat) : Prop := ∃ (s : St) (pd pe : Value), At wr B 8 D pd s ∧ At wr B 8 E pe s ∧ Apart D pd E pe ∧ wr.ownsRow w.heap.size 4 1 v k (List.replicate k (.bool true)) ∧ Below w.heap.size w wr ∧
  s.left < 0 ∧ s.dead = false ∧ s.nw.getD at_ zsec = (applyF s.pend s.st).getD at_ zsec ∧ s.pend.length ≤ k
theorem ex_neS {o : Oper} {a : Act} {w : World} (x y : Operand) (ho : o.op = .binOp .neq 29 x y 29) (s t : Sec) (hx : a.eval x = .agg s.cs.toArray) (hy : a.eval y = .agg t.cs.toArray) (r : Bool) (hr : (!s.same t) = r) :
    (execOp a.eval o).run Try.prog w = .ok (.value (.bool r)) w := by
  subst hr
  unfold execOp
  simp [ho, hx, hy, eqGuard, binOp, run_eqSec]
theorem rangeAt_chg {w w' : World} {O : Nat → Prop} {b o : Nat} {cs : List Value} (h : w.rangeAt b o cs) (c : Chg w w' O) (hn : ¬ O b) : w'.rangeAt b o cs := fun j v hv => by
  have h1 := h j v hv
  rw [c.cell (World.block_lt_of_cell? w _ h1) hn]
  exact h1
theorem ex_eqS2 {o : Oper} {a : Act} {w : World} (x y : Operand) (ho : o.op = .binOp .eql 29 x y 29) (s t : Sec) (hx : a.eval x = .agg s.cs.toArray) (hy : a.eval y = .agg t.cs.toArray) (r : Bool) (hr : s.same t = r) :
    (execOp a.eval o).run Try.prog w = .ok (.value (.bool r)) w := by
  subst hr
  exact ex_eqS x y ho s t hx hy
/-- What every world of the law's last regions has. -/
structure SF (w : World) (B gx : Nat) (X : Sec) (D : Dev) (pd : Value) (sD : St) (E : Dev) (sE : St) (w' : World) : Prop where
  x : w'.rangeAt gx 0 X.cs
  d : At w' B 8 D pd sD
  e : At w' B 8 E (.slice none 0 0) sE
  b : Below w.heap.size w w'
theorem SF.chg {w : World} {B gx : Nat} {X : Sec} {D : Dev} {pd : Value} {sD : St} {E : Dev} {sE : St} {w' w'' : World} (h : SF w B gx X D pd sD E sE w') (c : Chg w' w'' (fun _ => False)) : SF w B gx X D pd sD E sE w'' :=
  ⟨rangeAt_chg h.x c id, h.d.chg c fun _ _ h => h, h.e.chg c fun _ _ h => h, h.b.trans (c.below (fun _ h => h.elim) h.b.size)⟩
section
variable (A : Option Addr) (c : Nat) (l : List Deed) (A' : Option Addr) (c' : Nat) (ks : List Bool) (w : World) (hs : Rd w w.heap.size A (flatD l)) (ht : Rd w w.heap.size A' (ks.map Value.bool)) (hkl : ks.length ≤ 140737488351232)
set_option maxRecDepth 10000 in
theorem flushes_out (at_ : Int) (h : (100 : Int) < l.length ∨ at_ < 0 ∨ 7 < at_) :
    Calls Try.prog 7 #[.slice A l.length c, .slice A' ks.length c', .int .i64 at_] w fun e w' => e = .returned (.bool true) ∧ Below w.heap.size w w' := by
  have H := Lib.hid h; clear h
  go_enter Try.func7, Try.ntmps7
  go_wp2_with fail
  refine (alive_any _).mono ?_
  rintro e w1 ⟨rfl, hb1⟩
  have HB1 := Lib.hid hb1; clear hb1
  go_wp2_with fail
  refine (new_any 8 _).mono ?_
  rintro e w2 ⟨D, rfl, hA, hb⟩
  rw [many8] at hA
  have hA2 := Lib.hid hA
  have HB2 := Lib.hid (HB1.out.trans (hb.mono HB1.out.size))
  have HBB := Lib.hid HB1.out.size
  clear hA hb HB1
  go_wp2_with fail
  refine (new_any 8 _).mono ?_
  rintro e w3 ⟨E, rfl, hA, hb⟩
  rw [many8] at hA
  have hE3 := Lib.hid hA
  have hD3 := Lib.hid (hA2.out.chg (Chg.of_below (O := fun _ => False) hb) fun _ _ h => h)
  have hDE := Lib.hid (show Apart D (.slice none 0 0) E (.slice none 0 0) from fun k h1 h2 => by
    have e1 := hA2.out.lt k h1
    have e2 := hA.ge k h2
    omega)
  have hBB2 := Lib.hid (show w1.heap.size ≤ w2.heap.size by have := hA2.out.bg.1; have := hA2.out.dev.lt; omega)
  have hE3 := Lib.hid (hE3.out.lower hBB2.out)
  have HB3 := Lib.hid (HB2.out.trans (hb.mono HB2.out.size))
  clear hA hb HB2 hA2 hBB2
  clear hE3 hD3 hDE
  by_cases h1 : (100 : Int) < l.length
  · go_wp2_with fail
    go_ret
    exact ⟨rfl, HB3.out⟩
  · by_cases h2 : at_ < 0
    · go_wp2_with fail
      go_ret
      exact ⟨rfl, HB3.out⟩
    · have h3 : 7 < at_ := by rcases H.out with h | h | h <;> omega
      go_wp2_with fail
      go_ret
      exact ⟨rfl, HB3.out⟩
include hs ht hkl
set_option maxRecDepth 10000 in
set_option maxHeartbeats 4000000 in
theorem flushes_in (at_ : Nat) (hl : (l.length : Int) ≤ 100) (h0 : (0 : Int) ≤ at_) (h7 : (at_ : Int) ≤ 7) :
    Calls Try.prog 7 #[.slice A l.length c, .slice A' ks.length c', .int .i64 (at_ : Int)] w fun e w' => e = .returned (.bool true) ∧ Below w.heap.size w w' := by
  have HS := Lib.hid hs; clear hs
  have HT := Lib.hid ht; clear ht
  have HKL := Lib.hid hkl; clear hkl
  have hz : ∀ w, Sem.run Try.prog (zeroValue 29) w = .ok (.agg zsec.cs.toArray) w := zeroSec
  have hza : ∀ w, Sem.run Try.prog (zeroValue 32) w = .ok (.agg zdeed.cs.toArray) w := zeroAct
  go_enter Try.func7, Try.ntmps7
  go_wp2_with fail
  refine (alive_any _).mono ?_
  rintro e w1 ⟨rfl, hb1⟩
  have HB1 := Lib.hid hb1; clear hb1
  go_wp2_with fail
  refine (new_any 8 _).mono ?_
  rintro e w2 ⟨D, rfl, hA, hb⟩
  rw [many8] at hA
  have hA2 := Lib.hid hA
  have HB2 := Lib.hid (HB1.out.trans (hb.mono HB1.out.size))
  have HBB := Lib.hid HB1.out.size
  clear hA hb HB1
  go_wp2_with fail
  refine (new_any 8 _).mono ?_
  rintro e w3 ⟨E, rfl, hA, hb⟩
  rw [many8] at hA
  have hE3 := Lib.hid hA
  have hD3 := Lib.hid (hA2.out.chg (Chg.of_below (O := fun _ => False) hb) fun _ _ h => h)
  have hDE := Lib.hid (show Apart D (.slice none 0 0) E (.slice none 0 0) from fun k h1 h2 => by
    have e1 := hA2.out.lt k h1
    have e2 := hA.ge k h2
    omega)
  have hBB2 := Lib.hid (show w1.heap.size ≤ w2.heap.size by have := hA2.out.bg.1; have := hA2.out.dev.lt; omega)
  have hE3 := Lib.hid (hE3.out.lower hBB2.out)
  have HB3 := Lib.hid (HB2.out.trans (hb.mono HB2.out.size))
  clear hA hb HB2 hA2 hBB2
  have hR4 : Hid ((w3.alloc (.cells #[] 4)).ownsRow w.heap.size 4 1 (.slice (some ⟨w3.heap.size, 0, none⟩) 0 0) 0 []) := World.ownsRow_lit (base := w.heap.size) (e := 4) (size := 1) w3 #[] 0 HB3.out.size (by simp [maxLen]) rfl
  have hD4 := Lib.hid (hD3.out.alloc (.cells #[] 4))
  have hE4 := Lib.hid (hE3.out.alloc (.cells #[] 4))
  have HB4 := Lib.hid (HB3.out.alloc HB3.out.size (.cells #[] 4))
  generalize w1.heap.size = B at *
  clear hD3 hE3 HB3
  go_wp2_with fail
  go_loopw [9, 46] (fun v i wr => ∃ (k : Nat), k ≤ l.length ∧ i = .int .i64 k ∧ FI w wr B at_ D E v k) (fun _ i _ => l.length - (intOf i).toNat)
  case atStart => exact ⟨0, by omega, rfl, ⟨_, _, _, hD4.out, hE4.out, hDE.out, hR4.out, HB4.out, by show (-1 : Int) < 0; omega, rfl, rfl, Nat.le_refl _⟩⟩
  case round =>
    clear hD4 hE4 hDE hR4 HB4
    obtain ⟨k, hk, rfl, hR⟩ := hrel
    have HR := Lib.hid hR
    clear hR
    by_cases hlt : k < l.length
    · have HL := Lib.hid hlt
      have hki : (k : Int) < l.length := by omega
      obtain ⟨b, off, rfl, hbB, hrg⟩ := rd_deed HS.out k hlt
      have hrg := Lib.hid hrg
      generalize l[k] = d at *
      obtain ⟨s, pd, pe, hD0, hE0, hP0, hR0, hB0, hleft0, hdead0, hinv0, hpl0⟩ := HR.out
      obtain ⟨v, hv⟩ : ∃ v : Value, v = u9 := ⟨_, rfl⟩
      subst hv
      have hD := Lib.hid hD0; have hE := Lib.hid hE0; have hP := Lib.hid hP0; have hR := Lib.hid hR0; have hB := Lib.hid hB0
      have hleft := Lib.hid hleft0; have hdead := Lib.hid hdead0; have hinv := Lib.hid hinv0; have hpl := Lib.hid hpl0
      clear hD0 hE0 hP0 hR0 hB0 hleft0 hdead0 hinv0 hpl0 HR
      have hrg2 : Hid (wr.rangeAt b (off + k * 131) d.cs) := fun j v hv => (hB.out.cell (p := ⟨b, off + k * 131 + j, none⟩) hbB).trans (hrg.out j v hv)
      clear hrg
      have hn : Hid (Blk (wr.alloc (.cells zdeed.cs.toArray 32)) wr.heap.size 32 zdeed.cs.toArray) := Blk.new _ _ _
      have hact : ∀ w3, Hid (Hid (w3 = (wr.alloc (.cells zdeed.cs.toArray 32)).setCells wr.heap.size 0 d.cs) → w3.cell? ⟨wr.heap.size, 0, none⟩ = some (.int .i64 d.kind) ∧ w3.cell? ⟨wr.heap.size, 1, none⟩ = some (.int .i64 d.at_) ∧ Hid (w3.rangeAt wr.heap.size 2 d.data.cs)) := fun w3 hw => by
        have h := hn.out.actAll d
        rw [← hw.out] at h
        exact ⟨h.actKind, h.actAt, h.actData⟩
      have hln : Hid (at_ < s.nw.length) := by show at_ < _; rw [hD.out.ln]; omega
      have hls : Hid (at_ < s.st.length) := by show at_ < _; rw [hD.out.ls]; omega
      by_cases hkd : d.kind = 1
      · have hkd : Hid (d.kind = 1) := hkd
        by_cases hh : hasF 8 d.at_ = true
        · have hh := Lib.hid hh
          go_wp2_with (first
            | (with_reducible refine ld_act rfl _ rfl b (off + k * 131) d rfl hrg2.out ?_)
            | (with_reducible refine st_act rfl _ _ rfl wr.heap.size 0 d rfl rfl hn.out.actHas ?_; intro w3 hw3; obtain ⟨hk3, hat3, hdt3⟩ := (hact w3).out hw3; rw [hkd.out] at hk3)
            | (with_reducible refine ld_sec rfl _ rfl wr.heap.size 2 d.data rfl hdt3.out ?_))
          have hb3 : Hid (Blk w3 wr.heap.size 32 d.cs.toArray) := by
            have h := hn.out.actAll d
            rwa [← hw3.out] at h
          have hc3 : Chg wr w3 (fun _ => False) := by rw [hw3.out]; exact chg_new _ _ _ _ _ rfl
          have hD3 := Lib.hid (hD.out.chg hc3 fun _ _ h => h)
          have hE3 := Lib.hid (hE.out.chg hc3 fun _ _ h => h)
          have hR3 := Lib.hid (own_chg hR.out hc3 fun _ _ h => h)
          have hB3 := Lib.hid (hB.out.trans (hc3.below (fun _ h => h.elim) hB.out.size))
          have hgd := Lib.hid hD.out.new_far
          have hge := Lib.hid hE.out.new_far
          have hgr : Hid (∀ g, v.ownBlock = some g → g ≠ wr.heap.size) := fun g hg => Nat.ne_of_lt (hR.out.lt g hg).2
          clear hw3 hc3 hrg2 hn hact hD hE hR hB
          generalize wr.heap.size = ga at *
          refine (write_any hD3.out d.at_ d.data (by have := hpl.out; have := HL.out; omega)).mono ?_
          rintro e w4 ⟨pd4, rfl, hD4, hG4⟩
          rw [calm_write hleft.out hdead.out d.at_ d.data hh.out] at hD4 ⊢
          dsimp only at hD4 ⊢
          have hb4 : Hid (Blk w4 ga 32 d.cs.toArray) := hb3.out.chg hG4.chg hgd.out
          have hE4 := Lib.hid (hE3.out.chg hG4.chg fun k hk h => hP.out k h hk)
          have hP4 := Lib.hid (show Apart D pd4 E pe from fun k h1 h2 => hG4.own (hE3.out.lt k h2) (fun h => hP.out k h h2) h1)
          have hR4 := Lib.hid (own_chg hR3.out hG4.chg fun g hg => row_far hD3.out hR3.out hg)
          have hB4 := Lib.hid (hB3.out.trans (hG4.chg.below (fun k hk => Nat.le_trans HBB.out (hD3.out.ge k hk)) hB3.out.size))
          have hD4 := Lib.hid hD4
          have hk4 := hb4.out.actKind
          have hat4 := hb4.out.actAt
          have hdt4 := Lib.hid hb4.out.actData
          clear hk3 hat3 hdt3 hb3 hE3 hR3 hB3 hD3 hG4 hP
          go_wp2_with (with_reducible refine ld_sec rfl _ rfl ga 2 d.data rfl hdt4.out ?_)
          refine (write_any hE4.out d.at_ d.data (by have := hpl.out; have := HL.out; omega)).mono ?_
          rintro e w5 ⟨pe5, rfl, hE5, hG5⟩
          rw [calm_write hleft.out hdead.out d.at_ d.data hh.out] at hE5 ⊢
          dsimp only at hE5 ⊢
          have hD5 := Lib.hid (hD4.out.chg hG5.chg fun k hk h => hP4.out k hk h)
          have hP5 := Lib.hid (show Apart D pd4 E pe5 from fun k h1 h2 => hG5.own (hD4.out.lt k h1) (fun h => hP4.out k h1 h) h2)
          have hR5 := Lib.hid (own_chg hR4.out hG5.chg fun g hg => row_far hE4.out hR4.out hg)
          have hB5 := Lib.hid (hB4.out.trans (hG5.chg.below (fun k hk => Nat.le_trans HBB.out (hE4.out.ge k hk)) hB4.out.size))
          have hE5 := Lib.hid hE5
          clear hk4 hat4 hdt4 hb4 hD4 hE4 hR4 hB4 hG5 hP4
          have hown := hR5
          go_wp2_with (refine app_one Try.underlying27 infoBool rfl rfl 65 66 rfl w.heap.size v k (List.replicate k (.bool true)) rfl hown.out (.bool true) rfl rfl hB5.out.size (by omega) (by have := HL.out; omega) ?_; intro v6 w6 ho6 hg6)
          have ho6 := Lib.hid ho6
          have hg6 := Lib.hid hg6
          have hc6 : Chg w5 w6 (fun k => v.ownBlock = some k) := ((Chg.refl _ _).alloc _).grown hg6.out fun _ hk => .inl hk
          go_roundw
          case rel =>
            have hpl := hpl.out
            refine ⟨k + 1, by omega, by go_num, ⟨_, pd4, pe5, hD5.out.chg hc6 (fun k hk e => row_far hD5.out hR5.out e hk), hE5.out.chg hc6 (fun k hk e => row_far hE5.out hR5.out e hk), hP5.out, ?_, hB5.out.trans (hc6.below (fun k hk => (hR5.out.lt k hk).1) hB5.out.size), hleft.out, hdead.out, flush_inv hln.out hls.out hinv.out, by show (s.pend ++ [_]).length ≤ _; rw [List.length_append, List.length_singleton]; omega⟩⟩
            rw [List.replicate_succ']
            exact ho6.out
          case measure =>
            have := HL.out
            simp [intOf]
            omega
        · have hh := Lib.hid hh
          go_wp2_with (first
            | (with_reducible refine ld_act rfl _ rfl b (off + k * 131) d rfl hrg2.out ?_)
            | (with_reducible refine st_act rfl _ _ rfl wr.heap.size 0 d rfl rfl hn.out.actHas ?_; intro w3 hw3; obtain ⟨hk3, hat3, hdt3⟩ := (hact w3).out hw3; rw [hkd.out] at hk3)
            | (with_reducible refine ld_sec rfl _ rfl wr.heap.size 2 d.data rfl hdt3.out ?_))
          have hb3 : Hid (Blk w3 wr.heap.size 32 d.cs.toArray) := by
            have h := hn.out.actAll d
            rwa [← hw3.out] at h
          have hc3 : Chg wr w3 (fun _ => False) := by rw [hw3.out]; exact chg_new _ _ _ _ _ rfl
          have hD3 := Lib.hid (hD.out.chg hc3 fun _ _ h => h)
          have hE3 := Lib.hid (hE.out.chg hc3 fun _ _ h => h)
          have hR3 := Lib.hid (own_chg hR.out hc3 fun _ _ h => h)
          have hB3 := Lib.hid (hB.out.trans (hc3.below (fun _ h => h.elim) hB.out.size))
          have hgd := Lib.hid hD.out.new_far
          have hge := Lib.hid hE.out.new_far
          have hgr : Hid (∀ g, v.ownBlock = some g → g ≠ wr.heap.size) := fun g hg => Nat.ne_of_lt (hR.out.lt g hg).2
          clear hw3 hc3 hrg2 hn hact hD hE hR hB
          generalize wr.heap.size = ga at *
          refine (write_any hD3.out d.at_ d.data (by have := hpl.out; have := HL.out; omega)).mono ?_
          rintro e w4 ⟨pd4, rfl, hD4, hG4⟩
          rw [no_write (s := s) d.at_ d.data hh.out] at hD4 ⊢
          dsimp only at hD4 ⊢
          have hb4 : Hid (Blk w4 ga 32 d.cs.toArray) := hb3.out.chg hG4.chg hgd.out
          have hE4 := Lib.hid (hE3.out.chg hG4.chg fun k hk h => hP.out k h hk)
          have hP4 := Lib.hid (show Apart D pd4 E pe from fun k h1 h2 => hG4.own (hE3.out.lt k h2) (fun h => hP.out k h h2) h1)
          have hR4 := Lib.hid (own_chg hR3.out hG4.chg fun g hg => row_far hD3.out hR3.out hg)
          have hB4 := Lib.hid (hB3.out.trans (hG4.chg.below (fun k hk => Nat.le_trans HBB.out (hD3.out.ge k hk)) hB3.out.size))
          have hD4 := Lib.hid hD4
          have hk4 := hb4.out.actKind
          have hat4 := hb4.out.actAt
          have hdt4 := Lib.hid hb4.out.actData
          clear hk3 hat3 hdt3 hb3 hE3 hR3 hB3 hD3 hG4 hP
          go_wp2_with (with_reducible refine ld_sec rfl _ rfl ga 2 d.data rfl hdt4.out ?_)
          refine (write_any hE4.out d.at_ d.data (by have := hpl.out; have := HL.out; omega)).mono ?_
          rintro e w5 ⟨pe5, rfl, hE5, hG5⟩
          rw [no_write (s := s) d.at_ d.data hh.out] at hE5 ⊢
          dsimp only at hE5 ⊢
          have hD5 := Lib.hid (hD4.out.chg hG5.chg fun k hk h => hP4.out k hk h)
          have hP5 := Lib.hid (show Apart D pd4 E pe5 from fun k h1 h2 => hG5.own (hD4.out.lt k h1) (fun h => hP4.out k h1 h) h2)
          have hR5 := Lib.hid (own_chg hR4.out hG5.chg fun g hg => row_far hE4.out hR4.out hg)
          have hB5 := Lib.hid (hB4.out.trans (hG5.chg.below (fun k hk => Nat.le_trans HBB.out (hE4.out.ge k hk)) hB4.out.size))
          have hE5 := Lib.hid hE5
          clear hk4 hat4 hdt4 hb4 hD4 hE4 hR4 hB4 hG5 hP4
          have hown := hR5
          go_wp2_with (refine app_one Try.underlying27 infoBool rfl rfl 65 66 rfl w.heap.size v k (List.replicate k (.bool true)) rfl hown.out (.bool true) rfl rfl hB5.out.size (by omega) (by have := HL.out; omega) ?_; intro v6 w6 ho6 hg6)
          have ho6 := Lib.hid ho6
          have hg6 := Lib.hid hg6
          have hc6 : Chg w5 w6 (fun k => v.ownBlock = some k) := ((Chg.refl _ _).alloc _).grown hg6.out fun _ hk => .inl hk
          go_roundw
          case rel =>
            have hpl := hpl.out
            refine ⟨k + 1, by omega, by go_num, ⟨_, pd4, pe5, hD5.out.chg hc6 (fun k hk e => row_far hD5.out hR5.out e hk), hE5.out.chg hc6 (fun k hk e => row_far hE5.out hR5.out e hk), hP5.out, ?_, hB5.out.trans (hc6.below (fun k hk => (hR5.out.lt k hk).1) hB5.out.size), hleft.out, hdead.out, hinv.out, by show s.pend.length ≤ _; omega⟩⟩
            rw [List.replicate_succ']
            exact ho6.out
          case measure =>
            have := HL.out
            simp [intOf]
            omega
      · have hq1 : (d.kind == 1) = false := by rw [beq_eq_false_iff_ne]; exact hkd
        clear hkd
        have hrow : ∀ w3, Hid (Hid (w3 = (wr.alloc (.cells zdeed.cs.toArray 32)).setCells wr.heap.size 0 d.cs) → w3.ownsRow w.heap.size 4 1 v k (List.replicate k (.bool true)) ∧ w.heap.size ≤ w3.heap.size) := fun w3 hw => by
          have hc3 : Chg wr w3 (fun _ => False) := by rw [hw.out]; exact chg_new _ _ _ _ _ rfl
          exact ⟨own_chg hR.out hc3 fun _ _ h => h, Nat.le_trans hB.out.size hc3.size⟩
        go_wp2_with (first
          | (with_reducible refine ld_act rfl _ rfl b (off + k * 131) d rfl hrg2.out ?_)
          | (with_reducible refine st_act rfl _ _ rfl wr.heap.size 0 d rfl rfl hn.out.actHas ?_; intro w3 hw3; obtain ⟨hk3, hat3, hdt3⟩ := (hact w3).out hw3)
          | (refine app_one Try.underlying27 infoBool rfl rfl 65 66 rfl w.heap.size v k (List.replicate k (.bool true)) rfl ((hrow w3).out hw3).1 (.bool true) rfl rfl ((hrow w3).out hw3).2 (by omega) (by have := HL.out; omega) ?_; intro v6 w6 ho6 hg6))
        have hb3 : Hid (Blk w3 wr.heap.size 32 d.cs.toArray) := by
          have h := hn.out.actAll d
          rwa [← hw3.out] at h
        have hc3 : Chg wr w3 (fun _ => False) := by rw [hw3.out]; exact chg_new _ _ _ _ _ rfl
        have hD3 := Lib.hid (hD.out.chg hc3 fun _ _ h => h)
        have hE3 := Lib.hid (hE.out.chg hc3 fun _ _ h => h)
        have hR3 := Lib.hid (own_chg hR.out hc3 fun _ _ h => h)
        have hB3 := Lib.hid (hB.out.trans (hc3.below (fun _ h => h.elim) hB.out.size))
        have hgd := Lib.hid hD.out.new_far
        have hge := Lib.hid hE.out.new_far
        have hgr : Hid (∀ g, v.ownBlock = some g → g ≠ wr.heap.size) := fun g hg => Nat.ne_of_lt (hR.out.lt g hg).2
        clear hw3 hc3 hrg2 hn hact hD hE hR hB
        generalize wr.heap.size = ga at *
        have hP3 := hP
        have ho6 := Lib.hid ho6
        have hg6 := Lib.hid hg6
        have hc6 : Chg w3 w6 (fun k => v.ownBlock = some k) := ((Chg.refl _ _).alloc _).grown hg6.out fun _ hk => .inl hk
        go_roundw
        case rel =>
          have hpl := hpl.out
          refine ⟨k + 1, by omega, by go_num, ⟨s, pd, pe, hD3.out.chg hc6 (fun k hk e => row_far hD3.out hR3.out e hk), hE3.out.chg hc6 (fun k hk e => row_far hE3.out hR3.out e hk), hP3.out, ?_, hB3.out.trans (hc6.below (fun k hk => (hR3.out.lt k hk).1) hB3.out.size), hleft.out, hdead.out, hinv.out, by omega⟩⟩
          rw [List.replicate_succ']
          exact ho6.out
        case measure =>
          have := HL.out
          simp [intOf]
          omega
    · obtain ⟨s, pd, pe, hD0, hE0, hP0, hR0, hB0, hleft0, hdead0, hinv0, hpl0⟩ := HR.out
      obtain ⟨A2, c2, rfl, _⟩ := own_rd hR0
      have hD := Lib.hid hD0; have hE := Lib.hid hE0; have hP := Lib.hid hP0; have hR := Lib.hid hR0; have hB := Lib.hid hB0
      have hleft := Lib.hid hleft0; have hdead := Lib.hid hdead0; have hinv := Lib.hid hinv0; have hpl := Lib.hid hpl0
      have hrd : Hid (s.read 8 (at_ : Int) = (s.nw.getD at_ zsec, 0)) := by
        show _ = _
        unfold St.read
        rw [if_pos (has8.2 (by omega)), if_neg (by rw [hdead0]; simp), Int.toNat_natCast]
      have hk100 := Lib.hid (show k ≤ 100 by omega)
      clear hD0 hE0 hP0 hR0 hB0 hleft0 hdead0 hinv0 hpl0 HR
      generalize hXe : s.nw.getD at_ zsec = X at *
      have hXe := Lib.hid hXe
      clear hXe
      go_wp2_with fail
      refine (read_any hD.out (at_ : Int)).mono ?_
      rintro e w4 ⟨rfl, hD4, hG4⟩
      rw [hrd.out]
      dsimp only
      have hE4 := Lib.hid (hE.out.chg hG4.chg fun k hk h => hP.out k h hk)
      have hR4 := Lib.hid (own_chg hR.out hG4.chg fun g hg => row_far hD.out hR.out hg)
      have hB4 := Lib.hid (hB.out.trans (hG4.chg.below (fun k hk => Nat.le_trans HBB.out (hD.out.ge k hk)) hB.out.size))
      have hD4 := Lib.hid hD4
      clear hG4 hD hE hR hB hrd
      have hn4 : Hid (Blk (w4.alloc (.cells zsec.cs.toArray 29)) w4.heap.size 29 zsec.cs.toArray) := Blk.new _ _ _
      go_wp2_with (with_reducible refine st_sec rfl _ _ rfl w4.heap.size 0 X rfl rfl hn4.out.secHas ?_; intro w5 hw5)
      have hc5 : Chg w4 w5 (fun _ => False) := by rw [hw5.out]; exact chg_new _ _ _ _ _ rfl
      have hx5 : Hid (Blk w5 w4.heap.size 29 X.cs.toArray) := by
        have h := hn4.out.secAll X
        rwa [← hw5.out] at h
      have hD5 := Lib.hid (hD4.out.chg hc5 fun _ _ h => h)
      have hE5 := Lib.hid (hE4.out.chg hc5 fun _ _ h => h)
      have hR5 := Lib.hid (own_chg hR4.out hc5 fun _ _ h => h)
      have hB5 := Lib.hid (hB4.out.trans (hc5.below (fun _ h => h.elim) hB4.out.size))
      have hxd := Lib.hid hD4.out.new_far
      have hxe := Lib.hid hE4.out.new_far
      clear hc5 hw5 hn4 hD4 hE4 hR4 hB4
      generalize w4.heap.size = gx at *
      refine (flush_any hD5.out (by have := hpl.out; have := hk100.out; show s.pend.length ≤ _; omega)).mono ?_
      rintro e w6 ⟨pd6, rfl, hD6, hG6⟩
      rw [calm_flush (s := s.count) hleft.out hdead.out] at hD6 ⊢
      dsimp only at hD6 ⊢
      have hx6 : Hid (Blk w6 gx 29 X.cs.toArray) := hx5.out.chg hG6.chg hxd.out
      have hE6 := Lib.hid (hE5.out.chg hG6.chg fun k hk h => hP.out k h hk)
      have hP6 := Lib.hid (show Apart D pd6 E pe from fun k h1 h2 => hG6.own (hE5.out.lt k h2) (fun h => hP.out k h h2) h1)
      have hR6 := Lib.hid (own_chg hR5.out hG6.chg fun g hg => row_far hD5.out hR5.out hg)
      have hB6 := Lib.hid (hB5.out.trans (hG6.chg.below (fun k hk => Nat.le_trans HBB.out (hD5.out.ge k hk)) hB5.out.size))
      have hxd6 := Lib.hid (hG6.own hx5.out.lt hxd.out)
      have hst6 : Hid (St.stable 8 { s.count.count with st := applyF s.count.pend s.count.st, pend := [] } (at_ : Int) = X) := by
        show _ = _
        unfold St.stable
        rw [if_pos (has8.2 (by omega)), Int.toNat_natCast]
        exact hinv.out.symm
      have hp6 : Hid (({ s.count.count with st := applyF s.count.pend s.count.st, pend := [] } : St).pend = []) := rfl
      obtain ⟨sD, hsD⟩ : ∃ sD : St, sD = { s.count.count with st := applyF s.count.pend s.count.st, pend := [] } := ⟨_, rfl⟩
      rw [← hsD] at hD6 hst6 hp6
      have hD6 := Lib.hid hD6
      clear hsD hG6 hD5 hE5 hR5 hB5 hx5 hxd hP
      have hpi : (s.pend.length : Int) ≤ 1000000 := by have := hpl.out; have := hk100.out; omega
      have hK6 : Hid (RdK w6 E pe A2 (List.replicate k true)) := fun hp => by
        rw [List.length_replicate] at hp
        obtain ⟨g, cap, heq, _, hlt, _⟩ := own_form hR6.out hp
        simp only [Value.slice.injEq, true_and] at heq
        obtain ⟨rfl, rfl⟩ := heq
        refine ⟨g, 0, rfl, hlt, row_far hE6.out hR6.out rfl, fun j hj => ?_⟩
        rw [List.length_replicate] at hj
        rw [Nat.zero_add, hR6.out.cellAt j (by omega)]
        simp [hj]
      have hcr := Lib.hid (crash_any hE6.out hpi A2 c2 (List.replicate k true) hK6.out)
      rw [List.length_replicate] at hcr
      clear hpi hK6
      go_wp2_with fail
      refine hcr.out.mono ?_
      rintro e w7 ⟨rfl, hE7, hG7⟩
      have hx7 : Hid (Blk w7 gx 29 X.cs.toArray) := hx6.out.chg hG7.chg hxe.out
      have hD7 := Lib.hid (hD6.out.chg hG7.chg fun k hk h => hP6.out k hk h)
      have hB7 := Lib.hid (hB6.out.trans (hG7.chg.below (fun k hk => Nat.le_trans HBB.out (hE6.out.ge k hk)) hB6.out.size))
      have hst7 : Hid ((s.crash (List.replicate k true)).stable 8 (at_ : Int) = X) := by
        show _ = _
        unfold St.stable
        rw [if_pos (has8.2 (by omega)), Int.toNat_natCast]
        show (applyK (List.replicate k true) s.pend.zipIdx s.st).getD at_ zsec = X
        rw [applyK_all k s.pend 0 s.st (by have := hpl.out; omega)]
        exact hinv.out.symm
      have hp7 : Hid ((s.crash (List.replicate k true)).pend = []) := rfl
      have hE7 := Lib.hid hE7
      clear hcr hG7 hD6 hE6 hR6 hB6 hx6 hxe hP6 hinv hpl hleft hdead hk100
      generalize s.crash (List.replicate k true) = sE at *
      go_wp2_with fail
      have hsame : Hid ((!X.same X) = false) := by show _ = _; rw [X.same_self]; rfl
      have hS7 : Hid (SF w B gx X D pd6 sD E sE w7.drew) := ⟨hx7.out.secIs, hD7.out.drew, hE7.out.drew, hB7.out.drew⟩
      clear hx7 hD7 hE7 hB7
      refine wp_region_held_drew (S := SF w B gx X D pd6 sD E sE) (by kernel_rfl) hS7.out (fun hHeld => ?_)
      clear hS7
      refine wpAnyH_take (i := 0) (v := ?_) rfl (by kernel_rfl) (by kernel_rfl) (by kernel_rfl) (fun _ _ _ h => h) (Or.inl ⟨by rfl, ?_⟩) (by assumption) ?_
      rotate_left
      · intro w _; go_simp; try with_reducible rfl
      simp [Act.put]
      refine wpAnyH_take (i := 1) (v := ?_) rfl (by kernel_rfl) (by kernel_rfl) (by kernel_rfl) (fun _ _ _ h => h) (Or.inl ⟨by rfl, ?_⟩) (by assumption) ?_
      rotate_left
      · intro w _; go_simp; try with_reducible rfl
      simp [Act.put]
      refine wpAnyH_take (i := 3) (v := .agg X.cs.toArray) rfl (by kernel_rfl) (by kernel_rfl) (by kernel_rfl) (fun _ _ _ h => h) (Or.inl ⟨by rfl, ?_⟩) (by assumption) ?_
      · intro w hS
        exact ex_ld (.tmp 12) rfl gx 0 X rfl hS.x
      simp [Act.put]
      refine wpAnyH_ready (rs := [2]) (by kernel_rfl) (by simp) ?_
      refine AllReadyH.cons rfl (fun K hK => ?_) AllReadyH.nil
      go_simp
      refine (stable_any hHeld.d (at_ : Int)).mono ?_
      rintro e w8 ⟨rfl, hc8⟩
      rw [hst6.out]
      refine hK.out _ _ (hHeld.chg hc8) (fun hHeld2 => ?_)
      clear hK K
      try simp
      clear hHeld hc8
      refine wpAnyH_take (i := 4) (v := .bool false) rfl (by kernel_rfl) (by kernel_rfl) (by kernel_rfl) (fun _ _ _ h => h) (Or.inl ⟨by rfl, ?_⟩) (by assumption) ?_
      · intro w hS
        exact ex_neS (.tmp 82) (.tmp 83) rfl X X rfl rfl false hsame.out
      simp [Act.put]
      refine wpAnyH_take (i := 5) (v := ?_) rfl (by kernel_rfl) (by kernel_rfl) (by kernel_rfl) (fun _ _ _ h => h) (Or.inl ⟨by rfl, ?_⟩) (by assumption) ?_
      rotate_left
      · intro w _; go_simp; try with_reducible rfl
      simp [Act.put]
      refine wpAnyH_take (i := 6) (v := ?_) rfl (by kernel_rfl) (by kernel_rfl) (by kernel_rfl) (fun _ _ _ h => h) (Or.inl ⟨by rfl, ?_⟩) (by assumption) ?_
      rotate_left
      · intro w _; go_simp; try with_reducible rfl
      simp [Act.put]
      refine wpAnyH_take (i := 7) (v := ?_) rfl (by kernel_rfl) (by kernel_rfl) (by kernel_rfl) (fun _ _ _ h => h) (Or.inl ⟨by rfl, ?_⟩) (by assumption) ?_
      rotate_left
      · intro w _; go_simp; try with_reducible rfl
      simp [Act.put]
      refine wpAnyH_take (i := 9) (v := .agg X.cs.toArray) rfl (by kernel_rfl) (by kernel_rfl) (by kernel_rfl) (fun _ _ _ h => h) (Or.inl ⟨by rfl, ?_⟩) (by assumption) ?_
      · intro w hS
        exact ex_ld (.tmp 12) rfl gx 0 X rfl hS.x
      simp [Act.put]
      refine wpAnyH_ready (rs := [8]) (by kernel_rfl) (by simp) ?_
      refine AllReadyH.cons rfl (fun K hK => ?_) AllReadyH.nil
      go_simp
      refine (stable_any hHeld2.e (at_ : Int)).mono ?_
      rintro e w9 ⟨rfl, hc9⟩
      rw [hst7.out]
      refine hK.out _ _ (hHeld2.chg hc9) (fun hHeld3 => ?_)
      clear hK K
      try simp
      clear hHeld2 hc9
      refine wpAnyH_take (i := 10) (v := .bool false) rfl (by kernel_rfl) (by kernel_rfl) (by kernel_rfl) (fun _ _ _ h => h) (Or.inl ⟨by rfl, ?_⟩) (by assumption) ?_
      · intro w hS
        exact ex_neS (.tmp 88) (.tmp 89) rfl X X rfl rfl false hsame.out
      simp [Act.put]
      refine wpAnyH_take (i := 11) (v := ?_) rfl (by kernel_rfl) (by kernel_rfl) (by kernel_rfl) (fun _ _ _ h => h) (Or.inl ⟨by rfl, ?_⟩) (by assumption) ?_
      rotate_left
      · intro w _; go_simp; try with_reducible rfl
      simp [Act.put]
      refine wpAnyH_take (i := 12) (v := ?_) rfl (by kernel_rfl) (by kernel_rfl) (by kernel_rfl) (fun _ _ _ h => h) (Or.inl ⟨by rfl, ?_⟩) (by assumption) ?_
      rotate_left
      · intro w _; go_simp; try with_reducible rfl
      simp [Act.put]
      refine wpAnyH_take (i := 13) (v := ?_) rfl (by kernel_rfl) (by kernel_rfl) (by kernel_rfl) (fun _ _ _ h => h) (Or.inl ⟨by rfl, ?_⟩) (by assumption) ?_
      rotate_left
      · intro w _; go_simp; try with_reducible rfl
      simp [Act.put]
      refine wpAnyH_take (i := 15) (v := ?_) rfl (by kernel_rfl) (by kernel_rfl) (by kernel_rfl) (fun _ _ _ h => h) (Or.inl ⟨by rfl, ?_⟩) (by assumption) ?_
      rotate_left
      · intro w _; go_simp; try with_reducible rfl
      simp [Act.put]
      refine wpAnyH_ready (rs := [14]) (by kernel_rfl) (by simp) ?_
      refine AllReadyH.cons rfl (fun K hK => ?_) AllReadyH.nil
      go_simp
      refine (pending_any hHeld3.d).mono ?_
      rintro e w9 ⟨rfl, rfl⟩
      rw [hp6.out]
      refine hK.out _ _ hHeld3 (fun hHeld4 => ?_)
      clear hK K
      try simp
      clear hHeld3
      refine wpAnyH_ready (rs := [16]) (by kernel_rfl) (by simp) ?_
      refine AllReadyH.cons rfl (fun K hK => ?_) AllReadyH.nil
      go_simp
      refine (pending_any hHeld4.e).mono ?_
      rintro e w9 ⟨rfl, rfl⟩
      rw [hp7.out]
      refine hK.out _ _ hHeld4 (fun hHeld5 => ?_)
      clear hK K
      try simp
      clear hHeld4
      refine wpAnyH_take (i := 17) (v := ?_) rfl (by kernel_rfl) (by kernel_rfl) (by kernel_rfl) (fun _ _ _ h => h) (Or.inl ⟨by rfl, ?_⟩) (by assumption) ?_
      rotate_left
      · intro w _; go_simp; try with_reducible rfl
      simp [Act.put]
      refine wpAnyH_take (i := 18) (v := ?_) rfl (by kernel_rfl) (by kernel_rfl) (by kernel_rfl) (fun _ _ _ h => h) (Or.inl ⟨by rfl, ?_⟩) (by assumption) ?_
      rotate_left
      · intro w _; go_simp; try with_reducible rfl
      simp [Act.put]
      refine wpAnyH_take (i := 19) (v := ?_) rfl (by kernel_rfl) (by kernel_rfl) (by kernel_rfl) (fun _ _ _ h => h) (Or.inl ⟨by rfl, ?_⟩) (by assumption) ?_
      rotate_left
      · intro w _; go_simp; try with_reducible rfl
      simp [Act.put]
      refine wpAnyH_done (by kernel_rfl) ?_ _
      have hS9 := Lib.hid hHeld5
      clear hHeld5 hst7 hp7
      have hrk := Lib.hid (HT.out.below hS9.out.b)
      go_wp2_with (refine app_keep rfl 101 102 rfl rfl w.heap.size A' c' ks rfl hrk.out (by have := HKL.out; omega) ?_; intro A5 c5 w10 hr10 hb10)
      have hnf := Lib.hid (fun k hk => hS9.out.d.lt k hk)
      have hS10 := Lib.hid (hS9.out.chg (Chg.of_below hb10.out))
      have hK10 : Hid (RdK w10 D pd6 A5 ks) := fun hp => by
        obtain ⟨b, off, e, h1, h2, h3⟩ := hr10.out hp
        exact ⟨b, off, e, h2, fun hk => by have := hnf.out b hk; omega, h3⟩
      have hpi : (sD.pend.length : Int) ≤ 1000000 := by rw [hp6.out]; simp
      clear hnf hb10 hr10 hrk hS9
      refine (crash_any hS10.out.d hpi A5 c5 ks hK10.out).mono ?_
      rintro e w11 ⟨rfl, hD11, hG11⟩
      have hst11 : Hid ((sD.crash ks).stable 8 (at_ : Int) = X) := by
        have h := hst6.out
        show _ = _
        rw [← h]
        unfold St.stable St.crash
        rw [hp6.out]
        rfl
      have hT11 : Hid (w11.drew.rangeAt gx 0 X.cs ∧ At w11.drew B 8 D (.slice none 0 0) (sD.crash ks) ∧ Below w.heap.size w w11.drew) :=
        ⟨rangeAt_chg hS10.out.x hG11.chg.drew hxd6.out, hD11.drew, (hS10.out.b.trans (hG11.chg.below (fun k hk => Nat.le_trans HBB.out (hS10.out.d.ge k hk)) hS10.out.b.size)).drew⟩
      clear hS10 hK10 hpi hD11 hG11 hst6 hp6
      generalize sD.crash ks = sF at *
      go_wp2_with fail
      have hsame2 : Hid (X.same X = true) := X.same_self
      refine wp_region_held_drew (S := fun w' => w'.rangeAt gx 0 X.cs ∧ At w' B 8 D (.slice none 0 0) sF ∧ Below w.heap.size w w') (by kernel_rfl) hT11.out (fun hHeld => ?_)
      clear hT11
      refine wpAnyH_take (i := 0) (v := ?_) rfl (by kernel_rfl) (by kernel_rfl) (by kernel_rfl) (fun _ _ _ h => h) (Or.inl ⟨by rfl, ?_⟩) (by assumption) ?_
      rotate_left
      · intro w _; go_simp; try with_reducible rfl
      simp [Act.put]
      refine wpAnyH_take (i := 1) (v := ?_) rfl (by kernel_rfl) (by kernel_rfl) (by kernel_rfl) (fun _ _ _ h => h) (Or.inl ⟨by rfl, ?_⟩) (by assumption) ?_
      rotate_left
      · intro w _; go_simp; try with_reducible rfl
      simp [Act.put]
      refine wpAnyH_take (i := 3) (v := .agg X.cs.toArray) rfl (by kernel_rfl) (by kernel_rfl) (by kernel_rfl) (fun _ _ _ h => h) (Or.inl ⟨by rfl, ?_⟩) (by assumption) ?_
      · intro w hS
        exact ex_ld (.tmp 12) rfl gx 0 X rfl hS.1
      simp [Act.put]
      refine wpAnyH_ready (rs := [2]) (by kernel_rfl) (by simp) ?_
      refine AllReadyH.cons rfl (fun K hK => ?_) AllReadyH.nil
      go_simp
      refine (stable_any hHeld.2.1 (at_ : Int)).mono ?_
      rintro e w12 ⟨rfl, hc12⟩
      rw [hst11.out]
      refine hK.out _ _ ⟨rangeAt_chg hHeld.1 hc12 id, hHeld.2.1.chg hc12 (fun _ _ h => h), hHeld.2.2.trans (hc12.below (fun _ h => h.elim) hHeld.2.2.size)⟩ (fun hHeld2 => ?_)
      clear hK K
      try simp
      clear hHeld hc12
      refine wpAnyH_take (i := 4) (v := .bool true) rfl (by kernel_rfl) (by kernel_rfl) (by kernel_rfl) (fun _ _ _ h => h) (Or.inl ⟨by rfl, ?_⟩) (by assumption) ?_
      · intro w hS
        have h := hsame2.out
        exact ex_eqS2 (.tmp 107) (.tmp 108) rfl X X rfl rfl true h
      simp [Act.put]
      refine wpAnyH_take (i := 5) (v := ?_) rfl (by kernel_rfl) (by kernel_rfl) (by kernel_rfl) (fun _ _ _ h => h) (Or.inl ⟨by rfl, ?_⟩) (by assumption) ?_
      rotate_left
      · intro w _; go_simp; try with_reducible rfl
      simp [Act.put]
      refine wpAnyH_done (by kernel_rfl) ?_ _
      go_wp2_with fail
      go_ret
      exact ⟨rfl, hHeld2.2.2⟩
theorem flushes_any (x : Int) :
    Calls Try.prog 7 #[.slice A l.length c, .slice A' ks.length c', .int .i64 x] w fun e w' => e = .returned (.bool true) ∧ Below w.heap.size w w' := by
  by_cases h : (100 : Int) < l.length ∨ x < 0 ∨ 7 < x
  · exact flushes_out A c l A' c' ks w x h
  · obtain ⟨k, rfl⟩ := Int.eq_ofNat_of_zero_le (show 0 ≤ x by omega)
    exact flushes_in A c l A' c' ks w hs ht hkl k (by omega) (by omega) (by omega)
end
end Go.Proofs.Ytoacagfddbmonaa
