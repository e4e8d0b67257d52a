/- Walks: VdevReads. -/
import Derived.Test.YtoacagfddbmonaaV12
namespace Go.Proofs.Ytoacagfddbmonaa
open Go.RowKit
theorem many8 : manyF 8 = 8 := by kernel_rfl
theorem zs8 (at_ : Nat) (h : at_ < 8) : (newSt 8).nw.getD at_ zsec = zsec := by
  show (List.replicate 8 zsec).getD at_ zsec = zsec
  have hg : (List.replicate 8 zsec)[at_]? = some zsec := by rw [List.getElem?_replicate, if_pos h]
  rw [List.getD, hg]
  rfl
/-- What VdevReads keeps up, round by round: the device at D, in gw what was written last. -/
def RI (w wr : World) (B at_ gw : Nat) (D : Dev) (k : Nat) : Prop := ∃ (s : St) (pv : Value) (want : Sec), At wr B 8 D pv s ∧ Blk wr gw 29 want.cs.toArray ∧ ¬ D.own pv gw ∧ Below w.heap.size w wr ∧ s.left < 0 ∧ s.dead = false ∧ s.nw.getD at_ zsec = want ∧ s.pend.length ≤ k
theorem reads_out (A : Option Addr) (c : Nat) (l : List Deed) (at_ : Int) (w : World) (h : (200 : Int) < l.length ∨ at_ < 0 ∨ 7 < at_) :
    Calls Try.prog 5 #[.slice A l.length c, .int .i64 at_] w fun e w' => e = .returned (.bool true) ∧ Below w.heap.size w w' := by
  have H := Lib.hid h; clear h
  go_enter Try.func5, Try.ntmps5
  go_wp2_with fail
  refine (alive_any _).mono ?_
  rintro e w1 ⟨rfl, hb1⟩
  have HB1 := Lib.hid hb1; clear hb1
  go_wp2_with fail
  refine (new_any 8 _).mono ?_
  rintro e w2 ⟨D, rfl, hA, hb⟩
  rw [many8] at hA
  have hA2 := Lib.hid hA
  have HB2 := Lib.hid (HB1.out.trans (hb.mono HB1.out.size))
  have HBB := Lib.hid HB1.out.size
  clear hA hb HB1
  clear hA2
  by_cases h1 : (200 : Int) < l.length
  · go_wp2_with fail
    go_ret
    exact ⟨rfl, HB2.out⟩
  · by_cases h2 : at_ < 0
    · go_wp2_with fail
      go_ret
      exact ⟨rfl, HB2.out⟩
    · have h3 : 7 < at_ := by rcases H.out with h | h | h <;> omega
      go_wp2_with fail
      go_ret
      exact ⟨rfl, HB2.out⟩
section
variable (A : Option Addr) (c : Nat) (l : List Deed) (w : World) (hs : Rd w w.heap.size A (flatD l))
include hs
set_option maxHeartbeats 4000000 in
theorem reads_in (at_ : Nat) (hl : (l.length : Int) ≤ 200) (h0 : (0 : Int) ≤ at_) (h7 : (at_ : Int) ≤ 7) :
    Calls Try.prog 5 #[.slice A l.length c, .int .i64 (at_ : Int)] w fun e w' => e = .returned (.bool true) ∧ Below w.heap.size w w' := by
  have HS := Lib.hid hs; clear hs
  have hz : ∀ w, Sem.run Try.prog (zeroValue 29) w = .ok (.agg zsec.cs.toArray) w := zeroSec
  have hza : ∀ w, Sem.run Try.prog (zeroValue 32) w = .ok (.agg zdeed.cs.toArray) w := zeroAct
  go_enter Try.func5, Try.ntmps5
  go_wp2_with fail
  refine (alive_any _).mono ?_
  rintro e w1 ⟨rfl, hb1⟩
  have HB1 := Lib.hid hb1; clear hb1
  go_wp2_with fail
  refine (new_any 8 _).mono ?_
  rintro e w2 ⟨D, rfl, hA, hb⟩
  rw [many8] at hA
  have hA2 := Lib.hid hA
  have HB2 := Lib.hid (HB1.out.trans (hb.mono HB1.out.size))
  have HBB := Lib.hid HB1.out.size
  clear hA hb HB1
  have hn : Hid (Blk (w2.alloc (.cells zsec.cs.toArray 29)) w2.heap.size 29 zsec.cs.toArray) := Blk.new _ _ _
  go_wp2_with (first
    | (refine wpList_val (by rfl) _ (ex_build0 rfl) ?_)
    | (with_reducible refine st_sec rfl _ _ rfl w2.heap.size 0 zsec rfl rfl hn.out.secHas ?_; intro w3 hw3))
  have hc3 : Chg w2 w3 (fun _ => False) := by rw [hw3.out]; exact chg_new _ _ _ _ _ rfl
  have hb3 : Hid (Blk w3 w2.heap.size 29 zsec.cs.toArray) := by
    have h := hn.out.secAll zsec
    rwa [← hw3.out] at h
  have hA3 := Lib.hid (hA2.out.chg hc3 fun _ _ h => h)
  have HB3 := Lib.hid (HB2.out.trans (hc3.below (fun _ h => h.elim) HB2.out.size))
  have hfar := Lib.hid hA2.out.new_far
  generalize w1.heap.size = B at *
  have HGW := Lib.hid HB2.out.size
  clear hw3 hn hA2 HB2 hc3
  generalize w2.heap.size = gw at *
  go_loopw [34] (fun i wr => ∃ (k : Nat), k ≤ l.length ∧ i = .int .i64 k ∧ RI w wr B at_ gw D k) (fun i _ => l.length - (intOf i).toNat)
  case atStart => exact ⟨0, by omega, rfl, ⟨_, _, _, hA3.out, hb3.out, hfar.out, HB3.out, by show (-1 : Int) < 0; omega, rfl, zs8 at_ (by omega), Nat.le_refl _⟩⟩
  case round =>
    clear hA3 HB3 hb3 hfar
    obtain ⟨k, hk, rfl, hR⟩ := hrel
    have HR := Lib.hid hR
    clear hR
    by_cases hlt : k < l.length
    · have HL := Lib.hid hlt
      have hki : (k : Int) < l.length := by omega
      obtain ⟨b, off, rfl, hbB, hrg⟩ := rd_deed HS.out k hlt
      have hrg := Lib.hid hrg
      generalize l[k] = d at *
      obtain ⟨s, pv, want, hA, hbw, hfar, hB, hleft, hdead, hwant, hpl⟩ := HR.out
      have hA := Lib.hid hA; have hbw := Lib.hid hbw; have hfar := Lib.hid hfar; have hB := Lib.hid hB
      have hleft := Lib.hid hleft; have hdead := Lib.hid hdead; have hwant := Lib.hid hwant; have hpl := Lib.hid hpl
      clear HR
      have hrg2 : Hid (wr.rangeAt b (off + k * 131) d.cs) := fun j v hv => (hB.out.cell (p := ⟨b, off + k * 131 + j, none⟩) hbB).trans (hrg.out j v hv)
      clear hrg
      have hln : Hid (s.nw.length = 8) := hA.out.ln
      have hgwB : Hid (w.heap.size ≤ gw) := HGW.out
      have hn : Hid (Blk (wr.alloc (.cells zdeed.cs.toArray 32)) wr.heap.size 32 zdeed.cs.toArray) := Blk.new _ _ _
      have hact : ∀ w3, Hid (Hid (w3 = (wr.alloc (.cells zdeed.cs.toArray 32)).setCells wr.heap.size 0 d.cs) → w3.cell? ⟨wr.heap.size, 0, none⟩ = some (.int .i64 d.kind) ∧ w3.cell? ⟨wr.heap.size, 1, none⟩ = some (.int .i64 d.at_) ∧ Hid (w3.rangeAt wr.heap.size 2 d.data.cs)) := fun w3 hw => by
        have h := hn.out.actAll d
        rw [← hw.out] at h
        exact ⟨h.actKind, h.actAt, h.actData⟩
      by_cases hkd : d.kind = 1
      · have hkd : Hid (d.kind = 1) := hkd
        by_cases hh : hasF 8 d.at_ = true
        · obtain ⟨ha0, ha8⟩ := has8.1 hh
          have hh := Lib.hid hh
          have ha0 := Lib.hid ha0
          have ha8 := Lib.hid ha8
          by_cases hea : d.at_ = (at_ : Int)
          · have hea3 := Lib.hid hea
            have hea2 : (d.at_ == (at_ : Int)) = true := by rw [beq_iff_eq]; exact hea
            clear hea
            go_wp2_with (first
              | (with_reducible refine ld_act rfl _ rfl b (off + k * 131) d rfl hrg2.out ?_)
              | (with_reducible refine st_act rfl _ _ rfl wr.heap.size 0 d rfl rfl hn.out.actHas ?_; intro w3 hw3; obtain ⟨hk3, hat3, hdt3⟩ := (hact w3).out hw3; rw [hkd.out] at hk3)
              | (refine wpList_val (by rfl) _ (ex_ld (.tmp 45) rfl wr.heap.size 2 d.data rfl hdt3.out) ?_))
            have hc3 : Chg wr w3 (fun _ => False) := by rw [hw3.out]; exact chg_new _ _ _ _ _ rfl
            have hb3 : Hid (Blk w3 wr.heap.size 32 d.cs.toArray) := by
              have h := hn.out.actAll d
              rwa [← hw3.out] at h
            have hA3 := Lib.hid (hA.out.chg hc3 fun _ _ h => h)
            have hbw3 : Hid (Blk w3 gw 29 want.cs.toArray) := hbw.out.chg hc3 id
            have hB3 := Lib.hid (hB.out.trans (hc3.below (fun _ h => h.elim) hB.out.size))
            have hga := Lib.hid hA.out.new_far
            have hne := Lib.hid (Nat.ne_of_lt hbw.out.lt)
            clear hw3 hc3 hrg2 hn hact hA hbw hB
            generalize wr.heap.size = ga at *
            refine (write_any hA3.out d.at_ d.data (by have := hpl.out; have := HL.out; omega)).mono ?_
            rintro e w4 ⟨pv4, rfl, hA4, hG4⟩
            have hw := calm_write hleft.out hdead.out d.at_ d.data hh.out
            rw [hw] at hA4 ⊢
            clear hw
            dsimp only at hA4 ⊢
            have hb4 : Hid (Blk w4 ga 32 d.cs.toArray) := hb3.out.chg hG4.chg hga.out
            have hbw4 : Hid (Blk w4 gw 29 want.cs.toArray) := hbw3.out.chg hG4.chg hfar.out
            have hfar4 := Lib.hid (hG4.own hbw3.out.lt hfar.out)
            have hB4 := Lib.hid (hB3.out.trans (hG4.chg.below (fun k hk => Nat.le_trans HBB.out (hA3.out.ge k hk)) hB3.out.size))
            have hA4 := Lib.hid hA4
            have hk4 := hb4.out.actKind
            have hat4 := hb4.out.actAt
            have hdt4 := Lib.hid hb4.out.actData
            clear hk3 hat3 hdt3 hb3 hbw3 hfar hB3 hA3 hga hG4
            rw [hkd.out] at hk4
            have hthere := Lib.hid hbw4.out.secHas
            have hc5 : ∀ w5, w5 = w4.setCells gw 0 d.data.cs → Hid (Chg w4 w5 (· = gw)) := fun w5 e => by rw [e]; exact Chg.setCells (O := (· = gw)) (.inl rfl) _ _ (Chg.refl _ _)
            have hact5 : ∀ w5, Hid (Hid (w5 = w4.setCells gw 0 d.data.cs) → w5.cell? ⟨ga, 0, none⟩ = some (.int .i64 d.kind) ∧ w5.cell? ⟨ga, 1, none⟩ = some (.int .i64 d.at_)) := fun w5 hw => by
              have h := hb4.out.chg (hc5 w5 hw.out).out (fun e => hne.out e.symm)
              exact ⟨h.actKind, h.actAt⟩
            go_wp2_with (first
              | (with_reducible refine ld_sec rfl _ rfl ga 2 d.data rfl hdt4.out ?_)
              | (with_reducible refine st_sec rfl _ _ rfl gw 0 d.data rfl rfl hthere.out ?_; intro w5 hw5; obtain ⟨hk5, hat5⟩ := (hact5 w5).out hw5; rw [hkd.out] at hk5))
            have hA5 : Hid (At w5 B 8 D pv4 _) := (hA4.out.chg (hc5 w5 hw5.out).out fun k hk e => hfar4.out (e ▸ hk))
            have hbw5 := Lib.hid (hbw4.out.secAll d.data)
            rw [← hw5.out] at hbw5
            have hB5 := Lib.hid (hB4.out.trans ((hc5 w5 hw5.out).out.below (fun k hk => hk ▸ hgwB.out) hB4.out.size))
            go_roundw
            case rel =>
              have hpl := hpl.out
              exact ⟨k + 1, by omega, by go_num, ⟨_, pv4, d.data, hA5.out, hbw5.out, hfar4.out, hB5.out, hleft.out, hdead.out, by show (s.nw.set d.at_.toNat d.data).getD at_ zsec = _; rw [getD_set s.nw d.at_.toNat at_ d.data (by rw [hln.out]; omega), if_pos (by have := ha0.out; have := ha8.out; have := hea3.out; omega)], by have h := hpl; simp only [List.length_append, List.length_singleton]; omega⟩⟩
            case measure =>
              have := HL.out
              simp [intOf]
              omega
          · have hea3 := Lib.hid hea
            have hea2 : (d.at_ == (at_ : Int)) = false := by rw [beq_eq_false_iff_ne]; exact hea
            clear hea
            go_wp2_with (first
              | (with_reducible refine ld_act rfl _ rfl b (off + k * 131) d rfl hrg2.out ?_)
              | (with_reducible refine st_act rfl _ _ rfl wr.heap.size 0 d rfl rfl hn.out.actHas ?_; intro w3 hw3; obtain ⟨hk3, hat3, hdt3⟩ := (hact w3).out hw3; rw [hkd.out] at hk3)
              | (refine wpList_val (by rfl) _ (ex_ld (.tmp 45) rfl wr.heap.size 2 d.data rfl hdt3.out) ?_))
            have hc3 : Chg wr w3 (fun _ => False) := by rw [hw3.out]; exact chg_new _ _ _ _ _ rfl
            have hb3 : Hid (Blk w3 wr.heap.size 32 d.cs.toArray) := by
              have h := hn.out.actAll d
              rwa [← hw3.out] at h
            have hA3 := Lib.hid (hA.out.chg hc3 fun _ _ h => h)
            have hbw3 : Hid (Blk w3 gw 29 want.cs.toArray) := hbw.out.chg hc3 id
            have hB3 := Lib.hid (hB.out.trans (hc3.below (fun _ h => h.elim) hB.out.size))
            have hga := Lib.hid hA.out.new_far
            have hne := Lib.hid (Nat.ne_of_lt hbw.out.lt)
            clear hw3 hc3 hrg2 hn hact hA hbw hB
            generalize wr.heap.size = ga at *
            refine (write_any hA3.out d.at_ d.data (by have := hpl.out; have := HL.out; omega)).mono ?_
            rintro e w4 ⟨pv4, rfl, hA4, hG4⟩
            have hw := calm_write hleft.out hdead.out d.at_ d.data hh.out
            rw [hw] at hA4 ⊢
            clear hw
            dsimp only at hA4 ⊢
            have hb4 : Hid (Blk w4 ga 32 d.cs.toArray) := hb3.out.chg hG4.chg hga.out
            have hbw4 : Hid (Blk w4 gw 29 want.cs.toArray) := hbw3.out.chg hG4.chg hfar.out
            have hfar4 := Lib.hid (hG4.own hbw3.out.lt hfar.out)
            have hB4 := Lib.hid (hB3.out.trans (hG4.chg.below (fun k hk => Nat.le_trans HBB.out (hA3.out.ge k hk)) hB3.out.size))
            have hA4 := Lib.hid hA4
            have hk4 := hb4.out.actKind
            have hat4 := hb4.out.actAt
            have hdt4 := Lib.hid hb4.out.actData
            clear hk3 hat3 hdt3 hb3 hbw3 hfar hB3 hA3 hga hG4
            rw [hkd.out] at hk4
            go_wp2_with fail
            go_roundw
            case rel =>
              have hpl := hpl.out
              exact ⟨k + 1, by omega, by go_num, ⟨_, pv4, want, hA4.out, hbw4.out, hfar4.out, hB4.out, hleft.out, hdead.out, by show (s.nw.set d.at_.toNat d.data).getD at_ zsec = _; rw [getD_set s.nw d.at_.toNat at_ d.data (by rw [hln.out]; omega), if_neg (by have := ha0.out; have := ha8.out; have := hea3.out; omega)]; exact hwant.out, by have h := hpl; simp only [List.length_append, List.length_singleton]; omega⟩⟩
            case measure =>
              have := HL.out
              simp [intOf]
              omega
        · have hh := Lib.hid hh
          go_wp2_with (first
            | (with_reducible refine ld_act rfl _ rfl b (off + k * 131) d rfl hrg2.out ?_)
            | (with_reducible refine st_act rfl _ _ rfl wr.heap.size 0 d rfl rfl hn.out.actHas ?_; intro w3 hw3; obtain ⟨hk3, hat3, hdt3⟩ := (hact w3).out hw3; rw [hkd.out] at hk3)
            | (refine wpList_val (by rfl) _ (ex_ld (.tmp 45) rfl wr.heap.size 2 d.data rfl hdt3.out) ?_))
          have hc3 : Chg wr w3 (fun _ => False) := by rw [hw3.out]; exact chg_new _ _ _ _ _ rfl
          have hb3 : Hid (Blk w3 wr.heap.size 32 d.cs.toArray) := by
            have h := hn.out.actAll d
            rwa [← hw3.out] at h
          have hA3 := Lib.hid (hA.out.chg hc3 fun _ _ h => h)
          have hbw3 : Hid (Blk w3 gw 29 want.cs.toArray) := hbw.out.chg hc3 id
          have hB3 := Lib.hid (hB.out.trans (hc3.below (fun _ h => h.elim) hB.out.size))
          have hga := Lib.hid hA.out.new_far
          have hne := Lib.hid (Nat.ne_of_lt hbw.out.lt)
          clear hw3 hc3 hrg2 hn hact hA hbw hB
          generalize wr.heap.size = ga at *
          refine (write_any hA3.out d.at_ d.data (by have := hpl.out; have := HL.out; omega)).mono ?_
          rintro e w4 ⟨pv4, rfl, hA4, hG4⟩
          have hw := no_write (s := s) d.at_ d.data hh.out
          rw [hw] at hA4 ⊢
          clear hw
          dsimp only at hA4 ⊢
          have hb4 : Hid (Blk w4 ga 32 d.cs.toArray) := hb3.out.chg hG4.chg hga.out
          have hbw4 : Hid (Blk w4 gw 29 want.cs.toArray) := hbw3.out.chg hG4.chg hfar.out
          have hfar4 := Lib.hid (hG4.own hbw3.out.lt hfar.out)
          have hB4 := Lib.hid (hB3.out.trans (hG4.chg.below (fun k hk => Nat.le_trans HBB.out (hA3.out.ge k hk)) hB3.out.size))
          have hA4 := Lib.hid hA4
          have hk4 := hb4.out.actKind
          have hat4 := hb4.out.actAt
          have hdt4 := Lib.hid hb4.out.actData
          clear hk3 hat3 hdt3 hb3 hbw3 hfar hB3 hA3 hga hG4
          rw [hkd.out] at hk4
          go_wp2_with fail
          go_roundw
          case rel =>
            have hpl := hpl.out
            exact ⟨k + 1, by omega, by go_num, ⟨_, pv4, want, hA4.out, hbw4.out, hfar4.out, hB4.out, hleft.out, hdead.out, hwant.out, by show s.pend.length ≤ _; omega⟩⟩
          case measure =>
            have := HL.out
            simp [intOf]
            omega
      · by_cases hkd5 : d.kind = 5
        · have hkd := hkd5
          clear hkd5
          have hkd : Hid (d.kind = 5) := hkd
          by_cases hh : hasF 8 d.at_ = true
          · obtain ⟨ha0, ha8⟩ := has8.1 hh
            have hh := Lib.hid hh
            have ha0 := Lib.hid ha0
            have ha8 := Lib.hid ha8
            by_cases hea : d.at_ = (at_ : Int)
            · have hea3 := Lib.hid hea
              have hea2 : (d.at_ == (at_ : Int)) = true := by rw [beq_iff_eq]; exact hea
              clear hea
              go_wp2_with (first
                | (with_reducible refine ld_act rfl _ rfl b (off + k * 131) d rfl hrg2.out ?_)
                | (with_reducible refine st_act rfl _ _ rfl wr.heap.size 0 d rfl rfl hn.out.actHas ?_; intro w3 hw3; obtain ⟨hk3, hat3, hdt3⟩ := (hact w3).out hw3; rw [hkd.out] at hk3)
                | (refine wpList_val (by rfl) _ (ex_ld (.tmp 64) rfl wr.heap.size 2 d.data rfl hdt3.out) ?_))
              have hc3 : Chg wr w3 (fun _ => False) := by rw [hw3.out]; exact chg_new _ _ _ _ _ rfl
              have hb3 : Hid (Blk w3 wr.heap.size 32 d.cs.toArray) := by
                have h := hn.out.actAll d
                rwa [← hw3.out] at h
              have hA3 := Lib.hid (hA.out.chg hc3 fun _ _ h => h)
              have hbw3 : Hid (Blk w3 gw 29 want.cs.toArray) := hbw.out.chg hc3 id
              have hB3 := Lib.hid (hB.out.trans (hc3.below (fun _ h => h.elim) hB.out.size))
              have hga := Lib.hid hA.out.new_far
              have hne := Lib.hid (Nat.ne_of_lt hbw.out.lt)
              clear hw3 hc3 hrg2 hn hact hA hbw hB
              generalize wr.heap.size = ga at *
              refine (rot_any hA3.out (by have := hpl.out; have := HL.out; omega) d.at_ d.data).mono ?_
              rintro e w4 ⟨rfl, hA4, hG4⟩
              have hw := do_rot (s := s) d.at_ d.data hh.out
              rw [hw] at hA4 ⊢
              clear hw
              dsimp only at hA4 ⊢
              have hb4 : Hid (Blk w4 ga 32 d.cs.toArray) := hb3.out.chg hG4.chg hga.out
              have hbw4 : Hid (Blk w4 gw 29 want.cs.toArray) := hbw3.out.chg hG4.chg hfar.out
              have hfar4 := Lib.hid (hG4.own hbw3.out.lt hfar.out)
              have hB4 := Lib.hid (hB3.out.trans (hG4.chg.below (fun k hk => Nat.le_trans HBB.out (hA3.out.ge k hk)) hB3.out.size))
              have hA4 := Lib.hid hA4
              have hk4 := hb4.out.actKind
              have hat4 := hb4.out.actAt
              have hdt4 := Lib.hid hb4.out.actData
              clear hk3 hat3 hdt3 hb3 hbw3 hfar hB3 hA3 hga hG4
              rw [hkd.out] at hk4
              have hthere := Lib.hid hbw4.out.secHas
              have hc5 : ∀ w5, w5 = w4.setCells gw 0 d.data.cs → Hid (Chg w4 w5 (· = gw)) := fun w5 e => by rw [e]; exact Chg.setCells (O := (· = gw)) (.inl rfl) _ _ (Chg.refl _ _)
              have hact5 : ∀ w5, Hid (Hid (w5 = w4.setCells gw 0 d.data.cs) → w5.cell? ⟨ga, 0, none⟩ = some (.int .i64 d.kind) ∧ w5.cell? ⟨ga, 1, none⟩ = some (.int .i64 d.at_)) := fun w5 hw => by
                have h := hb4.out.chg (hc5 w5 hw.out).out (fun e => hne.out e.symm)
                exact ⟨h.actKind, h.actAt⟩
              go_wp2_with (first
                | (with_reducible refine ld_sec rfl _ rfl ga 2 d.data rfl hdt4.out ?_)
                | (with_reducible refine st_sec rfl _ _ rfl gw 0 d.data rfl rfl hthere.out ?_; intro w5 hw5; obtain ⟨hk5, hat5⟩ := (hact5 w5).out hw5; rw [hkd.out] at hk5))
              have hA5 : Hid (At w5 B 8 D pv _) := (hA4.out.chg (hc5 w5 hw5.out).out fun k hk e => hfar4.out (e ▸ hk))
              have hbw5 := Lib.hid (hbw4.out.secAll d.data)
              rw [← hw5.out] at hbw5
              have hB5 := Lib.hid (hB4.out.trans ((hc5 w5 hw5.out).out.below (fun k hk => hk ▸ hgwB.out) hB4.out.size))
              go_roundw
              case rel =>
                have hpl := hpl.out
                exact ⟨k + 1, by omega, by go_num, ⟨_, pv, d.data, hA5.out, hbw5.out, hfar4.out, hB5.out, hleft.out, hdead.out, by show (s.nw.set d.at_.toNat d.data).getD at_ zsec = _; rw [getD_set s.nw d.at_.toNat at_ d.data (by rw [hln.out]; omega), if_pos (by have := ha0.out; have := ha8.out; have := hea3.out; omega)], by show (rotP _ _ s.pend).length ≤ _; rw [rotP_len]; omega⟩⟩
              case measure =>
                have := HL.out
                simp [intOf]
                omega
            · have hea3 := Lib.hid hea
              have hea2 : (d.at_ == (at_ : Int)) = false := by rw [beq_eq_false_iff_ne]; exact hea
              clear hea
              go_wp2_with (first
                | (with_reducible refine ld_act rfl _ rfl b (off + k * 131) d rfl hrg2.out ?_)
                | (with_reducible refine st_act rfl _ _ rfl wr.heap.size 0 d rfl rfl hn.out.actHas ?_; intro w3 hw3; obtain ⟨hk3, hat3, hdt3⟩ := (hact w3).out hw3; rw [hkd.out] at hk3)
                | (refine wpList_val (by rfl) _ (ex_ld (.tmp 64) rfl wr.heap.size 2 d.data rfl hdt3.out) ?_))
              have hc3 : Chg wr w3 (fun _ => False) := by rw [hw3.out]; exact chg_new _ _ _ _ _ rfl
              have hb3 : Hid (Blk w3 wr.heap.size 32 d.cs.toArray) := by
                have h := hn.out.actAll d
                rwa [← hw3.out] at h
              have hA3 := Lib.hid (hA.out.chg hc3 fun _ _ h => h)
              have hbw3 : Hid (Blk w3 gw 29 want.cs.toArray) := hbw.out.chg hc3 id
              have hB3 := Lib.hid (hB.out.trans (hc3.below (fun _ h => h.elim) hB.out.size))
              have hga := Lib.hid hA.out.new_far
              have hne := Lib.hid (Nat.ne_of_lt hbw.out.lt)
              clear hw3 hc3 hrg2 hn hact hA hbw hB
              generalize wr.heap.size = ga at *
              refine (rot_any hA3.out (by have := hpl.out; have := HL.out; omega) d.at_ d.data).mono ?_
              rintro e w4 ⟨rfl, hA4, hG4⟩
              have hw := do_rot (s := s) d.at_ d.data hh.out
              rw [hw] at hA4 ⊢
              clear hw
              dsimp only at hA4 ⊢
              have hb4 : Hid (Blk w4 ga 32 d.cs.toArray) := hb3.out.chg hG4.chg hga.out
              have hbw4 : Hid (Blk w4 gw 29 want.cs.toArray) := hbw3.out.chg hG4.chg hfar.out
              have hfar4 := Lib.hid (hG4.own hbw3.out.lt hfar.out)
              have hB4 := Lib.hid (hB3.out.trans (hG4.chg.below (fun k hk => Nat.le_trans HBB.out (hA3.out.ge k hk)) hB3.out.size))
              have hA4 := Lib.hid hA4
              have hk4 := hb4.out.actKind
              have hat4 := hb4.out.actAt
              have hdt4 := Lib.hid hb4.out.actData
              clear hk3 hat3 hdt3 hb3 hbw3 hfar hB3 hA3 hga hG4
              rw [hkd.out] at hk4
              go_wp2_with fail
              go_roundw
              case rel =>
                have hpl := hpl.out
                exact ⟨k + 1, by omega, by go_num, ⟨_, pv, want, hA4.out, hbw4.out, hfar4.out, hB4.out, hleft.out, hdead.out, by show (s.nw.set d.at_.toNat d.data).getD at_ zsec = _; rw [getD_set s.nw d.at_.toNat at_ d.data (by rw [hln.out]; omega), if_neg (by have := ha0.out; have := ha8.out; have := hea3.out; omega)]; exact hwant.out, by show (rotP _ _ s.pend).length ≤ _; rw [rotP_len]; omega⟩⟩
              case measure =>
                have := HL.out
                simp [intOf]
                omega
          · have hh := Lib.hid hh
            go_wp2_with (first
              | (with_reducible refine ld_act rfl _ rfl b (off + k * 131) d rfl hrg2.out ?_)
              | (with_reducible refine st_act rfl _ _ rfl wr.heap.size 0 d rfl rfl hn.out.actHas ?_; intro w3 hw3; obtain ⟨hk3, hat3, hdt3⟩ := (hact w3).out hw3; rw [hkd.out] at hk3)
              | (refine wpList_val (by rfl) _ (ex_ld (.tmp 64) rfl wr.heap.size 2 d.data rfl hdt3.out) ?_))
            have hc3 : Chg wr w3 (fun _ => False) := by rw [hw3.out]; exact chg_new _ _ _ _ _ rfl
            have hb3 : Hid (Blk w3 wr.heap.size 32 d.cs.toArray) := by
              have h := hn.out.actAll d
              rwa [← hw3.out] at h
            have hA3 := Lib.hid (hA.out.chg hc3 fun _ _ h => h)
            have hbw3 : Hid (Blk w3 gw 29 want.cs.toArray) := hbw.out.chg hc3 id
            have hB3 := Lib.hid (hB.out.trans (hc3.below (fun _ h => h.elim) hB.out.size))
            have hga := Lib.hid hA.out.new_far
            have hne := Lib.hid (Nat.ne_of_lt hbw.out.lt)
            clear hw3 hc3 hrg2 hn hact hA hbw hB
            generalize wr.heap.size = ga at *
            refine (rot_any hA3.out (by have := hpl.out; have := HL.out; omega) d.at_ d.data).mono ?_
            rintro e w4 ⟨rfl, hA4, hG4⟩
            have hw := no_rot (s := s) d.at_ d.data hh.out
            rw [hw] at hA4 ⊢
            clear hw
            dsimp only at hA4 ⊢
            have hb4 : Hid (Blk w4 ga 32 d.cs.toArray) := hb3.out.chg hG4.chg hga.out
            have hbw4 : Hid (Blk w4 gw 29 want.cs.toArray) := hbw3.out.chg hG4.chg hfar.out
            have hfar4 := Lib.hid (hG4.own hbw3.out.lt hfar.out)
            have hB4 := Lib.hid (hB3.out.trans (hG4.chg.below (fun k hk => Nat.le_trans HBB.out (hA3.out.ge k hk)) hB3.out.size))
            have hA4 := Lib.hid hA4
            have hk4 := hb4.out.actKind
            have hat4 := hb4.out.actAt
            have hdt4 := Lib.hid hb4.out.actData
            clear hk3 hat3 hdt3 hb3 hbw3 hfar hB3 hA3 hga hG4
            rw [hkd.out] at hk4
            go_wp2_with fail
            go_roundw
            case rel =>
              have hpl := hpl.out
              exact ⟨k + 1, by omega, by go_num, ⟨_, pv, want, hA4.out, hbw4.out, hfar4.out, hB4.out, hleft.out, hdead.out, hwant.out, by show s.pend.length ≤ _; omega⟩⟩
            case measure =>
              have := HL.out
              simp [intOf]
              omega
        · by_cases hkd2 : d.kind = 2
          · have hkd : Hid (d.kind = 2) := hkd2
            clear hkd5 hkd2
            go_wp2_with (first
              | (with_reducible refine ld_act rfl _ rfl b (off + k * 131) d rfl hrg2.out ?_)
              | (with_reducible refine st_act rfl _ _ rfl wr.heap.size 0 d rfl rfl hn.out.actHas ?_; intro w3 hw3; obtain ⟨hk3, hat3, hdt3⟩ := (hact w3).out hw3; rw [hkd.out] at hk3))
            have hc3 : Chg wr w3 (fun _ => False) := by rw [hw3.out]; exact chg_new _ _ _ _ _ rfl
            have hb3 : Hid (Blk w3 wr.heap.size 32 d.cs.toArray) := by
              have h := hn.out.actAll d
              rwa [← hw3.out] at h
            have hA3 := Lib.hid (hA.out.chg hc3 fun _ _ h => h)
            have hbw3 : Hid (Blk w3 gw 29 want.cs.toArray) := hbw.out.chg hc3 id
            have hB3 := Lib.hid (hB.out.trans (hc3.below (fun _ h => h.elim) hB.out.size))
            have hga := Lib.hid hA.out.new_far
            have hne := Lib.hid (Nat.ne_of_lt hbw.out.lt)
            clear hw3 hc3 hrg2 hn hact hA hbw hB
            generalize wr.heap.size = ga at *
            refine (flush_any hA3.out (by have := hpl.out; have := HL.out; omega)).mono ?_
            rintro e w4 ⟨pv4, rfl, hA4, hG4⟩
            have hw := calm_flush hleft.out hdead.out
            rw [hw] at hA4 ⊢
            clear hw
            dsimp only at hA4 ⊢
            have hb4 : Hid (Blk w4 ga 32 d.cs.toArray) := hb3.out.chg hG4.chg hga.out
            have hbw4 : Hid (Blk w4 gw 29 want.cs.toArray) := hbw3.out.chg hG4.chg hfar.out
            have hfar4 := Lib.hid (hG4.own hbw3.out.lt hfar.out)
            have hB4 := Lib.hid (hB3.out.trans (hG4.chg.below (fun k hk => Nat.le_trans HBB.out (hA3.out.ge k hk)) hB3.out.size))
            have hA4 := Lib.hid hA4
            have hk4 := hb4.out.actKind
            have hat4 := hb4.out.actAt
            have hdt4 := Lib.hid hb4.out.actData
            clear hk3 hat3 hdt3 hb3 hbw3 hfar hB3 hA3 hga hG4
            rw [hkd.out] at hk4
            go_wp2_with fail
            go_roundw
            case rel =>
              have hpl := hpl.out
              exact ⟨k + 1, by omega, by go_num, ⟨_, pv4, want, hA4.out, hbw4.out, hfar4.out, hB4.out, hleft.out, hdead.out, hwant.out, by show 0 ≤ _; omega⟩⟩
            case measure =>
              have := HL.out
              simp [intOf]
              omega
          · have hq1 : (d.kind == 1) = false := by rw [beq_eq_false_iff_ne]; exact hkd
            have hq2 : (d.kind == 2) = false := by rw [beq_eq_false_iff_ne]; exact hkd2
            have hq5 : (d.kind == 5) = false := by rw [beq_eq_false_iff_ne]; exact hkd5
            clear hkd hkd2 hkd5
            go_wp2_with (first
              | (with_reducible refine ld_act rfl _ rfl b (off + k * 131) d rfl hrg2.out ?_)
              | (with_reducible refine st_act rfl _ _ rfl wr.heap.size 0 d rfl rfl hn.out.actHas ?_; intro w3 hw3; obtain ⟨hk3, hat3, hdt3⟩ := (hact w3).out hw3))
            have hc3 : Chg wr w3 (fun _ => False) := by rw [hw3.out]; exact chg_new _ _ _ _ _ rfl
            have hb3 : Hid (Blk w3 wr.heap.size 32 d.cs.toArray) := by
              have h := hn.out.actAll d
              rwa [← hw3.out] at h
            have hA3 := Lib.hid (hA.out.chg hc3 fun _ _ h => h)
            have hbw3 : Hid (Blk w3 gw 29 want.cs.toArray) := hbw.out.chg hc3 id
            have hB3 := Lib.hid (hB.out.trans (hc3.below (fun _ h => h.elim) hB.out.size))
            have hga := Lib.hid hA.out.new_far
            have hne := Lib.hid (Nat.ne_of_lt hbw.out.lt)
            clear hw3 hc3 hrg2 hn hact hA hbw hB
            generalize wr.heap.size = ga at *
            go_roundw
            case rel =>
              have hpl := hpl.out
              exact ⟨k + 1, by omega, by go_num, ⟨_, pv, want, hA3.out, hbw3.out, hfar.out, hB3.out, hleft.out, hdead.out, hwant.out, by show s.pend.length ≤ _; omega⟩⟩
            case measure =>
              have := HL.out
              simp [intOf]
              omega
    · obtain ⟨s, pv, want, hA, hbw, hfar, hB, hleft, hdead, hwant, hpl⟩ := HR.out
      have hA := Lib.hid hA; have hbw := Lib.hid hbw; have hfar := Lib.hid hfar; have hB := Lib.hid hB
      have hrd : Hid (s.read 8 (at_ : Int) = (want, 0)) := by
        show _ = _
        unfold St.read
        rw [if_pos (has8.2 (by omega)), if_neg (by rw [hdead]; simp), Int.toNat_natCast, hwant]
      clear HR hleft hdead hwant hpl
      go_wp2_with fail
      refine (read_any hA.out (at_ : Int)).mono ?_
      rintro e w4 ⟨rfl, hA4, hG4⟩
      rw [hrd.out]
      dsimp only
      have hbw4 : Hid (Blk w4 gw 29 want.cs.toArray) := hbw.out.chg hG4.chg hfar.out
      have hB4 := Lib.hid (hB.out.trans (hG4.chg.below (fun k hk => Nat.le_trans HBB.out (hA.out.ge k hk)) hB.out.size))
      have hne := Lib.hid (Nat.ne_of_lt hbw4.out.lt)
      clear hA4 hG4 hA hbw hB hfar hrd
      have hn4 : Hid (Blk (w4.alloc (.cells zsec.cs.toArray 29)) w4.heap.size 29 zsec.cs.toArray) := Blk.new _ _ _
      have hfin : ∀ w5, Hid (Hid (w5 = (w4.alloc (.cells zsec.cs.toArray 29)).setCells w4.heap.size 0 want.cs) → w5.rangeAt w4.heap.size 0 want.cs ∧ w5.rangeAt gw 0 want.cs ∧ Below w.heap.size w w5) := fun w5 hw => by
        have hc5 : Chg w4 w5 (fun _ => False) := by rw [hw.out]; exact chg_new _ _ _ _ _ rfl
        have h := hn4.out.secAll want
        rw [← hw.out] at h
        exact ⟨h.secIs, (hbw4.out.chg hc5 id).secIs, hB4.out.trans (hc5.below (fun _ h => h.elim) hB4.out.size)⟩
      have hsame : Hid (want.same want = true) := want.same_self
      go_wp2_with (first
        | (with_reducible refine st_sec rfl _ _ rfl w4.heap.size 0 want rfl rfl hn4.out.secHas ?_; intro w5 hw5)
        | (refine wpList_val (by rfl) _ (ex_ld (.tmp 9) rfl w4.heap.size 0 want rfl ((hfin w5).out hw5).1) ?_)
        | (refine wpList_val (by rfl) _ (ex_ld (.tmp 6) rfl gw 0 want rfl ((hfin w5).out hw5).2.1) ?_)
        | (refine wpList_val (by rfl) _ (ex_eqS (.tmp 93) (.tmp 94) rfl want want rfl rfl) ?_; rw [hsame.out]))
      go_ret
      exact ⟨rfl, ((hfin w5).out hw5).2.2⟩
theorem reads_any (x : Int) :
    Calls Try.prog 5 #[.slice A l.length c, .int .i64 x] w fun e w' => e = .returned (.bool true) ∧ Below w.heap.size w w' := by
  by_cases h : (200 : Int) < l.length ∨ x < 0 ∨ 7 < x
  · exact reads_out A c l x w h
  · obtain ⟨k, rfl⟩ := Int.eq_ofNat_of_zero_le (show 0 ≤ x by omega)
    exact reads_in A c l w hs k (by omega) (by omega) (by omega)
end
end Go.Proofs.Ytoacagfddbmonaa
