/- Walks: the law on turns, its loop. -/
import Derived.Test.YtegcknloemgndaaUT
set_option maxRecDepth 10000
namespace Go.Proofs.Ytegcknloemgndaa
open Go.RowKit

/-- What stands while the law goes: the device, and the uber that counts in a block of the law's own. -/
structure TMid (W wr : World) (B : Nat) (D : Dev) (pv : Value) (st : St) (now : Ub) (g : Nat) : Prop where
  at_ : At wr B 8 D pv st
  now_ : Kp wr D pv g 27 now.cs.toArray
  below : Below W.heap.size W wr
  lo : W.heap.size ≤ B
  glo : W.heap.size ≤ g
section
variable {W wr wr' : World} {B : Nat} {D : Dev} {pv pv' : Value} {st st' : St} {now : Ub} {g : Nat}
theorem TMid.goes (h : TMid W wr B D pv st now g) (hA : At wr' B 8 D pv' st') (hG : Goes D wr pv wr' pv') : TMid W wr' B D pv' st' now g :=
  ⟨hA, h.now_.goes hG, h.below.trans (hG.chg.below (fun k hk => Nat.le_trans h.lo (h.at_.ge k hk)) h.below.size), h.lo, h.glo⟩
theorem TMid.fresh (h : TMid W wr B D pv st now g) (hb : Below wr.heap.size wr wr') : TMid W wr' B D pv st now g := h.goes (h.at_.of_below hb) (Goes.of_below D pv hb)
theorem TMid.new (h : TMid W wr B D pv st now g) : ¬ D.own pv wr.heap.size := h.at_.new_far
/-- A block of the law's own is written. -/
theorem TMid.put (h : TMid W wr B D pv st now g) {k o : Nat} (v : Value) (hk : ¬ D.own pv k) (hkg : k ≠ g) (hlo : W.heap.size ≤ k) : TMid W (wr.setCell ⟨k, o, none⟩ v) B D pv st now g := by
  have hc : Chg wr (wr.setCell ⟨k, o, none⟩ v) (· = k) := Chg.setCell (O := (· = k)) (Chg.refl _ _) (p := ⟨k, o, none⟩) (.inl rfl) v
  exact ⟨h.at_.chg hc fun j hj e => hk (e ▸ hj), ⟨h.now_.1.chg hc (Ne.symm hkg), h.now_.2⟩, h.below.trans (hc.below (fun j hj => by omega) h.below.size), h.lo, h.glo⟩
theorem TMid.set (h : TMid W wr B D pv st now g) (v : Ub) : TMid W (wr.setCells g 0 v.cs) B D pv st v g := by
  have hc : Chg wr (wr.setCells g 0 v.cs) (· = g) := Chg.setCells (O := (· = g)) (.inl rfl) _ _ (Chg.refl _ _)
  exact ⟨h.at_.chg hc fun j hj e => h.now_.2 (e ▸ hj), ⟨h.now_.1.ubAll v, h.now_.2⟩, h.below.trans (hc.below (fun j hj => by have := h.glo; omega) h.below.size), h.lo, h.glo⟩
end
set_option maxHeartbeats 8000000 in
theorem turns_any (w : World) (A : Option Addr) (c : Nat) (l : List UAct) (hR : Rd w w.heap.size A (flatA l)) (hK : KeepOk w w.heap.size l) :
    Calls Try.prog 6 #[.slice A l.length c] w fun e w' => e = .returned (.bool true) ∧ Below w.heap.size w w' := by
  have hz : ∀ w, Sem.run Try.prog (zeroValue 27) w = .ok (.agg zub.cs.toArray) w := zeroUb
  have hza : ∀ w, Sem.run Try.prog (zeroValue 51) w = .ok (.agg zact.cs.toArray) w := zeroAct
  have HAL := Lib.hid alive_any
  have HNE := Lib.hid (fun w => new_any 8 w)
  rw [show manyF 8 = 8 by kernel_rfl] at HNE
  have HS5 : Hid (∀ w, Calls Try.prog 30 #[.int .u64 5] w fun e w' => e = .returned (.agg sm5.cs.toArray) ∧ Below w.heap.size w w') := fun w => small_any 5 (by omega) w
  have HRD := Lib.hid hR
  have HKP := Lib.hid hK
  clear hR hK
  by_cases hbig : (l.length : Int) > 40
  · go_enter Try.func6, Try.ntmps6
    go_wp2_with (go_at_call 11; with_reducible refine Calls.mono (HAL.out _) ?_; rintro e w1 ⟨rfl, hb1⟩)
    go_ret
    exact ⟨rfl, hb1⟩
  · go_enter Try.func6, Try.ntmps6
    go_wp2_with (first
      | (go_at_call 11; with_reducible refine Calls.mono (HAL.out _) ?_; rintro e w1 ⟨rfl, hb1⟩; have HB1 := Lib.hid hb1; clear hb1)
      | (go_at_call 10; refine (HNE.out _).mono ?_; rintro e w2 ⟨D, rfl, hA2, hb2⟩; have HA2 := Lib.hid hA2; have HB2 := Lib.hid (HB1.out.trans (hb2.mono HB1.out.size)); clear hA2 hb2)
      | (go_at_call 30; with_reducible refine Calls.mono (HS5.out _) ?_; rintro e w3 ⟨rfl, hb3⟩; have HA3 := Lib.hid (HA2.out.of_below hb3); have HB3 := Lib.hid (HB2.out.trans (hb3.mono HB2.out.size)); clear hb3)
      | (with_reducible refine st_ub rfl _ _ rfl w3.heap.size 0 sm5 rfl rfl (Blk.ubHas (u := zub) (Blk.new w3 _ _)) ?_; intro w4 hw4
         have HM4 : Hid (TMid w w4 w1.heap.size D (.slice none 0 0) (newSt 8) sm5 w3.heap.size) := ⟨HA3.out.of_below (new_ub hw4.out).2, ⟨(new_ub hw4.out).1, HA3.out.new_far⟩, HB3.out.trans ((new_ub hw4.out).2.mono HB3.out.size), HB1.out.size, HB3.out.size⟩
         clear HA2 HB2 HA3 HB3)
      | (with_reducible refine ld_ub rfl _ rfl w3.heap.size 0 sm5 rfl HM4.out.now_.1.ubIs ?_)
      | (go_at_call 21; refine (commit_any HM4.out.at_ sm5 (by show [].length ≤ 1000000; simp)).mono ?_; rintro e w5 ⟨pv5, rfl, hA5, hG5⟩
         rw [start5.1]
         have HM5 := Lib.hid (HM4.out.goes hA5 hG5)
         clear hA5 hG5 HM4))
    have HRI : Hid (Ring 8 ((newSt 8).commit 8 sm5).1 ∧ bestO 8 ((newSt 8).commit 8 sm5).1 = some sm5) := start5.2
    generalize ((newSt 8).commit 8 sm5).1 = st5 at *
    generalize w3.heap.size = g4 at *
    generalize w1.heap.size = B at *
    clear hw4 HB1 hbig
    go_loopw [24] (fun i wr => ∃ (k : Nat) (pv : Value) (st : St) (now : Ub), k ≤ l.length ∧ i = .int .i64 k ∧ TMid w wr B D pv st now g4 ∧ Ring 8 st ∧ bestO 8 st = some now) (fun i _ => l.length - (intOf i).toNat)
    case atStart => exact ⟨0, pv5, st5, sm5, Nat.zero_le _, rfl, HM5.out, HRI.out.1, HRI.out.2⟩
    case round =>
      clear HM5 HRI
      obtain ⟨k, pv, st, now, hk, rfl, hM, hRi, hBe⟩ := hrel
      have HM := Lib.hid hM
      have HRi := Lib.hid hRi
      have HBe := Lib.hid hBe
      clear hM hRi hBe
      by_cases hlt : k < l.length
      · have hki : (k : Int) < l.length := by omega
        have HK := Lib.hid hlt
        obtain ⟨b, off, rfl, _, hr⟩ := rd_uact (HRD.out.below HM.out.below) k hlt
        have HAR := Lib.hid hr
        have HAK : Hid (Rd w w.heap.size (l[k]).ka (bls (l[k]).keep) ∧ (l[k]).keep.length ≤ 140737488351232) := HKP.out _ (List.getElem_mem hlt)
        have hnr : rightU now = true := slot_right (list_mem.1 (best_mem HBe.out))
        have hnt := (ok_of hnr).1
        have hn1 : now.txg + 1 < 18446744073709551616 := by omega
        have hni : (now.txg : Int) ≤ 281474976710655 := by omega
        have HN := Lib.hid hn1
        clear hr hnr hnt hn1
        generalize l[k] = a at *
        clear hk hlt
        go_upto_region 14 with (first
          | (with_reducible refine ld_act rfl _ rfl b (off + k * 9) a rfl HAR.out ?_)
          | (with_reducible refine st_act rfl _ _ rfl wr.heap.size 0 a rfl rfl ((Blk.new wr 51 zact.cs.toArray).there 0 9 (Nat.le_refl _)) ?_; intro w1' hw1
             have HK6 : Hid (Kp w1' D pv wr.heap.size 51 a.cs.toArray) := ⟨(new_act hw1.out).1, HM.out.new⟩
             have HM1 := Lib.hid (HM.out.fresh (new_act hw1.out).2)
             have HS1 := Lib.hid (new_act hw1.out).2.size)
          | (with_reducible refine ld_ub rfl _ rfl wr.heap.size 0 a.u rfl HK6.out.1.actU ?_)
          | (with_reducible refine st_ub rfl _ _ rfl w1'.heap.size 0 a.u rfl rfl (Blk.ubHas (u := zub) (Blk.new w1' _ _)) ?_; intro w2' hw2
             have HU2 := Lib.hid (new_ub hw2.out).1
             have HF2 := Lib.hid HM1.out.new
             have HM2 := Lib.hid (HM1.out.fresh (new_ub hw2.out).2)
             have HK62 := Lib.hid (HK6.out.below (new_ub hw2.out).2)
             have d0 := HM2.out.now_.1.ubF.1
             have e0 := HU2.out.ubF.1
             have ef := HU2.out.frozen 0))
        -- MID
        have HHT : Hid ((withT a.u (now.txg + 1) HN.out).txg = now.txg + 1) := rfl
        have HU3' : Hid (Blk (w2'.setCell ⟨w1'.heap.size, 0, none⟩ (.int .u64 ((now.txg : Int) + 1))) w1'.heap.size 27 (withT a.u (now.txg + 1) HN.out).cs.toArray) := HU2.out.set_ 0 (.int .u64 ((now.txg : Int) + 1))
        have HM3' : Hid (TMid w (w2'.setCell ⟨w1'.heap.size, 0, none⟩ (.int .u64 ((now.txg : Int) + 1))) B D pv st now g4) := HM2.out.put _ HF2.out (by have := HM1.out.now_.1.lt; omega) (by have := HM1.out.below.size; omega)
        have HK63' : Hid (Kp (w2'.setCell ⟨w1'.heap.size, 0, none⟩ (.int .u64 ((now.txg : Int) + 1))) D pv wr.heap.size 51 a.cs.toArray) := ⟨HK62.out.1.far (p := ⟨w1'.heap.size, 0, none⟩) (by have := HK6.out.1.lt; show wr.heap.size ≠ w1'.heap.size; omega) _, HK62.out.2⟩
        generalize w2'.setCell ⟨w1'.heap.size, 0, none⟩ (.int .u64 ((now.txg : Int) + 1)) = w3' at *
        generalize withT a.u (now.txg + 1) HN.out = u at *
        have HK73 : Hid (Kp w3' D pv w1'.heap.size 27 u.cs.toArray) := ⟨HU3'.out, HF2.out⟩
        have HM3 := HM3'
        have HK63 := HK63'
        have HRT := Lib.hid (uright_any u)
        clear HM3' HK63' HU3' HU2 HF2 HM2 HK62 HM1 HK6 HS1 hw1 hw2 d0 e0 ef HAR hz hza HN hni
        have hz : ∀ w, Sem.run Try.prog (zeroValue 27) w = .ok (.agg zub.cs.toArray) w := zeroUb
        generalize w1'.heap.size = g7 at *
        generalize wr.heap.size = g6 at *
        rcases hru : rightU u with _ | _
        · rw [hru] at HRT
          clear hru
          go_wp2_with (first
            | (with_reducible refine ld_ub rfl _ rfl g7 0 u rfl HK73.out.1.ubIs ?_)
            | (go_at_call 16; with_reducible refine Calls.mono (HRT.out _) ?_; rintro e w4' ⟨rfl, hb4⟩; have HM4 := Lib.hid (HM3.out.fresh hb4); clear hb4))
          go_roundw
          case rel => exact ⟨k + 1, pv, st, now, HK.out, by go_num, HM4.out, HRi.out, HBe.out⟩
          case measure => have := HK.out; simp [intOf]; omega
        · rw [hru] at HRT
          obtain ⟨hRt, hpl, hcase⟩ := turn_best HRi.out HBe.out hru HHT.out a.brk a.keep
          obtain ⟨q, hq⟩ : ∃ q, q = ({ st with left := a.brk } : St).commit 8 u := ⟨_, rfl⟩
          have HCM : Hid (∀ (W : World) (pv : Value), At W B 8 D pv { st with left := a.brk } → Calls Try.prog 21 #[.pointer (some ⟨D.g, 0, none⟩), .agg u.cs.toArray] W fun e w' => ∃ pv', e = .returned (.int .i64 q.2) ∧ At w' B 8 D pv' q.1 ∧ Goes D W pv w' pv') := fun W pv h => by
            rw [hq]
            exact commit_any h u (by show st.pend.length ≤ 1000000; rw [HRi.out.pend]; simp)
          rw [← hq] at hRt hpl hcase
          have HRT2 := Lib.hid hRt
          have HPL := Lib.hid hpl
          clear hRt hpl hq hru
          obtain ⟨s6, ce⟩ := q
          simp only at hcase HCM HRT2 HPL
          rcases hcase with ⟨hb, hce⟩ | hb
          · have HBB := Lib.hid hb
            have HBS : Hid (∀ (W : World) (pv : Value), At W B 8 D pv (s6.crash a.keep) → Calls Try.prog 9 #[.pointer (some ⟨D.g, 0, none⟩)] W fun e w' => e = .returned (.tuple #[.agg now.cs.toArray, .bool true]) ∧ At w' B 8 D pv ((s6.crash a.keep).counts 4) ∧ Goes D W pv w' pv) := fun W pv h => by
              have h1 := best_any h
              rw [hb] at h1
              exact h1
            have HNE1 : Hid ((!now.same u) = true) := by
              show _ = true
              rw [Bool.not_eq_true']
              rcases h : now.same u with _ | _
              · rfl
              · have := Ub.same_iff.1 h
                have := HHT.out
                rw [← Ub.same_iff.1 h] at this
                omega
            have HNE2 : Hid ((!now.same now) = false) := by show _ = false; rw [Ub.same_self]; rfl
            have hc0 : (ce == 0) = false := by rw [beq_eq_false_iff_ne]; exact hce
            clear hb hce
            go_wp2_with (first
              | (with_reducible refine st_ub rfl _ _ rfl g4 0 now rfl rfl HM10.out.now_.1.ubHas ?_; intro w11' hw11)
              | (with_reducible refine ld_ub rfl _ rfl g9 0 now rfl HK9.out.1.ubIs ?_)
              | (with_reducible refine ld_ub rfl _ rfl g7 0 u rfl HK75.out.1.ubIs ?_)
              | (with_reducible refine ld_ub rfl _ rfl g7 0 u rfl HK73.out.1.ubIs ?_)
              | (go_at_call 16; with_reducible refine Calls.mono (HRT.out _) ?_; rintro e w4' ⟨rfl, hb4⟩
                 have HM4 := Lib.hid (HM3.out.fresh hb4)
                 have HK64 := Lib.hid (HK63.out.below hb4)
                 have HK74 := Lib.hid (HK73.out.below hb4)
                 obtain ⟨c7, _⟩ := HK64.out.1.actF
                 clear hb4)
              | (go_at_call 19; with_reducible refine Calls.mono (break_any HM4.out.at_ a.brk a.hb) ?_; rintro e w5' ⟨rfl, hA5, hG5⟩
                 have HM5 := Lib.hid (HM4.out.goes hA5 hG5)
                 have HK65 := Lib.hid (HK64.out.goes hG5)
                 have HK75 := Lib.hid (HK74.out.goes hG5)
                 clear hA5 hG5 c7)
              | (go_at_call 21; with_reducible refine Calls.mono (HCM.out _ _ HM5.out.at_) ?_; rintro e w6' ⟨pv6, rfl, hA6, hG6⟩
                 have HM6 := Lib.hid (HM5.out.goes hA6 hG6)
                 have HK66 := Lib.hid (HK65.out.goes hG6)
                 have HK76 := Lib.hid (HK75.out.goes hG6)
                 obtain ⟨_, c8⟩ := (HK66.out.below ((Below.refl _ _).alloc (Nat.le_refl _) (.cells #[] 4))).1.actF
                 clear hA6 hG6)
              | (at_builtin; go_loud (refine app_bools rfl 45 47 rfl rfl _ a.ka a.kc a.keep rfl (HAK.out.1.below (HM6.out.below.alloc HM6.out.below.size _)) HAK.out.2 ?_); intro A7 k7 w7' h7
                 have HM7 := Lib.hid (HM6.out.fresh h7.out.2)
                 have HK77 := Lib.hid (HK76.out.below h7.out.2)
                 have HRK := Lib.hid (h7.out.1 D pv6 (fun k hk => HM6.out.at_.lt k hk))
                 clear c8)
              | (go_at_call 23; with_reducible refine Calls.mono (crash_any HM7.out.at_ (by have := HPL.out; omega) A7 k7 a.keep HRK.out) ?_; rintro e w8' ⟨rfl, hA8, hG8⟩
                 have HM8 := Lib.hid (HM7.out.goes hA8 hG8)
                 have HK78 := Lib.hid (HK77.out.goes hG8)
                 clear hA8 hG8)
              | (go_at_call 9; with_reducible refine Calls.mono (HBS.out _ _ HM8.out.at_) ?_; rintro e w9' ⟨rfl, hA9, hG9⟩
                 have HM9 := Lib.hid (HM8.out.goes hA9 hG9)
                 have HK79 := Lib.hid (HK78.out.goes hG9)
                 clear hA9 hG9
                 obtain ⟨g9, hg9⟩ : ∃ g9, g9 = w9'.heap.size := ⟨_, rfl⟩
                 have HG9 := Lib.hid hg9
                 clear hg9)
              | (with_reducible refine st_ub rfl _ _ rfl w9'.heap.size 0 now rfl rfl (Blk.ubHas (u := zub) (Blk.new w9' _ _)) ?_; intro w10' hw10
                 have HM10 := Lib.hid (HM9.out.fresh (new_ub hw10.out).2)
                 have HK710 := Lib.hid (HK79.out.below (new_ub hw10.out).2)
                 have HK9 : Hid (Kp w10' D (.slice none 0 0) g9 27 (Ub.cs now).toArray) := (by rw [HG9.out]; exact ⟨(new_ub hw10.out).1, HM9.out.new⟩)
                 rw [← HG9.out])
              | (refine wpList_val (by rfl) _ (ex_ldU (.tmp 9) rfl g9 0 now rfl HK9.out.1.ubIs) ?_)
              | (refine wpList_val (by rfl) _ (ex_ldU (.tmp 7) rfl g7 0 u rfl HK710.out.1.ubIs) ?_)
              | (refine wpList_val (by rfl) _ (ex_ldU (.tmp 4) rfl g4 0 now rfl HM10.out.now_.1.ubIs) ?_)
              | (refine wpList_val (by rfl) _ (ex_neU (.tmp 58) (.tmp 59) rfl now u rfl rfl) ?_; rw [HNE1.out])
              | (refine wpList_val (by rfl) _ (ex_neU (.tmp 62) (.tmp 63) rfl now now rfl rfl) ?_; rw [HNE2.out]))
            go_roundw
            case rel => exact ⟨k + 1, .slice none 0 0, _, now, HK.out, by go_num, by rw [hw11.out]; exact HM10.out.set now, ring_counts HRT2.out 4, by rw [best_counts]; exact HBB.out⟩
            case measure => have := HK.out; simp [intOf]; omega
          · have HBB := Lib.hid hb
            have HBS : Hid (∀ (W : World) (pv : Value), At W B 8 D pv (s6.crash a.keep) → Calls Try.prog 9 #[.pointer (some ⟨D.g, 0, none⟩)] W fun e w' => e = .returned (.tuple #[.agg u.cs.toArray, .bool true]) ∧ At w' B 8 D pv ((s6.crash a.keep).counts 4) ∧ Goes D W pv w' pv) := fun W pv h => by
              have h1 := best_any h
              rw [hb] at h1
              exact h1
            have HNE1 : Hid ((!u.same u) = false) := by show _ = false; rw [Ub.same_self]; rfl
            clear hb
            go_upto_region 19 with (first
              | (with_reducible refine st_ub rfl _ _ rfl g4 0 u rfl rfl HM10.out.now_.1.ubHas ?_; intro w11' hw11)
              | (with_reducible refine ld_ub rfl _ rfl g9 0 u rfl HK9.out.1.ubIs ?_)
              | (with_reducible refine ld_ub rfl _ rfl g7 0 u rfl HK75.out.1.ubIs ?_)
              | (with_reducible refine ld_ub rfl _ rfl g7 0 u rfl HK73.out.1.ubIs ?_)
              | (go_at_call 16; with_reducible refine Calls.mono (HRT.out _) ?_; rintro e w4' ⟨rfl, hb4⟩
                 have HM4 := Lib.hid (HM3.out.fresh hb4)
                 have HK64 := Lib.hid (HK63.out.below hb4)
                 have HK74 := Lib.hid (HK73.out.below hb4)
                 obtain ⟨c7, _⟩ := HK64.out.1.actF
                 clear hb4)
              | (go_at_call 19; with_reducible refine Calls.mono (break_any HM4.out.at_ a.brk a.hb) ?_; rintro e w5' ⟨rfl, hA5, hG5⟩
                 have HM5 := Lib.hid (HM4.out.goes hA5 hG5)
                 have HK65 := Lib.hid (HK64.out.goes hG5)
                 have HK75 := Lib.hid (HK74.out.goes hG5)
                 clear hA5 hG5 c7)
              | (go_at_call 21; with_reducible refine Calls.mono (HCM.out _ _ HM5.out.at_) ?_; rintro e w6' ⟨pv6, rfl, hA6, hG6⟩
                 have HM6 := Lib.hid (HM5.out.goes hA6 hG6)
                 have HK66 := Lib.hid (HK65.out.goes hG6)
                 have HK76 := Lib.hid (HK75.out.goes hG6)
                 obtain ⟨_, c8⟩ := (HK66.out.below ((Below.refl _ _).alloc (Nat.le_refl _) (.cells #[] 4))).1.actF
                 clear hA6 hG6)
              | (at_builtin; go_loud (refine app_bools rfl 45 47 rfl rfl _ a.ka a.kc a.keep rfl (HAK.out.1.below (HM6.out.below.alloc HM6.out.below.size _)) HAK.out.2 ?_); intro A7 k7 w7' h7
                 have HM7 := Lib.hid (HM6.out.fresh h7.out.2)
                 have HK77 := Lib.hid (HK76.out.below h7.out.2)
                 have HRK := Lib.hid (h7.out.1 D pv6 (fun k hk => HM6.out.at_.lt k hk))
                 clear c8)
              | (go_at_call 23; with_reducible refine Calls.mono (crash_any HM7.out.at_ (by have := HPL.out; omega) A7 k7 a.keep HRK.out) ?_; rintro e w8' ⟨rfl, hA8, hG8⟩
                 have HM8 := Lib.hid (HM7.out.goes hA8 hG8)
                 have HK78 := Lib.hid (HK77.out.goes hG8)
                 clear hA8 hG8)
              | (go_at_call 9; with_reducible refine Calls.mono (HBS.out _ _ HM8.out.at_) ?_; rintro e w9' ⟨rfl, hA9, hG9⟩
                 have HM9 := Lib.hid (HM8.out.goes hA9 hG9)
                 have HK79 := Lib.hid (HK78.out.goes hG9)
                 clear hA9 hG9
                 obtain ⟨g9, hg9⟩ : ∃ g9, g9 = w9'.heap.size := ⟨_, rfl⟩
                 have HG9 := Lib.hid hg9
                 clear hg9)
              | (with_reducible refine st_ub rfl _ _ rfl w9'.heap.size 0 u rfl rfl (Blk.ubHas (u := zub) (Blk.new w9' _ _)) ?_; intro w10' hw10
                 have HM10 := Lib.hid (HM9.out.fresh (new_ub hw10.out).2)
                 have HK710 := Lib.hid (HK79.out.below (new_ub hw10.out).2)
                 have HK9 : Hid (Kp w10' D (.slice none 0 0) g9 27 (Ub.cs u).toArray) := (by rw [HG9.out]; exact ⟨(new_ub hw10.out).1, HM9.out.new⟩)
                 rw [← HG9.out]))
            go_upto_region 21 with (have h710 := HK710; clear h710; refine wpList_val (by rfl) (.agg u.cs.toArray) (ex_ldU (.tmp 9) rfl g9 0 u rfl HK9.out.1.ubIs) ?_; refine wpList_val (by rfl) (.agg u.cs.toArray) (ex_ldU (.tmp 7) rfl g7 0 u rfl HK710.out.1.ubIs) ?_; refine wpList_val (by rfl) (.bool (!u.same u)) (ex_neU (.tmp 58) (.tmp 59) rfl u u rfl rfl) ?_; rw [HNE1.out]; simp [Act.put]; clear HK710 HNE1)
            go_wp2_with (first
              | (with_reducible refine ld_ub rfl _ rfl g9 0 u rfl HK9.out.1.ubIs ?_)
              | (with_reducible refine st_ub rfl _ _ rfl g4 0 u rfl rfl HM10.out.now_.1.ubHas ?_; intro w11' hw11))
            go_roundw
            case rel => exact ⟨k + 1, .slice none 0 0, _, u, HK.out, by go_num, by rw [hw11.out]; exact HM10.out.set u, ring_counts HRT2.out 4, by rw [best_counts]; exact HBB.out⟩
            case measure => have := HK.out; simp [intOf]; omega
      · obtain rfl : k = l.length := by omega
        have HBE := Lib.hid HM.out.below
        clear hk hlt
        go_wp2_with fail
        go_ret
        exact ⟨rfl, HBE.out⟩
end Go.Proofs.Ytegcknloemgndaa
