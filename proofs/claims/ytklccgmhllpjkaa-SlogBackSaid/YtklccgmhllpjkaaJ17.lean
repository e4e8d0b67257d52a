/- The program's Replay. -/
import Derived.Test.YtklccgmhllpjkaaJ16
import Derived.Deep.RegionHeld3
import Derived.Deep.Slices
set_option maxRecDepth 10000
namespace Go.Proofs.Ytklccgmhllpjkaa
open Go.RowKit

theorem addr_flat (b off j : Nat) : (⟨b, off, none⟩ : Addr).add j = ⟨b, off + j, none⟩ := by unfold Addr.add; split <;> simp_all
theorem sizeBool : (Try.prog.info? 4).map (·.size) = some 1 := by kernel_rfl
theorem run_sizeBits (w : World) : (sizeOf (Try.prog.elem 48)).run Try.prog w = .ok 1 w := by
  obtain ⟨i, hi, hz⟩ := Option.map_eq_some_iff.1 sizeBool
  have he : Try.prog.elem 48 = 4 := by simp [Program.elem, Try.underlying48]
  rw [he]
  simp [sizeOf, typeInfo, hi, hz]
theorem arrLenBits : Try.prog.arrayLen 48 = 4096 := by simp [Program.arrayLen, Try.underlying48]
theorem run_cutB (g s n p : Nat) (h : s + n = p) (hs : s < 4096) (hp : p ≤ 4096) (w : World) :
    (Instr.sliceAt 48 (.pointer (some ⟨g, 0, none⟩)) (some (.int .i64 (s : Int))) (some (.int .i64 (p : Int))) none).run Try.prog w = .ok (.slice (some ⟨g, s, none⟩) n (4096 - s)) w := by
  rw [run_sliceAt_array_lh w _ ⟨g, 0, none⟩ (by simp [Program.arrayLen, Program.elem, Try.underlying48]) .i64 .i64 (s : Int) (p : Int) (by omega) (by omega) (by rw [arrLenBits]; omega), run_sizeBits]
  simp only [Result.andThen_ok, slicedAt, arrLenBits, Int.toNat_natCast, Nat.mul_one]
  rw [if_neg (by omega), show p - s = n by omega, addr_flat, Nat.zero_add]
theorem run_wholeB (g : Nat) (w : World) :
    (Instr.sliceAt 48 (.pointer (some ⟨g, 0, none⟩)) none none none).run Try.prog w = .ok (.slice (some ⟨g, 0, none⟩) 4096 4096) w := by
  rw [run_sliceAt_array_all w _ ⟨g, 0, none⟩ (by simp [Program.arrayLen, Program.elem, Try.underlying48]), run_sizeBits]
  simp only [Result.andThen_ok, slicedAt, arrLenBits, Nat.zero_mul]
  rw [if_neg (by omega), addr_flat, Nat.zero_add]
theorem lowI {w : World} {base : Nat} {v : Value} {l : List Int} (h : OwnI w base v l) : ∃ A c, v = .slice A l.length c ∧ ∀ k (hk : k < l.length), ∃ b off, A = some ⟨b, off, none⟩ ∧ base ≤ b ∧ b < w.heap.size ∧ w.cell? ⟨b, off + k, none⟩ = some (.int .i64 l[k]) := by
  obtain ⟨A, c, e, h1, _⟩ := own_rd h
  refine ⟨A, c, e, fun k hk => ?_⟩
  obtain ⟨g, cap, e', hN, hl, _⟩ := own_form h (by omega)
  rw [e] at e'
  obtain ⟨b, off, rfl, h3, h4⟩ := int_at h1 k hk
  simp only [Value.slice.injEq, Option.some.injEq, Addr.mk.injEq] at e'
  exact ⟨b, off, rfl, by omega, h3, h4⟩
theorem ex_ldMv {o : Oper} {a : Act} {w : World} (x : Operand) (ho : o.op = .load 54 x) (g : Nat) (m : Mv) (hx : a.eval x = .pointer (some ⟨g, 0, none⟩)) (h : Blk w g 54 m.cs.toArray) :
    (execOp a.eval o).run Try.prog w = .ok (.value (.agg m.cs.toArray)) w := ex_ldM x ho g 0 m hx h.mvIs
/-- What stands while the array is filled. -/
structure FInv (w w3 wr : World) (g : Nat) (S : Int → Bool) : Prop where
  bits : Blk wr g 48 (barr S)
  below : Below w.heap.size w wr
  lo : w.heap.size ≤ g
  chg : Chg w3 wr (· = g)
theorem FInv.p {w w3 wr : World} {g : Nat} {S : Int → Bool} (h : FInv w w3 wr g S) : PInv w wr g S := ⟨h.bits, h.below, h.lo⟩
theorem PInv.turned {w wr wr' : World} {g : Nat} {S T : Int → Bool} (h : PInv w wr g S) (hb : Blk wr' g 48 (barr T)) (hc : Chg wr wr' (· = g)) : PInv w wr' g T :=
  ⟨hb, h.below.trans (hc.below (fun k hk => by subst hk; exact h.lo) h.below.size), h.lo⟩
theorem PInv.off {w wr wr' : World} {g : Nat} {S : Int → Bool} (h : PInv w wr g S) (hc : Chg wr wr' (· = g)) : Below w.heap.size w wr' := h.below.trans (hc.below (fun k hk => by subst hk; exact h.lo) h.below.size)
theorem postR_none {o : Option (Int → Bool)} {w w' : World} {e : Ending} (ho : o = none) (he : e = .returned (.tuple #[.slice none 0 0, .int .i64 81])) (hb : Below w.heap.size w w') : PostR o w e w' := by
  subst ho
  exact ⟨none, 0, he, Rd.nil, Nat.le_refl _, hb⟩
set_option maxHeartbeats 4000000 in
theorem replay_any (A A' : Option Addr) (c c' : Nat) (l : List Sp) (ms : List Mv) (w : World) (h : SpL w A c l) (k : MvL w A' c' ms) :
    Calls Try.prog 10 #[.slice A l.length c, .slice A' ms.length c'] w (PostR (repF l ms) w) := by
  have HR := Lib.hid (right_any A c l w h.rd h.ok h.len)
  cases hr : rightF 0 l with
  | false =>
    rw [hr] at HR
    have HE : Hid (repF l ms = none) := if_neg (by rw [hr]; simp)
    rw [HE.out]
    clear hr h k
    go_enter Try.func10, Try.ntmps10
    go_wp2_with (go_at_call 23; (with_reducible refine Calls.mono HR.out ?_); rintro e w1 ⟨rfl, hb1⟩)
    go_ret2
    exact postR_none rfl rfl hb1
  | true =>
    rw [hr] at HR
    have HE : Hid (repF l ms = replayF ms (memF l)) := if_pos hr
    rw [HE.out]
    have HLI := Lib.hid (fun W (hW : Below w.heap.size w W) => by have h := list_any A c l W (h.later hW).rd hr (spF_len hr); rw [spF_nums hr] at h; exact h)
    have HT := Lib.hid k.rd
    have HMO := Lib.hid k.ok
    have hml := k.len
    have hmi : (ms.length : Int) ≤ 1000000 := by omega
    have HLEN := Lib.hid (numsTo_len (memF l) 4096)
    have HMEM : Hid (∀ x, x ∈ numsTo (memF l) 4096 → 0 ≤ x ∧ x < 4096) := fun x hx => by have := mem_numsTo.1 hx; omega
    have HALL : Hid (barr (inI (numsTo (memF l) 4096)) = barr (memF l)) := barr_congr fun n h1 h2 => by
      rw [Bool.eq_iff_iff]
      unfold inI
      rw [decide_eq_true_iff, mem_numsTo]
      exact ⟨fun h => h.2.2, fun h => ⟨h1, by omega, h⟩⟩
    have hz : ∀ w, Sem.run Try.prog (zeroValue 48) w = .ok (.agg (barr noB)) w := by unfold noB; rw [← falses_eq]; exact zeroArr
    have hzm : ∀ w, Sem.run Try.prog (zeroValue 54) w = .ok (.agg zmv.cs.toArray) w := zeroMv
    clear hr h k HE hml
    generalize memF l = S0 at *
    generalize numsTo S0 4096 = L at *
    go_enter Try.func10, Try.ntmps10
    go_upto_region 4 with (go_at_call 23; (with_reducible refine Calls.mono HR.out ?_); rintro e w1 ⟨rfl, hb1⟩; have HB1 := Lib.hid hb1; clear hb1)
    have HBK : Hid (Blk (w1.alloc (.cells (barr noB) 48)) w1.heap.size 48 (barr noB)) := Blk.new w1 _ _
    have HB2 : Hid (Below w.heap.size w (w1.alloc (.cells (barr noB) 48))) := HB1.out.alloc HB1.out.size _
    have HG : Hid (w.heap.size ≤ w1.heap.size) := HB1.out.size
    have HG2 : Hid (w1.heap.size < (w1.alloc (.cells (barr noB) 48)).heap.size) := Lib.hid (by simp)
    clear HR HB1 hz
    generalize w1.alloc (.cells (barr noB) 48) = w2 at *
    generalize w1.heap.size = g6 at *
    go_wp2_with (go_at_call 24; (with_reducible refine Calls.mono (HLI.out _ HB2.out) ?_); rintro e w3 ⟨v3, rfl, ho3, hb3⟩; have HF3 : Hid (FInv w w3 w3 g6 noB) := ⟨HBK.out.below hb3 HG2.out, HB2.out.trans (hb3.mono HB2.out.size), HG.out, Chg.refl _ _⟩; have HO3 := Lib.hid (own_base ho3 HG2.out); obtain ⟨A3, c3, rfl, hlow⟩ := lowI HO3.out; have HLO := Lib.hid hlow; clear hb3 ho3 hlow HLI HB2 HBK)
    clear HO3
    have hli : (L.length : Int) ≤ 4096 := by have := HLEN.out; omega
    go_loopw [17] (fun i wr => ∃ (q : Nat), q ≤ L.length ∧ i = .int .i64 (q : Int) ∧ FInv w w3 wr g6 (inI (L.take q))) (fun i _ => L.length - (intOf i).toNat)
    case atStart => exact ⟨0, Nat.zero_le _, rfl, HF3.out⟩
    case round =>
      clear HF3
      obtain ⟨q, hq, rfl, hP⟩ := hrel
      have HP := Lib.hid hP
      clear hP
      by_cases hlt : q < L.length
      · obtain ⟨b, off, rfl, hN, hbB, hc1⟩ := HLO.out q hlt
        rw [← HP.out.chg.cell hbB (by show ¬ b = g6; omega)] at hc1
        obtain ⟨hx0, hx1⟩ := HMEM.out _ (List.getElem_mem hlt)
        have HI := Lib.hid (inI_snoc L q hlt)
        have hqi : (q : Int) < L.length := by omega
        have HQ := Lib.hid hlt
        generalize L[q] = x at *
        obtain ⟨m, rfl⟩ := Int.eq_ofNat_of_zero_le hx0
        have hcell : wr.cell? ⟨g6, m, none⟩ = some (.bool (inI (L.take q) m)) := (HP.out.bits.cell m).trans (barr_at _ m (by omega))
        have hfz := HP.out.bits.frozen m
        have HP2 : Hid (FInv w w3 (wr.setCell ⟨g6, m, none⟩ (.bool true)) g6 (inI (L.take (q + 1)))) := ⟨by
            rw [← barr_set (S := inI (L.take q)) (T := inI (L.take (q + 1))) (b := true) m (by omega) (by rw [HI.out]; simp) (fun n _ _ hn => by rw [HI.out]; simp [hn])]
            exact HP.out.bits.set_ m _, HP.out.below.setCell HP.out.lo _, HP.out.lo, HP.out.chg.setCell (.inl rfl) _⟩
        generalize inI (L.take q) m = bm at hcell
        clear hN hbB hlt hq hx0 HP HI
        go_wp2_with fail
        go_roundw
        case rel => exact ⟨q + 1, HQ.out, by go_num, HP2.out⟩
        case measure => have := HQ.out; simp [intOf]; omega
      · obtain rfl : q = L.length := by omega
        rw [List.take_of_length_le (Nat.le_refl _)] at HP
        have HP0 : Hid (PInv w wr g6 S0) := ⟨HALL.out ▸ HP.out.bits, HP.out.below, HP.out.lo⟩
        clear HP hq hlt HLO HMEM HALL
        go_wp2_with fail
        obtain ⟨wo, hwo⟩ : ∃ wo : World, wo = wr := ⟨_, rfl⟩
        clear hwo
        go_loopw [26] (fun i wr => ∃ (k : Nat) (T : Int → Bool), k ≤ ms.length ∧ i = .int .i64 (k : Int) ∧ PInv w wr g6 T ∧ replayF ms S0 = replayF (ms.drop k) T) (fun i _ => ms.length - (intOf i).toNat)
        case atStart => exact ⟨0, S0, Nat.zero_le _, rfl, HP0.out, rfl⟩
        case round =>
          clear HP0
          obtain ⟨k, T, hk, rfl, hP, hD⟩ := hrel
          have HP := Lib.hid hP
          clear hP
          by_cases hlt : k < ms.length
          · have hki : (k : Int) < ms.length := by omega
            obtain ⟨b, off, rfl, hbl, hr⟩ := HT.out.mv k hlt
            have HRM : Hid (wr.rangeAt b (off + k * 3) ms[k].cs) := fun j v hj => (HP.out.below.cell (p := ⟨b, off + k * 3 + j, none⟩) hbl).trans (hr j v hj)
            have HD := Lib.hid (replay_step hlt T hD)
            have HJ := Lib.hid (pright_any ms[k] (HMO.out _ (List.getElem_mem hlt)))
            have HK := Lib.hid hlt
            generalize ms[k] = m at *
            obtain ⟨t, s0, n0⟩ := m
            clear hr hbl hD hk hlt
            cases hrm : rightM ⟨t, s0, n0⟩ with
            | false =>
              rw [hrm] at HJ
              have HE : Hid (replayF ms S0 = none) := HD.out.trans (if_neg (by rw [hrm]; simp))
              clear hrm HD
              go_upto_region 12 with (first
                | (with_reducible refine ld_mv rfl _ rfl b (off + k * 3) ⟨t, s0, n0⟩ rfl HRM.out ?_)
                | (with_reducible refine st_mv rfl _ _ rfl wr.heap.size 0 ⟨t, s0, n0⟩ rfl rfl (Blk.mvHas (m := zmv) (Blk.new wr _ _)) ?_; intro w4 hw4
                   have HP4 := Lib.hid (HP.out.fresh (new_mv hw4.out).2)
                   have HM4 := Lib.hid (new_mv hw4.out).1))
              have HG8 : Hid (¬ wr.heap.size = g6) := Lib.hid (by have := HP.out.bits.lt; omega)
              have HP5 : Hid (PInv w w4.drew g6 T) := HP4.out.fresh (Below.refl _ _).drew
              have HM5 : Hid (Blk w4.drew wr.heap.size 54 (Mv.cs ⟨t, s0, n0⟩).toArray) := HM4.out.below (Below.refl _ _).drew HM4.out.lt
              clear HP HRM HP4 HM4 hw4
              generalize wr.heap.size = g8 at *
              refine wp_region_held_drew (S := (fun w' => Blk w' g8 54 (Mv.cs ⟨t, s0, n0⟩).toArray)) (by kernel_rfl) HM5.out (fun hHeld => ?_)
              generalize w4.drew = w5 at *
              refine wpAnyH_take (i := 0) (v := (.agg (Mv.cs ⟨t, s0, n0⟩).toArray)) rfl (by kernel_rfl) (by kernel_rfl) (by kernel_rfl) (fun _ _ _ h => h) (Or.inl ⟨by rfl, ?_⟩) (by assumption) ?_
              · intro w' hS
                exact ex_ldMv (.tmp 10) rfl g8 ⟨t, s0, n0⟩ rfl hS
              try simp [Act.put]
              refine wpAnyH_ready (rs := [1]) (by kernel_rfl) (by simp) ?_
              refine AllReadyH.cons rfl (fun K hK => ?_) AllReadyH.nil
              go_simp
              refine Calls.mono (HJ.out w5) ?_
              rintro e w6 ⟨rfl, hb6⟩
              have HP6 := Lib.hid (HP5.out.fresh hb6)
              have HM6 := Lib.hid (HM5.out.below hb6 HM5.out.lt)
              refine hK.out _ _ HM6.out (fun hHeld2 => ?_)
              clear hK K hb6 HJ HP5 HM5
              try simp
              clear hHeld
              have hHeld := hHeld2
              clear hHeld2
              refine wpAnyH_take (i := 2) (v := (.bool true)) rfl (by kernel_rfl) (by kernel_rfl) (by kernel_rfl) (fun _ _ _ h => h) (Or.inl ⟨by rfl, ?_⟩) (by assumption) ?_
              · intro w' hS; go_simp; try with_reducible rfl
              try simp [Act.put]
              refine wpAnyH_take (i := 3) (v := (.bool true)) rfl (by kernel_rfl) (by kernel_rfl) (by kernel_rfl) (fun _ _ _ h => h) (Or.inl ⟨by rfl, ?_⟩) (by assumption) ?_
              · intro w' hS; go_simp; try with_reducible rfl
              try simp [Act.put]
              refine wpAnyH_take (i := 4) (v := undef) rfl (by kernel_rfl) (by kernel_rfl) (by kernel_rfl) (fun _ _ _ h => h) (Or.inr ⟨by rfl, rfl⟩) (by assumption) ?_
              try simp [Act.put]
              refine wpAnyH_take (i := 5) (v := undef) rfl (by kernel_rfl) (by kernel_rfl) (by kernel_rfl) (fun _ _ _ h => h) (Or.inr ⟨by rfl, rfl⟩) (by assumption) ?_
              try simp [Act.put]
              refine wpAnyH_take (i := 6) (v := undef) rfl (by kernel_rfl) (by kernel_rfl) (by kernel_rfl) (fun _ _ _ h => h) (Or.inr ⟨by rfl, rfl⟩) (by assumption) ?_
              try simp [Act.put]
              refine wpAnyH_take (i := 7) (v := undef) rfl (by kernel_rfl) (by kernel_rfl) (by kernel_rfl) (fun _ _ _ h => h) (Or.inr ⟨by rfl, rfl⟩) (by assumption) ?_
              try simp [Act.put]
              refine wpAnyH_take (i := 8) (v := undef) rfl (by kernel_rfl) (by kernel_rfl) (by kernel_rfl) (fun _ _ _ h => h) (Or.inr ⟨by rfl, rfl⟩) (by assumption) ?_
              try simp [Act.put]
              refine wpAnyH_take (i := 9) (v := undef) rfl (by kernel_rfl) (by kernel_rfl) (by kernel_rfl) (fun _ _ _ h => h) (Or.inr ⟨by rfl, rfl⟩) (by assumption) ?_
              try simp [Act.put]
              refine wpAnyH_take (i := 10) (v := undef) rfl (by kernel_rfl) (by kernel_rfl) (by kernel_rfl) (fun _ _ _ h => h) (Or.inr ⟨by rfl, rfl⟩) (by assumption) ?_
              try simp [Act.put]
              refine wpAnyH_take (i := 11) (v := undef) rfl (by kernel_rfl) (by kernel_rfl) (by kernel_rfl) (fun _ _ _ h => h) (Or.inr ⟨by rfl, rfl⟩) (by assumption) ?_
              try simp [Act.put]
              refine wpAnyH_take (i := 12) (v := undef) rfl (by kernel_rfl) (by kernel_rfl) (by kernel_rfl) (fun _ _ _ h => h) (Or.inr ⟨by rfl, rfl⟩) (by assumption) ?_
              try simp [Act.put]
              refine wpAnyH_take (i := 13) (v := undef) rfl (by kernel_rfl) (by kernel_rfl) (by kernel_rfl) (fun _ _ _ h => h) (Or.inr ⟨by rfl, rfl⟩) (by assumption) ?_
              try simp [Act.put]
              refine wpAnyH_take (i := 14) (v := undef) rfl (by kernel_rfl) (by kernel_rfl) (by kernel_rfl) (fun _ _ _ h => h) (Or.inr ⟨by rfl, rfl⟩) (by assumption) ?_
              try simp [Act.put]
              refine wpAnyH_take (i := 15) (v := undef) rfl (by kernel_rfl) (by kernel_rfl) (by kernel_rfl) (fun _ _ _ h => h) (Or.inr ⟨by rfl, rfl⟩) (by assumption) ?_
              try simp [Act.put]
              refine wpAnyH_take (i := 16) (v := undef) rfl (by kernel_rfl) (by kernel_rfl) (by kernel_rfl) (fun _ _ _ h => h) (Or.inr ⟨by rfl, rfl⟩) (by assumption) ?_
              try simp [Act.put]
              refine wpAnyH_take (i := 17) (v := undef) rfl (by kernel_rfl) (by kernel_rfl) (by kernel_rfl) (fun _ _ _ h => h) (Or.inr ⟨by rfl, rfl⟩) (by assumption) ?_
              try simp [Act.put]
              refine wpAnyH_take (i := 18) (v := undef) rfl (by kernel_rfl) (by kernel_rfl) (by kernel_rfl) (fun _ _ _ h => h) (Or.inr ⟨by rfl, rfl⟩) (by assumption) ?_
              try simp [Act.put]
              refine wpAnyH_take (i := 19) (v := (.bool true)) rfl (by kernel_rfl) (by kernel_rfl) (by kernel_rfl) (fun _ _ _ h => h) (Or.inl ⟨by rfl, ?_⟩) (by assumption) ?_
              · intro w' hS; go_simp; try with_reducible rfl
              try simp [Act.put]
              refine wpAnyH_done (by kernel_rfl) ?_ _
              clear hHeld
              go_wp2_with fail
              go_ret2
              exact postR_none HE.out rfl HP6.out.below
            | true =>
              rw [hrm] at HJ
              rw [hrm, Bool.true_and] at HD
              obtain ⟨hm0, hm1, hm2⟩ := rightM_iff.1 hrm
              simp only at hm0 hm1 hm2
              clear hrm
              obtain ⟨s, rfl⟩ := Int.eq_ofNat_of_zero_le hm0
              obtain ⟨n, rfl⟩ := Int.eq_ofNat_of_zero_le (show 0 ≤ n0 by omega)
              obtain ⟨p, hp⟩ : ∃ p, p = s + n := ⟨_, rfl⟩
              have HCU := run_cutB g6 s n p hp.symm (by omega) (by omega)
              have HW : IntKind.i64.wrap ((s : Int) + (n : Int)) = (p : Int) := by
                rw [← Int.natCast_add, ← hp]
                simp [IntKind.wrap, IntKind.signed, IntKind.bits]
                omega
              have HTU := Lib.hid (fun W (hW : Blk W g6 48 (barr T)) => turn_any g6 s n (4096 - s) (by omega) (by omega) t T W hW)
              clear hp hm0 hm1 hm2
              cases hf : fitM ⟨t, s, n⟩ T with
              | false =>
                rw [hf] at HTU
                have HE : Hid (replayF ms S0 = none) := HD.out.trans (if_neg (by rw [hf]; simp))
                clear hf HD
                go_upto_region 12 with (first
                  | (with_reducible refine ld_mv rfl _ rfl b (off + k * 3) ⟨t, (s : Int), (n : Int)⟩ rfl HRM.out ?_)
                  | (with_reducible refine st_mv rfl _ _ rfl wr.heap.size 0 ⟨t, (s : Int), (n : Int)⟩ rfl rfl (Blk.mvHas (m := zmv) (Blk.new wr _ _)) ?_; intro w4 hw4
                     have HP4 := Lib.hid (HP.out.fresh (new_mv hw4.out).2)
                     have HM4 := Lib.hid (new_mv hw4.out).1))
                have HG8 : Hid (¬ wr.heap.size = g6) := Lib.hid (by have := HP.out.bits.lt; omega)
                have HP5 : Hid (PInv w w4.drew g6 T) := HP4.out.fresh (Below.refl _ _).drew
                have HM5 : Hid (Blk w4.drew wr.heap.size 54 (Mv.cs ⟨t, (s : Int), (n : Int)⟩).toArray) := HM4.out.below (Below.refl _ _).drew HM4.out.lt
                clear HP HRM HP4 HM4 hw4
                generalize wr.heap.size = g8 at *
                refine wp_region_held_drew (S := (fun w' => Blk w' g8 54 (Mv.cs ⟨t, (s : Int), (n : Int)⟩).toArray)) (by kernel_rfl) HM5.out (fun hHeld => ?_)
                generalize w4.drew = w5 at *
                refine wpAnyH_take (i := 0) (v := (.agg (Mv.cs ⟨t, (s : Int), (n : Int)⟩).toArray)) rfl (by kernel_rfl) (by kernel_rfl) (by kernel_rfl) (fun _ _ _ h => h) (Or.inl ⟨by rfl, ?_⟩) (by assumption) ?_
                · intro w' hS
                  exact ex_ldMv (.tmp 10) rfl g8 ⟨t, (s : Int), (n : Int)⟩ rfl hS
                try simp [Act.put]
                refine wpAnyH_ready (rs := [1]) (by kernel_rfl) (by simp) ?_
                refine AllReadyH.cons rfl (fun K hK => ?_) AllReadyH.nil
                go_simp
                refine Calls.mono (HJ.out w5) ?_
                rintro e w6 ⟨rfl, hb6⟩
                have HP6 := Lib.hid (HP5.out.fresh hb6)
                have HM6 := Lib.hid (HM5.out.below hb6 HM5.out.lt)
                refine hK.out _ _ HM6.out (fun hHeld2 => ?_)
                clear hK K hb6 HJ HP5 HM5
                try simp
                clear hHeld
                have hHeld := hHeld2
                clear hHeld2
                refine wpAnyH_take (i := 2) (v := (.bool false)) rfl (by kernel_rfl) (by kernel_rfl) (by kernel_rfl) (fun _ _ _ h => h) (Or.inl ⟨by rfl, ?_⟩) (by assumption) ?_
                · intro w' hS; go_simp; try with_reducible rfl
                try simp [Act.put]
                refine wpAnyH_take (i := 3) (v := (.bool false)) rfl (by kernel_rfl) (by kernel_rfl) (by kernel_rfl) (fun _ _ _ h => h) (Or.inl ⟨by rfl, ?_⟩) (by assumption) ?_
                · intro w' hS; go_simp; try with_reducible rfl
                try simp [Act.put]
                refine wpAnyH_take (i := 4) (v := (.pointer (some ⟨g8, 1, none⟩))) rfl (by kernel_rfl) (by kernel_rfl) (by kernel_rfl) (fun _ _ _ h => h) (Or.inl ⟨by rfl, ?_⟩) (by assumption) ?_
                · intro w' hS; go_simp; try with_reducible rfl
                try simp [Act.put]
                refine wpAnyH_take (i := 5) (v := (.pointer (some ⟨g8, 1, none⟩))) rfl (by kernel_rfl) (by kernel_rfl) (by kernel_rfl) (fun _ _ _ h => h) (Or.inl ⟨by rfl, ?_⟩) (by assumption) ?_
                · intro w' hS; go_simp; try with_reducible rfl
                try simp [Act.put]
                refine wpAnyH_take (i := 6) (v := (.int .i64 (s : Int))) rfl (by kernel_rfl) (by kernel_rfl) (by kernel_rfl) (fun _ _ _ h => h) (Or.inl ⟨by rfl, ?_⟩) (by assumption) ?_
                · intro w' hS
                  have hcc := (Blk.mvF hS).2.1
                  go_simp; try with_reducible rfl
                try simp [Act.put]
                refine wpAnyH_take (i := 7) (v := (.pointer (some ⟨g8, 1, none⟩))) rfl (by kernel_rfl) (by kernel_rfl) (by kernel_rfl) (fun _ _ _ h => h) (Or.inl ⟨by rfl, ?_⟩) (by assumption) ?_
                · intro w' hS; go_simp; try with_reducible rfl
                try simp [Act.put]
                refine wpAnyH_take (i := 8) (v := (.pointer (some ⟨g8, 1, none⟩))) rfl (by kernel_rfl) (by kernel_rfl) (by kernel_rfl) (fun _ _ _ h => h) (Or.inl ⟨by rfl, ?_⟩) (by assumption) ?_
                · intro w' hS; go_simp; try with_reducible rfl
                try simp [Act.put]
                refine wpAnyH_take (i := 9) (v := (.int .i64 (s : Int))) rfl (by kernel_rfl) (by kernel_rfl) (by kernel_rfl) (fun _ _ _ h => h) (Or.inl ⟨by rfl, ?_⟩) (by assumption) ?_
                · intro w' hS
                  have hcc := (Blk.mvF hS).2.1
                  go_simp; try with_reducible rfl
                try simp [Act.put]
                refine wpAnyH_take (i := 10) (v := (.pointer (some ⟨g8, 1, none⟩))) rfl (by kernel_rfl) (by kernel_rfl) (by kernel_rfl) (fun _ _ _ h => h) (Or.inl ⟨by rfl, ?_⟩) (by assumption) ?_
                · intro w' hS; go_simp; try with_reducible rfl
                try simp [Act.put]
                refine wpAnyH_take (i := 11) (v := (.pointer (some ⟨g8, 2, none⟩))) rfl (by kernel_rfl) (by kernel_rfl) (by kernel_rfl) (fun _ _ _ h => h) (Or.inl ⟨by rfl, ?_⟩) (by assumption) ?_
                · intro w' hS; go_simp; try with_reducible rfl
                try simp [Act.put]
                refine wpAnyH_take (i := 12) (v := (.int .i64 (n : Int))) rfl (by kernel_rfl) (by kernel_rfl) (by kernel_rfl) (fun _ _ _ h => h) (Or.inl ⟨by rfl, ?_⟩) (by assumption) ?_
                · intro w' hS
                  have hcc := (Blk.mvF hS).2.2
                  go_simp; try with_reducible rfl
                try simp [Act.put]
                refine wpAnyH_take (i := 13) (v := (.int .i64 (p : Int))) rfl (by kernel_rfl) (by kernel_rfl) (by kernel_rfl) (fun _ _ _ h => h) (Or.inl ⟨by rfl, ?_⟩) (by assumption) ?_
                · intro w' hS; go_simp; try with_reducible rfl
                try simp [Act.put]
                refine wpAnyH_take (i := 14) (v := (.slice (some ⟨g6, s, none⟩) n (4096 - s))) rfl (by kernel_rfl) (by kernel_rfl) (by kernel_rfl) (fun _ _ _ h => h) (Or.inl ⟨by rfl, ?_⟩) (by assumption) ?_
                · intro w' hS; go_simp; try with_reducible rfl
                try simp [Act.put]
                refine wpAnyH_take (i := 15) (v := (.pointer (some ⟨g8, 0, none⟩))) rfl (by kernel_rfl) (by kernel_rfl) (by kernel_rfl) (fun _ _ _ h => h) (Or.inl ⟨by rfl, ?_⟩) (by assumption) ?_
                · intro w' hS; go_simp; try with_reducible rfl
                try simp [Act.put]
                refine wpAnyH_take (i := 16) (v := (.bool t)) rfl (by kernel_rfl) (by kernel_rfl) (by kernel_rfl) (fun _ _ _ h => h) (Or.inl ⟨by rfl, ?_⟩) (by assumption) ?_
                · intro w' hS
                  have hcc := (Blk.mvF hS).1
                  go_simp; try with_reducible rfl
                try simp [Act.put]
                refine wpAnyH_ready (rs := [17]) (by kernel_rfl) (by simp) ?_
                refine AllReadyH.cons rfl (fun K hK => ?_) AllReadyH.nil
                go_simp
                refine Calls.mono (HTU.out w6 HP6.out.bits) ?_
                rintro e w7 ⟨rfl, hf7, hc7⟩
                have HF7 := Lib.hid (And.intro hf7 hc7)
                refine hK.out _ _ (HM6.out.chg hc7 HG8.out) (fun hHeld2 => ?_)
                clear hK K hf7 hc7 HTU HM6
                try simp
                clear hHeld
                have hHeld := hHeld2
                clear hHeld2
                refine wpAnyH_take (i := 18) (v := (.bool true)) rfl (by kernel_rfl) (by kernel_rfl) (by kernel_rfl) (fun _ _ _ h => h) (Or.inl ⟨by rfl, ?_⟩) (by assumption) ?_
                · intro w' hS; go_simp; try with_reducible rfl
                try simp [Act.put]
                refine wpAnyH_take (i := 19) (v := (.bool true)) rfl (by kernel_rfl) (by kernel_rfl) (by kernel_rfl) (fun _ _ _ h => h) (Or.inl ⟨by rfl, ?_⟩) (by assumption) ?_
                · intro w' hS; go_simp; try with_reducible rfl
                try simp [Act.put]
                refine wpAnyH_done (by kernel_rfl) ?_ _
                clear hHeld
                go_wp2_with fail
                go_ret2
                exact postR_none HE.out rfl (HP6.out.off HF7.out.2)
              | true =>
                rw [hf] at HTU
                have HE : Hid (replayF ms S0 = replayF (ms.drop (k + 1)) (setM ⟨t, s, n⟩ T)) := HD.out.trans (if_pos hf)
                clear hf HD
                go_upto_region 12 with (first
                  | (with_reducible refine ld_mv rfl _ rfl b (off + k * 3) ⟨t, (s : Int), (n : Int)⟩ rfl HRM.out ?_)
                  | (with_reducible refine st_mv rfl _ _ rfl wr.heap.size 0 ⟨t, (s : Int), (n : Int)⟩ rfl rfl (Blk.mvHas (m := zmv) (Blk.new wr _ _)) ?_; intro w4 hw4
                     have HP4 := Lib.hid (HP.out.fresh (new_mv hw4.out).2)
                     have HM4 := Lib.hid (new_mv hw4.out).1))
                have HG8 : Hid (¬ wr.heap.size = g6) := Lib.hid (by have := HP.out.bits.lt; omega)
                have HP5 : Hid (PInv w w4.drew g6 T) := HP4.out.fresh (Below.refl _ _).drew
                have HM5 : Hid (Blk w4.drew wr.heap.size 54 (Mv.cs ⟨t, (s : Int), (n : Int)⟩).toArray) := HM4.out.below (Below.refl _ _).drew HM4.out.lt
                clear HP HRM HP4 HM4 hw4
                generalize wr.heap.size = g8 at *
                refine wp_region_held_drew (S := (fun w' => Blk w' g8 54 (Mv.cs ⟨t, (s : Int), (n : Int)⟩).toArray)) (by kernel_rfl) HM5.out (fun hHeld => ?_)
                generalize w4.drew = w5 at *
                refine wpAnyH_take (i := 0) (v := (.agg (Mv.cs ⟨t, (s : Int), (n : Int)⟩).toArray)) rfl (by kernel_rfl) (by kernel_rfl) (by kernel_rfl) (fun _ _ _ h => h) (Or.inl ⟨by rfl, ?_⟩) (by assumption) ?_
                · intro w' hS
                  exact ex_ldMv (.tmp 10) rfl g8 ⟨t, (s : Int), (n : Int)⟩ rfl hS
                try simp [Act.put]
                refine wpAnyH_ready (rs := [1]) (by kernel_rfl) (by simp) ?_
                refine AllReadyH.cons rfl (fun K hK => ?_) AllReadyH.nil
                go_simp
                refine Calls.mono (HJ.out w5) ?_
                rintro e w6 ⟨rfl, hb6⟩
                have HP6 := Lib.hid (HP5.out.fresh hb6)
                have HM6 := Lib.hid (HM5.out.below hb6 HM5.out.lt)
                refine hK.out _ _ HM6.out (fun hHeld2 => ?_)
                clear hK K hb6 HJ HP5 HM5
                try simp
                clear hHeld
                have hHeld := hHeld2
                clear hHeld2
                refine wpAnyH_take (i := 2) (v := (.bool false)) rfl (by kernel_rfl) (by kernel_rfl) (by kernel_rfl) (fun _ _ _ h => h) (Or.inl ⟨by rfl, ?_⟩) (by assumption) ?_
                · intro w' hS; go_simp; try with_reducible rfl
                try simp [Act.put]
                refine wpAnyH_take (i := 3) (v := (.bool false)) rfl (by kernel_rfl) (by kernel_rfl) (by kernel_rfl) (fun _ _ _ h => h) (Or.inl ⟨by rfl, ?_⟩) (by assumption) ?_
                · intro w' hS; go_simp; try with_reducible rfl
                try simp [Act.put]
                refine wpAnyH_take (i := 4) (v := (.pointer (some ⟨g8, 1, none⟩))) rfl (by kernel_rfl) (by kernel_rfl) (by kernel_rfl) (fun _ _ _ h => h) (Or.inl ⟨by rfl, ?_⟩) (by assumption) ?_
                · intro w' hS; go_simp; try with_reducible rfl
                try simp [Act.put]
                refine wpAnyH_take (i := 5) (v := (.pointer (some ⟨g8, 1, none⟩))) rfl (by kernel_rfl) (by kernel_rfl) (by kernel_rfl) (fun _ _ _ h => h) (Or.inl ⟨by rfl, ?_⟩) (by assumption) ?_
                · intro w' hS; go_simp; try with_reducible rfl
                try simp [Act.put]
                refine wpAnyH_take (i := 6) (v := (.int .i64 (s : Int))) rfl (by kernel_rfl) (by kernel_rfl) (by kernel_rfl) (fun _ _ _ h => h) (Or.inl ⟨by rfl, ?_⟩) (by assumption) ?_
                · intro w' hS
                  have hcc := (Blk.mvF hS).2.1
                  go_simp; try with_reducible rfl
                try simp [Act.put]
                refine wpAnyH_take (i := 7) (v := (.pointer (some ⟨g8, 1, none⟩))) rfl (by kernel_rfl) (by kernel_rfl) (by kernel_rfl) (fun _ _ _ h => h) (Or.inl ⟨by rfl, ?_⟩) (by assumption) ?_
                · intro w' hS; go_simp; try with_reducible rfl
                try simp [Act.put]
                refine wpAnyH_take (i := 8) (v := (.pointer (some ⟨g8, 1, none⟩))) rfl (by kernel_rfl) (by kernel_rfl) (by kernel_rfl) (fun _ _ _ h => h) (Or.inl ⟨by rfl, ?_⟩) (by assumption) ?_
                · intro w' hS; go_simp; try with_reducible rfl
                try simp [Act.put]
                refine wpAnyH_take (i := 9) (v := (.int .i64 (s : Int))) rfl (by kernel_rfl) (by kernel_rfl) (by kernel_rfl) (fun _ _ _ h => h) (Or.inl ⟨by rfl, ?_⟩) (by assumption) ?_
                · intro w' hS
                  have hcc := (Blk.mvF hS).2.1
                  go_simp; try with_reducible rfl
                try simp [Act.put]
                refine wpAnyH_take (i := 10) (v := (.pointer (some ⟨g8, 1, none⟩))) rfl (by kernel_rfl) (by kernel_rfl) (by kernel_rfl) (fun _ _ _ h => h) (Or.inl ⟨by rfl, ?_⟩) (by assumption) ?_
                · intro w' hS; go_simp; try with_reducible rfl
                try simp [Act.put]
                refine wpAnyH_take (i := 11) (v := (.pointer (some ⟨g8, 2, none⟩))) rfl (by kernel_rfl) (by kernel_rfl) (by kernel_rfl) (fun _ _ _ h => h) (Or.inl ⟨by rfl, ?_⟩) (by assumption) ?_
                · intro w' hS; go_simp; try with_reducible rfl
                try simp [Act.put]
                refine wpAnyH_take (i := 12) (v := (.int .i64 (n : Int))) rfl (by kernel_rfl) (by kernel_rfl) (by kernel_rfl) (fun _ _ _ h => h) (Or.inl ⟨by rfl, ?_⟩) (by assumption) ?_
                · intro w' hS
                  have hcc := (Blk.mvF hS).2.2
                  go_simp; try with_reducible rfl
                try simp [Act.put]
                refine wpAnyH_take (i := 13) (v := (.int .i64 (p : Int))) rfl (by kernel_rfl) (by kernel_rfl) (by kernel_rfl) (fun _ _ _ h => h) (Or.inl ⟨by rfl, ?_⟩) (by assumption) ?_
                · intro w' hS; go_simp; try with_reducible rfl
                try simp [Act.put]
                refine wpAnyH_take (i := 14) (v := (.slice (some ⟨g6, s, none⟩) n (4096 - s))) rfl (by kernel_rfl) (by kernel_rfl) (by kernel_rfl) (fun _ _ _ h => h) (Or.inl ⟨by rfl, ?_⟩) (by assumption) ?_
                · intro w' hS; go_simp; try with_reducible rfl
                try simp [Act.put]
                refine wpAnyH_take (i := 15) (v := (.pointer (some ⟨g8, 0, none⟩))) rfl (by kernel_rfl) (by kernel_rfl) (by kernel_rfl) (fun _ _ _ h => h) (Or.inl ⟨by rfl, ?_⟩) (by assumption) ?_
                · intro w' hS; go_simp; try with_reducible rfl
                try simp [Act.put]
                refine wpAnyH_take (i := 16) (v := (.bool t)) rfl (by kernel_rfl) (by kernel_rfl) (by kernel_rfl) (fun _ _ _ h => h) (Or.inl ⟨by rfl, ?_⟩) (by assumption) ?_
                · intro w' hS
                  have hcc := (Blk.mvF hS).1
                  go_simp; try with_reducible rfl
                try simp [Act.put]
                refine wpAnyH_ready (rs := [17]) (by kernel_rfl) (by simp) ?_
                refine AllReadyH.cons rfl (fun K hK => ?_) AllReadyH.nil
                go_simp
                refine Calls.mono (HTU.out w6 HP6.out.bits) ?_
                rintro e w7 ⟨rfl, hf7, hc7⟩
                have HF7 := Lib.hid (And.intro hf7 hc7)
                refine hK.out _ _ (HM6.out.chg hc7 HG8.out) (fun hHeld2 => ?_)
                clear hK K hf7 hc7 HTU HM6
                try simp
                clear hHeld
                have hHeld := hHeld2
                clear hHeld2
                refine wpAnyH_take (i := 18) (v := (.bool false)) rfl (by kernel_rfl) (by kernel_rfl) (by kernel_rfl) (fun _ _ _ h => h) (Or.inl ⟨by rfl, ?_⟩) (by assumption) ?_
                · intro w' hS; go_simp; try with_reducible rfl
                try simp [Act.put]
                refine wpAnyH_take (i := 19) (v := (.bool false)) rfl (by kernel_rfl) (by kernel_rfl) (by kernel_rfl) (fun _ _ _ h => h) (Or.inl ⟨by rfl, ?_⟩) (by assumption) ?_
                · intro w' hS; go_simp; try with_reducible rfl
                try simp [Act.put]
                refine wpAnyH_done (by kernel_rfl) ?_ _
                clear hHeld
                go_wp2_with fail
                go_roundw
                case rel => exact ⟨k + 1, _, HK.out, by go_num, HP6.out.turned (HF7.out.1 rfl) HF7.out.2, HE.out⟩
                case measure => have := HK.out; simp [intOf]; omega
          · obtain rfl : k = ms.length := by omega
            have HE : Hid (replayF ms S0 = some T) := hD.trans (by rw [List.drop_length]; rfl)
            have HWH := run_wholeB g6
            have HS := Lib.hid (spans_any g6 T wr HP.out.bits)
            clear hk hlt hD
            go_wp2_with (go_at_call 27; (with_reducible refine Calls.mono HS.out ?_); rintro e w9 ⟨A9, c9, rfl, hr9, hl9, hb9⟩)
            go_ret2
            rw [HE.out]
            exact ⟨A9, c9, rfl, hr9, hl9, HP.out.below.trans (hb9.mono HP.out.below.size)⟩
end Go.Proofs.Ytklccgmhllpjkaa
