/- The reference's Replay. -/
import Derived.Test.YtklccgmhllpjkaaJ2
set_option maxRecDepth 10000
namespace Go.Proofs.Ytklccgmhllpjkaa
open Go.RowKit

/-! ### A log replayed: plain mathematics -/
def fitM (m : Mv) (S : Int → Bool) : Bool := (List.range m.n.toNat).all fun k => S (m.s + k) != m.t
def setM (m : Mv) (S : Int → Bool) (x : Int) : Bool := if m.s ≤ x ∧ x < m.s + m.n then m.t else S x
def midM (m : Mv) (S : Int → Bool) (k : Nat) (x : Int) : Bool := if m.s ≤ x ∧ x < m.s + k then m.t else S x
def replayF : List Mv → (Int → Bool) → Option (Int → Bool)
  | [], S => some S
  | m :: r, S => if (rightM m && fitM m S) = true then replayF r (setM m S) else none
def repF (l : List Sp) (ms : List Mv) : Option (Int → Bool) := if rightF 0 l = true then replayF ms (memF l) else none
def repL (o : Option (Int → Bool)) : List Sp := match o with
  | none => []
  | some S => canon S
def repC (o : Option (Int → Bool)) : Int := match o with
  | none => 81
  | some _ => 0
theorem fit_iff {m : Mv} {S : Int → Bool} : fitM m S = true ↔ ∀ x, m.s ≤ x → x < m.s + m.n → S x ≠ m.t := by
  unfold fitM
  rw [List.all_eq_true]
  constructor
  · intro h x h1 h2
    have := h (x - m.s).toNat (List.mem_range.2 (by omega))
    rw [show m.s + ((x - m.s).toNat : Int) = x by omega] at this
    simpa using this
  · intro h k hk
    have := List.mem_range.1 hk
    simpa using h (m.s + k) (by omega) (by omega)
theorem rightM_iff {m : Mv} : rightM m = true ↔ 0 ≤ m.s ∧ 1 ≤ m.n ∧ m.s + m.n ≤ 4096 := by
  unfold rightM
  constructor
  · intro h
    obtain ⟨h1, h2, h3, _⟩ := right_cons h
    exact ⟨h1, h2, h3⟩
  · rintro ⟨h1, h2, h3⟩
    exact right_mk h1 h2 h3 rfl
theorem mid_all (m : Mv) (S : Int → Bool) (k : Nat) (hk : (k : Int) = m.n) : midM m S k = setM m S := by
  funext x
  unfold midM setM
  rw [hk]
theorem mid_zero (m : Mv) (S : Int → Bool) : midM m S 0 = S := by
  funext x
  unfold midM
  rw [if_neg (by omega)]
theorem replay_step {ms : List Mv} {S : Int → Bool} {k : Nat} (hk : k < ms.length) (T : Int → Bool) (h : replayF ms S = replayF (ms.drop k) T) :
    replayF ms S = if (rightM ms[k] && fitM ms[k] T) = true then replayF (ms.drop (k + 1)) (setM ms[k] T) else none := by
  rw [h, List.drop_eq_getElem_cons hk]
  rfl
/-- Moves in memory, whose numbers are numbers. -/
def MvOk (l : List Mv) : Prop := ∀ m ∈ l, m.ok
/-- What stands while Replay goes. -/
structure PInv (w wr : World) (g : Nat) (S : Int → Bool) : Prop where
  bits : Blk wr g 48 (barr S)
  below : Below w.heap.size w wr
  lo : w.heap.size ≤ g
theorem PInv.fresh {w wr wr' : World} {g : Nat} {S : Int → Bool} (h : PInv w wr g S) (hb : Below wr.heap.size wr wr') : PInv w wr' g S := ⟨h.bits.below hb h.bits.lt, h.below.trans (hb.mono h.below.size), h.lo⟩
def PostR (o : Option (Int → Bool)) (w : World) (e : Ending) (w' : World) : Prop := ∃ A c, e = .returned (.tuple #[.slice A (repL o).length c, .int .i64 (repC o)]) ∧ Rd w' w'.heap.size A (spc (repL o)) ∧ (repL o).length ≤ c ∧ Below w.heap.size w w'
set_option maxHeartbeats 4000000 in
theorem jreplay_any (A A' : Option Addr) (c c' : Nat) (l : List Sp) (ms : List Mv) (w : World) (hs : Rd w w.heap.size A (spc l)) (hok : SpOk l) (hl : l.length ≤ 4503599627370496)
    (ht : Rd w w.heap.size A' (mvs ms)) (hmo : MvOk ms) (hml : ms.length ≤ 1000000) :
    Calls Try.prog 13 #[.slice A l.length c, .slice A' ms.length c'] w (PostR (repF l ms) w) := by
  have HR := Lib.hid (rright_any A c l w hs hok hl)
  cases hr : rightF 0 l with
  | false =>
    rw [hr] at HR
    have HE : Hid (repF l ms = none) := if_neg (by rw [hr]; simp)
    rw [HE.out]
    clear hr hs ht
    go_enter Try.func13, Try.ntmps13
    go_wp2_with (go_at_call 22; refine Calls.mono HR.out ?_; rintro e w1 ⟨rfl, hb1⟩)
    go_ret2
    exact ⟨none, 0, rfl, Rd.nil, Nat.le_refl _, hb1⟩
  | true =>
    rw [hr] at HR
    have HE : Hid (repF l ms = replayF ms (memF l)) := if_pos hr
    rw [HE.out]
    have HBI := Lib.hid (fun W (hW : Below w.heap.size w W) => bits_any A c l W ((hs.below hW).mono hW.size) hr)
    have HT := Lib.hid ht
    have HMO := Lib.hid hmo
    have hmi : (ms.length : Int) ≤ 1000000 := by omega
    have hz : ∀ w, Sem.run Try.prog (zeroValue 48) w = .ok (.agg (barr noB)) w := by unfold noB; rw [← falses_eq]; exact zeroArr
    have hzm : ∀ w, Sem.run Try.prog (zeroValue 54) w = .ok (.agg zmv.cs.toArray) w := zeroMv
    clear hr hs ht HE hmo hml hl hok
    generalize memF l = S0 at *
    go_enter Try.func13, Try.ntmps13
    go_wp2_with (first
      | (go_at_call 22; refine Calls.mono HR.out ?_; rintro e w1 ⟨rfl, hb1⟩; have HB1 := Lib.hid hb1; clear hb1)
      | (go_at_call 28; refine Calls.mono (HBI.out _ HB1.out) ?_; rintro e w2 ⟨rfl, hb2⟩; have HB2 := Lib.hid (HB1.out.trans (hb2.mono HB1.out.size)); clear hb2)
      | ((with_reducible refine st_arr rfl _ _ rfl w2.heap.size noB S0 rfl rfl (Blk.new w2 _ _) ?_); intro w3 hbl hsz hbb
         have HP3 : Hid (PInv w w3 w2.heap.size S0) := ⟨hbl, (HB2.out.alloc HB2.out.size _).trans (hbb _ HB2.out.size), HB2.out.size⟩
         clear hbl hsz hbb))
    clear HR HBI HB1 HB2 hz
    generalize w2.heap.size = g6 at *
    go_loopw [17] (fun i wr => ∃ (k : Nat) (T : Int → Bool), k ≤ ms.length ∧ i = .int .i64 k ∧ PInv w wr g6 T ∧ replayF ms S0 = replayF (ms.drop k) T) (fun i _ => ms.length - (intOf i).toNat)
    case atStart => exact ⟨0, S0, Nat.zero_le _, rfl, HP3.out, rfl⟩
    case round =>
      clear HP3
      obtain ⟨k, T, hk, rfl, hP, hD⟩ := hrel
      have HP := Lib.hid hP
      clear hP
      by_cases hlt : k < ms.length
      · have hki : (k : Int) < ms.length := by omega
        obtain ⟨b, off, rfl, hbl, hr⟩ := HT.out.mv k hlt
        have HRM : Hid (wr.rangeAt b (off + k * 3) ms[k].cs) := fun j v hj => (HP.out.below.cell (p := ⟨b, off + k * 3 + j, none⟩) hbl).trans (hr j v hj)
        have HD := Lib.hid (replay_step hlt T hD)
        have HJ := Lib.hid (jright_any ms[k] (HMO.out _ (List.getElem_mem hlt)))
        have HK := Lib.hid hlt
        generalize ms[k] = m at *
        obtain ⟨t, s0, n0⟩ := m
        clear hr hbl hD hk hlt
        cases hrm : rightM ⟨t, s0, n0⟩ with
        | false =>
          rw [hrm] at HJ
          have HE : Hid (replayF ms S0 = none) := HD.out.trans (if_neg (by rw [hrm]; simp))
          clear hrm
          go_wp2_with (first
            | (with_reducible refine ld_mv rfl _ rfl b (off + k * 3) ⟨t, s0, n0⟩ rfl HRM.out ?_)
            | (with_reducible refine st_mv rfl _ _ rfl wr.heap.size 0 ⟨t, s0, n0⟩ rfl rfl (Blk.mvHas (m := zmv) (Blk.new wr _ _)) ?_; intro w4 hw4
               have HP4 := Lib.hid (HP.out.fresh (new_mv hw4.out).2)
               have HM4 := Lib.hid (new_mv hw4.out).1)
            | (with_reducible refine ld_mv rfl _ rfl wr.heap.size 0 ⟨t, s0, n0⟩ rfl HM4.out.mvIs ?_)
            | (go_at_call 29; with_reducible refine Calls.mono (HJ.out _) ?_; rintro e w5 ⟨rfl, hb5⟩; have HP5 := Lib.hid (HP4.out.fresh hb5); clear hb5))
          go_ret2
          exact ⟨none, 0, by rw [HE.out]; rfl, by rw [HE.out]; exact Rd.nil, by rw [HE.out]; exact Nat.le_refl _, HP5.out.below⟩
        | true =>
          rw [hrm] at HJ
          rw [hrm, Bool.true_and] at HD
          obtain ⟨hm0, hm1, hm2⟩ := rightM_iff.1 hrm
          simp only at hm0 hm1 hm2
          clear hrm
          obtain ⟨s, rfl⟩ := Int.eq_ofNat_of_zero_le hm0
          obtain ⟨n, rfl⟩ := Int.eq_ofNat_of_zero_le (show 0 ≤ n0 by omega)
          have HG := Lib.hid HP.out.bits.lt
          go_wp2_with (first
            | (with_reducible refine ld_mv rfl _ rfl b (off + k * 3) ⟨t, (s : Int), (n : Int)⟩ rfl HRM.out ?_)
            | (with_reducible refine st_mv rfl _ _ rfl wr.heap.size 0 ⟨t, (s : Int), (n : Int)⟩ rfl rfl (Blk.mvHas (m := zmv) (Blk.new wr _ _)) ?_; intro w4 hw4
               have HP4 := Lib.hid (HP.out.fresh (new_mv hw4.out).2)
               have HM4 := Lib.hid (new_mv hw4.out).1)
            | (with_reducible refine ld_mv rfl _ rfl wr.heap.size 0 ⟨t, (s : Int), (n : Int)⟩ rfl HM4.out.mvIs ?_)
            | (go_at_call 29; with_reducible refine Calls.mono (HJ.out _) ?_; rintro e w5 ⟨rfl, hb5⟩
               have HP5 := Lib.hid (HP4.out.fresh hb5)
               have HM5 := Lib.hid (HM4.out.below hb5 HM4.out.lt)
               have cs1 : w5.cell? ⟨wr.heap.size, 1, none⟩ = some (.int .i64 (s : Int)) := HM5.out.mvF.2.1
               clear hb5))
          clear HP HRM HP4 HM4 HJ hw4 cs1
          generalize wr.heap.size = g8 at *
          have HFI : Hid ((∀ j : Nat, (j : Int) < n → T ((s : Int) + j) ≠ t) → replayF ms S0 = replayF (ms.drop (k + 1)) (setM ⟨t, s, n⟩ T)) := fun h => HD.out.trans (if_pos (fit_iff.2 fun x h1 h2 => by
            have := h (x - s).toNat (by simp only at h1 h2; omega)
            rwa [show (s : Int) + ((x - s).toNat : Int) = x by simp only at h1; omega] at this))
          have HFN : Hid (∀ j : Nat, (j : Int) < n → T ((s : Int) + j) = t → replayF ms S0 = none) := fun j hj h => HD.out.trans (if_neg fun hf => fit_iff.1 hf ((s : Int) + j) (by simp only; omega) (by simp only; omega) h)
          clear HD
          obtain ⟨wo, hwo⟩ : ∃ wo : World, wo = wr := ⟨_, rfl⟩
          clear hwo
          go_loopw [9] (fun i wr => ∃ (q : Nat), (q : Int) ≤ n ∧ i = .int .i64 ((s + q : Nat) : Int) ∧ PInv w wr g6 (midM ⟨t, s, n⟩ T q) ∧ Blk wr g8 54 (Mv.cs ⟨t, s, n⟩).toArray ∧ ∀ j : Nat, j < q → T ((s : Int) + j) ≠ t) (fun i _ => s + n - (intOf i).toNat)
          case atStart => exact ⟨0, by omega, rfl, by rw [mid_zero]; exact HP5.out, HM5.out, fun j hj => by omega⟩
          case round =>
            clear HP5 HM5
            obtain ⟨q, hq, rfl, hP, hM, hA⟩ := hrel
            have HP := Lib.hid hP
            have HM := Lib.hid hM
            have HA := Lib.hid hA
            have cm0 : wr.cell? ⟨g8, 0, none⟩ = some (.bool t) := hM.mvF.1
            have cm1 : wr.cell? ⟨g8, 1, none⟩ = some (.int .i64 (s : Int)) := hM.mvF.2.1
            have cm2 : wr.cell? ⟨g8, 2, none⟩ = some (.int .i64 (n : Int)) := hM.mvF.2.2
            clear hP hM hA
            by_cases hlt : (q : Int) < n
            · have hcell : wr.cell? ⟨g6, s + q, none⟩ = some (.bool (T ((s : Int) + q))) := (HP.out.bits.cell (s + q)).trans ((barr_at _ (s + q) (by omega)).trans (by
                unfold midM
                rw [if_neg (by simp only; omega)]
                congr 2))
              have hfz := HP.out.bits.frozen (s + q)
              have HQ := Lib.hid hlt
              have HFQ := Lib.hid (HFN.out q hlt)
              have HST : Hid ((barr (midM ⟨t, s, n⟩ T q)).setIfInBounds (s + q) (.bool t) = barr (midM ⟨t, s, n⟩ T (q + 1))) := barr_set (s + q) (by omega) (by unfold midM; rw [if_pos (by simp only; omega)]) (fun x _ _ hx => by
                unfold midM
                by_cases hc : (s : Int) ≤ x ∧ x < s + (q : Nat)
                · rw [if_pos hc, if_pos (by simp only; omega)]
                · rw [if_neg hc, if_neg (by simp only; omega)])
              obtain ⟨tb, htb⟩ : ∃ tb, tb = T ((s : Int) + q) := ⟨_, rfl⟩
              rw [← htb] at hcell HFQ
              have HTB := Lib.hid htb
              have hsn : (s : Int) < 4096 := by omega
              have hnn : (n : Int) ≤ 4096 := by omega
              have HM2 := Lib.hid hm2
              obtain ⟨p, hp⟩ : ∃ p, p = s + q := ⟨_, rfl⟩
              have hp1 : (p : Int) < 4096 := by omega
              have hp2 : (p : Int) < (s : Int) + n := by omega
              have HPQ := Lib.hid hp
              rw [← hp] at hcell hfz HST ⊢
              clear htb hlt hq hm0 hm1 hm2 hp
              by_cases he : tb = t
              · have HE : Hid (replayF ms S0 = none) := HFQ.out he
                subst he
                have HB9 := Lib.hid HP.out.below
                clear HST HFQ HTB HA HM HP hfz
                cases tb
                all_goals
                  go_wp2_with fail
                  go_quiet (fail)
                  go_wp2_with fail
                  go_ret2
                  exact ⟨none, 0, by rw [HE.out]; rfl, by rw [HE.out]; exact Rd.nil, by rw [HE.out]; exact Nat.le_refl _, below_draws HB9.out _⟩
              · have hA2 : ∀ j : Nat, j < q + 1 → T ((s : Int) + j) ≠ t := fun j hj => by
                  rcases Nat.lt_or_ge j q with h | h
                  · exact HA.out j h
                  · obtain rfl : j = q := by omega
                    rw [← HTB.out]
                    exact he
                have HA2 := Lib.hid hA2
                have HP9 : ∀ b, Hid ((PInv w ((wr.drewN b).setCell ⟨g6, p, none⟩ (.bool t)) g6 (midM ⟨t, s, n⟩ T (q + 1))) ∧ Blk ((wr.drewN b).setCell ⟨g6, p, none⟩ (.bool t)) g8 54 (Mv.cs ⟨t, s, n⟩).toArray) := fun b =>
                  ⟨⟨by rw [← HST.out]; exact Blk.set_ (w := wr.drewN b) HP.out.bits _ _, (below_draws HP.out.below b).setCell HP.out.lo _, HP.out.lo⟩, Blk.far (w := wr.drewN b) HM.out (p := ⟨g6, p, none⟩) (by have := HG.out; show g8 ≠ g6; omega) _⟩
                clear HST HFQ HA hA2 HM HP HTB
                cases tb <;> cases t
                · exact absurd rfl he
                · clear he
                  go_wp2_with fail
                  go_quiet (fail)
                  go_wp2_with fail
                  go_roundw
                  case rel => exact ⟨q + 1, by have := HQ.out; omega, by have := HPQ.out; go_num, (HP9 _).out.1, (HP9 _).out.2, HA2.out⟩
                  case measure => have := HQ.out; have := HPQ.out; simp [intOf]; omega
                · clear he
                  go_wp2_with fail
                  go_quiet (fail)
                  go_wp2_with fail
                  go_roundw
                  case rel => exact ⟨q + 1, by have := HQ.out; omega, by have := HPQ.out; go_num, (HP9 _).out.1, (HP9 _).out.2, HA2.out⟩
                  case measure => have := HQ.out; have := HPQ.out; simp [intOf]; omega
                · exact absurd rfl he
            · have hqn : q = n := by omega
              subst hqn
              have HE := Lib.hid (HFI.out fun j hj => HA.out j (by omega))
              clear hq hlt
              go_wp2_with fail
              go_roundw
              case rel => exact ⟨k + 1, _, HK.out, by go_num, by rw [← mid_all ⟨t, s, q⟩ T q rfl]; exact HP.out, HE.out⟩
              case measure => have := HK.out; simp [intOf]; omega
      · obtain rfl : k = ms.length := by omega
        have HE : Hid (replayF ms S0 = some T) := by
          show _ = _
          rw [hD, List.drop_of_length_le (Nat.le_refl _)]
          rfl
        have hsz := HP.out.bits.lt
        have HSE := Lib.hid (set_any T wr)
        clear hD hk hlt
        go_wp2_with (first
          | ((with_reducible refine ld_arr rfl _ rfl g6 T rfl HP.out.bits ?_))
          | (go_at_call 30; refine Calls.mono HSE.out ?_; rintro e w2 ⟨v2, rfl, ho2, hb2⟩))
        obtain ⟨A2, c2, rfl, hr2, hc2⟩ := own_rd ho2
        go_ret2
        rw [HE.out]
        rw [List.reverse_reverse] at hr2
        rw [List.length_reverse] at hc2
        exact ⟨A2, c2, congrArg (fun n => Ending.returned (.tuple #[.slice A2 n c2, .int .i64 0])) (List.length_reverse ..), hr2, hc2, HP.out.below.trans (hb2.mono HP.out.below.size)⟩
end Go.Proofs.Ytklccgmhllpjkaa
