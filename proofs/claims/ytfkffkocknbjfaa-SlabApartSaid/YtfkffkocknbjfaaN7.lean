/- The laws on slabs, walked over the calls' contracts: SlabFull. -/
import Derived.Test.YtfkffkocknbjfaaN6
set_option maxRecDepth 10000
namespace Go.Proofs.Ytfkffkocknbjfaa
open Go.RowKit

/-- A sector taken, and freed for later where the act says so. -/
def fullS (m : Mp) (p : Sp) : Mp := if p.1 = 4 then turnM (turnM m p.2 0 1) p.2 1 2 else turnM m p.2 0 1
def fullF (l : List Sp) (m : Mp) : Mp := l.foldl fullS m
theorem full_step (l : List Sp) (m : Mp) (k : Nat) (hk : k < l.length) : fullF (l.take (k + 1)) m = fullS (fullF (l.take k) m) l[k] := by
  unfold fullF
  rw [List.take_succ_eq_append_getElem hk, List.foldl_append]
  rfl
section
variable {At : World → (Nat → Prop) → Nat → Mp → Prop}
theorem apart_step (L : SlabCalls At) {w w' : World} {O P P' : Nat → Prop} {g : Nat} {m : Mp} (h : At w O g m) (hd : ∀ k, P k → ¬ O k) (s : Step w w' P P') : ∀ k, P' k → ¬ O k := fun k hk ho =>
  (s.new k hk).elim (fun h1 => hd k h1 ho) fun h1 => by have := L.foot h k ho; omega
theorem apart_step' (L : SlabCalls At) {w w' : World} {O O' P : Nat → Prop} {g : Nat} {m : Mp} (h : At w P g m) (hd : ∀ k, P k → ¬ O k) (s : Step w w' O O') : ∀ k, P k → ¬ O' k := fun k hk ho =>
  (s.new k ho).elim (fun h1 => hd k hk h1) fun h1 => by have := L.foot h k hk; omega
set_option maxHeartbeats 4000000 in
theorem slabFull_any (L : SlabCalls At) (w : World) (x0 : Int) (hx0 : I64 x0) (A1 : Option Addr) (c1 : Nat) (l1 : List Sp) (hR1 : Rd w w.heap.size A1 (spc l1)) (hO1 : SpOk l1) :
    Calls Try.prog 5 #[.int .i64 x0, .slice A1 l1.length c1] w fun e w' => e = .returned (.bool true) ∧ Below w.heap.size w w' := by
  have HR1 := Lib.hid hR1
  have HO1 := Lib.hid hO1
  have HX := Lib.hid hx0
  clear hR1 hO1 hx0
  go_enter Try.func5, Try.ntmps5
  go_wp2_with fail
  refine Calls.mono (slabAlive_any L _) ?_
  rintro e w1 ⟨rfl, hb1⟩
  go_wp2_with fail
  refine Calls.mono (L.new x0 w1 HX.out) ?_
  rintro e w2 ⟨O2, g, rfl, h2, hO2, hb2⟩
  have m2 := Has.first hb1 h2 hO2 hb2
  clear h2 hO2 hb2 hb1
  generalize newMp x0 = m0 at *
  by_cases h1 : l1.length ≤ 200
  · have h1i : ¬ (200 : Int) < l1.length := by omega
    have M2 := Lib.hid m2
    have HL := Lib.hid h1
    clear h1 m2
    go_upto_region 7 with fail
    go_loopw [35] (fun i wr => ∃ (k : Nat) (O : Nat → Prop), k ≤ l1.length ∧ i = .int .i64 k ∧ Has At w wr O g (fullF (l1.take k) m0)) (fun i _ => l1.length - (intOf i).toNat)
    case atStart => exact ⟨0, O2, Nat.zero_le _, rfl, M2.out⟩
    case round =>
      clear M2
      obtain ⟨k, O, hk, rfl, hH⟩ := hrel
      have HH := Lib.hid hH
      clear hH
      by_cases hlt : k < l1.length
      · have hki : (k : Int) < l1.length := by omega
        obtain ⟨b, off, rfl, hbl, hc1, hc2⟩ := sp_at HR1.out k hlt
        have hc1 := (HH.out.below.cell (p := ⟨b, off + k * 2, none⟩) hbl).trans hc1
        have hc2 := (HH.out.below.cell (p := ⟨b, off + k * 2 + 1, none⟩) hbl).trans hc2
        have HS := Lib.hid (full_step l1 m0 k hlt)
        have HI := Lib.hid (HO1.out _ (List.getElem_mem hlt)).2
        have HK := Lib.hid hlt
        generalize l1[k] = pp at *
        obtain ⟨kd, nn⟩ := pp
        simp only at hc1 hc2 HI
        clear hlt hk hbl
        go_upto_region 9 with fail
        have H6 := Lib.hid (HH.out.far L ((Below.refl _ _).alloc (Nat.le_refl _) (.cells #[.int .i64 kd, .int .i64 nn] 31)))
        have d1 : (wr.alloc (.cells #[.int .i64 kd, .int .i64 nn] 31)).cell? ⟨wr.heap.size, 0, none⟩ = some (.int .i64 kd) := (Blk.new wr _ _).cell 0
        have d2 : (wr.alloc (.cells #[.int .i64 kd, .int .i64 nn] 31)).cell? ⟨wr.heap.size, 1, none⟩ = some (.int .i64 nn) := (Blk.new wr _ _).cell 1
        have hno : ¬ O wr.heap.size := fun ho => by have := L.foot HH.out.at_ _ ho; omega
        have hlt6 : wr.heap.size < (wr.alloc (.cells #[.int .i64 kd, .int .i64 nn] 31)).heap.size := by simp
        clear hc1 hc2 HH
        generalize wr.alloc (.cells #[.int .i64 kd, .int .i64 nn] 31) = w6 at *
        generalize wr.heap.size = g6 at *
        have HT := Lib.hid (L.take nn HI.out H6.out.at_)
        go_wp2_with fail
        refine Calls.mono HT.out ?_
        rintro e w7 ⟨O7, rfl, h7, s7⟩
        have H7 := Lib.hid (H6.out.step h7 s7)
        have d1 := (s7.chg.cell hlt6 hno 0).trans d1
        have d2 := (s7.chg.cell hlt6 hno 1).trans d2
        clear h7 s7 HT H6 hno hlt6
        by_cases h4 : kd = 4
        · subst h4
          have HT := Lib.hid (L.later nn HI.out H7.out.at_)
          have HF : Hid (fullS (fullF (l1.take k) m0) (4, nn) = turnM (turnM (fullF (l1.take k) m0) nn 0 1) nn 1 2) := if_pos rfl
          go_wp2_with (go_at_call 14; refine Calls.mono HT.out ?_; rintro e w8 ⟨O8, rfl, h8, s8⟩; have H8 := Lib.hid (H7.out.step h8 s8); clear h8 s8)
          go_roundw
          case rel => exact ⟨k + 1, O8, HK.out, by go_num, by rw [HS.out, HF.out]; exact H8.out⟩
          case measure => have := HK.out; simp [intOf]; omega
        · have hb4 : (kd == 4) = false := beq_eq_false_iff_ne.2 h4
          have HF : Hid (fullS (fullF (l1.take k) m0) (kd, nn) = turnM (fullF (l1.take k) m0) nn 0 1) := if_neg h4
          clear h4
          go_wp2_with fail
          go_roundw
          case rel => exact ⟨k + 1, O7, HK.out, by go_num, by rw [HS.out, HF.out]; exact H7.out⟩
          case measure => have := HK.out; simp [intOf]; omega
      · obtain rfl : k = l1.length := by omega
        rw [List.take_of_length_le (Nat.le_refl _)] at HH
        generalize fullF l1 m0 = m at *
        clear hk hlt
        have M := HH
        clear HH
        have hk := L.count M.out.at_
        have HK := Lib.hid hk
        clear hk
        go_wp2_with fail
        refine Calls.mono HK.out ?_
        rintro e w' ⟨O', rfl, h', s'⟩
        have M := Lib.hid (M.out.step h' s')
        clear h' s'
        clear HK
        obtain ⟨nc, hnc⟩ : ∃ nc, nc = m.count := ⟨_, rfl⟩
        have HNC := Lib.hid hnc
        have hncb : (nc : Int) ≤ 1024 := by have := count_le m; omega
        rw [← hnc]
        clear hnc
        go_upto_region 15 with fail
        obtain ⟨wo, hwo⟩ : ∃ wo : World, wo = w' := ⟨_, rfl⟩
        clear hwo
        go_loopw [9, 10] (fun sm i wr => ∃ (k : Nat) (O : Nat → Prop), k ≤ 16 ∧ i = .int .i64 k ∧ sm = .int .i64 (sumR m k : Int) ∧ Has At w wr O g m) (fun _ i _ => 16 - (intOf i).toNat)
        case atStart => exact ⟨0, _, by omega, rfl, rfl, M.out⟩
        case round =>
          clear M
          obtain ⟨k, O, hk, rfl, rfl, hH⟩ := hrel
          have M := Lib.hid hH
          clear hH
          by_cases hlt : k < 16
          · have hki : (k : Int) < 16 := by omega
            have hrk : m.roomI (k : Int) = m.room k := by unfold Mp.roomI; rw [if_pos ⟨by omega, hki⟩, Int.toNat_natCast]
            have HSU : Hid (sumR m (k + 1) = sumR m k + m.room k) := rfl
            have hs1 : (sumR m k : Int) ≤ 1024 := by have := sumR_eq m k; have := cntR_le (m.is 0) 0 (64 * k); omega
            have hs2 : (m.room k : Int) ≤ 64 := by have := room_le m k; omega
            have HRK := Lib.hid hrk
            have HK := Lib.hid hlt
            generalize sumR m k = sk at *
            generalize m.room k = rk at *
            clear hk hlt hrk
            have hk := L.room (k : Int) (by unfold I64; omega) M.out.at_
            rw [HRK.out] at hk
            have HK := Lib.hid hk
            clear hk
            go_wp2_with fail
            refine Calls.mono HK.out ?_
            rintro e w' ⟨O', rfl, h', s'⟩
            have M := Lib.hid (M.out.step h' s')
            clear h' s'
            clear HK
            go_wp2_with fail
            go_roundw
            case rel => exact ⟨k + 1, _, HK.out, by go_num, by rw [HSU.out]; go_num, M.out⟩
            case measure => have := HK.out; simp [intOf]; omega
          · obtain rfl : k = 16 := by omega
            have hsc : sumR m 16 = nc := (sum_count m).trans HNC.out.symm
            rw [hsc]
            clear hk hlt hsc
            have HC := Lib.hid (L.copy M.out.at_)
            go_wp2_with fail
            refine Calls.mono HC.out ?_
            rintro e w3 ⟨O3, P3, g2, rfl, h3, p3, d3, s3⟩
            have C := Lib.hid (⟨p3, (fun k hk => Nat.le_trans M.out.below.size (d3 k hk).1), (M.out.step h3 s3).below⟩ : Has At w w3 P3 g2 m)
            have M := Lib.hid (M.out.step h3 s3)
            have HD := Lib.hid (fun k hk => (d3 k hk).2)
            clear HC h3 p3 d3 s3
            have hmm : m.many (nc : Int) = some (m.gives nc) := by unfold Mp.many; rw [if_neg (by have := HNC.out; omega), Int.toNat_natCast]
            have E : Hid (manyC m (nc : Int) = 0 ∧ manyM m (nc : Int) = (m.gives nc).2 ∧ (natI (manyL m (nc : Int))).length = nc) := by
              unfold manyC manyM manyL
              rw [hmm]
              exact ⟨rfl, rfl, by rw [natI, List.length_map]; exact (gave m nc (by have := HNC.out; omega)).len⟩
            clear hmm
            have hk := L.many (nc : Int) (by unfold I64; omega) C.out.at_
            rw [E.out.1, E.out.2.1, E.out.2.2] at hk
            have HK := Lib.hid hk
            clear hk
            go_wp2_with fail
            refine Calls.mono HK.out ?_
            rintro e w4 ⟨P4, A4, c4, rfl, h4, r4, s4⟩
            have FM := Lib.hid M.out.at_
            have M := Lib.hid (M.out.beside L C.out h4 s4 (fun k hk hp => HD.out k hp hk))
            have HD := Lib.hid (apart_step L FM.out HD.out s4)
            have C := Lib.hid (C.out.step h4 s4)
            have EF : Hid ((m.gives nc).2.count = 0) := (by rw [HNC.out]; exact gives_full m)
            clear HK h4 s4 r4 FM E
            have hk := L.count C.out.at_
            rw [EF.out] at hk
            have HK := Lib.hid hk
            clear hk
            go_wp2_with fail
            refine Calls.mono HK.out ?_
            rintro e w' ⟨P', rfl, h', s'⟩
            have FM := Lib.hid M.out.at_
            have M := Lib.hid (M.out.beside L C.out h' s' (fun k hk hp => HD.out k hp hk))
            have HD := Lib.hid (apart_step L FM.out HD.out s')
            have C := Lib.hid (C.out.step h' s')
            clear h' s' FM
            clear HK
            have hk := L.count M.out.at_
            rw [← HNC.out] at hk
            have HK := Lib.hid hk
            clear hk
            go_wp2_with fail
            refine Calls.mono HK.out ?_
            rintro e w' ⟨O', rfl, h', s'⟩
            have FC := Lib.hid C.out.at_
            have C := Lib.hid (C.out.beside L M.out h' s' HD.out)
            have HD := Lib.hid (apart_step' L FC.out HD.out s')
            have M := Lib.hid (M.out.step h' s')
            clear h' s' FC
            clear HK
            go_upto_region 23 with fail
            obtain ⟨wo, hwo⟩ : ∃ wo : World, wo = w' := ⟨_, rfl⟩
            clear hwo
            go_loopw [96] (fun i wr => ∃ (k : Nat) (O P : Nat → Prop), k ≤ nc ∧ i = .int .i64 k ∧ Has At w wr O g (m.gives k).2 ∧ Has At w wr P g2 (m.gives nc).2 ∧ ∀ k, P k → ¬ O k) (fun i _ => nc - (intOf i).toNat)
            case atStart => exact ⟨0, _, _, Nat.zero_le _, rfl, M.out, C.out, HD.out⟩
            case round =>
              clear M C HD
              obtain ⟨k, O, P, hk, rfl, hM, hC, hD⟩ := hrel
              have M := Lib.hid hM
              have C := Lib.hid hC
              have HD := Lib.hid hD
              clear hM hC hD
              by_cases hlt : k < nc
              · have hki : (k : Int) < nc := by omega
                have hnx := gives_next (m := m) (n := k) (by have := HNC.out; omega)
                obtain ⟨i, hi⟩ := hnx
                have E : Hid (nextC (m.gives k).2 = 0 ∧ nextM (m.gives k).2 = (m.gives (k + 1)).2) := by
                  unfold nextC nextM
                  rw [hi, gives_succ hi]
                  exact ⟨rfl, rfl⟩
                have HK2 := Lib.hid hlt
                clear hk hlt hi
                have hk := L.alloc M.out.at_
                rw [E.out.1] at hk
                rw [E.out.2] at hk
                have HK := Lib.hid hk
                clear hk
                go_wp2_with fail
                refine Calls.mono HK.out ?_
                rintro e w' ⟨O', rfl, h', s'⟩
                have FC := Lib.hid C.out.at_
                have C := Lib.hid (C.out.beside L M.out h' s' HD.out)
                have HD := Lib.hid (apart_step' L FC.out HD.out s')
                have M := Lib.hid (M.out.step h' s')
                clear h' s' FC
                clear HK
                go_wp2_with fail
                go_roundw
                case rel => exact ⟨k + 1, _, _, HK2.out, by go_num, M.out, C.out, HD.out⟩
                case measure => have := HK2.out; simp [intOf]; omega
              · obtain rfl : k = nc := by omega
                have hno := next_none.2 EF.out
                have E : Hid (nextC (m.gives k).2 = 71 ∧ nextM (m.gives k).2 = (m.gives k).2) := by
                  unfold nextC nextM
                  rw [hno]
                  exact ⟨rfl, rfl⟩
                have E2 : Hid (manyC (m.gives k).2 1 = 71 ∧ manyM (m.gives k).2 1 = (m.gives k).2) := by
                  have hm : (m.gives k).2.many 1 = none := by unfold Mp.many; rw [if_pos (by rw [EF.out]; omega)]
                  unfold manyC manyM
                  rw [hm]
                  exact ⟨rfl, rfl⟩
                clear hk hlt hno
                generalize (m.gives k).2 = mm at *
                have hk := L.alloc M.out.at_
                rw [E.out.1] at hk
                rw [E.out.2] at hk
                have HK := Lib.hid hk
                clear hk
                go_wp2_with fail
                refine Calls.mono HK.out ?_
                rintro e w' ⟨O', rfl, h', s'⟩
                have FC := Lib.hid C.out.at_
                have C := Lib.hid (C.out.beside L M.out h' s' HD.out)
                have HD := Lib.hid (apart_step' L FC.out HD.out s')
                have M := Lib.hid (M.out.step h' s')
                clear h' s' FC
                clear HK
                have hk := L.many 1 (by unfold I64; omega) C.out.at_
                rw [E2.out.1] at hk
                rw [E2.out.2] at hk
                have HK := Lib.hid hk
                clear hk
                go_wp2_with fail
                refine Calls.mono HK.out ?_
                rintro e w' ⟨P', A', c', rfl, h', r', s'⟩
                clear r'
                have FM := Lib.hid M.out.at_
                have M := Lib.hid (M.out.beside L C.out h' s' (fun k hk hp => HD.out k hp hk))
                have HD := Lib.hid (apart_step L FM.out HD.out s')
                have C := Lib.hid (C.out.step h' s')
                clear h' s' FM
                clear HK
                have FC := Lib.hid (L.foot C.out.at_)
                have hk := L.taken M.out.at_
                have HK := Lib.hid hk
                clear hk
                go_wp2_with fail
                refine Calls.mono HK.out ?_
                rintro e w' ⟨O', A', c', rfl, h', r', s'⟩
                have R := Lib.hid r'
                clear r'
                have FC := Lib.hid C.out.at_
                have C := Lib.hid (C.out.beside L M.out h' s' HD.out)
                have HD := Lib.hid (apart_step' L FC.out HD.out s')
                have M := Lib.hid (M.out.step h' s')
                clear h' s' FC
                clear HK
                have hk := L.taken C.out.at_
                have HK := Lib.hid hk
                clear hk
                go_wp2_with fail
                refine Calls.mono HK.out ?_
                rintro e w' ⟨P', A', c', rfl, h', r', s'⟩
                have R1 := Lib.hid (R.out.beside FC.out s')
                have RB := Lib.hid r'
                clear r'
                have FM := Lib.hid M.out.at_
                have M := Lib.hid (M.out.beside L C.out h' s' (fun k hk hp => HD.out k hp hk))
                have HD := Lib.hid (apart_step L FM.out HD.out s')
                have C := Lib.hid (C.out.step h' s')
                clear h' s' FM
                clear HK
                have hk := same_self R1.out RB.out.rd (by have := len_le (canon_right (stS mm 1)); omega)
                have HK := Lib.hid hk
                clear hk
                go_wp2_with fail
                refine Calls.mono (HK.out _ _) ?_
                rintro e w' ⟨rfl, hb'⟩
                go_wp2_with fail
                go_ret
                exact ⟨by simp, (M.out.far L hb').below⟩
  · have h1i : (200 : Int) < l1.length := by omega
    clear h1
    go_wp2_with fail
    go_ret
    exact ⟨rfl, m2.below⟩
end
end Go.Proofs.Ytfkffkocknbjfaa
