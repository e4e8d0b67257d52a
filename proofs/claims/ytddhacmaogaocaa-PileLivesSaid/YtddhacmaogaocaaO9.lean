/- The laws on piles, walked over the calls' contracts: PileLives. -/
import Derived.Test.YtddhacmaogaocaaO8
set_option maxRecDepth 10000
namespace Go.Proofs.Ytddhacmaogaocaa
open Go.RowKit

theorem bys_of1 (k : Nat) (h : k < 256) : bys [UInt8.ofNat k] = [.int .u8 (k : Int)] := by
  simp only [bys, List.map_cons, List.map_nil, List.cons.injEq, and_true]
  rw [UInt8.toNat_ofNat', Nat.mod_eq_of_lt (by omega)]
theorem bys_of2 (k : Nat) (h : k < 256) : bys [UInt8.ofNat k, 1] = [.int .u8 (k : Int), .int .u8 1] := by
  simp only [bys, List.map_cons, List.map_nil, List.cons.injEq, and_true]
  rw [UInt8.toNat_ofNat', Nat.mod_eq_of_lt (by omega)]
  exact ⟨rfl, rfl⟩
section
variable {At : World → (Nat → Prop) → Nat → Pw → Prop}
set_option maxHeartbeats 4000000 in
theorem pileLives_any (L : PileCalls At) (w : World) (x0 : Int) (hx0 : I64 x0) (x1 : Int) (hx1 : I64 x1) :
    Calls Try.prog 5 #[.int .i64 x0, .int .i64 x1] w fun e w' => e = .returned (.bool true) ∧ Below w.heap.size w w' := by
  have HA := Lib.hid (pileAlive_any L w)
  go_enter Try.func5, Try.ntmps5
  go_wp2_with fail
  refine Calls.mono HA.out ?_
  rintro e w1 ⟨rfl, hb1⟩
  have b1 : Below w.heap.size w w1 := hb1
  clear HA hb1
  obtain ⟨_, _⟩ := hx0
  obtain ⟨_, _⟩ := hx1
  by_cases hg : (0 ≤ x0 ∧ x0 ≤ 50) ∧ 0 ≤ x1 ∧ x1 ≤ 50
  · obtain ⟨⟨h00, h01⟩, h10, h11⟩ := hg
    obtain ⟨old, rfl⟩ := Int.eq_ofNat_of_zero_le h00
    obtain ⟨now, rfl⟩ := Int.eq_ofNat_of_zero_le h10
    have HO50 := Lib.hid (show old ≤ 50 by omega)
    have HN50 := Lib.hid (show now ≤ 50 by omega)
    have HM := Lib.hid (L.made 64 w1 (by unfold I64; omega))
    go_wp2_with fail
    refine Calls.mono HM.out ?_
    rintro e w2 ⟨O2, g, rfl, h2, hO2, hb2⟩
    have m2 := HasP.first b1 h2 hO2 hb2
    clear HM h2 hO2 hb2 b1
    go_wp2_with fail
    go_loopw [6, 7] (fun v i wr => ∃ (is : List Nat) (P : Pw) (qs : List PtrV) (O : Nat → Prop), is.length ≤ old ∧ i = .int .i64 is.length ∧ OwnQ wr w.heap.size v qs ∧ (∀ b, v.ownBlock = some b → ¬ O b) ∧ HasP At w wr O g P ∧ Olds is P qs) (fun _ i _ => old - (intOf i).toNat)
    case atStart =>
      have h := World.ownsRow_lit (base := w.heap.size) (e := 32) (size := 3) w2 #[] 0 m2.below.size (by simp [maxLen]) rfl
      have hb3 : Below w2.heap.size w2 (w2.alloc (.cells #[] 32)) := (Below.refl _ _).alloc (Nat.le_refl _) _
      exact ⟨[], newPw 64, [], O2, by simp, rfl, by simpa [OwnQ, pqs] using h, fun b hb ho => by
        simp only [Value.ownBlock, Option.some.injEq] at hb
        have := L.foot m2.at_ b ho
        omega, m2.far L hb3, olds_zero⟩
    case round =>
      clear m2
      obtain ⟨is, P, qs, O, hk, rfl, hown, hno, hm, hp⟩ := hrel
      by_cases hlt : is.length < old
      · have h50 := HO50.out
        obtain ⟨i, hi⟩ := hp.next (by omega)
        have hp2 := hp.put hi [UInt8.ofNat is.length]
        obtain ⟨e1, e2, e3⟩ := pput_yes (P := P) (l := [UInt8.ofNat is.length]) (i := i) (by simp) hi
        rw [hp.st] at e2
        have hN : P.N ≤ 1000000 := by have := hp.N; omega
        have HQ := Lib.hid (show qs.length ≤ 1048576 by rw [hp.len]; omega)
        have hbb := bys_of1 is.length (by omega)
        have hlen2 : (is ++ [i]).length = is.length + 1 := by simp
        generalize (⟨P.nw.set i (blockS [UInt8.ofNat is.length]), P.m.put i 1, P.st, P.ba, P.N + 1⟩ : Pw) = P' at *
        obtain ⟨S, hS⟩ : ∃ S : Int, (sumS (blockS [UInt8.ofNat is.length]) : Int) = S := ⟨_, rfl⟩
        rw [hS] at hp2 e2
        have e2 : putQ P [UInt8.ofNat is.length] = ((i : Int), 1, S) := e2
        have hb3 : Below wr.heap.size wr (wr.alloc (.cells #[.int .u8 (is.length : Int)] 5)) := (Below.refl _ _).alloc (Nat.le_refl _) _
        have m3 := hm.far L hb3
        have r3 : RdA (wr.alloc (.cells #[.int .u8 (is.length : Int)] 5)) O (some ⟨wr.heap.size, 0, none⟩) (bys [UInt8.ofNat is.length]) := ⟨by rw [hbb]; exact rd_new wr #[.int .u8 (is.length : Int)] 5, fun b off e _ ho => by
          simp only [Option.some.injEq, Addr.mk.injEq] at e
          have := L.foot hm.at_ b ho
          omega⟩
        have HPut := L.put _ 1 [UInt8.ofNat is.length] m3.at_ r3 (by simp) hN
        rw [e1, e2, e3] at HPut
        have HPut := Lib.hid HPut
        have own3 : OwnQ (wr.alloc (.cells #[.int .u8 (is.length : Int)] 5)) w.heap.size _ qs := own_far hown hb3
        have HM3 := Lib.hid (And.intro m3 (And.intro own3 hno))
        have HP2 := Lib.hid (And.intro hp2 hlen2)
        have HK := Lib.hid hlt
        have hwr : IntKind.u8.wrap (is.length : Int) = (is.length : Int) := by
          unfold IntKind.wrap
          simp [IntKind.signed, IntKind.bits]
          omega
        have hkk : (is.length : Int) < (old : Int) := by omega
        have hz := zeroPtr
        clear hp hp2 hi e1 e2 e3 hN hbb hlen2 hS hb3 m3 r3 own3 hown hno hm hk hlt h50
        generalize is.length = k at *
        go_wp2_with fail
        refine Calls.mono HPut.out ?_
        rintro e w4 ⟨O4, rfl, h4, s4⟩
        have m4 := HM3.out.1.step h4 s4
        obtain ⟨own4, no4⟩ := own_step HM3.out.2.1 HM3.out.2.2 s4
        have hb5 : Below w4.heap.size w4 (w4.alloc (.cells (pcs (i : Int) 1 S) 32)) := (Below.refl _ _).alloc (Nat.le_refl _) _
        have own5 : OwnQ (w4.alloc (.cells (pcs (i : Int) 1 S) 32)) w.heap.size _ qs := own_far own4 hb5
        have HM5 := Lib.hid (And.intro (m4.far L hb5) (And.intro own5 no4))
        have hsz5 : w.heap.size ≤ (w4.alloc (.cells (pcs (i : Int) 1 S) 32)).heap.size := HM5.out.1.below.size
        clear HPut h4 s4 HM3 m4 own4 no4 hb5 own5
        go_wp2_with (at_builtin; refine app_ptr rfl 48 50 rfl w.heap.size _ qs rfl HM5.out.2.1 ((i : Int), 1, S) (w4.heap.size + 1) (by simp) rfl hsz5 HQ.out ?_; intro v6 w6 hown6 hgr6 hrow6)
        go_roundw
        case rel =>
          have hc6 : Chg (w4.alloc (.cells (pcs (i : Int) 1 S) 32)) w6 (fun b => u6.ownBlock = some b) := ((Chg.refl _ _).alloc _).grown hgr6 fun _ hk => .inl hk
          have hlt6 : ∀ b, O4 b → b < (w4.alloc (.cells (pcs (i : Int) 1 S) 32)).heap.size := fun b ho => L.foot HM5.out.1.at_ b ho
          refine ⟨is ++ [i], P', qs ++ [((i : Int), 1, S)], O4, by rw [HP2.out.2]; exact HK.out, by rw [HP2.out.2]; go_num, hown6, fun b hb ho => ?_, ⟨L.stay HM5.out.1.at_ hc6 fun b ho hb => HM5.out.2.2 b hb ho, HM5.out.1.lo, HM5.out.1.below.trans (hc6.below (fun b hb => (HM5.out.2.1.lt b hb).1) HM5.out.1.below.size)⟩, HP2.out.1⟩
          rcases hrow6 b hb with h7 | h7
          · exact HM5.out.2.2 b h7 ho
          · exact absurd (hlt6 b ho) (Nat.not_lt.2 h7)
        case measure => simp [intOf]; have := HK.out; omega
      · have hold : is.length = old := by omega
        obtain ⟨vA, vc, rfl, hvr, _⟩ := own_rd hown
        have h50 := HO50.out
        have hq0 : RdA wr O vA (pqs qs) := ⟨hvr, fun b off e hp ho => hno b (by rw [e]; rfl) ho⟩
        have hC := L.commit hm.at_ (by rw [hp.st]; decide)
        have hD := hp.com (by omega)
        have HND := Lib.hid hp.nodup
        have HEA := Lib.hid hp.each
        have hql := hp.len
        generalize comP P = P' at *
        have HC := Lib.hid hC
        have HM := Lib.hid (And.intro hm hq0)
        have HD := Lib.hid hD
        clear hC hD hp hm hq0 hown hno hvr hk h50
        have hlk : is.length = is.length := rfl
        subst hold
        have hqi : (qs.length : Int) = (is.length : Int) := by omega
        go_wp2_with fail
        refine Calls.mono HC.out ?_
        rintro e w3 ⟨O3, rfl, h3, s3⟩
        have m3 := HM.out.1.step h3 s3
        have q3 := HM.out.2.step s3
        clear HC HM h3 s3 P
        go_wp2_with fail
        have HQI := Lib.hid hql
        clear hlk hql
        go_loopw [56] (fun i wr => ∃ (k : Nat) (O : Nat → Prop) (P : Pw), k ≤ is.length ∧ i = .int .i64 k ∧ HasP At w wr O g P ∧ RdA wr O vA (pqs qs) ∧ Drops is k 60 P) (fun i _ => is.length - (intOf i).toNat)
        case atStart => exact ⟨0, O3, P', by omega, rfl, m3, q3, HD.out⟩
        case round =>
          clear m3 q3 HD
          obtain ⟨k, O, P, hk, rfl, hm, hq, hd⟩ := hrel
          by_cases hlt : k < is.length
          · have hkq : k < qs.length := by have := HQI.out; omega
            obtain ⟨b, off, rfl, hbB, c0, c1, c2⟩ := pq_at hq.rd k hkq
            obtain ⟨S, hS, hqk⟩ := HEA.out k hlt
            rw [show qs.getD k hole0 = qs[k] by simp [List.getD, hkq]] at hqk
            rw [hqk] at c0 c1 c2
            simp only at c0 c1 c2
            obtain ⟨d1, d2, d3, d4⟩ := hd.drop HND.out hlt (S : Int)
            have hn1024 : is.getD k 0 < 1024 := by
              have hin : is.getD k 0 ∈ is.drop k := by
                rw [List.drop_eq_getElem_cons hlt, show is.getD k 0 = is[k] by simp [List.getD, hlt]]
                exact List.mem_cons_self
              have := (Mp.is_iff.1 ((hd.taken _).2 hin)).2.1
              have := hd.tot
              omega
            have hok := putq_ok hn1024 hS
            generalize is.getD k 0 = n at *
            obtain ⟨Z, hZ⟩ : ∃ Z : Int, (S : Int) = Z := ⟨_, rfl⟩
            rw [hZ] at c2 d1 d2 d3 d4 hok
            clear hZ hqk hS hn1024
            have hb1 : Below wr.heap.size wr (wr.alloc (.cells (pcs (n : Int) 1 Z) 32)) := (Below.refl _ _).alloc (Nat.le_refl _) _
            have m1 := hm.far L hb1
            have q1 : RdA (wr.alloc (.cells (pcs (n : Int) 1 Z) 32)) O (some ⟨b, off, none⟩) (pqs qs) := hq.far hb1
            have p1 : BlkA (wr.alloc (.cells (pcs (n : Int) 1 Z) 32)) O wr.heap.size 32 (pcs (n : Int) 1 Z) := ⟨Blk.new wr _ _, fun ho => by have := L.foot hm.at_ _ ho; omega⟩
            have HDr := L.drop ((n : Int), 1, Z) hok m1.at_
            rw [d1] at HDr
            have HDr := Lib.hid HDr
            have HM1 := Lib.hid (And.intro m1 (And.intro q1 p1))
            have HD2 := Lib.hid (And.intro d2 (And.intro d3 (And.intro d4 hok)))
            have hz := zeroPtr
            clear hm hq hd d1 d2 d3 d4 hok hb1 m1 q1 p1
            have HK := Lib.hid hk
            clear hk
            generalize dropP P ((n : Int), 1, Z) = P2 at *
            go_wp2_with fail
            refine Calls.mono HDr.out ?_
            rintro e w4 ⟨O4, rfl, h4, s4⟩
            have m4 := HM1.out.1.step h4 s4
            have q4 := HM1.out.2.1.step s4
            have p4 := HM1.out.2.2.step s4
            have HDr2 := L.drop ((n : Int), 1, Z) HD2.out.2.2.2 m4.at_
            rw [HD2.out.2.1, HD2.out.2.2.1] at HDr2
            have HDr3 := Lib.hid HDr2
            have HM4 := Lib.hid (And.intro m4 (And.intro q4 p4))
            generalize wr.heap.size = gp at *
            clear HDr HDr2 h4 s4 HM1 m4 q4 p4 c0 c1 c2
            go_wp2_with (refine wpList_valD 66 rfl _ (ex_ldP (.tmp 11) rfl gp (n : Int) 1 Z rfl HM4.out.2.2.blk) (by rfl) ?_)
            refine Calls.mono HDr3.out ?_
            rintro e w5 ⟨O5, rfl, h5, s5⟩
            have HM5 := Lib.hid (And.intro (HM4.out.1.step h5 s5) (HM4.out.2.1.step s5))
            clear HDr3 h5 s5 HM4
            go_wp2_with fail
            go_roundw
            case rel => exact ⟨k + 1, O5, P2, hlt, by go_num, HM5.out.1, HM5.out.2, HD2.out.1⟩
            case measure => simp [intOf]; omega
          · obtain rfl : k = is.length := by omega
            have HD := Lib.hid hd
            have HM := Lib.hid (And.intro hm hq)
            clear hd hm hq hk
            go_wp2_with fail
            have hol : (is.length : Int) < 60 := by omega
            clear HND
            have HEQ : Hid (∀ j (h : j < is.length), (qs[j]'(by have := HQI.out; omega)).1 = (is.getD j 0 : Int)) := fun j h => by
              obtain ⟨S, _, hq⟩ := HEA.out j h
              rw [show qs.getD j hole0 = qs[j]'(by have := HQI.out; omega) by simp [List.getD, HQI.out, h]] at hq
              rw [hq]
            clear HEA
            go_loopw [12] (fun i wr => ∃ (k : Nat) (O : Nat → Prop) (P : Pw), k ≤ now ∧ i = .int .i64 k ∧ HasP At w wr O g P ∧ RdA wr O vA (pqs qs) ∧ Drops is is.length (60 + k) P) (fun i _ => now - (intOf i).toNat)
            case atStart => exact ⟨0, O, P, by omega, rfl, HM.out.1, HM.out.2, HD.out⟩
            case round =>
              clear HM HD
              obtain ⟨k, O, P, hk, rfl, hm, hq, hd⟩ := hrel
              have hn50 := HN50.out
              by_cases hlt : k < now
              · obtain ⟨i, hi⟩ := hd.next HO50.out
                obtain ⟨e1, e2, hi64, hni, f1, f2⟩ := hd.pass hi [UInt8.ofNat k, 1] (by simp)
                have hN : P.N ≤ 1000000 := by have := hd.N; omega
                have hok : PtrOk ((i : Int), 2, (sumS (blockS [UInt8.ofNat k, 1]) : Int)) := by
                  have := sum_lt (blockS [UInt8.ofNat k, 1])
                  unfold PtrOk
                  refine ⟨?_, ?_, ?_, ?_, ?_, ?_⟩ <;> simp only <;> omega
                have hbb := bys_of2 k (by omega)
                obtain ⟨S, hS⟩ : ∃ S : Int, (sumS (blockS [UInt8.ofNat k, 1]) : Int) = S := ⟨_, rfl⟩
                rw [hS] at e2 f1 f2 hok
                have hb3 : Below wr.heap.size wr (wr.alloc (.cells #[.int .u8 (k : Int), .int .u8 1] 5)) := (Below.refl _ _).alloc (Nat.le_refl _) _
                have m3 := hm.far L hb3
                have q3 := hq.far hb3
                have r3 : RdA (wr.alloc (.cells #[.int .u8 (k : Int), .int .u8 1] 5)) O (some ⟨wr.heap.size, 0, none⟩) (bys [UInt8.ofNat k, 1]) := ⟨by rw [hbb]; exact rd_new wr #[.int .u8 (k : Int), .int .u8 1] 5, fun b off e _ ho => by
                  simp only [Option.some.injEq, Addr.mk.injEq] at e
                  have := L.foot hm.at_ b ho
                  omega⟩
                have HPut := L.put _ 2 [UInt8.ofNat k, 1] m3.at_ r3 (by simp) hN
                rw [e1, e2] at HPut
                have HPut := Lib.hid HPut
                have HM3 := Lib.hid (And.intro m3 q3)
                have HF := Lib.hid (And.intro f1 (And.intro f2 (And.intro hok hni)))
                have HK := Lib.hid hk
                have hwr : IntKind.u8.wrap (k : Int) = (k : Int) := by
                  unfold IntKind.wrap
                  simp [IntKind.signed, IntKind.bits]
                  omega
                have hkk : (k : Int) < (now : Int) := by omega
                have hz := zeroPtr
                clear hd hi e1 e2 hN hbb hS hb3 m3 r3 q3 hm hq hk f1 f2 hok hni hn50
                generalize putP P [UInt8.ofNat k, 1] = P' at *
                go_wp2_with fail
                refine Calls.mono HPut.out ?_
                rintro e w4 ⟨O4, rfl, h4, s4⟩
                have m4 := HM3.out.1.step h4 s4
                have q4 := HM3.out.2.step s4
                have hb5 : Below w4.heap.size w4 (w4.alloc (.cells (pcs (i : Int) 2 S) 32)) := (Below.refl _ _).alloc (Nat.le_refl _) _
                have m5 := m4.far L hb5
                have q5 := q4.far hb5
                have p5 : BlkA (w4.alloc (.cells (pcs (i : Int) 2 S) 32)) O4 w4.heap.size 32 (pcs (i : Int) 2 S) := ⟨Blk.new w4 _ _, fun ho => by have := L.foot m4.at_ _ ho; omega⟩
                have HM5 := Lib.hid (And.intro m5 (And.intro q5 p5))
                clear HPut h4 s4 HM3 m4 q4 hb5 m5 q5 p5
                go_wp2_with fail
                generalize w4.heap.size = gp at *
                go_loopw [91] (fun v wi => ∃ j : Nat, j ≤ is.length ∧ v = .int .i64 j ∧ HasP At w wi O4 g P' ∧ RdA wi O4 vA (pqs qs) ∧ BlkA wi O4 gp 32 (pcs (i : Int) 2 S)) (fun v _ => is.length - (intOf v).toNat)
                case atStart => exact ⟨0, by omega, rfl, HM5.out.1, HM5.out.2.1, HM5.out.2.2⟩
                case round =>
                  clear HM5
                  obtain ⟨j, hj, rfl, hm, hq, hp⟩ := hrel
                  by_cases hjl : j < is.length
                  · have hjq : j < qs.length := by have := HQI.out; omega
                    obtain ⟨b, off, rfl, hbB, c0, c1, c2⟩ := pq_at hq.rd j hjq
                    have hqj := HEQ.out j hjl
                    obtain ⟨y1, y2, y3, hy⟩ : ∃ y1 y2 y3, qs[j] = (y1, y2, y3) := ⟨_, _, _, rfl⟩
                    rw [hy] at c0 c1 c2 hqj
                    simp only at c0 c1 c2 hqj
                    have hne : (y1 == (i : Int)) = false := by
                      rw [beq_eq_false_iff_ne, hqj]
                      intro e
                      refine HF.out.2.2.2 ?_
                      rw [← show is.getD j 0 = i by omega]
                      simp [List.getD, hjl]
                    have hp0 : wr.cell? ⟨gp, 0, none⟩ = some (.int .i64 (i : Int)) := hp.blk.cell 0
                    have hfp := hp.blk.frozen 0
                    have hltp := hp.blk.lt
                    have hb6 : Hid (Below wr.heap.size wr (wr.alloc (.cells (pcs y1 y2 y3) 32))) := (Below.refl _ _).alloc (Nat.le_refl _) _
                    have HMI := Lib.hid (And.intro hm (And.intro hq hp))
                    have HJ := Lib.hid hj
                    clear hm hq hp hj hy hqj
                    go_wp2_with fail
                    go_roundw
                    case rel => exact ⟨j + 1, hjl, by go_num, HMI.out.1.far L hb6.out, HMI.out.2.1.far hb6.out, HMI.out.2.2.later hb6.out⟩
                    case measure => simp [intOf]; omega
                  · obtain rfl : j = is.length := by omega
                    have HDr := L.drop ((i : Int), 2, S) HF.out.2.2.1 hm.at_
                    rw [HF.out.1] at HDr
                    have HDr2 := Lib.hid HDr
                    have HMI := Lib.hid (And.intro hm (And.intro hq hp))
                    clear HDr hm hq hp hj
                    have HFD := Lib.hid HF.out.2.1
                    clear HF
                    generalize dropP P' ((i : Int), 2, S) = P2 at *
                    go_wp2_with (refine wpList_valD 109 rfl _ (ex_ldP (.tmp 13) rfl gp (i : Int) 2 S rfl HMI.out.2.2.blk) (by rfl) ?_)
                    refine Calls.mono HDr2.out ?_
                    rintro e w7 ⟨O7, rfl, h7, s7⟩
                    have m7 := HMI.out.1.step h7 s7
                    have q7 := HMI.out.2.1.step s7
                    obtain ⟨gm, hmap⟩ := L.map m7.at_
                    have HMap := Lib.hid hmap
                    have HM7 := Lib.hid (And.intro m7 q7)
                    clear hmap HDr2 h7 s7 HMI m7 q7
                    go_wp2_with fail
                    refine Calls.mono HMap.out ?_
                    rintro e w8 ⟨rfl, hb8, hcnt⟩
                    have hcv : (P2.m.count : Int) = 60 - (is.length : Int) := by have := HFD.out.cnt; omega
                    have HC := hcnt w8 (Below.refl _ _)
                    rw [hcv] at HC
                    have HC2 := Lib.hid HC
                    have hne2 : ((60 - (is.length : Int)) != (60 - (is.length : Int))) = false := by simp
                    clear HC hcnt HMap hcv
                    go_wp2_with fail
                    refine Calls.mono HC2.out ?_
                    rintro e w9 ⟨rfl, hb9⟩
                    have hb79 := hb8.trans (hb9.mono hb8.size)
                    have HM9 := Lib.hid (And.intro (HM7.out.1.far L hb79) (HM7.out.2.far hb79))
                    clear HC2 hb8 hb9 hb79 HM7
                    go_wp2_with fail
                    go_roundw
                    case rel => exact ⟨k + 1, O7, P2, hlt, by go_num, HM9.out.1, HM9.out.2, HFD.out⟩
                    case measure => simp [intOf]; omega
              · obtain rfl : k = now := by omega
                have hC := L.commit hm.at_ (by rw [hd.st]; decide)
                have h60 := hd.com (L.wf hm.at_).2.2.1
                have hst : (comP P).st = 3 := by show P.st + 1 = 3; rw [hd.st]
                have hba : (comP P).ba = 2 := hd.st
                generalize comP P = P' at *
                have HC := Lib.hid hC
                have HM := Lib.hid hm
                have HH := Lib.hid (And.intro h60 (And.intro hst hba))
                clear hC h60 hst hba hd hm hq hk hn50
                go_wp2_with fail
                refine Calls.mono HC.out ?_
                rintro e w3 ⟨O3, rfl, h3, s3⟩
                have m3 := HM.out.step h3 s3
                obtain ⟨gm, hmap⟩ := L.map m3.at_
                have HMap := Lib.hid hmap
                have HM3 := Lib.hid m3
                clear hmap HC h3 s3 HM m3
                go_wp2_with fail
                refine Calls.mono HMap.out ?_
                rintro e w4 ⟨rfl, hb4, hcnt⟩
                have HC := hcnt w4 (Below.refl _ _)
                rw [HH.out.1] at HC
                have HC2 := Lib.hid HC
                have m4 := HM3.out.far L hb4
                have HM4 := Lib.hid m4
                clear HC hcnt HMap hb4 HM3 m4
                go_wp2_with fail
                refine Calls.mono HC2.out ?_
                rintro e w5 ⟨rfl, hb5⟩
                have m5 := HM4.out.far L hb5
                have HB := L.base m5.at_
                rw [HH.out.2.2] at HB
                have HB2 := Lib.hid HB
                have HM5 := Lib.hid m5
                clear HB HC2 hb5 HM4 m5
                go_wp2_with fail
                refine Calls.mono HB2.out ?_
                rintro e w6 ⟨O6, rfl, h6, s6⟩
                have m6 := HM5.out.step h6 s6
                have HS := L.stamp m6.at_
                rw [HH.out.2.1] at HS
                have HS2 := Lib.hid HS
                have HM6 := Lib.hid m6
                clear HS HB2 h6 s6 HM5 m6
                go_wp2_with fail
                refine Calls.mono HS2.out ?_
                rintro e w7 ⟨O7, rfl, h7, s7⟩
                have b7 := Lib.hid (HM6.out.step h7 s7).below
                clear HS2 h7 s7 HM6
                go_wp2_with fail
                go_ret
                exact ⟨rfl, b7.out⟩
  · have h4 : x0 < 0 ∨ 0 ≤ x0 ∧ 50 < x0 ∨ (0 ≤ x0 ∧ x0 ≤ 50) ∧ x1 < 0 ∨ (0 ≤ x0 ∧ x0 ≤ 50) ∧ 0 ≤ x1 ∧ 50 < x1 := by omega
    rcases h4 with h | ⟨h0, h⟩ | ⟨⟨h0, h1⟩, h⟩ | ⟨⟨h0, h1⟩, h2, h⟩
    all_goals
      go_wp2_with fail
      go_ret
      exact ⟨rfl, b1⟩
end
end Go.Proofs.Ytddhacmaogaocaa
