/- The texts M12 M13 M14 M15 M16 M17. -/
import Derived.Test.YtdcegkeaopjbnaaMC
import Derived.Laws.OwnMore
import Derived.Deep.CutRange
import Derived.Test.YtdcegkeaopjbnaaNA
import Derived.Test.YtdcegkeaopjbnaaOC
set_option maxRecDepth 10000
namespace Go.Proofs.Ytdcegkeaopjbnaa

section
open Go.RowKit

theorem RdA.pre {w : World} {O : Nat → Prop} {A : Option Addr} {xs ys : List Value} (h : RdA w O A (xs ++ ys)) : RdA w O A xs :=
  ⟨fun hn => by
    obtain ⟨b, off, e, hl, hc⟩ := h.rd (by rw [List.length_append]; omega)
    exact ⟨b, off, e, hl, fun j v hv => hc j v (by rw [List.getElem?_append_left (List.getElem?_eq_some_iff.1 hv).1]; exact hv)⟩, fun b off e hn => h.apart b off e (by rw [List.length_append]; omega)⟩
theorem run_headP8 (g m : Nat) (hm : m ≤ 8) (w : World) :
    (Instr.sliceAt 84 (.pointer (some ⟨g, 0, none⟩)) none (some (.int .i64 (m : Int))) none).run Try.prog w = .ok (.slice (some ⟨g, 0, none⟩) m 8) w := by
  have e1 : Try.prog.arrayLen 84 = 8 := by simp [Program.arrayLen, Try.underlying84]
  have e2 : Try.prog.elem 84 = 25 := by simp [Program.elem, Try.underlying84]
  have e3 : (sizeOf 25).run Try.prog w = .ok 3 w := by
    have := infoP3
    cases hq : Try.prog.info? 25 with
    | none => rw [hq] at this; cases this
    | some i => rw [hq] at this; simp only [Option.map_some, Option.some.injEq] at this; simp [sizeOf, typeInfo, hq, this]
  rw [run_sliceAt_array_h w _ ⟨g, 0, none⟩ (by simp [Program.arrayLen, Program.elem, Try.underlying84]) .i64 (m : Int) (by omega) (by rw [e1]; omega), e2, e3]
  simp only [Result.andThen_ok, slicedAt, e1, Nat.zero_mul, Int.toNat_natCast, Nat.sub_zero]
  rw [if_neg (by omega), addr_flat, Nat.zero_add]
theorem node1_min (G : PtrV → Sec × Int) (want : Nat) (q : PtrV) : node1 G (min want 8) q = node1 G want q := by
  have h1 : look8 (nrP (G q).1) (min want 8) = look8 (nrP (G q).1) want := by
    unfold look8
    refine Bool.eq_iff_iff.2 ?_
    rw [List.all_eq_true, List.all_eq_true]
    refine forall_congr' fun j => forall_congr' fun hj => ?_
    have := List.mem_range.1 hj
    rw [show decide (min want 8 ≤ j) = decide (want ≤ j) from decide_eq_decide.2 (by omega)]
  have h2 : (nrP (G q).1).l.take (min want 8) = (nrP (G q).1).l.take want := by
    rcases Nat.le_total want 8 with h | h
    · rw [Nat.min_eq_left h]
    · rw [Nat.min_eq_right h, List.take_of_length_le (by rw [(nrP (G q).1).h]; omega), List.take_of_length_le (by rw [(nrP (G q).1).h]; omega)]
  unfold node1
  rw [h1, h2]
theorem look8_no {p : P8} {m k : Nat} (hk : k < 8) (h : (holeF (p.at_ k).1 (p.at_ k).2.1 (p.at_ k).2.2 == decide (m ≤ k)) = false) : look8 p m = false := by
  rw [Bool.eq_false_iff]
  intro h2
  have h3 : (holeF (p.at_ k).1 (p.at_ k).2.1 (p.at_ k).2.2 == decide (m ≤ k)) = true := List.all_eq_true.1 h2 k (List.mem_range.2 hk)
  rw [h] at h3
  cases h3
section
variable {w : World} {O : Nat → Prop} {g : Nat} {P : Pw}
def PtrsPost (w : World) (O : Nat → Prop) (g : Nat) (P : Pw) (r : List PtrV × Int) (e : Ending) (w' : World) : Prop :=
  ∃ O' A d, (e = .returned (.tuple #[.slice A r.1.length d, .int .i64 r.2]) ∧ r.1.length ≤ d) ∧ PileAt w' O' g P ∧ RdF w w' O' A (pqs r.1) ∧ Step w w' O O'
set_option maxHeartbeats 4000000 in
theorem ptrs_any (h : PileAt w O g P) (q : PtrV) (m : Nat) (hm : m ≤ 8) :
    Calls Try.prog 45 #[.pointer (some ⟨g, 0, none⟩), ptq q, .int .i64 (m : Int)] w (PtrsPost w O g P (node1 (getS P) m q)) := by
  obtain ⟨x, cd, hx⟩ : ∃ x cd, getS P q = (x, cd) := ⟨_, _, rfl⟩
  have hs0 := (Sta.first h).alloc (.cells (pcs q.1 q.2.1 q.2.2) 25)
  have hb0 := Bx.new (Sta.first h) 25 (pcs q.1 q.2.1 q.2.2)
  have HA := Lib.hid (And.intro hs0 hb0)
  have HG := Lib.hid (fun w' O' (h' : PileAt w' O' g P) => pileGet h' q)
  rw [hx] at HG
  have HN := Lib.hid (fun w => nnread_any x w)
  have hzs : ∀ w, Sem.run Try.prog (zeroValue 46) w = .ok (.agg zsec.cs.toArray) w := zeroSec
  have hz8 : ∀ w, Sem.run Try.prog (zeroValue 84) w = .ok (.agg zp8.cs.toArray) w := zeroP8
  have hz : ∀ w, Sem.run Try.prog (zeroValue 25) w = .ok (ptv 0 0 0) w := zeroPtr8
  by_cases hcd : cd = 0
  · subst hcd
    by_cases hnc : nrC x = 0
    · have hres : node1 (getS P) m q = if look8 (nrP x) m = true then ((nrP x).l.take m, 0) else ([], 91) := by
        unfold node1
        rw [hx]
        simp only [if_true]
        rw [if_pos hnc]
      generalize node1 (getS P) m q = r at *
      rw [hnc] at HN
      obtain ⟨p, hp⟩ : ∃ p, p = nrP x := ⟨_, rfl⟩
      rw [← hp] at HN
      rw [← hp] at hres
      have HRES := Lib.hid hres
      have hsl : ∀ g w, (Instr.sliceAt 84 (.pointer (some ⟨g, 0, none⟩)) none (some (.int .i64 (m : Int))) none).run Try.prog w = .ok (.slice (some ⟨g, 0, none⟩) m 8) w := fun g w => run_headP8 g m hm w
      have HM := Lib.hid hm
      clear h hs0 hb0 hx hnc hres hp hm
      go_enter Try.func45, Try.ntmps45
      go_upto_region 1 with (fail)
      generalize w.alloc (.cells (pcs q.1 q.2.1 q.2.2) 25) = W at *
      go_wp2_with (refine ld_ptr rfl (.tmp 4) rfl w.heap.size 25 q.1 q.2.1 q.2.2 rfl HA.out.2.blk ?_)
      refine Calls.mono (HG.out _ _ HA.out.1.at_) ?_
      rintro e w2 ⟨O2, rfl, hp2, hs2⟩
      have ha2 := HA.out.1.call hp2 hs2
      have HB := Lib.hid (And.intro (Bx.new ha2 46 zsec.cs.toArray) (ha2.alloc (.cells zsec.cs.toArray 46)))
      clear HG HA ha2 hp2 hs2
      go_wp2_with (first
        | (refine st_sec2 rfl (.tmp 8) (.tmp 17) rfl w2.heap.size _ x rfl rfl HB.out.1.blk ?_; intro w3 hB3 hc3)
        | (with_reducible refine ld_sec rfl (.tmp 8) rfl w2.heap.size 0 x rfl hB3.secIs ?_))
      refine Calls.mono (HN.out _) ?_
      rintro e w4 ⟨rfl, hb4⟩
      have ha4 := (HB.out.2.aside HB.out.1 hc3).far hb4
      have HC := Lib.hid (And.intro (Bx.new ha4 84 zp8.cs.toArray) (ha4.alloc (.cells zp8.cs.toArray 84)))
      clear HB HN hB3 hc3 hb4 ha4
      go_upto_region 7 with (refine st_p8c rfl (.tmp 10) (.tmp 25) rfl w4.heap.size _ _ p rfl rfl HC.out.1.blk ?_; intro w6 hB6 hc6)
      have ha6 := HC.out.2.aside HC.out.1 hc6
      go_wp2_with (with_reducible refine ld_p8 rfl (.tmp 10) rfl w4.heap.size 0 p rfl hB6.p8Is ?_)
      have HD := Lib.hid (And.intro ha6 (HC.out.1.put hB6))
      clear HC ha6 hB6 hc6
      generalize w4.heap.size = b10 at *
      go_loopw [30] (fun i wr => ∃ (k : Nat), k ≤ 8 ∧ i = .int .i64 (k : Int) ∧ Sta w O wr O2 g P ∧ Bx w wr O2 b10 84 p.cs.toArray ∧ ∀ j, j < k → (holeF (p.at_ j).1 (p.at_ j).2.1 (p.at_ j).2.2 == decide (m ≤ j)) = true) (fun i _ => 8 - (intOf i).toNat)
      case atStart => exact ⟨0, by omega, rfl, HD.out.1, HD.out.2, fun j hj => by omega⟩
      case round =>
        clear HD
        obtain ⟨k, hk, rfl, hsta, hbx, hsame⟩ := hrel
        by_cases hlt : k < 8
        · have hki : (k : Int) < 8 := by omega
          have HI := Lib.hid (fun (o : Oper) (a : Act) (w : World) (ho : o.op = .index 84 (.tmp 29) (.tmp 30)) => ex_ixP8 (o := o) (a := a) (w := w) (.tmp 29) (.tmp 30) ho p k hlt)
          have HSM := Lib.hid hsame
          have HNO := Lib.hid (fun h => look8_no (p := p) (m := m) hlt h)
          have HQ : Hid (p.at_ k = p.at_ k) := Lib.hid rfl
          obtain ⟨⟨q1, q2, q3⟩, hq⟩ : ∃ q, p.at_ k = q := ⟨_, rfl⟩
          have HQ2 := Lib.hid hq
          rw [hq] at HNO HI
          have HH := Lib.hid (fun w => bhole_any q1 q2 q3 w)
          obtain ⟨bv, hbv⟩ : ∃ bv, holeF q1 q2 q3 = bv := ⟨_, rfl⟩
          have HBV := Lib.hid hbv
          rw [hbv] at HH
          have HS := Lib.hid (And.intro hsta hbx)
          have hnew := Bx.new hsta 25 (pcs 0 0 0)
          have HW := Lib.hid (And.intro (hsta.alloc (.cells (pcs 0 0 0) 25)) (And.intro (hbx.alloc (.cells (pcs 0 0 0) 25)) (And.intro hnew hbx.lt)))
          have HLT := Lib.hid hlt
          clear hsta hbx hsame hq hbv hnew hlt HQ HS
          by_cases hmk : m ≤ k
          · have hmi : (m : Int) ≤ (k : Int) := by omega
            have HMK := Lib.hid hmk
            clear hmk
            rcases bv with _ | _
            · go_wp2_with (first
                | (refine wpList_val (by rfl) _ (HI.out _ _ _ rfl rfl rfl) ?_)
                | (refine st_pt2 rfl (.tmp 12) (.tmp 33) rfl wr.heap.size _ q1 q2 q3 rfl rfl HW.out.2.2.1.blk rfl ?_; intro w7 hB7 hk7)
                | (refine ld_ptr rfl (.tmp 12) rfl wr.heap.size 25 q1 q2 q3 rfl hB7 ?_)
                | (go_at_call 29; (with_reducible refine Calls.mono (HH.out _) ?_); rintro e w8 ⟨rfl, hb8⟩; have HX := Lib.hid (And.intro ((HW.out.1.aside HW.out.2.2.1 (hk7 _ rfl)).far hb8) ((HW.out.2.1.aside (hk7 _ rfl) (by have := HW.out.2.2.2; omega)).later hb8)); clear hb8))
              go_ret2
              have hno := HNO.out (by show (holeF q1 q2 q3 == decide (m ≤ k)) = false; rw [HBV.out]; have := HMK.out; simp [this])
              have hrr := HRES.out
              rw [hno] at hrr
              rw [hrr]
              exact ⟨O2, none, 0, ⟨rfl, Nat.le_refl _⟩, HX.out.1.at_, rdF_none _ _ _, HX.out.1.st⟩
            · go_wp2_with (first
                | (refine wpList_val (by rfl) _ (HI.out _ _ _ rfl rfl rfl) ?_)
                | (refine st_pt2 rfl (.tmp 12) (.tmp 33) rfl wr.heap.size _ q1 q2 q3 rfl rfl HW.out.2.2.1.blk rfl ?_; intro w7 hB7 hk7)
                | (refine ld_ptr rfl (.tmp 12) rfl wr.heap.size 25 q1 q2 q3 rfl hB7 ?_)
                | (go_at_call 29; (with_reducible refine Calls.mono (HH.out _) ?_); rintro e w8 ⟨rfl, hb8⟩; have HX := Lib.hid (And.intro ((HW.out.1.aside HW.out.2.2.1 (hk7 _ rfl)).far hb8) ((HW.out.2.1.aside (hk7 _ rfl) (by have := HW.out.2.2.2; omega)).later hb8)); clear hb8))
              go_roundw
              case rel => exact ⟨k + 1, by have := HLT.out; omega, by go_num, HX.out.1, HX.out.2, fun j hj => by
                by_cases hjk : j = k
                · subst hjk
                  rw [HQ2.out]
                  simp only
                  rw [HBV.out]
                  have := HMK.out
                  simp [this]
                · exact HSM.out j (by omega)⟩
              case measure => have := HLT.out; simp [intOf]; omega
          · have hmi : ¬ (m : Int) ≤ (k : Int) := by omega
            have HMK := Lib.hid hmk
            have hd1 : decide (m ≤ k) = false := decide_eq_false hmk
            have hd2 : decide ((m : Int) ≤ (k : Int)) = false := decide_eq_false hmi
            rcases bv with _ | _
            · go_wp2_with (first
                | (refine wpList_val (by rfl) _ (HI.out _ _ _ rfl rfl rfl) ?_)
                | (refine st_pt2 rfl (.tmp 12) (.tmp 33) rfl wr.heap.size _ q1 q2 q3 rfl rfl HW.out.2.2.1.blk rfl ?_; intro w7 hB7 hk7)
                | (refine ld_ptr rfl (.tmp 12) rfl wr.heap.size 25 q1 q2 q3 rfl hB7 ?_)
                | (go_at_call 29; (with_reducible refine Calls.mono (HH.out _) ?_); rintro e w8 ⟨rfl, hb8⟩; have HX := Lib.hid (And.intro ((HW.out.1.aside HW.out.2.2.1 (hk7 _ rfl)).far hb8) ((HW.out.2.1.aside (hk7 _ rfl) (by have := HW.out.2.2.2; omega)).later hb8)); clear hb8))
              go_roundw
              case rel => exact ⟨k + 1, by have := HLT.out; omega, by go_num, HX.out.1, HX.out.2, fun j hj => by
                by_cases hjk : j = k
                · subst hjk
                  rw [HQ2.out]
                  simp only
                  rw [HBV.out]
                  have := HMK.out
                  simp [this]
                · exact HSM.out j (by omega)⟩
              case measure => have := HLT.out; simp [intOf]; omega
            · go_wp2_with (first
                | (refine wpList_val (by rfl) _ (HI.out _ _ _ rfl rfl rfl) ?_)
                | (refine st_pt2 rfl (.tmp 12) (.tmp 33) rfl wr.heap.size _ q1 q2 q3 rfl rfl HW.out.2.2.1.blk rfl ?_; intro w7 hB7 hk7)
                | (refine ld_ptr rfl (.tmp 12) rfl wr.heap.size 25 q1 q2 q3 rfl hB7 ?_)
                | (go_at_call 29; (with_reducible refine Calls.mono (HH.out _) ?_); rintro e w8 ⟨rfl, hb8⟩; have HX := Lib.hid (And.intro ((HW.out.1.aside HW.out.2.2.1 (hk7 _ rfl)).far hb8) ((HW.out.2.1.aside (hk7 _ rfl) (by have := HW.out.2.2.2; omega)).later hb8)); clear hb8))
              go_ret2
              have hno := HNO.out (by show (holeF q1 q2 q3 == decide (m ≤ k)) = false; rw [HBV.out]; have := HMK.out; simp [this])
              have hrr := HRES.out
              rw [hno] at hrr
              rw [hrr]
              exact ⟨O2, none, 0, ⟨rfl, Nat.le_refl _⟩, HX.out.1.at_, rdF_none _ _ _, HX.out.1.st⟩
        · obtain rfl : k = 8 := by omega
          have hlook : look8 p m = true := List.all_eq_true.2 fun j hj => hsame j (List.mem_range.1 hj)
          have hrr := HRES.out
          rw [if_pos hlook] at hrr
          subst hrr
          have HS := Lib.hid (And.intro hsta hbx)
          clear hsta hbx hsame hlook hlt
          go_wp2_with fail
          go_ret2
          have hln : (p.l.take m).length = m := by rw [List.length_take, p.h]; have := HM.out; omega
          have hrd := HS.out.2.rd
          rw [show p.cs = pqs (p.l.take m) ++ pqs (p.l.drop m) by rw [← pqs_app, List.take_append_drop]; rfl] at hrd
          refine ⟨O2, some ⟨b10, 0, none⟩, 8, ⟨by rw [hln]; rfl, by rw [hln]; exact HM.out⟩, HS.out.1.at_, ⟨hrd.pre, fun b off e _ => ?_⟩, HS.out.1.st⟩
          simp only [Option.some.injEq, Addr.mk.injEq] at e
          rw [← e.1]
          exact HS.out.2.lo
    · have hres : node1 (getS P) m q = ([], 91) := by
        unfold node1
        rw [hx]
        simp only [if_true]
        rw [if_neg hnc]
      rw [hres]
      have hne : (nrC x == 0) = false := by rw [beq_eq_false_iff_ne]; exact hnc
      generalize nrC x = nc at *
      obtain ⟨p, hp⟩ : ∃ p, p = nrP x := ⟨_, rfl⟩
      rw [← hp] at HN
      have HM := Lib.hid hm
      clear h hs0 hb0 hx hnc hres hp hm
      go_enter Try.func45, Try.ntmps45
      go_upto_region 1 with (fail)
      generalize w.alloc (.cells (pcs q.1 q.2.1 q.2.2) 25) = W at *
      go_wp2_with (refine ld_ptr rfl (.tmp 4) rfl w.heap.size 25 q.1 q.2.1 q.2.2 rfl HA.out.2.blk ?_)
      refine Calls.mono (HG.out _ _ HA.out.1.at_) ?_
      rintro e w2 ⟨O2, rfl, hp2, hs2⟩
      have ha2 := HA.out.1.call hp2 hs2
      have HB := Lib.hid (And.intro (Bx.new ha2 46 zsec.cs.toArray) (ha2.alloc (.cells zsec.cs.toArray 46)))
      clear HG HA ha2 hp2 hs2
      go_wp2_with (first
        | (refine st_sec2 rfl (.tmp 8) (.tmp 17) rfl w2.heap.size _ x rfl rfl HB.out.1.blk ?_; intro w3 hB3 hc3)
        | (with_reducible refine ld_sec rfl (.tmp 8) rfl w2.heap.size 0 x rfl hB3.secIs ?_))
      refine Calls.mono (HN.out _) ?_
      rintro e w4 ⟨rfl, hb4⟩
      have ha4 := (HB.out.2.aside HB.out.1 hc3).far hb4
      have HC := Lib.hid (And.intro (Bx.new ha4 84 zp8.cs.toArray) (ha4.alloc (.cells zp8.cs.toArray 84)))
      clear HB HN hB3 hc3 hb4 ha4
      go_wp2_with (refine st_p8c rfl (.tmp 10) (.tmp 25) rfl w4.heap.size _ _ p rfl rfl HC.out.1.blk ?_; intro w6 hB6 hc6)
      have ha6 := HC.out.2.aside HC.out.1 hc6
      go_ret2
      exact ⟨O2, none, 0, ⟨rfl, Nat.le_refl _⟩, ha6.at_, rdF_none _ _ _, ha6.st⟩
  · have hres : node1 (getS P) m q = ([], cd) := by
      unfold node1
      rw [hx]
      simp only
      rw [if_neg hcd]
    rw [hres]
    have hne : (cd == 0) = false := by rw [beq_eq_false_iff_ne]; exact hcd
    have HM := Lib.hid hm
    clear h hs0 hb0 hx hcd hres hm
    go_enter Try.func45, Try.ntmps45
    go_upto_region 1 with (fail)
    generalize w.alloc (.cells (pcs q.1 q.2.1 q.2.2) 25) = W at *
    go_wp2_with (refine ld_ptr rfl (.tmp 4) rfl w.heap.size 25 q.1 q.2.1 q.2.2 rfl HA.out.2.blk ?_)
    refine Calls.mono (HG.out _ _ HA.out.1.at_) ?_
    rintro e w2 ⟨O2, rfl, hp2, hs2⟩
    have ha2 := HA.out.1.call hp2 hs2
    have HB := Lib.hid (And.intro (Bx.new ha2 46 zsec.cs.toArray) (ha2.alloc (.cells zsec.cs.toArray 46)))
    clear HG HA ha2 hp2 hs2
    go_wp2_with (refine st_sec2 rfl (.tmp 8) (.tmp 17) rfl w2.heap.size _ x rfl rfl HB.out.1.blk ?_; intro w3 hB3 hc3)
    have ha3 := HB.out.2.aside HB.out.1 hc3
    go_ret2
    exact ⟨O2, none, 0, ⟨rfl, Nat.le_refl _⟩, ha3.at_, rdF_none _ _ _, ha3.st⟩
end
end
section
open Go.RowKit

theorem run_append_zero {P : Program} {w : World} (base : Nat) (t ty e : TypeId) (i : TypeInfo) (size : Nat) (ht : P.underlying t = some (.slice e)) (hi : P.info? e = some i)
    (v : Value) (n : Nat) (xs : List Value) (hown : w.ownsRow base e size v n xs) (A : Option Addr) (c : Nat) :
    (Builtin.append_ #[t, t] ty #[v, .slice A 0 c]).run P w = .ok v w := by
  have hl : ∀ (x : Addr), (loadCells x 0).run P w = .ok #[] w := fun x => by simpa using run_loadCells_list (P := P) w x [] (by simp)
  rcases hown.2 with ⟨rfl, rfl⟩ | ⟨g, cap, cur, rfl, _, _, hnc, _⟩
  · cases A <;> simp [Builtin.append_, run_underlying ht, sizeOf, typeInfo, hi, Builtin.lenOf, Builtin.firstCells, hl]
  · cases A <;> simp [Builtin.append_, run_underlying ht, sizeOf, typeInfo, hi, Builtin.lenOf, Builtin.firstCells, hnc, storeCells, hl]
/-- append of a row of pointers. -/
theorem app_ptrs {ops : Array Oper} {rest : List Oper} {o : Oper} {a : Act} {w : World} {Q : Exit → Act → World → Prop} (hgd : o.guard = none) (s x : Nat)
    (ho : o.op = .call { callee := .builtin .append, args := #[.tmp s, .tmp x], argTypes := #[40, 40] })
    (base : Nat) (v : Value) (l : List PtrV) (hs : a.eval (.tmp s) = v) (hown : OwnQ w base v l) (A : Option Addr) (c : Nat) (m : List PtrV)
    (hx : a.eval (.tmp x) = .slice A m.length c) (hr : Rd w w.heap.size A (pqs m)) (hbase : base ≤ w.heap.size) (hn : l.length + m.length ≤ 1048576)
    (h : ∀ v' w', OwnQ w' base v' (l ++ m) → w.grownBy w' v.ownBlock → (∀ k, v'.ownBlock = some k → v.ownBlock = some k ∨ w.heap.size ≤ k) → wpList Try.prog ops Q rest (a.put o.dst v') w') :
    wpList Try.prog ops Q (o :: rest) a w := by
  obtain ⟨i0, hi0, hz0, hz2, hz3⟩ := info_parts infoPtr
  rcases m with _ | ⟨q, m⟩
  · have hrun := run_append_zero (P := Try.prog) (w := w) base 40 o.type 25 i0 3 Try.underlying40 hi0 v l.length (pqs l) hown A c
    refine wpList_plain hgd fun _ hK => ?_
    have hx2 : a.eval (.tmp x) = .slice A 0 c := hx
    unfold Oper.wp execOp
    simp only [ho, resolve, invoke, builtin, Sem.run_bind, Sem.run_pure, Result.andThen_ok, List.map_toArray, List.map_cons, List.map_nil, hs, hx2, hrun]
    exact hK _ _ (h v w (by rw [List.append_nil]; exact hown) ⟨rfl, rfl, rfl, Nat.le_refl _, fun _ _ _ => rfl⟩ fun k hk => .inl hk)
  · obtain ⟨b, off, rfl, hb, hc⟩ := hr (by rw [pqs_len, List.length_cons]; omega)
    refine wpList_append_lies _ hgd (.tmp s) (.tmp x) _ ho base 25 i0 _ 3 24 Try.underlying40 hi0 hz0 hz2 hz3 rfl (by omega) v l.length (pqs l) hs hown
      ⟨b, off, none⟩ (q :: m).length c (pqs (q :: m)) hx (pqs_len _) (fun j u hu => by rw [addr_flat]; exact hc j u hu) pqs_one (by rw [List.length_cons]; omega) (by simp only [maxLen]; omega) (by omega) hbase w.heap.size rfl ?_
    intro g cap w' h1 h2 h3 _
    refine h _ w' ?_ h2 ?_
    · show w'.ownsRow base 25 3 _ (l ++ q :: m).length (pqs (l ++ q :: m))
      rw [pqs_app, List.length_append]
      exact h1
    · intro k hk
      rcases h3 with h3 | h3
      · left; rw [h3, ← hk]; rfl
      · right
        have : g = k := by simpa [Value.ownBlock] using hk
        omega
theorem pq_cells {w : World} {A : Option Addr} {B : Nat} {l : List PtrV} (h : Rd w B A (pqs l)) (j : Nat) (hj : j < l.length) :
    ∃ b off, A = some ⟨b, off, none⟩ ∧ b < B ∧ w.cell? ⟨b, off + j * 3, none⟩ = some (.int .i64 l[j].1) ∧ w.cell? ⟨b, off + j * 3 + 1, none⟩ = some (.int .u64 l[j].2.1) ∧ w.cell? ⟨b, off + j * 3 + 2, none⟩ = some (.int .u32 l[j].2.2) := by
  obtain ⟨b, off, rfl, hb, hc⟩ := h (by rw [pqs_len]; omega)
  obtain ⟨h0, h1, h2⟩ := pqs_at l j hj
  refine ⟨b, off, rfl, hb, hc _ _ h0, ?_, ?_⟩
  · rw [Nat.add_assoc]; exact hc _ _ h1
  · rw [Nat.add_assoc]; exact hc _ _ h2
theorem node1_len (G : PtrV → Sec × Int) (d : Nat) (q : PtrV) : (node1 G d q).1.length ≤ d := by
  unfold node1
  split
  · split
    · split
      · simp only [List.length_take]; omega
      · simp
    · simp
  · simp
section
variable {w : World} {O : Nat → Prop} {g : Nat} {P : Pw}
theorem ptrs_min {w' : World} {O' : Nat → Prop} (h' : PileAt w' O' g P) (q : PtrV) (d : Nat) :
    Calls Try.prog 45 #[.pointer (some ⟨g, 0, none⟩), ptq q, .int .i64 ((min d 8 : Nat) : Int)] w' (PtrsPost w' O' g P (node1 (getS P) d q)) := by
  rw [← node1_min]
  exact ptrs_any h' q (min d 8) (Nat.min_le_right _ _)
set_option maxHeartbeats 1500000 in
theorem below_any (h : PileAt w O g P) (A : Option Addr) (c : Nat) (l : List PtrV) (k : Nat) (hk : k ≤ 600) (hl : l.length ≤ 600) (hr : RdA w O A (pqs l)) :
    Calls Try.prog 30 #[.pointer (some ⟨g, 0, none⟩), .slice A l.length c, .int .i64 (k : Int)] w (PtrsPost w O g P (expandF (getS P) k l [])) := by
  have HA := Lib.hid (Sta.first h)
  have HR := Lib.hid hr
  have HK := Lib.hid (And.intro hk hl)
  have hz : ∀ w, Sem.run Try.prog (zeroValue 25) w = .ok (ptv 0 0 0) w := zeroPtr8
  obtain ⟨r, hr0⟩ : ∃ r, r = expandF (getS P) k l [] := ⟨_, rfl⟩
  rw [← hr0]
  have HR0 := Lib.hid hr0
  have hl600 : (l.length : Int) ≤ 600 := by omega
  have hk600 : (k : Int) ≤ 600 := by omega
  clear h hr hk hl hr0
  go_enter Try.func30, Try.ntmps30
  go_wp2_with fail
  go_loopw [8, 15] (fun v8 i wr => ∃ (j : Nat) (acc : List PtrV) (O1 : Nat → Prop) (Av : Option Addr) (cv : Nat), j ≤ l.length ∧ i = .int .i64 (j : Int) ∧ v8 = .slice Av acc.length cv ∧ r = expandF (getS P) k (l.drop j) acc ∧ acc.length ≤ k ∧ Sta w O wr O1 g P ∧ Rw wr O1 w.heap.size 25 3 (.slice Av acc.length cv) acc.length (pqs acc)) (fun _ i _ => l.length - (intOf i).toNat)
  case atStart => exact ⟨0, [], O, none, 0, Nat.zero_le _, rfl, rfl, HR0.out, Nat.zero_le _, HA.out, World.ownsRow_nil _ _ _ _, fun b hb => by simp [Value.ownBlock] at hb⟩
  case round =>
    clear HA HR0
    obtain ⟨j, acc, O1, Av, cv, hj, rfl, rfl, hrj, hacc, hsta, hrow⟩ := hrel
    by_cases hlt : j < l.length
    · have hji : (j : Int) < (l.length : Int) := by omega
      obtain ⟨b, off, rfl, hb, c0, c1, c2⟩ := pq_cells (HR.out.step hsta.st).rd j hlt
      rw [List.drop_eq_getElem_cons hlt] at hrj
      unfold expandF at hrj
      obtain ⟨d, hd⟩ : ∃ d, d = k - acc.length := ⟨_, rfl⟩
      rw [← hd] at hrj
      have HP := Lib.hid (fun w' O' (h' : PileAt w' O' g P) => ptrs_min h' l[j] d)
      have hlen := node1_len (getS P) d l[j]
      generalize node1 (getS P) d l[j] = nd at *
      generalize l[j] = q at *
      obtain ⟨q1, q2, q3⟩ := q
      simp only at c0 c1 c2
      have hdi : (k : Int) - (acc.length : Int) = (d : Int) := by omega
      have hd0 : (0 : Int) ≤ (d : Int) := by omega
      have hd600 : (d : Int) ≤ 600 := by omega
      have hs2 := hsta.alloc (.cells #[.int .i64 q1, .int .u64 q2, .int .u32 q3] 25)
      have hB3 : Blk (wr.alloc (.cells #[.int .i64 q1, .int .u64 q2, .int .u32 q3] 25)) wr.heap.size 25 (pcs q1 q2 q3) := (Bx.new hsta 25 (pcs q1 q2 q3)).blk
      have hr2 := hrow.later (w' := wr.alloc (.cells #[.int .i64 q1, .int .u64 q2, .int .u32 q3] 25)) ((Below.refl _ _).alloc (Nat.le_refl _) _)
      have HX := Lib.hid (And.intro hs2 hr2)
      have HJ := Lib.hid (And.intro hlt (And.intro hacc (And.intro hd hlen)))
      obtain ⟨part, code⟩ := nd
      simp only at hrj
      have HRJ := Lib.hid hrj
      clear hsta hrow hs2 hr2 hlt hacc hlen hrj hd
      by_cases hcode : code = 0
      · subst hcode
        rcases Nat.lt_or_ge 8 d with hd8 | hd8
        · have hm : min d 8 = 8 := by omega
          rw [hm, show ((8 : Nat) : Int) = 8 from rfl] at HP
          have hdl : (8 : Int) < (d : Int) := by omega
          have hdl2 : 8 < d := by omega
          clear hm hd8
          go_wp2_with (first
            | (refine ld_ptr rfl (.tmp 10) rfl wr.heap.size 25 q1 q2 q3 rfl hB3 ?_)
            | (go_at_call 45; refine Calls.mono (HP.out _ _ HX.out.1.at_) ?_; rintro e w4 ⟨O4, A4, d4, ⟨rfl, hd4⟩, hp4, hf4, hs4⟩; have HY := Lib.hid (And.intro (HX.out.1.call hp4 hs4) (And.intro (HX.out.2.step hs4) hf4)); clear HX HP hp4 hf4 hs4)
            | (at_builtin; refine app_ptrs rfl 33 34 rfl w.heap.size (.slice Av acc.length cv) acc rfl (show OwnQ w4 w.heap.size (.slice Av acc.length cv) acc from HY.out.2.1.own) A4 d4 part rfl HY.out.2.2.rd HY.out.1.size (by have h8 := HJ.out; have h9 := HK.out; (try simp only at h8); omega) ?_; intro v5 w5 hown hgr hnw))
          go_roundw
          case rel =>
            obtain ⟨Af, df, rfl, _, _⟩ := own_rd hown
            have c5 : Chg w4 w5 (fun k => (Value.slice Av acc.length cv).ownBlock = some k) := (Chg.refl w4 _).grown hgr fun k hk => .inl hk
            refine ⟨j + 1, acc ++ part, O4, Af, df, HJ.out.1, by go_num, rfl, by rw [HRJ.out]; simp, by rw [List.length_append]; have h8 := HJ.out; (try simp only at h8); omega, ⟨HY.out.1.at_.stay c5 fun k hk e => HY.out.2.1.far k e hk, ⟨HY.out.1.st.chg.trans c5 fun k hk e => ?_, HY.out.1.st.new⟩⟩, HY.out.2.1.app HY.out.1.at_.foot hown hnw⟩
            have := (rw_lt HY.out.2.1.own k e).1
            omega
          case measure => have := HJ.out; simp [intOf]; omega
        · have hm : min d 8 = d := by omega
          rw [hm] at HP
          have hdl : ¬ (8 : Int) < (d : Int) := by omega
          have hdl2 : ¬ 8 < d := by omega
          clear hm hd8
          go_wp2_with (first
            | (refine ld_ptr rfl (.tmp 10) rfl wr.heap.size 25 q1 q2 q3 rfl hB3 ?_)
            | (go_at_call 45; refine Calls.mono (HP.out _ _ HX.out.1.at_) ?_; rintro e w4 ⟨O4, A4, d4, ⟨rfl, hd4⟩, hp4, hf4, hs4⟩; have HY := Lib.hid (And.intro (HX.out.1.call hp4 hs4) (And.intro (HX.out.2.step hs4) hf4)); clear HX HP hp4 hf4 hs4)
            | (at_builtin; refine app_ptrs rfl 33 34 rfl w.heap.size (.slice Av acc.length cv) acc rfl (show OwnQ w4 w.heap.size (.slice Av acc.length cv) acc from HY.out.2.1.own) A4 d4 part rfl HY.out.2.2.rd HY.out.1.size (by have h8 := HJ.out; have h9 := HK.out; (try simp only at h8); omega) ?_; intro v5 w5 hown hgr hnw))
          go_roundw
          case rel =>
            obtain ⟨Af, df, rfl, _, _⟩ := own_rd hown
            have c5 : Chg w4 w5 (fun k => (Value.slice Av acc.length cv).ownBlock = some k) := (Chg.refl w4 _).grown hgr fun k hk => .inl hk
            refine ⟨j + 1, acc ++ part, O4, Af, df, HJ.out.1, by go_num, rfl, by rw [HRJ.out]; simp, by rw [List.length_append]; have h8 := HJ.out; (try simp only at h8); omega, ⟨HY.out.1.at_.stay c5 fun k hk e => HY.out.2.1.far k e hk, ⟨HY.out.1.st.chg.trans c5 fun k hk e => ?_, HY.out.1.st.new⟩⟩, HY.out.2.1.app HY.out.1.at_.foot hown hnw⟩
            have := (rw_lt HY.out.2.1.own k e).1
            omega
          case measure => have := HJ.out; simp [intOf]; omega
      · have hne : (code == 0) = false := by rw [beq_eq_false_iff_ne]; exact hcode
        have HC0 := Lib.hid hcode
        clear hcode
        rcases Nat.lt_or_ge 8 d with hd8 | hd8
        · have hm : min d 8 = 8 := by omega
          rw [hm, show ((8 : Nat) : Int) = 8 from rfl] at HP
          have hdl : (8 : Int) < (d : Int) := by omega
          have hdl2 : 8 < d := by omega
          clear hm hd8
          go_wp2_with (first
            | (refine ld_ptr rfl (.tmp 10) rfl wr.heap.size 25 q1 q2 q3 rfl hB3 ?_)
            | (go_at_call 45; refine Calls.mono (HP.out _ _ HX.out.1.at_) ?_; rintro e w4 ⟨O4, A4, d4, ⟨rfl, hd4⟩, hp4, hf4, hs4⟩; have HY := Lib.hid (And.intro (HX.out.1.call hp4 hs4) (And.intro (HX.out.2.step hs4) hf4)); clear HX HP hp4 hf4 hs4))
          go_ret2
          have hrr := HRJ.out
          rw [if_neg HC0.out] at hrr
          subst hrr
          exact ⟨O4, none, 0, ⟨rfl, Nat.le_refl _⟩, HY.out.1.at_, rdF_none _ _ _, HY.out.1.st⟩
        · have hm : min d 8 = d := by omega
          rw [hm] at HP
          have hdl : ¬ (8 : Int) < (d : Int) := by omega
          have hdl2 : ¬ 8 < d := by omega
          clear hm hd8
          go_wp2_with (first
            | (refine ld_ptr rfl (.tmp 10) rfl wr.heap.size 25 q1 q2 q3 rfl hB3 ?_)
            | (go_at_call 45; refine Calls.mono (HP.out _ _ HX.out.1.at_) ?_; rintro e w4 ⟨O4, A4, d4, ⟨rfl, hd4⟩, hp4, hf4, hs4⟩; have HY := Lib.hid (And.intro (HX.out.1.call hp4 hs4) (And.intro (HX.out.2.step hs4) hf4)); clear HX HP hp4 hf4 hs4))
          go_ret2
          have hrr := HRJ.out
          rw [if_neg HC0.out] at hrr
          subst hrr
          exact ⟨O4, none, 0, ⟨rfl, Nat.le_refl _⟩, HY.out.1.at_, rdF_none _ _ _, HY.out.1.st⟩
    · obtain rfl : j = l.length := by omega
      rw [List.drop_of_length_le (Nat.le_refl _)] at hrj
      have hrj2 : r = (acc, 0) := hrj
      obtain ⟨_, _, he, _, hcv⟩ := own_rd hrow.own
      simp only [Value.slice.injEq] at he
      obtain ⟨Af, df, he2, hrf⟩ := hrow.out (w0 := w) (Nat.le_refl _) (by rw [pqs_len]; omega)
      simp only [Value.slice.injEq] at he2
      have HE := Lib.hid (And.intro hrf (And.intro hsta (And.intro he2 (show acc.length ≤ cv by rw [he.2.2]; exact hcv))))
      clear hrf hsta hrow hcv hlt hrj he he2
      subst hrj2
      go_wp2_with fail
      go_ret2
      have he2 := HE.out.2.2.1
      exact ⟨O1, Av, cv, ⟨rfl, HE.out.2.2.2⟩, HE.out.2.1.at_, by rw [he2.1]; exact HE.out.1, HE.out.2.1.st⟩
end
end
section
open Go.RowKit

/-- What text answers. -/
def finT (n : Nat) (y : List UInt8 × Int) : List UInt8 × Int :=
  if y.2 = 0 then if (y.1.drop n).all (· == 0) = true then (y.1.take n, 0) else ([], 91) else ([], y.2)
theorem app_sec {ops : Array Oper} {rest : List Oper} {o : Oper} {a : Act} {w : World} {Q : Exit → Act → World → Prop} (hgd : o.guard = none) (s x : Nat)
    (ho : o.op = .call { callee := .builtin .append, args := #[.tmp s, .tmp x], argTypes := #[34, 34] })
    (base : Nat) (v : Value) (t : List UInt8) (hs : a.eval (.tmp s) = v) (hown : OwnB w base v t) (gs : Nat) (ty : TypeId) (y : Sec)
    (hx : a.eval (.tmp x) = .slice (some ⟨gs, 0, none⟩) 128 128) (hB : Blk w gs ty y.cs.toArray) (hbase : base ≤ w.heap.size) (hn : t.length ≤ 1048576)
    (h : ∀ v' w', OwnB w' base v' (t ++ y.l) → w.grownBy w' v.ownBlock → (∀ k, v'.ownBlock = some k → v.ownBlock = some k ∨ w.heap.size ≤ k) → wpList Try.prog ops Q rest (a.put o.dst v') w') :
    wpList Try.prog ops Q (o :: rest) a w := by
  obtain ⟨i0, hi0, hz0, hz2, hz3⟩ := info_parts infoByte
  refine wpList_append_lies _ hgd (.tmp s) (.tmp x) _ ho base 5 i0 _ 1 1 Try.underlying34 hi0 hz0 hz2 hz3 rfl (by omega) v t.length (bys t) hs hown
    ⟨gs, 0, none⟩ 128 128 (bys y.l) hx (by rw [bys_len, y.h]) (fun j u hu => by rw [addr_flat, Nat.zero_add, hB.cell j, List.getElem?_toArray]; exact hu) bys_one (by omega) (by simp only [maxLen]; omega) (by omega) hbase w.heap.size rfl ?_
  intro g cap w' h1 h2 h3 _
  refine h _ w' ?_ h2 ?_
  · show w'.ownsRow base 5 1 _ (t ++ y.l).length (bys (t ++ y.l))
    rw [show bys (t ++ y.l) = bys t ++ bys y.l by simp [bys], List.length_append, y.h]
    exact h1
  · intro k hk
    rcases h3 with h3 | h3
    · left; rw [h3, ← hk]; rfl
    · right
      have : g = k := by simpa [Value.ownBlock] using hk
      omega
theorem cutB_from (gb len cap n : Nat) (hn : n ≤ len) (_hc : len ≤ cap) (w : World) :
    (Instr.sliceAt 34 (.slice (some ⟨gb, 0, none⟩) len cap) (some (.int .i64 (n : Int))) none none).run Try.prog w = .ok (.slice (if cap = n then (some ⟨gb, 0, none⟩ : Option Addr) else some ⟨gb, n, none⟩) (len - n) (cap - n)) w := by
  have he : Try.prog.underlying 34 = some (.slice (Try.prog.elem 34)) := by simp [Program.elem, Try.underlying34]
  have e2 : Try.prog.elem 34 = 5 := by simp [Program.elem, Try.underlying34]
  have e3 : (sizeOf 5).run Try.prog w = .ok 1 w := by
    have := infoB1
    cases hq : Try.prog.info? 5 with
    | none => rw [hq] at this; cases this
    | some i => rw [hq] at this; simp only [Option.map_some, Option.some.injEq] at this; simp [sizeOf, typeInfo, hq, this]
  rw [run_sliceAt_slice _ _ _ _ _ _ he, run_slice_l _ _ _ _ _ he .i64 (n : Int) (by omega) (by omega), e2, e3]
  simp only [Result.andThen_ok, sliced, Int.toNat_natCast, Nat.mul_one, Option.map_some, addr_flat, Nat.zero_add]
theorem cutB_to (gb len cap n : Nat) (hn : n ≤ cap) (w : World) :
    (Instr.sliceAt 34 (.slice (some ⟨gb, 0, none⟩) len cap) none (some (.int .i64 (n : Int))) (some (.int .i64 (n : Int)))).run Try.prog w = .ok (.slice (some ⟨gb, 0, none⟩) n n) w := by
  have he : Try.prog.underlying 34 = some (.slice (Try.prog.elem 34)) := by simp [Program.elem, Try.underlying34]
  have e2 : Try.prog.elem 34 = 5 := by simp [Program.elem, Try.underlying34]
  have e3 : (sizeOf 5).run Try.prog w = .ok 1 w := by
    have := infoB1
    cases hq : Try.prog.info? 5 with
    | none => rw [hq] at this; cases this
    | some i => rw [hq] at this; simp only [Option.map_some, Option.some.injEq] at this; simp [sizeOf, typeInfo, hq, this]
  rw [run_sliceAt_slice _ _ _ _ _ _ he, run_slice_hm _ _ _ _ _ he .i64 .i64 (n : Int) (n : Int) (by omega) (by omega) (by omega), e2, e3]
  simp [Result.andThen_ok, sliced, addr_flat]
section
variable {w : World} {O : Nat → Prop} {g : Nat} {P : Pw}
def TextPost (w : World) (O : Nat → Prop) (g : Nat) (P : Pw) (r : List UInt8 × Int) (e : Ending) (w' : World) : Prop :=
  ∃ O' A d, e = .returned (.tuple #[.slice A r.1.length d, .int .i64 r.2]) ∧ PileAt w' O' g P ∧ RdF w w' O' A (bys r.1) ∧ Step w w' O O'
set_option maxHeartbeats 1500000 in
theorem text_any (h : PileAt w O g P) (A : Option Addr) (c : Nat) (l : List PtrV) (n : Nat) (hn : 1 ≤ n ∧ n ≤ 128 * l.length) (hl : l.length ≤ 600) (hr : RdA w O A (pqs l)) :
    Calls Try.prog 31 #[.pointer (some ⟨g, 0, none⟩), .slice A l.length c, .int .i64 (n : Int)] w (TextPost w O g P (finT n (textF (getS P) l []))) := by
  have HA := Lib.hid (Sta.first h)
  have HR := Lib.hid hr
  have HK := Lib.hid (And.intro hn hl)
  have hzs : ∀ w, Sem.run Try.prog (zeroValue 46) w = .ok (.agg zsec.cs.toArray) w := zeroSec
  have hsls : ∀ g w, (Instr.sliceAt 46 (.pointer (some ⟨g, 0, none⟩)) none none none).run Try.prog w = .ok (.slice (some ⟨g, 0, none⟩) 128 128) w := run_wholeSec
  obtain ⟨r, hr0⟩ : ∃ r, r = textF (getS P) l [] := ⟨_, rfl⟩
  rw [← hr0]
  have HR0 := Lib.hid hr0
  obtain ⟨res, hres⟩ : ∃ res, res = finT n r := ⟨_, rfl⟩
  rw [← hres]
  have HRES := Lib.hid hres
  have hl600 : (l.length : Int) ≤ 600 := by omega
  clear h hr hn hl hr0 hres
  go_enter Try.func31, Try.ntmps31
  go_wp2_with fail
  go_loopw [8, 17] (fun v8 i wr => ∃ (j : Nat) (acc : List UInt8) (O1 : Nat → Prop) (Av : Option Addr) (cv : Nat), j ≤ l.length ∧ i = .int .i64 (j : Int) ∧ v8 = .slice Av acc.length cv ∧ r = textF (getS P) (l.drop j) acc ∧ acc.length = 128 * j ∧ Sta w O wr O1 g P ∧ Rw wr O1 w.heap.size 5 1 (.slice Av acc.length cv) acc.length (bys acc)) (fun _ i _ => l.length - (intOf i).toNat)
  case atStart => exact ⟨0, [], O, none, 0, Nat.zero_le _, rfl, rfl, HR0.out, rfl, HA.out, World.ownsRow_nil _ _ _ _, fun b hb => by simp [Value.ownBlock] at hb⟩
  case round =>
    clear HA HR0
    obtain ⟨j, acc, O1, Av, cv, hj, rfl, rfl, hrj, hacc, hsta, hrow⟩ := hrel
    by_cases hlt : j < l.length
    · have hji : (j : Int) < (l.length : Int) := by omega
      obtain ⟨b, off, rfl, hb, c0, c1, c2⟩ := pq_cells (HR.out.step hsta.st).rd j hlt
      rw [List.drop_eq_getElem_cons hlt] at hrj
      unfold textF at hrj
      have HP := Lib.hid (fun w' O' (h' : PileAt w' O' g P) => pileGet h' l[j])
      generalize l[j] = q at *
      obtain ⟨q1, q2, q3⟩ := q
      simp only at c0 c1 c2
      have hs2 := hsta.alloc (.cells #[.int .i64 q1, .int .u64 q2, .int .u32 q3] 25)
      have hB3 : Blk (wr.alloc (.cells #[.int .i64 q1, .int .u64 q2, .int .u32 q3] 25)) wr.heap.size 25 (pcs q1 q2 q3) := (Bx.new hsta 25 (pcs q1 q2 q3)).blk
      have hr2 := hrow.later (w' := wr.alloc (.cells #[.int .i64 q1, .int .u64 q2, .int .u32 q3] 25)) ((Below.refl _ _).alloc (Nat.le_refl _) _)
      have HX := Lib.hid (And.intro hs2 hr2)
      have HJ := Lib.hid (And.intro hlt hacc)
      obtain ⟨⟨x, code⟩, hgx⟩ : ∃ y, getS P (q1, q2, q3) = y := ⟨_, rfl⟩
      rw [hgx] at HP hrj
      have HRJ := Lib.hid hrj
      clear hsta hrow hs2 hr2 hlt hacc hrj hgx
      by_cases hcode : code = 0
      · subst hcode
        go_wp2_with (refine ld_ptr rfl (.tmp 10) rfl wr.heap.size 25 q1 q2 q3 rfl hB3 ?_)
        refine Calls.mono (HP.out _ _ HX.out.1.at_) ?_
        rintro e w4 ⟨O4, rfl, hp4, hs4⟩
        have ha4 := HX.out.1.call hp4 hs4
        have hr4 := HX.out.2.step hs4
        have HC := Lib.hid (And.intro (Bx.new ha4 46 zsec.cs.toArray) (And.intro (ha4.alloc (.cells zsec.cs.toArray 46)) (And.intro (hr4.later ((Below.refl _ _).alloc (Nat.le_refl _) (.cells zsec.cs.toArray 46))) (show (Value.slice Av acc.length cv).ownBlock ≠ some w4.heap.size from fun e => by have := (rw_lt hr4.own _ e).2; omega))))
        clear HX HP hp4 hs4 ha4 hr4 hB3 c0 c1 c2
        go_upto_region 6 with (refine st_sec2 rfl (.tmp 11) (.tmp 25) rfl w4.heap.size _ x rfl rfl HC.out.1.blk ?_; intro w5 hB5 hc5)
        have HZ := Lib.hid (And.intro (HC.out.2.1.aside HC.out.1 hc5) (HC.out.2.2.1.chg hc5 (fun b' hb' e => HC.out.2.2.2 (by rw [hb']; exact congrArg some e))))
        go_wp2_with (at_builtin; refine app_sec rfl 30 31 rfl w.heap.size (.slice Av acc.length cv) acc rfl (show OwnB w5 w.heap.size (.slice Av acc.length cv) acc from HZ.out.2.own) w4.heap.size 46 x rfl hB5 HZ.out.1.size (by have h8 := HJ.out; have h9 := HK.out; omega) ?_; intro v6 w6 hown hgr hnw)
        go_roundw
        case rel =>
          obtain ⟨Af, df, rfl, _, _⟩ := own_rd hown
          have c6 : Chg w5 w6 (fun k => (Value.slice Av acc.length cv).ownBlock = some k) := (Chg.refl w5 _).grown hgr fun k hk => .inl hk
          refine ⟨j + 1, acc ++ x.l, O4, Af, df, HJ.out.1, by go_num, rfl, by rw [HRJ.out]; simp, by rw [List.length_append, x.h]; have h8 := HJ.out; omega, ⟨HZ.out.1.at_.stay c6 fun k hk e => HZ.out.2.far k e hk, ⟨HZ.out.1.st.chg.trans c6 fun k hk e => ?_, HZ.out.1.st.new⟩⟩, HZ.out.2.app HZ.out.1.at_.foot hown hnw⟩
          have := (rw_lt HZ.out.2.own k e).1
          omega
        case measure => have := HJ.out; simp [intOf]; omega
      · have hne : (code == 0) = false := by rw [beq_eq_false_iff_ne]; exact hcode
        have HC0 := Lib.hid hcode
        clear hcode
        go_wp2_with (refine ld_ptr rfl (.tmp 10) rfl wr.heap.size 25 q1 q2 q3 rfl hB3 ?_)
        refine Calls.mono (HP.out _ _ HX.out.1.at_) ?_
        rintro e w4 ⟨O4, rfl, hp4, hs4⟩
        have ha4 := HX.out.1.call hp4 hs4
        have hr4 := HX.out.2.step hs4
        have HC := Lib.hid (And.intro (Bx.new ha4 46 zsec.cs.toArray) (And.intro (ha4.alloc (.cells zsec.cs.toArray 46)) (And.intro (hr4.later ((Below.refl _ _).alloc (Nat.le_refl _) (.cells zsec.cs.toArray 46))) (show (Value.slice Av acc.length cv).ownBlock ≠ some w4.heap.size from fun e => by have := (rw_lt hr4.own _ e).2; omega))))
        clear HX HP hp4 hs4 ha4 hr4 hB3 c0 c1 c2
        go_upto_region 6 with (refine st_sec2 rfl (.tmp 11) (.tmp 25) rfl w4.heap.size _ x rfl rfl HC.out.1.blk ?_; intro w5 hB5 hc5)
        have hs5 := HC.out.2.1.aside HC.out.1 hc5
        go_wp2_with fail
        go_ret2
        have hrr := HRJ.out
        rw [if_neg HC0.out] at hrr
        have hre := HRES.out
        rw [hrr] at hre
        unfold finT at hre
        rw [if_neg HC0.out] at hre
        subst hre
        exact ⟨O4, none, 0, rfl, hs5.at_, rdF_none _ _ _, hs5.st⟩
    · obtain rfl : j = l.length := by omega
      rw [List.drop_of_length_le (Nat.le_refl _)] at hrj
      have hrj2 : r = (acc, 0) := hrj
      subst hrj2
      have hre := HRES.out
      unfold finT at hre
      simp only [if_true] at hre
      have HRE := Lib.hid hre
      have hkk := HK.out
      obtain ⟨gb, cb, he, hgb1, hgb2, hcb⟩ := own_form hrow.own (by omega)
      simp only [Value.slice.injEq] at he
      obtain ⟨rfl, _, rfl⟩ := he
      have hni : (n : Int) ≤ (acc.length : Int) := by omega
      have hnc : (n : Int) ≤ (cv : Int) := by omega
      have hrd := (own_rd hrow.own)
      have hcell : ∀ i (y : UInt8), acc[i]? = some y → wr.cell? ⟨gb, i, none⟩ = some (.int .u8 (y.toNat : Int)) := fun i y hy => by
        have hi := (List.getElem?_eq_some_iff.1 hy).1
        obtain ⟨A5, c5, e5, hr5, _⟩ := hrd
        simp only [Value.slice.injEq] at e5
        obtain ⟨rfl, _, _⟩ := e5
        obtain ⟨b6, o6, e6, _, hc6⟩ := hr5 (by rw [bys_len]; omega)
        simp only [Option.some.injEq, Addr.mk.injEq, and_true] at e6
        obtain ⟨rfl, rfl⟩ := e6
        have := hc6 i (.int .u8 (y.toNat : Int)) (by simp [bys, hy])
        rwa [Nat.zero_add] at this
      have HCE := Lib.hid hcell
      obtain ⟨A2, hA2⟩ : ∃ A2, A2 = (if cv = n then (some ⟨gb, 0, none⟩ : Option Addr) else some ⟨gb, n, none⟩) := ⟨_, rfl⟩
      have hs1 : ∀ w, (Instr.sliceAt 34 (.slice (some ⟨gb, 0, none⟩) acc.length cv) (some (.int .i64 (n : Int))) none none).run Try.prog w = .ok (.slice A2 (acc.length - n) (cv - n)) w := fun w => by
        rw [hA2]
        exact cutB_from gb acc.length cv n (by omega) hcb w
      have hs2 : ∀ w, (Instr.sliceAt 34 (.slice (some ⟨gb, 0, none⟩) acc.length cv) none (some (.int .i64 (n : Int))) (some (.int .i64 (n : Int)))).run Try.prog w = .ok (.slice (some ⟨gb, 0, none⟩) n n) w := fun w => cutB_to gb acc.length cv n (by omega) w
      have HA2 : Hid (n < acc.length → A2 = some ⟨gb, n, none⟩) := Lib.hid (fun h => by rw [hA2, if_neg (by omega)])
      have HS := Lib.hid (And.intro hsta hrow)
      have HN := Lib.hid (And.intro hkk.1.1 (show n ≤ acc.length by omega))
      have hlen2 : ((acc.length - n : Nat) : Int) ≤ 100000 := by omega
      clear hsta hrow hrd hcell hcb hgb1 hgb2 hacc hkk hlt hj hre hrj hA2
      go_wp2_with fail
      go_loopw [38] (fun i wz => ∃ k : Nat, k ≤ acc.length - n ∧ i = .int .i64 (k : Int) ∧ wz = wr ∧ ∀ x ∈ (acc.drop n).take k, x = 0) (fun i _ => acc.length - n - (intOf i).toNat)
      case atStart => exact ⟨0, Nat.zero_le _, rfl, rfl, fun x hx => by simp at hx⟩
      case round =>
        obtain ⟨k, hk, rfl, rfl, hzero⟩ := hrel
        by_cases hlt : k < acc.length - n
        · have hki : (k : Int) < ((acc.length - n : Nat) : Int) := by omega
          have hA := HA2.out (by omega)
          subst hA
          obtain ⟨y, hy⟩ : ∃ y, acc[n + k]? = some y := ⟨_, List.getElem?_eq_getElem (by omega)⟩
          have hce := HCE.out _ y hy
          have HZE := Lib.hid hzero
          have hnext : (acc.drop n).take (k + 1) = (acc.drop n).take k ++ [y] := by
            rw [List.take_add_one, List.getElem?_drop, hy]
            rfl
          have HNX := Lib.hid hnext
          have HKL := Lib.hid (And.intro hlt hy)
          clear hzero hnext hlt hy
          by_cases hy0 : y = 0
          · subst hy0
            have hb0 : ((0 : UInt8).toNat : Int) = 0 := rfl
            rw [hb0] at hce
            go_wp2_with fail
            go_roundw
            case rel => exact ⟨k + 1, HKL.out.1, by go_num, trivial, fun x hx => by
              rw [HNX.out] at hx
              rcases List.mem_append.1 hx with hx | hx
              · exact HZE.out x hx
              · exact List.mem_singleton.1 hx⟩
            case measure => have := HKL.out.1; simp [intOf]; omega
          · have hyn : ((y.toNat : Int) == 0) = false := by
              rw [beq_eq_false_iff_ne]
              intro e
              exact hy0 (UInt8.toNat_inj.1 (by simpa using e))
            have HY0 := Lib.hid (show ¬ (acc.drop n).all (· == 0) = true from fun hall => by
              have h1 := List.all_eq_true.1 hall y (List.mem_of_getElem? (i := k) (by rw [List.getElem?_drop]; exact HKL.out.2))
              exact hy0 (beq_iff_eq.1 h1))
            clear hy0
            generalize (y.toNat : Int) = z at *
            go_wp2_with fail
            go_ret2
            have hre := HRE.out
            rw [if_neg HY0.out] at hre
            subst hre
            exact ⟨O1, none, 0, rfl, HS.out.1.at_, rdF_none _ _ _, HS.out.1.st⟩
        · obtain rfl : k = acc.length - n := by omega
          have hall : (acc.drop n).all (· == 0) = true := List.all_eq_true.2 fun x hx => beq_iff_eq.2 (hzero x (by rw [List.take_of_length_le (by rw [List.length_drop]; exact Nat.le_refl _)]; exact hx))
          have hre := HRE.out
          rw [if_pos hall] at hre
          have HRE2 := Lib.hid hre
          clear hzero hlt hall hre
          go_wp2_with fail
          go_ret2
          have hre := HRE2.out
          subst hre
          obtain ⟨Af, df, he2, hrf⟩ := HS.out.2.out (w0 := w) (Nat.le_refl _) (by rw [bys_len]; omega)
          simp only [Value.slice.injEq] at he2
          obtain ⟨rfl, _, _⟩ := he2
          have hln : (acc.take n).length = n := by rw [List.length_take]; have := HN.out; omega
          rw [show bys acc = bys (acc.take n) ++ bys (acc.drop n) by simp only [bys, ← List.map_append, List.take_append_drop]] at hrf
          exact ⟨O1, some ⟨gb, 0, none⟩, n, by rw [hln]; rfl, HS.out.1.at_, ⟨hrf.toRdA.pre, fun b off e hn => hrf.fresh b off e (by
            have hn2 : 0 < (bys (acc.take n)).length := hn
            rw [List.length_append]
            omega)⟩, HS.out.1.st⟩
end
end
section
open Go.RowKit

theorem lvF_step : ∀ (f k i a b : Nat), (lvF f k)[i]? = some a → (lvF f k)[i + 1]? = some b → b = (a + 7) / 8
  | 0, k, i, a, b, _, h2 => by simp [lvF] at h2
  | f + 1, k, i, a, b, h1, h2 => by
    unfold lvF at h1 h2
    split at h1
    · rename_i hk
      rw [if_pos hk] at h2
      simp at h2
    · rename_i hk
      rw [if_neg hk] at h2
      rw [List.getElem?_cons_succ] at h2
      rcases i with _ | i
      · obtain ⟨r, hr⟩ := lvF_pos f ((k + 7) / 8)
        rw [hr] at h2
        simp at h1 h2
        omega
      · rw [List.getElem?_cons_succ] at h1
        exact lvF_step f _ i a b h1 h2
theorem lastOne_at : ∀ l : List Nat, lastOne l = true → l[l.length - 1]? = some 1
  | [], h => by cases h
  | [k], h => by simpa [lastOne] using h
  | a :: b :: r, h => by
    have := lastOne_at (b :: r) h
    simpa using this
theorem mem_le_sum : ∀ (l : List Nat) (x : Nat), x ∈ l → x ≤ l.sum
  | a :: r, x, h => by
    rw [List.sum_cons]
    rcases List.mem_cons.1 h with rfl | h
    · omega
    · have := mem_le_sum r x h
      omega
structure LvP (n : Nat) (lv : List Nat) : Prop where
  step : ∀ i a b, lv[i]? = some a → lv[i + 1]? = some b → b = (a + 7) / 8
  last : lv[lv.length - 1]? = some 1
  head : lv[0]? = some ((n + 127) / 128)
  small : ∀ x ∈ lv, x ≤ 585
  len : 1 ≤ lv.length ∧ lv.length ≤ 5
theorem levels_p {n : Nat} (h : 1 ≤ n ∧ n ≤ 65535) : LvP n (levels n) := by
  obtain ⟨h1, h2⟩ := levels_small n
  obtain ⟨r, hr⟩ := lvF_pos 4 ((n + 127) / 128)
  refine ⟨?_, ?_, ?_, fun x hx => ?_, ?_⟩
  · rw [levels_yes h]; exact lvF_step _ _
  · rw [levels_yes h]; exact lastOne_at _ (lv_all _ (by omega) (by omega)).1
  · rw [levels_yes h, hr]; rfl
  · have := mem_le_sum _ x hx
    omega
  · refine ⟨?_, h2⟩
    rw [levels_yes h, hr]
    simp
theorem expand_len (G : PtrV → Sec × Int) (k : Nat) : ∀ (l acc : List PtrV), acc.length ≤ k → k ≤ acc.length + 8 * l.length → (expandF G k l acc).2 = 0 → (expandF G k l acc).1.length = k
  | [], acc, h1, h2, _ => by
    simp only [List.length_nil] at h2
    show acc.length = k
    omega
  | q :: r, acc, h1, h2, h3 => by
    unfold expandF at h3 ⊢
    by_cases hc : (node1 G (k - acc.length) q).2 = 0
    · rw [if_pos hc] at h3 ⊢
      have hl : (node1 G (k - acc.length) q).1.length = min (k - acc.length) 8 := by
        unfold node1 at hc ⊢
        split
        · rename_i c1
          rw [if_pos c1] at hc
          split
          · rename_i c2
            rw [if_pos c2] at hc
            split
            · simp only [List.length_take]
              rw [(nrP (G q).1).h]
            · rename_i c3
              rw [if_neg c3] at hc
              exact absurd hc (by decide)
          · rename_i c2
            rw [if_neg c2] at hc
            exact absurd hc (by decide)
        · rename_i c1
          rw [if_neg c1] at hc
          exact absurd hc c1
      rw [List.length_cons] at h2
      exact expand_len G k r _ (by rw [List.length_append, hl]; omega) (by rw [List.length_append, hl]; omega) h3
    · rw [if_neg hc] at h3
      exact absurd h3 hc
theorem rev_tail (l : List Nat) : l.reverse.tail = (l.take (l.length - 1)).reverse := by
  rw [← List.dropLast_eq_take, ← List.tail_reverse]
theorem take_rev {l : List Nat} {m a : Nat} (h : l[m]? = some a) : (l.take (m + 1)).reverse = a :: (l.take m).reverse := by
  rw [List.take_add_one, h]
  simp
theorem finF_finT (n : Nat) (all : List PtrV) (y : List UInt8 × Int) : finF n all y = if (finT n y).2 = 0 then ((finT n y).1, all, 0) else ([], [], (finT n y).2) := by
  unfold finF finT
  split
  · split
    · simp
    · simp
  · rename_i h
    simp []
theorem own_low {w : World} {base base' e size n : Nat} {v : Value} {xs : List Value} (h : w.ownsRow base e size v n xs) (hb : base' ≤ base) : w.ownsRow base' e size v n xs := by
  refine ⟨h.1, ?_⟩
  rcases h.2 with h0 | ⟨g, cap, cur, e1, hbg, hrest⟩
  · exact .inl h0
  · exact .inr ⟨g, cap, cur, e1, Nat.le_trans hb hbg, hrest⟩
theorem own_of_blk {w : World} {b e base size n : Nat} {cs : Array Value} (h : Blk w b e cs) (hb : base ≤ b) (hm : n ≤ maxLen) (hs : cs.size = n * size) : w.ownsRow base e size (.slice (some ⟨b, 0, none⟩) n n) n cs.toList :=
  ⟨by simpa using hs, .inr ⟨b, n, cs, rfl, hb, h, Nat.le_refl _, hm, hs, List.take_of_length_le (by rw [Array.length_toList, hs]; exact Nat.le_refl _)⟩⟩
end
section
open Go.RowKit

theorem two_ptrs (W : World) (t : TypeId) (cs : Array Value) : Below W.heap.size W ((W.alloc (.cells cs t)).alloc (.cells cs t)).drew ∧ Blk ((W.alloc (.cells cs t)).alloc (.cells cs t)).drew W.heap.size t cs ∧ Blk ((W.alloc (.cells cs t)).alloc (.cells cs t)).drew (W.heap.size + 1) t cs := by
  have h2 := Blk.new W t cs
  have h3 := Blk.new (W.alloc (.cells cs t)) t cs
  rw [World.size_alloc] at h3
  exact ⟨(((Below.refl _ W).alloc (Nat.le_refl _) _).alloc (by simp) _).drew, h2.below (B := W.heap.size + 1) ((Below.refl _ _).alloc (by simp) _).drew (by omega), h3⟩
section
variable {w : World} {O : Nat → Prop} {g : Nat} {P : Pw}
def LoadPost (w : World) (O : Nat → Prop) (g : Nat) (P : Pw) (r : List UInt8 × List PtrV × Int) (e : Ending) (w' : World) : Prop :=
  ∃ O' A c B d, e = .returned (.tuple #[.slice A r.1.length c, .slice B r.2.1.length d, .int .i64 r.2.2]) ∧ PileAt w' O' g P ∧ RdF w w' O' A (bys r.1) ∧ RdF w w' O' B (pqs r.2.1) ∧ Step w w' O O'
theorem load_no (G : PtrV → Sec × Int) (q : PtrV) (n : Nat) (h : levels n = [] ∨ q = hole0) : loadF G q n = ([], [], 121) := by
  unfold loadF
  rw [if_pos h]
set_option maxHeartbeats 1500000 in
theorem bload_any (h : PileAt w O g P) (q : PtrV) (n : Int) (hn : I64 n) :
    Calls Try.prog 15 #[.pointer (some ⟨g, 0, none⟩), ptq q, .int .i64 n] w (LoadPost w O g P (loadF (getS P) q n.toNat)) := by
  have hs0 := (Sta.first h).alloc (.cells (pcs q.1 q.2.1 q.2.2) 25)
  have hb0 := Bx.new (Sta.first h) 25 (pcs q.1 q.2.1 q.2.2)
  have HA := Lib.hid (And.intro hs0 hb0)
  have HF := Lib.hid (h.foot)
  have HLV := Lib.hid (fun w' => levels_any n w' hn)
  have HH := Lib.hid (fun w' => bhole_any q.1 q.2.1 q.2.2 w')
  by_cases hlv : levels n.toNat = []
  · have hres := load_no (getS P) q n.toNat (.inl hlv)
    rw [hres]
    rw [hlv] at HLV
    clear h hs0 hb0 hn hlv hres HH
    go_enter Try.func15, Try.ntmps15
    go_upto_region 1 with (fail)
    generalize w.alloc (.cells (pcs q.1 q.2.1 q.2.2) 25) = W at *
    go_wp2_with (go_at_call 25; (with_reducible refine Calls.mono (HLV.out _) ?_); rintro e w2 ⟨v, rfl, hown, hb2⟩; obtain ⟨A, c, rfl, _, _⟩ := own_rd hown; have hs2 := Lib.hid (HA.out.1.far hb2); clear HLV hown)
    go_ret3
    exact ⟨O, none, 0, none, 0, rfl, hs2.out.at_, rdF_none _ _ _, rdF_none _ _ _, hs2.out.st⟩
  by_cases hq : q = hole0
  · have hres := load_no (getS P) q n.toNat (.inr hq)
    rw [hres]
    rw [show holeF q.1 q.2.1 q.2.2 = true from hole_iff.2 hq] at HH
    have hlen : (natI (levels n.toNat)).length ≠ 0 := by rw [natI_len]; intro e; exact hlv (List.eq_nil_of_length_eq_zero e)
    generalize natI (levels n.toNat) = lvI at *
    have hl0 : ((lvI.length : Int) == 0) = false := by rw [beq_eq_false_iff_ne]; omega
    clear h hs0 hb0 hn hlv hres hq hlen
    go_enter Try.func15, Try.ntmps15
    go_upto_region 1 with (fail)
    generalize w.alloc (.cells (pcs q.1 q.2.1 q.2.2) 25) = W at *
    go_wp2_with (first
      | (go_at_call 25; (with_reducible refine Calls.mono (HLV.out _) ?_); rintro e w2 ⟨v, rfl, hown, hb2⟩; obtain ⟨A, c, rfl, _, _⟩ := own_rd hown; have HS := Lib.hid (And.intro (HA.out.1.far hb2) (HA.out.2.later hb2)); have hbq := HS.out.2.blk; have c0 := hbq.cell 0; have c1 := hbq.cell 1; have c2 := hbq.cell 2; simp only [pcs, List.getElem?_toArray, List.getElem?_cons_zero, List.getElem?_cons_succ] at c0 c1 c2; clear HLV hown hb2 HA hbq)
      | (go_at_call 29; refine Calls.mono (HH.out _) ?_; rintro e w3 ⟨rfl, hb3⟩; have HT := Lib.hid (HS.out.1.far hb3); clear hb3))
    go_ret3
    exact ⟨O, none, 0, none, 0, rfl, HT.out.at_, rdF_none _ _ _, rdF_none _ _ _, HT.out.st⟩
  have hn2 : 1 ≤ n.toNat ∧ n.toNat ≤ 65535 := by
    by_cases hx : 1 ≤ n.toNat ∧ n.toNat ≤ 65535
    · exact hx
    · exact absurd (levels_no hx) hlv
  obtain ⟨nn, hnn⟩ : ∃ nn, nn = n.toNat := ⟨_, rfl⟩
  have hnI : n = (nn : Int) := by omega
  rw [← hnn] at hn2 hlv
  subst hnI
  rw [Int.toNat_natCast] at *
  have HP := Lib.hid (levels_p hn2)
  have hres : loadF (getS P) q nn = if (downF (getS P) ((levels nn).take ((levels nn).length - 1)).reverse [q] [q]).2.2 = 0 then finF nn (downF (getS P) ((levels nn).take ((levels nn).length - 1)).reverse [q] [q]).2.1 (textF (getS P) (downF (getS P) ((levels nn).take ((levels nn).length - 1)).reverse [q] [q]).1 []) else ([], [], (downF (getS P) ((levels nn).take ((levels nn).length - 1)).reverse [q] [q]).2.2) := by
    unfold loadF
    rw [if_neg (fun e => e.elim hlv hq), rev_tail]
  obtain ⟨res, hres2⟩ : ∃ res, res = loadF (getS P) q nn := ⟨_, rfl⟩
  rw [← hres2] at hres ⊢
  have HRES := Lib.hid hres
  rw [show holeF q.1 q.2.1 q.2.2 = false by rw [Bool.eq_false_iff]; exact fun e => hq (hole_iff.1 e)] at HH
  have hlen := HP.out.len
  have hl0 : (((levels nn).length : Int) == 0) = false := by rw [beq_eq_false_iff_ne]; omega
  generalize levels nn = lv at *
  have hl5 : (lv.length : Int) ≤ 5 := by omega
  have hl1 : (1 : Int) ≤ (lv.length : Int) := by omega
  have HN := Lib.hid (And.intro hn2 hlen)
  clear h hs0 hb0 hn hlv hres hres2 hq hlen hn2 hnn
  go_enter Try.func15, Try.ntmps15
  go_upto_region 1 with (fail)
  generalize hWe : w.alloc (.cells (pcs q.1 q.2.1 q.2.2) 25) = W at *
  clear hWe
  go_upto_region 4 with (first
    | (go_at_call 25; (with_reducible refine Calls.mono (HLV.out _) ?_); rintro e w2 ⟨v, rfl, hown, hb2⟩; have hrw : Rw w2 O w.heap.size 3 1 v lv.length (ints (natI lv)) := ⟨by have h8 := hown; unfold OwnI at h8; rw [natI_len] at h8; exact own_low h8 HA.out.1.size, fun b hb ho => by have h8 := (rw_lt hown b hb).1; have h9 := HF.out b ho; have h7 := HA.out.2.lt; omega⟩; obtain ⟨A, c, rfl, hrf⟩ := hrw.out (w0 := w) (Nat.le_refl _) (by rw [ints_len, natI_len]; omega); have HS := Lib.hid (And.intro (HA.out.1.far hb2) (And.intro (HA.out.2.later hb2) hrf.toRdA)); have hbq := HS.out.2.1.blk; have c0 := hbq.cell 0; have c1 := hbq.cell 1; have c2 := hbq.cell 2; simp only [pcs, List.getElem?_toArray, List.getElem?_cons_zero, List.getElem?_cons_succ] at c0 c1 c2; clear HLV hown hb2 HA hrw hrf hbq)
    | (go_at_call 29; refine Calls.mono (HH.out _) ?_; rintro e w3 ⟨rfl, hb3⟩; have HT := Lib.hid (And.intro (HS.out.1.far hb3) (And.intro (HS.out.2.1.later hb3) (HS.out.2.2.step (step_below hb3)))); clear hb3 HS c0 c1 c2))
  have hbq := HT.out.2.1.blk
  have c0 := hbq.cell 0
  have c1 := hbq.cell 1
  have c2 := hbq.cell 2
  simp only [pcs, List.getElem?_toArray, List.getElem?_cons_zero, List.getElem?_cons_succ] at c0 c1 c2
  clear hbq
  go_cut [10, 11] from 25 to 29 (fun s10 s11 wx => ∃ b1 b2 : Nat, s10 = .slice (some ⟨b1, 0, none⟩) 1 1 ∧ s11 = .slice (some ⟨b2, 0, none⟩) 1 1 ∧ Below w3.heap.size w3 wx ∧ Blk wx b1 25 (pcs q.1 q.2.1 q.2.2) ∧ Blk wx b2 25 (pcs q.1 q.2.1 q.2.2) ∧ b1 ≠ b2 ∧ w3.heap.size ≤ b1 ∧ w3.heap.size ≤ b2)
  case first =>
    have HC := Lib.hid HT.out.2.1
    clear c0 c1 c2
    refine wp_region_held_drew (S := fun w' => Blk w' w.heap.size 25 (pcs q.1 q.2.1 q.2.2)) (by kernel_rfl) (HC.out.drew.blk) (fun hHeld => ?_)
    have HD : Hid (w.heap.size < w3.drew.heap.size) := Lib.hid hHeld.lt
    obtain ⟨tb, t1, t2⟩ := two_ptrs w3 25 (pcs q.1 q.2.1 q.2.2)
    have HT2 := Lib.hid (And.intro tb (And.intro t1 t2))
    clear tb t1 t2
    refine wpAnyH_take (i := 0) (v := ptv q.1 q.2.1 q.2.2) rfl (by kernel_rfl) (by kernel_rfl) (by kernel_rfl) (fun _ _ _ h => h) (Or.inl ⟨by rfl, ?_⟩) (by assumption) ?_
    · intro w' hS
      have k0 := hS.cell 0
      have k1 := hS.cell 1
      have k2 := hS.cell 2
      simp only [pcs, List.getElem?_toArray, List.getElem?_cons_zero, List.getElem?_cons_succ] at k0 k1 k2
      go_simp; try with_reducible rfl
    try simp [Act.put]
    refine wpAnyH_take (i := 2) (v := ptv q.1 q.2.1 q.2.2) rfl (by kernel_rfl) (by kernel_rfl) (by kernel_rfl) (fun _ _ _ h => h) (Or.inl ⟨by rfl, ?_⟩) (by assumption) ?_
    · intro w' hS
      have k0 := hS.cell 0
      have k1 := hS.cell 1
      have k2 := hS.cell 2
      simp only [pcs, List.getElem?_toArray, List.getElem?_cons_zero, List.getElem?_cons_succ] at k0 k1 k2
      go_simp; try with_reducible rfl
    try simp [Act.put]
    refine wpAnyH_ready (rs := [1, 3]) (by kernel_rfl) (by simp) ?_
    refine (AllReadyH.cons rfl (fun K hK => ?_) (AllReadyH.cons rfl (fun K hK => ?_) AllReadyH.nil))
    · skip
      go_simp
      refine hK.out _ _ (hHeld.below ((Below.refl _ _).alloc (Nat.le_refl _) _) hHeld.lt) (fun hHeld2 => ?_)
      clear hK K
      try simp
      clear hHeld
      have hHeld := hHeld2
      clear hHeld2
      refine wpAnyH_take (i := 4) (v := .slice (some ⟨w3.heap.size, 0, none⟩) 1 1) rfl (by kernel_rfl) (by kernel_rfl) (by kernel_rfl) (fun _ _ _ h => h) (Or.inl ⟨by rfl, ?_⟩) (by assumption) ?_
      · intro w' hS; go_simp; try with_reducible rfl
      try simp [Act.put]
      refine wpAnyH_ready (rs := [3]) (by kernel_rfl) (by simp) ?_
      refine (AllReadyH.cons rfl (fun K hK => ?_) AllReadyH.nil)
      go_simp
      refine hK.out _ _ (hHeld.below ((Below.refl _ _).alloc (Nat.le_refl _) _) hHeld.lt) (fun hHeld2 => ?_)
      clear hK K
      try simp
      clear hHeld
      have hHeld := hHeld2
      clear hHeld2
      refine wpAnyH_take (i := 5) (v := .slice (some ⟨w3.heap.size + 1, 0, none⟩) 1 1) rfl (by kernel_rfl) (by kernel_rfl) (by kernel_rfl) (fun _ _ _ h => h) (Or.inl ⟨by rfl, ?_⟩) (by assumption) ?_
      · intro w' hS; go_simp; try with_reducible rfl
      try simp [Act.put]
      refine wpAnyH_done (by kernel_rfl) ?_ _
      go_wp2_with fail
      go_meet
      case rel => exact ⟨_, _, rfl, rfl, HT2.out.1, HT2.out.2.1, HT2.out.2.2, by omega, by omega, by omega⟩
    · skip
      go_simp
      refine hK.out _ _ (hHeld.below ((Below.refl _ _).alloc (Nat.le_refl _) _) hHeld.lt) (fun hHeld2 => ?_)
      clear hK K
      try simp
      clear hHeld
      have hHeld := hHeld2
      clear hHeld2
      refine wpAnyH_ready (rs := [1]) (by kernel_rfl) (by simp) ?_
      refine (AllReadyH.cons rfl (fun K hK => ?_) AllReadyH.nil)
      go_simp
      refine hK.out _ _ (hHeld.below ((Below.refl _ _).alloc (Nat.le_refl _) _) hHeld.lt) (fun hHeld2 => ?_)
      clear hK K
      try simp
      clear hHeld
      have hHeld := hHeld2
      clear hHeld2
      refine wpAnyH_take (i := 4) (v := .slice (some ⟨w3.heap.size + 1, 0, none⟩) 1 1) rfl (by kernel_rfl) (by kernel_rfl) (by kernel_rfl) (fun _ _ _ h => h) (Or.inl ⟨by rfl, ?_⟩) (by assumption) ?_
      · intro w' hS; go_simp; try with_reducible rfl
      try simp [Act.put]
      refine wpAnyH_take (i := 5) (v := .slice (some ⟨w3.heap.size, 0, none⟩) 1 1) rfl (by kernel_rfl) (by kernel_rfl) (by kernel_rfl) (fun _ _ _ h => h) (Or.inl ⟨by rfl, ?_⟩) (by assumption) ?_
      · intro w' hS; go_simp; try with_reducible rfl
      try simp [Act.put]
      refine wpAnyH_done (by kernel_rfl) ?_ _
      go_wp2_with fail
      go_meet
      case rel => exact ⟨_, _, rfl, rfl, HT2.out.1, HT2.out.2.2, HT2.out.2.1, by omega, by omega, by omega⟩
  case rest =>
    clear c0 c1 c2
    obtain ⟨b1, b2, rfl, rfl, hbc, hk1, hk2, hne, hb1, hb2⟩ := hcut
    have HS := Lib.hid ((Sta.first HT.out.1.at_).far hbc)
    have HT0 := Lib.hid (And.intro HT.out.1.st HT.out.2.2)
    have hf1 : ∀ k, O k → k < w3.heap.size := HT.out.1.at_.foot
    have hr1 : RdA wc O (some ⟨b1, 0, none⟩) (pqs [q]) := ⟨fun _ => ⟨b1, 0, rfl, hk1.lt, fun j v hv => by rw [Nat.zero_add, hk1.cell j, List.getElem?_toArray]; exact hv⟩, fun b' off e _ ho => by
      simp only [Option.some.injEq, Addr.mk.injEq] at e
      have := hf1 b' ho
      omega⟩
    have hr2 : Rw wc O w3.heap.size 25 3 (.slice (some ⟨b2, 0, none⟩) 1 1) [q].length (pqs [q]) := ⟨own_of_blk hk2 hb2 (by simp [maxLen]) rfl, fun b' hb' ho => by
      have e : b2 = b' := by simpa [Value.ownBlock] using hb'
      have := hf1 b' ho
      omega⟩
    have HR := Lib.hid (And.intro hr1 (And.intro hr2 (fun b' (e : (Value.slice (some ⟨b2, 0, none⟩) 1 1).ownBlock = some b') => show b' ≠ b1 from by
      have e2 : b2 = b' := by simpa [Value.ownBlock] using e
      omega)))
    have HW3 : Hid (w.heap.size ≤ w3.heap.size ∧ w3.heap.size ≤ wc.heap.size) := Lib.hid ⟨HT.out.1.size, hbc.size⟩
    clear hbc hk1 hk2 hne hb1 hb2 hf1 hr1 hr2 HT
    obtain ⟨R0, hR0⟩ : ∃ R0, R0 = downF (getS P) (lv.take (lv.length - 1)).reverse [q] [q] := ⟨_, rfl⟩
    rw [← hR0] at HRES
    have HR0 := Lib.hid hR0
    clear hR0
    go_wp2_with fail
    go_loopw [10, 11, 12] (fun v10 v11 v12 wr => ∃ (m : Nat) (lr all : List PtrV) (O1 : Nat → Prop) (A1 : Option Addr) (d1 : Nat) (Av : Option Addr) (cv : Nat), m + 1 ≤ lv.length ∧ v10 = .slice A1 lr.length d1 ∧ v11 = .slice Av all.length cv ∧ v12 = .int .i64 ((m : Int) - 1) ∧ R0 = downF (getS P) (lv.take m).reverse lr all ∧ lv[m]? = some lr.length ∧ Sta w3 O wr O1 g P ∧ RdA wr O1 A1 (pqs lr) ∧ Rw wr O1 w3.heap.size 25 3 (.slice Av all.length cv) all.length (pqs all) ∧ (∀ b off, A1 = some ⟨b, off, none⟩ → 0 < (pqs lr).length → (Value.slice Av all.length cv).ownBlock ≠ some b) ∧ all.length + 600 * m ≤ 3600) (fun _ _ v12 _ => (intOf v12 + 1).toNat)
    case atStart =>
      have h1 := HN.out.2
      exact ⟨lv.length - 1, [q], [q], O, some ⟨b1, 0, none⟩, 1, some ⟨b2, 0, none⟩, 1, by omega, rfl, rfl, by congr 1; omega, HR0.out, HP.out.last, HS.out, HR.out.1, HR.out.2.1, fun b off e _ e2 => by
        simp only [Option.some.injEq, Addr.mk.injEq] at e
        have h2 := HR.out.2.2 b e2
        exact h2 e.1.symm, by simp only [List.length_singleton]; omega⟩
    case round =>
      clear HS HR HR0
      obtain ⟨m, lr, all, O1, A1, d1, Av, cv, hm, rfl, rfl, rfl, hR, hlr, hsta, hrd, hrow, hap, hbd⟩ := hrel
      rcases m with _ | m
      · have h0 : (((0 : Nat) : Int) - 1) = -1 := rfl
        rw [h0]
        have hR2 : R0 = (lr, all, 0) := hR
        have hln : lr.length = (nn + 127) / 128 := by
          have := HP.out.head
          rw [hlr] at this
          exact Option.some.inj this
        have hres := HRES.out
        rw [hR2] at hres
        simp only [if_true] at hres
        rw [finF_finT] at hres
        have HTX := Lib.hid (text_any hsta.at_ A1 d1 lr nn (by have := HN.out.1; omega) (by have := HN.out.1; omega) hrd)
        obtain ⟨y, hy⟩ : ∃ y, finT nn (textF (getS P) lr []) = y := ⟨_, rfl⟩
        rw [hy] at HTX hres
        obtain ⟨bytes, code⟩ := y
        have HRE := Lib.hid hres
        have HSZ := Lib.hid hsta.size
        have HS := Lib.hid (And.intro hsta hrow)
        clear hR hR2 hres hlr hsta hrd hrow hap hbd hy hm h0 hln
        by_cases hcode : code = 0
        · subst hcode
          go_wp2_with (go_at_call 31; (with_reducible refine Calls.mono HTX.out ?_); rintro e w5 ⟨O5, A5, d5, rfl, hp5, hf5, hs5⟩; have HY := Lib.hid (And.intro (HS.out.1.call hp5 hs5) (And.intro (HS.out.2.step hs5) hf5)); clear HS HTX hp5 hf5 hs5)
          go_ret3
          have hre := HRE.out
          simp only [if_true] at hre
          subst hre
          have hz := HW3.out
          obtain ⟨Af, df, he, hrf⟩ := HY.out.2.1.out (w0 := w) hz.1 (by rw [pqs_len]; omega)
          simp only [Value.slice.injEq] at he
          obtain ⟨rfl, _, rfl⟩ := he
          exact ⟨O5, A5, d5, Av, cv, rfl, HY.out.1.at_, HY.out.2.2.mono (Nat.le_trans hz.1 HSZ.out), hrf, HT0.out.1.trans HY.out.1.st⟩
        · have hne : (code == 0) = false := by rw [beq_eq_false_iff_ne]; exact hcode
          have HC0 := Lib.hid hcode
          clear hcode
          go_wp2_with (go_at_call 31; (with_reducible refine Calls.mono HTX.out ?_); rintro e w5 ⟨O5, A5, d5, rfl, hp5, hf5, hs5⟩; have HY := Lib.hid (HS.out.1.call hp5 hs5); clear HS HTX hp5 hf5 hs5)
          go_ret3
          have hre := HRE.out
          (try simp only at hre)
          rw [if_neg HC0.out] at hre
          subst hre
          exact ⟨O5, none, 0, none, 0, rfl, HY.out.at_, rdF_none _ _ _, rdF_none _ _ _, HT0.out.1.trans HY.out.st⟩
      · have hmi : (((m + 1 : Nat) : Int) - 1) = (m : Int) := by omega
        rw [hmi]
        obtain ⟨k, hk⟩ : ∃ k, lv[m]? = some k := ⟨_, List.getElem?_eq_getElem (by omega)⟩
        have hstep := HP.out.step m k lr.length hk hlr
        have hk5 := HP.out.small k (List.mem_of_getElem? hk)
        have hl5' := HP.out.small lr.length (List.mem_of_getElem? hlr)
        rw [take_rev hk] at hR
        have hR2 : R0 = if (expandF (getS P) k lr []).2 = 0 then downF (getS P) (lv.take m).reverse (expandF (getS P) k lr []).1 (all ++ (expandF (getS P) k lr []).1) else ([], [], (expandF (getS P) k lr []).2) := hR
        have hlen := expand_len (getS P) k lr [] (Nat.zero_le _) (by simp only [List.length_nil]; omega)
        have HB := Lib.hid (below_any hsta.at_ A1 d1 lr k (by omega) (by omega) hrd)
        generalize expandF (getS P) k lr [] = y at *
        obtain ⟨part, code⟩ := y
        have hlvr := HT0.out.2.step hsta.st
        obtain ⟨bA, oA, hAe, hbA, hcA⟩ := hlvr.rd (by rw [ints_len, natI_len]; omega)
        subst hAe
        have hcm := hcA m (.int .i64 (k : Int)) (by simp [ints, natI, hk])
        have hmlt : (m : Int) < (lv.length : Int) := by omega
        have hm0 : (0 : Int) ≤ (m : Int) := by omega
        have HRE := Lib.hid (And.intro hR2 hlen)
        have HS := Lib.hid (And.intro hsta hrow)
        have HM := Lib.hid (And.intro hm (And.intro hbd (And.intro hk hk5)))
        clear hR hR2 hlr hsta hrd hrow hap hbd hm hk hstep hk5 hl5' hlen hlvr hbA hcA hmi
        by_cases hcode : code = 0
        · subst hcode
          go_wp2_with (first
            | (go_at_call 30; (with_reducible refine Calls.mono HB.out ?_); rintro e w5 ⟨O5, A5, d5, ⟨rfl, hd5⟩, hp5, hf5, hs5⟩; have HY := Lib.hid (And.intro (HS.out.1.call hp5 hs5) (And.intro (HS.out.2.step hs5) (And.intro hf5 (show ∀ b', (Value.slice Av all.length cv).ownBlock = some b' → b' < wr.heap.size from fun b' e => (rw_lt HS.out.2.own b' e).2)))); clear HS HB hp5 hf5 hs5 hcm)
            | (at_builtin; refine app_ptrs rfl 49 50 rfl w3.heap.size (.slice Av all.length cv) all rfl (show OwnQ w5 w3.heap.size (.slice Av all.length cv) all from HY.out.2.1.own) A5 d5 part rfl HY.out.2.2.1.rd HY.out.1.size (by have h8 := HM.out; have h9 := HRE.out.2 (by trivial); (try simp only at h9); omega) ?_; intro v6 w6 hown hgr hnw))
          go_roundw
          case rel =>
            obtain ⟨Af, df, rfl, _, _⟩ := own_rd hown
            have c6 : Chg w5 w6 (fun k => (Value.slice Av all.length cv).ownBlock = some k) := (Chg.refl w5 _).grown hgr fun k hk => .inl hk
            have h9 : part.length = k := HRE.out.2 (by trivial)
            have h8 := HM.out
            have hne5 : ∀ b off, A5 = some ⟨b, off, none⟩ → 0 < (pqs part).length → (Value.slice Av all.length cv).ownBlock ≠ some b := fun b off e hn e2 => by
              have h1 := HY.out.2.2.1.fresh b off e hn
              have h2 := HY.out.2.2.2 b e2
              omega
            refine ⟨m, part, all ++ part, O5, A5, d5, Af, df, by omega, rfl, rfl, rfl, by have := HRE.out.1; simpa using this, by rw [h9]; exact h8.2.2.1, ⟨HY.out.1.at_.stay c6 fun k hk e => HY.out.2.1.far k e hk, ⟨HY.out.1.st.chg.trans c6 fun k hk e => ?_, HY.out.1.st.new⟩⟩, ⟨fun hn => ?_, HY.out.2.2.1.apart⟩, HY.out.2.1.app HY.out.1.at_.foot hown hnw, fun b off e hn e2 => ?_, by rw [List.length_append]; omega⟩
            · have := (rw_lt HY.out.2.1.own k e).1
              omega
            · obtain ⟨b, off, e, hl, hc⟩ := HY.out.2.2.1.rd hn
              exact ⟨b, off, e, Nat.lt_of_lt_of_le hl c6.size, fun j v hv => (c6.cell hl (hne5 b off e hn) _).trans (hc j v hv)⟩
            · obtain ⟨b', off', e', hl, _⟩ := HY.out.2.2.1.rd hn
              have e3 := e'.symm.trans e
              simp only [Option.some.injEq, Addr.mk.injEq] at e3
              rcases hnw b e2 with h1 | h1
              · exact hne5 b off e hn h1
              · omega
          case measure => simp [intOf]
        · have hne : (code == 0) = false := by rw [beq_eq_false_iff_ne]; exact hcode
          have HC0 := Lib.hid hcode
          clear hcode
          go_wp2_with (go_at_call 30; (with_reducible refine Calls.mono HB.out ?_); rintro e w5 ⟨O5, A5, d5, ⟨rfl, hd5⟩, hp5, hf5, hs5⟩; have HY := Lib.hid (HS.out.1.call hp5 hs5); clear HS HB hp5 hf5 hs5 hcm)
          go_ret3
          have hre := HRES.out
          have hr0 := HRE.out.1
          (try simp only at hr0)
          rw [if_neg HC0.out] at hr0
          rw [hr0] at hre
          (try simp only at hre)
          rw [if_neg HC0.out] at hre
          subst hre
          exact ⟨O5, none, 0, none, 0, rfl, HY.out.at_, rdF_none _ _ _, rdF_none _ _ _, HT0.out.1.trans HY.out.st⟩
end
end
section
open Go.RowKit

theorem natI_snoc (l : List Nat) (i : Nat) : natI (l ++ [i]) = natI l ++ [(i : Int)] := by simp [natI]
theorem many_no {m : Mp} {n : Int} (h : (m.count : Int) < n) : manyL m n = [] ∧ manyC m n = 71 ∧ manyM m n = m := by
  unfold manyL manyC manyM Mp.many
  rw [if_pos h]
  exact ⟨rfl, rfl, rfl⟩
theorem many_yes {m : Mp} {n : Int} (h : ¬ (m.count : Int) < n) : manyL m n = (m.gives n.toNat).1 ∧ manyC m n = 0 ∧ manyM m n = (m.gives n.toNat).2 := by
  unfold manyL manyC manyM Mp.many
  rw [if_neg h]
  exact ⟨rfl, rfl, rfl⟩
section
variable {w : World} {O : Nat → Prop} {g : Nat} {m : Mp}
set_option maxHeartbeats 2000000 in
theorem mmany_any (n : Int) (hn : I64 n) (h : MapAt w O g m) : Calls Try.prog 14 #[.pointer (some ⟨g, 0, none⟩), .int .i64 n] w fun e w' => ∃ A c, e = .returned (.tuple #[.slice A (natI (manyL m n)).length c, .int .i64 (manyC m n)]) ∧ MapAt w' O g (manyM m n) ∧ RdF w w' O A (ints (natI (manyL m n))) ∧ Step w w' O O ∧ (natI (manyL m n)).length ≤ c := by
  have HC := Lib.hid (mcount_any h)
  have HH := Lib.hid h
  obtain ⟨hn1, hn2⟩ := hn
  have HCL := Lib.hid (count_le m)
  by_cases hm : (m.count : Int) < n
  · obtain ⟨e1, e2, e3⟩ := many_no hm
    rw [e1, e2, e3]
    clear h e1 e2 e3
    generalize m.count = q at *
    go_enter Try.func14, Try.ntmps14
    go_wp2_with fail
    refine Calls.mono HC.out ?_
    rintro e w1 ⟨rfl, hb1⟩
    go_wp2_with fail
    refine bodyPost_ret (results_tmp2 rfl _ _ _) rfl ?_
    exact ⟨none, 0, rfl, (HH.out.quiet hb1).1, ⟨⟨Rd.nil, fun _ _ e => by cases e⟩, fun _ _ e => by cases e⟩, (HH.out.quiet hb1).2, Nat.le_refl _⟩
  · obtain ⟨e1, e2, e3⟩ := many_yes hm
    rw [e1, e2, e3]
    clear h e1 e2 e3
    have HG := Lib.hid (fun (k : Nat) (hk : (k : Int) ≤ max 0 n) => gave m k (by omega))
    have HX := Lib.hid (fun (k : Nat) (hk : (k : Int) < n) => gives_next (m := m) (n := k) (by omega))
    obtain ⟨q, hq⟩ : ∃ q, q = m.count := ⟨_, rfl⟩
    rw [← hq] at hm HC HCL
    clear hq
    go_enter Try.func14, Try.ntmps14
    go_wp2_with fail
    refine Calls.mono HC.out ?_
    rintro e w1 ⟨rfl, hb1⟩
    go_wp2_with fail
    go_loopw [6, 14] (fun v i wr => ∃ (k : Nat), (k : Int) ≤ max 0 n ∧ i = .int .i64 k ∧ OwnI wr w.heap.size v (natI (m.gives k).1) ∧ MapAt wr O g (m.gives k).2 ∧ Chg w wr O) (fun _ i _ => (n - intOf i).toNat)
    case atStart => exact ⟨0, by omega, rfl, World.ownsRow_nil _ _ _ _, HH.out.far hb1, Chg.of_below hb1⟩
    case round =>
      obtain ⟨k, hk, rfl, hown, hat, hc⟩ := hrel
      have hsz := hc.size
      have hgl : g < w.heap.size := HH.out.blk.lt
      have hlen := (HG.out k hk).len
      have hk10 : k ≤ 1024 := by have := HCL.out; omega
      by_cases hlt : (k : Int) < n
      · obtain ⟨i, hi⟩ := HX.out k hlt
        have hstep := gives_succ hi
        have HA : Hid (Calls Try.prog 28 #[.pointer (some ⟨g, 0, none⟩)] wr fun e w' => e = .returned (.tuple #[.int .i64 (i : Int), .int .i64 0]) ∧ MapAt w' O g ((m.gives k).2.put i 1) ∧ Step wr w' O O) := by
          have := malloc_any hat
          have e1 : nextN (m.gives k).2 = i ∧ nextC (m.gives k).2 = 0 ∧ nextM (m.gives k).2 = (m.gives k).2.put i 1 := by unfold nextN nextC nextM; rw [hi]; exact ⟨rfl, rfl, rfl⟩
          rw [e1.1, e1.2.1, e1.2.2] at this
          exact Lib.hid this
        have HS1 : Hid (natI (m.gives (k + 1)).1 = natI (m.gives k).1 ++ [(i : Int)]) := by rw [hstep]; exact natI_snoc _ _
        have HS2 : Hid ((m.gives (k + 1)).2 = (m.gives k).2.put i 1) := by rw [hstep]; exact rfl
        have HL : Hid ((natI (m.gives k).1).length ≤ 1048576) := by rw [natI_len, hlen]; exact Nat.le_trans hk10 (by omega)
        have HO := Lib.hid hown
        have HK := Lib.hid (And.intro hk hk10)
        have hk9 : (k : Int) ≤ 1024 := by omega
        clear hstep hi hat hown hk hk10 hlen
        generalize natI (m.gives k).1 = L at *
        go_wp2_with fail
        refine Calls.mono HA.out ?_
        rintro e w2 ⟨rfl, hat2, hs2⟩
        have hc2 := hc.trans hs2.chg fun _ _ => id
        have hsz2 := hc2.size
        have HO2 : Hid (OwnI w2 w.heap.size _ L) := Lib.hid (own_chg HO.out hs2.chg fun b hb ho => by
          have := (HO.out.lt b hb).1
          have := (HH.out.own b).1 ho
          omega)
        clear HA HO
        go_wp2_with (at_builtin; refine app_int rfl 21 23 rfl w.heap.size _ L rfl HO2.out (i : Int) rfl hsz2 HL.out ?_; intro v' w' hown' hgr)
        go_roundw
        case rel =>
          have hc3 : Chg w2 w' (fun b => u6.ownBlock = some b) := ((Chg.refl w2 _).alloc _).grown hgr fun _ hk => .inl hk
          exact ⟨k + 1, by have := HK.out; omega, by go_num, by rw [HS1.out]; exact hown', by
            rw [HS2.out]
            exact hat2.stay hc3 fun b ho hb => by
              have := (HO2.out.lt b hb).1
              have := (HH.out.own b).1 ho
              omega, hc2.trans hc3 fun b hb ho => by
              have := (HO2.out.lt b ho).1
              omega⟩
        case measure => simp [intOf]; omega
      · have hkn : n.toNat = k ∨ (n < 0 ∧ k = 0) := by omega
        have he : m.gives n.toNat = m.gives k := by
          rcases hkn with e | ⟨e1, e2⟩
          · rw [e]
          · rw [e2, show n.toNat = 0 by omega]
        obtain ⟨A, c, hv, hr, hcap⟩ := own_rd hown
        have HCP := Lib.hid hcap
        clear hcap
        have HO := Lib.hid hown
        subst hv
        have HE := Lib.hid he
        clear he hkn hown
        go_wp2_with fail
        refine bodyPost_ret (results_tmp2 rfl _ _ _) rfl ?_
        rw [HE.out]
        refine ⟨A, c, rfl, hat, ⟨⟨hr, fun b off e hp ho => ?_⟩, fun b off e hp => ?_⟩, ⟨hc, fun _ h => .inl h⟩, HCP.out⟩
        all_goals
          rw [ints_len] at hp
          obtain ⟨g2, cap2, e2, hN, _⟩ := own_form HO.out hp
          rw [e] at e2
          simp only [Value.slice.injEq, Option.some.injEq, Addr.mk.injEq] at e2
        · have := (HH.out.own b).1 ho
          omega
        · omega
end
theorem rot_in {n : Nat} {s : St} {i : Int} {x : Sec} (h : hasF n i = true) : (s.rot n i x).1.nw = s.nw.set i.toNat x ∧ (s.rot n i x).1.left = s.left ∧ (s.rot n i x).1.dead = s.dead ∧ (s.rot n i x).1.pend.length = s.pend.length := by
  unfold St.rot
  rw [if_pos h]
  exact ⟨rfl, rfl, rfl, by simp [rotP]⟩
theorem rot_out {n : Nat} {s : St} {i : Int} {x : Sec} (h : ¬ hasF n i = true) : (s.rot n i x).1 = s := by
  unfold St.rot
  rw [if_neg h]
theorem rot_at {w w' : World} {B g gm : Nat} {D : Dev} {pv : Value} {s : St} {P : Pw} (h : PAt w B g D pv gm s P) (i : Int) (x : Sec) (hA : At w' B P.nw.length D pv (s.rot P.nw.length i x).1) (hG : Goes D w pv w' pv) :
    PAt w' B g D pv gm (s.rot P.nw.length i x).1 (rotW P i x) := by
  unfold rotW
  by_cases hh : hasF P.nw.length i = true
  · rw [if_pos hh]
    obtain ⟨r1, r2, r3, r4⟩ := rot_in (s := s) (x := x) hh
    exact h.onDev hA hG (List.length_set ..) (by rw [r1, h.nw]) (r2.trans h.left) (r3.trans h.dead) (by rw [r4]; exact h.pend)
  · rw [if_neg hh]
    rw [rot_out hh] at hA ⊢
    exact h.onDev (nw' := P.nw) (N' := P.N) hA hG rfl h.nw h.left h.dead h.pend
theorem bmade_any (x : Int) (w : World) (hx : I64 x) : Calls Try.prog 9 #[.int .i64 x] w fun e w' => ∃ O g, e = .returned (.pointer (some ⟨g, 0, none⟩)) ∧ PileAt w' O g (newPw x) ∧ (∀ k, O k → w.heap.size ≤ k) ∧ Below w.heap.size w w' := by
  have HD := Lib.hid (new_any x w)
  go_enter Try.func9, Try.ntmps9
  go_wp2_with fail
  refine Calls.mono HD.out ?_
  rintro e w1 ⟨D, rfl, h1, hb1⟩
  have HM := Lib.hid (mnew_any x w1 hx)
  go_wp2_with fail
  refine Calls.mono HM.out ?_
  rintro e w2 ⟨O2, gm, rfl, h2, hO2, hb2⟩
  have HP := Lib.hid (pileNew_any D.g gm 1 0 w2)
  have HH := Lib.hid (And.intro h1 (And.intro h2 (And.intro hO2 (And.intro hb1 hb2))))
  clear h1 h2 hO2 hb1 hb2 HD HM
  go_wp2_with fail
  refine Calls.mono HP.out ?_
  rintro e w3 ⟨g, rfl, hg, hbl, hb3⟩
  go_wp2_with fail
  go_ret
  obtain ⟨h1, h2, hO2, hb1, hb2⟩ := HH.out
  have hgm : w1.heap.size ≤ gm := hO2 gm ((h2.own gm).2 rfl)
  have hb13 : Below w1.heap.size w1 w3 := hb2.trans (hb3.mono hb2.size)
  have hd : At w3 w.heap.size (newPw x).nw.length D (.slice none 0 0) (newSt (manyF x)) := by
    have e : (newPw x).nw.length = manyF x := by show (List.replicate _ zsec).length = _; rw [List.length_replicate]; rfl
    rw [e]
    exact h1.chg (O := fun _ => False) (Chg.of_below hb13) fun _ _ => id
  have hmt : (newMp x).tot ≤ (newPw x).nw.length := by
    show _ ≤ (List.replicate _ zsec).length
    rw [List.length_replicate]
    show (min (max x 0) 1024).toNat ≤ _
    omega
  have hP : PAt w3 w.heap.size g D (.slice none 0 0) gm (newSt (manyF x)) (newPw x) :=
    ⟨hbl, hd, ⟨h2.blk.below hb3 h2.blk.lt, fun _ => Iff.rfl, h2.tot, h2.two⟩, rfl, rfl, rfl, Nat.le_refl _, ⟨Nat.le_trans hb1.size (Nat.le_trans hb2.size hg), Nat.le_trans hb1.size hgm⟩, hmt, by show 1 < _; omega, by show 0 < _; omega⟩
  refine ⟨pown D (.slice none 0 0) g gm, g, rfl, ⟨_, _, _, _, _, hP, fun _ => Iff.rfl⟩, fun k hk => ?_, hb1.trans (hb13.mono hb1.size)⟩
  rcases hk with rfl | rfl | hk
  · exact hP.bg.1
  · exact hP.bg.2
  · exact hP.dev.ge k hk

theorem manyM_tot (m : Mp) (n : Int) : (manyM m n).tot = m.tot := by
  by_cases h : (m.count : Int) < n
  · rw [(many_no h).2.2]
  · rw [(many_yes h).2.2]
    exact (gave m n.toNat (by omega)).tot
theorem rdf_map {w w' : World} {B g gm : Nat} {D : Dev} {pv : Value} {s : St} {P : Pw} {O : Nat → Prop} {A : Option Addr} {xs : List Value} (h : PAt w B g D pv gm s P) (hO : ∀ k, O k ↔ pown D pv g gm k) (hr : RdF w w' (fun k => k = gm) A xs) : RdF w w' O A xs :=
  ⟨⟨hr.rd, fun b off e hn ho => by
    have h1 := hr.fresh b off e hn
    have h2 := h.lt b ((hO b).1 ho)
    omega⟩, hr.fresh⟩

theorem read_at {w w' : World} {B g gm : Nat} {D : Dev} {pv : Value} {s : St} {P : Pw} (h : PAt w B g D pv gm s P) (hA : At w' B P.nw.length D pv s.count) (hG : Goes D w pv w' pv) : PAt w' B g D pv gm s.count P :=
  h.onDev (nw' := P.nw) (N' := P.N) hA hG rfl h.nw h.left h.dead h.pend
theorem read_is {w : World} {B g gm : Nat} {D : Dev} {pv : Value} {s : St} {P : Pw} (h : PAt w B g D pv gm s P) (i : Int) : s.read P.nw.length i = readS P i := by
  unfold St.read readS
  rw [h.dead, h.nw]
  rfl
theorem blobCalls : BlobCalls PileAt where
  foot h := h.foot
  stay h c hn := h.stay c hn
  made m w hm := bmade_any (m : Int) w (by unfold I64; omega)
  map h := by
    obtain ⟨B, D, pv, gm, s, hp, hO⟩ := h.ex
    refine ⟨gm, (map0_any hp).mono fun e w' ⟨e1, hb⟩ => ⟨e1, hb, fun w2 n hb2 hn => ?_⟩⟩
    have hp2 := (hp.far hb).far hb2
    exact (mmany_any (n : Int) (by unfold I64; omega) hp2.map).mono fun e w3 ⟨A, c, e2, h3, h4, h5, h6⟩ => ⟨_, A, c, e2, ⟨B, D, pv, gm, s, hp2.onMap h3 h5 (manyM_tot _ _), hO⟩, rdf_map hp2 hO h4, pstep_map hO h5, h6⟩
  dev h hN := by
    obtain ⟨B, D, pv, gm, s, hp, hO⟩ := h.ex
    refine ⟨D.g, (dev0_any hp).mono fun e w' ⟨e1, hb⟩ => ⟨e1, hb, fun w2 i hi hb2 => ⟨?_, fun x => ?_⟩⟩⟩
    · have hp2 := (hp.far hb).far hb2
      have hrd := read_any hp2.dev i
      rw [read_is hp2] at hrd
      exact hrd.mono fun e w3 ⟨e2, hA, hG⟩ => ⟨_, e2, ⟨B, D, pv, gm, _, read_at hp2 hA hG, fun _ => Iff.rfl⟩, pstep_dev hO hG⟩
    · have hp2 := (hp.far hb).far hb2
      exact (rot_any hp2.dev (Nat.le_trans hp.pend hN) i x).mono fun e w3 ⟨e2, hA, hG⟩ => ⟨_, _, e2, ⟨B, D, pv, gm, _, rot_at hp2 i x hA hG, fun _ => Iff.rfl⟩, pstep_dev hO hG⟩
  get q _ h := pileGet h q
  need n w hn := need_any n w hn
  save A A2 c c2 l at_ h ok h1 h2 h3 h4 h5 h6 h7 h8 h9 h10 := save_any h ok A A2 c c2 l at_ ⟨h1, h2⟩ h3 h4 h5 h6 h7 h8 h9 h10
  saveNo h := saveNo_any h
  load q n _ hn h := bload_any h q n hn
end
end Go.Proofs.Ytdcegkeaopjbnaa
