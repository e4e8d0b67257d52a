/- The laws on spans, walked: SpanRights, SpanMixes, SpanAdds, SpanTurns. -/
import Derived.Test.YtckpjcimakeaeaaW10
namespace Go.Proofs.Ytckpjcimakeaeaa
open Go.RowKit

set_option maxHeartbeats 1000000 in
theorem spanRights_any (w : World) (A : Option Addr) (c : Nat) (l : List Sp) (hR : Rd w w.heap.size A (spc l)) (hO : SpOk l) (_hc : l.length ≤ c) (_hN : A = none → c = 0) (hL : l.length * 16 ≤ 140737488351232)
    (B : Option Addr) (d : Nat) (m : List Int) (kR : Rd w w.heap.size B (ints m)) (_kO : ∀ x ∈ m, I64 x) (_kc : m.length ≤ d) (kN : B = none → d = 0) (kL : m.length * 8 ≤ 140737488351232) :
    Calls Try.prog 4 #[.slice A l.length c, .slice B m.length d] w fun e w' => e = .returned (.bool true) ∧ Below w.heap.size w w' := by
  have HN := Lib.hid kN
  have HL := Lib.hid (And.intro hL kL)
  clear kN hL kL
  go_enter Try.func4, Try.ntmps4
  go_wp2_with (at_builtin; refine app_ints rfl 6 7 rfl w.heap.size _ [] rfl (own_empty w 3 1) B d m rfl ((kR.below ((Below.refl _ _).alloc (Nat.le_refl _) _)).mono (by simp)) HN.out (by simp) (by have := HL.out; simp; omega) ?_; intro v1 w1 ho1 hg1)
  have hb1 : Below w.heap.size w w1 := below_own ((Below.refl _ _).alloc (Nat.le_refl _) _) (own_empty w 3 1) (Nat.le_refl _) (by simp) hg1
  obtain ⟨A1, c1, rfl, r1, _⟩ := own_rd ho1
  simp only [List.nil_append] at *
  clear ho1 hg1
  have hbe : (rightF 0 l == rightF 0 l) = true := by simp
  refine (alive_any _).mono ?_
  rintro e w2 ⟨rfl, hb2⟩
  have t2 := below_next hb1 hb2
  go_wp2_with fail
  refine (right_any A c l w2 ((hR.below t2).mono t2.size) hO (by have := HL.out; omega)).mono ?_
  rintro e w3 ⟨rfl, hb3⟩
  have t3 := below_next t2 hb3
  go_wp2_with fail
  refine (rright_any A c l w3 ((hR.below t3).mono t3.size) hO (by have := HL.out; omega)).mono ?_
  rintro e w4 ⟨rfl, hb4⟩
  have t4 := below_next t3 hb4
  go_wp2_with fail
  have u4 := ((r1.below (hb2.trans (hb3.mono hb2.size))).below (hb4.mono (below_next hb2 hb3).size)).mono (B' := w4.heap.size) (below_next (below_next hb2 hb3) hb4).size
  refine (of_set u4 (by have := HL.out; omega)).mono ?_
  rintro e w5 ⟨A5, c5, rfl, s5, hb5⟩
  have t5 := below_next t4 hb5
  go_wp2_with fail
  refine (rof_set (c := d) ((kR.below t5).mono t5.size) (by have := HL.out; omega)).mono ?_
  rintro e w6 ⟨A6, c6, rfl, s6, hb6⟩
  have t6 := below_next t5 hb6
  go_wp2_with fail
  refine (same_yes (s5.later hb6) s6 rfl).mono ?_
  rintro e w7 ⟨rfl, hb7⟩
  have t7 := below_next t6 hb7
  go_wp2_with fail
  have u7 := (u4.below (below_next (below_next hb5 hb6) hb7)).mono (B' := w7.heap.size) (below_next (below_next hb5 hb6) hb7).size
  refine (sameints_any A1 B c1 d m m w7 u7 ((kR.below t7).mono t7.size) (by have := HL.out; omega)).mono ?_
  rintro e w8 ⟨rfl, hb8⟩
  have t8 := below_next t7 hb8
  have hmm : decide (m = m) = true := by simp
  go_wp2_with fail
  go_ret
  exact ⟨by simp, t8⟩

set_option maxHeartbeats 2000000 in
theorem spanMixes_any (w : World) (A0 : Option Addr) (c0 : Nat) (l0 : List Sp) (hR0 : Rd w w.heap.size A0 (spc l0)) (hO0 : SpOk l0) (hc0 : l0.length ≤ c0) (hN0 : A0 = none → c0 = 0) (hL0 : l0.length * 16 ≤ 140737488351232) (A1 : Option Addr) (c1 : Nat) (l1 : List Sp) (hR1 : Rd w w.heap.size A1 (spc l1)) (hO1 : SpOk l1) (hc1 : l1.length ≤ c1) (hN1 : A1 = none → c1 = 0) (hL1 : l1.length * 16 ≤ 140737488351232) :
    Calls Try.prog 6 #[.slice A0 l0.length c0, .slice A1 l1.length c1] w fun e w' => e = .returned (.bool true) ∧ Below w.heap.size w w' := by
  have HN := Lib.hid (And.intro hN0 hN1)
  have HL := Lib.hid (And.intro hL0 hL1)
  clear hN0 hN1 hL0 hL1
  go_enter Try.func6, Try.ntmps6
  go_wp2_with fail
  refine (alive_any _).mono ?_
  rintro e w1 ⟨rfl, hb1⟩
  by_cases hr0 : rightF 0 l0 = true
  · by_cases hr1 : rightF 0 l1 = true
    · have hra := rright_any A0 c0 l0 w1 ((hR0.below hb1).mono hb1.size) hO0 (by have := HL.out; omega)
      rw [hr0] at hra
      have HRA := Lib.hid hra
      clear hra
      go_wp2_with fail
      refine HRA.out.mono ?_
      rintro e w2 ⟨rfl, hb2⟩
      have t2 := below_next hb1 hb2
      have hrb := rright_any A1 c1 l1 w2 ((hR1.below t2).mono t2.size) hO1 (by have := HL.out; omega)
      rw [hr1] at hrb
      have HRB := Lib.hid hrb
      clear hrb HRA
      go_wp2_with fail
      refine HRB.out.mono ?_
      rintro e w3 ⟨rfl, hb3⟩
      have t3 := below_next t2 hb3
      have z0 : SetAt w3 A0 c0 l0 := ⟨(hR0.below t3).mono t3.size, hr0, hc0⟩
      have z1 : SetAt w3 A1 c1 l1 := ⟨(hR1.below t3).mono t3.size, hr1, hc1⟩
      have HR := Lib.hid (And.intro hr0 hr1)
      clear hr0 hr1 HRB
      go_wp2_with (first
        | (at_builtin; refine app_spans rfl 20 21 rfl w3.heap.size _ [] rfl (own_empty w3 34 2) A0 c0 l0 rfl ((z0.rd.below ((Below.refl _ _).alloc (Nat.le_refl _) _)).mono (by simp)) HN.out.1 (by simp) (by have := HL.out; simp; omega) ?_; intro v4 w4 ho4 hg4; have hb4 : Below w3.heap.size w3 w4 := below_own ((Below.refl _ _).alloc (Nat.le_refl _) _) (own_empty w3 34 2) (Nat.le_refl _) (by simp) hg4)
        | (at_builtin; refine app_spans rfl 23 24 rfl w4.heap.size _ [] rfl (own_empty w4 34 2) A1 c1 l1 rfl (((z1.later hb4).rd.below ((Below.refl _ _).alloc (Nat.le_refl _) _)).mono (by simp)) HN.out.2 (by simp) (by have := HL.out; simp; omega) ?_; intro v5 w5 ho5 hg5; have hb5 : Below w4.heap.size w4 w5 := below_own ((Below.refl _ _).alloc (Nat.le_refl _) _) (own_empty w4 34 2) (Nat.le_refl _) (by simp) hg5))
      obtain ⟨Bx, dx, rfl, rx, cx⟩ := own_rd ho4
      obtain ⟨By, dy, rfl, ry, cy⟩ := own_rd ho5
      simp only [List.nil_append] at rx ry cx cy
      simp only [List.nil_append]
      have x : SetAt w5 Bx dx l0 := (⟨rx, HR.out.1, cx⟩ : SetAt w4 Bx dx l0).later hb5
      have y : SetAt w5 By dy l1 := ⟨ry, HR.out.2, cy⟩
      replace z0 := (z0.later hb4).later hb5
      replace z1 := (z1.later hb4).later hb5
      have t := below_next (below_next t3 hb4) hb5
      clear hb1 hb2 hb3 t2 t3 hb4 hb5 rx ry ho4 ho5 hg4 hg5
      refine (join_set x y).mono ?_
      rintro e w6 ⟨Bj, dj, rfl, j, hb6⟩
      replace t := below_next t hb6
      replace z0 := z0.later hb6
      replace z1 := z1.later hb6
      replace x := x.later hb6
      replace y := y.later hb6
      clear hb6
      go_wp2_with fail
      refine (cut_set x y).mono ?_
      rintro e w7 ⟨Bk, dk, rfl, k, hb7⟩
      replace t := below_next t hb7
      replace z0 := z0.later hb7
      replace z1 := z1.later hb7
      replace x := x.later hb7
      replace y := y.later hb7
      replace j := j.later hb7
      clear hb7
      go_wp2_with fail
      refine (both_set x y).mono ?_
      rintro e w8 ⟨Bq, dq, rfl, q, hb8⟩
      replace t := below_next t hb8
      replace z0 := z0.later hb8
      replace z1 := z1.later hb8
      replace x := x.later hb8
      replace y := y.later hb8
      replace j := j.later hb8
      replace k := k.later hb8
      clear hb8
      go_wp2_with fail
      refine (same_yes x z0 rfl).mono ?_
      rintro e w9 ⟨rfl, hb9⟩
      replace t := below_next t hb9
      replace z0 := z0.later hb9
      replace z1 := z1.later hb9
      replace x := x.later hb9
      replace y := y.later hb9
      replace j := j.later hb9
      replace k := k.later hb9
      replace q := q.later hb9
      clear hb9
      go_wp2_with fail
      refine (same_yes y z1 rfl).mono ?_
      rintro e w10 ⟨rfl, hb10⟩
      replace t := below_next t hb10
      replace z0 := z0.later hb10
      replace z1 := z1.later hb10
      replace x := x.later hb10
      replace y := y.later hb10
      replace j := j.later hb10
      replace k := k.later hb10
      replace q := q.later hb10
      clear hb10
      go_wp2_with fail
      refine (mix_set z0 z1 0 (by omega)).mono ?_
      rintro e w11 ⟨Bm0, dm0, rfl, m0, hb11⟩
      replace t := below_next t hb11
      replace z0 := z0.later hb11
      replace z1 := z1.later hb11
      replace x := x.later hb11
      replace y := y.later hb11
      replace j := j.later hb11
      replace k := k.later hb11
      replace q := q.later hb11
      clear hb11
      go_wp2_with fail
      refine (same_yes j m0 (canon_congr fun _ _ _ => rfl)).mono ?_
      rintro e w12 ⟨rfl, hb12⟩
      replace t := below_next t hb12
      replace z0 := z0.later hb12
      replace z1 := z1.later hb12
      replace x := x.later hb12
      replace y := y.later hb12
      replace j := j.later hb12
      replace k := k.later hb12
      replace q := q.later hb12
      replace m0 := m0.later hb12
      clear hb12
      go_wp2_with fail
      refine (mix_set z0 z1 1 (by omega)).mono ?_
      rintro e w13 ⟨Bm1, dm1, rfl, m1, hb13⟩
      replace t := below_next t hb13
      replace z0 := z0.later hb13
      replace z1 := z1.later hb13
      replace x := x.later hb13
      replace y := y.later hb13
      replace j := j.later hb13
      replace k := k.later hb13
      replace q := q.later hb13
      replace m0 := m0.later hb13
      clear hb13
      go_wp2_with fail
      refine (same_yes k m1 (canon_congr fun _ _ _ => rfl)).mono ?_
      rintro e w14 ⟨rfl, hb14⟩
      replace t := below_next t hb14
      replace z0 := z0.later hb14
      replace z1 := z1.later hb14
      replace x := x.later hb14
      replace y := y.later hb14
      replace j := j.later hb14
      replace k := k.later hb14
      replace q := q.later hb14
      replace m0 := m0.later hb14
      replace m1 := m1.later hb14
      clear hb14
      go_wp2_with fail
      refine (mix_set z0 z1 2 (by omega)).mono ?_
      rintro e w15 ⟨Bm2, dm2, rfl, m2, hb15⟩
      replace t := below_next t hb15
      replace z0 := z0.later hb15
      replace z1 := z1.later hb15
      replace x := x.later hb15
      replace y := y.later hb15
      replace j := j.later hb15
      replace k := k.later hb15
      replace q := q.later hb15
      replace m0 := m0.later hb15
      replace m1 := m1.later hb15
      clear hb15
      go_wp2_with fail
      refine (same_yes q m2 (canon_congr fun _ _ _ => rfl)).mono ?_
      rintro e w16 ⟨rfl, hb16⟩
      replace t := below_next t hb16
      replace z0 := z0.later hb16
      replace z1 := z1.later hb16
      replace x := x.later hb16
      replace y := y.later hb16
      replace j := j.later hb16
      replace k := k.later hb16
      replace q := q.later hb16
      replace m0 := m0.later hb16
      replace m1 := m1.later hb16
      replace m2 := m2.later hb16
      clear hb16
      go_wp2_with fail
      go_ret
      exact ⟨rfl, t⟩
    · have hra := rright_any A0 c0 l0 w1 ((hR0.below hb1).mono hb1.size) hO0 (by have := HL.out; omega)
      rw [hr0] at hra
      have HRA := Lib.hid hra
      clear hra
      go_wp2_with fail
      refine HRA.out.mono ?_
      rintro e w2 ⟨rfl, hb2⟩
      have t2 := below_next hb1 hb2
      have hrb := rright_any A1 c1 l1 w2 ((hR1.below t2).mono t2.size) hO1 (by have := HL.out; omega)
      rw [Bool.eq_false_iff.2 hr1] at hrb
      have HRB := Lib.hid hrb
      clear hrb HRA hr0 hr1
      go_wp2_with fail
      refine HRB.out.mono ?_
      rintro e w3 ⟨rfl, hb3⟩
      have t3 := below_next t2 hb3
      go_wp2_with fail
      go_ret
      exact ⟨rfl, t3⟩
  · have hra := rright_any A0 c0 l0 w1 ((hR0.below hb1).mono hb1.size) hO0 (by have := HL.out; omega)
    rw [Bool.eq_false_iff.2 hr0] at hra
    have HRA := Lib.hid hra
    clear hra hr0
    go_wp2_with fail
    refine HRA.out.mono ?_
    rintro e w2 ⟨rfl, hb2⟩
    have t2 := below_next hb1 hb2
    go_wp2_with fail
    go_ret
    exact ⟨rfl, t2⟩

/-! The plain laws on sets. -/
theorem mem_join (l m : List Sp) {n : Int} (h0 : 0 ≤ n) (h1 : n < 4096) : memF (joinS l m) n = (memF l n || memF m n) := by simp [joinS, canon_mem, h0, h1]
theorem mem_cut (l m : List Sp) {n : Int} (h0 : 0 ≤ n) (h1 : n < 4096) : memF (cutS l m) n = (memF l n && !memF m n) := by simp [cutS, canon_mem, h0, h1]
theorem mem_both (l m : List Sp) {n : Int} (h0 : 0 ≤ n) (h1 : n < 4096) : memF (bothS l m) n = (memF l n && memF m n) := by simp [bothS, canon_mem, h0, h1]
theorem total_cnt {l : List Sp} (h : rightF 0 l = true) : total l = cnt (memF l) 4096 := by
  have := total_build (memF l) 4096
  rw [← this]
  exact congrArg total (canon_of h).symm
theorem total_canon (S : Int → Bool) : total (canon S) = cnt S 4096 := total_build S 4096
theorem adds_total {l m : List Sp} (h : rightF 0 l = true) (k : rightF 0 m = true) : total (joinS l m) + total (bothS l m) = total l + total m := by
  rw [joinS, bothS, total_canon, total_canon, total_cnt h, total_cnt k]
  exact cnt_add (fun n _ _ => by cases memF l n <;> cases memF m n <;> rfl) 4096 (Nat.le_refl _)
theorem adds_back {l m : List Sp} (h : rightF 0 l = true) (_k : rightF 0 m = true) : joinS (cutS l m) (bothS l m) = l :=
  canon_eq h fun n h0 h1 => by rw [mem_cut l m h0 h1, mem_both l m h0 h1]; cases memF l n <;> cases memF m n <;> rfl
theorem adds_join {l m : List Sp} (_h : rightF 0 l = true) (_k : rightF 0 m = true) : joinS (cutS l m) m = joinS l m :=
  canon_congr fun n h0 h1 => by rw [mem_cut l m h0 h1]; cases memF l n <;> cases memF m n <;> rfl
theorem adds_none (l m : List Sp) : bothS (cutS l m) m = [] :=
  canon_eq rfl fun n h0 h1 => by rw [mem_cut l m h0 h1]; cases memF l n <;> cases memF m n <;> rfl
theorem turns_join (a b c : List Sp) : joinS (joinS a b) c = joinS a (joinS c b) :=
  canon_congr fun n h0 h1 => by rw [mem_join a b h0 h1, mem_join c b h0 h1]; cases memF a n <;> cases memF b n <;> cases memF c n <;> rfl
theorem turns_both (a b c : List Sp) : bothS (bothS a b) c = bothS b (bothS c a) :=
  canon_congr fun n h0 h1 => by rw [mem_both a b h0 h1, mem_both c a h0 h1]; cases memF a n <;> cases memF b n <;> cases memF c n <;> rfl
theorem turns_cut (a b c : List Sp) : cutS (cutS a b) c = cutS a (joinS b c) :=
  canon_congr fun n h0 h1 => by rw [mem_cut a b h0 h1, mem_join b c h0 h1]; cases memF a n <;> cases memF b n <;> cases memF c n <;> rfl

set_option maxHeartbeats 2000000 in
theorem spanAdds_any (w : World) (A0 : Option Addr) (c0 : Nat) (l0 : List Sp) (hR0 : Rd w w.heap.size A0 (spc l0)) (hO0 : SpOk l0) (hc0 : l0.length ≤ c0) (_hN0 : A0 = none → c0 = 0) (hL0 : l0.length * 16 ≤ 140737488351232) (A1 : Option Addr) (c1 : Nat) (l1 : List Sp) (hR1 : Rd w w.heap.size A1 (spc l1)) (hO1 : SpOk l1) (hc1 : l1.length ≤ c1) (_hN1 : A1 = none → c1 = 0) (hL1 : l1.length * 16 ≤ 140737488351232) :
    Calls Try.prog 7 #[.slice A0 l0.length c0, .slice A1 l1.length c1] w fun e w' => e = .returned (.bool true) ∧ Below w.heap.size w w' := by
  have hl0 : l0.length ≤ 4503599627370496 := by omega
  have HL0 := Lib.hid hl0
  clear hl0 hL0
  have hl1 : l1.length ≤ 4503599627370496 := by omega
  have HL1 := Lib.hid hl1
  clear hl1 hL1
  go_enter Try.func7, Try.ntmps7
  go_wp2_with fail
  refine (alive_any _).mono ?_
  rintro e w1 ⟨rfl, t⟩
  have hr0 := right_any A0 c0 l0 w1 ((hR0.below t).mono t.size) hO0 HL0.out
  by_cases e0 : rightF 0 l0 = true
  · rw [e0] at hr0
    have G0 := Lib.hid hr0
    have E0 := Lib.hid e0
    clear hr0 e0
    go_wp2_with fail
    refine G0.out.mono ?_
    rintro e w2 ⟨rfl, hb⟩
    replace t := below_next t hb
    clear hb G0
    have hr1 := right_any A1 c1 l1 w2 ((hR1.below t).mono t.size) hO1 HL1.out
    by_cases e1 : rightF 0 l1 = true
    · rw [e1] at hr1
      have G1 := Lib.hid hr1
      have E1 := Lib.hid e1
      clear hr1 e1
      go_wp2_with fail
      refine G1.out.mono ?_
      rintro e w3 ⟨rfl, hb⟩
      replace t := below_next t hb
      clear hb G1
      have z0 : SetAt w3 A0 c0 l0 := ⟨(hR0.below t).mono t.size, E0.out, hc0⟩
      have z1 : SetAt w3 A1 c1 l1 := ⟨(hR1.below t).mono t.size, E1.out, hc1⟩
      have hT := adds_total E0.out E1.out
      have hB := And.intro (total_right (by omega) (by omega) E0.out) (total_right (by omega) (by omega) E1.out)
      have hC := And.intro (total_right (by omega) (by omega) (joinS_right l0 l1)) (total_right (by omega) (by omega) (bothS_right l0 l1))
      have HT := Lib.hid (And.intro hT (And.intro hB hC))
      clear hT hB hC
      go_wp2_with fail
      refine (join_set z0 z1).mono ?_
      rintro e w4 ⟨Bj, dj, rfl, j, hb4⟩
      replace t := below_next t hb4
      replace z0 := z0.later hb4
      replace z1 := z1.later hb4
      clear hb4
      go_wp2_with fail
      refine (cut_set z0 z1).mono ?_
      rintro e w5 ⟨Bk, dk, rfl, k, hb5⟩
      replace t := below_next t hb5
      replace z0 := z0.later hb5
      replace z1 := z1.later hb5
      replace j := j.later hb5
      clear hb5
      go_wp2_with fail
      refine (both_set z0 z1).mono ?_
      rintro e w6 ⟨Bq, dq, rfl, q, hb6⟩
      replace t := below_next t hb6
      replace z0 := z0.later hb6
      replace z1 := z1.later hb6
      replace j := j.later hb6
      replace k := k.later hb6
      clear hb6
      go_wp2_with fail
      refine (right_set j).mono ?_
      rintro e w7 ⟨rfl, hb7⟩
      replace t := below_next t hb7
      replace z0 := z0.later hb7
      replace z1 := z1.later hb7
      replace j := j.later hb7
      replace k := k.later hb7
      replace q := q.later hb7
      clear hb7
      go_wp2_with fail
      refine (right_set k).mono ?_
      rintro e w8 ⟨rfl, hb8⟩
      replace t := below_next t hb8
      replace z0 := z0.later hb8
      replace z1 := z1.later hb8
      replace j := j.later hb8
      replace k := k.later hb8
      replace q := q.later hb8
      clear hb8
      go_wp2_with fail
      refine (right_set q).mono ?_
      rintro e w9 ⟨rfl, hb9⟩
      replace t := below_next t hb9
      replace z0 := z0.later hb9
      replace z1 := z1.later hb9
      replace j := j.later hb9
      replace k := k.later hb9
      replace q := q.later hb9
      clear hb9
      go_wp2_with fail
      refine (count_set j).mono ?_
      rintro e w10 ⟨rfl, hb10⟩
      replace t := below_next t hb10
      replace z0 := z0.later hb10
      replace z1 := z1.later hb10
      replace j := j.later hb10
      replace k := k.later hb10
      replace q := q.later hb10
      clear hb10
      go_wp2_with fail
      refine (count_set q).mono ?_
      rintro e w11 ⟨rfl, hb11⟩
      replace t := below_next t hb11
      replace z0 := z0.later hb11
      replace z1 := z1.later hb11
      replace j := j.later hb11
      replace k := k.later hb11
      replace q := q.later hb11
      clear hb11
      go_wp2_with fail
      refine (count_set z0).mono ?_
      rintro e w12 ⟨rfl, hb12⟩
      replace t := below_next t hb12
      replace z0 := z0.later hb12
      replace z1 := z1.later hb12
      replace j := j.later hb12
      replace k := k.later hb12
      replace q := q.later hb12
      clear hb12
      go_wp2_with fail
      refine (count_set z1).mono ?_
      rintro e w13 ⟨rfl, hb13⟩
      replace t := below_next t hb13
      replace z0 := z0.later hb13
      replace z1 := z1.later hb13
      replace j := j.later hb13
      replace k := k.later hb13
      replace q := q.later hb13
      clear hb13
      have hne : (total (joinS l0 l1) + total (bothS l0 l1) != total l0 + total l1) = false := by rw [bne_eq_false_iff_eq]; exact HT.out.1
      have hI : IntKind.i64.wrap (total (joinS l0 l1) + total (bothS l0 l1)) = total (joinS l0 l1) + total (bothS l0 l1) := IntWalk.i64_in _ (by have := HT.out; omega)
      have hw1 : wrap64 (total (joinS l0 l1) + total (bothS l0 l1)) = total (joinS l0 l1) + total (bothS l0 l1) := IntWalk.wrap64_in _ (by have := HT.out; omega)
      have hw2 : wrap64 (total l0 + total l1) = total l0 + total l1 := IntWalk.wrap64_in _ (by have := HT.out; omega)
      clear hI
      go_wp2_with fail
      refine (join_set k q).mono ?_
      rintro e w14 ⟨Ba, da, rfl, a, hb14⟩
      replace t := below_next t hb14
      replace z0 := z0.later hb14
      replace z1 := z1.later hb14
      replace j := j.later hb14
      replace k := k.later hb14
      replace q := q.later hb14
      clear hb14
      go_wp2_with fail
      refine (same_yes a z0 (adds_back E0.out E1.out)).mono ?_
      rintro e w15 ⟨rfl, hb15⟩
      replace t := below_next t hb15
      replace z0 := z0.later hb15
      replace z1 := z1.later hb15
      replace j := j.later hb15
      replace k := k.later hb15
      replace q := q.later hb15
      replace a := a.later hb15
      clear hb15
      go_wp2_with fail
      refine (join_set k z1).mono ?_
      rintro e w16 ⟨Bb, db, rfl, b, hb16⟩
      replace t := below_next t hb16
      replace z0 := z0.later hb16
      replace z1 := z1.later hb16
      replace j := j.later hb16
      replace k := k.later hb16
      replace q := q.later hb16
      replace a := a.later hb16
      clear hb16
      go_wp2_with fail
      refine (same_yes b j (adds_join E0.out E1.out)).mono ?_
      rintro e w17 ⟨rfl, hb17⟩
      replace t := below_next t hb17
      replace z0 := z0.later hb17
      replace z1 := z1.later hb17
      replace j := j.later hb17
      replace k := k.later hb17
      replace q := q.later hb17
      replace a := a.later hb17
      replace b := b.later hb17
      clear hb17
      go_wp2_with fail
      refine (both_set k z1).mono ?_
      rintro e w18 ⟨Bf, df, rfl, f, hb18⟩
      replace t := below_next t hb18
      replace z0 := z0.later hb18
      replace z1 := z1.later hb18
      replace j := j.later hb18
      replace k := k.later hb18
      replace q := q.later hb18
      replace a := a.later hb18
      replace b := b.later hb18
      clear hb18
      have hl0 : (bothS (cutS l0 l1) l1).length = 0 := by rw [adds_none]; rfl
      have hl1 : (((bothS (cutS l0 l1) l1).length : Int) == 0) = true := by rw [hl0]; rfl
      clear hl0
      go_wp2_with fail
      go_ret
      exact ⟨by simp, t⟩
    · rw [Bool.eq_false_iff.2 e1] at hr1
      have G1 := Lib.hid hr1
      clear hr1 e1
      go_wp2_with fail
      refine G1.out.mono ?_
      rintro e w3 ⟨rfl, hb⟩
      replace t := below_next t hb
      go_wp2_with fail
      go_ret
      exact ⟨rfl, t⟩
  · rw [Bool.eq_false_iff.2 e0] at hr0
    have G0 := Lib.hid hr0
    clear hr0 e0
    go_wp2_with fail
    refine G0.out.mono ?_
    rintro e w2 ⟨rfl, hb⟩
    replace t := below_next t hb
    go_wp2_with fail
    go_ret
    exact ⟨rfl, t⟩

set_option maxHeartbeats 2000000 in
theorem spanTurns_any (w : World) (A0 : Option Addr) (c0 : Nat) (l0 : List Sp) (hR0 : Rd w w.heap.size A0 (spc l0)) (hO0 : SpOk l0) (hc0 : l0.length ≤ c0) (_hN0 : A0 = none → c0 = 0) (hL0 : l0.length * 16 ≤ 140737488351232) (A1 : Option Addr) (c1 : Nat) (l1 : List Sp) (hR1 : Rd w w.heap.size A1 (spc l1)) (hO1 : SpOk l1) (hc1 : l1.length ≤ c1) (_hN1 : A1 = none → c1 = 0) (hL1 : l1.length * 16 ≤ 140737488351232) (A2 : Option Addr) (c2 : Nat) (l2 : List Sp) (hR2 : Rd w w.heap.size A2 (spc l2)) (hO2 : SpOk l2) (hc2 : l2.length ≤ c2) (_hN2 : A2 = none → c2 = 0) (hL2 : l2.length * 16 ≤ 140737488351232) :
    Calls Try.prog 9 #[.slice A0 l0.length c0, .slice A1 l1.length c1, .slice A2 l2.length c2] w fun e w' => e = .returned (.bool true) ∧ Below w.heap.size w w' := by
  have hl0 : l0.length ≤ 4503599627370496 := by omega
  have HL0 := Lib.hid hl0
  clear hl0 hL0
  have hl1 : l1.length ≤ 4503599627370496 := by omega
  have HL1 := Lib.hid hl1
  clear hl1 hL1
  have hl2 : l2.length ≤ 4503599627370496 := by omega
  have HL2 := Lib.hid hl2
  clear hl2 hL2
  go_enter Try.func9, Try.ntmps9
  go_wp2_with fail
  refine (alive_any _).mono ?_
  rintro e w1 ⟨rfl, t⟩
  have hr0 := right_any A0 c0 l0 w1 ((hR0.below t).mono t.size) hO0 HL0.out
  by_cases e0 : rightF 0 l0 = true
  · rw [e0] at hr0
    have G0 := Lib.hid hr0
    have E0 := Lib.hid e0
    clear hr0 e0
    go_wp2_with fail
    refine G0.out.mono ?_
    rintro e w2 ⟨rfl, hb⟩
    replace t := below_next t hb
    clear hb G0
    have hr1 := right_any A1 c1 l1 w2 ((hR1.below t).mono t.size) hO1 HL1.out
    by_cases e1 : rightF 0 l1 = true
    · rw [e1] at hr1
      have G1 := Lib.hid hr1
      have E1 := Lib.hid e1
      clear hr1 e1
      go_wp2_with fail
      refine G1.out.mono ?_
      rintro e w3 ⟨rfl, hb⟩
      replace t := below_next t hb
      clear hb G1
      have hr2 := right_any A2 c2 l2 w3 ((hR2.below t).mono t.size) hO2 HL2.out
      by_cases e2 : rightF 0 l2 = true
      · rw [e2] at hr2
        have G2 := Lib.hid hr2
        have E2 := Lib.hid e2
        clear hr2 e2
        go_wp2_with fail
        refine G2.out.mono ?_
        rintro e w4 ⟨rfl, hb⟩
        replace t := below_next t hb
        clear hb G2
        have z0 : SetAt w4 A0 c0 l0 := ⟨(hR0.below t).mono t.size, E0.out, hc0⟩
        have z1 : SetAt w4 A1 c1 l1 := ⟨(hR1.below t).mono t.size, E1.out, hc1⟩
        have z2 : SetAt w4 A2 c2 l2 := ⟨(hR2.below t).mono t.size, E2.out, hc2⟩
        go_wp2_with fail
        refine (join_set z0 z1).mono ?_
        rintro e w5 ⟨Bab, dab, rfl, ab, hb5⟩
        replace t := below_next t hb5
        replace z0 := z0.later hb5
        replace z1 := z1.later hb5
        replace z2 := z2.later hb5
        clear hb5
        go_wp2_with fail
        refine (join_set ab z2).mono ?_
        rintro e w6 ⟨Bx, dx, rfl, x, hb6⟩
        replace t := below_next t hb6
        replace z0 := z0.later hb6
        replace z1 := z1.later hb6
        replace z2 := z2.later hb6
        replace ab := ab.later hb6
        clear hb6
        go_wp2_with fail
        refine (join_set z2 z1).mono ?_
        rintro e w7 ⟨Bcb, dcb, rfl, cb, hb7⟩
        replace t := below_next t hb7
        replace z0 := z0.later hb7
        replace z1 := z1.later hb7
        replace z2 := z2.later hb7
        replace ab := ab.later hb7
        replace x := x.later hb7
        clear hb7
        go_wp2_with fail
        refine (join_set z0 cb).mono ?_
        rintro e w8 ⟨By, dy, rfl, y, hb8⟩
        replace t := below_next t hb8
        replace z0 := z0.later hb8
        replace z1 := z1.later hb8
        replace z2 := z2.later hb8
        replace ab := ab.later hb8
        replace x := x.later hb8
        replace cb := cb.later hb8
        clear hb8
        go_wp2_with fail
        refine (both_set z0 z1).mono ?_
        rintro e w9 ⟨Bpab, dpab, rfl, pab, hb9⟩
        replace t := below_next t hb9
        replace z0 := z0.later hb9
        replace z1 := z1.later hb9
        replace z2 := z2.later hb9
        replace ab := ab.later hb9
        replace x := x.later hb9
        replace cb := cb.later hb9
        replace y := y.later hb9
        clear hb9
        go_wp2_with fail
        refine (both_set pab z2).mono ?_
        rintro e w10 ⟨Bp, dp, rfl, p, hb10⟩
        replace t := below_next t hb10
        replace z0 := z0.later hb10
        replace z1 := z1.later hb10
        replace z2 := z2.later hb10
        replace ab := ab.later hb10
        replace x := x.later hb10
        replace cb := cb.later hb10
        replace y := y.later hb10
        replace pab := pab.later hb10
        clear hb10
        go_wp2_with fail
        refine (both_set z2 z0).mono ?_
        rintro e w11 ⟨Bpca, dpca, rfl, pca, hb11⟩
        replace t := below_next t hb11
        replace z0 := z0.later hb11
        replace z1 := z1.later hb11
        replace z2 := z2.later hb11
        replace ab := ab.later hb11
        replace x := x.later hb11
        replace cb := cb.later hb11
        replace y := y.later hb11
        replace pab := pab.later hb11
        replace p := p.later hb11
        clear hb11
        go_wp2_with fail
        refine (both_set z1 pca).mono ?_
        rintro e w12 ⟨Bq, dq, rfl, q, hb12⟩
        replace t := below_next t hb12
        replace z0 := z0.later hb12
        replace z1 := z1.later hb12
        replace z2 := z2.later hb12
        replace ab := ab.later hb12
        replace x := x.later hb12
        replace cb := cb.later hb12
        replace y := y.later hb12
        replace pab := pab.later hb12
        replace p := p.later hb12
        replace pca := pca.later hb12
        clear hb12
        go_wp2_with fail
        refine (same_yes x y (turns_join l0 l1 l2)).mono ?_
        rintro e w13 ⟨rfl, hb13⟩
        replace t := below_next t hb13
        replace z0 := z0.later hb13
        replace z1 := z1.later hb13
        replace z2 := z2.later hb13
        replace ab := ab.later hb13
        replace x := x.later hb13
        replace cb := cb.later hb13
        replace y := y.later hb13
        replace pab := pab.later hb13
        replace p := p.later hb13
        replace pca := pca.later hb13
        replace q := q.later hb13
        clear hb13
        go_wp2_with fail
        refine (same_yes p q (turns_both l0 l1 l2)).mono ?_
        rintro e w14 ⟨rfl, hb14⟩
        replace t := below_next t hb14
        replace z0 := z0.later hb14
        replace z1 := z1.later hb14
        replace z2 := z2.later hb14
        replace ab := ab.later hb14
        replace x := x.later hb14
        replace cb := cb.later hb14
        replace y := y.later hb14
        replace pab := pab.later hb14
        replace p := p.later hb14
        replace pca := pca.later hb14
        replace q := q.later hb14
        clear hb14
        go_wp2_with fail
        refine (cut_set z0 z1).mono ?_
        rintro e w15 ⟨Bkab, dkab, rfl, kab, hb15⟩
        replace t := below_next t hb15
        replace z0 := z0.later hb15
        replace z1 := z1.later hb15
        replace z2 := z2.later hb15
        replace ab := ab.later hb15
        replace x := x.later hb15
        replace cb := cb.later hb15
        replace y := y.later hb15
        replace pab := pab.later hb15
        replace p := p.later hb15
        replace pca := pca.later hb15
        replace q := q.later hb15
        clear hb15
        go_wp2_with fail
        refine (cut_set kab z2).mono ?_
        rintro e w16 ⟨Bk, dk, rfl, k, hb16⟩
        replace t := below_next t hb16
        replace z0 := z0.later hb16
        replace z1 := z1.later hb16
        replace z2 := z2.later hb16
        replace ab := ab.later hb16
        replace x := x.later hb16
        replace cb := cb.later hb16
        replace y := y.later hb16
        replace pab := pab.later hb16
        replace p := p.later hb16
        replace pca := pca.later hb16
        replace q := q.later hb16
        replace kab := kab.later hb16
        clear hb16
        go_wp2_with fail
        refine (join_set z1 z2).mono ?_
        rintro e w17 ⟨Bjbc, djbc, rfl, jbc, hb17⟩
        replace t := below_next t hb17
        replace z0 := z0.later hb17
        replace z1 := z1.later hb17
        replace z2 := z2.later hb17
        replace ab := ab.later hb17
        replace x := x.later hb17
        replace cb := cb.later hb17
        replace y := y.later hb17
        replace pab := pab.later hb17
        replace p := p.later hb17
        replace pca := pca.later hb17
        replace q := q.later hb17
        replace kab := kab.later hb17
        replace k := k.later hb17
        clear hb17
        go_wp2_with fail
        refine (cut_set z0 jbc).mono ?_
        rintro e w18 ⟨Bm, dm, rfl, m, hb18⟩
        replace t := below_next t hb18
        replace z0 := z0.later hb18
        replace z1 := z1.later hb18
        replace z2 := z2.later hb18
        replace ab := ab.later hb18
        replace x := x.later hb18
        replace cb := cb.later hb18
        replace y := y.later hb18
        replace pab := pab.later hb18
        replace p := p.later hb18
        replace pca := pca.later hb18
        replace q := q.later hb18
        replace kab := kab.later hb18
        replace k := k.later hb18
        replace jbc := jbc.later hb18
        clear hb18
        go_wp2_with fail
        refine (same_yes k m (turns_cut l0 l1 l2)).mono ?_
        rintro e w19 ⟨rfl, hb19⟩
        replace t := below_next t hb19
        replace z0 := z0.later hb19
        replace z1 := z1.later hb19
        replace z2 := z2.later hb19
        replace ab := ab.later hb19
        replace x := x.later hb19
        replace cb := cb.later hb19
        replace y := y.later hb19
        replace pab := pab.later hb19
        replace p := p.later hb19
        replace pca := pca.later hb19
        replace q := q.later hb19
        replace kab := kab.later hb19
        replace k := k.later hb19
        replace jbc := jbc.later hb19
        replace m := m.later hb19
        clear hb19
        go_wp2_with fail
        go_ret
        exact ⟨by simp, t⟩
      · rw [Bool.eq_false_iff.2 e2] at hr2
        have G2 := Lib.hid hr2
        clear hr2 e2
        go_wp2_with fail
        refine G2.out.mono ?_
        rintro e w4 ⟨rfl, hb⟩
        replace t := below_next t hb
        go_wp2_with fail
        go_ret
        exact ⟨rfl, t⟩
    · rw [Bool.eq_false_iff.2 e1] at hr1
      have G1 := Lib.hid hr1
      clear hr1 e1
      go_wp2_with fail
      refine G1.out.mono ?_
      rintro e w3 ⟨rfl, hb⟩
      replace t := below_next t hb
      go_wp2_with fail
      go_ret
      exact ⟨rfl, t⟩
  · rw [Bool.eq_false_iff.2 e0] at hr0
    have G0 := Lib.hid hr0
    clear hr0 e0
    go_wp2_with fail
    refine G0.out.mono ?_
    rintro e w2 ⟨rfl, hb⟩
    replace t := below_next t hb
    go_wp2_with fail
    go_ret
    exact ⟨rfl, t⟩
end Go.Proofs.Ytckpjcimakeaeaa
