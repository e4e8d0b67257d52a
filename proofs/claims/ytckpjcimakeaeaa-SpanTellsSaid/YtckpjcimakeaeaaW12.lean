/- The laws on spans, walked: SpanTells, SpanBack, SpanFirsts. -/
import Derived.Test.YtckpjcimakeaeaaW10
namespace Go.Proofs.Ytckpjcimakeaeaa
open Go.RowKit

theorem runF_len (s : Int) (k : Nat) : (runF s k).length = k := by simp [runF]
theorem total_len : ∀ {l : List Sp} {f : Int}, rightF f l = true → total l = ((spF l).length : Int)
  | [], _, _ => rfl
  | (s, n) :: r, f, h => by
    obtain ⟨h1, h2, h3, h4⟩ := right_cons h
    show n + total r = ((runF s n.toNat ++ spF r).length : Int)
    rw [List.length_append, runF_len, total_len h4]
    omega
theorem firstV_form (l : List Sp) (many : Int) : ∃ s n b, firstV l many = .tuple #[.agg #[.int .i64 s, .int .i64 n], .bool b] := by
  unfold firstV
  split <;> exact ⟨_, _, _, rfl⟩
theorem inI_sp {l : List Sp} (h : rightF 0 l = true) : canon (inI (spF l)) = l := canon_eq h fun n _ _ => by
  rw [Bool.eq_iff_iff]
  simp only [inI, decide_eq_true_eq]
  exact mem_spF h
theorem right_pair : ∀ {l : List Sp} {f : Int}, rightF f l = true → l.Pairwise fun p q => p.1 + p.2 < q.1
  | [], _, _ => List.Pairwise.nil
  | (s, n) :: r, f, h => by
    obtain ⟨h1, h2, h3, h4⟩ := right_cons h
    exact List.pairwise_cons.2 ⟨fun q hq => by have := right_mem h4 q hq; simp only; omega, right_pair h4⟩
theorem solid {l : List Sp} {f a b : Int} (h : rightF f l = true) (hab : a < b) (hm : ∀ n, a ≤ n → n < b → memF l n = true) : ∃ p ∈ l, p.1 ≤ a ∧ b ≤ p.1 + p.2 := by
  obtain ⟨p, hp, h1, h2⟩ := mem_iff.1 (hm a (Int.le_refl _) hab)
  refine ⟨p, hp, h1, ?_⟩
  rcases (show p.1 + p.2 < b ∨ b ≤ p.1 + p.2 by omega) with hlt | hge
  · obtain ⟨q, hq, h3, h4⟩ := mem_iff.1 (hm (p.1 + p.2) (by omega) hlt)
    have hpw := List.pairwise_iff_getElem.1 (right_pair h)
    obtain ⟨i, hi, rfl⟩ := List.getElem_of_mem hp
    obtain ⟨j, hj, rfl⟩ := List.getElem_of_mem hq
    rcases Nat.lt_trichotomy i j with hij | hij | hij
    · have := hpw i j hi hj hij; omega
    · subst hij; omega
    · have := hpw j i hj hi hij; omega
  · exact hge
/-- Where First finds some: they are in the set, and none begin ahead. -/
theorem firsts_hit {l : List Sp} {many : Int} {p : Sp} (h : rightF 0 l = true) (hf : firstF l many = some p) :
    1 ≤ many ∧ many ≤ 4096 ∧ 0 ≤ p.1 ∧ p.1 ≤ 4096 ∧ many ≤ 4096 - p.1 ∧ (∀ i, 0 ≤ i → i < many → memF l (p.1 + i) = true) ∧ (1 ≤ p.1 → firstV (bothS l [(0, p.1)]) many = .tuple #[.agg #[.int .i64 0, .int .i64 0], .bool false]) := by
  unfold firstF at hf
  split at hf
  · cases hf
  rename_i hm
  obtain ⟨hpm, k, hk, rfl, hbef⟩ := List.find?_eq_some_iff_getElem.1 hf
  simp only [decide_eq_true_eq] at hpm
  have hin := right_mem h l[k] (List.getElem_mem hk)
  refine ⟨by omega, by omega, by omega, by omega, by omega, fun i h0 h1 => mem_iff.2 ⟨l[k], List.getElem_mem hk, by omega, by omega⟩, fun hp1 => first_miss fun r hr => ?_⟩
  have hrr := right_mem (bothS_right l [(0, l[k].1)]) r hr
  rcases (show r.2 < many ∨ many ≤ r.2 by omega) with hlt | hge
  · exact hlt
  · have hmem : ∀ n, r.1 ≤ n → n < r.1 + r.2 → memF l n = true ∧ n < l[k].1 := fun n h0 h1 => by
      have := mem_iff.2 ⟨r, hr, h0, h1⟩
      rw [bothS, canon_mem] at this
      simp only [Bool.and_eq_true, mem_iff] at this
      obtain ⟨_, a, q, hq, b1, b2⟩ := this
      simp only [List.mem_singleton] at hq
      subst hq
      exact ⟨mem_iff.2 a, by simpa using b2⟩
    obtain ⟨q, hq, q1, q2⟩ := solid h (show r.1 < r.1 + r.2 by omega) fun n h0 h1 => (hmem n h0 h1).1
    obtain ⟨j, hj, rfl⟩ := List.getElem_of_mem hq
    have hlast := (hmem (r.1 + r.2 - 1) (by omega) (by omega)).2
    have hpw := List.pairwise_iff_getElem.1 (right_pair h)
    rcases Nat.lt_trichotomy j k with hjk | hjk | hjk
    · have := hbef j hjk
      simp only [Bool.not_eq_true', decide_eq_false_iff_not] at this
      omega
    · subst hjk; omega
    · have := hpw k j hk hj hjk; omega
theorem firsts_miss {l : List Sp} {many : Int} (hf : firstF l many = none) : firstV l many = .tuple #[.agg #[.int .i64 0, .int .i64 0], .bool false] ∧ ∀ p ∈ l, many < 1 ∨ p.2 < many := by
  refine ⟨by simp [firstV, hf], fun p hp => ?_⟩
  unfold firstF at hf
  split at hf
  · left; assumption
  · right
    have := List.find?_eq_none.1 hf p hp
    simp at this
    omega
theorem firsts_val {l : List Sp} {many : Int} {p : Sp} (hf : firstF l many = some p) : firstV l many = .tuple #[.agg #[.int .i64 p.1, .int .i64 many], .bool true] := by simp [firstV, hf]

section
variable {A : Option Addr} {c : Nat} {l : List Sp} {w : World}
theorem first_set (h : SetAt w A c l) (many : Int) (V : Value) (hV : firstV l many = V) : Calls Try.prog 21 #[.slice A l.length c, .int .i64 many] w fun e w' => e = .returned V ∧ Below w.heap.size w w' := by
  have h1 := first_any A c l many w h.rd (by have := len_le h.right; omega)
  rw [hV] at h1
  exact h1
theorem rfirst_set (h : SetAt w A c l) (many : Int) (V : Value) (hV : firstV l many = V) : Calls Try.prog 22 #[.slice A l.length c, .int .i64 many] w fun e w' => e = .returned V ∧ Below w.heap.size w w' := by
  have h1 := rfirst_any A c l many w h.rd (by have := len_le h.right; omega)
  rw [hV] at h1
  exact h1
end
structure IntsAt (w : World) (A : Option Addr) (L : List Int) : Prop where
  rd : Rd w w.heap.size A (ints L)
theorem IntsAt.later {w w' : World} {A : Option Addr} {L : List Int} (h : IntsAt w A L) (hb : Below w.heap.size w w') : IntsAt w' A L := ⟨(h.rd.below hb).mono hb.size⟩

set_option maxRecDepth 100000 in
set_option maxHeartbeats 4000000 in
theorem spanTells_any (w : World) (A0 : Option Addr) (c0 : Nat) (l0 : List Sp) (hR0 : Rd w w.heap.size A0 (spc l0)) (hO0 : SpOk l0) (hc0 : l0.length ≤ c0) (_hN0 : A0 = none → c0 = 0) (hL0 : l0.length * 16 ≤ 140737488351232) (x1 : Int) (_wx1 : (Lit.int .i64 x1).wf = true) (x2 : Int) (_wx2 : (Lit.int .i64 x2).wf = true) :
    Calls Try.prog 5 #[.slice A0 l0.length c0, .int .i64 x1, .int .i64 x2] w fun e w' => e = .returned (.bool true) ∧ Below w.heap.size w w' := by
  have hl0 : l0.length ≤ 4503599627370496 := by omega
  have HL0 := Lib.hid hl0
  clear hl0 hL0
  go_enter Try.func5, Try.ntmps5
  go_wp2_with fail
  refine (alive_any _).mono ?_
  rintro e w1 ⟨rfl, t⟩
  have hr0 := rright_any A0 c0 l0 w1 ((hR0.below t).mono t.size) hO0 HL0.out
  by_cases e0 : rightF 0 l0 = true
  rotate_left
  · rw [Bool.eq_false_iff.2 e0] at hr0
    have G0 := Lib.hid hr0
    clear hr0 e0
    go_wp2_with fail
    refine G0.out.mono ?_
    rintro e w2 ⟨rfl, hb⟩
    replace t := below_next t hb
    go_wp2_with fail
    go_ret
    exact ⟨rfl, t⟩
  rw [e0] at hr0
  have G0 := Lib.hid hr0
  have E0 := Lib.hid e0
  clear hr0 e0
  go_wp2_with fail
  refine G0.out.mono ?_
  rintro e w2 ⟨rfl, hb⟩
  replace t := below_next t hb
  clear hb G0
  have z0 : SetAt w2 A0 c0 l0 := ⟨(hR0.below t).mono t.size, E0.out, hc0⟩
  obtain ⟨fs, fn, fb, hfv⟩ := firstV_form l0 x2
  have HV := Lib.hid hfv
  clear hfv
  have htl : (total l0 == ((spF l0).length : Int)) = true := by rw [total_len E0.out]; simp
  have hmm : (memF l0 x1 == memF l0 x1) = true := by simp
  go_wp2_with fail
  refine (rlist_set z0).mono ?_
  rintro e w3 ⟨An, cn, rfl, rn, hb3⟩
  have nn : IntsAt w3 An (spF l0) := ⟨rn⟩
  replace t := below_next t hb3
  replace z0 := z0.later hb3
  clear hb3 rn
  go_wp2_with fail
  refine (first_set z0 x2 _ HV.out).mono ?_
  rintro e w4 ⟨rfl, hb4⟩
  replace t := below_next t hb4
  replace z0 := z0.later hb4
  replace nn := nn.later hb4
  clear hb4
  have b4 : Blk (w4.alloc (.cells #[.int .i64 fs, .int .i64 fn] 34)) w4.heap.size 34 #[.int .i64 fs, .int .i64 fn] := Blk.new _ _ _
  have hb4 : Below w4.heap.size w4 (w4.alloc (.cells #[.int .i64 fs, .int .i64 fn] 34)) := (Below.refl _ _).alloc (Nat.le_refl _) _
  replace t := below_next t hb4
  replace z0 := z0.later hb4
  replace nn := nn.later hb4
  clear hb4
  go_wp2_with fail
  generalize hg4 : w4.heap.size = g4 at *
  clear hg4
  generalize w4.alloc (.cells #[.int .i64 fs, .int .i64 fn] 34) = w5 at *
  refine (rfirst_set z0 x2 _ HV.out).mono ?_
  rintro e w6 ⟨rfl, hb6⟩
  have b6 := b4.below hb6 b4.lt
  replace t := below_next t hb6
  replace z0 := z0.later hb6
  replace nn := nn.later hb6
  clear hb6 b4
  have b7 : Blk (w6.alloc (.cells #[.int .i64 fs, .int .i64 fn] 34)) w6.heap.size 34 #[.int .i64 fs, .int .i64 fn] := Blk.new _ _ _
  have hb7 : Below w6.heap.size w6 (w6.alloc (.cells #[.int .i64 fs, .int .i64 fn] 34)) := (Below.refl _ _).alloc (Nat.le_refl _) _
  have b6' := b6.below hb7 b6.lt
  replace t := below_next t hb7
  replace z0 := z0.later hb7
  replace nn := nn.later hb7
  clear hb7 b6
  go_wp2_with fail
  generalize hg6 : w6.heap.size = g6 at *
  clear hg6
  generalize w6.alloc (.cells #[.int .i64 fs, .int .i64 fn] 34) = w7 at *
  refine (has_set z0 x1).mono ?_
  rintro e w8 ⟨rfl, hb⟩
  replace b6' := b6'.below hb b6'.lt
  replace b7 := b7.below hb b7.lt
  replace t := below_next t hb
  replace z0 := z0.later hb
  replace nn := nn.later hb
  clear hb
  go_wp2_with fail
  refine (rhas_set z0 x1).mono ?_
  rintro e w9 ⟨rfl, hb⟩
  replace b6' := b6'.below hb b6'.lt
  replace b7 := b7.below hb b7.lt
  replace t := below_next t hb
  replace z0 := z0.later hb
  replace nn := nn.later hb
  clear hb
  go_wp2_with fail
  refine (count_set z0).mono ?_
  rintro e w10 ⟨rfl, hb⟩
  replace b6' := b6'.below hb b6'.lt
  replace b7 := b7.below hb b7.lt
  replace t := below_next t hb
  replace z0 := z0.later hb
  replace nn := nn.later hb
  clear hb
  go_wp2_with fail
  refine (list_set z0).mono ?_
  rintro e w11 ⟨Al, cl, rfl, rl, hb⟩
  replace b6' := b6'.below hb b6'.lt
  replace b7 := b7.below hb b7.lt
  replace t := below_next t hb
  replace z0 := z0.later hb
  replace nn := nn.later hb
  clear hb
  have hlen := spF_len E0.out
  have HLn := Lib.hid hlen
  clear hlen
  go_wp2_with fail
  refine (sameints_any Al An cl cn (spF l0) (spF l0) w11 rl nn.rd (by have := HLn.out; omega)).mono ?_
  rintro e w12 ⟨rfl, hb⟩
  replace b6' := b6'.below hb b6'.lt
  replace b7 := b7.below hb b7.lt
  replace t := below_next t hb
  replace z0 := z0.later hb
  replace nn := nn.later hb
  clear hb
  have hdd : decide (spF l0 = spF l0) = true := by simp
  have q0 := b6'.cell 0
  have q1 := b6'.cell 1
  have q2 := b7.cell 0
  have q3 := b7.cell 1
  simp only [List.getElem?_toArray, List.getElem?_cons_zero, List.getElem?_cons_succ] at q0 q1 q2 q3
  have k1 : (fs == fs) = true := by simp
  have k2 : (fn == fn) = true := by simp
  have k3 : (fb == fb) = true := by simp
  go_wp2_with fail
  go_ret
  exact ⟨by simp, t⟩

set_option maxRecDepth 100000 in
set_option maxHeartbeats 4000000 in
theorem spanBack_any (w : World) (A0 : Option Addr) (c0 : Nat) (l0 : List Sp) (hR0 : Rd w w.heap.size A0 (spc l0)) (hO0 : SpOk l0) (hc0 : l0.length ≤ c0) (_hN0 : A0 = none → c0 = 0) (hL0 : l0.length * 16 ≤ 140737488351232) (x1 : Int) (_wx1 : (Lit.int .i64 x1).wf = true) :
    Calls Try.prog 8 #[.slice A0 l0.length c0, .int .i64 x1] w fun e w' => e = .returned (.bool true) ∧ Below w.heap.size w w' := by
  have hl0 : l0.length ≤ 4503599627370496 := by omega
  have HL0 := Lib.hid hl0
  clear hl0 hL0
  go_enter Try.func8, Try.ntmps8
  go_wp2_with fail
  refine (alive_any _).mono ?_
  rintro e w1 ⟨rfl, t⟩
  have hr0 := right_any A0 c0 l0 w1 ((hR0.below t).mono t.size) hO0 HL0.out
  by_cases e0 : rightF 0 l0 = true
  rotate_left
  · rw [Bool.eq_false_iff.2 e0] at hr0
    have G0 := Lib.hid hr0
    clear hr0 e0
    go_wp2_with fail
    refine G0.out.mono ?_
    rintro e w2 ⟨rfl, hb⟩
    replace t := below_next t hb
    go_wp2_with fail
    go_ret
    exact ⟨rfl, t⟩
  rw [e0] at hr0
  have G0 := Lib.hid hr0
  have E0 := Lib.hid e0
  clear hr0 e0
  go_wp2_with fail
  refine G0.out.mono ?_
  rintro e w2 ⟨rfl, hb⟩
  replace t := below_next t hb
  clear hb G0
  have z0 : SetAt w2 A0 c0 l0 := ⟨(hR0.below t).mono t.size, E0.out, hc0⟩
  go_wp2_with fail
  refine (list_set z0).mono ?_
  rintro e w3 ⟨An, cn, rfl, rn, hb⟩
  have nn : IntsAt w3 An (spF l0) := ⟨rn⟩
  replace t := below_next t hb
  replace z0 := z0.later hb
  clear hb rn
  have hlen := spF_len E0.out
  have hinc := spF_inc E0.out
  have hmem : ∀ x ∈ spF l0, memF l0 x = true := fun x hx => (mem_spF E0.out).1 hx
  have HI := Lib.hid (And.intro hinc hmem)
  have hlenI : ((spF l0).length : Int) ≤ 4096 := by omega
  clear hlen hinc hmem
  have hof := inI_sp E0.out
  have HO := Lib.hid hof
  clear hof
  have hin : inI (spF l0) x1 = memF l0 x1 := by
    rw [Bool.eq_iff_iff]
    simp only [inI, decide_eq_true_eq]
    exact mem_spF E0.out
  have HX := Lib.hid hin
  clear hin
  generalize spF l0 = L at *
  go_wp2_with fail
  go_loopw [6, 18] (fun b i wr => ∃ (k : Nat), k ≤ L.length ∧ i = .int .i64 k ∧ b = .bool (inI (L.take k) x1) ∧ SetAt wr A0 c0 l0 ∧ IntsAt wr An L ∧ Below w.heap.size w wr) (fun _ i _ => L.length - (intOf i).toNat)
  case atStart => exact ⟨0, by omega, rfl, rfl, z0, nn, t⟩
  case round =>
    clear z0 nn t
    obtain ⟨k, hk, rfl, rfl, z0, nn, t⟩ := hrel
    by_cases hlt : k < L.length
    · have hcells := fun j => int_at nn.rd j
      obtain ⟨b, off, rfl, hbB, hc1⟩ := int_at nn.rd k hlt
      have hsn := inI_snoc L k hlt x1
      have hlx := HI.out.2 _ (List.getElem_mem hlt)
      have hprev : 0 < k → ∃ y, wr.cell? ⟨b, off + (k - 1), none⟩ = some (.int .i64 y) ∧ y < L[k] := fun h0 => by
        obtain ⟨b', off', e, _, hc⟩ := hcells (k - 1) (by omega)
        simp only [Option.some.injEq, Addr.mk.injEq, and_true] at e
        obtain ⟨rfl, rfl⟩ := e
        exact ⟨_, hc, List.pairwise_iff_getElem.1 HI.out.1 (k - 1) k (by omega) hlt (by omega)⟩
      clear hcells
      generalize L[k] = x at *
      have hh := has_set z0 x
      rw [hlx] at hh
      have HH := Lib.hid hh
      have HS := Lib.hid hsn
      have HL := Lib.hid hlx
      clear hh hsn hlx
      by_cases h0 : 0 < k
      · obtain ⟨y, hc2, hyx⟩ := hprev h0
        clear hprev
        have h0' : decide (0 < k) = true := by simpa using h0
        generalize inI (L.take k) x1 = bb at *
        cases bb
        · by_cases hx : x = x1
          · have hx' : (x == x1) = true := by rw [beq_iff_eq]; exact hx
            have HXX := Lib.hid hx
            clear hx
            go_wp2_with fail
            refine HH.out.mono ?_
            rintro e w4 ⟨rfl, hb⟩
            have hc1' := (hb.cell (p := ⟨b, off + k, none⟩) hbB).trans hc1
            have hc2' := (hb.cell (p := ⟨b, off + (k - 1), none⟩) hbB).trans hc2
            have z1 := z0.later hb
            have n1 := nn.later hb
            have t1 := below_next t hb
            clear hb HH
            go_wp2_with fail
            go_roundw
            case rel => exact ⟨k + 1, by omega, by go_num, by rw [HS.out, HXX.out]; simp, z1, n1, t1⟩
            case measure => simp [intOf]; omega
          · have hx' : (x == x1) = false := by rw [beq_eq_false_iff_ne]; exact hx
            have HXX := Lib.hid hx
            clear hx
            go_wp2_with fail
            refine HH.out.mono ?_
            rintro e w4 ⟨rfl, hb⟩
            have hc1' := (hb.cell (p := ⟨b, off + k, none⟩) hbB).trans hc1
            have hc2' := (hb.cell (p := ⟨b, off + (k - 1), none⟩) hbB).trans hc2
            have z1 := z0.later hb
            have n1 := nn.later hb
            have t1 := below_next t hb
            clear hb HH
            go_wp2_with fail
            go_roundw
            case rel => exact ⟨k + 1, by omega, by go_num, by rw [HS.out, decide_eq_false (fun h => HXX.out h.symm)]; simp, z1, n1, t1⟩
            case measure => simp [intOf]; omega
        · go_wp2_with fail
          refine HH.out.mono ?_
          rintro e w4 ⟨rfl, hb⟩
          have hc1' := (hb.cell (p := ⟨b, off + k, none⟩) hbB).trans hc1
          have hc2' := (hb.cell (p := ⟨b, off + (k - 1), none⟩) hbB).trans hc2
          have z1 := z0.later hb
          have n1 := nn.later hb
          have t1 := below_next t hb
          clear hb HH
          go_wp2_with fail
          go_roundw
          case rel => exact ⟨k + 1, by omega, by go_num, by rw [HS.out]; simp, z1, n1, t1⟩
          case measure => simp [intOf]; omega
      · have h0' : decide (0 < k) = false := by simpa using h0
        obtain rfl : k = 0 := by omega
        clear hprev
        have hc0 : wr.cell? ⟨b, off, none⟩ = some (.int .i64 x) := hc1
        clear hc1
        rw [show inI (L.take 0) x1 = false from rfl]
        by_cases hx : x = x1
        · have hx' : (x == x1) = true := by rw [beq_iff_eq]; exact hx
          have HXX := Lib.hid hx
          clear hx
          go_wp2_with fail
          refine HH.out.mono ?_
          rintro e w4 ⟨rfl, hb⟩
          have z1 := z0.later hb
          have n1 := nn.later hb
          have t1 := below_next t hb
          clear hb HH
          go_wp2_with fail
          go_roundw
          case rel => exact ⟨1, by omega, by go_num, by have := HS.out; rw [Nat.zero_add] at this; rw [this, HXX.out]; simp, z1, n1, t1⟩
          case measure => simp [intOf]; omega
        · have hx' : (x == x1) = false := by rw [beq_eq_false_iff_ne]; exact hx
          have HXX := Lib.hid hx
          clear hx
          go_wp2_with fail
          refine HH.out.mono ?_
          rintro e w4 ⟨rfl, hb⟩
          have z1 := z0.later hb
          have n1 := nn.later hb
          have t1 := below_next t hb
          clear hb HH
          go_wp2_with fail
          go_roundw
          case rel => exact ⟨1, by omega, by go_num, by have := HS.out; rw [Nat.zero_add] at this; rw [this, decide_eq_false (fun h => HXX.out h.symm)]; simp [inI], z1, n1, t1⟩
          case measure => simp [intOf]; omega
    · rw [List.take_of_length_le (by omega), HX.out]
      have hmm : (memF l0 x1 == memF l0 x1) = true := by simp
      have HLn : Hid ((L.length : Int) ≤ 4096) := hlenI
      go_wp2_with fail
      refine (has_set z0 x1).mono ?_
      rintro e w4 ⟨rfl, hb⟩
      replace z0 := z0.later hb
      replace nn := nn.later hb
      replace t := below_next t hb
      clear hb
      go_wp2_with fail
      refine (of_set (c := cn) nn.rd (by have := HLn.out; omega)).mono ?_
      rw [HO.out]
      rintro e w5 ⟨A5, c5, rfl, s5, hb⟩
      replace z0 := z0.later hb
      replace t := below_next t hb
      clear hb
      go_wp2_with fail
      refine (same_yes s5 z0 rfl).mono ?_
      rintro e w6 ⟨rfl, hb⟩
      replace t := below_next t hb
      go_wp2_with fail
      go_ret
      exact ⟨by simp, t⟩

set_option maxRecDepth 100000 in
set_option maxHeartbeats 4000000 in
theorem spanFirsts_any (w : World) (A0 : Option Addr) (c0 : Nat) (l0 : List Sp) (hR0 : Rd w w.heap.size A0 (spc l0)) (hO0 : SpOk l0) (hc0 : l0.length ≤ c0) (_hN0 : A0 = none → c0 = 0) (hL0 : l0.length * 16 ≤ 140737488351232) (x1 : Int) (_wx1 : (Lit.int .i64 x1).wf = true) :
    Calls Try.prog 10 #[.slice A0 l0.length c0, .int .i64 x1] w fun e w' => e = .returned (.bool true) ∧ Below w.heap.size w w' := by
  have hl0 : l0.length ≤ 4503599627370496 := by omega
  have HL0 := Lib.hid hl0
  clear hl0 hL0
  go_enter Try.func10, Try.ntmps10
  go_wp2_with fail
  refine (alive_any _).mono ?_
  rintro e w1 ⟨rfl, t⟩
  have hr0 := right_any A0 c0 l0 w1 ((hR0.below t).mono t.size) hO0 HL0.out
  by_cases e0 : rightF 0 l0 = true
  rotate_left
  · rw [Bool.eq_false_iff.2 e0] at hr0
    have G0 := Lib.hid hr0
    clear hr0 e0
    go_wp2_with fail
    refine G0.out.mono ?_
    rintro e w2 ⟨rfl, hb⟩
    replace t := below_next t hb
    go_wp2_with fail
    go_ret
    exact ⟨rfl, t⟩
  rw [e0] at hr0
  have G0 := Lib.hid hr0
  have E0 := Lib.hid e0
  clear hr0 e0
  go_wp2_with fail
  refine G0.out.mono ?_
  rintro e w2 ⟨rfl, hb⟩
  replace t := below_next t hb
  clear hb G0
  have z0 : SetAt w2 A0 c0 l0 := ⟨(hR0.below t).mono t.size, E0.out, hc0⟩
  have hlenI : (l0.length : Int) ≤ 4097 := len_le E0.out
  rcases hfi : firstF l0 x1 with _ | p
  · obtain ⟨hv, hno⟩ := firsts_miss hfi
    have HV := Lib.hid hv
    have HN := Lib.hid hno
    clear hv hno hfi
    go_wp2_with fail
    refine (first_set z0 x1 _ HV.out).mono ?_
    rintro e w3 ⟨rfl, hb⟩
    replace z0 := z0.later hb
    replace t := below_next t hb
    clear hb
    have b4 : Blk (w3.alloc (.cells #[.int .i64 0, .int .i64 0] 34)) w3.heap.size 34 #[.int .i64 0, .int .i64 0] := Blk.new _ _ _
    have hb4 : Below w3.heap.size w3 (w3.alloc (.cells #[.int .i64 0, .int .i64 0] 34)) := (Below.refl _ _).alloc (Nat.le_refl _) _
    replace z0 := z0.later hb4
    replace t := below_next t hb4
    clear hb4
    go_wp2_with fail
    generalize hg4 : w3.heap.size = g4 at *
    clear hg4
    generalize w3.alloc (.cells #[.int .i64 0, .int .i64 0] 34) = w4 at *
    go_loopw [27] (fun i wr => ∃ (k : Nat), k ≤ l0.length ∧ i = .int .i64 k ∧ SetAt wr A0 c0 l0 ∧ Blk wr g4 34 #[.int .i64 0, .int .i64 0] ∧ Below w.heap.size w wr) (fun i _ => l0.length - (intOf i).toNat)
    case atStart => exact ⟨0, by omega, rfl, z0, b4, t⟩
    case round =>
      clear z0 b4 t
      obtain ⟨k, hk, rfl, z0, b4, t⟩ := hrel
      have q0 := b4.cell 0
      have q1 := b4.cell 1
      simp only [List.getElem?_toArray, List.getElem?_cons_zero, List.getElem?_cons_succ] at q0 q1
      by_cases hlt : k < l0.length
      · obtain ⟨b, off, rfl, hbB, hc1, hc2⟩ := sp_at z0.rd k hlt
        have hno := HN.out _ (List.getElem_mem hlt)
        generalize l0[k] = q at *
        obtain ⟨s, n⟩ := q
        simp only at hc1 hc2 hno
        have hba : Below wr.heap.size wr (wr.alloc (.cells #[.int .i64 s, .int .i64 n] 34)) := (Below.refl _ _).alloc (Nat.le_refl _) _
        have z1 := z0.later hba
        have b5 := b4.below hba b4.lt
        have t1 := below_next t hba
        clear hba
        by_cases hx : x1 < 1
        · clear hno
          go_wp2_with fail
          go_roundw
          case rel => exact ⟨k + 1, by omega, by go_num, z1, b5, t1⟩
          case measure => simp [intOf]; omega
        · have hn : n < x1 := by omega
          have hx1 : 1 ≤ x1 := by omega
          clear hno hx
          go_wp2_with fail
          go_roundw
          case rel => exact ⟨k + 1, by omega, by go_num, z1, b5, t1⟩
          case measure => simp [intOf]; omega
      · go_wp2_with fail
        go_ret
        exact ⟨rfl, t⟩
  · obtain ⟨p1, p2, p3, p4, p5, p6, p7⟩ := firsts_hit E0.out hfi
    have hv := firsts_val hfi
    have HV := Lib.hid hv
    have H6 := Lib.hid p6
    have H7 := Lib.hid p7
    clear hv hfi p6 p7
    obtain ⟨s, n⟩ := p
    simp only at p3 p4 p5
    obtain ⟨m, rfl⟩ := Int.eq_ofNat_of_zero_le (show 0 ≤ x1 by omega)
    go_wp2_with fail
    refine (first_set z0 m _ HV.out).mono ?_
    rintro e w3 ⟨rfl, hb⟩
    replace z0 := z0.later hb
    replace t := below_next t hb
    clear hb
    have b4 : Blk (w3.alloc (.cells #[.int .i64 s, .int .i64 m] 34)) w3.heap.size 34 #[.int .i64 s, .int .i64 m] := Blk.new _ _ _
    have hb4 : Below w3.heap.size w3 (w3.alloc (.cells #[.int .i64 s, .int .i64 m] 34)) := (Below.refl _ _).alloc (Nat.le_refl _) _
    replace z0 := z0.later hb4
    replace t := below_next t hb4
    clear hb4
    go_wp2_with fail
    generalize hg4 : w3.heap.size = g4 at *
    clear hg4
    generalize w3.alloc (.cells #[.int .i64 s, .int .i64 m] 34) = w4 at *
    go_loopw [9] (fun i wr => ∃ (k : Nat), (k : Int) ≤ m ∧ i = .int .i64 k ∧ SetAt wr A0 c0 l0 ∧ Blk wr g4 34 #[.int .i64 s, .int .i64 m] ∧ Below w.heap.size w wr) (fun i _ => m - (intOf i).toNat)
    case atStart => exact ⟨0, by omega, rfl, z0, b4, t⟩
    case round =>
      clear z0 b4 t
      obtain ⟨k, hk, rfl, z0, b4, t⟩ := hrel
      have q0 := b4.cell 0
      have q1 := b4.cell 1
      simp only [List.getElem?_toArray, List.getElem?_cons_zero, List.getElem?_cons_succ] at q0 q1
      by_cases hlt : (k : Int) < m
      · have hh := has_set z0 (s + k)
        rw [H6.out k (by omega) hlt] at hh
        have HH := Lib.hid hh
        clear hh
        go_wp2_with fail
        refine HH.out.mono ?_
        rintro e w5 ⟨rfl, hb⟩
        have z1 := z0.later hb
        have b5 := b4.below hb b4.lt
        have t1 := below_next t hb
        clear hb HH
        go_wp2_with fail
        go_roundw
        case rel => exact ⟨k + 1, by omega, by go_num, z1, b5, t1⟩
        case measure => simp [intOf]; omega
      · by_cases hs : s = 0
        · subst hs
          have hs2 : ((0 : Int) == 0) = true := rfl
          have hmm : ((m : Int) == m) = true := by simp
          obtain ⟨fs, fn, fb, hfv⟩ := firstV_form (bothS l0 [(0, 1)]) m
          have hq : rightF 0 [(0, 1)] = true := right_mk (by omega) (by omega) (by omega) rfl
          have hnew : SetAt (wr.alloc (.cells #[.int .i64 0, .int .i64 1] 34)) (some ⟨wr.heap.size, 0, none⟩) 1 [(0, 1)] := ⟨rd_new wr #[.int .i64 0, .int .i64 1] 34, hq, by simp⟩
          have hba : Below wr.heap.size wr (wr.alloc (.cells #[.int .i64 0, .int .i64 1] 34)) := (Below.refl _ _).alloc (Nat.le_refl _) _
          have z1 := z0.later hba
          have b5 := b4.below hba b4.lt
          have t1 := below_next t hba
          have H8 := Lib.hid hfv; clear hfv
          clear hba hq
          go_wp2_with fail
          refine (both_set z1 hnew).mono ?_
          rintro e w5 ⟨A5, c5, rfl, s5, hb⟩
          have b6 := b5.below hb b5.lt
          have t2 := below_next t1 hb
          clear hb
          go_wp2_with fail
          refine (first_set s5 m _ H8.out).mono ?_
          rintro e w6 ⟨rfl, hb⟩
          have b7 := b6.below hb b6.lt
          have t3 := below_next t2 hb
          clear hb
          have r0 := b7.cell 0
          have r1 := b7.cell 1
          have hgl := b7.lt
          simp only [List.getElem?_toArray, List.getElem?_cons_zero, List.getElem?_cons_succ] at r0 r1
          go_wp2_with fail
          go_ret
          exact ⟨by simp, t3.alloc t3.size _⟩
        · by_cases hs3 : s = 1
          · subst hs3
            have hs1 : ((1 : Int) == 0) = false := rfl
            have hmm : ((m : Int) == m) = true := by simp
            have hq : rightF 0 [(0, 1)] = true := right_mk (by omega) (by omega) (by omega) rfl
            have hnew : SetAt (wr.alloc (.cells #[.int .i64 0, .int .i64 1] 34)) (some ⟨wr.heap.size, 0, none⟩) 1 [(0, 1)] := ⟨rd_new wr #[.int .i64 0, .int .i64 1] 34, hq, by simp⟩
            have hba : Below wr.heap.size wr (wr.alloc (.cells #[.int .i64 0, .int .i64 1] 34)) := (Below.refl _ _).alloc (Nat.le_refl _) _
            have z1 := z0.later hba
            have b5 := b4.below hba b4.lt
            have t1 := below_next t hba
            have H8 := Lib.hid (H7.out (by omega)); clear hs
            clear hba hq
            go_wp2_with fail
            refine (both_set z1 hnew).mono ?_
            rintro e w5 ⟨A5, c5, rfl, s5, hb⟩
            have b6 := b5.below hb b5.lt
            have t2 := below_next t1 hb
            clear hb
            go_wp2_with fail
            refine (first_set s5 m _ H8.out).mono ?_
            rintro e w6 ⟨rfl, hb⟩
            have b7 := b6.below hb b6.lt
            have t3 := below_next t2 hb
            clear hb
            have r0 := b7.cell 0
            have r1 := b7.cell 1
            have hgl := b7.lt
            simp only [List.getElem?_toArray, List.getElem?_cons_zero, List.getElem?_cons_succ] at r0 r1
            go_wp2_with fail
            go_ret
            exact ⟨by simp, t3.alloc t3.size _⟩
          · have hs1 : (s == 0) = false := by rw [beq_eq_false_iff_ne]; exact hs
            have hs2 : 2 ≤ s := by omega
            have hmm : ((m : Int) == m) = true := by simp
            have hq : rightF 0 [(0, s)] = true := right_mk (by omega) (by omega) (by omega) rfl
            have hnew : SetAt (wr.alloc (.cells #[.int .i64 0, .int .i64 s] 34)) (some ⟨wr.heap.size, 0, none⟩) 1 [(0, s)] := ⟨rd_new wr #[.int .i64 0, .int .i64 s] 34, hq, by simp⟩
            have hba : Below wr.heap.size wr (wr.alloc (.cells #[.int .i64 0, .int .i64 s] 34)) := (Below.refl _ _).alloc (Nat.le_refl _) _
            have z1 := z0.later hba
            have b5 := b4.below hba b4.lt
            have t1 := below_next t hba
            have H8 := Lib.hid (H7.out (by omega)); clear hs hs3
            clear hba hq
            go_wp2_with fail
            refine (both_set z1 hnew).mono ?_
            rintro e w5 ⟨A5, c5, rfl, s5, hb⟩
            have b6 := b5.below hb b5.lt
            have t2 := below_next t1 hb
            clear hb
            go_wp2_with fail
            refine (first_set s5 m _ H8.out).mono ?_
            rintro e w6 ⟨rfl, hb⟩
            have b7 := b6.below hb b6.lt
            have t3 := below_next t2 hb
            clear hb
            have r0 := b7.cell 0
            have r1 := b7.cell 1
            have hgl := b7.lt
            simp only [List.getElem?_toArray, List.getElem?_cons_zero, List.getElem?_cons_succ] at r0 r1
            go_wp2_with fail
            go_ret
            exact ⟨by simp, t3.alloc t3.size _⟩
end Go.Proofs.Ytckpjcimakeaeaa
