/- The laws on logs, walked over the calls' contracts: the example, SlogNames, SlogDiffs, SlogReplays. -/
import Derived.Test.YtklccgmhllpjkaaJ8
set_option maxRecDepth 10000
namespace Go.Proofs.Ytklccgmhllpjkaa
open Go.RowKit

def exA : List Mv := [⟨false, 1, 2⟩, ⟨true, 4, 2⟩]
theorem diff_ex : diffF [(1, 3)] [(3, 3)] = exA := by
  unfold diffF diffS
  rw [if_pos ⟨by decide, by decide⟩,
    canon_eq (l := [(1, 2)]) (S := mixF 1 (memF [(1, 3)]) (memF [(3, 3)])) (by decide) fun n _ _ => by
      show (memF [(1, 3)] n && !memF [(3, 3)] n) = memF [(1, 2)] n
      rw [Bool.eq_iff_iff]
      simp [memF, inSp]
      omega,
    canon_eq (l := [(4, 2)]) (S := mixF 1 (memF [(3, 3)]) (memF [(1, 3)])) (by decide) fun n _ _ => by
      show (memF [(3, 3)] n && !memF [(1, 3)] n) = memF [(4, 2)] n
      rw [Bool.eq_iff_iff]
      simp [memF, inSp]
      omega]
  rfl
theorem slogAlive_any (L : LogCalls) (w : World) : Calls Try.prog 11 #[] w fun e w' => e = .returned (.bool true) ∧ Below w.heap.size w w' := by
  have HB := Lib.hid (show Below w.heap.size w ((w.alloc (.cells #[.int .i64 1, .int .i64 3] 52)).alloc (.cells #[.int .i64 3, .int .i64 3] 52)) from ((Below.refl _ _).alloc (Nat.le_refl _) _).alloc (by simp) _)
  have h1 := ((rd_new w #[.int .i64 1, .int .i64 3] 52).below ((Below.refl _ _).alloc (Nat.le_refl _) (.cells #[.int .i64 3, .int .i64 3] 52))).mono (B' := ((w.alloc (.cells #[.int .i64 1, .int .i64 3] 52)).alloc (.cells #[.int .i64 3, .int .i64 3] 52)).heap.size) (by simp)
  have h2 := rd_new (w.alloc (.cells #[.int .i64 1, .int .i64 3] 52)) #[.int .i64 3, .int .i64 3] 52
  rw [show (w.alloc (.cells #[.int .i64 1, .int .i64 3] 52)).heap.size = w.heap.size + 1 by simp] at h2
  have k1 : SpL _ (some ⟨w.heap.size, 0, none⟩) 1 [(1, 3)] := ⟨h1, (by intro p hp; simp only [List.mem_cons, List.not_mem_nil, or_false] at hp; subst hp; unfold I64; simp only; omega), Nat.le_refl _, by simp⟩
  have k2 : SpL _ (some ⟨w.heap.size + 1, 0, none⟩) 1 [(3, 3)] := ⟨h2, (by intro p hp; simp only [List.mem_cons, List.not_mem_nil, or_false] at hp; subst hp; unfold I64; simp only; omega), Nat.le_refl _, by simp⟩
  have HD := Lib.hid (diff_call L k1 k2)
  rw [diff_ex] at HD
  clear h1 h2 k1 k2
  go_enter Try.func11, Try.ntmps11
  go_wp2_with (go_at_call 16; (with_reducible refine Calls.mono HD.out ?_); rintro e w1 ⟨B1, d1, rfl, r1, hb1⟩
               have H1 := Lib.hid r1
               have HB1 := Lib.hid (HB.out.trans (hb1.mono HB.out.size))
               have k : MvL (w1.alloc (.cells (mvs exA).toArray 54)) (some ⟨w1.heap.size, 0, none⟩) 2 exA := ⟨rd_new w1 (mvs exA).toArray 54, (by unfold exA; intro p hp; simp only [List.mem_cons, List.not_mem_nil, or_false] at hp; rcases hp with rfl | rfl <;> (unfold Mv.ok I64; simp only; omega)), Nat.le_refl _, by decide⟩
               have HS := Lib.hid (jsame_call (r1.later ((Below.refl _ _).alloc (Nat.le_refl _) (.cells (mvs exA).toArray 54))) k)
               have HB2 := Lib.hid (HB1.out.alloc HB1.out.size (.cells (mvs exA).toArray 54))
               rw [decide_eq_true rfl] at HS
               clear r1 hb1 k HB)
  go_wp2_with (go_at_call 15; refine Calls.mono HS.out ?_; rintro e w2 ⟨rfl, hb2⟩)
  go_ret
  exact ⟨rfl, HB2.out.trans (hb2.mono HB2.out.size)⟩
theorem rep_nil : repL (repF [] []) = [] ∧ repC (repF [] []) = 0 := ⟨canon_of rfl, rfl⟩
theorem slogNames_any (L : LogCalls) (w : World) : Calls Try.prog 3 #[] w fun e w' => e = .returned (.bool true) ∧ Below w.heap.size w w' := by
  have HR := Lib.hid (fun W => rep_call (w := W) L SpL.nil MvL.nil)
  rw [rep_nil.1, rep_nil.2] at HR
  have HC := Lib.hid (fun W => cond_call (w := W) L SpL.nil)
  rw [diff_nil (b := []) rfl] at HC
  go_enter Try.func3, Try.ntmps3
  go_wp2_with (first
    | (go_at_call 10; refine Calls.mono (HR.out _) ?_; rintro e w1 ⟨B1, d1, rfl, r1, hb1⟩; have HB1 := Lib.hid hb1; clear r1 hb1 HR)
    | (go_at_call 11; refine Calls.mono (slogAlive_any L _) ?_; rintro e w2 ⟨rfl, hb2⟩; have HB2 := Lib.hid (below_next HB1.out hb2); clear hb2)
    | (go_at_call 12; refine Calls.mono (HC.out _) ?_; rintro e w3 ⟨B3, d3, rfl, r3, hb3⟩; have HB3 := Lib.hid (below_next HB2.out hb3); clear r3 hb3 HC))
  go_ret
  exact ⟨rfl, HB3.out⟩
set_option maxHeartbeats 1000000 in
theorem slogDiffs_any (L : LogCalls) (w : World) (A0 : Option Addr) (c0 : Nat) (l0 : List Sp) (hR0 : Rd w w.heap.size A0 (spc l0)) (hO0 : SpOk l0) (hc0 : l0.length ≤ c0) (_hN0 : A0 = none → c0 = 0) (hL0 : l0.length * 16 ≤ 140737488351232)
    (A1 : Option Addr) (c1 : Nat) (l1 : List Sp) (hR1 : Rd w w.heap.size A1 (spc l1)) (hO1 : SpOk l1) (hc1 : l1.length ≤ c1) (_hN1 : A1 = none → c1 = 0) (hL1 : l1.length * 16 ≤ 140737488351232) :
    Calls Try.prog 5 #[.slice A0 l0.length c0, .slice A1 l1.length c1] w fun e w' => e = .returned (.bool true) ∧ Below w.heap.size w w' := by
  have H0 := Lib.hid (SpL.mk hR0 hO0 hc0 (by omega))
  have H1 := Lib.hid (SpL.mk hR1 hO1 hc1 (by omega))
  clear hR0 hO0 hc0 hL0 hR1 hO1 hc1 hL1
  go_enter Try.func5, Try.ntmps5
  go_wp2_with (go_at_call 11; refine Calls.mono (slogAlive_any L _) ?_; rintro e w1 ⟨rfl, hb1⟩)
  have k0 := H0.out.later hb1
  have k1 := H1.out.later hb1
  go_wp2_with (go_at_call 16; refine Calls.mono (diff_call L k0 k1) ?_; rintro e w2 ⟨B2, d2, rfl, r2, hb2⟩)
  have t2 := below_next hb1 hb2
  go_wp2_with (go_at_call 17; refine Calls.mono (rdiff_call (k0.later hb2) (k1.later hb2)) ?_; rintro e w3 ⟨B3, d3, rfl, r3, hb3⟩)
  have t3 := below_next t2 hb3
  have hs := jsame_call (r2.later hb3) r3
  rw [decide_eq_true rfl] at hs
  have HS := Lib.hid hs
  clear hs
  go_wp2_with (go_at_call 15; refine Calls.mono HS.out ?_; rintro e w4 ⟨rfl, hb4⟩)
  have t4 := below_next t3 hb4
  clear HS
  have k1 := H1.out.later t4
  go_wp2_with (go_at_call 12; refine Calls.mono (cond_call L k1) ?_; rintro e w5 ⟨B5, d5, rfl, r5, hb5⟩)
  have t5 := below_next t4 hb5
  have HD5 := Lib.hid (rdiff_call SpL.nil (k1.later hb5))
  go_wp2_with (go_at_call 17; refine Calls.mono HD5.out ?_; rintro e w6 ⟨B6, d6, rfl, r6, hb6⟩)
  have t6 := below_next t5 hb6
  have hs := jsame_call (r5.later hb6) r6
  rw [decide_eq_true rfl] at hs
  have HS := Lib.hid hs
  clear hs
  go_wp2_with (go_at_call 15; refine Calls.mono HS.out ?_; rintro e w7 ⟨rfl, hb7⟩)
  have t7 := below_next t6 hb7
  go_ret
  exact ⟨rfl, t7⟩
/-- append of a whole list of moves, nil or not. -/
theorem app_moves {ops : Array Oper} {rest : List Oper} {o : Oper} {a : Act} {w : World} {Q : Exit → Act → World → Prop} (hgd : o.guard = none) (s x : Nat)
    (ho : o.op = .call { callee := .builtin .append, args := #[.tmp s, .tmp x], argTypes := #[27, 27] })
    (base : Nat) (v : Value) (l0 : List Mv) (hs : a.eval (.tmp s) = v) (hown : OwnM w base v l0) (A : Option Addr) (c : Nat) (l : List Mv)
    (hx : a.eval (.tmp x) = .slice A l.length c) (hr : Rd w w.heap.size A (mvs l)) (hN : A = none → c = 0) (hbase : base ≤ w.heap.size) (hR : (l0.length + l.length) * 24 ≤ 140737488355328)
    (h : ∀ v' w', OwnM w' base v' (l0 ++ l) → w.grownBy w' v.ownBlock → wpList Try.prog ops Q rest (a.put o.dst v') w') :
    wpList Try.prog ops Q (o :: rest) a w := by
  obtain ⟨i0, hi0, hz0, hz1, hz2⟩ := info_parts infoMv
  have hcs : (Value.agg zmv.cs.toArray).cells.size = 3 := rfl
  rcases A with _ | ad
  · have hl : l = [] := by
      rcases l with _ | ⟨y, r⟩
      · rfl
      · obtain ⟨b, off, e, _⟩ := hr (by rw [mvs_len]; simp)
        cases e
    subst hl
    rw [hN rfl] at hx
    refine wpList_append_own_none hgd (.tmp s) (.tmp x) _ ho base 54 i0 3 Try.underlying27 hi0 v l0.length (mvs l0) hs hown hx ?_
    exact h v w (by rw [List.append_nil]; exact hown) (World.grownBy.refl w _)
  · refine wpList_append_own w hgd (.tmp s) (.tmp x) _ ho base 54 i0 _ 3 24 Try.underlying27 hi0 hz0 hz1 hz2 hcs (by omega) v l0.length (mvs l0) hs hown
      ad l.length c (mvs l) hx (mvs_len l) (fun j u hu => ?_) (mvs_one l) (by simp only [maxLen]; omega) hR hbase ?_
    · obtain ⟨b, off, e, _, hc⟩ := hr (by have := (List.getElem?_eq_some_iff.1 hu).1; omega)
      simp only [Option.some.injEq] at e
      subst e
      rw [addr_plain]
      exact hc j u hu
    · intro v' w' h1 h2 _
      refine h v' w' ?_ h2
      show w'.ownsRow base 54 3 v' (l0 ++ l).length (mvs (l0 ++ l))
      rw [List.length_append, show mvs (l0 ++ l) = mvs l0 ++ mvs l by simp [mvs]]
      exact h1
set_option maxHeartbeats 1000000 in
theorem slogReplays_any (L : LogCalls) (w : World) (A0 : Option Addr) (c0 : Nat) (l0 : List Sp) (hR0 : Rd w w.heap.size A0 (spc l0)) (hO0 : SpOk l0) (hc0 : l0.length ≤ c0) (hN0 : A0 = none → c0 = 0) (hL0 : l0.length * 16 ≤ 140737488351232)
    (A1 : Option Addr) (c1 : Nat) (l1 : List Mv) (hR1 : Rd w w.heap.size A1 (mvs l1)) (hO1 : MvOk l1) (hc1 : l1.length ≤ c1) (hN1 : A1 = none → c1 = 0) (_hL1 : l1.length * 24 ≤ 140737488351232) :
    Calls Try.prog 4 #[.slice A0 l0.length c0, .slice A1 l1.length c1] w fun e w' => e = .returned (.bool true) ∧ Below w.heap.size w w' := by
  by_cases h2 : l1.length ≤ 200
  · have h2i : ¬ (200 : Int) < l1.length := by omega
    have H0 := Lib.hid (SpL.mk hR0 hO0 hc0 (by omega))
    have H1 := Lib.hid (MvL.mk hR1 hO1 hc1 (by omega))
    have HN := Lib.hid (And.intro hN0 hN1)
    have HL := Lib.hid (And.intro hL0 h2)
    clear hR0 hO0 hc0 hL0 hR1 hO1 hc1 hN0 hN1 h2
    go_enter Try.func4, Try.ntmps4
    go_wp2_with fail
    refine Calls.mono (slogAlive_any L _) ?_
    rintro e w1 ⟨rfl, hb1⟩
    have k0 := Lib.hid (H0.out.later hb1)
    have HE1 := Lib.hid ((Below.refl w1.heap.size w1).alloc (Nat.le_refl _) (.cells #[] 52))
    go_wp2_with (first
      | (at_builtin; refine app_spans rfl 15 16 rfl w1.heap.size _ [] rfl (own_empty w1 52 2) A0 c0 l0 rfl (k0.out.later HE1.out).rd HN.out.1 HE1.out.size (by have := HL.out; simp; omega) ?_; intro v2 w2 ho2 hg2
         have HB2 := Lib.hid (below_own HE1.out (own_empty w1 52 2) (Nat.le_refl _) HE1.out.size hg2)
         have HO2 := Lib.hid ho2
         have HE2 := Lib.hid ((Below.refl w2.heap.size w2).alloc (Nat.le_refl _) (.cells #[] 54))
         have k1 := Lib.hid (H1.out.later (below_next hb1 HB2.out))
         clear ho2 hg2)
      | (at_builtin; refine app_moves rfl 20 21 rfl w2.heap.size _ [] rfl (own_empty w2 54 3) A1 c1 l1 rfl (k1.out.later HE2.out).rd HN.out.2 HE2.out.size (by have := HL.out; simp; omega) ?_; intro v3 w3 ho3 hg3
         have HB3 := Lib.hid (below_own HE2.out (own_empty w2 54 3) (Nat.le_refl _) HE2.out.size hg3)
         have HO3 := Lib.hid ho3
         clear ho3 hg3))
    obtain ⟨B2, d2, rfl, r2, q2⟩ := own_rd HO2.out
    obtain ⟨B3, d3, rfl, r3, q3⟩ := own_rd HO3.out
    simp only [List.nil_append] at r2 r3 q2 q3
    have t1 := below_next hb1 HB2.out
    have t3 := below_next t1 HB3.out
    have k2 : SpL w3 B2 d2 l0 := (⟨r2, H0.out.ok, q2, H0.out.len⟩ : SpL w2 B2 d2 l0).later HB3.out
    have k3 : MvL w3 B3 d3 l1 := ⟨r3, H1.out.ok, q3, H1.out.len⟩
    clear HB2 HB3 HO2 HO3 HE1 HE2 k0 k1 r2 r3 q2 q3 hb1 t1 HN HL
    simp only [List.nil_append]
    refine Calls.mono (rep_call L k2 k3) ?_
    rintro e w4 ⟨B4, d4, rfl, r4, hb4⟩
    have t4 := below_next t3 hb4
    have k0 := H0.out.later t4
    have k1 := H1.out.later t4
    go_wp2_with fail
    refine Calls.mono (rrep_call k0 k1) ?_
    rintro e w5 ⟨B5, d5, rfl, r5, hb5⟩
    have t5 := below_next t4 hb5
    have hs := ssame_call (r4.later hb5) r5
    rw [decide_eq_true rfl] at hs
    have HS := Lib.hid hs
    clear hs
    go_wp2_with fail
    refine Calls.mono HS.out ?_
    rintro e w6 ⟨rfl, hb6⟩
    have t6 := below_next t5 hb6
    have hs := ssame_call (k2.later (below_next (below_next hb4 hb5) hb6)) (H0.out.later t6)
    rw [decide_eq_true rfl] at hs
    have HS := Lib.hid hs
    clear hs
    go_wp2_with fail
    refine Calls.mono HS.out ?_
    rintro e w7 ⟨rfl, hb7⟩
    go_wp2_with fail
    go_ret
    exact ⟨by simp, below_next t6 hb7⟩
  · have h2i : (200 : Int) < l1.length := by omega
    clear hR0 hO0 hc0 hL0 hR1 hO1 hc1 hN0 hN1 h2
    go_enter Try.func4, Try.ntmps4
    go_wp2_with (go_at_call 11; refine Calls.mono (slogAlive_any L _) ?_; rintro e w1 ⟨rfl, hb1⟩)
    go_ret
    exact ⟨rfl, hb1⟩
end Go.Proofs.Ytklccgmhllpjkaa
